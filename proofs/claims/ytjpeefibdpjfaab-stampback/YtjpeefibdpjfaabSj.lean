/- What came in: how it reads. Plain facts on ranks, joins and ticks. -/
import Derived.Test.YtjpeefibdpjfaabWl
import Derived.Test.YtjpeefibdpjfaabSh
namespace Go.Proofs.Ytjpeefibdpjfaab
open Go.RowKit Go.ChangeShapes Go.WideShapes Go.ChangeAt
set_option linter.unusedVariables false

section
variable {H : Type} {enc : TypeId × Value → H} {w : World} {base : Nat} {spare : Nat → Bool} {held : Bool}

theorem open_i64n {fuel : Nat} {cs : List Value} {x : DataW H × List MemPlace} (h : DataW.trod enc Try.prog w base spare held fuel 23 cs = some x) : ∃ v l, cs = [v] ∧ RI w v l ∧ ∀ k c, v = .slice none k c → c = 0 := by
  rcases open_ints Try.underlying23 Try.underlying3 (by kernel_rfl) h with ⟨hcs, _⟩ | ⟨x, l, c, zs, hcs, _, hl, hm, hz, _, hcell, hwz⟩
  · exact ⟨_, [], hcs, RI.nil w, fun k c h => by cases h; rfl⟩
  · have hlz : l ≤ zs.length := by rw [hz]; split <;> omega
    have hlen : (zs.take l).length = l := by simp; omega
    refine ⟨_, zs.take l, hcs, ⟨some x, c, by rw [hlen], by rw [hlen]; exact hl, hm, fun i hi => ?_⟩, fun k c h => by cases h⟩
    rw [hlen] at hi
    obtain ⟨b, off, rfl, hcc⟩ := ints_at hcell (by omega)
    refine ⟨b, off, rfl, ?_⟩
    rw [hcc i (by omega)]
    congr 2
    simp only [List.getD_eq_getElem?_getD, List.getElem?_take]
    rw [if_pos hi]
end

theorem leB_refl (a : List Int) : leB a a = true := leB_iff.2 fun k => Int.le_refl _
theorem leB_trans {a b c : List Int} (h : leB a b = true) (k : leB b c = true) : leB a c = true := leB_iff.2 fun i => Int.le_trans (leB_iff.1 h i) (leB_iff.1 k i)

theorem rank_self (a : List Int) : rankZ a a = 0 := by
  unfold rankZ
  rw [leB_refl]
  rfl

theorem rank_0 {a b : List Int} (h : rankZ a b = 0) : leB a b = true ∧ leB b a = true := by
  unfold rankZ rankN at h
  cases h1 : leB a b <;> cases h2 : leB b a <;> simp [h1, h2] at h ⊢

theorem rank_1 {a b : List Int} : rankZ a b = 1 ↔ leB a b = true ∧ leB b a = false := by
  unfold rankZ rankN
  cases h1 : leB a b <;> cases h2 : leB b a <;> simp

theorem rank_lt (a b : List Int) : rankZ a b < 4 := by
  unfold rankZ rankN
  cases leB a b <;> cases leB b a <;> simp

/-- A rank turned round. -/
theorem rank_turn (a b : List Int) : (rankZ a b = 0 ∧ rankZ b a = 0) ∨ (rankZ a b = 1 ∧ rankZ b a = 2) ∨ (rankZ a b = 2 ∧ rankZ b a = 1) ∨ (rankZ a b = 3 ∧ rankZ b a = 3) := by
  unfold rankZ rankN
  cases leB a b <;> cases leB b a <;> simp

theorem rank_same {a b : List Int} (c : List Int) (h : rankZ a b = 0) : rankZ b c = rankZ a c := by
  obtain ⟨h1, h2⟩ := rank_0 h
  have e1 : leB b c = leB a c := Bool.eq_iff_iff.2 ⟨fun k => leB_trans h1 k, fun k => leB_trans h2 k⟩
  have e2 : leB c b = leB c a := Bool.eq_iff_iff.2 ⟨fun k => leB_trans k h2, fun k => leB_trans k h1⟩
  unfold rankZ
  rw [e1, e2]

theorem rank_before {a b c : List Int} (h : rankZ a b = 1) (k : rankZ b c = 1) : rankZ a c = 1 := by
  rw [rank_1] at *
  refine ⟨leB_trans h.1 k.1, ?_⟩
  cases hc : leB c a with
  | false => rfl
  | true => have := leB_trans k.1 hc; rw [h.2] at this; exact this.symm

/-- Is it behind, or the same? -/
theorem rank_above (x y : List Int) : (rankZ x y == 2 || rankZ x y == 0) = leB y x := by
  unfold rankZ rankN
  cases leB x y <;> cases leB y x <;> rfl

theorem join_at (a b : List Int) (k : Nat) : (joinL a b).getD k 0 = mxI (a.getD k 0) (b.getD k 0) := by
  by_cases hk : k < max a.length b.length
  · simp [joinL, upto, hk, mx3, pf]
  · rw [getD_far _ k (by rw [join_len]; omega), getD_far a k (by omega), getD_far b k (by omega)]
    rfl

theorem mxI_l (x y : Int) : x ≤ mxI x y := by unfold mxI; split <;> omega
theorem mxI_r (x y : Int) : y ≤ mxI x y := by unfold mxI; split <;> omega
theorem mxI_comm (x y : Int) : mxI x y = mxI y x := by unfold mxI; split <;> split <;> omega
theorem mxI_le {x y z : Int} (h : x ≤ z) (k : y ≤ z) : mxI x y ≤ z := by unfold mxI; split <;> omega

theorem join_l (a b : List Int) : leB a (joinL a b) = true := leB_iff.2 fun k => by rw [join_at]; exact mxI_l _ _
theorem join_r (a b : List Int) : leB b (joinL a b) = true := leB_iff.2 fun k => by rw [join_at]; exact mxI_r _ _
theorem join_least {a b c : List Int} (h : leB a c = true) (k : leB b c = true) : leB (joinL a b) c = true := leB_iff.2 fun i => by rw [join_at]; exact mxI_le (leB_iff.1 h i) (leB_iff.1 k i)

theorem list_eq {l m : List Int} (h : l.length = m.length) (k : ∀ i, l.getD i 0 = m.getD i 0) : l = m := by
  refine List.ext_getElem h fun i h1 h2 => ?_
  have := k i
  simpa [h1, h2] using this

theorem join_comm (a b : List Int) : joinL b a = joinL a b := list_eq (by rw [join_len, join_len]; omega) fun i => by rw [join_at, join_at, mxI_comm]
theorem join_self (a : List Int) : joinL a a = a := list_eq (by rw [join_len]; omega) fun i => by rw [join_at]; unfold mxI; split <;> rfl

theorem set_at (l : List Int) (i k : Nat) (x : Int) (hi : i < l.length) : (l.set i x).getD k 0 = if k = i then x else l.getD k 0 := by
  by_cases h : k = i
  · subst h; simp [hi]
  · rw [if_neg h]
    have : i ≠ k := fun e => h e.symm
    simp [this]

theorem tick_facts {l : List Int} {i : Int} (h : canT l i = true) : rankZ l (tickL l i) = 1 ∧ nxB l (tickL l i) i = true ∧ ∀ k, k ≠ i → nxB l (tickL l i) k = false := by
  have hL : tickL l i = l.set i.toNat (l.getD i.toNat 0 + 1) := by unfold tickL; rw [if_pos h]
  obtain ⟨hok, hi, hmax⟩ := canT_iff.1 h
  obtain ⟨n, rfl⟩ : ∃ n : Nat, i = (n : Int) := ⟨i.toNat, by omega⟩
  rw [Int.toNat_natCast] at hL hmax
  have hn : n < l.length := by omega
  have hz := okS_at hok hn
  have hset := fun k => set_at l n k (l.getD n 0 + 1) hn
  rw [← hL] at hset
  have hlen : (tickL l (n : Int)).length = l.length := by rw [hL, List.length_set]
  generalize tickL l (n : Int) = s at *
  refine ⟨?_, ?_, ?_⟩
  · rw [rank_1]
    constructor
    · rw [leB_iff]
      intro k
      rw [hset k]
      split
      · rename_i e; subst e; omega
      · exact Int.le_refl _
    · apply leB_bad (k := n)
      rw [hset n, if_pos rfl]
      omega
  · unfold nxB
    rw [atZ_nat, atZ_nat, hset n, if_pos rfl]
    have e1 : (l.getD n 0 == 9223372036854775807) = false := by simp only [beq_eq_false_iff_ne]; omega
    have e2 : (l.getD n 0 + 1 == wrap64 (l.getD n 0 + 1)) = true := by
      rw [beq_iff_eq]
      unfold wrap64
      omega
    have e3 : othB s l (n : Int) = true := oth_yes fun k hk => by
      by_cases hkn : k = n
      · left; omega
      · right; rw [hset k, if_neg hkn]; exact Int.le_refl _
    rw [e1, e2, e3]
    rfl
  · intro k hk
    have hsame : atZ s k = atZ l k := by
      unfold atZ
      rw [hlen]
      split
      · rename_i hr
        obtain ⟨m, rfl⟩ : ∃ m : Nat, k = (m : Int) := ⟨k.toNat, by omega⟩
        rw [Int.toNat_natCast, hset m, if_neg (by omega)]
      · rfl
    have hb : 0 ≤ atZ l k ∧ atZ l k ≤ 1099511627776 := by
      unfold atZ
      split
      · rename_i hr; exact okS_at hok (by omega)
      · omega
    unfold nxB
    rw [hsame]
    have e2 : (atZ l k == wrap64 (atZ l k + 1)) = false := by
      simp only [beq_eq_false_iff_ne]
      unfold wrap64
      omega
    rw [e2]
    simp
end Go.Proofs.Ytjpeefibdpjfaab
