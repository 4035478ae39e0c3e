/- The walks over Tick, Rank and above. -/
import Derived.Test.YtjpeefibdpjfaabSc
import Derived.Test.YtjpeefibdpjfaabSi
namespace Go.Proofs.Ytjpeefibdpjfaab
open Go.RowKit
set_option linter.unusedVariables false

/-- Is no count of a greater than b's? -/
def leB (a b : List Int) : Bool := allB (fun x => decide (x.2.1 ≤ x.2.2)) a b

theorem getD_far (l : List Int) (k : Nat) (h : l.length ≤ k) : l.getD k 0 = 0 := by simp [h]

theorem allB_iff {P : Nat × Int × Int → Bool} {a b : List Int} : allB P a b = true ↔ ∀ k, k < max a.length b.length → P (k, a.getD k 0, b.getD k 0) = true := by
  unfold allB upto
  rw [List.all_eq_true]
  constructor
  · intro h k hk
    exact h _ (List.mem_map.2 ⟨k, List.mem_range.2 hk, rfl⟩)
  · intro h x hx
    obtain ⟨k, hk, rfl⟩ := List.mem_map.1 hx
    exact h k (List.mem_range.1 hk)

theorem leB_iff {a b : List Int} : leB a b = true ↔ ∀ k, a.getD k 0 ≤ b.getD k 0 := by
  unfold leB
  rw [allB_iff]
  constructor
  · intro h k
    by_cases hk : k < max a.length b.length
    · exact of_decide_eq_true (h k hk)
    · rw [getD_far a k (by omega), getD_far b k (by omega)]
      exact Int.le_refl _
  · intro h k _
    exact decide_eq_true (h k)

theorem geB_eq (a b : List Int) : allB (fun x => decide (x.2.2 ≤ x.2.1)) a b = leB b a := by
  rw [Bool.eq_iff_iff, leB_iff, allB_iff]
  constructor
  · intro h k
    by_cases hk : k < max a.length b.length
    · exact of_decide_eq_true (h k hk)
    · rw [getD_far a k (by omega), getD_far b k (by omega)]
      exact Int.le_refl _
  · intro h k _
    exact decide_eq_true (h k)

/-- How a stamp stands to another one. -/
def rankN (le ge : Bool) : Nat := if le then (if ge then 0 else 1) else (if ge then 2 else 3)
def rankZ (a b : List Int) : Nat := rankN (leB a b) (leB b a)

set_option maxRecDepth 1000000 in
set_option maxHeartbeats 1000000 in
theorem rank_any (v u : Value) (a b : List Int) (w : World) (ha : RI w v a) (hb : RI w u b) (hna : a.length ≤ 1000000) (hnb : b.length ≤ 1000000) :
    Calls Try.prog 11 #[v, u] w fun e w' => e = .returned (.int .i64 (rankZ a b : Nat)) ∧ Below w.heap.size w w' := by
  have H1 : Hid _ := all_le v u a b w ha hb hna hnb
  have H2 : Hid (∀ w1, Below w.heap.size w w1 → _) := fun w1 h => all_ge v u a b w1 (ha.later h) (hb.later h) hna hnb
  rw [geB_eq] at H2
  change Hid (Calls Try.prog 17 _ w fun e w' => e = .returned (.bool (leB a b)) ∧ _) at H1
  unfold rankZ
  obtain ⟨xa, xc, rfl, _⟩ := ha
  obtain ⟨ya, yc, rfl, _⟩ := hb
  generalize leB a b = p at *
  generalize leB b a = q at *
  generalize a.length = na at *
  generalize b.length = nb at *
  cases p
  all_goals cases q
  all_goals
    go_enter Try.func11, Try.ntmps11
    go_wp2_with fail
    refine Calls.mono H1.out ?_
    rintro e w1 ⟨rfl, hb1⟩
    have HB1 : Hid _ := hb1
    clear hb1
    go_wp2_with fail
    refine Calls.mono (H2.out w1 HB1.out) ?_
    rintro e w2 ⟨rfl, hb2⟩
    have HB2 : Hid (Below w.heap.size w w2) := HB1.out.trans (hb2.mono HB1.out.size)
    clear hb2
    go_wp2_with fail
    go_ret
    exact ⟨rfl, HB2.out⟩

theorem leB_bad {a b : List Int} {k : Nat} (h : b.getD k 0 < a.getD k 0) : leB a b = false := by
  cases hc : leB a b with
  | false => rfl
  | true => have := leB_iff.1 hc k; omega

theorem leB_yes {a b : List Int} {n : Nat} (hn : a.length ≤ n) (hn' : b.length ≤ n) (h : ∀ k, k < n → a.getD k 0 ≤ b.getD k 0) : leB a b = true := by
  rw [leB_iff]
  intro k
  by_cases hk : k < n
  · exact h k hk
  · rw [getD_far a k (by omega), getD_far b k (by omega)]
    exact Int.le_refl _



/-- What Tick answers. -/
def canT (l : List Int) (i : Int) : Bool := okS l && decide (0 ≤ i ∧ i < (l.length : Int)) && decide (l.getD i.toNat 0 ≠ 1099511627776)
def tickL (l : List Int) (i : Int) : List Int := if canT l i then l.set i.toNat (l.getD i.toNat 0 + 1) else []
def tickE (l : List Int) (i : Int) : Nat := if canT l i then 0 else 2

theorem canT_iff {l : List Int} {i : Int} : canT l i = true ↔ okS l = true ∧ (0 ≤ i ∧ i < (l.length : Int)) ∧ l.getD i.toNat 0 ≠ 1099511627776 := by
  unfold canT
  rw [Bool.and_eq_true, Bool.and_eq_true, decide_eq_true_iff, decide_eq_true_iff, and_assoc]

theorem okS_at {l : List Int} (h : okS l = true) {k : Nat} (hk : k < l.length) : 0 ≤ l.getD k 0 ∧ l.getD k 0 ≤ 1099511627776 := by
  have := List.all_eq_true.1 (okS_all h) l[k] (List.getElem_mem hk)
  rw [show l.getD k 0 = l[k] by simp [hk]]
  exact of_decide_eq_true this

/-- What a list with an error is, as a value. -/
def TickC (l : List Int) (E : Nat) (B : Nat) (w : World) (e : Ending) (w' : World) : Prop :=
  ∃ v c, e = .returned (.tuple #[.slice v l.length c, .int .i64 (E : Nat)]) ∧ RI w' (.slice v l.length c) l ∧ Below B w w'

set_option maxRecDepth 1000000 in
set_option maxHeartbeats 1000000 in
theorem tick_any (v : Value) (l : List Int) (i : Int) (w : World) (hv : RI w v l) (hn : l.length ≤ 1000000) :
    Calls Try.prog 10 #[v, .int .i64 i] w fun e w' => TickC (tickL l i) (tickE l i) w.heap.size w e w' := by
  have HV : Hid (RI w v l) := hv
  skip
  obtain ⟨L, HLL⟩ : ∃ L, Hid (L = tickL l i) := ⟨_, rfl⟩
  obtain ⟨E, HE⟩ : ∃ E, Hid (E = tickE l i) := ⟨_, rfl⟩
  rw [← HLL.out, ← HE.out]
  have HNO : Hid (canT l i = false → L = [] ∧ E = 2) := by
    show _ → _
    intro h
    rw [HLL.out, HE.out]
    unfold tickL tickE
    rw [h]
    exact ⟨rfl, rfl⟩
  have HYS : Hid (canT l i = true → L = l.set i.toNat (l.getD i.toNat 0 + 1) ∧ E = 0) := by
    show _ → _
    intro h
    rw [HLL.out, HE.out]
    unfold tickL tickE
    rw [if_pos h, if_pos h]
    exact ⟨rfl, rfl⟩
  clear HLL HE
  obtain ⟨a, cap, rfl, hc, _, hr⟩ := hv
  by_cases hok : okS l = true
  · have hlen := okS_len hok
    have HAT : Hid (∀ k, k < l.length → 0 ≤ l.getD k 0 ∧ l.getD k 0 ≤ 1099511627776) := fun k hk => okS_at hok hk
    have HCK : Hid (Calls Try.prog 7 #[.slice a l.length cap] w fun e w' => e = .returned (.int .i64 0) ∧ w' = w) := by have := check_any _ l w HV.out hn; unfold chkE at this; rw [if_pos hok] at this; exact this
    by_cases h0 : i < 0
    · obtain ⟨rfl, rfl⟩ := HNO.out (by cases h : canT l i with | false => rfl | true => have := (canT_iff.1 h).2.1; omega)
      clear HNO HYS HAT hok hr HV
      go_enter Try.func10, Try.ntmps10
      go_wp2_with fail
      refine Calls.mono HCK.out ?_
      rintro e w1 ⟨rfl, rfl⟩
      go_wp2_with fail
      go_ret2
      exact ⟨none, 0, rfl, RI.nil _, Below.refl _ _⟩
    · obtain ⟨k, rfl⟩ : ∃ k : Nat, i = (k : Int) := ⟨i.toNat, by omega⟩
      rw [Int.toNat_natCast] at HYS
      by_cases h1 : k < l.length
      · obtain ⟨b, off, rfl, hc1⟩ := hr k h1
        have hat := HAT.out k h1
        by_cases h2 : l.getD k 0 = 1099511627776
        · obtain ⟨rfl, rfl⟩ := HNO.out (by cases h : canT l (k : Int) with | false => rfl | true => exact absurd h2 (by have := (canT_iff.1 h).2.2; rwa [Int.toNat_natCast] at this))
          rw [h2] at hc1
          clear HNO HYS HAT hok hr HV h2 hat
          go_enter Try.func10, Try.ntmps10
          go_wp2_with fail
          refine Calls.mono HCK.out ?_
          rintro e w1 ⟨rfl, rfl⟩
          go_wp2_with fail
          go_ret2
          exact ⟨none, 0, rfl, RI.nil _, Below.refl _ _⟩
        · obtain ⟨hL, hE⟩ := HYS.out (canT_iff.2 ⟨hok, by omega, by rw [Int.toNat_natCast]; exact h2⟩)
          have HLs : Hid (L = l.set k (l.getD k 0 + 1)) := hL
          have HLn : Hid (L.length = l.length) := by show _ = _; rw [hL, List.length_set]
          subst hE
          clear hL HNO HYS HAT hok hr
          obtain ⟨z, HZ⟩ : ∃ z, Hid (z = l.getD k 0) := ⟨_, rfl⟩
          rw [← HZ.out] at hc1 h2 hat HLs
          have hzq : (z == (1099511627776 : Int)) = false := by simpa using h2
          have HCL : Hid _ := clone_any _ l w HV.out (by omega) (by omega)
          clear HV
          go_enter Try.func10, Try.ntmps10
          go_wp2_with fail
          refine Calls.mono HCK.out ?_
          rintro e w1 ⟨rfl, rfl⟩
          go_wp2_with fail
          refine Calls.mono HCL.out ?_
          rintro e w2 ⟨g2, c2, rfl, ho, hb⟩
          have HO : Hid (OI w1.heap.size w2 g2 l.length c2 l) := ho
          have HB : Hid (Below w1.heap.size w1 w2) := hb
          clear ho hb HCL
          have co := HO.out.cell k h1
          have fo := HO.out.frozen k
          rw [← HZ.out] at co
          have HF : Hid (RI (w2.setCell ⟨g2, k, none⟩ (.int .i64 (z + 1))) (.slice (some ⟨g2, 0, none⟩) L.length c2) L) := by
            show RI _ _ _
            rw [HLs.out, List.length_set]
            exact HO.out.ri.2.set k h1 (z + 1)
          have HB2 : Hid (Below w1.heap.size w1 (w2.setCell ⟨g2, k, none⟩ (.int .i64 (z + 1)))) := HB.out.setCell (p := ⟨g2, k, none⟩) HO.out.lt.1 _
          rw [HLn.out] at HF
          clear HO HB HLs HZ
          go_wp2_with fail
          go_ret2
          refine ⟨some ⟨g2, 0, none⟩, c2, ?_, ?_, HB2.out⟩
          · rw [HLn.out]; rfl
          · rw [HLn.out]; exact HF.out

      · obtain ⟨rfl, rfl⟩ := HNO.out (by cases h : canT l (k : Int) with | false => rfl | true => have := (canT_iff.1 h).2.1; omega)
        clear HNO HYS HAT hok hr HV
        go_enter Try.func10, Try.ntmps10
        go_wp2_with fail
        refine Calls.mono HCK.out ?_
        rintro e w1 ⟨rfl, rfl⟩
        go_wp2_with fail
        go_ret2
        exact ⟨none, 0, rfl, RI.nil _, Below.refl _ _⟩
  · have hok2 : okS l = false := by simpa using hok
    obtain ⟨rfl, rfl⟩ := HNO.out (by cases h : canT l i with | false => rfl | true => exact absurd (canT_iff.1 h).1 hok)
    have HCK : Hid (Calls Try.prog 7 #[.slice a l.length cap] w fun e w' => e = .returned (.int .i64 2) ∧ w' = w) := by have := check_any _ l w HV.out hn; unfold chkE at this; rw [if_neg hok] at this; exact this
    clear HNO HYS hok hok2 hr HV
    go_enter Try.func10, Try.ntmps10
    go_wp2_with fail
    refine Calls.mono HCK.out ?_
    rintro e w1 ⟨rfl, rfl⟩
    go_wp2_with fail
    go_ret2
    exact ⟨none, 0, rfl, RI.nil _, Below.refl _ _⟩


end Go.Proofs.Ytjpeefibdpjfaab
