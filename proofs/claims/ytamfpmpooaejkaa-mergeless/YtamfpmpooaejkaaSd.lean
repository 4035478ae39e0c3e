/- The walks over Tick, Rank and above. -/
import Derived.Test.YtamfpmpooaejkaaSc
import Derived.Test.YtamfpmpooaejkaaSi
namespace Go.Proofs.Ytamfpmpooaejkaa
open Go.RowKit
set_option linter.unusedVariables false

/-- Is no count of a greater than b's? -/
def leB (a b : List Int) : Bool := allB (fun x => decide (x.2.1 ≤ x.2.2)) a b

theorem getD_far (l : List Int) (k : Nat) (h : l.length ≤ k) : l.getD k 0 = 0 := by simp [h]

theorem allB_iff {P : Nat × Int × Int → Bool} {a b : List Int} : allB P a b = true ↔ ∀ k, k < max a.length b.length → P (k, a.getD k 0, b.getD k 0) = true := by
  unfold allB upto
  rw [List.all_eq_true]
  constructor
  · intro h k hk
    exact h _ (List.mem_map.2 ⟨k, List.mem_range.2 hk, rfl⟩)
  · intro h x hx
    obtain ⟨k, hk, rfl⟩ := List.mem_map.1 hx
    exact h k (List.mem_range.1 hk)

theorem leB_iff {a b : List Int} : leB a b = true ↔ ∀ k, a.getD k 0 ≤ b.getD k 0 := by
  unfold leB
  rw [allB_iff]
  constructor
  · intro h k
    by_cases hk : k < max a.length b.length
    · exact of_decide_eq_true (h k hk)
    · rw [getD_far a k (by omega), getD_far b k (by omega)]
      exact Int.le_refl _
  · intro h k _
    exact decide_eq_true (h k)

theorem geB_eq (a b : List Int) : allB (fun x => decide (x.2.2 ≤ x.2.1)) a b = leB b a := by
  rw [Bool.eq_iff_iff, leB_iff, allB_iff]
  constructor
  · intro h k
    by_cases hk : k < max a.length b.length
    · exact of_decide_eq_true (h k hk)
    · rw [getD_far a k (by omega), getD_far b k (by omega)]
      exact Int.le_refl _
  · intro h k _
    exact decide_eq_true (h k)

/-- How a stamp stands to another one. -/
def rankN (le ge : Bool) : Nat := if le then (if ge then 0 else 1) else (if ge then 2 else 3)
def rankZ (a b : List Int) : Nat := rankN (leB a b) (leB b a)

set_option maxRecDepth 1000000 in
set_option maxHeartbeats 1000000 in
theorem rank_any (v u : Value) (a b : List Int) (w : World) (ha : RI w v a) (hb : RI w u b) (hna : a.length ≤ 9223372036854775807) (hnb : b.length ≤ 9223372036854775807) :
    Calls Try.prog 32 #[v, u] w fun e w' => e = .returned (.int .i64 (rankZ a b : Nat)) ∧ Below w.heap.size w w' := by
  have H1 : Hid _ := all_le v u a b w ha hb hna hnb
  have H2 : Hid (∀ w1, Below w.heap.size w w1 → _) := fun w1 h => all_ge v u a b w1 (ha.later h) (hb.later h) hna hnb
  rw [geB_eq] at H2
  change Hid (Calls Try.prog 40 _ w fun e w' => e = .returned (.bool (leB a b)) ∧ _) at H1
  unfold rankZ
  obtain ⟨xa, xc, rfl, _⟩ := ha
  obtain ⟨ya, yc, rfl, _⟩ := hb
  generalize leB a b = p at *
  generalize leB b a = q at *
  generalize a.length = na at *
  generalize b.length = nb at *
  cases p
  all_goals cases q
  all_goals
    go_enter Try.func32, Try.ntmps32
    go_wp2_with fail
    refine Calls.mono H1.out ?_
    rintro e w1 ⟨rfl, hb1⟩
    have HB1 : Hid _ := hb1
    clear hb1
    go_wp2_with fail
    refine Calls.mono (H2.out w1 HB1.out) ?_
    rintro e w2 ⟨rfl, hb2⟩
    have HB2 : Hid (Below w.heap.size w w2) := HB1.out.trans (hb2.mono HB1.out.size)
    clear hb2
    go_wp2_with fail
    go_ret
    exact ⟨rfl, HB2.out⟩

theorem leB_bad {a b : List Int} {k : Nat} (h : b.getD k 0 < a.getD k 0) : leB a b = false := by
  cases hc : leB a b with
  | false => rfl
  | true => have := leB_iff.1 hc k; omega

theorem leB_yes {a b : List Int} {n : Nat} (hn : a.length ≤ n) (hn' : b.length ≤ n) (h : ∀ k, k < n → a.getD k 0 ≤ b.getD k 0) : leB a b = true := by
  rw [leB_iff]
  intro k
  by_cases hk : k < n
  · exact h k hk
  · rw [getD_far a k (by omega), getD_far b k (by omega)]
    exact Int.le_refl _

set_option maxRecDepth 1000000 in
set_option maxHeartbeats 1000000 in
theorem above_any (v u : Value) (a b : List Int) (w : World) (ha : RI w v a) (hb : RI w u b) (hna : a.length ≤ 9223372036854775807) (hnb : b.length ≤ 9223372036854775807) :
    Calls Try.prog 43 #[v, u] w fun e w' => e = .returned (.bool (!leB a b)) ∧ w' = w := by
  have H1 : Hid (∀ k : Nat, _) := fun k : Nat => rat_any v a (k : Int) w ha hna
  have H2 : Hid (∀ k : Nat, _) := fun k : Nat => rat_any u b (k : Int) w hb hnb
  obtain ⟨R, HR⟩ : ∃ R, Hid (R = !leB a b) := ⟨_, rfl⟩
  rw [← HR.out]
  have HL : Hid (∀ k : Nat, b.getD k 0 < a.getD k 0 → leB a b = false) := fun k h => leB_bad h
  have HY : Hid (∀ n, a.length ≤ n → b.length ≤ n → (∀ k, k < n → a.getD k 0 ≤ b.getD k 0) → leB a b = true) := fun n h1 h2 h3 => leB_yes h1 h2 h3
  obtain ⟨xa, xc, rfl, _⟩ := ha
  obtain ⟨ya, yc, rfl, _⟩ := hb
  generalize a.length = na at *
  generalize b.length = nb at *
  go_enter Try.func43, Try.ntmps43
  go_wp2_with fail
  go_loopw [5] (fun iv wr => ∃ (k : Nat), k ≤ max na nb ∧ iv = .int .i64 k ∧ Hid (∀ i, i < k → a.getD i 0 ≤ b.getD i 0) ∧ wr = w) (fun iv _ => max na nb - (intOf iv).toNat)
  case atStart => exact ⟨0, Nat.zero_le _, rfl, fun i hi => by omega, rfl⟩
  case round =>
    obtain ⟨k, hk, rfl, HA, rfl⟩ := hrel
    by_cases hlt : k < na ∨ k < nb
    · have H3 : Hid _ := H1.out k
      have H4 : Hid _ := H2.out k
      rw [atZ_nat] at H3 H4
      have HL2 : Hid _ := HL.out k
      have HA2 : Hid (a.getD k 0 ≤ b.getD k 0 → ∀ i, i < k + 1 → a.getD i 0 ≤ b.getD i 0) := by
        show _ → ∀ i, _
        intro hb i hi
        by_cases hik : i = k
        · subst hik; exact hb
        · exact HA.out i (by omega)
      generalize a.getD k 0 = p at *
      generalize b.getD k 0 = q at *
      clear H1 H2 HL HA
      have hrest : ∀ hd : Bool, True := fun _ => trivial
      by_cases hpq : q < p
      · have HR2 : Hid (R = true) := by show _ = _; rw [HR.out, HL2.out hpq]; rfl
        clear HL2 HA2 HR HY
        by_cases h1 : k < na
        · clear hlt
          go_wp2_with fail
          refine Calls.mono H3.out ?_
          rintro e w1 ⟨rfl, rfl⟩
          go_wp2_with fail
          refine Calls.mono H4.out ?_
          rintro e w2 ⟨rfl, rfl⟩
          go_wp2_with fail
          go_ret
          exact ⟨by rw [HR2.out]; rfl, rfl⟩
        · have h2 : k < nb := by omega
          clear hlt
          go_wp2_with fail
          refine Calls.mono H3.out ?_
          rintro e w1 ⟨rfl, rfl⟩
          go_wp2_with fail
          refine Calls.mono H4.out ?_
          rintro e w2 ⟨rfl, rfl⟩
          go_wp2_with fail
          go_ret
          exact ⟨by rw [HR2.out]; rfl, rfl⟩
      · have HA3 : Hid _ := HA2.out (by omega)
        clear HL2 HA2
        by_cases h1 : k < na
        · clear hlt
          go_wp2_with fail
          refine Calls.mono H3.out ?_
          rintro e w1 ⟨rfl, rfl⟩
          go_wp2_with fail
          refine Calls.mono H4.out ?_
          rintro e w2 ⟨rfl, rfl⟩
          go_wp2_with fail
          go_roundw
          case rel => exact ⟨k + 1, by omega, by go_num, HA3, trivial⟩
          case measure => simp [intOf]; omega
        · have h2 : k < nb := by omega
          clear hlt
          go_wp2_with fail
          refine Calls.mono H3.out ?_
          rintro e w1 ⟨rfl, rfl⟩
          go_wp2_with fail
          refine Calls.mono H4.out ?_
          rintro e w2 ⟨rfl, rfl⟩
          go_wp2_with fail
          go_roundw
          case rel => exact ⟨k + 1, by omega, by go_num, HA3, trivial⟩
          case measure => simp [intOf]; omega
    · have HR2 : Hid (R = false) := by show _ = _; rw [HR.out, HY.out k (by omega) (by omega) HA.out]; rfl
      have h1 : ¬ k < na := fun h => hlt (.inl h)
      have h2 : ¬ k < nb := fun h => hlt (.inr h)
      clear HR HY HL H1 H2 HA hlt
      go_wp2_with fail
      go_ret
      exact ⟨by rw [HR2.out]; rfl, rfl⟩

set_option maxRecDepth 1000000 in
set_option maxHeartbeats 1000000 in
theorem rrank_any (v u : Value) (a b : List Int) (w : World) (ha : RI w v a) (hb : RI w u b) (hna : a.length ≤ 9223372036854775807) (hnb : b.length ≤ 9223372036854775807) :
    Calls Try.prog 33 #[v, u] w fun e w' => e = .returned (.int .i64 (rankZ a b : Nat)) ∧ w' = w := by
  have H1 : Hid _ := above_any v u a b w ha hb hna hnb
  have H2 : Hid _ := above_any u v b a w hb ha hnb hna
  unfold rankZ
  obtain ⟨xa, xc, rfl, _⟩ := ha
  obtain ⟨ya, yc, rfl, _⟩ := hb
  generalize leB a b = p at *
  generalize leB b a = q at *
  generalize a.length = na at *
  generalize b.length = nb at *
  cases p
  all_goals cases q
  all_goals
    go_enter Try.func33, Try.ntmps33
    go_wp2_with fail
    refine Calls.mono H1.out ?_
    rintro e w1 ⟨rfl, rfl⟩
    go_wp2_with fail
    refine Calls.mono H2.out ?_
    rintro e w2 ⟨rfl, rfl⟩
    go_wp2_with fail
    go_ret
    exact ⟨rfl, rfl⟩
end Go.Proofs.Ytamfpmpooaejkaa
