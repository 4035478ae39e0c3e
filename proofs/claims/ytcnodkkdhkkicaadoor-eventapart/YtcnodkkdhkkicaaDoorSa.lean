/- Plain facts on stamps, and the walks over At, Check, Right and few. -/
import Derived.Test.YtcnodkkdhkkicaaDoorWi
namespace Go.Proofs.YtcnodkkdhkkicaaDoor
open Go.RowKit
set_option linter.unusedVariables false

/-- The count of a branch. -/
def atZ (l : List Int) (i : Int) : Int := if 0 ≤ i ∧ i < (l.length : Int) then l.getD i.toNat 0 else 0

theorem atZ_nat (l : List Int) (k : Nat) : atZ l (k : Int) = l.getD k 0 := by
  unfold atZ
  split
  · rw [Int.toNat_natCast]
  · rename_i h
    have : l.length ≤ k := by omega
    simp [this]





/-- Is it a right stamp? -/
def okS (l : List Int) : Bool := decide (1 ≤ l.length ∧ l.length ≤ 64) && allN l
def chkE (l : List Int) : Nat := if okS l then 0 else 2

theorem okS_len {l : List Int} (h : okS l = true) : 1 ≤ l.length ∧ l.length ≤ 64 := by
  unfold okS at h
  rw [Bool.and_eq_true] at h
  exact of_decide_eq_true h.1

theorem okS_all {l : List Int} (h : okS l = true) : allN l = true := by
  unfold okS at h
  rw [Bool.and_eq_true] at h
  exact h.2

theorem okS_bad {l : List Int} {k : Nat} (hk : k < l.length) (h : ¬ (0 ≤ l.getD k 0 ∧ l.getD k 0 ≤ 1099511627776)) : okS l = false := by
  have : allN l = false := by
    unfold allN
    rw [List.all_eq_false]
    refine ⟨l[k], List.getElem_mem hk, ?_⟩
    have e : l.getD k 0 = l[k] := by simp [hk]
    rw [← e, show isN (l.getD k 0) = false from decide_eq_false h]
    decide
  unfold okS
  rw [this, Bool.and_false]

theorem okS_yes {l : List Int} (h1 : 1 ≤ l.length) (h2 : l.length ≤ 64) (h : ∀ i, i < l.length → 0 ≤ l.getD i 0 ∧ l.getD i 0 ≤ 1099511627776) : okS l = true := by
  have : allN l = true := by
    unfold allN
    rw [List.all_eq_true]
    intro z hz
    obtain ⟨i, hi, rfl⟩ := List.mem_iff_getElem.1 hz
    have := h i hi
    rw [show l.getD i 0 = l[i] by simp [hi]] at this
    exact decide_eq_true this
  unfold okS
  rw [this, Bool.and_true]
  exact decide_eq_true ⟨h1, h2⟩

theorem okS_long {l : List Int} (h : ¬ (1 ≤ l.length ∧ l.length ≤ 64)) : okS l = false := by
  unfold okS
  rw [decide_eq_false h, Bool.false_and]

set_option maxRecDepth 1000000 in
set_option maxHeartbeats 1000000 in
theorem check_any (v : Value) (l : List Int) (w : World) (hv : RI w v l) (hn : l.length ≤ 1000000) :
    Calls Tryd.prog 27 #[v] w fun e w' => e = .returned (.int .i64 (chkE l : Nat)) ∧ w' = w := by
  obtain ⟨a, cap, rfl, hc, _, hr⟩ := hv
  have HR : Hid _ := hr
  obtain ⟨E, HE⟩ : ∃ E, Hid (E = chkE l) := ⟨_, rfl⟩
  rw [← HE.out]
  clear hr
  by_cases h : 1 ≤ l.length ∧ l.length ≤ 64
  · obtain ⟨h1, h2⟩ := h
    go_enter Tryd.func27, Tryd.ntmps27
    go_wp2_with fail
    go_loopw [15] (fun iv wr => ∃ (k : Nat), k ≤ l.length ∧ iv = .int .i64 k ∧ Hid (∀ i, i < k → 0 ≤ l.getD i 0 ∧ l.getD i 0 ≤ 1099511627776) ∧ wr = w) (fun iv _ => l.length - (intOf iv).toNat)
    case atStart => exact ⟨0, Nat.zero_le _, rfl, fun i hi => by omega, rfl⟩
    case round =>
      obtain ⟨k, hk, rfl, HA, rfl⟩ := hrel
      by_cases hlt : k < l.length
      · obtain ⟨b1, o1, rfl, hc1⟩ := HR.out k hlt
        have HBD : Hid (¬ (0 ≤ l.getD k 0 ∧ l.getD k 0 ≤ 1099511627776) → chkE l = 2) := by
          show _ → _
          intro hb
          unfold chkE
          rw [okS_bad hlt hb]
          rfl
        have HA2 : Hid ((0 ≤ l.getD k 0 ∧ l.getD k 0 ≤ 1099511627776) → ∀ i, i < k + 1 → 0 ≤ l.getD i 0 ∧ l.getD i 0 ≤ 1099511627776) := by
          show _ → ∀ i, _
          intro hb i hi
          by_cases hik : i = k
          · subst hik; exact hb
          · exact HA.out i (by omega)
        obtain ⟨z, HZ⟩ : ∃ z, Hid (z = l.getD k 0) := ⟨_, rfl⟩
        rw [← HZ.out] at hc1 HA2 HBD
        by_cases h0 : z < 0
        · have HE2 : Hid (E = 2) := by show _ = _; rw [HE.out]; exact HBD.out (by omega)
          clear HA HA2 HBD HZ HE
          go_wp2_with fail
          go_ret
          exact ⟨by rw [HE2.out]; rfl, rfl⟩
        · by_cases h3 : 1099511627776 < z
          · have HE2 : Hid (E = 2) := by show _ = _; rw [HE.out]; exact HBD.out (by omega)
            clear HA HA2 HBD HZ HE
            go_wp2_with fail
            go_ret
            exact ⟨by rw [HE2.out]; rfl, rfl⟩
          · have HA3 : Hid _ := HA2.out (by omega)
            clear HA HA2 HBD HZ
            go_wp2_with fail
            go_roundw
            case rel => exact ⟨k + 1, by omega, by go_num, HA3, trivial⟩
            case measure => simp [intOf]; omega
      · have HE2 : Hid (E = 0) := by
          show _ = _
          rw [HE.out]
          unfold chkE
          rw [okS_yes h1 h2 (fun i hi => HA.out i (by omega))]
          rfl
        clear HE HA
        go_wp2_with fail
        go_ret
        exact ⟨by rw [HE2.out]; rfl, rfl⟩
  · have HE2 : Hid (E = 2) := by
      show _ = _
      rw [HE.out]
      unfold chkE
      rw [okS_long h]
      rfl
    clear HE
    by_cases h1 : l.length < 1
    · go_enter Tryd.func27, Tryd.ntmps27
      go_wp2_with fail
      go_ret
      exact ⟨by rw [HE2.out]; rfl, rfl⟩
    · have h2 : 64 < l.length := by omega
      go_enter Tryd.func27, Tryd.ntmps27
      go_wp2_with fail
      go_ret
      exact ⟨by rw [HE2.out]; rfl, rfl⟩

set_option maxRecDepth 1000000 in
set_option maxHeartbeats 1000000 in
theorem rright_any (v : Value) (l : List Int) (w : World) (hv : RI w v l) (hn : l.length ≤ 1000000) :
    Calls Tryd.prog 38 #[v] w fun e w' => e = .returned (.bool (okS l)) ∧ w' = w := by
  obtain ⟨a, cap, rfl, hc, _, hr⟩ := hv
  have HR : Hid _ := hr
  obtain ⟨E, HE⟩ : ∃ E, Hid (E = okS l) := ⟨_, rfl⟩
  rw [← HE.out]
  clear hr
  go_enter Tryd.func38, Tryd.ntmps38
  go_wp2_with fail
  go_loopw [3] (fun iv wr => ∃ (k : Nat), k ≤ l.length ∧ iv = .int .i64 k ∧ Hid (∀ i, i < k → 0 ≤ l.getD i 0 ∧ l.getD i 0 ≤ 1099511627776) ∧ wr = w) (fun iv _ => l.length - (intOf iv).toNat)
  case atStart => exact ⟨0, Nat.zero_le _, rfl, fun i hi => by omega, rfl⟩
  case round =>
    obtain ⟨k, hk, rfl, HA, rfl⟩ := hrel
    by_cases hlt : k < l.length
    · obtain ⟨b1, o1, rfl, hc1⟩ := HR.out k hlt
      have HBD : Hid (¬ (0 ≤ l.getD k 0 ∧ l.getD k 0 ≤ 1099511627776) → okS l = false) := fun hb => okS_bad hlt hb
      have HA2 : Hid ((0 ≤ l.getD k 0 ∧ l.getD k 0 ≤ 1099511627776) → ∀ i, i < k + 1 → 0 ≤ l.getD i 0 ∧ l.getD i 0 ≤ 1099511627776) := by
        show _ → ∀ i, _
        intro hb i hi
        by_cases hik : i = k
        · subst hik; exact hb
        · exact HA.out i (by omega)
      obtain ⟨z, HZ⟩ : ∃ z, Hid (z = l.getD k 0) := ⟨_, rfl⟩
      rw [← HZ.out] at hc1 HA2 HBD
      by_cases hz : 0 ≤ z ∧ z ≤ 1099511627776
      · have HA3 : Hid _ := HA2.out hz
        have HI : Hid (∀ wx, Calls Tryd.prog 45 #[.int .i64 z] wx fun e w' => e = .returned (.bool true) ∧ w' = wx) := by
          show ∀ wx, _
          intro wx
          have := is_any z wx
          rw [show isN z = true from decide_eq_true hz] at this
          exact this
        clear HA HA2 HBD HZ
        go_wp2_with fail
        refine Calls.mono (HI.out _) ?_
        rintro e w1 ⟨rfl, rfl⟩
        go_wp2_with fail
        go_roundw
        case rel => exact ⟨k + 1, by omega, by go_num, HA3, trivial⟩
        case measure => simp [intOf]; omega
      · have HE2 : Hid (E = false) := by show _ = _; rw [HE.out]; exact HBD.out hz
        have HI : Hid (∀ wx, Calls Tryd.prog 45 #[.int .i64 z] wx fun e w' => e = .returned (.bool false) ∧ w' = wx) := by
          show ∀ wx, _
          intro wx
          have := is_any z wx
          rw [show isN z = false from decide_eq_false hz] at this
          exact this
        clear HA HA2 HBD HZ HE
        go_wp2_with fail
        refine Calls.mono (HI.out _) ?_
        rintro e w1 ⟨rfl, rfl⟩
        go_wp2_with fail
        go_ret
        exact ⟨by rw [HE2.out]; rfl, rfl⟩
    · by_cases h : 1 ≤ l.length ∧ l.length ≤ 64
      · have HE2 : Hid (E = true) := by
          show _ = _
          rw [HE.out]
          exact okS_yes h.1 h.2 (fun i hi => HA.out i (by omega))
        obtain ⟨h1, h2⟩ := h
        clear HE HA
        go_wp2_with fail
        go_ret
        exact ⟨by rw [HE2.out]; simp; try omega, rfl⟩
      · have HE2 : Hid (E = false) := by
          show _ = _
          rw [HE.out]
          exact okS_long h
        clear HE HA
        by_cases h1 : l.length < 1
        · go_wp2_with fail
          go_ret
          exact ⟨by rw [HE2.out]; simp; try omega, rfl⟩
        · have h2 : 64 < l.length := by omega
          go_wp2_with fail
          go_ret
          exact ⟨by rw [HE2.out]; simp; try omega, rfl⟩


end Go.Proofs.YtcnodkkdhkkicaaDoor
