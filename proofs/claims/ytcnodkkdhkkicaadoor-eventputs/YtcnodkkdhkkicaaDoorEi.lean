/- The walks over Key, Opens, and the document's Key, Opens, Same, Right, Check. -/
import Derived.Test.YtcnodkkdhkkicaaDoorEc
namespace Go.Proofs.YtcnodkkdhkkicaaDoor
open Go.RowKit
set_option linter.unusedVariables false

def keyV (e : Ev) : Value := .agg #[.int .i64 e.i, .bool (decide (3 < e.k)), .int .i64 e.t]

set_option maxRecDepth 1000000 in
set_option maxHeartbeats 1000000 in
theorem key_any (e : Ev) (sv : Value) (w : World) (h1 : sv.oneCell' = true) : Calls Tryd.prog 14 #[EvV e sv] w fun x w' => x = .returned (keyV e) ∧ Below w.heap.size w w' := by
  unfold EvV keyV
  generalize e.k = k at *
  generalize e.i = i at *
  generalize e.t = t at *
  go_enter Tryd.func14, Tryd.ntmps14
  go_wp2_with fail
  exact bodyPost_ret_by (results_cell_row rfl _ _ (w.heap.size + 1) 37 _ (0, 0) _ rfl (heap_alloc2_new w _ _) Tryd.underlying37 rfl (by kernel_rfl)) rfl ⟨rfl, ((Below.refl _ _).alloc (Nat.le_refl _) _).alloc (by simp) _⟩

set_option maxRecDepth 1000000 in
set_option maxHeartbeats 1000000 in
theorem rkey_any (e : Ev) (sv : Value) (w : World) (h1 : sv.oneCell' = true) : Calls Tryd.prog 15 #[EvV e sv] w fun x w' => x = .returned (keyV e) ∧ Below w.heap.size w w' := by
  unfold EvV keyV
  generalize e.k = k at *
  generalize e.i = i at *
  generalize e.t = t at *
  go_enter Tryd.func15, Tryd.ntmps15
  go_wp2_with fail
  exact bodyPost_ret_by (results_cell_row rfl _ _ (w.heap.size + 1) 37 _ (0, 0) _ rfl (heap_alloc2_new w _ _) Tryd.underlying37 rfl (by kernel_rfl)) rfl ⟨rfl, ((Below.refl _ _).alloc (Nat.le_refl _) _).alloc (by simp) _⟩

def opens (k : Int) : Bool := decide (k = 1 ∨ k = 4)

set_option maxRecDepth 1000000 in
set_option maxHeartbeats 1000000 in
theorem opens_any (k : Int) (w : World) : Calls Tryd.prog 16 #[.int .i64 k] w fun x w' => x = .returned (.bool (opens k)) ∧ w' = w := by
  unfold opens
  by_cases h1 : k = 1
  · subst h1
    go_enter Tryd.func16, Tryd.ntmps16
    go_wp2_with fail
    go_ret
    exact ⟨rfl, rfl⟩
  · have g1 : (k == 1) = false := by simpa using h1
    have HE : Hid (decide (k = 1 ∨ k = 4) = (k == 4)) := by show _ = _; by_cases h4 : k = 4 <;> simp [h1, h4]
    rw [HE.out]
    clear HE h1
    go_enter Tryd.func16, Tryd.ntmps16
    go_wp2_with fail
    go_ret
    exact ⟨rfl, rfl⟩

set_option maxRecDepth 1000000 in
set_option maxHeartbeats 1000000 in
theorem ropens_any (k : Int) (w : World) : Calls Tryd.prog 17 #[.int .i64 k] w fun x w' => x = .returned (.bool (opens k)) ∧ w' = w := by
  unfold opens
  by_cases h1 : k = 1
  · subst h1
    go_enter Tryd.func17, Tryd.ntmps17
    go_wp2_with fail
    go_ret
    exact ⟨rfl, rfl⟩
  · have g1 : (k == 1) = false := by simpa using h1
    have HE : Hid (decide (k = 1 ∨ k = 4) = (k == 4)) := by show _ = _; by_cases h4 : k = 4 <;> simp [h1, h4]
    rw [HE.out]
    clear HE h1
    go_enter Tryd.func17, Tryd.ntmps17
    go_wp2_with fail
    go_ret
    exact ⟨rfl, rfl⟩

set_option maxRecDepth 1000000 in
set_option maxHeartbeats 4000000 in
theorem rright_ev (e : Ev) (sv : Value) (w : World) (hv : RI w sv e.s) (hn : e.s.length ≤ 1000000) :
    Calls Tryd.prog 23 #[EvV e sv] w fun x w' => x = .returned (.bool (okE e)) ∧ Below w.heap.size w w' := by
  have HX : Hid (Below w.heap.size w (w.alloc (.cells #[.int .i64 e.k, .int .i64 e.i, .int .i64 e.t, sv] 25))) := (Below.refl _ _).alloc (Nat.le_refl _) _
  have HR : Hid _ := rright_any sv e.s (w.alloc (.cells #[.int .i64 e.k, .int .i64 e.i, .int .i64 e.t, sv] 25)) (hv.later HX.out) hn
  have HO : Hid (okE e = (okH e.k e.i e.t && okS e.s)) := rfl
  rw [HO.out]
  unfold EvV okH
  clear HO
  obtain ⟨sa, sc, rfl, _, _, hrr⟩ := hv
  clear hrr hn
  generalize okS e.s = o at *
  generalize e.k = k at *
  generalize e.i = i at *
  generalize e.t = t at *
  generalize e.s.length = n at *
  by_cases h : 1 ≤ k ∧ k ≤ 6 ∧ 1 ≤ i ∧ i ≤ 63 ∧ 0 ≤ t ∧ t ≤ 3
  · obtain ⟨h1, h2, h3, h4, h5, h6⟩ := h
    by_cases h7 : 3 < k
    · have HE : Hid (decide (1 ≤ k ∧ k ≤ 6 ∧ 1 ≤ i ∧ i ≤ 63 ∧ 0 ≤ t ∧ t ≤ 3 ∧ (3 < k ∨ t = 0)) = true) := decide_eq_true ⟨h1, h2, h3, h4, h5, h6, .inl h7⟩
      rw [HE.out, Bool.true_and]
      go_enter Tryd.func23, Tryd.ntmps23
      go_wp2_with fail
      refine Calls.mono HR.out ?_
      rintro e w1 ⟨rfl, h2⟩
      obtain rfl := h2
      go_wp2_with fail
      go_ret
      exact ⟨rfl, HX.out⟩
    · by_cases h8 : t = 0
      · subst h8
        have HE : Hid (decide (1 ≤ k ∧ k ≤ 6 ∧ 1 ≤ i ∧ i ≤ 63 ∧ (0 : Int) ≤ 0 ∧ (0 : Int) ≤ 3 ∧ (3 < k ∨ (0 : Int) = 0)) = true) := decide_eq_true ⟨h1, h2, h3, h4, h5, h6, .inr rfl⟩
        rw [HE.out, Bool.true_and]
        go_enter Tryd.func23, Tryd.ntmps23
        go_wp2_with fail
        refine Calls.mono HR.out ?_
        rintro e w1 ⟨rfl, h2⟩
        obtain rfl := h2
        go_wp2_with fail
        go_ret
        exact ⟨rfl, HX.out⟩
      · have g8 : (t == 0) = false := by simpa using h8
        have HE : Hid (decide (1 ≤ k ∧ k ≤ 6 ∧ 1 ≤ i ∧ i ≤ 63 ∧ 0 ≤ t ∧ t ≤ 3 ∧ (3 < k ∨ t = 0)) = false) := decide_eq_false (by omega)
        rw [HE.out, Bool.false_and]
        clear HE HR h8
        go_enter Tryd.func23, Tryd.ntmps23
        go_wp2_with fail
        go_ret
        exact ⟨rfl, HX.out⟩
  · have HE : Hid (decide (1 ≤ k ∧ k ≤ 6 ∧ 1 ≤ i ∧ i ≤ 63 ∧ 0 ≤ t ∧ t ≤ 3 ∧ (3 < k ∨ t = 0)) = false) := decide_eq_false (by omega)
    rw [HE.out, Bool.false_and]
    clear HE HR
    by_cases h1 : k < 1
    · go_enter Tryd.func23, Tryd.ntmps23
      go_wp2_with fail
      go_ret
      exact ⟨rfl, HX.out⟩
    · by_cases h2 : 6 < k
      · go_enter Tryd.func23, Tryd.ntmps23
        go_wp2_with fail
        go_ret
        exact ⟨rfl, HX.out⟩
      · by_cases h3 : i < 1
        · go_enter Tryd.func23, Tryd.ntmps23
          go_wp2_with fail
          go_ret
          exact ⟨rfl, HX.out⟩
        · by_cases h4 : 63 < i
          · go_enter Tryd.func23, Tryd.ntmps23
            go_wp2_with fail
            go_ret
            exact ⟨rfl, HX.out⟩
          · by_cases h5 : t < 0
            · go_enter Tryd.func23, Tryd.ntmps23
              go_wp2_with fail
              go_ret
              exact ⟨rfl, HX.out⟩
            · have h6 : 3 < t := by omega
              clear h
              go_enter Tryd.func23, Tryd.ntmps23
              go_wp2_with fail
              go_ret
              exact ⟨rfl, HX.out⟩

theorem evE_bool (e : Ev) : (evE e : Nat) = if okE e then 0 else 2 := rfl

set_option maxRecDepth 1000000 in
set_option maxHeartbeats 1000000 in
theorem rcheck_ev (e : Ev) (sv : Value) (w : World) (hv : RI w sv e.s) (hn : e.s.length ≤ 1000000) :
    Calls Tryd.prog 11 #[EvV e sv] w fun x w' => x = .returned (.int .i64 (evE e : Nat)) ∧ Below w.heap.size w w' := by
  have HX : Hid (Below w.heap.size w (w.alloc (.cells #[.int .i64 e.k, .int .i64 e.i, .int .i64 e.t, sv] 25))) := (Below.refl _ _).alloc (Nat.le_refl _) _
  have HC : Hid (Calls Tryd.prog 23 #[.agg #[.int .i64 e.k, .int .i64 e.i, .int .i64 e.t, sv]] (w.alloc (.cells #[.int .i64 e.k, .int .i64 e.i, .int .i64 e.t, sv] 25)) fun x w' => x = .returned (.bool (okE e)) ∧ Below (w.alloc (.cells #[.int .i64 e.k, .int .i64 e.i, .int .i64 e.t, sv] 25)).heap.size (w.alloc (.cells #[.int .i64 e.k, .int .i64 e.i, .int .i64 e.t, sv] 25)) w') := rright_ev e sv _ (hv.later HX.out) hn
  rw [evE_bool]
  obtain ⟨sa, sc, rfl, _, _, hrr⟩ := hv
  clear hrr hn
  unfold EvV
  cases ho : okE e
  · rw [ho] at HC
    clear ho
    go_enter Tryd.func11, Tryd.ntmps11
    go_wp2_with fail
    refine Calls.mono HC.out ?_
    rintro e w1 ⟨rfl, hb1⟩
    have HB1 : Hid (Below w.heap.size w w1) := HX.out.trans (hb1.mono (by simp))
    clear hb1 HX HC
    go_wp2_with fail
    go_ret
    exact ⟨rfl, HB1.out⟩
  · rw [ho] at HC
    clear ho
    go_enter Tryd.func11, Tryd.ntmps11
    go_wp2_with fail
    refine Calls.mono HC.out ?_
    rintro e w1 ⟨rfl, hb1⟩
    have HB1 : Hid (Below w.heap.size w w1) := HX.out.trans (hb1.mono (by simp))
    clear hb1 HX HC
    go_wp2_with fail
    go_ret
    exact ⟨rfl, HB1.out⟩
end Go.Proofs.YtcnodkkdhkkicaaDoor
