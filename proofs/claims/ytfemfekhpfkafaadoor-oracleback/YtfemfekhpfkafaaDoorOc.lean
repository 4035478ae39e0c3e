/- The walks over Ok, and the document's; the key of the laws' example. -/
import Derived.Test.YtfemfekhpfkafaaDoorOb
import Derived.Test.YtfemfekhpfkafaaDoorWe
import Derived.Deep.RegionHeldLaw
namespace Go.Proofs.YtfemfekhpfkafaaDoor.Or
open Go.RowKit Go.Proofs.YtfemfekhpfkafaaDoor
set_option maxRecDepth 1000000
set_option linter.unusedVariables false

/-- A key in memory. -/
def kV (i : Int) (u : Bool) (t : Int) : Value := .agg #[.int .i64 i, .bool u, .int .i64 t]

theorem ok_any (s : List UInt8) (v : Value) (i : Int) (u : Bool) (t : Int) (w : World) (hr : RB w v s) (hl : s.length ≤ 1000000) :
    Calls Tryd.prog 8 #[v, kV i u t] w fun e w' => e = .returned (.bool (okP s i u t)) ∧ Below w.heap.size w w' := by
  have HF : Hid (∀ wx, Below w.heap.size w wx → Calls Tryd.prog 10 #[v, .int .i64 i] wx fun e w' => e = .returned (.bool (failsP s i)) ∧ w' = wx) :=
    fun wx h => fails_any s v i wx (hr.later h) hl
  have HS : Hid (∀ wx, Below w.heap.size w wx → Calls Tryd.prog 12 #[v, .int .i64 i] wx fun e w' => e = .returned (.int .i64 (slipsP s i : Nat)) ∧ w' = wx) :=
    fun wx h => slips_any s v i wx (hr.later h) hl
  have HB : Hid (Below w.heap.size w (w.alloc (.cells #[.int .i64 i, .bool u, .int .i64 t] 24))) := (Below.refl _ _).alloc (Nat.le_refl _) _
  unfold kV
  have c0 := cell_row (row_new w #[.int .i64 i, .bool u, .int .i64 t] 24) 0
  have c1 := cell_row (row_new w #[.int .i64 i, .bool u, .int .i64 t] 24) 1
  have c2 := cell_row (row_new w #[.int .i64 i, .bool u, .int .i64 t] 24) 2
  cases u with
  | false =>
    have HD : Hid (okP s i false t = !failsP s i) := rfl
    rw [HD.out]
    generalize failsP s i = q at *
    clear HS
    go_enter Tryd.func8, Tryd.ntmps8
    go_wp2_with fail
    refine Calls.mono (HF.out _ HB.out) ?_
    rintro e w2 ⟨rfl, rfl⟩
    go_wp2_with fail
    go_ret
    exact ⟨rfl, HB.out⟩
  | true =>
    have HD : Hid (okP s i true t = decide ((slipsP s i : Int) ≤ t)) := rfl
    rw [HD.out]
    generalize (slipsP s i : Int) = q at *
    clear HF
    go_enter Tryd.func8, Tryd.ntmps8
    go_wp2_with fail
    have hs0 : (Below w.heap.size w (w.alloc (.cells #[.int .i64 i, .bool true, .int .i64 t] 24)) ∧ (w.alloc (.cells #[.int .i64 i, .bool true, .int .i64 t] 24)).cell? ⟨w.heap.size, 2, none⟩ = some (.int .i64 t) ∧ (w.alloc (.cells #[.int .i64 i, .bool true, .int .i64 t] 24)).cell? ⟨w.heap.size, 0, none⟩ = some (.int .i64 i)) := ⟨HB.out, c2, c0⟩
    have hs1 : (Below w.heap.size w (w.alloc (.cells #[.int .i64 i, .bool true, .int .i64 t] 24)).drew ∧ (w.alloc (.cells #[.int .i64 i, .bool true, .int .i64 t] 24)).drew.cell? ⟨w.heap.size, 2, none⟩ = some (.int .i64 t) ∧ (w.alloc (.cells #[.int .i64 i, .bool true, .int .i64 t] 24)).drew.cell? ⟨w.heap.size, 0, none⟩ = some (.int .i64 i)) := ⟨HB.out.drew, c2, c0⟩
    go_region_held_law (fun w' => Below w.heap.size w w' ∧ w'.cell? ⟨w.heap.size, 2, none⟩ = some (.int .i64 t) ∧ w'.cell? ⟨w.heap.size, 0, none⟩ = some (.int .i64 i)) (first | assumption | exact hs1 | exact hs0) (first
      | (go_simp; go_at_call 12; refine Calls.mono (HS.out _ (by first | exact HB.out | exact HB.out.drew)) ?_; rintro e w2 ⟨rfl, rfl⟩))
    all_goals
      go_wp2_with fail
      go_ret
      exact ⟨rfl, by first | exact HB.out | exact HB.out.drew⟩
theorem rok_any (s : List UInt8) (i : Int) (u : Bool) (t : Int) (w : World) (hl : s.length ≤ 1000000) :
    Calls Tryd.prog 9 #[.string ⟨s.toArray⟩, kV i u t] w fun e w' => e = .returned (.bool (okP s i u t)) ∧ Below w.heap.size w w' := by
  have HF : Hid (∀ wx, Below w.heap.size w wx → Calls Tryd.prog 11 #[.string ⟨s.toArray⟩, .int .i64 i] wx fun e w' => e = .returned (.bool (failsP s i)) ∧ w' = wx) :=
    fun wx h => rfails_any s i wx hl
  have HS : Hid (∀ wx, Below w.heap.size w wx → Calls Tryd.prog 13 #[.string ⟨s.toArray⟩, .int .i64 i] wx fun e w' => e = .returned (.int .i64 (slipsP s i : Nat)) ∧ w' = wx) :=
    fun wx h => rslips_any s i wx hl
  have HB : Hid (Below w.heap.size w (w.alloc (.cells #[.int .i64 i, .bool u, .int .i64 t] 24))) := (Below.refl _ _).alloc (Nat.le_refl _) _
  unfold kV
  have c0 := cell_row (row_new w #[.int .i64 i, .bool u, .int .i64 t] 24) 0
  have c1 := cell_row (row_new w #[.int .i64 i, .bool u, .int .i64 t] 24) 1
  have c2 := cell_row (row_new w #[.int .i64 i, .bool u, .int .i64 t] 24) 2
  cases u with
  | false =>
    have HD : Hid (okP s i false t = !failsP s i) := rfl
    rw [HD.out]
    generalize failsP s i = q at *
    clear HS
    generalize (⟨s.toArray⟩ : ByteArray) = B at *
    go_enter Tryd.func9, Tryd.ntmps9
    go_wp2_with fail
    refine Calls.mono (HF.out _ HB.out) ?_
    rintro e w2 ⟨rfl, rfl⟩
    go_wp2_with fail
    go_ret
    exact ⟨rfl, HB.out⟩
  | true =>
    have HD : Hid (okP s i true t = decide ((slipsP s i : Int) ≤ t)) := rfl
    rw [HD.out]
    generalize (slipsP s i : Int) = q at *
    clear HF
    generalize (⟨s.toArray⟩ : ByteArray) = B at *
    go_enter Tryd.func9, Tryd.ntmps9
    go_wp2_with fail
    have hs0 : (Below w.heap.size w (w.alloc (.cells #[.int .i64 i, .bool true, .int .i64 t] 24)) ∧ (w.alloc (.cells #[.int .i64 i, .bool true, .int .i64 t] 24)).cell? ⟨w.heap.size, 2, none⟩ = some (.int .i64 t) ∧ (w.alloc (.cells #[.int .i64 i, .bool true, .int .i64 t] 24)).cell? ⟨w.heap.size, 0, none⟩ = some (.int .i64 i)) := ⟨HB.out, c2, c0⟩
    have hs1 : (Below w.heap.size w (w.alloc (.cells #[.int .i64 i, .bool true, .int .i64 t] 24)).drew ∧ (w.alloc (.cells #[.int .i64 i, .bool true, .int .i64 t] 24)).drew.cell? ⟨w.heap.size, 2, none⟩ = some (.int .i64 t) ∧ (w.alloc (.cells #[.int .i64 i, .bool true, .int .i64 t] 24)).drew.cell? ⟨w.heap.size, 0, none⟩ = some (.int .i64 i)) := ⟨HB.out.drew, c2, c0⟩
    go_region_held_law (fun w' => Below w.heap.size w w' ∧ w'.cell? ⟨w.heap.size, 2, none⟩ = some (.int .i64 t) ∧ w'.cell? ⟨w.heap.size, 0, none⟩ = some (.int .i64 i)) (first | assumption | exact hs1 | exact hs0) (first
      | (go_simp; go_at_call 13; refine Calls.mono (HS.out _ (by first | exact HB.out | exact HB.out.drew)) ?_; rintro e w2 ⟨rfl, rfl⟩))
    all_goals
      go_wp2_with fail
      go_ret
      exact ⟨rfl, by first | exact HB.out | exact HB.out.drew⟩

/-- A key, as the example's own function makes it. -/
theorem key_any (t : Int) (w : World) : Calls Tryd.prog 18 #[.int .i64 t] w fun e w' => e = .returned (kV 1 true t) ∧ Below w.heap.size w w' := by
  unfold kV
  go_enter Tryd.func18, Tryd.ntmps18
  go_wp2_with fail
  exact bodyPost_ret_by (results_cell_row rfl _ _ w.heap.size 24 _ (0, 0) _ rfl (row_new w _ 24) Tryd.underlying24 rfl (by kernel_rfl)) rfl ⟨rfl, (Below.refl _ _).alloc (Nat.le_refl _) _⟩

theorem rin_any (l : List Int) (v : Value) (i : Int) (w : World) (hr : RI w v l) (hl : l.length ≤ 1000000) :
    Calls Tryd.prog 23 #[v, .int .i64 i] w fun e w' => e = .returned (.bool (decide (i ∈ l))) ∧ w' = w := by
  obtain ⟨a, cap, rfl, hc, _, hr⟩ := hr
  have HR : Hid _ := hr
  obtain ⟨n, HN⟩ : ∃ n, Hid (l.length = n) := ⟨_, rfl⟩
  rw [HN.out] at hl hc ⊢
  clear hr
  go_enter Tryd.func23, Tryd.ntmps23
  go_wp2_with fail
  go_loopw [5] (fun iv wr => ∃ (k : Nat), k ≤ n ∧ iv = .int .i64 k ∧ Hid (∀ j, j < k → l.getD j 0 ≠ i) ∧ wr = w) (fun iv _ => n - (intOf iv).toNat)
  case atStart => exact ⟨0, Nat.zero_le _, rfl, fun j hj => by omega, rfl⟩
  case round =>
    obtain ⟨k, hk, rfl, HX, rfl⟩ := hrel
    by_cases hlt : k < n
    · obtain ⟨b, off, rfl, c0⟩ := HR.out k (by rw [HN.out]; exact hlt)
      obtain ⟨y, HYy⟩ : ∃ y, Hid (y = l.getD k 0) := ⟨_, rfl⟩
      rw [← HYy.out] at c0
      have hki : (k : Int) < (n : Int) := by omega
      by_cases hyz : y = i
      · have hb : (y == i) = true := by simp [hyz]
        have HT : Hid (decide (i ∈ l) = true) := decide_eq_true (by
          have hk2 : k < l.length := by rw [HN.out]; exact hlt
          have e : l.getD k 0 = l[k] := by simp [hk2]
          rw [← hyz, HYy.out, e]
          exact List.getElem_mem hk2)
        clear HYy HX
        go_wp2_with fail
        go_ret
        exact ⟨by rw [HT.out]; rfl, rfl⟩
      · have hb : (y == i) = false := by simp [hyz]
        have HX2 : Hid (∀ j, j < k + 1 → l.getD j 0 ≠ i) := by
          show ∀ j, _
          intro j hj
          by_cases hjk : j = k
          · subst hjk; rw [← HYy.out]; exact hyz
          · exact HX.out j (by omega)
        clear HYy HX
        go_wp2_with fail
        go_roundw
        case rel => exact ⟨k + 1, by omega, by go_num, HX2, trivial⟩
        case measure => simp [intOf]; omega
    · have hkn : k = n := by omega
      subst hkn
      have HF : Hid (decide (i ∈ l) = false) := decide_eq_false (by
        intro hm
        obtain ⟨j, hj, e⟩ := List.mem_iff_getElem.1 hm
        exact HX.out j (by rw [← HN.out]; exact hj) (by simp [hj, e]))
      go_wp2_with fail
      go_ret
      exact ⟨by rw [HF.out]; rfl, rfl⟩
end Go.Proofs.YtfemfekhpfkafaaDoor.Or
