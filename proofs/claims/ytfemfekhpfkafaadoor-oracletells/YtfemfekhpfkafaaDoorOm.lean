/- The walk over OracleTells. -/
import Derived.Test.YtfemfekhpfkafaaDoorOi
namespace Go.Proofs.YtfemfekhpfkafaaDoor.Or
open Go.RowKit Go.Proofs.YtfemfekhpfkafaaDoor
set_option maxRecDepth 1000000
set_option linter.unusedVariables false

set_option maxHeartbeats 2000000 in
theorem tells_walk (a : Option Addr) (len cap : Nat) (s : List UInt8) (i : Int) (u : Bool) (t n : Int) (w : World) (hr : RB w (.slice a len cap) s) :
    Calls Tryd.prog 3 #[.slice a len cap, .agg #[.int .i64 i, .bool u, .int .i64 t], .int .i64 n] w fun e w' => e = .returned (.bool true) ∧ Below w.heap.size w w' := by
  have HL : Hid (∀ wx, Calls Tryd.prog 7 #[] wx fun e w' => e = .returned (.bool true) ∧ Below wx.heap.size wx w') := lives_any
  have HB1 : Hid (Below w.heap.size w (w.alloc (.cells #[.int .i64 i, .bool u, .int .i64 t] 24))) := (Below.refl _ _).alloc (Nat.le_refl _) _
  have hlen : len = s.length ∧ len ≤ cap ∧ cap ≤ maxLen := by
    obtain ⟨a', c', he, h1, h2, _, _⟩ := hr
    simp only [Value.slice.injEq] at he
    obtain ⟨rfl, rfl, rfl⟩ := he
    exact ⟨rfl, h1, h2⟩
  obtain ⟨rfl, hlc, hcm⟩ := hlen
  have hm : s.length ≤ 9223372036854775807 := by unfold maxLen at hcm; omega
  by_cases hbig : 1000 < s.length
  · have hbi : (1000 : Int) < (s.length : Int) := by omega
    clear hr hcm
    go_enter Tryd.func3, Tryd.ntmps3
    go_wp2_with fail
    refine Calls.mono (HL.out _) ?_
    rintro e w2 ⟨rfl, hb2⟩
    go_wp2_with fail
    go_ret
    exact ⟨rfl, HB1.out.trans (hb2.mono HB1.out.size)⟩
  · have hbi : ¬ (1000 : Int) < (s.length : Int) := by omega
    have hl : s.length ≤ 1000000 := by omega
    have HR : Hid (∀ wx, Below (w.alloc (.cells #[.int .i64 i, .bool u, .int .i64 t] 24)).heap.size (w.alloc (.cells #[.int .i64 i, .bool u, .int .i64 t] 24)) wx → RB wx (.slice a s.length cap) s) := fun wx h => (hr.later HB1.out).later h
    have HRW : Hid (∀ wx, Below (w.alloc (.cells #[.int .i64 i, .bool u, .int .i64 t] 24)).heap.size (w.alloc (.cells #[.int .i64 i, .bool u, .int .i64 t] 24)) wx → wx.heap[w.heap.size]? = some (.cells #[.int .i64 i, .bool u, .int .i64 t] 24 (0, 0))) := fun wx h => (h.block _ (by simp)).trans (row_new w _ 24)
    have HCL : Hid (∀ wx, Below (w.alloc (.cells #[.int .i64 i, .bool u, .int .i64 t] 24)).heap.size (w.alloc (.cells #[.int .i64 i, .bool u, .int .i64 t] 24)) wx → wx.cell? ⟨w.heap.size, 0, none⟩ = some (.int .i64 i)) := fun wx h => cell_row (HRW.out wx h) 0
    have HC1 : Hid (∀ wx, Below (w.alloc (.cells #[.int .i64 i, .bool u, .int .i64 t] 24)).heap.size (w.alloc (.cells #[.int .i64 i, .bool u, .int .i64 t] 24)) wx → wx.cell? ⟨w.heap.size, 1, none⟩ = some (.bool u)) := fun wx h => cell_row (HRW.out wx h) 1
    have HC2 : Hid (∀ wx, Below (w.alloc (.cells #[.int .i64 i, .bool u, .int .i64 t] 24)).heap.size (w.alloc (.cells #[.int .i64 i, .bool u, .int .i64 t] 24)) wx → wx.cell? ⟨w.heap.size, 2, none⟩ = some (.int .i64 t)) := fun wx h => cell_row (HRW.out wx h) 2
    have HK7 : Hid (∀ wx, Below (w.alloc (.cells #[.int .i64 i, .bool u, .int .i64 t] 24)).heap.size (w.alloc (.cells #[.int .i64 i, .bool u, .int .i64 t] 24)) wx → Calls Tryd.prog 7 #[] wx fun e w' => e = .returned (.bool true) ∧ Below (w.alloc (.cells #[.int .i64 i, .bool u, .int .i64 t] 24)).heap.size (w.alloc (.cells #[.int .i64 i, .bool u, .int .i64 t] 24)) w') := fun wx h => by
      refine Calls.mono (HL.out wx) ?_
      rintro e w' ⟨q1, q2⟩
      exact ⟨q1, h.trans (q2.mono h.size)⟩
    have HK8 : Hid (∀ wx, Below (w.alloc (.cells #[.int .i64 i, .bool u, .int .i64 t] 24)).heap.size (w.alloc (.cells #[.int .i64 i, .bool u, .int .i64 t] 24)) wx → Calls Tryd.prog 8 #[.slice a s.length cap, .agg #[.int .i64 i, .bool u, .int .i64 t]] wx fun e w' => e = .returned (.bool (okP s i u t)) ∧ Below (w.alloc (.cells #[.int .i64 i, .bool u, .int .i64 t] 24)).heap.size (w.alloc (.cells #[.int .i64 i, .bool u, .int .i64 t] 24)) w') := fun wx h => by
      refine Calls.mono (ok_any s _ i u t wx (HR.out wx h) hl) ?_
      rintro e w' ⟨q1, q2⟩
      exact ⟨q1, h.trans (q2.mono h.size)⟩
    have HK9 : Hid (∀ wx, Below (w.alloc (.cells #[.int .i64 i, .bool u, .int .i64 t] 24)).heap.size (w.alloc (.cells #[.int .i64 i, .bool u, .int .i64 t] 24)) wx → Calls Tryd.prog 9 #[.string ⟨s.toArray⟩, .agg #[.int .i64 i, .bool u, .int .i64 t]] wx fun e w' => e = .returned (.bool (okP s i u t)) ∧ Below (w.alloc (.cells #[.int .i64 i, .bool u, .int .i64 t] 24)).heap.size (w.alloc (.cells #[.int .i64 i, .bool u, .int .i64 t] 24)) w') := fun wx h => by
      refine Calls.mono (rok_any s i u t wx hl) ?_
      rintro e w' ⟨q1, q2⟩
      exact ⟨q1, h.trans (q2.mono h.size)⟩
    have HK10 : Hid (∀ wx, Below (w.alloc (.cells #[.int .i64 i, .bool u, .int .i64 t] 24)).heap.size (w.alloc (.cells #[.int .i64 i, .bool u, .int .i64 t] 24)) wx → Calls Tryd.prog 10 #[.slice a s.length cap, .int .i64 i] wx fun e w' => e = .returned (.bool (failsP s i)) ∧ Below (w.alloc (.cells #[.int .i64 i, .bool u, .int .i64 t] 24)).heap.size (w.alloc (.cells #[.int .i64 i, .bool u, .int .i64 t] 24)) w') := fun wx h => by
      refine Calls.mono (fails_any s _ i wx (HR.out wx h) hl) ?_
      rintro e w' ⟨q1, q2⟩
      subst q2
      exact ⟨q1, h⟩
    have HK11 : Hid (∀ wx, Below (w.alloc (.cells #[.int .i64 i, .bool u, .int .i64 t] 24)).heap.size (w.alloc (.cells #[.int .i64 i, .bool u, .int .i64 t] 24)) wx → Calls Tryd.prog 11 #[.string ⟨s.toArray⟩, .int .i64 i] wx fun e w' => e = .returned (.bool (failsP s i)) ∧ Below (w.alloc (.cells #[.int .i64 i, .bool u, .int .i64 t] 24)).heap.size (w.alloc (.cells #[.int .i64 i, .bool u, .int .i64 t] 24)) w') := fun wx h => by
      refine Calls.mono (rfails_any s i wx hl) ?_
      rintro e w' ⟨q1, q2⟩
      subst q2
      exact ⟨q1, h⟩
    have HK12 : Hid (∀ wx, Below (w.alloc (.cells #[.int .i64 i, .bool u, .int .i64 t] 24)).heap.size (w.alloc (.cells #[.int .i64 i, .bool u, .int .i64 t] 24)) wx → Calls Tryd.prog 12 #[.slice a s.length cap, .int .i64 i] wx fun e w' => e = .returned (.int .i64 (slipsP s i : Nat)) ∧ Below (w.alloc (.cells #[.int .i64 i, .bool u, .int .i64 t] 24)).heap.size (w.alloc (.cells #[.int .i64 i, .bool u, .int .i64 t] 24)) w') := fun wx h => by
      refine Calls.mono (slips_any s _ i wx (HR.out wx h) hl) ?_
      rintro e w' ⟨q1, q2⟩
      subst q2
      exact ⟨q1, h⟩
    have HK13 : Hid (∀ wx, Below (w.alloc (.cells #[.int .i64 i, .bool u, .int .i64 t] 24)).heap.size (w.alloc (.cells #[.int .i64 i, .bool u, .int .i64 t] 24)) wx → Calls Tryd.prog 13 #[.string ⟨s.toArray⟩, .int .i64 i] wx fun e w' => e = .returned (.int .i64 (slipsP s i : Nat)) ∧ Below (w.alloc (.cells #[.int .i64 i, .bool u, .int .i64 t] 24)).heap.size (w.alloc (.cells #[.int .i64 i, .bool u, .int .i64 t] 24)) w') := fun wx h => by
      refine Calls.mono (rslips_any s i wx hl) ?_
      rintro e w' ⟨q1, q2⟩
      subst q2
      exact ⟨q1, h⟩
    have HK14 : Hid (∀ wx, Below (w.alloc (.cells #[.int .i64 i, .bool u, .int .i64 t] 24)).heap.size (w.alloc (.cells #[.int .i64 i, .bool u, .int .i64 t] 24)) wx → Calls Tryd.prog 14 #[.slice a s.length cap, .int .i64 n] wx fun e w' => e = .returned (.int .i64 (mostP s n : Nat)) ∧ Below (w.alloc (.cells #[.int .i64 i, .bool u, .int .i64 t] 24)).heap.size (w.alloc (.cells #[.int .i64 i, .bool u, .int .i64 t] 24)) w') := fun wx h => by
      refine Calls.mono (most_any s _ n wx (HR.out wx h) hl) ?_
      rintro e w' ⟨q1, q2⟩
      subst q2
      exact ⟨q1, h⟩
    have HK15 : Hid (∀ wx, Below (w.alloc (.cells #[.int .i64 i, .bool u, .int .i64 t] 24)).heap.size (w.alloc (.cells #[.int .i64 i, .bool u, .int .i64 t] 24)) wx → Calls Tryd.prog 15 #[.string ⟨s.toArray⟩, .int .i64 n] wx fun e w' => e = .returned (.int .i64 (mostP s n : Nat)) ∧ Below (w.alloc (.cells #[.int .i64 i, .bool u, .int .i64 t] 24)).heap.size (w.alloc (.cells #[.int .i64 i, .bool u, .int .i64 t] 24)) w') := fun wx h => by
      refine Calls.mono (rmost_any s n wx hl) ?_
      rintro e w' ⟨q1, q2⟩
      subst q2
      exact ⟨q1, h⟩
    have hcv : (convert 22 9 (.slice a s.length cap)).run Tryd.prog (w.alloc (.cells #[.int .i64 i, .bool u, .int .i64 t] 24)) = .ok (.string ⟨s.toArray⟩) (w.alloc (.cells #[.int .i64 i, .bool u, .int .i64 t] 24)) := string_of_RB (HR.out _ (Below.refl _ _))
    generalize okP s i u t = q1 at *
    generalize failsP s i = q2 at *
    generalize (slipsP s i : Int) = q3 at *
    generalize (mostP s n : Int) = q4 at *
    generalize (⟨s.toArray⟩ : ByteArray) = O at *
    clear hr hcm HR
    go_enter Tryd.func3, Tryd.ntmps3
    go_wp2_with fail
    have hS0 : Below (w.alloc (.cells #[.int .i64 i, .bool u, .int .i64 t] 24)).heap.size (w.alloc (.cells #[.int .i64 i, .bool u, .int .i64 t] 24)) (w.alloc (.cells #[.int .i64 i, .bool u, .int .i64 t] 24)).drew := (Below.refl _ _).drew
    refine region_thenF [(14, .slice a s.length cap), (15, .agg #[.int .i64 i, .bool u, .int .i64 t]), (16, .bool q1), (17, .string O), (18, .agg #[.int .i64 i, .bool u, .int .i64 t]), (19, .bool q1), (20, .bool true), (21, .bool true), (22, .slice a s.length cap), (23, .pointer (some ⟨w.heap.size, 0, none⟩)), (24, .int .i64 i), (25, .bool q2), (26, .string O), (27, .pointer (some ⟨w.heap.size, 0, none⟩)), (28, .int .i64 i), (29, .bool q2), (30, .bool true), (31, .bool true), (32, .bool true), (33, .slice a s.length cap), (34, .pointer (some ⟨w.heap.size, 0, none⟩)), (35, .int .i64 i), (36, .int .i64 q3), (37, .string O), (38, .pointer (some ⟨w.heap.size, 0, none⟩)), (39, .int .i64 i), (40, .int .i64 q3), (41, .bool true), (42, .bool true), (43, .bool true), (44, .slice a s.length cap), (45, .int .i64 n), (46, .int .i64 q4), (47, .string O), (48, .int .i64 n), (49, .int .i64 q4), (50, .bool true), (51, .bool true), (52, .bool true), (53, .bool true), (54, .bool true), (6, .bool true)] (fun w' => Below (w.alloc (.cells #[.int .i64 i, .bool u, .int .i64 t] 24)).heap.size (w.alloc (.cells #[.int .i64 i, .bool u, .int .i64 t] 24)) w') ?_ ?_
    · refine wp_region_held (S := fun w' => Below (w.alloc (.cells #[.int .i64 i, .bool u, .int .i64 t] 24)).heap.size (w.alloc (.cells #[.int .i64 i, .bool u, .int .i64 t] 24)) w') (by kernel_rfl) ?_
      simp only [List.size_toArray, List.length_cons, List.length_nil, Nat.reduceAdd, Array.replicate_succ, Array.replicate_zero, List.push_toArray, List.nil_append, List.cons_append]
      refine takeD (i := 0) (d := 14) (v := .slice a s.length cap) (fuel := 41) rfl rfl (by kernel_rfl) (by kernel_rfl) (by kernel_rfl) (fun _ _ _ h => by cases h.1) (.inl ⟨by kernel_rfl, fun _ _ => by kernel_rfl⟩) hS0 ?_
      simp only [List.setIfInBounds_toArray, List.set_cons_succ, List.set_cons_zero]
      refine takeD (i := 1) (d := 15) (v := .agg #[.int .i64 i, .bool u, .int .i64 t]) (fuel := 40) rfl rfl (by kernel_rfl) (by kernel_rfl) (by kernel_rfl) (fun _ _ _ h => by cases h.1) (.inl ⟨by kernel_rfl, fun wx h => by have z7 := HCL.out wx h; have z8 := HC1.out wx h; have z9 := HC2.out wx h; go_simp⟩) hS0 ?_
      simp only [List.setIfInBounds_toArray, List.set_cons_succ, List.set_cons_zero]
      refine takeD (i := 3) (d := 17) (v := .string O) (fuel := 39) rfl rfl (by kernel_rfl) (by kernel_rfl) (by kernel_rfl) (fun _ _ _ h => by cases h.1) (.inl ⟨by kernel_rfl, fun _ _ => by kernel_rfl⟩) hS0 ?_
      simp only [List.setIfInBounds_toArray, List.set_cons_succ, List.set_cons_zero]
      refine takeD (i := 4) (d := 18) (v := .agg #[.int .i64 i, .bool u, .int .i64 t]) (fuel := 38) rfl rfl (by kernel_rfl) (by kernel_rfl) (by kernel_rfl) (fun _ _ _ h => by cases h.1) (.inl ⟨by kernel_rfl, fun wx h => by have z7 := HCL.out wx h; have z8 := HC1.out wx h; have z9 := HC2.out wx h; go_simp⟩) hS0 ?_
      simp only [List.setIfInBounds_toArray, List.set_cons_succ, List.set_cons_zero]
      refine oneC (i := 2) (d := 16) (f := 8) (args := #[.slice a s.length cap, .agg #[.int .i64 i, .bool u, .int .i64 t]]) (v := .bool q1) (fuel := 37) rfl rfl (by kernel_rfl) (by kernel_rfl) (fun _ => by kernel_rfl) hS0 (fun wx h => HK8.out wx h) (fun wz hS102 => ?_)
      simp only [List.setIfInBounds_toArray, List.set_cons_succ, List.set_cons_zero]
      refine oneC (i := 5) (d := 19) (f := 9) (args := #[.string O, .agg #[.int .i64 i, .bool u, .int .i64 t]]) (v := .bool q1) (fuel := 36) rfl rfl (by kernel_rfl) (by kernel_rfl) (fun _ => by kernel_rfl) hS102 (fun wx h => HK9.out wx h) (fun wz hS105 => ?_)
      simp only [List.setIfInBounds_toArray, List.set_cons_succ, List.set_cons_zero]
      refine takeD (i := 6) (d := 20) (v := .bool true) (fuel := 35) rfl rfl (by kernel_rfl) (by kernel_rfl) (by kernel_rfl) (fun _ _ _ h => by cases h.1) (.inl ⟨by kernel_rfl, fun _ _ => by go_simp⟩) hS105 ?_
      simp only [List.setIfInBounds_toArray, List.set_cons_succ, List.set_cons_zero]
      refine takeD (i := 7) (d := 21) (v := .bool true) (fuel := 34) rfl rfl (by kernel_rfl) (by kernel_rfl) (by kernel_rfl) (fun _ _ _ h => by cases h.1) (.inl ⟨by kernel_rfl, fun _ _ => by kernel_rfl⟩) hS105 ?_
      simp only [List.setIfInBounds_toArray, List.set_cons_succ, List.set_cons_zero]
      refine takeD (i := 8) (d := 22) (v := .slice a s.length cap) (fuel := 33) rfl rfl (by kernel_rfl) (by kernel_rfl) (by kernel_rfl) (fun _ _ _ h => by cases h.1) (.inl ⟨by kernel_rfl, fun _ _ => by kernel_rfl⟩) hS105 ?_
      simp only [List.setIfInBounds_toArray, List.set_cons_succ, List.set_cons_zero]
      refine takeD (i := 9) (d := 23) (v := .pointer (some ⟨w.heap.size, 0, none⟩)) (fuel := 32) rfl rfl (by kernel_rfl) (by kernel_rfl) (by kernel_rfl) (fun _ _ _ h => by cases h.1) (.inl ⟨by kernel_rfl, fun _ _ => by go_simp⟩) hS105 ?_
      simp only [List.setIfInBounds_toArray, List.set_cons_succ, List.set_cons_zero]
      refine takeD (i := 10) (d := 24) (v := .int .i64 i) (fuel := 31) rfl rfl (by kernel_rfl) (by kernel_rfl) (by kernel_rfl) (fun _ _ _ h => by cases h.1) (.inl ⟨by kernel_rfl, fun wx h => by have z9 := HCL.out wx h; go_simp⟩) hS105 ?_
      simp only [List.setIfInBounds_toArray, List.set_cons_succ, List.set_cons_zero]
      refine takeD (i := 12) (d := 26) (v := .string O) (fuel := 30) rfl rfl (by kernel_rfl) (by kernel_rfl) (by kernel_rfl) (fun _ _ _ h => by cases h.1) (.inl ⟨by kernel_rfl, fun _ _ => by kernel_rfl⟩) hS105 ?_
      simp only [List.setIfInBounds_toArray, List.set_cons_succ, List.set_cons_zero]
      refine takeD (i := 13) (d := 27) (v := .pointer (some ⟨w.heap.size, 0, none⟩)) (fuel := 29) rfl rfl (by kernel_rfl) (by kernel_rfl) (by kernel_rfl) (fun _ _ _ h => by cases h.1) (.inl ⟨by kernel_rfl, fun _ _ => by go_simp⟩) hS105 ?_
      simp only [List.setIfInBounds_toArray, List.set_cons_succ, List.set_cons_zero]
      refine takeD (i := 14) (d := 28) (v := .int .i64 i) (fuel := 28) rfl rfl (by kernel_rfl) (by kernel_rfl) (by kernel_rfl) (fun _ _ _ h => by cases h.1) (.inl ⟨by kernel_rfl, fun wx h => by have z9 := HCL.out wx h; go_simp⟩) hS105 ?_
      simp only [List.setIfInBounds_toArray, List.set_cons_succ, List.set_cons_zero]
      refine oneC (i := 11) (d := 25) (f := 10) (args := #[.slice a s.length cap, .int .i64 i]) (v := .bool q2) (fuel := 27) rfl rfl (by kernel_rfl) (by kernel_rfl) (fun _ => by kernel_rfl) hS105 (fun wx h => HK10.out wx h) (fun wz hS111 => ?_)
      simp only [List.setIfInBounds_toArray, List.set_cons_succ, List.set_cons_zero]
      refine oneC (i := 15) (d := 29) (f := 11) (args := #[.string O, .int .i64 i]) (v := .bool q2) (fuel := 26) rfl rfl (by kernel_rfl) (by kernel_rfl) (fun _ => by kernel_rfl) hS111 (fun wx h => HK11.out wx h) (fun wz hS115 => ?_)
      simp only [List.setIfInBounds_toArray, List.set_cons_succ, List.set_cons_zero]
      refine takeD (i := 16) (d := 30) (v := .bool true) (fuel := 25) rfl rfl (by kernel_rfl) (by kernel_rfl) (by kernel_rfl) (fun _ _ _ h => by cases h.1) (.inl ⟨by kernel_rfl, fun _ _ => by go_simp⟩) hS115 ?_
      simp only [List.setIfInBounds_toArray, List.set_cons_succ, List.set_cons_zero]
      refine takeD (i := 17) (d := 31) (v := .bool true) (fuel := 24) rfl rfl (by kernel_rfl) (by kernel_rfl) (by kernel_rfl) (fun _ _ _ h => by cases h.1) (.inl ⟨by kernel_rfl, fun _ _ => by kernel_rfl⟩) hS115 ?_
      simp only [List.setIfInBounds_toArray, List.set_cons_succ, List.set_cons_zero]
      refine takeD (i := 18) (d := 32) (v := .bool true) (fuel := 23) rfl rfl (by kernel_rfl) (by kernel_rfl) (by kernel_rfl) (fun _ _ _ h => by cases h.1) (.inl ⟨by kernel_rfl, fun _ _ => by kernel_rfl⟩) hS115 ?_
      simp only [List.setIfInBounds_toArray, List.set_cons_succ, List.set_cons_zero]
      refine takeD (i := 19) (d := 33) (v := .slice a s.length cap) (fuel := 22) rfl rfl (by kernel_rfl) (by kernel_rfl) (by kernel_rfl) (fun _ _ _ h => by cases h.1) (.inl ⟨by kernel_rfl, fun _ _ => by kernel_rfl⟩) hS115 ?_
      simp only [List.setIfInBounds_toArray, List.set_cons_succ, List.set_cons_zero]
      refine takeD (i := 20) (d := 34) (v := .pointer (some ⟨w.heap.size, 0, none⟩)) (fuel := 21) rfl rfl (by kernel_rfl) (by kernel_rfl) (by kernel_rfl) (fun _ _ _ h => by cases h.1) (.inl ⟨by kernel_rfl, fun _ _ => by go_simp⟩) hS115 ?_
      simp only [List.setIfInBounds_toArray, List.set_cons_succ, List.set_cons_zero]
      refine takeD (i := 21) (d := 35) (v := .int .i64 i) (fuel := 20) rfl rfl (by kernel_rfl) (by kernel_rfl) (by kernel_rfl) (fun _ _ _ h => by cases h.1) (.inl ⟨by kernel_rfl, fun wx h => by have z9 := HCL.out wx h; go_simp⟩) hS115 ?_
      simp only [List.setIfInBounds_toArray, List.set_cons_succ, List.set_cons_zero]
      refine takeD (i := 23) (d := 37) (v := .string O) (fuel := 19) rfl rfl (by kernel_rfl) (by kernel_rfl) (by kernel_rfl) (fun _ _ _ h => by cases h.1) (.inl ⟨by kernel_rfl, fun _ _ => by kernel_rfl⟩) hS115 ?_
      simp only [List.setIfInBounds_toArray, List.set_cons_succ, List.set_cons_zero]
      refine takeD (i := 24) (d := 38) (v := .pointer (some ⟨w.heap.size, 0, none⟩)) (fuel := 18) rfl rfl (by kernel_rfl) (by kernel_rfl) (by kernel_rfl) (fun _ _ _ h => by cases h.1) (.inl ⟨by kernel_rfl, fun _ _ => by go_simp⟩) hS115 ?_
      simp only [List.setIfInBounds_toArray, List.set_cons_succ, List.set_cons_zero]
      refine takeD (i := 25) (d := 39) (v := .int .i64 i) (fuel := 17) rfl rfl (by kernel_rfl) (by kernel_rfl) (by kernel_rfl) (fun _ _ _ h => by cases h.1) (.inl ⟨by kernel_rfl, fun wx h => by have z9 := HCL.out wx h; go_simp⟩) hS115 ?_
      simp only [List.setIfInBounds_toArray, List.set_cons_succ, List.set_cons_zero]
      refine oneC (i := 22) (d := 36) (f := 12) (args := #[.slice a s.length cap, .int .i64 i]) (v := .int .i64 q3) (fuel := 16) rfl rfl (by kernel_rfl) (by kernel_rfl) (fun _ => by kernel_rfl) hS115 (fun wx h => HK12.out wx h) (fun wz hS122 => ?_)
      simp only [List.setIfInBounds_toArray, List.set_cons_succ, List.set_cons_zero]
      refine oneC (i := 26) (d := 40) (f := 13) (args := #[.string O, .int .i64 i]) (v := .int .i64 q3) (fuel := 15) rfl rfl (by kernel_rfl) (by kernel_rfl) (fun _ => by kernel_rfl) hS122 (fun wx h => HK13.out wx h) (fun wz hS126 => ?_)
      simp only [List.setIfInBounds_toArray, List.set_cons_succ, List.set_cons_zero]
      refine takeD (i := 27) (d := 41) (v := .bool true) (fuel := 14) rfl rfl (by kernel_rfl) (by kernel_rfl) (by kernel_rfl) (fun _ _ _ h => by cases h.1) (.inl ⟨by kernel_rfl, fun _ _ => by go_simp⟩) hS126 ?_
      simp only [List.setIfInBounds_toArray, List.set_cons_succ, List.set_cons_zero]
      refine takeD (i := 28) (d := 42) (v := .bool true) (fuel := 13) rfl rfl (by kernel_rfl) (by kernel_rfl) (by kernel_rfl) (fun _ _ _ h => by cases h.1) (.inl ⟨by kernel_rfl, fun _ _ => by kernel_rfl⟩) hS126 ?_
      simp only [List.setIfInBounds_toArray, List.set_cons_succ, List.set_cons_zero]
      refine takeD (i := 29) (d := 43) (v := .bool true) (fuel := 12) rfl rfl (by kernel_rfl) (by kernel_rfl) (by kernel_rfl) (fun _ _ _ h => by cases h.1) (.inl ⟨by kernel_rfl, fun _ _ => by kernel_rfl⟩) hS126 ?_
      simp only [List.setIfInBounds_toArray, List.set_cons_succ, List.set_cons_zero]
      refine takeD (i := 30) (d := 44) (v := .slice a s.length cap) (fuel := 11) rfl rfl (by kernel_rfl) (by kernel_rfl) (by kernel_rfl) (fun _ _ _ h => by cases h.1) (.inl ⟨by kernel_rfl, fun _ _ => by kernel_rfl⟩) hS126 ?_
      simp only [List.setIfInBounds_toArray, List.set_cons_succ, List.set_cons_zero]
      refine takeD (i := 31) (d := 45) (v := .int .i64 n) (fuel := 10) rfl rfl (by kernel_rfl) (by kernel_rfl) (by kernel_rfl) (fun _ _ _ h => by cases h.1) (.inl ⟨by kernel_rfl, fun _ _ => by kernel_rfl⟩) hS126 ?_
      simp only [List.setIfInBounds_toArray, List.set_cons_succ, List.set_cons_zero]
      refine takeD (i := 33) (d := 47) (v := .string O) (fuel := 9) rfl rfl (by kernel_rfl) (by kernel_rfl) (by kernel_rfl) (fun _ _ _ h => by cases h.1) (.inl ⟨by kernel_rfl, fun _ _ => by kernel_rfl⟩) hS126 ?_
      simp only [List.setIfInBounds_toArray, List.set_cons_succ, List.set_cons_zero]
      refine takeD (i := 34) (d := 48) (v := .int .i64 n) (fuel := 8) rfl rfl (by kernel_rfl) (by kernel_rfl) (by kernel_rfl) (fun _ _ _ h => by cases h.1) (.inl ⟨by kernel_rfl, fun _ _ => by kernel_rfl⟩) hS126 ?_
      simp only [List.setIfInBounds_toArray, List.set_cons_succ, List.set_cons_zero]
      refine oneC (i := 32) (d := 46) (f := 14) (args := #[.slice a s.length cap, .int .i64 n]) (v := .int .i64 q4) (fuel := 7) rfl rfl (by kernel_rfl) (by kernel_rfl) (fun _ => by kernel_rfl) hS126 (fun wx h => HK14.out wx h) (fun wz hS132 => ?_)
      simp only [List.setIfInBounds_toArray, List.set_cons_succ, List.set_cons_zero]
      refine oneC (i := 35) (d := 49) (f := 15) (args := #[.string O, .int .i64 n]) (v := .int .i64 q4) (fuel := 6) rfl rfl (by kernel_rfl) (by kernel_rfl) (fun _ => by kernel_rfl) hS132 (fun wx h => HK15.out wx h) (fun wz hS135 => ?_)
      simp only [List.setIfInBounds_toArray, List.set_cons_succ, List.set_cons_zero]
      refine takeD (i := 36) (d := 50) (v := .bool true) (fuel := 5) rfl rfl (by kernel_rfl) (by kernel_rfl) (by kernel_rfl) (fun _ _ _ h => by cases h.1) (.inl ⟨by kernel_rfl, fun _ _ => by go_simp⟩) hS135 ?_
      simp only [List.setIfInBounds_toArray, List.set_cons_succ, List.set_cons_zero]
      refine takeD (i := 37) (d := 51) (v := .bool true) (fuel := 4) rfl rfl (by kernel_rfl) (by kernel_rfl) (by kernel_rfl) (fun _ _ _ h => by cases h.1) (.inl ⟨by kernel_rfl, fun _ _ => by kernel_rfl⟩) hS135 ?_
      simp only [List.setIfInBounds_toArray, List.set_cons_succ, List.set_cons_zero]
      refine takeD (i := 38) (d := 52) (v := .bool true) (fuel := 3) rfl rfl (by kernel_rfl) (by kernel_rfl) (by kernel_rfl) (fun _ _ _ h => by cases h.1) (.inl ⟨by kernel_rfl, fun _ _ => by kernel_rfl⟩) hS135 ?_
      simp only [List.setIfInBounds_toArray, List.set_cons_succ, List.set_cons_zero]
      refine oneC (i := 39) (d := 53) (f := 7) (args := #[]) (v := .bool true) (fuel := 2) rfl rfl (by kernel_rfl) (by kernel_rfl) (fun _ => by kernel_rfl) hS135 (fun wx h => HK7.out wx h) (fun wz hS139 => ?_)
      simp only [List.setIfInBounds_toArray, List.set_cons_succ, List.set_cons_zero]
      refine takeD (i := 40) (d := 54) (v := .bool true) (fuel := 1) rfl rfl (by kernel_rfl) (by kernel_rfl) (by kernel_rfl) (fun _ _ _ h => by cases h.1) (.inl ⟨by kernel_rfl, fun _ _ => by kernel_rfl⟩) hS139 ?_
      simp only [List.setIfInBounds_toArray, List.set_cons_succ, List.set_cons_zero]
      refine takeD (i := 41) (d := 6) (v := .bool true) (fuel := 0) rfl rfl (by kernel_rfl) (by kernel_rfl) (by kernel_rfl) (fun _ _ _ h => by cases h.1) (.inl ⟨by kernel_rfl, fun _ _ => by kernel_rfl⟩) hS139 ?_
      simp only [List.setIfInBounds_toArray, List.set_cons_succ, List.set_cons_zero]
      refine wpAnyH_done (by kernel_rfl) ?_ _
      exact ⟨rfl, by kernel_rfl, hS139⟩
    · intro w9 hF
      simp only [setAll, List.setIfInBounds_toArray, List.set_cons_succ, List.set_cons_zero]
      have HFin : Hid _ := hF
      clear hF
      go_wp2_with fail
      go_ret
      exact ⟨rfl, HB1.out.trans (HFin.out.mono HB1.out.size)⟩
end Go.Proofs.YtfemfekhpfkafaaDoor.Or
