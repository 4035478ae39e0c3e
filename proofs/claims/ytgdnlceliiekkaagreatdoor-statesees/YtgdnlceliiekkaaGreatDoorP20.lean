/- Texts of the seat, packed: Kd. -/
import Derived.Test.YtgdnlceliiekkaaGreatDoorP15
/- The walks over rightOf and the methods of turn. -/
namespace Go.Proofs.YtgdnlceliiekkaaGreatDoor.Fc

open Go.RowKit Go.Shelf

set_option maxRecDepth 1000000

set_option linter.unusedVariables false

set_option maxHeartbeats 2000000 in
theorem start_any (f : Fa) (t : Int) (w : World) (h0 : 0 ≤ t) (h3 : t ≤ 3) : Calls Tryz.prog 59 #[TuV f t] w fun e w' => e = .returned (.tuple #[FaV begunF, .bool (decide (f = Fa.z))]) ∧ Below w.heap.size w w' := by
  obtain ⟨q, hE⟩ : ∃ q, decide (f = Fa.z) = q := ⟨_, rfl⟩
  rw [hE]
  have hM0 := MeS.init w f t
  have HF : Hid (FaV f = .agg #[.int .i64 f.run, .int .i64 f.tries, .int .i64 f.slips, .bool f.un]) := rfl
  unfold TuV
  go_enter Tryz.func59, Tryz.ntmps59
  go_wp2_with fail
  generalize (w.alloc (.cells #[.int .i64 f.run, .int .i64 f.tries, .int .i64 f.slips, .bool f.un, .int .i64 t] 90)).alloc (.cells #[.int .i64 0, .int .i64 0, .int .i64 0, .bool false] 65) = w0 at *
  have hS0 : MeS w f t w0.drew := hM0.later (Below.refl _ _).drew
  refine region_thenF [(4, FaV begunF), (5, .pointer (some ⟨w.heap.size, 0, none⟩)), (6, FaV f), (7, FaV Fa.z), (8, .bool q), (3, .bool q)] (fun w' => MeS w f t w' ∧ w'.heap[w.heap.size + 1]? = some (.cells (Fa.cells begunF).toArray 65 (0, 0))) ?_ ?_
  · refine wp_region_held (S := fun w' => MeS w f t w') (by kernel_rfl) ?_
    simp only [List.size_toArray, List.length_cons, List.length_nil, Nat.reduceAdd, Array.replicate_succ, Array.replicate_zero, List.push_toArray, List.nil_append, List.cons_append]
    refine takeD (i := 1) (d := 5) (v := .pointer (some ⟨w.heap.size, 0, none⟩)) (fuel := 6) rfl rfl (by kernel_rfl) (by kernel_rfl) (by kernel_rfl) (fun _ _ _ h => by cases h.1) (.inl ⟨by kernel_rfl, fun _ _ => by go_simp⟩) hS0 ?_
    simp only [List.setIfInBounds_toArray, List.set_cons_succ, List.set_cons_zero]
    refine takeD (i := 2) (d := 6) (v := FaV f) (fuel := 5) rfl rfl (by kernel_rfl) (by kernel_rfl) (by kernel_rfl) (fun _ _ _ h => by cases h.1) (.inl ⟨by kernel_rfl, fun wx h => by rw [HF.out]; have z0 := h.c 0; have z1 := h.c 1; have z2 := h.c 2; have z3 := h.c 3; simp only [List.getElem?_toArray, List.getElem?_cons_zero, List.getElem?_cons_succ] at z0 z1 z2 z3; go_simp⟩) hS0 ?_
    simp only [List.setIfInBounds_toArray, List.set_cons_succ, List.set_cons_zero]
    refine oneC (i := 0) (d := 4) (f := 87) (args := #[]) (v := FaV begunF) (fuel := 4) rfl rfl (by kernel_rfl) (by kernel_rfl) (fun _ => by kernel_rfl) hS0 (fun wx h => Calls.mono (begun_any wx) (by rintro e w2 ⟨rfl, hb⟩; exact ⟨rfl, h.later hb⟩)) (fun wz hS100 => ?_)
    simp only [List.setIfInBounds_toArray, List.set_cons_succ, List.set_cons_zero]
    refine oneC (i := 3) (d := 7) (f := 54) (args := #[]) (v := FaV Fa.z) (fuel := 3) rfl rfl (by kernel_rfl) (by kernel_rfl) (fun _ => by kernel_rfl) hS100 (fun wx h => Calls.mono (idle_any wx) (by rintro e w2 ⟨rfl, hb⟩; exact ⟨rfl, h.later hb⟩)) (fun wz hS103 => ?_)
    simp only [List.setIfInBounds_toArray, List.set_cons_succ, List.set_cons_zero]
    refine takeD (i := 4) (d := 8) (v := .bool q) (fuel := 2) rfl rfl (by kernel_rfl) (by kernel_rfl) (by kernel_rfl) (fun _ _ _ h => by cases h.1) (.inl ⟨by kernel_rfl, fun wx h => eq_exec f Fa.z (x := .tmp 6) (y := .tmp 7) rfl rfl rfl hE⟩) hS103 ?_
    simp only [List.setIfInBounds_toArray, List.set_cons_succ, List.set_cons_zero]
    refine wpAnyH_all (fuel := 1) (rs := [5]) (by kernel_rfl) (by decide) (List.forall_mem_singleton.2 ?_)
    refine MeS.step (i := 5) (x := .tmp 2) (y := .tmp 4) hS103 begunF rfl rfl (by kernel_rfl) rfl rfl rfl (fun wS hSS hgS => ⟨hSS, ?_⟩)
    refine takeD (i := 6) (d := 3) (v := .bool q) (fuel := 0) rfl rfl (by kernel_rfl) (by kernel_rfl) (by kernel_rfl) (fun _ _ _ h => by cases h.1) (.inl ⟨by kernel_rfl, fun _ _ => by kernel_rfl⟩) hSS ?_
    simp only [List.setIfInBounds_toArray, List.set_cons_succ, List.set_cons_zero]
    refine wpAnyH_done (by kernel_rfl) ?_ _
    exact ⟨rfl, by kernel_rfl, hSS, hgS⟩
  · intro w9 hF
    simp only [setAll, List.setIfInBounds_toArray, List.set_cons_succ, List.set_cons_zero]
    have HF9 : Hid _ := hF
    clear hF
    go_wp2_with fail
    exact bodyPost_ret_by (results_fa2 rfl _ _ rfl HF9.out.2) rfl ⟨rfl, HF9.out.1.bel⟩

set_option maxHeartbeats 2000000 in
theorem ok_any (f : Fa) (t : Int) (w : World) (h0 : 0 ≤ t) (h3 : t ≤ 3) : Calls Tryz.prog 60 #[TuV f t] w fun e w' => e = .returned (.tuple #[FaV (untriedF 0), .bool (decide (f = begunF))]) ∧ Below w.heap.size w w' := by
  obtain ⟨q, hE⟩ : ∃ q, decide (f = begunF) = q := ⟨_, rfl⟩
  rw [hE]
  have hM0 := MeS.init w f t
  have HF : Hid (FaV f = .agg #[.int .i64 f.run, .int .i64 f.tries, .int .i64 f.slips, .bool f.un]) := rfl
  unfold TuV
  go_enter Tryz.func60, Tryz.ntmps60
  go_wp2_with fail
  generalize (w.alloc (.cells #[.int .i64 f.run, .int .i64 f.tries, .int .i64 f.slips, .bool f.un, .int .i64 t] 90)).alloc (.cells #[.int .i64 0, .int .i64 0, .int .i64 0, .bool false] 65) = w0 at *
  have hS0 : MeS w f t w0.drew := hM0.later (Below.refl _ _).drew
  refine region_thenF [(4, FaV (untriedF 0)), (5, .pointer (some ⟨w.heap.size, 0, none⟩)), (6, FaV f), (7, FaV begunF), (8, .bool q), (3, .bool q)] (fun w' => MeS w f t w' ∧ w'.heap[w.heap.size + 1]? = some (.cells (Fa.cells (untriedF 0)).toArray 65 (0, 0))) ?_ ?_
  · refine wp_region_held (S := fun w' => MeS w f t w') (by kernel_rfl) ?_
    simp only [List.size_toArray, List.length_cons, List.length_nil, Nat.reduceAdd, Array.replicate_succ, Array.replicate_zero, List.push_toArray, List.nil_append, List.cons_append]
    refine takeD (i := 1) (d := 5) (v := .pointer (some ⟨w.heap.size, 0, none⟩)) (fuel := 6) rfl rfl (by kernel_rfl) (by kernel_rfl) (by kernel_rfl) (fun _ _ _ h => by cases h.1) (.inl ⟨by kernel_rfl, fun _ _ => by go_simp⟩) hS0 ?_
    simp only [List.setIfInBounds_toArray, List.set_cons_succ, List.set_cons_zero]
    refine takeD (i := 2) (d := 6) (v := FaV f) (fuel := 5) rfl rfl (by kernel_rfl) (by kernel_rfl) (by kernel_rfl) (fun _ _ _ h => by cases h.1) (.inl ⟨by kernel_rfl, fun wx h => by rw [HF.out]; have z0 := h.c 0; have z1 := h.c 1; have z2 := h.c 2; have z3 := h.c 3; simp only [List.getElem?_toArray, List.getElem?_cons_zero, List.getElem?_cons_succ] at z0 z1 z2 z3; go_simp⟩) hS0 ?_
    simp only [List.setIfInBounds_toArray, List.set_cons_succ, List.set_cons_zero]
    refine oneC (i := 0) (d := 4) (f := 88) (args := #[.int .i64 0]) (v := FaV (untriedF 0)) (fuel := 4) rfl rfl (by kernel_rfl) (by kernel_rfl) (fun _ => by kernel_rfl) hS0 (fun wx h => Calls.mono (untried_any _ wx) (by rintro e w2 ⟨rfl, hb⟩; exact ⟨rfl, h.later hb⟩)) (fun wz hS100 => ?_)
    simp only [List.setIfInBounds_toArray, List.set_cons_succ, List.set_cons_zero]
    refine oneC (i := 3) (d := 7) (f := 87) (args := #[]) (v := FaV begunF) (fuel := 3) rfl rfl (by kernel_rfl) (by kernel_rfl) (fun _ => by kernel_rfl) hS100 (fun wx h => Calls.mono (begun_any wx) (by rintro e w2 ⟨rfl, hb⟩; exact ⟨rfl, h.later hb⟩)) (fun wz hS103 => ?_)
    simp only [List.setIfInBounds_toArray, List.set_cons_succ, List.set_cons_zero]
    refine takeD (i := 4) (d := 8) (v := .bool q) (fuel := 2) rfl rfl (by kernel_rfl) (by kernel_rfl) (by kernel_rfl) (fun _ _ _ h => by cases h.1) (.inl ⟨by kernel_rfl, fun wx h => eq_exec f begunF (x := .tmp 6) (y := .tmp 7) rfl rfl rfl hE⟩) hS103 ?_
    simp only [List.setIfInBounds_toArray, List.set_cons_succ, List.set_cons_zero]
    refine wpAnyH_all (fuel := 1) (rs := [5]) (by kernel_rfl) (by decide) (List.forall_mem_singleton.2 ?_)
    refine MeS.step (i := 5) (x := .tmp 2) (y := .tmp 4) hS103 (untriedF 0) rfl rfl (by kernel_rfl) rfl rfl rfl (fun wS hSS hgS => ⟨hSS, ?_⟩)
    refine takeD (i := 6) (d := 3) (v := .bool q) (fuel := 0) rfl rfl (by kernel_rfl) (by kernel_rfl) (by kernel_rfl) (fun _ _ _ h => by cases h.1) (.inl ⟨by kernel_rfl, fun _ _ => by kernel_rfl⟩) hSS ?_
    simp only [List.setIfInBounds_toArray, List.set_cons_succ, List.set_cons_zero]
    refine wpAnyH_done (by kernel_rfl) ?_ _
    exact ⟨rfl, by kernel_rfl, hSS, hgS⟩
  · intro w9 hF
    simp only [setAll, List.setIfInBounds_toArray, List.set_cons_succ, List.set_cons_zero]
    have HF9 : Hid _ := hF
    clear hF
    go_wp2_with fail
    exact bodyPost_ret_by (results_fa2 rfl _ _ rfl HF9.out.2) rfl ⟨rfl, HF9.out.1.bel⟩

set_option maxHeartbeats 2000000 in
theorem fail_any (f : Fa) (t : Int) (w : World) (h0 : 0 ≤ t) (h3 : t ≤ 3) : Calls Tryz.prog 61 #[TuV f t] w fun e w' => e = .returned (.tuple #[FaV failedF, .bool (decide (f = begunF))]) ∧ Below w.heap.size w w' := by
  obtain ⟨q, hE⟩ : ∃ q, decide (f = begunF) = q := ⟨_, rfl⟩
  rw [hE]
  have hM0 := MeS.init w f t
  have HF : Hid (FaV f = .agg #[.int .i64 f.run, .int .i64 f.tries, .int .i64 f.slips, .bool f.un]) := rfl
  unfold TuV
  go_enter Tryz.func61, Tryz.ntmps61
  go_wp2_with fail
  generalize (w.alloc (.cells #[.int .i64 f.run, .int .i64 f.tries, .int .i64 f.slips, .bool f.un, .int .i64 t] 90)).alloc (.cells #[.int .i64 0, .int .i64 0, .int .i64 0, .bool false] 65) = w0 at *
  have hS0 : MeS w f t w0.drew := hM0.later (Below.refl _ _).drew
  refine region_thenF [(4, FaV failedF), (5, .pointer (some ⟨w.heap.size, 0, none⟩)), (6, FaV f), (7, FaV begunF), (8, .bool q), (3, .bool q)] (fun w' => MeS w f t w' ∧ w'.heap[w.heap.size + 1]? = some (.cells (Fa.cells failedF).toArray 65 (0, 0))) ?_ ?_
  · refine wp_region_held (S := fun w' => MeS w f t w') (by kernel_rfl) ?_
    simp only [List.size_toArray, List.length_cons, List.length_nil, Nat.reduceAdd, Array.replicate_succ, Array.replicate_zero, List.push_toArray, List.nil_append, List.cons_append]
    refine takeD (i := 1) (d := 5) (v := .pointer (some ⟨w.heap.size, 0, none⟩)) (fuel := 6) rfl rfl (by kernel_rfl) (by kernel_rfl) (by kernel_rfl) (fun _ _ _ h => by cases h.1) (.inl ⟨by kernel_rfl, fun _ _ => by go_simp⟩) hS0 ?_
    simp only [List.setIfInBounds_toArray, List.set_cons_succ, List.set_cons_zero]
    refine takeD (i := 2) (d := 6) (v := FaV f) (fuel := 5) rfl rfl (by kernel_rfl) (by kernel_rfl) (by kernel_rfl) (fun _ _ _ h => by cases h.1) (.inl ⟨by kernel_rfl, fun wx h => by rw [HF.out]; have z0 := h.c 0; have z1 := h.c 1; have z2 := h.c 2; have z3 := h.c 3; simp only [List.getElem?_toArray, List.getElem?_cons_zero, List.getElem?_cons_succ] at z0 z1 z2 z3; go_simp⟩) hS0 ?_
    simp only [List.setIfInBounds_toArray, List.set_cons_succ, List.set_cons_zero]
    refine oneC (i := 0) (d := 4) (f := 89) (args := #[]) (v := FaV failedF) (fuel := 4) rfl rfl (by kernel_rfl) (by kernel_rfl) (fun _ => by kernel_rfl) hS0 (fun wx h => Calls.mono (failed_any wx) (by rintro e w2 ⟨rfl, hb⟩; exact ⟨rfl, h.later hb⟩)) (fun wz hS100 => ?_)
    simp only [List.setIfInBounds_toArray, List.set_cons_succ, List.set_cons_zero]
    refine oneC (i := 3) (d := 7) (f := 87) (args := #[]) (v := FaV begunF) (fuel := 3) rfl rfl (by kernel_rfl) (by kernel_rfl) (fun _ => by kernel_rfl) hS100 (fun wx h => Calls.mono (begun_any wx) (by rintro e w2 ⟨rfl, hb⟩; exact ⟨rfl, h.later hb⟩)) (fun wz hS103 => ?_)
    simp only [List.setIfInBounds_toArray, List.set_cons_succ, List.set_cons_zero]
    refine takeD (i := 4) (d := 8) (v := .bool q) (fuel := 2) rfl rfl (by kernel_rfl) (by kernel_rfl) (by kernel_rfl) (fun _ _ _ h => by cases h.1) (.inl ⟨by kernel_rfl, fun wx h => eq_exec f begunF (x := .tmp 6) (y := .tmp 7) rfl rfl rfl hE⟩) hS103 ?_
    simp only [List.setIfInBounds_toArray, List.set_cons_succ, List.set_cons_zero]
    refine wpAnyH_all (fuel := 1) (rs := [5]) (by kernel_rfl) (by decide) (List.forall_mem_singleton.2 ?_)
    refine MeS.step (i := 5) (x := .tmp 2) (y := .tmp 4) hS103 failedF rfl rfl (by kernel_rfl) rfl rfl rfl (fun wS hSS hgS => ⟨hSS, ?_⟩)
    refine takeD (i := 6) (d := 3) (v := .bool q) (fuel := 0) rfl rfl (by kernel_rfl) (by kernel_rfl) (by kernel_rfl) (fun _ _ _ h => by cases h.1) (.inl ⟨by kernel_rfl, fun _ _ => by kernel_rfl⟩) hSS ?_
    simp only [List.setIfInBounds_toArray, List.set_cons_succ, List.set_cons_zero]
    refine wpAnyH_done (by kernel_rfl) ?_ _
    exact ⟨rfl, by kernel_rfl, hSS, hgS⟩
  · intro w9 hF
    simp only [setAll, List.setIfInBounds_toArray, List.set_cons_succ, List.set_cons_zero]
    have HF9 : Hid _ := hF
    clear hF
    go_wp2_with fail
    exact bodyPost_ret_by (results_fa2 rfl _ _ rfl HF9.out.2) rfl ⟨rfl, HF9.out.1.bel⟩

set_option maxHeartbeats 2000000 in
theorem undo_any (f : Fa) (t : Int) (w : World) (h0 : 0 ≤ t) (h3 : t ≤ 3) : Calls Tryz.prog 62 #[TuV f t] w fun e w' => e = .returned (.tuple #[FaV (tryingF t), .bool (decide (f = (untriedF t)))]) ∧ Below w.heap.size w w' := by
  obtain ⟨q, hE⟩ : ∃ q, decide (f = (untriedF t)) = q := ⟨_, rfl⟩
  rw [hE]
  have hM0 := MeS.init w f t
  have HF : Hid (FaV f = .agg #[.int .i64 f.run, .int .i64 f.tries, .int .i64 f.slips, .bool f.un]) := rfl
  unfold TuV
  go_enter Tryz.func62, Tryz.ntmps62
  go_wp2_with fail
  generalize (w.alloc (.cells #[.int .i64 f.run, .int .i64 f.tries, .int .i64 f.slips, .bool f.un, .int .i64 t] 90)).alloc (.cells #[.int .i64 0, .int .i64 0, .int .i64 0, .bool false] 65) = w0 at *
  have hS0 : MeS w f t w0.drew := hM0.later (Below.refl _ _).drew
  refine region_thenF [(4, .pointer (some ⟨w.heap.size, 4, none⟩)), (5, .int .i64 t), (6, FaV (tryingF t)), (7, .pointer (some ⟨w.heap.size, 0, none⟩)), (8, FaV f), (9, .pointer (some ⟨w.heap.size, 4, none⟩)), (10, .int .i64 t), (11, FaV (untriedF t)), (12, .bool q), (3, .bool q)] (fun w' => MeS w f t w' ∧ w'.heap[w.heap.size + 1]? = some (.cells (Fa.cells (tryingF t)).toArray 65 (0, 0))) ?_ ?_
  · refine wp_region_held (S := fun w' => MeS w f t w') (by kernel_rfl) ?_
    simp only [List.size_toArray, List.length_cons, List.length_nil, Nat.reduceAdd, Array.replicate_succ, Array.replicate_zero, List.push_toArray, List.nil_append, List.cons_append]
    refine takeD (i := 0) (d := 4) (v := .pointer (some ⟨w.heap.size, 4, none⟩)) (fuel := 10) rfl rfl (by kernel_rfl) (by kernel_rfl) (by kernel_rfl) (fun _ _ _ h => by cases h.1) (.inl ⟨by kernel_rfl, fun _ _ => by go_simp⟩) hS0 ?_
    simp only [List.setIfInBounds_toArray, List.set_cons_succ, List.set_cons_zero]
    refine takeD (i := 1) (d := 5) (v := .int .i64 t) (fuel := 9) rfl rfl (by kernel_rfl) (by kernel_rfl) (by kernel_rfl) (fun _ _ _ h => by cases h.1) (.inl ⟨by kernel_rfl, fun wx h => by have z4 := h.c 4; simp only [List.getElem?_toArray, List.getElem?_cons_zero, List.getElem?_cons_succ] at z4; go_simp⟩) hS0 ?_
    simp only [List.setIfInBounds_toArray, List.set_cons_succ, List.set_cons_zero]
    refine takeD (i := 3) (d := 7) (v := .pointer (some ⟨w.heap.size, 0, none⟩)) (fuel := 8) rfl rfl (by kernel_rfl) (by kernel_rfl) (by kernel_rfl) (fun _ _ _ h => by cases h.1) (.inl ⟨by kernel_rfl, fun _ _ => by go_simp⟩) hS0 ?_
    simp only [List.setIfInBounds_toArray, List.set_cons_succ, List.set_cons_zero]
    refine takeD (i := 4) (d := 8) (v := FaV f) (fuel := 7) rfl rfl (by kernel_rfl) (by kernel_rfl) (by kernel_rfl) (fun _ _ _ h => by cases h.1) (.inl ⟨by kernel_rfl, fun wx h => by rw [HF.out]; have z0 := h.c 0; have z1 := h.c 1; have z2 := h.c 2; have z3 := h.c 3; simp only [List.getElem?_toArray, List.getElem?_cons_zero, List.getElem?_cons_succ] at z0 z1 z2 z3; go_simp⟩) hS0 ?_
    simp only [List.setIfInBounds_toArray, List.set_cons_succ, List.set_cons_zero]
    refine takeD (i := 5) (d := 9) (v := .pointer (some ⟨w.heap.size, 4, none⟩)) (fuel := 6) rfl rfl (by kernel_rfl) (by kernel_rfl) (by kernel_rfl) (fun _ _ _ h => by cases h.1) (.inl ⟨by kernel_rfl, fun _ _ => by go_simp⟩) hS0 ?_
    simp only [List.setIfInBounds_toArray, List.set_cons_succ, List.set_cons_zero]
    refine takeD (i := 6) (d := 10) (v := .int .i64 t) (fuel := 5) rfl rfl (by kernel_rfl) (by kernel_rfl) (by kernel_rfl) (fun _ _ _ h => by cases h.1) (.inl ⟨by kernel_rfl, fun wx h => by have z4 := h.c 4; simp only [List.getElem?_toArray, List.getElem?_cons_zero, List.getElem?_cons_succ] at z4; go_simp⟩) hS0 ?_
    simp only [List.setIfInBounds_toArray, List.set_cons_succ, List.set_cons_zero]
    refine oneC (i := 2) (d := 6) (f := 90) (args := #[.int .i64 t]) (v := FaV (tryingF t)) (fuel := 4) rfl rfl (by kernel_rfl) (by kernel_rfl) (fun _ => by kernel_rfl) hS0 (fun wx h => Calls.mono (trying_any _ wx h0 h3) (by rintro e w2 ⟨rfl, hb⟩; exact ⟨rfl, h.later hb⟩)) (fun wz hS102 => ?_)
    simp only [List.setIfInBounds_toArray, List.set_cons_succ, List.set_cons_zero]
    refine oneC (i := 7) (d := 11) (f := 88) (args := #[.int .i64 t]) (v := FaV (untriedF t)) (fuel := 3) rfl rfl (by kernel_rfl) (by kernel_rfl) (fun _ => by kernel_rfl) hS102 (fun wx h => Calls.mono (untried_any _ wx) (by rintro e w2 ⟨rfl, hb⟩; exact ⟨rfl, h.later hb⟩)) (fun wz hS107 => ?_)
    simp only [List.setIfInBounds_toArray, List.set_cons_succ, List.set_cons_zero]
    refine takeD (i := 8) (d := 12) (v := .bool q) (fuel := 2) rfl rfl (by kernel_rfl) (by kernel_rfl) (by kernel_rfl) (fun _ _ _ h => by cases h.1) (.inl ⟨by kernel_rfl, fun wx h => eq_exec f (untriedF t) (x := .tmp 8) (y := .tmp 11) rfl rfl rfl hE⟩) hS107 ?_
    simp only [List.setIfInBounds_toArray, List.set_cons_succ, List.set_cons_zero]
    refine wpAnyH_all (fuel := 1) (rs := [9]) (by kernel_rfl) (by decide) (List.forall_mem_singleton.2 ?_)
    refine MeS.step (i := 9) (x := .tmp 2) (y := .tmp 6) hS107 (tryingF t) rfl rfl (by kernel_rfl) rfl rfl rfl (fun wS hSS hgS => ⟨hSS, ?_⟩)
    refine takeD (i := 10) (d := 3) (v := .bool q) (fuel := 0) rfl rfl (by kernel_rfl) (by kernel_rfl) (by kernel_rfl) (fun _ _ _ h => by cases h.1) (.inl ⟨by kernel_rfl, fun _ _ => by kernel_rfl⟩) hSS ?_
    simp only [List.setIfInBounds_toArray, List.set_cons_succ, List.set_cons_zero]
    refine wpAnyH_done (by kernel_rfl) ?_ _
    exact ⟨rfl, by kernel_rfl, hSS, hgS⟩
  · intro w9 hF
    simp only [setAll, List.setIfInBounds_toArray, List.set_cons_succ, List.set_cons_zero]
    have HF9 : Hid _ := hF
    clear hF
    go_wp2_with fail
    exact bodyPost_ret_by (results_fa2 rfl _ _ rfl HF9.out.2) rfl ⟨rfl, HF9.out.1.bel⟩

set_option maxHeartbeats 2000000 in
theorem undone_any (f : Fa) (t : Int) (w : World) (h0 : 0 ≤ t) (h3 : t ≤ 3) : Calls Tryz.prog 63 #[TuV f t] w fun e w' => e = .returned (.tuple #[FaV (undoneF t), .bool (decide (f = (tryingF t)))]) ∧ Below w.heap.size w w' := by
  obtain ⟨q, hE⟩ : ∃ q, decide (f = (tryingF t)) = q := ⟨_, rfl⟩
  rw [hE]
  have hM0 := MeS.init w f t
  have HF : Hid (FaV f = .agg #[.int .i64 f.run, .int .i64 f.tries, .int .i64 f.slips, .bool f.un]) := rfl
  unfold TuV
  go_enter Tryz.func63, Tryz.ntmps63
  go_wp2_with fail
  generalize (w.alloc (.cells #[.int .i64 f.run, .int .i64 f.tries, .int .i64 f.slips, .bool f.un, .int .i64 t] 90)).alloc (.cells #[.int .i64 0, .int .i64 0, .int .i64 0, .bool false] 65) = w0 at *
  have hS0 : MeS w f t w0.drew := hM0.later (Below.refl _ _).drew
  refine region_thenF [(4, .pointer (some ⟨w.heap.size, 4, none⟩)), (5, .int .i64 t), (6, FaV (undoneF t)), (7, .pointer (some ⟨w.heap.size, 0, none⟩)), (8, FaV f), (9, .pointer (some ⟨w.heap.size, 4, none⟩)), (10, .int .i64 t), (11, FaV (tryingF t)), (12, .bool q), (3, .bool q)] (fun w' => MeS w f t w' ∧ w'.heap[w.heap.size + 1]? = some (.cells (Fa.cells (undoneF t)).toArray 65 (0, 0))) ?_ ?_
  · refine wp_region_held (S := fun w' => MeS w f t w') (by kernel_rfl) ?_
    simp only [List.size_toArray, List.length_cons, List.length_nil, Nat.reduceAdd, Array.replicate_succ, Array.replicate_zero, List.push_toArray, List.nil_append, List.cons_append]
    refine takeD (i := 0) (d := 4) (v := .pointer (some ⟨w.heap.size, 4, none⟩)) (fuel := 10) rfl rfl (by kernel_rfl) (by kernel_rfl) (by kernel_rfl) (fun _ _ _ h => by cases h.1) (.inl ⟨by kernel_rfl, fun _ _ => by go_simp⟩) hS0 ?_
    simp only [List.setIfInBounds_toArray, List.set_cons_succ, List.set_cons_zero]
    refine takeD (i := 1) (d := 5) (v := .int .i64 t) (fuel := 9) rfl rfl (by kernel_rfl) (by kernel_rfl) (by kernel_rfl) (fun _ _ _ h => by cases h.1) (.inl ⟨by kernel_rfl, fun wx h => by have z4 := h.c 4; simp only [List.getElem?_toArray, List.getElem?_cons_zero, List.getElem?_cons_succ] at z4; go_simp⟩) hS0 ?_
    simp only [List.setIfInBounds_toArray, List.set_cons_succ, List.set_cons_zero]
    refine takeD (i := 3) (d := 7) (v := .pointer (some ⟨w.heap.size, 0, none⟩)) (fuel := 8) rfl rfl (by kernel_rfl) (by kernel_rfl) (by kernel_rfl) (fun _ _ _ h => by cases h.1) (.inl ⟨by kernel_rfl, fun _ _ => by go_simp⟩) hS0 ?_
    simp only [List.setIfInBounds_toArray, List.set_cons_succ, List.set_cons_zero]
    refine takeD (i := 4) (d := 8) (v := FaV f) (fuel := 7) rfl rfl (by kernel_rfl) (by kernel_rfl) (by kernel_rfl) (fun _ _ _ h => by cases h.1) (.inl ⟨by kernel_rfl, fun wx h => by rw [HF.out]; have z0 := h.c 0; have z1 := h.c 1; have z2 := h.c 2; have z3 := h.c 3; simp only [List.getElem?_toArray, List.getElem?_cons_zero, List.getElem?_cons_succ] at z0 z1 z2 z3; go_simp⟩) hS0 ?_
    simp only [List.setIfInBounds_toArray, List.set_cons_succ, List.set_cons_zero]
    refine takeD (i := 5) (d := 9) (v := .pointer (some ⟨w.heap.size, 4, none⟩)) (fuel := 6) rfl rfl (by kernel_rfl) (by kernel_rfl) (by kernel_rfl) (fun _ _ _ h => by cases h.1) (.inl ⟨by kernel_rfl, fun _ _ => by go_simp⟩) hS0 ?_
    simp only [List.setIfInBounds_toArray, List.set_cons_succ, List.set_cons_zero]
    refine takeD (i := 6) (d := 10) (v := .int .i64 t) (fuel := 5) rfl rfl (by kernel_rfl) (by kernel_rfl) (by kernel_rfl) (fun _ _ _ h => by cases h.1) (.inl ⟨by kernel_rfl, fun wx h => by have z4 := h.c 4; simp only [List.getElem?_toArray, List.getElem?_cons_zero, List.getElem?_cons_succ] at z4; go_simp⟩) hS0 ?_
    simp only [List.setIfInBounds_toArray, List.set_cons_succ, List.set_cons_zero]
    refine oneC (i := 2) (d := 6) (f := 91) (args := #[.int .i64 t]) (v := FaV (undoneF t)) (fuel := 4) rfl rfl (by kernel_rfl) (by kernel_rfl) (fun _ => by kernel_rfl) hS0 (fun wx h => Calls.mono (undoneBy_any _ wx h0 h3) (by rintro e w2 ⟨rfl, hb⟩; exact ⟨rfl, h.later hb⟩)) (fun wz hS102 => ?_)
    simp only [List.setIfInBounds_toArray, List.set_cons_succ, List.set_cons_zero]
    refine oneC (i := 7) (d := 11) (f := 90) (args := #[.int .i64 t]) (v := FaV (tryingF t)) (fuel := 3) rfl rfl (by kernel_rfl) (by kernel_rfl) (fun _ => by kernel_rfl) hS102 (fun wx h => Calls.mono (trying_any _ wx h0 h3) (by rintro e w2 ⟨rfl, hb⟩; exact ⟨rfl, h.later hb⟩)) (fun wz hS107 => ?_)
    simp only [List.setIfInBounds_toArray, List.set_cons_succ, List.set_cons_zero]
    refine takeD (i := 8) (d := 12) (v := .bool q) (fuel := 2) rfl rfl (by kernel_rfl) (by kernel_rfl) (by kernel_rfl) (fun _ _ _ h => by cases h.1) (.inl ⟨by kernel_rfl, fun wx h => eq_exec f (tryingF t) (x := .tmp 8) (y := .tmp 11) rfl rfl rfl hE⟩) hS107 ?_
    simp only [List.setIfInBounds_toArray, List.set_cons_succ, List.set_cons_zero]
    refine wpAnyH_all (fuel := 1) (rs := [9]) (by kernel_rfl) (by decide) (List.forall_mem_singleton.2 ?_)
    refine MeS.step (i := 9) (x := .tmp 2) (y := .tmp 6) hS107 (undoneF t) rfl rfl (by kernel_rfl) rfl rfl rfl (fun wS hSS hgS => ⟨hSS, ?_⟩)
    refine takeD (i := 10) (d := 3) (v := .bool q) (fuel := 0) rfl rfl (by kernel_rfl) (by kernel_rfl) (by kernel_rfl) (fun _ _ _ h => by cases h.1) (.inl ⟨by kernel_rfl, fun _ _ => by kernel_rfl⟩) hSS ?_
    simp only [List.setIfInBounds_toArray, List.set_cons_succ, List.set_cons_zero]
    refine wpAnyH_done (by kernel_rfl) ?_ _
    exact ⟨rfl, by kernel_rfl, hSS, hgS⟩
  · intro w9 hF
    simp only [setAll, List.setIfInBounds_toArray, List.set_cons_succ, List.set_cons_zero]
    have HF9 : Hid _ := hF
    clear hF
    go_wp2_with fail
    exact bodyPost_ret_by (results_fa2 rfl _ _ rfl HF9.out.2) rfl ⟨rfl, HF9.out.1.bel⟩

set_option maxHeartbeats 2000000 in
theorem slip_true (f : Fa) (t : Int) (w : World) (hq : decide (f = (tryingF t)) = true) (h0 : 0 ≤ t) (h3 : t ≤ 3) : Calls Tryz.prog 64 #[TuV f t] w fun e w' => e = .returned (.tuple #[FaV (untriedF (t + 1)), .bool (decide (f = (tryingF t)) && decide (t < 3))]) ∧ Below w.heap.size w w' := by
  have hE := hq
  rw [hq]
  have hM0 := MeS.init w f t
  have HF : Hid (FaV f = .agg #[.int .i64 f.run, .int .i64 f.tries, .int .i64 f.slips, .bool f.un]) := rfl
  unfold TuV
  have hw1 : IntKind.i64.wrap (t + 1) = t + 1 := by rw [IntKind.wrap_i64]; omega
  go_enter Tryz.func64, Tryz.ntmps64
  go_wp2_with fail
  generalize (w.alloc (.cells #[.int .i64 f.run, .int .i64 f.tries, .int .i64 f.slips, .bool f.un, .int .i64 t] 90)).alloc (.cells #[.int .i64 0, .int .i64 0, .int .i64 0, .bool false] 65) = w0 at *
  have hS0 : MeS w f t w0.drew := hM0.later (Below.refl _ _).drew
  refine region_thenF [(4, .pointer (some ⟨w.heap.size, 4, none⟩)), (5, .int .i64 t), (6, .int .i64 (t + 1)), (7, FaV (untriedF (t + 1))), (8, .pointer (some ⟨w.heap.size, 0, none⟩)), (9, FaV f), (10, .pointer (some ⟨w.heap.size, 4, none⟩)), (11, .int .i64 t), (12, FaV (tryingF t)), (13, .bool true), (14, .bool true), (15, .pointer (some ⟨w.heap.size, 4, none⟩)), (16, .int .i64 t), (17, .bool (decide (t < 3))), (18, .bool (decide (t < 3))), (3, .bool (decide (t < 3)))] (fun w' => MeS w f t w' ∧ w'.heap[w.heap.size + 1]? = some (.cells (Fa.cells (untriedF (t + 1))).toArray 65 (0, 0))) ?_ ?_
  · refine wp_region_held (S := fun w' => MeS w f t w') (by kernel_rfl) ?_
    simp only [List.size_toArray, List.length_cons, List.length_nil, Nat.reduceAdd, Array.replicate_succ, Array.replicate_zero, List.push_toArray, List.nil_append, List.cons_append]
    refine takeD (i := 0) (d := 4) (v := .pointer (some ⟨w.heap.size, 4, none⟩)) (fuel := 16) rfl rfl (by kernel_rfl) (by kernel_rfl) (by kernel_rfl) (fun _ _ _ h => by cases h.1) (.inl ⟨by kernel_rfl, fun _ _ => by go_simp⟩) hS0 ?_
    simp only [List.setIfInBounds_toArray, List.set_cons_succ, List.set_cons_zero]
    refine takeD (i := 1) (d := 5) (v := .int .i64 t) (fuel := 15) rfl rfl (by kernel_rfl) (by kernel_rfl) (by kernel_rfl) (fun _ _ _ h => by cases h.1) (.inl ⟨by kernel_rfl, fun wx h => by have z4 := h.c 4; simp only [List.getElem?_toArray, List.getElem?_cons_zero, List.getElem?_cons_succ] at z4; go_simp⟩) hS0 ?_
    simp only [List.setIfInBounds_toArray, List.set_cons_succ, List.set_cons_zero]
    refine takeD (i := 2) (d := 6) (v := .int .i64 (t + 1)) (fuel := 14) rfl rfl (by kernel_rfl) (by kernel_rfl) (by kernel_rfl) (fun _ _ _ h => by cases h.1) (.inl ⟨by kernel_rfl, fun wx h => by go_simp⟩) hS0 ?_
    simp only [List.setIfInBounds_toArray, List.set_cons_succ, List.set_cons_zero]
    refine takeD (i := 4) (d := 8) (v := .pointer (some ⟨w.heap.size, 0, none⟩)) (fuel := 13) rfl rfl (by kernel_rfl) (by kernel_rfl) (by kernel_rfl) (fun _ _ _ h => by cases h.1) (.inl ⟨by kernel_rfl, fun _ _ => by go_simp⟩) hS0 ?_
    simp only [List.setIfInBounds_toArray, List.set_cons_succ, List.set_cons_zero]
    refine takeD (i := 5) (d := 9) (v := FaV f) (fuel := 12) rfl rfl (by kernel_rfl) (by kernel_rfl) (by kernel_rfl) (fun _ _ _ h => by cases h.1) (.inl ⟨by kernel_rfl, fun wx h => by rw [HF.out]; have z0 := h.c 0; have z1 := h.c 1; have z2 := h.c 2; have z3 := h.c 3; simp only [List.getElem?_toArray, List.getElem?_cons_zero, List.getElem?_cons_succ] at z0 z1 z2 z3; go_simp⟩) hS0 ?_
    simp only [List.setIfInBounds_toArray, List.set_cons_succ, List.set_cons_zero]
    refine takeD (i := 6) (d := 10) (v := .pointer (some ⟨w.heap.size, 4, none⟩)) (fuel := 11) rfl rfl (by kernel_rfl) (by kernel_rfl) (by kernel_rfl) (fun _ _ _ h => by cases h.1) (.inl ⟨by kernel_rfl, fun _ _ => by go_simp⟩) hS0 ?_
    simp only [List.setIfInBounds_toArray, List.set_cons_succ, List.set_cons_zero]
    refine takeD (i := 7) (d := 11) (v := .int .i64 t) (fuel := 10) rfl rfl (by kernel_rfl) (by kernel_rfl) (by kernel_rfl) (fun _ _ _ h => by cases h.1) (.inl ⟨by kernel_rfl, fun wx h => by have z4 := h.c 4; simp only [List.getElem?_toArray, List.getElem?_cons_zero, List.getElem?_cons_succ] at z4; go_simp⟩) hS0 ?_
    simp only [List.setIfInBounds_toArray, List.set_cons_succ, List.set_cons_zero]
    refine oneC (i := 3) (d := 7) (f := 88) (args := #[.int .i64 (t + 1)]) (v := FaV (untriedF (t + 1))) (fuel := 9) rfl rfl (by kernel_rfl) (by kernel_rfl) (fun _ => by kernel_rfl) hS0 (fun wx h => Calls.mono (untried_any _ wx) (by rintro e w2 ⟨rfl, hb⟩; exact ⟨rfl, h.later hb⟩)) (fun wz hS103 => ?_)
    simp only [List.setIfInBounds_toArray, List.set_cons_succ, List.set_cons_zero]
    refine oneC (i := 8) (d := 12) (f := 90) (args := #[.int .i64 t]) (v := FaV (tryingF t)) (fuel := 8) rfl rfl (by kernel_rfl) (by kernel_rfl) (fun _ => by kernel_rfl) hS103 (fun wx h => Calls.mono (trying_any _ wx h0 h3) (by rintro e w2 ⟨rfl, hb⟩; exact ⟨rfl, h.later hb⟩)) (fun wz hS108 => ?_)
    simp only [List.setIfInBounds_toArray, List.set_cons_succ, List.set_cons_zero]
    refine takeD (i := 9) (d := 13) (v := .bool true) (fuel := 7) rfl rfl (by kernel_rfl) (by kernel_rfl) (by kernel_rfl) (fun _ _ _ h => by cases h.1) (.inl ⟨by kernel_rfl, fun wx h => eq_exec f (tryingF t) (x := .tmp 9) (y := .tmp 12) rfl rfl rfl hE⟩) hS108 ?_
    simp only [List.setIfInBounds_toArray, List.set_cons_succ, List.set_cons_zero]
    refine takeD (i := 10) (d := 14) (v := .bool true) (fuel := 6) rfl rfl (by kernel_rfl) (by kernel_rfl) (by kernel_rfl) (fun _ _ _ h => by cases h.1) (.inl ⟨by kernel_rfl, fun _ _ => by kernel_rfl⟩) hS108 ?_
    simp only [List.setIfInBounds_toArray, List.set_cons_succ, List.set_cons_zero]
    refine takeD (i := 11) (d := 15) (v := .pointer (some ⟨w.heap.size, 4, none⟩)) (fuel := 5) rfl rfl (by kernel_rfl) (by kernel_rfl) (by kernel_rfl) (fun _ _ _ h => by cases h.1) (.inl ⟨by kernel_rfl, fun _ _ => by go_simp⟩) hS108 ?_
    simp only [List.setIfInBounds_toArray, List.set_cons_succ, List.set_cons_zero]
    refine takeD (i := 12) (d := 16) (v := .int .i64 t) (fuel := 4) rfl rfl (by kernel_rfl) (by kernel_rfl) (by kernel_rfl) (fun _ _ _ h => by cases h.1) (.inl ⟨by kernel_rfl, fun wx h => by have z4 := h.c 4; simp only [List.getElem?_toArray, List.getElem?_cons_zero, List.getElem?_cons_succ] at z4; go_simp⟩) hS108 ?_
    simp only [List.setIfInBounds_toArray, List.set_cons_succ, List.set_cons_zero]
    refine takeD (i := 13) (d := 17) (v := .bool (decide (t < 3))) (fuel := 3) rfl rfl (by kernel_rfl) (by kernel_rfl) (by kernel_rfl) (fun _ _ _ h => by cases h.1) (.inl ⟨by kernel_rfl, fun wx h => by go_simp⟩) hS108 ?_
    simp only [List.setIfInBounds_toArray, List.set_cons_succ, List.set_cons_zero]
    refine takeD (i := 14) (d := 18) (v := .bool (decide (t < 3))) (fuel := 2) rfl rfl (by kernel_rfl) (by kernel_rfl) (by kernel_rfl) (fun _ _ _ h => by cases h.1) (.inl ⟨by kernel_rfl, fun _ _ => by kernel_rfl⟩) hS108 ?_
    simp only [List.setIfInBounds_toArray, List.set_cons_succ, List.set_cons_zero]
    refine wpAnyH_all (fuel := 1) (rs := [15]) (by kernel_rfl) (by decide) (List.forall_mem_singleton.2 ?_)
    refine MeS.step (i := 15) (x := .tmp 2) (y := .tmp 7) hS108 (untriedF (t + 1)) rfl rfl (by kernel_rfl) rfl rfl rfl (fun wS hSS hgS => ⟨hSS, ?_⟩)
    refine takeD (i := 16) (d := 3) (v := .bool (decide (t < 3))) (fuel := 0) rfl rfl (by kernel_rfl) (by kernel_rfl) (by kernel_rfl) (fun _ _ _ h => by cases h.1) (.inl ⟨by kernel_rfl, fun _ _ => by kernel_rfl⟩) hSS ?_
    simp only [List.setIfInBounds_toArray, List.set_cons_succ, List.set_cons_zero]
    refine wpAnyH_done (by kernel_rfl) ?_ _
    exact ⟨rfl, by kernel_rfl, hSS, hgS⟩
  · intro w9 hF
    simp only [setAll, List.setIfInBounds_toArray, List.set_cons_succ, List.set_cons_zero]
    have HF9 : Hid _ := hF
    clear hF
    go_wp2_with fail
    exact bodyPost_ret_by (results_fa2 rfl _ _ rfl HF9.out.2) rfl ⟨rfl, HF9.out.1.bel⟩

set_option maxHeartbeats 2000000 in
theorem slip_false (f : Fa) (t : Int) (w : World) (hq : decide (f = (tryingF t)) = false) (h0 : 0 ≤ t) (h3 : t ≤ 3) : Calls Tryz.prog 64 #[TuV f t] w fun e w' => e = .returned (.tuple #[FaV (untriedF (t + 1)), .bool (decide (f = (tryingF t)) && decide (t < 3))]) ∧ Below w.heap.size w w' := by
  have hE := hq
  rw [hq]
  have hM0 := MeS.init w f t
  have HF : Hid (FaV f = .agg #[.int .i64 f.run, .int .i64 f.tries, .int .i64 f.slips, .bool f.un]) := rfl
  unfold TuV
  have hw1 : IntKind.i64.wrap (t + 1) = t + 1 := by rw [IntKind.wrap_i64]; omega
  go_enter Tryz.func64, Tryz.ntmps64
  go_wp2_with fail
  generalize (w.alloc (.cells #[.int .i64 f.run, .int .i64 f.tries, .int .i64 f.slips, .bool f.un, .int .i64 t] 90)).alloc (.cells #[.int .i64 0, .int .i64 0, .int .i64 0, .bool false] 65) = w0 at *
  have hS0 : MeS w f t w0.drew := hM0.later (Below.refl _ _).drew
  refine region_thenF [(4, .pointer (some ⟨w.heap.size, 4, none⟩)), (5, .int .i64 t), (6, .int .i64 (t + 1)), (7, FaV (untriedF (t + 1))), (8, .pointer (some ⟨w.heap.size, 0, none⟩)), (9, FaV f), (10, .pointer (some ⟨w.heap.size, 4, none⟩)), (11, .int .i64 t), (12, FaV (tryingF t)), (13, .bool false), (14, .bool false), (15, undef), (16, undef), (17, undef), (18, .bool false), (3, .bool false)] (fun w' => MeS w f t w' ∧ w'.heap[w.heap.size + 1]? = some (.cells (Fa.cells (untriedF (t + 1))).toArray 65 (0, 0))) ?_ ?_
  · refine wp_region_held (S := fun w' => MeS w f t w') (by kernel_rfl) ?_
    simp only [List.size_toArray, List.length_cons, List.length_nil, Nat.reduceAdd, Array.replicate_succ, Array.replicate_zero, List.push_toArray, List.nil_append, List.cons_append]
    refine takeD (i := 0) (d := 4) (v := .pointer (some ⟨w.heap.size, 4, none⟩)) (fuel := 16) rfl rfl (by kernel_rfl) (by kernel_rfl) (by kernel_rfl) (fun _ _ _ h => by cases h.1) (.inl ⟨by kernel_rfl, fun _ _ => by go_simp⟩) hS0 ?_
    simp only [List.setIfInBounds_toArray, List.set_cons_succ, List.set_cons_zero]
    refine takeD (i := 1) (d := 5) (v := .int .i64 t) (fuel := 15) rfl rfl (by kernel_rfl) (by kernel_rfl) (by kernel_rfl) (fun _ _ _ h => by cases h.1) (.inl ⟨by kernel_rfl, fun wx h => by have z4 := h.c 4; simp only [List.getElem?_toArray, List.getElem?_cons_zero, List.getElem?_cons_succ] at z4; go_simp⟩) hS0 ?_
    simp only [List.setIfInBounds_toArray, List.set_cons_succ, List.set_cons_zero]
    refine takeD (i := 2) (d := 6) (v := .int .i64 (t + 1)) (fuel := 14) rfl rfl (by kernel_rfl) (by kernel_rfl) (by kernel_rfl) (fun _ _ _ h => by cases h.1) (.inl ⟨by kernel_rfl, fun wx h => by go_simp⟩) hS0 ?_
    simp only [List.setIfInBounds_toArray, List.set_cons_succ, List.set_cons_zero]
    refine takeD (i := 4) (d := 8) (v := .pointer (some ⟨w.heap.size, 0, none⟩)) (fuel := 13) rfl rfl (by kernel_rfl) (by kernel_rfl) (by kernel_rfl) (fun _ _ _ h => by cases h.1) (.inl ⟨by kernel_rfl, fun _ _ => by go_simp⟩) hS0 ?_
    simp only [List.setIfInBounds_toArray, List.set_cons_succ, List.set_cons_zero]
    refine takeD (i := 5) (d := 9) (v := FaV f) (fuel := 12) rfl rfl (by kernel_rfl) (by kernel_rfl) (by kernel_rfl) (fun _ _ _ h => by cases h.1) (.inl ⟨by kernel_rfl, fun wx h => by rw [HF.out]; have z0 := h.c 0; have z1 := h.c 1; have z2 := h.c 2; have z3 := h.c 3; simp only [List.getElem?_toArray, List.getElem?_cons_zero, List.getElem?_cons_succ] at z0 z1 z2 z3; go_simp⟩) hS0 ?_
    simp only [List.setIfInBounds_toArray, List.set_cons_succ, List.set_cons_zero]
    refine takeD (i := 6) (d := 10) (v := .pointer (some ⟨w.heap.size, 4, none⟩)) (fuel := 11) rfl rfl (by kernel_rfl) (by kernel_rfl) (by kernel_rfl) (fun _ _ _ h => by cases h.1) (.inl ⟨by kernel_rfl, fun _ _ => by go_simp⟩) hS0 ?_
    simp only [List.setIfInBounds_toArray, List.set_cons_succ, List.set_cons_zero]
    refine takeD (i := 7) (d := 11) (v := .int .i64 t) (fuel := 10) rfl rfl (by kernel_rfl) (by kernel_rfl) (by kernel_rfl) (fun _ _ _ h => by cases h.1) (.inl ⟨by kernel_rfl, fun wx h => by have z4 := h.c 4; simp only [List.getElem?_toArray, List.getElem?_cons_zero, List.getElem?_cons_succ] at z4; go_simp⟩) hS0 ?_
    simp only [List.setIfInBounds_toArray, List.set_cons_succ, List.set_cons_zero]
    refine oneC (i := 3) (d := 7) (f := 88) (args := #[.int .i64 (t + 1)]) (v := FaV (untriedF (t + 1))) (fuel := 9) rfl rfl (by kernel_rfl) (by kernel_rfl) (fun _ => by kernel_rfl) hS0 (fun wx h => Calls.mono (untried_any _ wx) (by rintro e w2 ⟨rfl, hb⟩; exact ⟨rfl, h.later hb⟩)) (fun wz hS103 => ?_)
    simp only [List.setIfInBounds_toArray, List.set_cons_succ, List.set_cons_zero]
    refine oneC (i := 8) (d := 12) (f := 90) (args := #[.int .i64 t]) (v := FaV (tryingF t)) (fuel := 8) rfl rfl (by kernel_rfl) (by kernel_rfl) (fun _ => by kernel_rfl) hS103 (fun wx h => Calls.mono (trying_any _ wx h0 h3) (by rintro e w2 ⟨rfl, hb⟩; exact ⟨rfl, h.later hb⟩)) (fun wz hS108 => ?_)
    simp only [List.setIfInBounds_toArray, List.set_cons_succ, List.set_cons_zero]
    refine takeD (i := 9) (d := 13) (v := .bool false) (fuel := 7) rfl rfl (by kernel_rfl) (by kernel_rfl) (by kernel_rfl) (fun _ _ _ h => by cases h.1) (.inl ⟨by kernel_rfl, fun wx h => eq_exec f (tryingF t) (x := .tmp 9) (y := .tmp 12) rfl rfl rfl hE⟩) hS108 ?_
    simp only [List.setIfInBounds_toArray, List.set_cons_succ, List.set_cons_zero]
    refine takeD (i := 10) (d := 14) (v := .bool false) (fuel := 6) rfl rfl (by kernel_rfl) (by kernel_rfl) (by kernel_rfl) (fun _ _ _ h => by cases h.1) (.inl ⟨by kernel_rfl, fun _ _ => by kernel_rfl⟩) hS108 ?_
    simp only [List.setIfInBounds_toArray, List.set_cons_succ, List.set_cons_zero]
    refine takeD (i := 11) (d := 15) (v := undef) (fuel := 5) rfl rfl (by kernel_rfl) (by kernel_rfl) (by kernel_rfl) (fun _ _ _ h => by cases h.1) (.inr ⟨by kernel_rfl, rfl⟩) hS108 ?_
    simp only [List.setIfInBounds_toArray, List.set_cons_succ, List.set_cons_zero]
    refine takeD (i := 12) (d := 16) (v := undef) (fuel := 4) rfl rfl (by kernel_rfl) (by kernel_rfl) (by kernel_rfl) (fun _ _ _ h => by cases h.1) (.inr ⟨by kernel_rfl, rfl⟩) hS108 ?_
    simp only [List.setIfInBounds_toArray, List.set_cons_succ, List.set_cons_zero]
    refine takeD (i := 13) (d := 17) (v := undef) (fuel := 3) rfl rfl (by kernel_rfl) (by kernel_rfl) (by kernel_rfl) (fun _ _ _ h => by cases h.1) (.inr ⟨by kernel_rfl, rfl⟩) hS108 ?_
    simp only [List.setIfInBounds_toArray, List.set_cons_succ, List.set_cons_zero]
    refine takeD (i := 14) (d := 18) (v := .bool false) (fuel := 2) rfl rfl (by kernel_rfl) (by kernel_rfl) (by kernel_rfl) (fun _ _ _ h => by cases h.1) (.inl ⟨by kernel_rfl, fun _ _ => by kernel_rfl⟩) hS108 ?_
    simp only [List.setIfInBounds_toArray, List.set_cons_succ, List.set_cons_zero]
    refine wpAnyH_all (fuel := 1) (rs := [15]) (by kernel_rfl) (by decide) (List.forall_mem_singleton.2 ?_)
    refine MeS.step (i := 15) (x := .tmp 2) (y := .tmp 7) hS108 (untriedF (t + 1)) rfl rfl (by kernel_rfl) rfl rfl rfl (fun wS hSS hgS => ⟨hSS, ?_⟩)
    refine takeD (i := 16) (d := 3) (v := .bool false) (fuel := 0) rfl rfl (by kernel_rfl) (by kernel_rfl) (by kernel_rfl) (fun _ _ _ h => by cases h.1) (.inl ⟨by kernel_rfl, fun _ _ => by kernel_rfl⟩) hSS ?_
    simp only [List.setIfInBounds_toArray, List.set_cons_succ, List.set_cons_zero]
    refine wpAnyH_done (by kernel_rfl) ?_ _
    exact ⟨rfl, by kernel_rfl, hSS, hgS⟩
  · intro w9 hF
    simp only [setAll, List.setIfInBounds_toArray, List.set_cons_succ, List.set_cons_zero]
    have HF9 : Hid _ := hF
    clear hF
    go_wp2_with fail
    exact bodyPost_ret_by (results_fa2 rfl _ _ rfl HF9.out.2) rfl ⟨rfl, HF9.out.1.bel⟩

theorem slip_any (f : Fa) (t : Int) (w : World) (h0 : 0 ≤ t) (h3 : t ≤ 3) : Calls Tryz.prog 64 #[TuV f t] w fun e w' => e = .returned (.tuple #[FaV (untriedF (t + 1)), .bool (decide (f = tryingF t) && decide (t < 3))]) ∧ Below w.heap.size w w' := by
  cases hq : decide (f = tryingF t) with
  | true => rw [← hq]; exact slip_true f t w hq h0 h3
  | false => rw [← hq]; exact slip_false f t w hq h0 h3

set_option maxHeartbeats 1000000 in
theorem none_any (f : Fa) (t : Int) (w : World) : Calls Tryz.prog 65 #[TuV f t] w fun e w' => e = .returned (.tuple #[FaV Fa.z, .bool false]) ∧ Below w.heap.size w w' := by
  have hM0 := MeS.init w f t
  have hR := MeS.init_res w f t
  unfold TuV
  go_enter Tryz.func65, Tryz.ntmps65
  go_wp2_with fail
  exact bodyPost_ret_by (results_fa2 rfl _ _ rfl hR) rfl ⟨rfl, hM0.bel⟩

end Go.Proofs.YtgdnlceliiekkaaGreatDoor.Fc

