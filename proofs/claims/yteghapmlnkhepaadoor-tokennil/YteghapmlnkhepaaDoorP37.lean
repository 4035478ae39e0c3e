/- Texts of the seat, packed: Ci. -/
import Derived.Test.YteghapmlnkhepaaDoorP36
/- The laws' three. -/
namespace Go.Proofs.YteghapmlnkhepaaDoor.Tk
open Go.RowKit Go.Shelf Go.Proofs.YteghapmlnkhepaaDoor.St Go.Proofs.YteghapmlnkhepaaDoor.Sx
set_option maxRecDepth 1000000
set_option linter.unusedVariables false

/-- What three knows. -/
structure ThS (w : World) (c : Nat) (W : World) : Prop where
  bel : Below w.heap.size w W
  root : W.heap[w.heap.size]? = some (.cells #[.slice none 0 0] 28 (0, 0))
  rc : W.heap[c]? = some (.cells #[.string ⟨#[99]⟩, .string ⟨#[117]⟩, .slice none 0 0, .bool false, .bool false, .slice none 0 0] 71 (0, 0))
  rb : W.heap[c + 1]? = some (.cells #[.slice (some ⟨c, 0, none⟩) 1 1] 87 (0, 0))
  rs : W.heap[c + 1 + 1]? = some (.cells #[.string ⟨#[115]⟩, .string ⟨#[]⟩, .slice none 0 0, .bool true, .bool false, .slice (some ⟨c + 1, 0, none⟩) 1 1] 71 (0, 0))
  tab : Dg.Tab W

theorem ThS.later {w : World} {c : Nat} {W W' : World} (h : ThS w c W) (hb : Below W.heap.size W W') : ThS w c W' :=
  ⟨h.bel.trans (hb.mono h.bel.size), (hb.block _ (row_lt h.root)).trans h.root, (hb.block _ (row_lt h.rc)).trans h.rc, (hb.block _ (row_lt h.rb)).trans h.rb, (hb.block _ (row_lt h.rs)).trans h.rs, h.tab.later hb⟩

theorem bl1 (w : World) (o : Obj) : Below w.heap.size w (w.alloc o) := (Below.refl _ w).alloc (Nat.le_refl _) _
theorem row_later {w w' : World} {b : Nat} {o : Obj} (h : w.heap[b]? = some o) (hb : Below w.heap.size w w') : w'.heap[b]? = some o := (hb.block _ (row_lt h)).trans h

set_option maxHeartbeats 8000000 in
theorem three_any (w : World) (hT : Dg.Tab w) : Calls Tryd.prog 19 #[] w fun x w' => Below w.heap.size w w' ∧ ∃ v, x = .returned (.agg #[v]) ∧ RdIt w' v iTh := by
  have q0 := Dg.row_new w #[.slice none 0 0] 28
  have hb0 := bl1 w (.cells #[.slice none 0 0] 28)
  have HT : Hid (Dg.Tab w) := hT
  have HQ0 : Hid _ := q0
  have HB0 : Hid _ := hb0
  clear hT q0 hb0
  go_enter Tryd.func19, Tryd.ntmps19
  go_wp2_with fail
  refine Calls.mono (step_any 99 _) ?_
  rintro e w1 ⟨rfl, hb1⟩
  have hbw : Below w.heap.size w w1 := HB0.out.trans (hb1.mono HB0.out.size)
  have q1 := row_later HQ0.out hb1
  have HS2 : Hid (ThS w w1.heap.size (((w1.alloc (.cells #[.string ⟨#[99]⟩, .string ⟨#[117]⟩, .slice none 0 0, .bool false, .bool false, .slice none 0 0] 71)).alloc (.cells #[.slice (some ⟨w1.heap.size, 0, none⟩) 1 1] 87)).alloc (.cells #[.string ⟨#[115]⟩, .string ⟨#[]⟩, .slice none 0 0, .bool true, .bool false, .slice (some ⟨w1.heap.size + 1, 0, none⟩) 1 1] 71))) := by
    refine ⟨((hbw.alloc hbw.size _).alloc (by have := hbw.size; simp; omega) _).alloc (by have := hbw.size; simp; omega) _, old1 (old1 (old1 q1 _) _) _, old1 (old1 (new1 w1 _ _ rfl) _) _, old1 (new1 _ _ _ (by simp)) _, new1 _ _ _ (by simp), ?_⟩
    exact Dg.Tab.later (Dg.Tab.later (Dg.Tab.later (Dg.Tab.later (Dg.Tab.later HT.out HB0.out) hb1) (bl1 _ _)) (bl1 _ _)) (bl1 _ _)
  clear hb1 hbw q1 HQ0 HB0 HT
  go_wp2_with fail
  generalize ((w1.alloc (.cells #[.string ⟨#[99]⟩, .string ⟨#[117]⟩, .slice none 0 0, .bool false, .bool false, .slice none 0 0] 71)).alloc (.cells #[.slice (some ⟨w1.heap.size, 0, none⟩) 1 1] 87)).alloc (.cells #[.string ⟨#[115]⟩, .string ⟨#[]⟩, .slice none 0 0, .bool true, .bool false, .slice (some ⟨w1.heap.size + 1, 0, none⟩) 1 1] 71) = w2 at *
  generalize w1.heap.size = c at *
  have hS0 : ThS w c w2.drew := HS2.out.later (Below.refl _ _).drew
  clear HS2
  refine wp_region_held (S := fun w' => w'.heap[c + 1 + 1]? = some (.cells #[.string ⟨#[115]⟩, .string ⟨#[]⟩, .slice none 0 0, .bool true, .bool false, .slice (some ⟨c + 1, 0, none⟩) 1 1] 71 (0, 0))) (by kernel_rfl) ?_
  simp only [List.size_toArray, List.length_cons, List.length_nil, Nat.reduceAdd, Array.replicate_succ, Array.replicate_zero, List.push_toArray, List.nil_append, List.cons_append]
  show wpAnyH Tryd.prog _ _ _ _ _ _ _ w2.drew
  generalize w2.drew = wd at *
  refine tK 0 12 (.func (Fn.func 36) #[] #[]) 17 rfl hS0.rs ?_
  refine tK 4 16 (.func (Fn.func 36) #[] #[]) 16 rfl hS0.rs ?_
  refine tV 6 18 (.agg #[.string ⟨#[115]⟩, .string ⟨#[]⟩, .slice none 0 0, .bool true, .bool false, .slice (some ⟨c + 1, 0, none⟩) 1 1]) 15 rfl hS0.rs ?_ (fun w9 h => by have z0 := (Dg.cell_row h 0).trans rfl; have z1 := (Dg.cell_row h 1).trans rfl; have z2 := (Dg.cell_row h 2).trans rfl; have z3 := (Dg.cell_row h 3).trans rfl; have z4 := (Dg.cell_row h 4).trans rfl; have z5 := (Dg.cell_row h 5).trans rfl; go_simp)
  refine wpAnyH_all (fuel := 14) (rs := [1, 15]) (by kernel_rfl) (by decide) ?_
  refine List.forall_mem_cons.2 ⟨?_, List.forall_mem_singleton.2 ?_⟩
  · refine wpOp_calls (i := 1) (d := 13) rfl rfl (by kernel_rfl) (f := 36) (args := #[.string ⟨#[97]⟩]) (by kernel_rfl) _ (step_any 97 _) ?_ (fun _ _ h => by cases h.1) (fun _ h => by cases h.1)
    rintro v1 wc1 ⟨h1, hb1⟩
    cases h1
    have hS1 := hS0.later hb1
    refine ⟨hS1.rs, ?_⟩
    simp only [List.setIfInBounds_toArray, List.set_cons_succ, List.set_cons_zero]
    refine wpAnyH_all (fuel := 13) (rs := [2, 5, 15]) (by kernel_rfl) (by decide) ?_
    refine List.forall_mem_cons.2 ⟨?_, List.forall_mem_cons.2 ⟨?_, List.forall_mem_singleton.2 ?_⟩⟩
    · have hb2 := bl1 wc1 (.cells #[.string ⟨#[97]⟩, .string ⟨#[117]⟩, .slice none 0 0, .bool false, .bool false, .slice none 0 0] 71)
      have hS2 := hS1.later hb2
      have qa := Dg.row_new wc1 #[.string ⟨#[97]⟩, .string ⟨#[117]⟩, .slice none 0 0, .bool false, .bool false, .slice none 0 0] 71
      refine wpOp_value (i := 2) (d := 14) (v := .slice (some ⟨wc1.heap.size, 0, none⟩) 1 1) (w' := (wc1.alloc (.cells #[.string ⟨#[97]⟩, .string ⟨#[117]⟩, .slice none 0 0, .bool false, .bool false, .slice none 0 0] 71))) rfl rfl (by kernel_rfl) (by go_simp) ?_
      refine ⟨hS2.rs, ?_⟩
      simp only [List.setIfInBounds_toArray, List.set_cons_succ, List.set_cons_zero]
      generalize wc1.heap.size = ga at *
      generalize wc1.alloc (.cells #[.string ⟨#[97]⟩, .string ⟨#[117]⟩, .slice none 0 0, .bool false, .bool false, .slice none 0 0] 71) = wm2 at *
      refine tG 3 15 (.agg #[.slice (some ⟨ga, 0, none⟩) 1 1]) 12 rfl hS2.rs ?_
      refine wpAnyH_all (fuel := 11) (rs := [5, 15]) (by kernel_rfl) (by decide) ?_
      refine List.forall_mem_cons.2 ⟨?_, List.forall_mem_singleton.2 ?_⟩
      · refine wpOp_calls (i := 5) (d := 17) rfl rfl (by kernel_rfl) (f := 36) (args := #[.string ⟨#[98]⟩]) (by kernel_rfl) _ (step_any 98 _) ?_ (fun _ _ h => by cases h.1) (fun _ h => by cases h.1)
        rintro v3 wc3 ⟨h3, hb3⟩
        cases h3
        have hS3 := hS2.later hb3
        have qa := row_later qa hb3
        refine ⟨hS3.rs, ?_⟩
        simp only [List.setIfInBounds_toArray, List.set_cons_succ, List.set_cons_zero]
        refine wpAnyH_all (fuel := 10) (rs := [7, 15]) (by kernel_rfl) (by decide) ?_
        refine List.forall_mem_cons.2 ⟨?_, List.forall_mem_singleton.2 ?_⟩
        · have hb4 := bl1 wc3 (.cells #[.string ⟨#[98]⟩, .string ⟨#[117]⟩, .slice none 0 0, .bool false, .bool false, .slice none 0 0, .string ⟨#[115]⟩, .string ⟨#[]⟩, .slice none 0 0, .bool true, .bool false, .slice (some ⟨c + 1, 0, none⟩) 1 1] 71)
          have hS4 := hS3.later hb4
          have qa := row_later qa hb4
          have qbb := Dg.row_new wc3 #[.string ⟨#[98]⟩, .string ⟨#[117]⟩, .slice none 0 0, .bool false, .bool false, .slice none 0 0, .string ⟨#[115]⟩, .string ⟨#[]⟩, .slice none 0 0, .bool true, .bool false, .slice (some ⟨c + 1, 0, none⟩) 1 1] 71
          refine wpOp_value (i := 7) (d := 19) (v := .slice (some ⟨wc3.heap.size, 0, none⟩) 2 2) (w' := (wc3.alloc (.cells #[.string ⟨#[98]⟩, .string ⟨#[117]⟩, .slice none 0 0, .bool false, .bool false, .slice none 0 0, .string ⟨#[115]⟩, .string ⟨#[]⟩, .slice none 0 0, .bool true, .bool false, .slice (some ⟨c + 1, 0, none⟩) 1 1] 71))) rfl rfl (by kernel_rfl) (by go_simp) ?_
          refine ⟨hS4.rs, ?_⟩
          simp only [List.setIfInBounds_toArray, List.set_cons_succ, List.set_cons_zero]
          generalize wc3.heap.size = gbb at *
          generalize wc3.alloc (.cells #[.string ⟨#[98]⟩, .string ⟨#[117]⟩, .slice none 0 0, .bool false, .bool false, .slice none 0 0, .string ⟨#[115]⟩, .string ⟨#[]⟩, .slice none 0 0, .bool true, .bool false, .slice (some ⟨c + 1, 0, none⟩) 1 1] 71) = wm4 at *
          refine tG 8 20 (.agg #[.slice (some ⟨gbb, 0, none⟩) 2 2]) 9 rfl hS4.rs ?_
          refine wpAnyH_all (fuel := 8) (rs := [9, 15]) (by kernel_rfl) (by decide) ?_
          refine List.forall_mem_cons.2 ⟨?_, List.forall_mem_singleton.2 ?_⟩
          · have hb5 := bl1 wm4 (.cells #[.slice (some ⟨ga, 0, none⟩) 1 1, .slice (some ⟨gbb, 0, none⟩) 2 2] 87)
            have hS5 := hS4.later hb5
            have qa := row_later qa hb5
            have qbb := row_later qbb hb5
            have qgb := Dg.row_new wm4 #[.slice (some ⟨ga, 0, none⟩) 1 1, .slice (some ⟨gbb, 0, none⟩) 2 2] 87
            refine wpOp_value (i := 9) (d := 21) (v := .slice (some ⟨wm4.heap.size, 0, none⟩) 2 2) (w' := (wm4.alloc (.cells #[.slice (some ⟨ga, 0, none⟩) 1 1, .slice (some ⟨gbb, 0, none⟩) 2 2] 87))) rfl rfl (by kernel_rfl) (by go_simp) ?_
            refine ⟨hS5.rs, ?_⟩
            simp only [List.setIfInBounds_toArray, List.set_cons_succ, List.set_cons_zero]
            generalize wm4.heap.size = ggb at *
            generalize wm4.alloc (.cells #[.slice (some ⟨ga, 0, none⟩) 1 1, .slice (some ⟨gbb, 0, none⟩) 2 2] 87) = wm5 at *
            refine tG 10 22 (.agg #[.string ⟨#[116]⟩, .slice (some ⟨ggb, 0, none⟩) 2 2]) 7 rfl hS5.rs ?_
            refine wpAnyH_all (fuel := 6) (rs := [11, 15]) (by kernel_rfl) (by decide) ?_
            refine List.forall_mem_cons.2 ⟨?_, List.forall_mem_singleton.2 ?_⟩
            · have HMK : Hid _ := Make_any wm5 [116] tTh (some ⟨ggb, 0, none⟩) 2 (th_tree _ ga 0 gbb ggb c (c + 1) qa qbb hS5.rc hS5.rb qgb) fair_th hS5.tab
              refine wpOp_calls (i := 11) (d := 23) rfl rfl (by kernel_rfl) (f := 6) (args := #[.agg #[.string ⟨#[116]⟩, .slice (some ⟨ggb, 0, none⟩) 2 2]]) (by kernel_rfl) _ HMK.out ?_ (fun _ _ h => by obtain ⟨_, h⟩ := h; rw [plan_th] at h; obtain ⟨_, h, _⟩ := h; cases h) (fun _ h => by obtain ⟨_, h⟩ := h; rw [plan_th] at h; obtain ⟨_, h, _⟩ := h; cases h)
              rintro vM wM ⟨hbM, hM⟩
              rw [plan_th] at hM
              obtain ⟨vI, hM, hst⟩ := hM
              cases hM
              obtain ⟨ia, ic, rfl, _⟩ := hst.rd
              have HSI : Hid (w.heap.size < wm5.heap.size) := row_lt hS5.root
              have HST : Hid (Stands wm5.heap.size wM (.slice ia iTh.length ic) iTh) := hst
              have hSM := hS5.later hbM
              clear HMK hst hbM qa qbb qgb
              generalize wm5.heap.size = gM at *
              refine ⟨hSM.rs, ?_⟩
              simp only [List.setIfInBounds_toArray, List.set_cons_succ, List.set_cons_zero]
              refine tK 12 11 (.tuple #[.agg #[.slice ia iTh.length ic], .int .i64 0]) 5 rfl hSM.rs ?_
              refine tK 13 24 (.agg #[.slice ia iTh.length ic]) 4 rfl hSM.rs ?_
              refine tK 14 25 (.int .i64 0) 3 rfl hSM.rs ?_
              refine wpAnyH_all (fuel := 2) (rs := [15]) (by kernel_rfl) (by decide) ?_
              refine List.forall_mem_singleton.2 ?_
              have hb6 := bl1 wM (.cells #[.slice none 0 0] 28)
              have hS6 := hSM.later hb6
              have qO := Dg.row_new wM #[.slice none 0 0] 28
              have HGO : Hid (w.heap.size < wM.heap.size ∧ c + 1 + 1 < wM.heap.size) := ⟨row_lt hSM.root, row_lt hSM.rs⟩
              have HGB : Hid (∀ b, gM ≤ b → b < wM.heap.size → b ≠ wM.heap.size) := fun b _ h e => by omega
              have HBO : Hid (∀ b, b < wM.heap.size → (wM.alloc (.cells #[.slice none 0 0] 28)).heap[b]? = wM.heap[b]?) := fun b h => Below.heap_alloc _ _ _ h
              have HZM : Hid (wM.heap.size = wM.heap.size) := rfl
              refine wpOp_value (i := 15) (d := 3) (v := .pointer (some ⟨wM.heap.size, 0, none⟩)) (w' := (wM.alloc (.cells #[.slice none 0 0] 28))) rfl rfl (by kernel_rfl) (by go_simp) ?_
              refine ⟨hS6.rs, ?_⟩
              simp only [List.setIfInBounds_toArray, List.set_cons_succ, List.set_cons_zero]
              generalize wM.alloc (.cells #[.slice none 0 0] 28) = wm6 at *
              clear HZM
              generalize hzm : wM.heap.size = gO at *
              refine wpAnyH_all (fuel := 1) (rs := [16]) (by kernel_rfl) (by decide) ?_
              refine List.forall_mem_singleton.2 ?_
              have zO := (Dg.cell_row qO 0).trans rfl
              have fO := Dg.froz_row qO 0
              have hST9 := Dg.row_other hS6.rs (.slice ia iTh.length ic) (i := 0) (Nat.ne_of_lt HGO.out.2)
              have r1 := Dg.row_other hS6.root (.slice ia iTh.length ic) (i := 0) (Nat.ne_of_lt HGO.out.1)
              have qO2 := Dg.row_set qO 0 (.slice ia iTh.length ic)
              have HBL : Hid _ := hS6.bel.setCell (p := ⟨gO, 0, none⟩) (Nat.le_of_lt HGO.out.1) (.slice ia iTh.length ic)
              have HFI : Hid (∀ b, gM ≤ b → b < wM.heap.size → (wm6.setCell ⟨gO, 0, none⟩ (.slice ia iTh.length ic)).heap[b]? = wM.heap[b]?) := fun b h1 h2 => by
                exact (Below.heap_setCell _ _ _ b (by show b ≠ gO; exact HGB.out b h1 (by omega))).trans (by first | rfl | exact HBO.out b (by omega))
              refine wpOp_skip (i := 16) (w' := wm6.setCell ⟨gO, 0, none⟩ (.slice ia iTh.length ic)) rfl rfl (by kernel_rfl) (by go_simp) ?_
              refine ⟨hST9, ?_⟩
              clear zO fO qO hS6
              generalize wm6.setCell ⟨gO, 0, none⟩ (.slice ia iTh.length ic) = wO at *
              refine tK 17 4 (.int .i64 0) 0 rfl hST9 ?_
              refine wpAnyH_done (by kernel_rfl) ?_ _
              have z0 := (Dg.cell_row qO2 0).trans rfl
              have f0 := Dg.froz_row r1 0
              have z1 := (Dg.cell_row r1 0).trans rfl
              clear hST9 qO2
              go_wp2_with fail
              have r2 := Dg.row_set r1 0 (.slice ia iTh.length ic)
              refine ⟨rfl, _, results_cell_row (p := 0) (ty := 28) rfl _ _ w.heap.size 28 #[_] (0, 0) _ rfl r2 Tryd.underlying28 rfl (by kernel_rfl), HBL.out.setCell (Nat.le_refl _) _, _, rfl, ?_⟩
              refine HST.out _ fun b h1 h2 => ?_
              have h3 := HSI.out
              rw [Below.heap_setCell _ _ _ b (by show b ≠ w.heap.size; omega)]
              exact HFI.out b h1 h2
            · have hb7 := bl1 wm5 (.cells #[.slice none 0 0] 28)
              have hS7 := hS5.later hb7
              have qa := row_later qa hb7
              have qbb := row_later qbb hb7
              have qgb := row_later qgb hb7
              have qO := Dg.row_new wm5 #[.slice none 0 0] 28
              have HGO : Hid (w.heap.size < wm5.heap.size ∧ c + 1 + 1 < wm5.heap.size) := ⟨row_lt hS5.root, row_lt hS5.rs⟩
              refine wpOp_value (i := 15) (d := 3) (v := .pointer (some ⟨wm5.heap.size, 0, none⟩)) (w' := (wm5.alloc (.cells #[.slice none 0 0] 28))) rfl rfl (by kernel_rfl) (by go_simp) ?_
              refine ⟨hS7.rs, ?_⟩
              simp only [List.setIfInBounds_toArray, List.set_cons_succ, List.set_cons_zero]
              generalize wm5.heap.size = gO at *
              generalize wm5.alloc (.cells #[.slice none 0 0] 28) = wm7 at *
              refine wpAnyH_all (fuel := 5) (rs := [11]) (by kernel_rfl) (by decide) ?_
              refine List.forall_mem_singleton.2 ?_
              have HMK : Hid _ := Make_any wm7 [116] tTh (some ⟨ggb, 0, none⟩) 2 (th_tree _ ga 0 gbb ggb c (c + 1) qa qbb hS7.rc hS7.rb qgb) fair_th hS7.tab
              refine wpOp_calls (i := 11) (d := 23) rfl rfl (by kernel_rfl) (f := 6) (args := #[.agg #[.string ⟨#[116]⟩, .slice (some ⟨ggb, 0, none⟩) 2 2]]) (by kernel_rfl) _ HMK.out ?_ (fun _ _ h => by obtain ⟨_, h⟩ := h; rw [plan_th] at h; obtain ⟨_, h, _⟩ := h; cases h) (fun _ h => by obtain ⟨_, h⟩ := h; rw [plan_th] at h; obtain ⟨_, h, _⟩ := h; cases h)
              rintro vM wM ⟨hbM, hM⟩
              rw [plan_th] at hM
              obtain ⟨vI, hM, hst⟩ := hM
              cases hM
              obtain ⟨ia, ic, rfl, _⟩ := hst.rd
              have HSI : Hid (w.heap.size < wm7.heap.size) := row_lt hS7.root
              have HST : Hid (Stands wm7.heap.size wM (.slice ia iTh.length ic) iTh) := hst
              have HGB : Hid (∀ b, wm7.heap.size ≤ b → b < wM.heap.size → b ≠ gO) := fun b h1 _ e => by have := row_lt qO; omega
              have hSM := hS7.later hbM
              have qO := row_later qO hbM
              clear HMK hst hbM qa qbb qgb
              generalize wm7.heap.size = gM at *
              refine ⟨hSM.rs, ?_⟩
              simp only [List.setIfInBounds_toArray, List.set_cons_succ, List.set_cons_zero]
              refine tK 12 11 (.tuple #[.agg #[.slice ia iTh.length ic], .int .i64 0]) 4 rfl hSM.rs ?_
              refine tK 13 24 (.agg #[.slice ia iTh.length ic]) 3 rfl hSM.rs ?_
              refine tK 14 25 (.int .i64 0) 2 rfl hSM.rs ?_
              refine wpAnyH_all (fuel := 1) (rs := [16]) (by kernel_rfl) (by decide) ?_
              refine List.forall_mem_singleton.2 ?_
              have zO := (Dg.cell_row qO 0).trans rfl
              have fO := Dg.froz_row qO 0
              have hST9 := Dg.row_other hSM.rs (.slice ia iTh.length ic) (i := 0) (Nat.ne_of_lt HGO.out.2)
              have r1 := Dg.row_other hSM.root (.slice ia iTh.length ic) (i := 0) (Nat.ne_of_lt HGO.out.1)
              have qO2 := Dg.row_set qO 0 (.slice ia iTh.length ic)
              have HBL : Hid _ := hSM.bel.setCell (p := ⟨gO, 0, none⟩) (Nat.le_of_lt HGO.out.1) (.slice ia iTh.length ic)
              have HFI : Hid (∀ b, gM ≤ b → b < wM.heap.size → (wM.setCell ⟨gO, 0, none⟩ (.slice ia iTh.length ic)).heap[b]? = wM.heap[b]?) := fun b h1 h2 => by
                exact (Below.heap_setCell _ _ _ b (by show b ≠ gO; exact HGB.out b h1 (by omega))).trans (by first | rfl | exact HBO.out b (by omega))
              refine wpOp_skip (i := 16) (w' := wM.setCell ⟨gO, 0, none⟩ (.slice ia iTh.length ic)) rfl rfl (by kernel_rfl) (by go_simp) ?_
              refine ⟨hST9, ?_⟩
              clear zO fO qO hSM
              generalize wM.setCell ⟨gO, 0, none⟩ (.slice ia iTh.length ic) = wO at *
              refine tK 17 4 (.int .i64 0) 0 rfl hST9 ?_
              refine wpAnyH_done (by kernel_rfl) ?_ _
              have z0 := (Dg.cell_row qO2 0).trans rfl
              have f0 := Dg.froz_row r1 0
              have z1 := (Dg.cell_row r1 0).trans rfl
              clear hST9 qO2
              go_wp2_with fail
              have r2 := Dg.row_set r1 0 (.slice ia iTh.length ic)
              refine ⟨rfl, _, results_cell_row (p := 0) (ty := 28) rfl _ _ w.heap.size 28 #[_] (0, 0) _ rfl r2 Tryd.underlying28 rfl (by kernel_rfl), HBL.out.setCell (Nat.le_refl _) _, _, rfl, ?_⟩
              refine HST.out _ fun b h1 h2 => ?_
              have h3 := HSI.out
              rw [Below.heap_setCell _ _ _ b (by show b ≠ w.heap.size; omega)]
              exact HFI.out b h1 h2
          · have hb8 := bl1 wm4 (.cells #[.slice none 0 0] 28)
            have hS8 := hS4.later hb8
            have qa := row_later qa hb8
            have qbb := row_later qbb hb8
            have qO := Dg.row_new wm4 #[.slice none 0 0] 28
            have HGO : Hid (w.heap.size < wm4.heap.size ∧ c + 1 + 1 < wm4.heap.size) := ⟨row_lt hS4.root, row_lt hS4.rs⟩
            refine wpOp_value (i := 15) (d := 3) (v := .pointer (some ⟨wm4.heap.size, 0, none⟩)) (w' := (wm4.alloc (.cells #[.slice none 0 0] 28))) rfl rfl (by kernel_rfl) (by go_simp) ?_
            refine ⟨hS8.rs, ?_⟩
            simp only [List.setIfInBounds_toArray, List.set_cons_succ, List.set_cons_zero]
            generalize wm4.heap.size = gO at *
            generalize wm4.alloc (.cells #[.slice none 0 0] 28) = wm8 at *
            refine wpAnyH_all (fuel := 7) (rs := [9]) (by kernel_rfl) (by decide) ?_
            refine List.forall_mem_singleton.2 ?_
            have hb9 := bl1 wm8 (.cells #[.slice (some ⟨ga, 0, none⟩) 1 1, .slice (some ⟨gbb, 0, none⟩) 2 2] 87)
            have hS9 := hS8.later hb9
            have qa := row_later qa hb9
            have qbb := row_later qbb hb9
            have qO := row_later qO hb9
            have qgb := Dg.row_new wm8 #[.slice (some ⟨ga, 0, none⟩) 1 1, .slice (some ⟨gbb, 0, none⟩) 2 2] 87
            refine wpOp_value (i := 9) (d := 21) (v := .slice (some ⟨wm8.heap.size, 0, none⟩) 2 2) (w' := (wm8.alloc (.cells #[.slice (some ⟨ga, 0, none⟩) 1 1, .slice (some ⟨gbb, 0, none⟩) 2 2] 87))) rfl rfl (by kernel_rfl) (by go_simp) ?_
            refine ⟨hS9.rs, ?_⟩
            simp only [List.setIfInBounds_toArray, List.set_cons_succ, List.set_cons_zero]
            generalize wm8.heap.size = ggb at *
            generalize wm8.alloc (.cells #[.slice (some ⟨ga, 0, none⟩) 1 1, .slice (some ⟨gbb, 0, none⟩) 2 2] 87) = wm9 at *
            refine tG 10 22 (.agg #[.string ⟨#[116]⟩, .slice (some ⟨ggb, 0, none⟩) 2 2]) 6 rfl hS9.rs ?_
            refine wpAnyH_all (fuel := 5) (rs := [11]) (by kernel_rfl) (by decide) ?_
            refine List.forall_mem_singleton.2 ?_
            have HMK : Hid _ := Make_any wm9 [116] tTh (some ⟨ggb, 0, none⟩) 2 (th_tree _ ga 0 gbb ggb c (c + 1) qa qbb hS9.rc hS9.rb qgb) fair_th hS9.tab
            refine wpOp_calls (i := 11) (d := 23) rfl rfl (by kernel_rfl) (f := 6) (args := #[.agg #[.string ⟨#[116]⟩, .slice (some ⟨ggb, 0, none⟩) 2 2]]) (by kernel_rfl) _ HMK.out ?_ (fun _ _ h => by obtain ⟨_, h⟩ := h; rw [plan_th] at h; obtain ⟨_, h, _⟩ := h; cases h) (fun _ h => by obtain ⟨_, h⟩ := h; rw [plan_th] at h; obtain ⟨_, h, _⟩ := h; cases h)
            rintro vM wM ⟨hbM, hM⟩
            rw [plan_th] at hM
            obtain ⟨vI, hM, hst⟩ := hM
            cases hM
            obtain ⟨ia, ic, rfl, _⟩ := hst.rd
            have HSI : Hid (w.heap.size < wm9.heap.size) := row_lt hS9.root
            have HST : Hid (Stands wm9.heap.size wM (.slice ia iTh.length ic) iTh) := hst
            have HGB : Hid (∀ b, wm9.heap.size ≤ b → b < wM.heap.size → b ≠ gO) := fun b h1 _ e => by have := row_lt qO; omega
            have hSM := hS9.later hbM
            have qO := row_later qO hbM
            clear HMK hst hbM qa qbb qgb
            generalize wm9.heap.size = gM at *
            refine ⟨hSM.rs, ?_⟩
            simp only [List.setIfInBounds_toArray, List.set_cons_succ, List.set_cons_zero]
            refine tK 12 11 (.tuple #[.agg #[.slice ia iTh.length ic], .int .i64 0]) 4 rfl hSM.rs ?_
            refine tK 13 24 (.agg #[.slice ia iTh.length ic]) 3 rfl hSM.rs ?_
            refine tK 14 25 (.int .i64 0) 2 rfl hSM.rs ?_
            refine wpAnyH_all (fuel := 1) (rs := [16]) (by kernel_rfl) (by decide) ?_
            refine List.forall_mem_singleton.2 ?_
            have zO := (Dg.cell_row qO 0).trans rfl
            have fO := Dg.froz_row qO 0
            have hST9 := Dg.row_other hSM.rs (.slice ia iTh.length ic) (i := 0) (Nat.ne_of_lt HGO.out.2)
            have r1 := Dg.row_other hSM.root (.slice ia iTh.length ic) (i := 0) (Nat.ne_of_lt HGO.out.1)
            have qO2 := Dg.row_set qO 0 (.slice ia iTh.length ic)
            have HBL : Hid _ := hSM.bel.setCell (p := ⟨gO, 0, none⟩) (Nat.le_of_lt HGO.out.1) (.slice ia iTh.length ic)
            have HFI : Hid (∀ b, gM ≤ b → b < wM.heap.size → (wM.setCell ⟨gO, 0, none⟩ (.slice ia iTh.length ic)).heap[b]? = wM.heap[b]?) := fun b h1 h2 => by
              exact (Below.heap_setCell _ _ _ b (by show b ≠ gO; exact HGB.out b h1 (by omega))).trans (by first | rfl | exact HBO.out b (by omega))
            refine wpOp_skip (i := 16) (w' := wM.setCell ⟨gO, 0, none⟩ (.slice ia iTh.length ic)) rfl rfl (by kernel_rfl) (by go_simp) ?_
            refine ⟨hST9, ?_⟩
            clear zO fO qO hSM
            generalize wM.setCell ⟨gO, 0, none⟩ (.slice ia iTh.length ic) = wO at *
            refine tK 17 4 (.int .i64 0) 0 rfl hST9 ?_
            refine wpAnyH_done (by kernel_rfl) ?_ _
            have z0 := (Dg.cell_row qO2 0).trans rfl
            have f0 := Dg.froz_row r1 0
            have z1 := (Dg.cell_row r1 0).trans rfl
            clear hST9 qO2
            go_wp2_with fail
            have r2 := Dg.row_set r1 0 (.slice ia iTh.length ic)
            refine ⟨rfl, _, results_cell_row (p := 0) (ty := 28) rfl _ _ w.heap.size 28 #[_] (0, 0) _ rfl r2 Tryd.underlying28 rfl (by kernel_rfl), HBL.out.setCell (Nat.le_refl _) _, _, rfl, ?_⟩
            refine HST.out _ fun b h1 h2 => ?_
            have h3 := HSI.out
            rw [Below.heap_setCell _ _ _ b (by show b ≠ w.heap.size; omega)]
            exact HFI.out b h1 h2
        · have hb10 := bl1 wc3 (.cells #[.slice none 0 0] 28)
          have hS10 := hS3.later hb10
          have qa := row_later qa hb10
          have qO := Dg.row_new wc3 #[.slice none 0 0] 28
          have HGO : Hid (w.heap.size < wc3.heap.size ∧ c + 1 + 1 < wc3.heap.size) := ⟨row_lt hS3.root, row_lt hS3.rs⟩
          refine wpOp_value (i := 15) (d := 3) (v := .pointer (some ⟨wc3.heap.size, 0, none⟩)) (w' := (wc3.alloc (.cells #[.slice none 0 0] 28))) rfl rfl (by kernel_rfl) (by go_simp) ?_
          refine ⟨hS10.rs, ?_⟩
          simp only [List.setIfInBounds_toArray, List.set_cons_succ, List.set_cons_zero]
          generalize wc3.heap.size = gO at *
          generalize wc3.alloc (.cells #[.slice none 0 0] 28) = wm10 at *
          refine wpAnyH_all (fuel := 9) (rs := [7]) (by kernel_rfl) (by decide) ?_
          refine List.forall_mem_singleton.2 ?_
          have hb11 := bl1 wm10 (.cells #[.string ⟨#[98]⟩, .string ⟨#[117]⟩, .slice none 0 0, .bool false, .bool false, .slice none 0 0, .string ⟨#[115]⟩, .string ⟨#[]⟩, .slice none 0 0, .bool true, .bool false, .slice (some ⟨c + 1, 0, none⟩) 1 1] 71)
          have hS11 := hS10.later hb11
          have qa := row_later qa hb11
          have qO := row_later qO hb11
          have qbb := Dg.row_new wm10 #[.string ⟨#[98]⟩, .string ⟨#[117]⟩, .slice none 0 0, .bool false, .bool false, .slice none 0 0, .string ⟨#[115]⟩, .string ⟨#[]⟩, .slice none 0 0, .bool true, .bool false, .slice (some ⟨c + 1, 0, none⟩) 1 1] 71
          refine wpOp_value (i := 7) (d := 19) (v := .slice (some ⟨wm10.heap.size, 0, none⟩) 2 2) (w' := (wm10.alloc (.cells #[.string ⟨#[98]⟩, .string ⟨#[117]⟩, .slice none 0 0, .bool false, .bool false, .slice none 0 0, .string ⟨#[115]⟩, .string ⟨#[]⟩, .slice none 0 0, .bool true, .bool false, .slice (some ⟨c + 1, 0, none⟩) 1 1] 71))) rfl rfl (by kernel_rfl) (by go_simp) ?_
          refine ⟨hS11.rs, ?_⟩
          simp only [List.setIfInBounds_toArray, List.set_cons_succ, List.set_cons_zero]
          generalize wm10.heap.size = gbb at *
          generalize wm10.alloc (.cells #[.string ⟨#[98]⟩, .string ⟨#[117]⟩, .slice none 0 0, .bool false, .bool false, .slice none 0 0, .string ⟨#[115]⟩, .string ⟨#[]⟩, .slice none 0 0, .bool true, .bool false, .slice (some ⟨c + 1, 0, none⟩) 1 1] 71) = wm11 at *
          refine tG 8 20 (.agg #[.slice (some ⟨gbb, 0, none⟩) 2 2]) 8 rfl hS11.rs ?_
          refine wpAnyH_all (fuel := 7) (rs := [9]) (by kernel_rfl) (by decide) ?_
          refine List.forall_mem_singleton.2 ?_
          have hb12 := bl1 wm11 (.cells #[.slice (some ⟨ga, 0, none⟩) 1 1, .slice (some ⟨gbb, 0, none⟩) 2 2] 87)
          have hS12 := hS11.later hb12
          have qa := row_later qa hb12
          have qO := row_later qO hb12
          have qbb := row_later qbb hb12
          have qgb := Dg.row_new wm11 #[.slice (some ⟨ga, 0, none⟩) 1 1, .slice (some ⟨gbb, 0, none⟩) 2 2] 87
          refine wpOp_value (i := 9) (d := 21) (v := .slice (some ⟨wm11.heap.size, 0, none⟩) 2 2) (w' := (wm11.alloc (.cells #[.slice (some ⟨ga, 0, none⟩) 1 1, .slice (some ⟨gbb, 0, none⟩) 2 2] 87))) rfl rfl (by kernel_rfl) (by go_simp) ?_
          refine ⟨hS12.rs, ?_⟩
          simp only [List.setIfInBounds_toArray, List.set_cons_succ, List.set_cons_zero]
          generalize wm11.heap.size = ggb at *
          generalize wm11.alloc (.cells #[.slice (some ⟨ga, 0, none⟩) 1 1, .slice (some ⟨gbb, 0, none⟩) 2 2] 87) = wm12 at *
          refine tG 10 22 (.agg #[.string ⟨#[116]⟩, .slice (some ⟨ggb, 0, none⟩) 2 2]) 6 rfl hS12.rs ?_
          refine wpAnyH_all (fuel := 5) (rs := [11]) (by kernel_rfl) (by decide) ?_
          refine List.forall_mem_singleton.2 ?_
          have HMK : Hid _ := Make_any wm12 [116] tTh (some ⟨ggb, 0, none⟩) 2 (th_tree _ ga 0 gbb ggb c (c + 1) qa qbb hS12.rc hS12.rb qgb) fair_th hS12.tab
          refine wpOp_calls (i := 11) (d := 23) rfl rfl (by kernel_rfl) (f := 6) (args := #[.agg #[.string ⟨#[116]⟩, .slice (some ⟨ggb, 0, none⟩) 2 2]]) (by kernel_rfl) _ HMK.out ?_ (fun _ _ h => by obtain ⟨_, h⟩ := h; rw [plan_th] at h; obtain ⟨_, h, _⟩ := h; cases h) (fun _ h => by obtain ⟨_, h⟩ := h; rw [plan_th] at h; obtain ⟨_, h, _⟩ := h; cases h)
          rintro vM wM ⟨hbM, hM⟩
          rw [plan_th] at hM
          obtain ⟨vI, hM, hst⟩ := hM
          cases hM
          obtain ⟨ia, ic, rfl, _⟩ := hst.rd
          have HSI : Hid (w.heap.size < wm12.heap.size) := row_lt hS12.root
          have HST : Hid (Stands wm12.heap.size wM (.slice ia iTh.length ic) iTh) := hst
          have HGB : Hid (∀ b, wm12.heap.size ≤ b → b < wM.heap.size → b ≠ gO) := fun b h1 _ e => by have := row_lt qO; omega
          have hSM := hS12.later hbM
          have qO := row_later qO hbM
          clear HMK hst hbM qa qbb qgb
          generalize wm12.heap.size = gM at *
          refine ⟨hSM.rs, ?_⟩
          simp only [List.setIfInBounds_toArray, List.set_cons_succ, List.set_cons_zero]
          refine tK 12 11 (.tuple #[.agg #[.slice ia iTh.length ic], .int .i64 0]) 4 rfl hSM.rs ?_
          refine tK 13 24 (.agg #[.slice ia iTh.length ic]) 3 rfl hSM.rs ?_
          refine tK 14 25 (.int .i64 0) 2 rfl hSM.rs ?_
          refine wpAnyH_all (fuel := 1) (rs := [16]) (by kernel_rfl) (by decide) ?_
          refine List.forall_mem_singleton.2 ?_
          have zO := (Dg.cell_row qO 0).trans rfl
          have fO := Dg.froz_row qO 0
          have hST9 := Dg.row_other hSM.rs (.slice ia iTh.length ic) (i := 0) (Nat.ne_of_lt HGO.out.2)
          have r1 := Dg.row_other hSM.root (.slice ia iTh.length ic) (i := 0) (Nat.ne_of_lt HGO.out.1)
          have qO2 := Dg.row_set qO 0 (.slice ia iTh.length ic)
          have HBL : Hid _ := hSM.bel.setCell (p := ⟨gO, 0, none⟩) (Nat.le_of_lt HGO.out.1) (.slice ia iTh.length ic)
          have HFI : Hid (∀ b, gM ≤ b → b < wM.heap.size → (wM.setCell ⟨gO, 0, none⟩ (.slice ia iTh.length ic)).heap[b]? = wM.heap[b]?) := fun b h1 h2 => by
            exact (Below.heap_setCell _ _ _ b (by show b ≠ gO; exact HGB.out b h1 (by omega))).trans (by first | rfl | exact HBO.out b (by omega))
          refine wpOp_skip (i := 16) (w' := wM.setCell ⟨gO, 0, none⟩ (.slice ia iTh.length ic)) rfl rfl (by kernel_rfl) (by go_simp) ?_
          refine ⟨hST9, ?_⟩
          clear zO fO qO hSM
          generalize wM.setCell ⟨gO, 0, none⟩ (.slice ia iTh.length ic) = wO at *
          refine tK 17 4 (.int .i64 0) 0 rfl hST9 ?_
          refine wpAnyH_done (by kernel_rfl) ?_ _
          have z0 := (Dg.cell_row qO2 0).trans rfl
          have f0 := Dg.froz_row r1 0
          have z1 := (Dg.cell_row r1 0).trans rfl
          clear hST9 qO2
          go_wp2_with fail
          have r2 := Dg.row_set r1 0 (.slice ia iTh.length ic)
          refine ⟨rfl, _, results_cell_row (p := 0) (ty := 28) rfl _ _ w.heap.size 28 #[_] (0, 0) _ rfl r2 Tryd.underlying28 rfl (by kernel_rfl), HBL.out.setCell (Nat.le_refl _) _, _, rfl, ?_⟩
          refine HST.out _ fun b h1 h2 => ?_
          have h3 := HSI.out
          rw [Below.heap_setCell _ _ _ b (by show b ≠ w.heap.size; omega)]
          exact HFI.out b h1 h2
      · have hb13 := bl1 wm2 (.cells #[.slice none 0 0] 28)
        have hS13 := hS2.later hb13
        have qa := row_later qa hb13
        have qO := Dg.row_new wm2 #[.slice none 0 0] 28
        have HGO : Hid (w.heap.size < wm2.heap.size ∧ c + 1 + 1 < wm2.heap.size) := ⟨row_lt hS2.root, row_lt hS2.rs⟩
        refine wpOp_value (i := 15) (d := 3) (v := .pointer (some ⟨wm2.heap.size, 0, none⟩)) (w' := (wm2.alloc (.cells #[.slice none 0 0] 28))) rfl rfl (by kernel_rfl) (by go_simp) ?_
        refine ⟨hS13.rs, ?_⟩
        simp only [List.setIfInBounds_toArray, List.set_cons_succ, List.set_cons_zero]
        generalize wm2.heap.size = gO at *
        generalize wm2.alloc (.cells #[.slice none 0 0] 28) = wm13 at *
        refine wpAnyH_all (fuel := 10) (rs := [5]) (by kernel_rfl) (by decide) ?_
        refine List.forall_mem_singleton.2 ?_
        refine wpOp_calls (i := 5) (d := 17) rfl rfl (by kernel_rfl) (f := 36) (args := #[.string ⟨#[98]⟩]) (by kernel_rfl) _ (step_any 98 _) ?_ (fun _ _ h => by cases h.1) (fun _ h => by cases h.1)
        rintro v14 wc14 ⟨h14, hb14⟩
        cases h14
        have hS14 := hS13.later hb14
        have qa := row_later qa hb14
        have qO := row_later qO hb14
        refine ⟨hS14.rs, ?_⟩
        simp only [List.setIfInBounds_toArray, List.set_cons_succ, List.set_cons_zero]
        refine wpAnyH_all (fuel := 9) (rs := [7]) (by kernel_rfl) (by decide) ?_
        refine List.forall_mem_singleton.2 ?_
        have hb15 := bl1 wc14 (.cells #[.string ⟨#[98]⟩, .string ⟨#[117]⟩, .slice none 0 0, .bool false, .bool false, .slice none 0 0, .string ⟨#[115]⟩, .string ⟨#[]⟩, .slice none 0 0, .bool true, .bool false, .slice (some ⟨c + 1, 0, none⟩) 1 1] 71)
        have hS15 := hS14.later hb15
        have qa := row_later qa hb15
        have qO := row_later qO hb15
        have qbb := Dg.row_new wc14 #[.string ⟨#[98]⟩, .string ⟨#[117]⟩, .slice none 0 0, .bool false, .bool false, .slice none 0 0, .string ⟨#[115]⟩, .string ⟨#[]⟩, .slice none 0 0, .bool true, .bool false, .slice (some ⟨c + 1, 0, none⟩) 1 1] 71
        refine wpOp_value (i := 7) (d := 19) (v := .slice (some ⟨wc14.heap.size, 0, none⟩) 2 2) (w' := (wc14.alloc (.cells #[.string ⟨#[98]⟩, .string ⟨#[117]⟩, .slice none 0 0, .bool false, .bool false, .slice none 0 0, .string ⟨#[115]⟩, .string ⟨#[]⟩, .slice none 0 0, .bool true, .bool false, .slice (some ⟨c + 1, 0, none⟩) 1 1] 71))) rfl rfl (by kernel_rfl) (by go_simp) ?_
        refine ⟨hS15.rs, ?_⟩
        simp only [List.setIfInBounds_toArray, List.set_cons_succ, List.set_cons_zero]
        generalize wc14.heap.size = gbb at *
        generalize wc14.alloc (.cells #[.string ⟨#[98]⟩, .string ⟨#[117]⟩, .slice none 0 0, .bool false, .bool false, .slice none 0 0, .string ⟨#[115]⟩, .string ⟨#[]⟩, .slice none 0 0, .bool true, .bool false, .slice (some ⟨c + 1, 0, none⟩) 1 1] 71) = wm15 at *
        refine tG 8 20 (.agg #[.slice (some ⟨gbb, 0, none⟩) 2 2]) 8 rfl hS15.rs ?_
        refine wpAnyH_all (fuel := 7) (rs := [9]) (by kernel_rfl) (by decide) ?_
        refine List.forall_mem_singleton.2 ?_
        have hb16 := bl1 wm15 (.cells #[.slice (some ⟨ga, 0, none⟩) 1 1, .slice (some ⟨gbb, 0, none⟩) 2 2] 87)
        have hS16 := hS15.later hb16
        have qa := row_later qa hb16
        have qO := row_later qO hb16
        have qbb := row_later qbb hb16
        have qgb := Dg.row_new wm15 #[.slice (some ⟨ga, 0, none⟩) 1 1, .slice (some ⟨gbb, 0, none⟩) 2 2] 87
        refine wpOp_value (i := 9) (d := 21) (v := .slice (some ⟨wm15.heap.size, 0, none⟩) 2 2) (w' := (wm15.alloc (.cells #[.slice (some ⟨ga, 0, none⟩) 1 1, .slice (some ⟨gbb, 0, none⟩) 2 2] 87))) rfl rfl (by kernel_rfl) (by go_simp) ?_
        refine ⟨hS16.rs, ?_⟩
        simp only [List.setIfInBounds_toArray, List.set_cons_succ, List.set_cons_zero]
        generalize wm15.heap.size = ggb at *
        generalize wm15.alloc (.cells #[.slice (some ⟨ga, 0, none⟩) 1 1, .slice (some ⟨gbb, 0, none⟩) 2 2] 87) = wm16 at *
        refine tG 10 22 (.agg #[.string ⟨#[116]⟩, .slice (some ⟨ggb, 0, none⟩) 2 2]) 6 rfl hS16.rs ?_
        refine wpAnyH_all (fuel := 5) (rs := [11]) (by kernel_rfl) (by decide) ?_
        refine List.forall_mem_singleton.2 ?_
        have HMK : Hid _ := Make_any wm16 [116] tTh (some ⟨ggb, 0, none⟩) 2 (th_tree _ ga 0 gbb ggb c (c + 1) qa qbb hS16.rc hS16.rb qgb) fair_th hS16.tab
        refine wpOp_calls (i := 11) (d := 23) rfl rfl (by kernel_rfl) (f := 6) (args := #[.agg #[.string ⟨#[116]⟩, .slice (some ⟨ggb, 0, none⟩) 2 2]]) (by kernel_rfl) _ HMK.out ?_ (fun _ _ h => by obtain ⟨_, h⟩ := h; rw [plan_th] at h; obtain ⟨_, h, _⟩ := h; cases h) (fun _ h => by obtain ⟨_, h⟩ := h; rw [plan_th] at h; obtain ⟨_, h, _⟩ := h; cases h)
        rintro vM wM ⟨hbM, hM⟩
        rw [plan_th] at hM
        obtain ⟨vI, hM, hst⟩ := hM
        cases hM
        obtain ⟨ia, ic, rfl, _⟩ := hst.rd
        have HSI : Hid (w.heap.size < wm16.heap.size) := row_lt hS16.root
        have HST : Hid (Stands wm16.heap.size wM (.slice ia iTh.length ic) iTh) := hst
        have HGB : Hid (∀ b, wm16.heap.size ≤ b → b < wM.heap.size → b ≠ gO) := fun b h1 _ e => by have := row_lt qO; omega
        have hSM := hS16.later hbM
        have qO := row_later qO hbM
        clear HMK hst hbM qa qbb qgb
        generalize wm16.heap.size = gM at *
        refine ⟨hSM.rs, ?_⟩
        simp only [List.setIfInBounds_toArray, List.set_cons_succ, List.set_cons_zero]
        refine tK 12 11 (.tuple #[.agg #[.slice ia iTh.length ic], .int .i64 0]) 4 rfl hSM.rs ?_
        refine tK 13 24 (.agg #[.slice ia iTh.length ic]) 3 rfl hSM.rs ?_
        refine tK 14 25 (.int .i64 0) 2 rfl hSM.rs ?_
        refine wpAnyH_all (fuel := 1) (rs := [16]) (by kernel_rfl) (by decide) ?_
        refine List.forall_mem_singleton.2 ?_
        have zO := (Dg.cell_row qO 0).trans rfl
        have fO := Dg.froz_row qO 0
        have hST9 := Dg.row_other hSM.rs (.slice ia iTh.length ic) (i := 0) (Nat.ne_of_lt HGO.out.2)
        have r1 := Dg.row_other hSM.root (.slice ia iTh.length ic) (i := 0) (Nat.ne_of_lt HGO.out.1)
        have qO2 := Dg.row_set qO 0 (.slice ia iTh.length ic)
        have HBL : Hid _ := hSM.bel.setCell (p := ⟨gO, 0, none⟩) (Nat.le_of_lt HGO.out.1) (.slice ia iTh.length ic)
        have HFI : Hid (∀ b, gM ≤ b → b < wM.heap.size → (wM.setCell ⟨gO, 0, none⟩ (.slice ia iTh.length ic)).heap[b]? = wM.heap[b]?) := fun b h1 h2 => by
          exact (Below.heap_setCell _ _ _ b (by show b ≠ gO; exact HGB.out b h1 (by omega))).trans (by first | rfl | exact HBO.out b (by omega))
        refine wpOp_skip (i := 16) (w' := wM.setCell ⟨gO, 0, none⟩ (.slice ia iTh.length ic)) rfl rfl (by kernel_rfl) (by go_simp) ?_
        refine ⟨hST9, ?_⟩
        clear zO fO qO hSM
        generalize wM.setCell ⟨gO, 0, none⟩ (.slice ia iTh.length ic) = wO at *
        refine tK 17 4 (.int .i64 0) 0 rfl hST9 ?_
        refine wpAnyH_done (by kernel_rfl) ?_ _
        have z0 := (Dg.cell_row qO2 0).trans rfl
        have f0 := Dg.froz_row r1 0
        have z1 := (Dg.cell_row r1 0).trans rfl
        clear hST9 qO2
        go_wp2_with fail
        have r2 := Dg.row_set r1 0 (.slice ia iTh.length ic)
        refine ⟨rfl, _, results_cell_row (p := 0) (ty := 28) rfl _ _ w.heap.size 28 #[_] (0, 0) _ rfl r2 Tryd.underlying28 rfl (by kernel_rfl), HBL.out.setCell (Nat.le_refl _) _, _, rfl, ?_⟩
        refine HST.out _ fun b h1 h2 => ?_
        have h3 := HSI.out
        rw [Below.heap_setCell _ _ _ b (by show b ≠ w.heap.size; omega)]
        exact HFI.out b h1 h2
    · refine wpOp_calls (i := 5) (d := 17) rfl rfl (by kernel_rfl) (f := 36) (args := #[.string ⟨#[98]⟩]) (by kernel_rfl) _ (step_any 98 _) ?_ (fun _ _ h => by cases h.1) (fun _ h => by cases h.1)
      rintro v17 wc17 ⟨h17, hb17⟩
      cases h17
      have hS17 := hS1.later hb17
      refine ⟨hS17.rs, ?_⟩
      simp only [List.setIfInBounds_toArray, List.set_cons_succ, List.set_cons_zero]
      refine wpAnyH_all (fuel := 12) (rs := [2, 7, 15]) (by kernel_rfl) (by decide) ?_
      refine List.forall_mem_cons.2 ⟨?_, List.forall_mem_cons.2 ⟨?_, List.forall_mem_singleton.2 ?_⟩⟩
      · have hb18 := bl1 wc17 (.cells #[.string ⟨#[97]⟩, .string ⟨#[117]⟩, .slice none 0 0, .bool false, .bool false, .slice none 0 0] 71)
        have hS18 := hS17.later hb18
        have qa := Dg.row_new wc17 #[.string ⟨#[97]⟩, .string ⟨#[117]⟩, .slice none 0 0, .bool false, .bool false, .slice none 0 0] 71
        refine wpOp_value (i := 2) (d := 14) (v := .slice (some ⟨wc17.heap.size, 0, none⟩) 1 1) (w' := (wc17.alloc (.cells #[.string ⟨#[97]⟩, .string ⟨#[117]⟩, .slice none 0 0, .bool false, .bool false, .slice none 0 0] 71))) rfl rfl (by kernel_rfl) (by go_simp) ?_
        refine ⟨hS18.rs, ?_⟩
        simp only [List.setIfInBounds_toArray, List.set_cons_succ, List.set_cons_zero]
        generalize wc17.heap.size = ga at *
        generalize wc17.alloc (.cells #[.string ⟨#[97]⟩, .string ⟨#[117]⟩, .slice none 0 0, .bool false, .bool false, .slice none 0 0] 71) = wm18 at *
        refine tG 3 15 (.agg #[.slice (some ⟨ga, 0, none⟩) 1 1]) 11 rfl hS18.rs ?_
        refine wpAnyH_all (fuel := 10) (rs := [7, 15]) (by kernel_rfl) (by decide) ?_
        refine List.forall_mem_cons.2 ⟨?_, List.forall_mem_singleton.2 ?_⟩
        · have hb19 := bl1 wm18 (.cells #[.string ⟨#[98]⟩, .string ⟨#[117]⟩, .slice none 0 0, .bool false, .bool false, .slice none 0 0, .string ⟨#[115]⟩, .string ⟨#[]⟩, .slice none 0 0, .bool true, .bool false, .slice (some ⟨c + 1, 0, none⟩) 1 1] 71)
          have hS19 := hS18.later hb19
          have qa := row_later qa hb19
          have qbb := Dg.row_new wm18 #[.string ⟨#[98]⟩, .string ⟨#[117]⟩, .slice none 0 0, .bool false, .bool false, .slice none 0 0, .string ⟨#[115]⟩, .string ⟨#[]⟩, .slice none 0 0, .bool true, .bool false, .slice (some ⟨c + 1, 0, none⟩) 1 1] 71
          refine wpOp_value (i := 7) (d := 19) (v := .slice (some ⟨wm18.heap.size, 0, none⟩) 2 2) (w' := (wm18.alloc (.cells #[.string ⟨#[98]⟩, .string ⟨#[117]⟩, .slice none 0 0, .bool false, .bool false, .slice none 0 0, .string ⟨#[115]⟩, .string ⟨#[]⟩, .slice none 0 0, .bool true, .bool false, .slice (some ⟨c + 1, 0, none⟩) 1 1] 71))) rfl rfl (by kernel_rfl) (by go_simp) ?_
          refine ⟨hS19.rs, ?_⟩
          simp only [List.setIfInBounds_toArray, List.set_cons_succ, List.set_cons_zero]
          generalize wm18.heap.size = gbb at *
          generalize wm18.alloc (.cells #[.string ⟨#[98]⟩, .string ⟨#[117]⟩, .slice none 0 0, .bool false, .bool false, .slice none 0 0, .string ⟨#[115]⟩, .string ⟨#[]⟩, .slice none 0 0, .bool true, .bool false, .slice (some ⟨c + 1, 0, none⟩) 1 1] 71) = wm19 at *
          refine tG 8 20 (.agg #[.slice (some ⟨gbb, 0, none⟩) 2 2]) 9 rfl hS19.rs ?_
          refine wpAnyH_all (fuel := 8) (rs := [9, 15]) (by kernel_rfl) (by decide) ?_
          refine List.forall_mem_cons.2 ⟨?_, List.forall_mem_singleton.2 ?_⟩
          · have hb20 := bl1 wm19 (.cells #[.slice (some ⟨ga, 0, none⟩) 1 1, .slice (some ⟨gbb, 0, none⟩) 2 2] 87)
            have hS20 := hS19.later hb20
            have qa := row_later qa hb20
            have qbb := row_later qbb hb20
            have qgb := Dg.row_new wm19 #[.slice (some ⟨ga, 0, none⟩) 1 1, .slice (some ⟨gbb, 0, none⟩) 2 2] 87
            refine wpOp_value (i := 9) (d := 21) (v := .slice (some ⟨wm19.heap.size, 0, none⟩) 2 2) (w' := (wm19.alloc (.cells #[.slice (some ⟨ga, 0, none⟩) 1 1, .slice (some ⟨gbb, 0, none⟩) 2 2] 87))) rfl rfl (by kernel_rfl) (by go_simp) ?_
            refine ⟨hS20.rs, ?_⟩
            simp only [List.setIfInBounds_toArray, List.set_cons_succ, List.set_cons_zero]
            generalize wm19.heap.size = ggb at *
            generalize wm19.alloc (.cells #[.slice (some ⟨ga, 0, none⟩) 1 1, .slice (some ⟨gbb, 0, none⟩) 2 2] 87) = wm20 at *
            refine tG 10 22 (.agg #[.string ⟨#[116]⟩, .slice (some ⟨ggb, 0, none⟩) 2 2]) 7 rfl hS20.rs ?_
            refine wpAnyH_all (fuel := 6) (rs := [11, 15]) (by kernel_rfl) (by decide) ?_
            refine List.forall_mem_cons.2 ⟨?_, List.forall_mem_singleton.2 ?_⟩
            · have HMK : Hid _ := Make_any wm20 [116] tTh (some ⟨ggb, 0, none⟩) 2 (th_tree _ ga 0 gbb ggb c (c + 1) qa qbb hS20.rc hS20.rb qgb) fair_th hS20.tab
              refine wpOp_calls (i := 11) (d := 23) rfl rfl (by kernel_rfl) (f := 6) (args := #[.agg #[.string ⟨#[116]⟩, .slice (some ⟨ggb, 0, none⟩) 2 2]]) (by kernel_rfl) _ HMK.out ?_ (fun _ _ h => by obtain ⟨_, h⟩ := h; rw [plan_th] at h; obtain ⟨_, h, _⟩ := h; cases h) (fun _ h => by obtain ⟨_, h⟩ := h; rw [plan_th] at h; obtain ⟨_, h, _⟩ := h; cases h)
              rintro vM wM ⟨hbM, hM⟩
              rw [plan_th] at hM
              obtain ⟨vI, hM, hst⟩ := hM
              cases hM
              obtain ⟨ia, ic, rfl, _⟩ := hst.rd
              have HSI : Hid (w.heap.size < wm20.heap.size) := row_lt hS20.root
              have HST : Hid (Stands wm20.heap.size wM (.slice ia iTh.length ic) iTh) := hst
              have hSM := hS20.later hbM
              clear HMK hst hbM qa qbb qgb
              generalize wm20.heap.size = gM at *
              refine ⟨hSM.rs, ?_⟩
              simp only [List.setIfInBounds_toArray, List.set_cons_succ, List.set_cons_zero]
              refine tK 12 11 (.tuple #[.agg #[.slice ia iTh.length ic], .int .i64 0]) 5 rfl hSM.rs ?_
              refine tK 13 24 (.agg #[.slice ia iTh.length ic]) 4 rfl hSM.rs ?_
              refine tK 14 25 (.int .i64 0) 3 rfl hSM.rs ?_
              refine wpAnyH_all (fuel := 2) (rs := [15]) (by kernel_rfl) (by decide) ?_
              refine List.forall_mem_singleton.2 ?_
              have hb21 := bl1 wM (.cells #[.slice none 0 0] 28)
              have hS21 := hSM.later hb21
              have qO := Dg.row_new wM #[.slice none 0 0] 28
              have HGO : Hid (w.heap.size < wM.heap.size ∧ c + 1 + 1 < wM.heap.size) := ⟨row_lt hSM.root, row_lt hSM.rs⟩
              have HGB : Hid (∀ b, gM ≤ b → b < wM.heap.size → b ≠ wM.heap.size) := fun b _ h e => by omega
              have HBO : Hid (∀ b, b < wM.heap.size → (wM.alloc (.cells #[.slice none 0 0] 28)).heap[b]? = wM.heap[b]?) := fun b h => Below.heap_alloc _ _ _ h
              have HZM : Hid (wM.heap.size = wM.heap.size) := rfl
              refine wpOp_value (i := 15) (d := 3) (v := .pointer (some ⟨wM.heap.size, 0, none⟩)) (w' := (wM.alloc (.cells #[.slice none 0 0] 28))) rfl rfl (by kernel_rfl) (by go_simp) ?_
              refine ⟨hS21.rs, ?_⟩
              simp only [List.setIfInBounds_toArray, List.set_cons_succ, List.set_cons_zero]
              generalize wM.alloc (.cells #[.slice none 0 0] 28) = wm21 at *
              clear HZM
              generalize hzm : wM.heap.size = gO at *
              refine wpAnyH_all (fuel := 1) (rs := [16]) (by kernel_rfl) (by decide) ?_
              refine List.forall_mem_singleton.2 ?_
              have zO := (Dg.cell_row qO 0).trans rfl
              have fO := Dg.froz_row qO 0
              have hST9 := Dg.row_other hS21.rs (.slice ia iTh.length ic) (i := 0) (Nat.ne_of_lt HGO.out.2)
              have r1 := Dg.row_other hS21.root (.slice ia iTh.length ic) (i := 0) (Nat.ne_of_lt HGO.out.1)
              have qO2 := Dg.row_set qO 0 (.slice ia iTh.length ic)
              have HBL : Hid _ := hS21.bel.setCell (p := ⟨gO, 0, none⟩) (Nat.le_of_lt HGO.out.1) (.slice ia iTh.length ic)
              have HFI : Hid (∀ b, gM ≤ b → b < wM.heap.size → (wm21.setCell ⟨gO, 0, none⟩ (.slice ia iTh.length ic)).heap[b]? = wM.heap[b]?) := fun b h1 h2 => by
                exact (Below.heap_setCell _ _ _ b (by show b ≠ gO; exact HGB.out b h1 (by omega))).trans (by first | rfl | exact HBO.out b (by omega))
              refine wpOp_skip (i := 16) (w' := wm21.setCell ⟨gO, 0, none⟩ (.slice ia iTh.length ic)) rfl rfl (by kernel_rfl) (by go_simp) ?_
              refine ⟨hST9, ?_⟩
              clear zO fO qO hS21
              generalize wm21.setCell ⟨gO, 0, none⟩ (.slice ia iTh.length ic) = wO at *
              refine tK 17 4 (.int .i64 0) 0 rfl hST9 ?_
              refine wpAnyH_done (by kernel_rfl) ?_ _
              have z0 := (Dg.cell_row qO2 0).trans rfl
              have f0 := Dg.froz_row r1 0
              have z1 := (Dg.cell_row r1 0).trans rfl
              clear hST9 qO2
              go_wp2_with fail
              have r2 := Dg.row_set r1 0 (.slice ia iTh.length ic)
              refine ⟨rfl, _, results_cell_row (p := 0) (ty := 28) rfl _ _ w.heap.size 28 #[_] (0, 0) _ rfl r2 Tryd.underlying28 rfl (by kernel_rfl), HBL.out.setCell (Nat.le_refl _) _, _, rfl, ?_⟩
              refine HST.out _ fun b h1 h2 => ?_
              have h3 := HSI.out
              rw [Below.heap_setCell _ _ _ b (by show b ≠ w.heap.size; omega)]
              exact HFI.out b h1 h2
            · have hb22 := bl1 wm20 (.cells #[.slice none 0 0] 28)
              have hS22 := hS20.later hb22
              have qa := row_later qa hb22
              have qbb := row_later qbb hb22
              have qgb := row_later qgb hb22
              have qO := Dg.row_new wm20 #[.slice none 0 0] 28
              have HGO : Hid (w.heap.size < wm20.heap.size ∧ c + 1 + 1 < wm20.heap.size) := ⟨row_lt hS20.root, row_lt hS20.rs⟩
              refine wpOp_value (i := 15) (d := 3) (v := .pointer (some ⟨wm20.heap.size, 0, none⟩)) (w' := (wm20.alloc (.cells #[.slice none 0 0] 28))) rfl rfl (by kernel_rfl) (by go_simp) ?_
              refine ⟨hS22.rs, ?_⟩
              simp only [List.setIfInBounds_toArray, List.set_cons_succ, List.set_cons_zero]
              generalize wm20.heap.size = gO at *
              generalize wm20.alloc (.cells #[.slice none 0 0] 28) = wm22 at *
              refine wpAnyH_all (fuel := 5) (rs := [11]) (by kernel_rfl) (by decide) ?_
              refine List.forall_mem_singleton.2 ?_
              have HMK : Hid _ := Make_any wm22 [116] tTh (some ⟨ggb, 0, none⟩) 2 (th_tree _ ga 0 gbb ggb c (c + 1) qa qbb hS22.rc hS22.rb qgb) fair_th hS22.tab
              refine wpOp_calls (i := 11) (d := 23) rfl rfl (by kernel_rfl) (f := 6) (args := #[.agg #[.string ⟨#[116]⟩, .slice (some ⟨ggb, 0, none⟩) 2 2]]) (by kernel_rfl) _ HMK.out ?_ (fun _ _ h => by obtain ⟨_, h⟩ := h; rw [plan_th] at h; obtain ⟨_, h, _⟩ := h; cases h) (fun _ h => by obtain ⟨_, h⟩ := h; rw [plan_th] at h; obtain ⟨_, h, _⟩ := h; cases h)
              rintro vM wM ⟨hbM, hM⟩
              rw [plan_th] at hM
              obtain ⟨vI, hM, hst⟩ := hM
              cases hM
              obtain ⟨ia, ic, rfl, _⟩ := hst.rd
              have HSI : Hid (w.heap.size < wm22.heap.size) := row_lt hS22.root
              have HST : Hid (Stands wm22.heap.size wM (.slice ia iTh.length ic) iTh) := hst
              have HGB : Hid (∀ b, wm22.heap.size ≤ b → b < wM.heap.size → b ≠ gO) := fun b h1 _ e => by have := row_lt qO; omega
              have hSM := hS22.later hbM
              have qO := row_later qO hbM
              clear HMK hst hbM qa qbb qgb
              generalize wm22.heap.size = gM at *
              refine ⟨hSM.rs, ?_⟩
              simp only [List.setIfInBounds_toArray, List.set_cons_succ, List.set_cons_zero]
              refine tK 12 11 (.tuple #[.agg #[.slice ia iTh.length ic], .int .i64 0]) 4 rfl hSM.rs ?_
              refine tK 13 24 (.agg #[.slice ia iTh.length ic]) 3 rfl hSM.rs ?_
              refine tK 14 25 (.int .i64 0) 2 rfl hSM.rs ?_
              refine wpAnyH_all (fuel := 1) (rs := [16]) (by kernel_rfl) (by decide) ?_
              refine List.forall_mem_singleton.2 ?_
              have zO := (Dg.cell_row qO 0).trans rfl
              have fO := Dg.froz_row qO 0
              have hST9 := Dg.row_other hSM.rs (.slice ia iTh.length ic) (i := 0) (Nat.ne_of_lt HGO.out.2)
              have r1 := Dg.row_other hSM.root (.slice ia iTh.length ic) (i := 0) (Nat.ne_of_lt HGO.out.1)
              have qO2 := Dg.row_set qO 0 (.slice ia iTh.length ic)
              have HBL : Hid _ := hSM.bel.setCell (p := ⟨gO, 0, none⟩) (Nat.le_of_lt HGO.out.1) (.slice ia iTh.length ic)
              have HFI : Hid (∀ b, gM ≤ b → b < wM.heap.size → (wM.setCell ⟨gO, 0, none⟩ (.slice ia iTh.length ic)).heap[b]? = wM.heap[b]?) := fun b h1 h2 => by
                exact (Below.heap_setCell _ _ _ b (by show b ≠ gO; exact HGB.out b h1 (by omega))).trans (by first | rfl | exact HBO.out b (by omega))
              refine wpOp_skip (i := 16) (w' := wM.setCell ⟨gO, 0, none⟩ (.slice ia iTh.length ic)) rfl rfl (by kernel_rfl) (by go_simp) ?_
              refine ⟨hST9, ?_⟩
              clear zO fO qO hSM
              generalize wM.setCell ⟨gO, 0, none⟩ (.slice ia iTh.length ic) = wO at *
              refine tK 17 4 (.int .i64 0) 0 rfl hST9 ?_
              refine wpAnyH_done (by kernel_rfl) ?_ _
              have z0 := (Dg.cell_row qO2 0).trans rfl
              have f0 := Dg.froz_row r1 0
              have z1 := (Dg.cell_row r1 0).trans rfl
              clear hST9 qO2
              go_wp2_with fail
              have r2 := Dg.row_set r1 0 (.slice ia iTh.length ic)
              refine ⟨rfl, _, results_cell_row (p := 0) (ty := 28) rfl _ _ w.heap.size 28 #[_] (0, 0) _ rfl r2 Tryd.underlying28 rfl (by kernel_rfl), HBL.out.setCell (Nat.le_refl _) _, _, rfl, ?_⟩
              refine HST.out _ fun b h1 h2 => ?_
              have h3 := HSI.out
              rw [Below.heap_setCell _ _ _ b (by show b ≠ w.heap.size; omega)]
              exact HFI.out b h1 h2
          · have hb23 := bl1 wm19 (.cells #[.slice none 0 0] 28)
            have hS23 := hS19.later hb23
            have qa := row_later qa hb23
            have qbb := row_later qbb hb23
            have qO := Dg.row_new wm19 #[.slice none 0 0] 28
            have HGO : Hid (w.heap.size < wm19.heap.size ∧ c + 1 + 1 < wm19.heap.size) := ⟨row_lt hS19.root, row_lt hS19.rs⟩
            refine wpOp_value (i := 15) (d := 3) (v := .pointer (some ⟨wm19.heap.size, 0, none⟩)) (w' := (wm19.alloc (.cells #[.slice none 0 0] 28))) rfl rfl (by kernel_rfl) (by go_simp) ?_
            refine ⟨hS23.rs, ?_⟩
            simp only [List.setIfInBounds_toArray, List.set_cons_succ, List.set_cons_zero]
            generalize wm19.heap.size = gO at *
            generalize wm19.alloc (.cells #[.slice none 0 0] 28) = wm23 at *
            refine wpAnyH_all (fuel := 7) (rs := [9]) (by kernel_rfl) (by decide) ?_
            refine List.forall_mem_singleton.2 ?_
            have hb24 := bl1 wm23 (.cells #[.slice (some ⟨ga, 0, none⟩) 1 1, .slice (some ⟨gbb, 0, none⟩) 2 2] 87)
            have hS24 := hS23.later hb24
            have qa := row_later qa hb24
            have qbb := row_later qbb hb24
            have qO := row_later qO hb24
            have qgb := Dg.row_new wm23 #[.slice (some ⟨ga, 0, none⟩) 1 1, .slice (some ⟨gbb, 0, none⟩) 2 2] 87
            refine wpOp_value (i := 9) (d := 21) (v := .slice (some ⟨wm23.heap.size, 0, none⟩) 2 2) (w' := (wm23.alloc (.cells #[.slice (some ⟨ga, 0, none⟩) 1 1, .slice (some ⟨gbb, 0, none⟩) 2 2] 87))) rfl rfl (by kernel_rfl) (by go_simp) ?_
            refine ⟨hS24.rs, ?_⟩
            simp only [List.setIfInBounds_toArray, List.set_cons_succ, List.set_cons_zero]
            generalize wm23.heap.size = ggb at *
            generalize wm23.alloc (.cells #[.slice (some ⟨ga, 0, none⟩) 1 1, .slice (some ⟨gbb, 0, none⟩) 2 2] 87) = wm24 at *
            refine tG 10 22 (.agg #[.string ⟨#[116]⟩, .slice (some ⟨ggb, 0, none⟩) 2 2]) 6 rfl hS24.rs ?_
            refine wpAnyH_all (fuel := 5) (rs := [11]) (by kernel_rfl) (by decide) ?_
            refine List.forall_mem_singleton.2 ?_
            have HMK : Hid _ := Make_any wm24 [116] tTh (some ⟨ggb, 0, none⟩) 2 (th_tree _ ga 0 gbb ggb c (c + 1) qa qbb hS24.rc hS24.rb qgb) fair_th hS24.tab
            refine wpOp_calls (i := 11) (d := 23) rfl rfl (by kernel_rfl) (f := 6) (args := #[.agg #[.string ⟨#[116]⟩, .slice (some ⟨ggb, 0, none⟩) 2 2]]) (by kernel_rfl) _ HMK.out ?_ (fun _ _ h => by obtain ⟨_, h⟩ := h; rw [plan_th] at h; obtain ⟨_, h, _⟩ := h; cases h) (fun _ h => by obtain ⟨_, h⟩ := h; rw [plan_th] at h; obtain ⟨_, h, _⟩ := h; cases h)
            rintro vM wM ⟨hbM, hM⟩
            rw [plan_th] at hM
            obtain ⟨vI, hM, hst⟩ := hM
            cases hM
            obtain ⟨ia, ic, rfl, _⟩ := hst.rd
            have HSI : Hid (w.heap.size < wm24.heap.size) := row_lt hS24.root
            have HST : Hid (Stands wm24.heap.size wM (.slice ia iTh.length ic) iTh) := hst
            have HGB : Hid (∀ b, wm24.heap.size ≤ b → b < wM.heap.size → b ≠ gO) := fun b h1 _ e => by have := row_lt qO; omega
            have hSM := hS24.later hbM
            have qO := row_later qO hbM
            clear HMK hst hbM qa qbb qgb
            generalize wm24.heap.size = gM at *
            refine ⟨hSM.rs, ?_⟩
            simp only [List.setIfInBounds_toArray, List.set_cons_succ, List.set_cons_zero]
            refine tK 12 11 (.tuple #[.agg #[.slice ia iTh.length ic], .int .i64 0]) 4 rfl hSM.rs ?_
            refine tK 13 24 (.agg #[.slice ia iTh.length ic]) 3 rfl hSM.rs ?_
            refine tK 14 25 (.int .i64 0) 2 rfl hSM.rs ?_
            refine wpAnyH_all (fuel := 1) (rs := [16]) (by kernel_rfl) (by decide) ?_
            refine List.forall_mem_singleton.2 ?_
            have zO := (Dg.cell_row qO 0).trans rfl
            have fO := Dg.froz_row qO 0
            have hST9 := Dg.row_other hSM.rs (.slice ia iTh.length ic) (i := 0) (Nat.ne_of_lt HGO.out.2)
            have r1 := Dg.row_other hSM.root (.slice ia iTh.length ic) (i := 0) (Nat.ne_of_lt HGO.out.1)
            have qO2 := Dg.row_set qO 0 (.slice ia iTh.length ic)
            have HBL : Hid _ := hSM.bel.setCell (p := ⟨gO, 0, none⟩) (Nat.le_of_lt HGO.out.1) (.slice ia iTh.length ic)
            have HFI : Hid (∀ b, gM ≤ b → b < wM.heap.size → (wM.setCell ⟨gO, 0, none⟩ (.slice ia iTh.length ic)).heap[b]? = wM.heap[b]?) := fun b h1 h2 => by
              exact (Below.heap_setCell _ _ _ b (by show b ≠ gO; exact HGB.out b h1 (by omega))).trans (by first | rfl | exact HBO.out b (by omega))
            refine wpOp_skip (i := 16) (w' := wM.setCell ⟨gO, 0, none⟩ (.slice ia iTh.length ic)) rfl rfl (by kernel_rfl) (by go_simp) ?_
            refine ⟨hST9, ?_⟩
            clear zO fO qO hSM
            generalize wM.setCell ⟨gO, 0, none⟩ (.slice ia iTh.length ic) = wO at *
            refine tK 17 4 (.int .i64 0) 0 rfl hST9 ?_
            refine wpAnyH_done (by kernel_rfl) ?_ _
            have z0 := (Dg.cell_row qO2 0).trans rfl
            have f0 := Dg.froz_row r1 0
            have z1 := (Dg.cell_row r1 0).trans rfl
            clear hST9 qO2
            go_wp2_with fail
            have r2 := Dg.row_set r1 0 (.slice ia iTh.length ic)
            refine ⟨rfl, _, results_cell_row (p := 0) (ty := 28) rfl _ _ w.heap.size 28 #[_] (0, 0) _ rfl r2 Tryd.underlying28 rfl (by kernel_rfl), HBL.out.setCell (Nat.le_refl _) _, _, rfl, ?_⟩
            refine HST.out _ fun b h1 h2 => ?_
            have h3 := HSI.out
            rw [Below.heap_setCell _ _ _ b (by show b ≠ w.heap.size; omega)]
            exact HFI.out b h1 h2
        · have hb25 := bl1 wm18 (.cells #[.slice none 0 0] 28)
          have hS25 := hS18.later hb25
          have qa := row_later qa hb25
          have qO := Dg.row_new wm18 #[.slice none 0 0] 28
          have HGO : Hid (w.heap.size < wm18.heap.size ∧ c + 1 + 1 < wm18.heap.size) := ⟨row_lt hS18.root, row_lt hS18.rs⟩
          refine wpOp_value (i := 15) (d := 3) (v := .pointer (some ⟨wm18.heap.size, 0, none⟩)) (w' := (wm18.alloc (.cells #[.slice none 0 0] 28))) rfl rfl (by kernel_rfl) (by go_simp) ?_
          refine ⟨hS25.rs, ?_⟩
          simp only [List.setIfInBounds_toArray, List.set_cons_succ, List.set_cons_zero]
          generalize wm18.heap.size = gO at *
          generalize wm18.alloc (.cells #[.slice none 0 0] 28) = wm25 at *
          refine wpAnyH_all (fuel := 9) (rs := [7]) (by kernel_rfl) (by decide) ?_
          refine List.forall_mem_singleton.2 ?_
          have hb26 := bl1 wm25 (.cells #[.string ⟨#[98]⟩, .string ⟨#[117]⟩, .slice none 0 0, .bool false, .bool false, .slice none 0 0, .string ⟨#[115]⟩, .string ⟨#[]⟩, .slice none 0 0, .bool true, .bool false, .slice (some ⟨c + 1, 0, none⟩) 1 1] 71)
          have hS26 := hS25.later hb26
          have qa := row_later qa hb26
          have qO := row_later qO hb26
          have qbb := Dg.row_new wm25 #[.string ⟨#[98]⟩, .string ⟨#[117]⟩, .slice none 0 0, .bool false, .bool false, .slice none 0 0, .string ⟨#[115]⟩, .string ⟨#[]⟩, .slice none 0 0, .bool true, .bool false, .slice (some ⟨c + 1, 0, none⟩) 1 1] 71
          refine wpOp_value (i := 7) (d := 19) (v := .slice (some ⟨wm25.heap.size, 0, none⟩) 2 2) (w' := (wm25.alloc (.cells #[.string ⟨#[98]⟩, .string ⟨#[117]⟩, .slice none 0 0, .bool false, .bool false, .slice none 0 0, .string ⟨#[115]⟩, .string ⟨#[]⟩, .slice none 0 0, .bool true, .bool false, .slice (some ⟨c + 1, 0, none⟩) 1 1] 71))) rfl rfl (by kernel_rfl) (by go_simp) ?_
          refine ⟨hS26.rs, ?_⟩
          simp only [List.setIfInBounds_toArray, List.set_cons_succ, List.set_cons_zero]
          generalize wm25.heap.size = gbb at *
          generalize wm25.alloc (.cells #[.string ⟨#[98]⟩, .string ⟨#[117]⟩, .slice none 0 0, .bool false, .bool false, .slice none 0 0, .string ⟨#[115]⟩, .string ⟨#[]⟩, .slice none 0 0, .bool true, .bool false, .slice (some ⟨c + 1, 0, none⟩) 1 1] 71) = wm26 at *
          refine tG 8 20 (.agg #[.slice (some ⟨gbb, 0, none⟩) 2 2]) 8 rfl hS26.rs ?_
          refine wpAnyH_all (fuel := 7) (rs := [9]) (by kernel_rfl) (by decide) ?_
          refine List.forall_mem_singleton.2 ?_
          have hb27 := bl1 wm26 (.cells #[.slice (some ⟨ga, 0, none⟩) 1 1, .slice (some ⟨gbb, 0, none⟩) 2 2] 87)
          have hS27 := hS26.later hb27
          have qa := row_later qa hb27
          have qO := row_later qO hb27
          have qbb := row_later qbb hb27
          have qgb := Dg.row_new wm26 #[.slice (some ⟨ga, 0, none⟩) 1 1, .slice (some ⟨gbb, 0, none⟩) 2 2] 87
          refine wpOp_value (i := 9) (d := 21) (v := .slice (some ⟨wm26.heap.size, 0, none⟩) 2 2) (w' := (wm26.alloc (.cells #[.slice (some ⟨ga, 0, none⟩) 1 1, .slice (some ⟨gbb, 0, none⟩) 2 2] 87))) rfl rfl (by kernel_rfl) (by go_simp) ?_
          refine ⟨hS27.rs, ?_⟩
          simp only [List.setIfInBounds_toArray, List.set_cons_succ, List.set_cons_zero]
          generalize wm26.heap.size = ggb at *
          generalize wm26.alloc (.cells #[.slice (some ⟨ga, 0, none⟩) 1 1, .slice (some ⟨gbb, 0, none⟩) 2 2] 87) = wm27 at *
          refine tG 10 22 (.agg #[.string ⟨#[116]⟩, .slice (some ⟨ggb, 0, none⟩) 2 2]) 6 rfl hS27.rs ?_
          refine wpAnyH_all (fuel := 5) (rs := [11]) (by kernel_rfl) (by decide) ?_
          refine List.forall_mem_singleton.2 ?_
          have HMK : Hid _ := Make_any wm27 [116] tTh (some ⟨ggb, 0, none⟩) 2 (th_tree _ ga 0 gbb ggb c (c + 1) qa qbb hS27.rc hS27.rb qgb) fair_th hS27.tab
          refine wpOp_calls (i := 11) (d := 23) rfl rfl (by kernel_rfl) (f := 6) (args := #[.agg #[.string ⟨#[116]⟩, .slice (some ⟨ggb, 0, none⟩) 2 2]]) (by kernel_rfl) _ HMK.out ?_ (fun _ _ h => by obtain ⟨_, h⟩ := h; rw [plan_th] at h; obtain ⟨_, h, _⟩ := h; cases h) (fun _ h => by obtain ⟨_, h⟩ := h; rw [plan_th] at h; obtain ⟨_, h, _⟩ := h; cases h)
          rintro vM wM ⟨hbM, hM⟩
          rw [plan_th] at hM
          obtain ⟨vI, hM, hst⟩ := hM
          cases hM
          obtain ⟨ia, ic, rfl, _⟩ := hst.rd
          have HSI : Hid (w.heap.size < wm27.heap.size) := row_lt hS27.root
          have HST : Hid (Stands wm27.heap.size wM (.slice ia iTh.length ic) iTh) := hst
          have HGB : Hid (∀ b, wm27.heap.size ≤ b → b < wM.heap.size → b ≠ gO) := fun b h1 _ e => by have := row_lt qO; omega
          have hSM := hS27.later hbM
          have qO := row_later qO hbM
          clear HMK hst hbM qa qbb qgb
          generalize wm27.heap.size = gM at *
          refine ⟨hSM.rs, ?_⟩
          simp only [List.setIfInBounds_toArray, List.set_cons_succ, List.set_cons_zero]
          refine tK 12 11 (.tuple #[.agg #[.slice ia iTh.length ic], .int .i64 0]) 4 rfl hSM.rs ?_
          refine tK 13 24 (.agg #[.slice ia iTh.length ic]) 3 rfl hSM.rs ?_
          refine tK 14 25 (.int .i64 0) 2 rfl hSM.rs ?_
          refine wpAnyH_all (fuel := 1) (rs := [16]) (by kernel_rfl) (by decide) ?_
          refine List.forall_mem_singleton.2 ?_
          have zO := (Dg.cell_row qO 0).trans rfl
          have fO := Dg.froz_row qO 0
          have hST9 := Dg.row_other hSM.rs (.slice ia iTh.length ic) (i := 0) (Nat.ne_of_lt HGO.out.2)
          have r1 := Dg.row_other hSM.root (.slice ia iTh.length ic) (i := 0) (Nat.ne_of_lt HGO.out.1)
          have qO2 := Dg.row_set qO 0 (.slice ia iTh.length ic)
          have HBL : Hid _ := hSM.bel.setCell (p := ⟨gO, 0, none⟩) (Nat.le_of_lt HGO.out.1) (.slice ia iTh.length ic)
          have HFI : Hid (∀ b, gM ≤ b → b < wM.heap.size → (wM.setCell ⟨gO, 0, none⟩ (.slice ia iTh.length ic)).heap[b]? = wM.heap[b]?) := fun b h1 h2 => by
            exact (Below.heap_setCell _ _ _ b (by show b ≠ gO; exact HGB.out b h1 (by omega))).trans (by first | rfl | exact HBO.out b (by omega))
          refine wpOp_skip (i := 16) (w' := wM.setCell ⟨gO, 0, none⟩ (.slice ia iTh.length ic)) rfl rfl (by kernel_rfl) (by go_simp) ?_
          refine ⟨hST9, ?_⟩
          clear zO fO qO hSM
          generalize wM.setCell ⟨gO, 0, none⟩ (.slice ia iTh.length ic) = wO at *
          refine tK 17 4 (.int .i64 0) 0 rfl hST9 ?_
          refine wpAnyH_done (by kernel_rfl) ?_ _
          have z0 := (Dg.cell_row qO2 0).trans rfl
          have f0 := Dg.froz_row r1 0
          have z1 := (Dg.cell_row r1 0).trans rfl
          clear hST9 qO2
          go_wp2_with fail
          have r2 := Dg.row_set r1 0 (.slice ia iTh.length ic)
          refine ⟨rfl, _, results_cell_row (p := 0) (ty := 28) rfl _ _ w.heap.size 28 #[_] (0, 0) _ rfl r2 Tryd.underlying28 rfl (by kernel_rfl), HBL.out.setCell (Nat.le_refl _) _, _, rfl, ?_⟩
          refine HST.out _ fun b h1 h2 => ?_
          have h3 := HSI.out
          rw [Below.heap_setCell _ _ _ b (by show b ≠ w.heap.size; omega)]
          exact HFI.out b h1 h2
      · have hb28 := bl1 wc17 (.cells #[.string ⟨#[98]⟩, .string ⟨#[117]⟩, .slice none 0 0, .bool false, .bool false, .slice none 0 0, .string ⟨#[115]⟩, .string ⟨#[]⟩, .slice none 0 0, .bool true, .bool false, .slice (some ⟨c + 1, 0, none⟩) 1 1] 71)
        have hS28 := hS17.later hb28
        have qbb := Dg.row_new wc17 #[.string ⟨#[98]⟩, .string ⟨#[117]⟩, .slice none 0 0, .bool false, .bool false, .slice none 0 0, .string ⟨#[115]⟩, .string ⟨#[]⟩, .slice none 0 0, .bool true, .bool false, .slice (some ⟨c + 1, 0, none⟩) 1 1] 71
        refine wpOp_value (i := 7) (d := 19) (v := .slice (some ⟨wc17.heap.size, 0, none⟩) 2 2) (w' := (wc17.alloc (.cells #[.string ⟨#[98]⟩, .string ⟨#[117]⟩, .slice none 0 0, .bool false, .bool false, .slice none 0 0, .string ⟨#[115]⟩, .string ⟨#[]⟩, .slice none 0 0, .bool true, .bool false, .slice (some ⟨c + 1, 0, none⟩) 1 1] 71))) rfl rfl (by kernel_rfl) (by go_simp) ?_
        refine ⟨hS28.rs, ?_⟩
        simp only [List.setIfInBounds_toArray, List.set_cons_succ, List.set_cons_zero]
        generalize wc17.heap.size = gbb at *
        generalize wc17.alloc (.cells #[.string ⟨#[98]⟩, .string ⟨#[117]⟩, .slice none 0 0, .bool false, .bool false, .slice none 0 0, .string ⟨#[115]⟩, .string ⟨#[]⟩, .slice none 0 0, .bool true, .bool false, .slice (some ⟨c + 1, 0, none⟩) 1 1] 71) = wm28 at *
        refine tG 8 20 (.agg #[.slice (some ⟨gbb, 0, none⟩) 2 2]) 11 rfl hS28.rs ?_
        refine wpAnyH_all (fuel := 10) (rs := [2, 15]) (by kernel_rfl) (by decide) ?_
        refine List.forall_mem_cons.2 ⟨?_, List.forall_mem_singleton.2 ?_⟩
        · have hb29 := bl1 wm28 (.cells #[.string ⟨#[97]⟩, .string ⟨#[117]⟩, .slice none 0 0, .bool false, .bool false, .slice none 0 0] 71)
          have hS29 := hS28.later hb29
          have qbb := row_later qbb hb29
          have qa := Dg.row_new wm28 #[.string ⟨#[97]⟩, .string ⟨#[117]⟩, .slice none 0 0, .bool false, .bool false, .slice none 0 0] 71
          refine wpOp_value (i := 2) (d := 14) (v := .slice (some ⟨wm28.heap.size, 0, none⟩) 1 1) (w' := (wm28.alloc (.cells #[.string ⟨#[97]⟩, .string ⟨#[117]⟩, .slice none 0 0, .bool false, .bool false, .slice none 0 0] 71))) rfl rfl (by kernel_rfl) (by go_simp) ?_
          refine ⟨hS29.rs, ?_⟩
          simp only [List.setIfInBounds_toArray, List.set_cons_succ, List.set_cons_zero]
          generalize wm28.heap.size = ga at *
          generalize wm28.alloc (.cells #[.string ⟨#[97]⟩, .string ⟨#[117]⟩, .slice none 0 0, .bool false, .bool false, .slice none 0 0] 71) = wm29 at *
          refine tG 3 15 (.agg #[.slice (some ⟨ga, 0, none⟩) 1 1]) 9 rfl hS29.rs ?_
          refine wpAnyH_all (fuel := 8) (rs := [9, 15]) (by kernel_rfl) (by decide) ?_
          refine List.forall_mem_cons.2 ⟨?_, List.forall_mem_singleton.2 ?_⟩
          · have hb30 := bl1 wm29 (.cells #[.slice (some ⟨ga, 0, none⟩) 1 1, .slice (some ⟨gbb, 0, none⟩) 2 2] 87)
            have hS30 := hS29.later hb30
            have qbb := row_later qbb hb30
            have qa := row_later qa hb30
            have qgb := Dg.row_new wm29 #[.slice (some ⟨ga, 0, none⟩) 1 1, .slice (some ⟨gbb, 0, none⟩) 2 2] 87
            refine wpOp_value (i := 9) (d := 21) (v := .slice (some ⟨wm29.heap.size, 0, none⟩) 2 2) (w' := (wm29.alloc (.cells #[.slice (some ⟨ga, 0, none⟩) 1 1, .slice (some ⟨gbb, 0, none⟩) 2 2] 87))) rfl rfl (by kernel_rfl) (by go_simp) ?_
            refine ⟨hS30.rs, ?_⟩
            simp only [List.setIfInBounds_toArray, List.set_cons_succ, List.set_cons_zero]
            generalize wm29.heap.size = ggb at *
            generalize wm29.alloc (.cells #[.slice (some ⟨ga, 0, none⟩) 1 1, .slice (some ⟨gbb, 0, none⟩) 2 2] 87) = wm30 at *
            refine tG 10 22 (.agg #[.string ⟨#[116]⟩, .slice (some ⟨ggb, 0, none⟩) 2 2]) 7 rfl hS30.rs ?_
            refine wpAnyH_all (fuel := 6) (rs := [11, 15]) (by kernel_rfl) (by decide) ?_
            refine List.forall_mem_cons.2 ⟨?_, List.forall_mem_singleton.2 ?_⟩
            · have HMK : Hid _ := Make_any wm30 [116] tTh (some ⟨ggb, 0, none⟩) 2 (th_tree _ ga 0 gbb ggb c (c + 1) qa qbb hS30.rc hS30.rb qgb) fair_th hS30.tab
              refine wpOp_calls (i := 11) (d := 23) rfl rfl (by kernel_rfl) (f := 6) (args := #[.agg #[.string ⟨#[116]⟩, .slice (some ⟨ggb, 0, none⟩) 2 2]]) (by kernel_rfl) _ HMK.out ?_ (fun _ _ h => by obtain ⟨_, h⟩ := h; rw [plan_th] at h; obtain ⟨_, h, _⟩ := h; cases h) (fun _ h => by obtain ⟨_, h⟩ := h; rw [plan_th] at h; obtain ⟨_, h, _⟩ := h; cases h)
              rintro vM wM ⟨hbM, hM⟩
              rw [plan_th] at hM
              obtain ⟨vI, hM, hst⟩ := hM
              cases hM
              obtain ⟨ia, ic, rfl, _⟩ := hst.rd
              have HSI : Hid (w.heap.size < wm30.heap.size) := row_lt hS30.root
              have HST : Hid (Stands wm30.heap.size wM (.slice ia iTh.length ic) iTh) := hst
              have hSM := hS30.later hbM
              clear HMK hst hbM qa qbb qgb
              generalize wm30.heap.size = gM at *
              refine ⟨hSM.rs, ?_⟩
              simp only [List.setIfInBounds_toArray, List.set_cons_succ, List.set_cons_zero]
              refine tK 12 11 (.tuple #[.agg #[.slice ia iTh.length ic], .int .i64 0]) 5 rfl hSM.rs ?_
              refine tK 13 24 (.agg #[.slice ia iTh.length ic]) 4 rfl hSM.rs ?_
              refine tK 14 25 (.int .i64 0) 3 rfl hSM.rs ?_
              refine wpAnyH_all (fuel := 2) (rs := [15]) (by kernel_rfl) (by decide) ?_
              refine List.forall_mem_singleton.2 ?_
              have hb31 := bl1 wM (.cells #[.slice none 0 0] 28)
              have hS31 := hSM.later hb31
              have qO := Dg.row_new wM #[.slice none 0 0] 28
              have HGO : Hid (w.heap.size < wM.heap.size ∧ c + 1 + 1 < wM.heap.size) := ⟨row_lt hSM.root, row_lt hSM.rs⟩
              have HGB : Hid (∀ b, gM ≤ b → b < wM.heap.size → b ≠ wM.heap.size) := fun b _ h e => by omega
              have HBO : Hid (∀ b, b < wM.heap.size → (wM.alloc (.cells #[.slice none 0 0] 28)).heap[b]? = wM.heap[b]?) := fun b h => Below.heap_alloc _ _ _ h
              have HZM : Hid (wM.heap.size = wM.heap.size) := rfl
              refine wpOp_value (i := 15) (d := 3) (v := .pointer (some ⟨wM.heap.size, 0, none⟩)) (w' := (wM.alloc (.cells #[.slice none 0 0] 28))) rfl rfl (by kernel_rfl) (by go_simp) ?_
              refine ⟨hS31.rs, ?_⟩
              simp only [List.setIfInBounds_toArray, List.set_cons_succ, List.set_cons_zero]
              generalize wM.alloc (.cells #[.slice none 0 0] 28) = wm31 at *
              clear HZM
              generalize hzm : wM.heap.size = gO at *
              refine wpAnyH_all (fuel := 1) (rs := [16]) (by kernel_rfl) (by decide) ?_
              refine List.forall_mem_singleton.2 ?_
              have zO := (Dg.cell_row qO 0).trans rfl
              have fO := Dg.froz_row qO 0
              have hST9 := Dg.row_other hS31.rs (.slice ia iTh.length ic) (i := 0) (Nat.ne_of_lt HGO.out.2)
              have r1 := Dg.row_other hS31.root (.slice ia iTh.length ic) (i := 0) (Nat.ne_of_lt HGO.out.1)
              have qO2 := Dg.row_set qO 0 (.slice ia iTh.length ic)
              have HBL : Hid _ := hS31.bel.setCell (p := ⟨gO, 0, none⟩) (Nat.le_of_lt HGO.out.1) (.slice ia iTh.length ic)
              have HFI : Hid (∀ b, gM ≤ b → b < wM.heap.size → (wm31.setCell ⟨gO, 0, none⟩ (.slice ia iTh.length ic)).heap[b]? = wM.heap[b]?) := fun b h1 h2 => by
                exact (Below.heap_setCell _ _ _ b (by show b ≠ gO; exact HGB.out b h1 (by omega))).trans (by first | rfl | exact HBO.out b (by omega))
              refine wpOp_skip (i := 16) (w' := wm31.setCell ⟨gO, 0, none⟩ (.slice ia iTh.length ic)) rfl rfl (by kernel_rfl) (by go_simp) ?_
              refine ⟨hST9, ?_⟩
              clear zO fO qO hS31
              generalize wm31.setCell ⟨gO, 0, none⟩ (.slice ia iTh.length ic) = wO at *
              refine tK 17 4 (.int .i64 0) 0 rfl hST9 ?_
              refine wpAnyH_done (by kernel_rfl) ?_ _
              have z0 := (Dg.cell_row qO2 0).trans rfl
              have f0 := Dg.froz_row r1 0
              have z1 := (Dg.cell_row r1 0).trans rfl
              clear hST9 qO2
              go_wp2_with fail
              have r2 := Dg.row_set r1 0 (.slice ia iTh.length ic)
              refine ⟨rfl, _, results_cell_row (p := 0) (ty := 28) rfl _ _ w.heap.size 28 #[_] (0, 0) _ rfl r2 Tryd.underlying28 rfl (by kernel_rfl), HBL.out.setCell (Nat.le_refl _) _, _, rfl, ?_⟩
              refine HST.out _ fun b h1 h2 => ?_
              have h3 := HSI.out
              rw [Below.heap_setCell _ _ _ b (by show b ≠ w.heap.size; omega)]
              exact HFI.out b h1 h2
            · have hb32 := bl1 wm30 (.cells #[.slice none 0 0] 28)
              have hS32 := hS30.later hb32
              have qbb := row_later qbb hb32
              have qa := row_later qa hb32
              have qgb := row_later qgb hb32
              have qO := Dg.row_new wm30 #[.slice none 0 0] 28
              have HGO : Hid (w.heap.size < wm30.heap.size ∧ c + 1 + 1 < wm30.heap.size) := ⟨row_lt hS30.root, row_lt hS30.rs⟩
              refine wpOp_value (i := 15) (d := 3) (v := .pointer (some ⟨wm30.heap.size, 0, none⟩)) (w' := (wm30.alloc (.cells #[.slice none 0 0] 28))) rfl rfl (by kernel_rfl) (by go_simp) ?_
              refine ⟨hS32.rs, ?_⟩
              simp only [List.setIfInBounds_toArray, List.set_cons_succ, List.set_cons_zero]
              generalize wm30.heap.size = gO at *
              generalize wm30.alloc (.cells #[.slice none 0 0] 28) = wm32 at *
              refine wpAnyH_all (fuel := 5) (rs := [11]) (by kernel_rfl) (by decide) ?_
              refine List.forall_mem_singleton.2 ?_
              have HMK : Hid _ := Make_any wm32 [116] tTh (some ⟨ggb, 0, none⟩) 2 (th_tree _ ga 0 gbb ggb c (c + 1) qa qbb hS32.rc hS32.rb qgb) fair_th hS32.tab
              refine wpOp_calls (i := 11) (d := 23) rfl rfl (by kernel_rfl) (f := 6) (args := #[.agg #[.string ⟨#[116]⟩, .slice (some ⟨ggb, 0, none⟩) 2 2]]) (by kernel_rfl) _ HMK.out ?_ (fun _ _ h => by obtain ⟨_, h⟩ := h; rw [plan_th] at h; obtain ⟨_, h, _⟩ := h; cases h) (fun _ h => by obtain ⟨_, h⟩ := h; rw [plan_th] at h; obtain ⟨_, h, _⟩ := h; cases h)
              rintro vM wM ⟨hbM, hM⟩
              rw [plan_th] at hM
              obtain ⟨vI, hM, hst⟩ := hM
              cases hM
              obtain ⟨ia, ic, rfl, _⟩ := hst.rd
              have HSI : Hid (w.heap.size < wm32.heap.size) := row_lt hS32.root
              have HST : Hid (Stands wm32.heap.size wM (.slice ia iTh.length ic) iTh) := hst
              have HGB : Hid (∀ b, wm32.heap.size ≤ b → b < wM.heap.size → b ≠ gO) := fun b h1 _ e => by have := row_lt qO; omega
              have hSM := hS32.later hbM
              have qO := row_later qO hbM
              clear HMK hst hbM qa qbb qgb
              generalize wm32.heap.size = gM at *
              refine ⟨hSM.rs, ?_⟩
              simp only [List.setIfInBounds_toArray, List.set_cons_succ, List.set_cons_zero]
              refine tK 12 11 (.tuple #[.agg #[.slice ia iTh.length ic], .int .i64 0]) 4 rfl hSM.rs ?_
              refine tK 13 24 (.agg #[.slice ia iTh.length ic]) 3 rfl hSM.rs ?_
              refine tK 14 25 (.int .i64 0) 2 rfl hSM.rs ?_
              refine wpAnyH_all (fuel := 1) (rs := [16]) (by kernel_rfl) (by decide) ?_
              refine List.forall_mem_singleton.2 ?_
              have zO := (Dg.cell_row qO 0).trans rfl
              have fO := Dg.froz_row qO 0
              have hST9 := Dg.row_other hSM.rs (.slice ia iTh.length ic) (i := 0) (Nat.ne_of_lt HGO.out.2)
              have r1 := Dg.row_other hSM.root (.slice ia iTh.length ic) (i := 0) (Nat.ne_of_lt HGO.out.1)
              have qO2 := Dg.row_set qO 0 (.slice ia iTh.length ic)
              have HBL : Hid _ := hSM.bel.setCell (p := ⟨gO, 0, none⟩) (Nat.le_of_lt HGO.out.1) (.slice ia iTh.length ic)
              have HFI : Hid (∀ b, gM ≤ b → b < wM.heap.size → (wM.setCell ⟨gO, 0, none⟩ (.slice ia iTh.length ic)).heap[b]? = wM.heap[b]?) := fun b h1 h2 => by
                exact (Below.heap_setCell _ _ _ b (by show b ≠ gO; exact HGB.out b h1 (by omega))).trans (by first | rfl | exact HBO.out b (by omega))
              refine wpOp_skip (i := 16) (w' := wM.setCell ⟨gO, 0, none⟩ (.slice ia iTh.length ic)) rfl rfl (by kernel_rfl) (by go_simp) ?_
              refine ⟨hST9, ?_⟩
              clear zO fO qO hSM
              generalize wM.setCell ⟨gO, 0, none⟩ (.slice ia iTh.length ic) = wO at *
              refine tK 17 4 (.int .i64 0) 0 rfl hST9 ?_
              refine wpAnyH_done (by kernel_rfl) ?_ _
              have z0 := (Dg.cell_row qO2 0).trans rfl
              have f0 := Dg.froz_row r1 0
              have z1 := (Dg.cell_row r1 0).trans rfl
              clear hST9 qO2
              go_wp2_with fail
              have r2 := Dg.row_set r1 0 (.slice ia iTh.length ic)
              refine ⟨rfl, _, results_cell_row (p := 0) (ty := 28) rfl _ _ w.heap.size 28 #[_] (0, 0) _ rfl r2 Tryd.underlying28 rfl (by kernel_rfl), HBL.out.setCell (Nat.le_refl _) _, _, rfl, ?_⟩
              refine HST.out _ fun b h1 h2 => ?_
              have h3 := HSI.out
              rw [Below.heap_setCell _ _ _ b (by show b ≠ w.heap.size; omega)]
              exact HFI.out b h1 h2
          · have hb33 := bl1 wm29 (.cells #[.slice none 0 0] 28)
            have hS33 := hS29.later hb33
            have qbb := row_later qbb hb33
            have qa := row_later qa hb33
            have qO := Dg.row_new wm29 #[.slice none 0 0] 28
            have HGO : Hid (w.heap.size < wm29.heap.size ∧ c + 1 + 1 < wm29.heap.size) := ⟨row_lt hS29.root, row_lt hS29.rs⟩
            refine wpOp_value (i := 15) (d := 3) (v := .pointer (some ⟨wm29.heap.size, 0, none⟩)) (w' := (wm29.alloc (.cells #[.slice none 0 0] 28))) rfl rfl (by kernel_rfl) (by go_simp) ?_
            refine ⟨hS33.rs, ?_⟩
            simp only [List.setIfInBounds_toArray, List.set_cons_succ, List.set_cons_zero]
            generalize wm29.heap.size = gO at *
            generalize wm29.alloc (.cells #[.slice none 0 0] 28) = wm33 at *
            refine wpAnyH_all (fuel := 7) (rs := [9]) (by kernel_rfl) (by decide) ?_
            refine List.forall_mem_singleton.2 ?_
            have hb34 := bl1 wm33 (.cells #[.slice (some ⟨ga, 0, none⟩) 1 1, .slice (some ⟨gbb, 0, none⟩) 2 2] 87)
            have hS34 := hS33.later hb34
            have qbb := row_later qbb hb34
            have qa := row_later qa hb34
            have qO := row_later qO hb34
            have qgb := Dg.row_new wm33 #[.slice (some ⟨ga, 0, none⟩) 1 1, .slice (some ⟨gbb, 0, none⟩) 2 2] 87
            refine wpOp_value (i := 9) (d := 21) (v := .slice (some ⟨wm33.heap.size, 0, none⟩) 2 2) (w' := (wm33.alloc (.cells #[.slice (some ⟨ga, 0, none⟩) 1 1, .slice (some ⟨gbb, 0, none⟩) 2 2] 87))) rfl rfl (by kernel_rfl) (by go_simp) ?_
            refine ⟨hS34.rs, ?_⟩
            simp only [List.setIfInBounds_toArray, List.set_cons_succ, List.set_cons_zero]
            generalize wm33.heap.size = ggb at *
            generalize wm33.alloc (.cells #[.slice (some ⟨ga, 0, none⟩) 1 1, .slice (some ⟨gbb, 0, none⟩) 2 2] 87) = wm34 at *
            refine tG 10 22 (.agg #[.string ⟨#[116]⟩, .slice (some ⟨ggb, 0, none⟩) 2 2]) 6 rfl hS34.rs ?_
            refine wpAnyH_all (fuel := 5) (rs := [11]) (by kernel_rfl) (by decide) ?_
            refine List.forall_mem_singleton.2 ?_
            have HMK : Hid _ := Make_any wm34 [116] tTh (some ⟨ggb, 0, none⟩) 2 (th_tree _ ga 0 gbb ggb c (c + 1) qa qbb hS34.rc hS34.rb qgb) fair_th hS34.tab
            refine wpOp_calls (i := 11) (d := 23) rfl rfl (by kernel_rfl) (f := 6) (args := #[.agg #[.string ⟨#[116]⟩, .slice (some ⟨ggb, 0, none⟩) 2 2]]) (by kernel_rfl) _ HMK.out ?_ (fun _ _ h => by obtain ⟨_, h⟩ := h; rw [plan_th] at h; obtain ⟨_, h, _⟩ := h; cases h) (fun _ h => by obtain ⟨_, h⟩ := h; rw [plan_th] at h; obtain ⟨_, h, _⟩ := h; cases h)
            rintro vM wM ⟨hbM, hM⟩
            rw [plan_th] at hM
            obtain ⟨vI, hM, hst⟩ := hM
            cases hM
            obtain ⟨ia, ic, rfl, _⟩ := hst.rd
            have HSI : Hid (w.heap.size < wm34.heap.size) := row_lt hS34.root
            have HST : Hid (Stands wm34.heap.size wM (.slice ia iTh.length ic) iTh) := hst
            have HGB : Hid (∀ b, wm34.heap.size ≤ b → b < wM.heap.size → b ≠ gO) := fun b h1 _ e => by have := row_lt qO; omega
            have hSM := hS34.later hbM
            have qO := row_later qO hbM
            clear HMK hst hbM qa qbb qgb
            generalize wm34.heap.size = gM at *
            refine ⟨hSM.rs, ?_⟩
            simp only [List.setIfInBounds_toArray, List.set_cons_succ, List.set_cons_zero]
            refine tK 12 11 (.tuple #[.agg #[.slice ia iTh.length ic], .int .i64 0]) 4 rfl hSM.rs ?_
            refine tK 13 24 (.agg #[.slice ia iTh.length ic]) 3 rfl hSM.rs ?_
            refine tK 14 25 (.int .i64 0) 2 rfl hSM.rs ?_
            refine wpAnyH_all (fuel := 1) (rs := [16]) (by kernel_rfl) (by decide) ?_
            refine List.forall_mem_singleton.2 ?_
            have zO := (Dg.cell_row qO 0).trans rfl
            have fO := Dg.froz_row qO 0
            have hST9 := Dg.row_other hSM.rs (.slice ia iTh.length ic) (i := 0) (Nat.ne_of_lt HGO.out.2)
            have r1 := Dg.row_other hSM.root (.slice ia iTh.length ic) (i := 0) (Nat.ne_of_lt HGO.out.1)
            have qO2 := Dg.row_set qO 0 (.slice ia iTh.length ic)
            have HBL : Hid _ := hSM.bel.setCell (p := ⟨gO, 0, none⟩) (Nat.le_of_lt HGO.out.1) (.slice ia iTh.length ic)
            have HFI : Hid (∀ b, gM ≤ b → b < wM.heap.size → (wM.setCell ⟨gO, 0, none⟩ (.slice ia iTh.length ic)).heap[b]? = wM.heap[b]?) := fun b h1 h2 => by
              exact (Below.heap_setCell _ _ _ b (by show b ≠ gO; exact HGB.out b h1 (by omega))).trans (by first | rfl | exact HBO.out b (by omega))
            refine wpOp_skip (i := 16) (w' := wM.setCell ⟨gO, 0, none⟩ (.slice ia iTh.length ic)) rfl rfl (by kernel_rfl) (by go_simp) ?_
            refine ⟨hST9, ?_⟩
            clear zO fO qO hSM
            generalize wM.setCell ⟨gO, 0, none⟩ (.slice ia iTh.length ic) = wO at *
            refine tK 17 4 (.int .i64 0) 0 rfl hST9 ?_
            refine wpAnyH_done (by kernel_rfl) ?_ _
            have z0 := (Dg.cell_row qO2 0).trans rfl
            have f0 := Dg.froz_row r1 0
            have z1 := (Dg.cell_row r1 0).trans rfl
            clear hST9 qO2
            go_wp2_with fail
            have r2 := Dg.row_set r1 0 (.slice ia iTh.length ic)
            refine ⟨rfl, _, results_cell_row (p := 0) (ty := 28) rfl _ _ w.heap.size 28 #[_] (0, 0) _ rfl r2 Tryd.underlying28 rfl (by kernel_rfl), HBL.out.setCell (Nat.le_refl _) _, _, rfl, ?_⟩
            refine HST.out _ fun b h1 h2 => ?_
            have h3 := HSI.out
            rw [Below.heap_setCell _ _ _ b (by show b ≠ w.heap.size; omega)]
            exact HFI.out b h1 h2
        · have hb35 := bl1 wm28 (.cells #[.slice none 0 0] 28)
          have hS35 := hS28.later hb35
          have qbb := row_later qbb hb35
          have qO := Dg.row_new wm28 #[.slice none 0 0] 28
          have HGO : Hid (w.heap.size < wm28.heap.size ∧ c + 1 + 1 < wm28.heap.size) := ⟨row_lt hS28.root, row_lt hS28.rs⟩
          refine wpOp_value (i := 15) (d := 3) (v := .pointer (some ⟨wm28.heap.size, 0, none⟩)) (w' := (wm28.alloc (.cells #[.slice none 0 0] 28))) rfl rfl (by kernel_rfl) (by go_simp) ?_
          refine ⟨hS35.rs, ?_⟩
          simp only [List.setIfInBounds_toArray, List.set_cons_succ, List.set_cons_zero]
          generalize wm28.heap.size = gO at *
          generalize wm28.alloc (.cells #[.slice none 0 0] 28) = wm35 at *
          refine wpAnyH_all (fuel := 9) (rs := [2]) (by kernel_rfl) (by decide) ?_
          refine List.forall_mem_singleton.2 ?_
          have hb36 := bl1 wm35 (.cells #[.string ⟨#[97]⟩, .string ⟨#[117]⟩, .slice none 0 0, .bool false, .bool false, .slice none 0 0] 71)
          have hS36 := hS35.later hb36
          have qbb := row_later qbb hb36
          have qO := row_later qO hb36
          have qa := Dg.row_new wm35 #[.string ⟨#[97]⟩, .string ⟨#[117]⟩, .slice none 0 0, .bool false, .bool false, .slice none 0 0] 71
          refine wpOp_value (i := 2) (d := 14) (v := .slice (some ⟨wm35.heap.size, 0, none⟩) 1 1) (w' := (wm35.alloc (.cells #[.string ⟨#[97]⟩, .string ⟨#[117]⟩, .slice none 0 0, .bool false, .bool false, .slice none 0 0] 71))) rfl rfl (by kernel_rfl) (by go_simp) ?_
          refine ⟨hS36.rs, ?_⟩
          simp only [List.setIfInBounds_toArray, List.set_cons_succ, List.set_cons_zero]
          generalize wm35.heap.size = ga at *
          generalize wm35.alloc (.cells #[.string ⟨#[97]⟩, .string ⟨#[117]⟩, .slice none 0 0, .bool false, .bool false, .slice none 0 0] 71) = wm36 at *
          refine tG 3 15 (.agg #[.slice (some ⟨ga, 0, none⟩) 1 1]) 8 rfl hS36.rs ?_
          refine wpAnyH_all (fuel := 7) (rs := [9]) (by kernel_rfl) (by decide) ?_
          refine List.forall_mem_singleton.2 ?_
          have hb37 := bl1 wm36 (.cells #[.slice (some ⟨ga, 0, none⟩) 1 1, .slice (some ⟨gbb, 0, none⟩) 2 2] 87)
          have hS37 := hS36.later hb37
          have qbb := row_later qbb hb37
          have qO := row_later qO hb37
          have qa := row_later qa hb37
          have qgb := Dg.row_new wm36 #[.slice (some ⟨ga, 0, none⟩) 1 1, .slice (some ⟨gbb, 0, none⟩) 2 2] 87
          refine wpOp_value (i := 9) (d := 21) (v := .slice (some ⟨wm36.heap.size, 0, none⟩) 2 2) (w' := (wm36.alloc (.cells #[.slice (some ⟨ga, 0, none⟩) 1 1, .slice (some ⟨gbb, 0, none⟩) 2 2] 87))) rfl rfl (by kernel_rfl) (by go_simp) ?_
          refine ⟨hS37.rs, ?_⟩
          simp only [List.setIfInBounds_toArray, List.set_cons_succ, List.set_cons_zero]
          generalize wm36.heap.size = ggb at *
          generalize wm36.alloc (.cells #[.slice (some ⟨ga, 0, none⟩) 1 1, .slice (some ⟨gbb, 0, none⟩) 2 2] 87) = wm37 at *
          refine tG 10 22 (.agg #[.string ⟨#[116]⟩, .slice (some ⟨ggb, 0, none⟩) 2 2]) 6 rfl hS37.rs ?_
          refine wpAnyH_all (fuel := 5) (rs := [11]) (by kernel_rfl) (by decide) ?_
          refine List.forall_mem_singleton.2 ?_
          have HMK : Hid _ := Make_any wm37 [116] tTh (some ⟨ggb, 0, none⟩) 2 (th_tree _ ga 0 gbb ggb c (c + 1) qa qbb hS37.rc hS37.rb qgb) fair_th hS37.tab
          refine wpOp_calls (i := 11) (d := 23) rfl rfl (by kernel_rfl) (f := 6) (args := #[.agg #[.string ⟨#[116]⟩, .slice (some ⟨ggb, 0, none⟩) 2 2]]) (by kernel_rfl) _ HMK.out ?_ (fun _ _ h => by obtain ⟨_, h⟩ := h; rw [plan_th] at h; obtain ⟨_, h, _⟩ := h; cases h) (fun _ h => by obtain ⟨_, h⟩ := h; rw [plan_th] at h; obtain ⟨_, h, _⟩ := h; cases h)
          rintro vM wM ⟨hbM, hM⟩
          rw [plan_th] at hM
          obtain ⟨vI, hM, hst⟩ := hM
          cases hM
          obtain ⟨ia, ic, rfl, _⟩ := hst.rd
          have HSI : Hid (w.heap.size < wm37.heap.size) := row_lt hS37.root
          have HST : Hid (Stands wm37.heap.size wM (.slice ia iTh.length ic) iTh) := hst
          have HGB : Hid (∀ b, wm37.heap.size ≤ b → b < wM.heap.size → b ≠ gO) := fun b h1 _ e => by have := row_lt qO; omega
          have hSM := hS37.later hbM
          have qO := row_later qO hbM
          clear HMK hst hbM qa qbb qgb
          generalize wm37.heap.size = gM at *
          refine ⟨hSM.rs, ?_⟩
          simp only [List.setIfInBounds_toArray, List.set_cons_succ, List.set_cons_zero]
          refine tK 12 11 (.tuple #[.agg #[.slice ia iTh.length ic], .int .i64 0]) 4 rfl hSM.rs ?_
          refine tK 13 24 (.agg #[.slice ia iTh.length ic]) 3 rfl hSM.rs ?_
          refine tK 14 25 (.int .i64 0) 2 rfl hSM.rs ?_
          refine wpAnyH_all (fuel := 1) (rs := [16]) (by kernel_rfl) (by decide) ?_
          refine List.forall_mem_singleton.2 ?_
          have zO := (Dg.cell_row qO 0).trans rfl
          have fO := Dg.froz_row qO 0
          have hST9 := Dg.row_other hSM.rs (.slice ia iTh.length ic) (i := 0) (Nat.ne_of_lt HGO.out.2)
          have r1 := Dg.row_other hSM.root (.slice ia iTh.length ic) (i := 0) (Nat.ne_of_lt HGO.out.1)
          have qO2 := Dg.row_set qO 0 (.slice ia iTh.length ic)
          have HBL : Hid _ := hSM.bel.setCell (p := ⟨gO, 0, none⟩) (Nat.le_of_lt HGO.out.1) (.slice ia iTh.length ic)
          have HFI : Hid (∀ b, gM ≤ b → b < wM.heap.size → (wM.setCell ⟨gO, 0, none⟩ (.slice ia iTh.length ic)).heap[b]? = wM.heap[b]?) := fun b h1 h2 => by
            exact (Below.heap_setCell _ _ _ b (by show b ≠ gO; exact HGB.out b h1 (by omega))).trans (by first | rfl | exact HBO.out b (by omega))
          refine wpOp_skip (i := 16) (w' := wM.setCell ⟨gO, 0, none⟩ (.slice ia iTh.length ic)) rfl rfl (by kernel_rfl) (by go_simp) ?_
          refine ⟨hST9, ?_⟩
          clear zO fO qO hSM
          generalize wM.setCell ⟨gO, 0, none⟩ (.slice ia iTh.length ic) = wO at *
          refine tK 17 4 (.int .i64 0) 0 rfl hST9 ?_
          refine wpAnyH_done (by kernel_rfl) ?_ _
          have z0 := (Dg.cell_row qO2 0).trans rfl
          have f0 := Dg.froz_row r1 0
          have z1 := (Dg.cell_row r1 0).trans rfl
          clear hST9 qO2
          go_wp2_with fail
          have r2 := Dg.row_set r1 0 (.slice ia iTh.length ic)
          refine ⟨rfl, _, results_cell_row (p := 0) (ty := 28) rfl _ _ w.heap.size 28 #[_] (0, 0) _ rfl r2 Tryd.underlying28 rfl (by kernel_rfl), HBL.out.setCell (Nat.le_refl _) _, _, rfl, ?_⟩
          refine HST.out _ fun b h1 h2 => ?_
          have h3 := HSI.out
          rw [Below.heap_setCell _ _ _ b (by show b ≠ w.heap.size; omega)]
          exact HFI.out b h1 h2
      · have hb38 := bl1 wc17 (.cells #[.slice none 0 0] 28)
        have hS38 := hS17.later hb38
        have qO := Dg.row_new wc17 #[.slice none 0 0] 28
        have HGO : Hid (w.heap.size < wc17.heap.size ∧ c + 1 + 1 < wc17.heap.size) := ⟨row_lt hS17.root, row_lt hS17.rs⟩
        refine wpOp_value (i := 15) (d := 3) (v := .pointer (some ⟨wc17.heap.size, 0, none⟩)) (w' := (wc17.alloc (.cells #[.slice none 0 0] 28))) rfl rfl (by kernel_rfl) (by go_simp) ?_
        refine ⟨hS38.rs, ?_⟩
        simp only [List.setIfInBounds_toArray, List.set_cons_succ, List.set_cons_zero]
        generalize wc17.heap.size = gO at *
        generalize wc17.alloc (.cells #[.slice none 0 0] 28) = wm38 at *
        refine wpAnyH_all (fuel := 11) (rs := [2, 7]) (by kernel_rfl) (by decide) ?_
        refine List.forall_mem_cons.2 ⟨?_, List.forall_mem_singleton.2 ?_⟩
        · have hb39 := bl1 wm38 (.cells #[.string ⟨#[97]⟩, .string ⟨#[117]⟩, .slice none 0 0, .bool false, .bool false, .slice none 0 0] 71)
          have hS39 := hS38.later hb39
          have qO := row_later qO hb39
          have qa := Dg.row_new wm38 #[.string ⟨#[97]⟩, .string ⟨#[117]⟩, .slice none 0 0, .bool false, .bool false, .slice none 0 0] 71
          refine wpOp_value (i := 2) (d := 14) (v := .slice (some ⟨wm38.heap.size, 0, none⟩) 1 1) (w' := (wm38.alloc (.cells #[.string ⟨#[97]⟩, .string ⟨#[117]⟩, .slice none 0 0, .bool false, .bool false, .slice none 0 0] 71))) rfl rfl (by kernel_rfl) (by go_simp) ?_
          refine ⟨hS39.rs, ?_⟩
          simp only [List.setIfInBounds_toArray, List.set_cons_succ, List.set_cons_zero]
          generalize wm38.heap.size = ga at *
          generalize wm38.alloc (.cells #[.string ⟨#[97]⟩, .string ⟨#[117]⟩, .slice none 0 0, .bool false, .bool false, .slice none 0 0] 71) = wm39 at *
          refine tG 3 15 (.agg #[.slice (some ⟨ga, 0, none⟩) 1 1]) 10 rfl hS39.rs ?_
          refine wpAnyH_all (fuel := 9) (rs := [7]) (by kernel_rfl) (by decide) ?_
          refine List.forall_mem_singleton.2 ?_
          have hb40 := bl1 wm39 (.cells #[.string ⟨#[98]⟩, .string ⟨#[117]⟩, .slice none 0 0, .bool false, .bool false, .slice none 0 0, .string ⟨#[115]⟩, .string ⟨#[]⟩, .slice none 0 0, .bool true, .bool false, .slice (some ⟨c + 1, 0, none⟩) 1 1] 71)
          have hS40 := hS39.later hb40
          have qO := row_later qO hb40
          have qa := row_later qa hb40
          have qbb := Dg.row_new wm39 #[.string ⟨#[98]⟩, .string ⟨#[117]⟩, .slice none 0 0, .bool false, .bool false, .slice none 0 0, .string ⟨#[115]⟩, .string ⟨#[]⟩, .slice none 0 0, .bool true, .bool false, .slice (some ⟨c + 1, 0, none⟩) 1 1] 71
          refine wpOp_value (i := 7) (d := 19) (v := .slice (some ⟨wm39.heap.size, 0, none⟩) 2 2) (w' := (wm39.alloc (.cells #[.string ⟨#[98]⟩, .string ⟨#[117]⟩, .slice none 0 0, .bool false, .bool false, .slice none 0 0, .string ⟨#[115]⟩, .string ⟨#[]⟩, .slice none 0 0, .bool true, .bool false, .slice (some ⟨c + 1, 0, none⟩) 1 1] 71))) rfl rfl (by kernel_rfl) (by go_simp) ?_
          refine ⟨hS40.rs, ?_⟩
          simp only [List.setIfInBounds_toArray, List.set_cons_succ, List.set_cons_zero]
          generalize wm39.heap.size = gbb at *
          generalize wm39.alloc (.cells #[.string ⟨#[98]⟩, .string ⟨#[117]⟩, .slice none 0 0, .bool false, .bool false, .slice none 0 0, .string ⟨#[115]⟩, .string ⟨#[]⟩, .slice none 0 0, .bool true, .bool false, .slice (some ⟨c + 1, 0, none⟩) 1 1] 71) = wm40 at *
          refine tG 8 20 (.agg #[.slice (some ⟨gbb, 0, none⟩) 2 2]) 8 rfl hS40.rs ?_
          refine wpAnyH_all (fuel := 7) (rs := [9]) (by kernel_rfl) (by decide) ?_
          refine List.forall_mem_singleton.2 ?_
          have hb41 := bl1 wm40 (.cells #[.slice (some ⟨ga, 0, none⟩) 1 1, .slice (some ⟨gbb, 0, none⟩) 2 2] 87)
          have hS41 := hS40.later hb41
          have qO := row_later qO hb41
          have qa := row_later qa hb41
          have qbb := row_later qbb hb41
          have qgb := Dg.row_new wm40 #[.slice (some ⟨ga, 0, none⟩) 1 1, .slice (some ⟨gbb, 0, none⟩) 2 2] 87
          refine wpOp_value (i := 9) (d := 21) (v := .slice (some ⟨wm40.heap.size, 0, none⟩) 2 2) (w' := (wm40.alloc (.cells #[.slice (some ⟨ga, 0, none⟩) 1 1, .slice (some ⟨gbb, 0, none⟩) 2 2] 87))) rfl rfl (by kernel_rfl) (by go_simp) ?_
          refine ⟨hS41.rs, ?_⟩
          simp only [List.setIfInBounds_toArray, List.set_cons_succ, List.set_cons_zero]
          generalize wm40.heap.size = ggb at *
          generalize wm40.alloc (.cells #[.slice (some ⟨ga, 0, none⟩) 1 1, .slice (some ⟨gbb, 0, none⟩) 2 2] 87) = wm41 at *
          refine tG 10 22 (.agg #[.string ⟨#[116]⟩, .slice (some ⟨ggb, 0, none⟩) 2 2]) 6 rfl hS41.rs ?_
          refine wpAnyH_all (fuel := 5) (rs := [11]) (by kernel_rfl) (by decide) ?_
          refine List.forall_mem_singleton.2 ?_
          have HMK : Hid _ := Make_any wm41 [116] tTh (some ⟨ggb, 0, none⟩) 2 (th_tree _ ga 0 gbb ggb c (c + 1) qa qbb hS41.rc hS41.rb qgb) fair_th hS41.tab
          refine wpOp_calls (i := 11) (d := 23) rfl rfl (by kernel_rfl) (f := 6) (args := #[.agg #[.string ⟨#[116]⟩, .slice (some ⟨ggb, 0, none⟩) 2 2]]) (by kernel_rfl) _ HMK.out ?_ (fun _ _ h => by obtain ⟨_, h⟩ := h; rw [plan_th] at h; obtain ⟨_, h, _⟩ := h; cases h) (fun _ h => by obtain ⟨_, h⟩ := h; rw [plan_th] at h; obtain ⟨_, h, _⟩ := h; cases h)
          rintro vM wM ⟨hbM, hM⟩
          rw [plan_th] at hM
          obtain ⟨vI, hM, hst⟩ := hM
          cases hM
          obtain ⟨ia, ic, rfl, _⟩ := hst.rd
          have HSI : Hid (w.heap.size < wm41.heap.size) := row_lt hS41.root
          have HST : Hid (Stands wm41.heap.size wM (.slice ia iTh.length ic) iTh) := hst
          have HGB : Hid (∀ b, wm41.heap.size ≤ b → b < wM.heap.size → b ≠ gO) := fun b h1 _ e => by have := row_lt qO; omega
          have hSM := hS41.later hbM
          have qO := row_later qO hbM
          clear HMK hst hbM qa qbb qgb
          generalize wm41.heap.size = gM at *
          refine ⟨hSM.rs, ?_⟩
          simp only [List.setIfInBounds_toArray, List.set_cons_succ, List.set_cons_zero]
          refine tK 12 11 (.tuple #[.agg #[.slice ia iTh.length ic], .int .i64 0]) 4 rfl hSM.rs ?_
          refine tK 13 24 (.agg #[.slice ia iTh.length ic]) 3 rfl hSM.rs ?_
          refine tK 14 25 (.int .i64 0) 2 rfl hSM.rs ?_
          refine wpAnyH_all (fuel := 1) (rs := [16]) (by kernel_rfl) (by decide) ?_
          refine List.forall_mem_singleton.2 ?_
          have zO := (Dg.cell_row qO 0).trans rfl
          have fO := Dg.froz_row qO 0
          have hST9 := Dg.row_other hSM.rs (.slice ia iTh.length ic) (i := 0) (Nat.ne_of_lt HGO.out.2)
          have r1 := Dg.row_other hSM.root (.slice ia iTh.length ic) (i := 0) (Nat.ne_of_lt HGO.out.1)
          have qO2 := Dg.row_set qO 0 (.slice ia iTh.length ic)
          have HBL : Hid _ := hSM.bel.setCell (p := ⟨gO, 0, none⟩) (Nat.le_of_lt HGO.out.1) (.slice ia iTh.length ic)
          have HFI : Hid (∀ b, gM ≤ b → b < wM.heap.size → (wM.setCell ⟨gO, 0, none⟩ (.slice ia iTh.length ic)).heap[b]? = wM.heap[b]?) := fun b h1 h2 => by
            exact (Below.heap_setCell _ _ _ b (by show b ≠ gO; exact HGB.out b h1 (by omega))).trans (by first | rfl | exact HBO.out b (by omega))
          refine wpOp_skip (i := 16) (w' := wM.setCell ⟨gO, 0, none⟩ (.slice ia iTh.length ic)) rfl rfl (by kernel_rfl) (by go_simp) ?_
          refine ⟨hST9, ?_⟩
          clear zO fO qO hSM
          generalize wM.setCell ⟨gO, 0, none⟩ (.slice ia iTh.length ic) = wO at *
          refine tK 17 4 (.int .i64 0) 0 rfl hST9 ?_
          refine wpAnyH_done (by kernel_rfl) ?_ _
          have z0 := (Dg.cell_row qO2 0).trans rfl
          have f0 := Dg.froz_row r1 0
          have z1 := (Dg.cell_row r1 0).trans rfl
          clear hST9 qO2
          go_wp2_with fail
          have r2 := Dg.row_set r1 0 (.slice ia iTh.length ic)
          refine ⟨rfl, _, results_cell_row (p := 0) (ty := 28) rfl _ _ w.heap.size 28 #[_] (0, 0) _ rfl r2 Tryd.underlying28 rfl (by kernel_rfl), HBL.out.setCell (Nat.le_refl _) _, _, rfl, ?_⟩
          refine HST.out _ fun b h1 h2 => ?_
          have h3 := HSI.out
          rw [Below.heap_setCell _ _ _ b (by show b ≠ w.heap.size; omega)]
          exact HFI.out b h1 h2
        · have hb42 := bl1 wm38 (.cells #[.string ⟨#[98]⟩, .string ⟨#[117]⟩, .slice none 0 0, .bool false, .bool false, .slice none 0 0, .string ⟨#[115]⟩, .string ⟨#[]⟩, .slice none 0 0, .bool true, .bool false, .slice (some ⟨c + 1, 0, none⟩) 1 1] 71)
          have hS42 := hS38.later hb42
          have qO := row_later qO hb42
          have qbb := Dg.row_new wm38 #[.string ⟨#[98]⟩, .string ⟨#[117]⟩, .slice none 0 0, .bool false, .bool false, .slice none 0 0, .string ⟨#[115]⟩, .string ⟨#[]⟩, .slice none 0 0, .bool true, .bool false, .slice (some ⟨c + 1, 0, none⟩) 1 1] 71
          refine wpOp_value (i := 7) (d := 19) (v := .slice (some ⟨wm38.heap.size, 0, none⟩) 2 2) (w' := (wm38.alloc (.cells #[.string ⟨#[98]⟩, .string ⟨#[117]⟩, .slice none 0 0, .bool false, .bool false, .slice none 0 0, .string ⟨#[115]⟩, .string ⟨#[]⟩, .slice none 0 0, .bool true, .bool false, .slice (some ⟨c + 1, 0, none⟩) 1 1] 71))) rfl rfl (by kernel_rfl) (by go_simp) ?_
          refine ⟨hS42.rs, ?_⟩
          simp only [List.setIfInBounds_toArray, List.set_cons_succ, List.set_cons_zero]
          generalize wm38.heap.size = gbb at *
          generalize wm38.alloc (.cells #[.string ⟨#[98]⟩, .string ⟨#[117]⟩, .slice none 0 0, .bool false, .bool false, .slice none 0 0, .string ⟨#[115]⟩, .string ⟨#[]⟩, .slice none 0 0, .bool true, .bool false, .slice (some ⟨c + 1, 0, none⟩) 1 1] 71) = wm42 at *
          refine tG 8 20 (.agg #[.slice (some ⟨gbb, 0, none⟩) 2 2]) 10 rfl hS42.rs ?_
          refine wpAnyH_all (fuel := 9) (rs := [2]) (by kernel_rfl) (by decide) ?_
          refine List.forall_mem_singleton.2 ?_
          have hb43 := bl1 wm42 (.cells #[.string ⟨#[97]⟩, .string ⟨#[117]⟩, .slice none 0 0, .bool false, .bool false, .slice none 0 0] 71)
          have hS43 := hS42.later hb43
          have qO := row_later qO hb43
          have qbb := row_later qbb hb43
          have qa := Dg.row_new wm42 #[.string ⟨#[97]⟩, .string ⟨#[117]⟩, .slice none 0 0, .bool false, .bool false, .slice none 0 0] 71
          refine wpOp_value (i := 2) (d := 14) (v := .slice (some ⟨wm42.heap.size, 0, none⟩) 1 1) (w' := (wm42.alloc (.cells #[.string ⟨#[97]⟩, .string ⟨#[117]⟩, .slice none 0 0, .bool false, .bool false, .slice none 0 0] 71))) rfl rfl (by kernel_rfl) (by go_simp) ?_
          refine ⟨hS43.rs, ?_⟩
          simp only [List.setIfInBounds_toArray, List.set_cons_succ, List.set_cons_zero]
          generalize wm42.heap.size = ga at *
          generalize wm42.alloc (.cells #[.string ⟨#[97]⟩, .string ⟨#[117]⟩, .slice none 0 0, .bool false, .bool false, .slice none 0 0] 71) = wm43 at *
          refine tG 3 15 (.agg #[.slice (some ⟨ga, 0, none⟩) 1 1]) 8 rfl hS43.rs ?_
          refine wpAnyH_all (fuel := 7) (rs := [9]) (by kernel_rfl) (by decide) ?_
          refine List.forall_mem_singleton.2 ?_
          have hb44 := bl1 wm43 (.cells #[.slice (some ⟨ga, 0, none⟩) 1 1, .slice (some ⟨gbb, 0, none⟩) 2 2] 87)
          have hS44 := hS43.later hb44
          have qO := row_later qO hb44
          have qbb := row_later qbb hb44
          have qa := row_later qa hb44
          have qgb := Dg.row_new wm43 #[.slice (some ⟨ga, 0, none⟩) 1 1, .slice (some ⟨gbb, 0, none⟩) 2 2] 87
          refine wpOp_value (i := 9) (d := 21) (v := .slice (some ⟨wm43.heap.size, 0, none⟩) 2 2) (w' := (wm43.alloc (.cells #[.slice (some ⟨ga, 0, none⟩) 1 1, .slice (some ⟨gbb, 0, none⟩) 2 2] 87))) rfl rfl (by kernel_rfl) (by go_simp) ?_
          refine ⟨hS44.rs, ?_⟩
          simp only [List.setIfInBounds_toArray, List.set_cons_succ, List.set_cons_zero]
          generalize wm43.heap.size = ggb at *
          generalize wm43.alloc (.cells #[.slice (some ⟨ga, 0, none⟩) 1 1, .slice (some ⟨gbb, 0, none⟩) 2 2] 87) = wm44 at *
          refine tG 10 22 (.agg #[.string ⟨#[116]⟩, .slice (some ⟨ggb, 0, none⟩) 2 2]) 6 rfl hS44.rs ?_
          refine wpAnyH_all (fuel := 5) (rs := [11]) (by kernel_rfl) (by decide) ?_
          refine List.forall_mem_singleton.2 ?_
          have HMK : Hid _ := Make_any wm44 [116] tTh (some ⟨ggb, 0, none⟩) 2 (th_tree _ ga 0 gbb ggb c (c + 1) qa qbb hS44.rc hS44.rb qgb) fair_th hS44.tab
          refine wpOp_calls (i := 11) (d := 23) rfl rfl (by kernel_rfl) (f := 6) (args := #[.agg #[.string ⟨#[116]⟩, .slice (some ⟨ggb, 0, none⟩) 2 2]]) (by kernel_rfl) _ HMK.out ?_ (fun _ _ h => by obtain ⟨_, h⟩ := h; rw [plan_th] at h; obtain ⟨_, h, _⟩ := h; cases h) (fun _ h => by obtain ⟨_, h⟩ := h; rw [plan_th] at h; obtain ⟨_, h, _⟩ := h; cases h)
          rintro vM wM ⟨hbM, hM⟩
          rw [plan_th] at hM
          obtain ⟨vI, hM, hst⟩ := hM
          cases hM
          obtain ⟨ia, ic, rfl, _⟩ := hst.rd
          have HSI : Hid (w.heap.size < wm44.heap.size) := row_lt hS44.root
          have HST : Hid (Stands wm44.heap.size wM (.slice ia iTh.length ic) iTh) := hst
          have HGB : Hid (∀ b, wm44.heap.size ≤ b → b < wM.heap.size → b ≠ gO) := fun b h1 _ e => by have := row_lt qO; omega
          have hSM := hS44.later hbM
          have qO := row_later qO hbM
          clear HMK hst hbM qa qbb qgb
          generalize wm44.heap.size = gM at *
          refine ⟨hSM.rs, ?_⟩
          simp only [List.setIfInBounds_toArray, List.set_cons_succ, List.set_cons_zero]
          refine tK 12 11 (.tuple #[.agg #[.slice ia iTh.length ic], .int .i64 0]) 4 rfl hSM.rs ?_
          refine tK 13 24 (.agg #[.slice ia iTh.length ic]) 3 rfl hSM.rs ?_
          refine tK 14 25 (.int .i64 0) 2 rfl hSM.rs ?_
          refine wpAnyH_all (fuel := 1) (rs := [16]) (by kernel_rfl) (by decide) ?_
          refine List.forall_mem_singleton.2 ?_
          have zO := (Dg.cell_row qO 0).trans rfl
          have fO := Dg.froz_row qO 0
          have hST9 := Dg.row_other hSM.rs (.slice ia iTh.length ic) (i := 0) (Nat.ne_of_lt HGO.out.2)
          have r1 := Dg.row_other hSM.root (.slice ia iTh.length ic) (i := 0) (Nat.ne_of_lt HGO.out.1)
          have qO2 := Dg.row_set qO 0 (.slice ia iTh.length ic)
          have HBL : Hid _ := hSM.bel.setCell (p := ⟨gO, 0, none⟩) (Nat.le_of_lt HGO.out.1) (.slice ia iTh.length ic)
          have HFI : Hid (∀ b, gM ≤ b → b < wM.heap.size → (wM.setCell ⟨gO, 0, none⟩ (.slice ia iTh.length ic)).heap[b]? = wM.heap[b]?) := fun b h1 h2 => by
            exact (Below.heap_setCell _ _ _ b (by show b ≠ gO; exact HGB.out b h1 (by omega))).trans (by first | rfl | exact HBO.out b (by omega))
          refine wpOp_skip (i := 16) (w' := wM.setCell ⟨gO, 0, none⟩ (.slice ia iTh.length ic)) rfl rfl (by kernel_rfl) (by go_simp) ?_
          refine ⟨hST9, ?_⟩
          clear zO fO qO hSM
          generalize wM.setCell ⟨gO, 0, none⟩ (.slice ia iTh.length ic) = wO at *
          refine tK 17 4 (.int .i64 0) 0 rfl hST9 ?_
          refine wpAnyH_done (by kernel_rfl) ?_ _
          have z0 := (Dg.cell_row qO2 0).trans rfl
          have f0 := Dg.froz_row r1 0
          have z1 := (Dg.cell_row r1 0).trans rfl
          clear hST9 qO2
          go_wp2_with fail
          have r2 := Dg.row_set r1 0 (.slice ia iTh.length ic)
          refine ⟨rfl, _, results_cell_row (p := 0) (ty := 28) rfl _ _ w.heap.size 28 #[_] (0, 0) _ rfl r2 Tryd.underlying28 rfl (by kernel_rfl), HBL.out.setCell (Nat.le_refl _) _, _, rfl, ?_⟩
          refine HST.out _ fun b h1 h2 => ?_
          have h3 := HSI.out
          rw [Below.heap_setCell _ _ _ b (by show b ≠ w.heap.size; omega)]
          exact HFI.out b h1 h2
    · have hb45 := bl1 wc1 (.cells #[.slice none 0 0] 28)
      have hS45 := hS1.later hb45
      have qO := Dg.row_new wc1 #[.slice none 0 0] 28
      have HGO : Hid (w.heap.size < wc1.heap.size ∧ c + 1 + 1 < wc1.heap.size) := ⟨row_lt hS1.root, row_lt hS1.rs⟩
      refine wpOp_value (i := 15) (d := 3) (v := .pointer (some ⟨wc1.heap.size, 0, none⟩)) (w' := (wc1.alloc (.cells #[.slice none 0 0] 28))) rfl rfl (by kernel_rfl) (by go_simp) ?_
      refine ⟨hS45.rs, ?_⟩
      simp only [List.setIfInBounds_toArray, List.set_cons_succ, List.set_cons_zero]
      generalize wc1.heap.size = gO at *
      generalize wc1.alloc (.cells #[.slice none 0 0] 28) = wm45 at *
      refine wpAnyH_all (fuel := 12) (rs := [2, 5]) (by kernel_rfl) (by decide) ?_
      refine List.forall_mem_cons.2 ⟨?_, List.forall_mem_singleton.2 ?_⟩
      · have hb46 := bl1 wm45 (.cells #[.string ⟨#[97]⟩, .string ⟨#[117]⟩, .slice none 0 0, .bool false, .bool false, .slice none 0 0] 71)
        have hS46 := hS45.later hb46
        have qO := row_later qO hb46
        have qa := Dg.row_new wm45 #[.string ⟨#[97]⟩, .string ⟨#[117]⟩, .slice none 0 0, .bool false, .bool false, .slice none 0 0] 71
        refine wpOp_value (i := 2) (d := 14) (v := .slice (some ⟨wm45.heap.size, 0, none⟩) 1 1) (w' := (wm45.alloc (.cells #[.string ⟨#[97]⟩, .string ⟨#[117]⟩, .slice none 0 0, .bool false, .bool false, .slice none 0 0] 71))) rfl rfl (by kernel_rfl) (by go_simp) ?_
        refine ⟨hS46.rs, ?_⟩
        simp only [List.setIfInBounds_toArray, List.set_cons_succ, List.set_cons_zero]
        generalize wm45.heap.size = ga at *
        generalize wm45.alloc (.cells #[.string ⟨#[97]⟩, .string ⟨#[117]⟩, .slice none 0 0, .bool false, .bool false, .slice none 0 0] 71) = wm46 at *
        refine tG 3 15 (.agg #[.slice (some ⟨ga, 0, none⟩) 1 1]) 11 rfl hS46.rs ?_
        refine wpAnyH_all (fuel := 10) (rs := [5]) (by kernel_rfl) (by decide) ?_
        refine List.forall_mem_singleton.2 ?_
        refine wpOp_calls (i := 5) (d := 17) rfl rfl (by kernel_rfl) (f := 36) (args := #[.string ⟨#[98]⟩]) (by kernel_rfl) _ (step_any 98 _) ?_ (fun _ _ h => by cases h.1) (fun _ h => by cases h.1)
        rintro v47 wc47 ⟨h47, hb47⟩
        cases h47
        have hS47 := hS46.later hb47
        have qO := row_later qO hb47
        have qa := row_later qa hb47
        refine ⟨hS47.rs, ?_⟩
        simp only [List.setIfInBounds_toArray, List.set_cons_succ, List.set_cons_zero]
        refine wpAnyH_all (fuel := 9) (rs := [7]) (by kernel_rfl) (by decide) ?_
        refine List.forall_mem_singleton.2 ?_
        have hb48 := bl1 wc47 (.cells #[.string ⟨#[98]⟩, .string ⟨#[117]⟩, .slice none 0 0, .bool false, .bool false, .slice none 0 0, .string ⟨#[115]⟩, .string ⟨#[]⟩, .slice none 0 0, .bool true, .bool false, .slice (some ⟨c + 1, 0, none⟩) 1 1] 71)
        have hS48 := hS47.later hb48
        have qO := row_later qO hb48
        have qa := row_later qa hb48
        have qbb := Dg.row_new wc47 #[.string ⟨#[98]⟩, .string ⟨#[117]⟩, .slice none 0 0, .bool false, .bool false, .slice none 0 0, .string ⟨#[115]⟩, .string ⟨#[]⟩, .slice none 0 0, .bool true, .bool false, .slice (some ⟨c + 1, 0, none⟩) 1 1] 71
        refine wpOp_value (i := 7) (d := 19) (v := .slice (some ⟨wc47.heap.size, 0, none⟩) 2 2) (w' := (wc47.alloc (.cells #[.string ⟨#[98]⟩, .string ⟨#[117]⟩, .slice none 0 0, .bool false, .bool false, .slice none 0 0, .string ⟨#[115]⟩, .string ⟨#[]⟩, .slice none 0 0, .bool true, .bool false, .slice (some ⟨c + 1, 0, none⟩) 1 1] 71))) rfl rfl (by kernel_rfl) (by go_simp) ?_
        refine ⟨hS48.rs, ?_⟩
        simp only [List.setIfInBounds_toArray, List.set_cons_succ, List.set_cons_zero]
        generalize wc47.heap.size = gbb at *
        generalize wc47.alloc (.cells #[.string ⟨#[98]⟩, .string ⟨#[117]⟩, .slice none 0 0, .bool false, .bool false, .slice none 0 0, .string ⟨#[115]⟩, .string ⟨#[]⟩, .slice none 0 0, .bool true, .bool false, .slice (some ⟨c + 1, 0, none⟩) 1 1] 71) = wm48 at *
        refine tG 8 20 (.agg #[.slice (some ⟨gbb, 0, none⟩) 2 2]) 8 rfl hS48.rs ?_
        refine wpAnyH_all (fuel := 7) (rs := [9]) (by kernel_rfl) (by decide) ?_
        refine List.forall_mem_singleton.2 ?_
        have hb49 := bl1 wm48 (.cells #[.slice (some ⟨ga, 0, none⟩) 1 1, .slice (some ⟨gbb, 0, none⟩) 2 2] 87)
        have hS49 := hS48.later hb49
        have qO := row_later qO hb49
        have qa := row_later qa hb49
        have qbb := row_later qbb hb49
        have qgb := Dg.row_new wm48 #[.slice (some ⟨ga, 0, none⟩) 1 1, .slice (some ⟨gbb, 0, none⟩) 2 2] 87
        refine wpOp_value (i := 9) (d := 21) (v := .slice (some ⟨wm48.heap.size, 0, none⟩) 2 2) (w' := (wm48.alloc (.cells #[.slice (some ⟨ga, 0, none⟩) 1 1, .slice (some ⟨gbb, 0, none⟩) 2 2] 87))) rfl rfl (by kernel_rfl) (by go_simp) ?_
        refine ⟨hS49.rs, ?_⟩
        simp only [List.setIfInBounds_toArray, List.set_cons_succ, List.set_cons_zero]
        generalize wm48.heap.size = ggb at *
        generalize wm48.alloc (.cells #[.slice (some ⟨ga, 0, none⟩) 1 1, .slice (some ⟨gbb, 0, none⟩) 2 2] 87) = wm49 at *
        refine tG 10 22 (.agg #[.string ⟨#[116]⟩, .slice (some ⟨ggb, 0, none⟩) 2 2]) 6 rfl hS49.rs ?_
        refine wpAnyH_all (fuel := 5) (rs := [11]) (by kernel_rfl) (by decide) ?_
        refine List.forall_mem_singleton.2 ?_
        have HMK : Hid _ := Make_any wm49 [116] tTh (some ⟨ggb, 0, none⟩) 2 (th_tree _ ga 0 gbb ggb c (c + 1) qa qbb hS49.rc hS49.rb qgb) fair_th hS49.tab
        refine wpOp_calls (i := 11) (d := 23) rfl rfl (by kernel_rfl) (f := 6) (args := #[.agg #[.string ⟨#[116]⟩, .slice (some ⟨ggb, 0, none⟩) 2 2]]) (by kernel_rfl) _ HMK.out ?_ (fun _ _ h => by obtain ⟨_, h⟩ := h; rw [plan_th] at h; obtain ⟨_, h, _⟩ := h; cases h) (fun _ h => by obtain ⟨_, h⟩ := h; rw [plan_th] at h; obtain ⟨_, h, _⟩ := h; cases h)
        rintro vM wM ⟨hbM, hM⟩
        rw [plan_th] at hM
        obtain ⟨vI, hM, hst⟩ := hM
        cases hM
        obtain ⟨ia, ic, rfl, _⟩ := hst.rd
        have HSI : Hid (w.heap.size < wm49.heap.size) := row_lt hS49.root
        have HST : Hid (Stands wm49.heap.size wM (.slice ia iTh.length ic) iTh) := hst
        have HGB : Hid (∀ b, wm49.heap.size ≤ b → b < wM.heap.size → b ≠ gO) := fun b h1 _ e => by have := row_lt qO; omega
        have hSM := hS49.later hbM
        have qO := row_later qO hbM
        clear HMK hst hbM qa qbb qgb
        generalize wm49.heap.size = gM at *
        refine ⟨hSM.rs, ?_⟩
        simp only [List.setIfInBounds_toArray, List.set_cons_succ, List.set_cons_zero]
        refine tK 12 11 (.tuple #[.agg #[.slice ia iTh.length ic], .int .i64 0]) 4 rfl hSM.rs ?_
        refine tK 13 24 (.agg #[.slice ia iTh.length ic]) 3 rfl hSM.rs ?_
        refine tK 14 25 (.int .i64 0) 2 rfl hSM.rs ?_
        refine wpAnyH_all (fuel := 1) (rs := [16]) (by kernel_rfl) (by decide) ?_
        refine List.forall_mem_singleton.2 ?_
        have zO := (Dg.cell_row qO 0).trans rfl
        have fO := Dg.froz_row qO 0
        have hST9 := Dg.row_other hSM.rs (.slice ia iTh.length ic) (i := 0) (Nat.ne_of_lt HGO.out.2)
        have r1 := Dg.row_other hSM.root (.slice ia iTh.length ic) (i := 0) (Nat.ne_of_lt HGO.out.1)
        have qO2 := Dg.row_set qO 0 (.slice ia iTh.length ic)
        have HBL : Hid _ := hSM.bel.setCell (p := ⟨gO, 0, none⟩) (Nat.le_of_lt HGO.out.1) (.slice ia iTh.length ic)
        have HFI : Hid (∀ b, gM ≤ b → b < wM.heap.size → (wM.setCell ⟨gO, 0, none⟩ (.slice ia iTh.length ic)).heap[b]? = wM.heap[b]?) := fun b h1 h2 => by
          exact (Below.heap_setCell _ _ _ b (by show b ≠ gO; exact HGB.out b h1 (by omega))).trans (by first | rfl | exact HBO.out b (by omega))
        refine wpOp_skip (i := 16) (w' := wM.setCell ⟨gO, 0, none⟩ (.slice ia iTh.length ic)) rfl rfl (by kernel_rfl) (by go_simp) ?_
        refine ⟨hST9, ?_⟩
        clear zO fO qO hSM
        generalize wM.setCell ⟨gO, 0, none⟩ (.slice ia iTh.length ic) = wO at *
        refine tK 17 4 (.int .i64 0) 0 rfl hST9 ?_
        refine wpAnyH_done (by kernel_rfl) ?_ _
        have z0 := (Dg.cell_row qO2 0).trans rfl
        have f0 := Dg.froz_row r1 0
        have z1 := (Dg.cell_row r1 0).trans rfl
        clear hST9 qO2
        go_wp2_with fail
        have r2 := Dg.row_set r1 0 (.slice ia iTh.length ic)
        refine ⟨rfl, _, results_cell_row (p := 0) (ty := 28) rfl _ _ w.heap.size 28 #[_] (0, 0) _ rfl r2 Tryd.underlying28 rfl (by kernel_rfl), HBL.out.setCell (Nat.le_refl _) _, _, rfl, ?_⟩
        refine HST.out _ fun b h1 h2 => ?_
        have h3 := HSI.out
        rw [Below.heap_setCell _ _ _ b (by show b ≠ w.heap.size; omega)]
        exact HFI.out b h1 h2
      · refine wpOp_calls (i := 5) (d := 17) rfl rfl (by kernel_rfl) (f := 36) (args := #[.string ⟨#[98]⟩]) (by kernel_rfl) _ (step_any 98 _) ?_ (fun _ _ h => by cases h.1) (fun _ h => by cases h.1)
        rintro v50 wc50 ⟨h50, hb50⟩
        cases h50
        have hS50 := hS45.later hb50
        have qO := row_later qO hb50
        refine ⟨hS50.rs, ?_⟩
        simp only [List.setIfInBounds_toArray, List.set_cons_succ, List.set_cons_zero]
        refine wpAnyH_all (fuel := 11) (rs := [2, 7]) (by kernel_rfl) (by decide) ?_
        refine List.forall_mem_cons.2 ⟨?_, List.forall_mem_singleton.2 ?_⟩
        · have hb51 := bl1 wc50 (.cells #[.string ⟨#[97]⟩, .string ⟨#[117]⟩, .slice none 0 0, .bool false, .bool false, .slice none 0 0] 71)
          have hS51 := hS50.later hb51
          have qO := row_later qO hb51
          have qa := Dg.row_new wc50 #[.string ⟨#[97]⟩, .string ⟨#[117]⟩, .slice none 0 0, .bool false, .bool false, .slice none 0 0] 71
          refine wpOp_value (i := 2) (d := 14) (v := .slice (some ⟨wc50.heap.size, 0, none⟩) 1 1) (w' := (wc50.alloc (.cells #[.string ⟨#[97]⟩, .string ⟨#[117]⟩, .slice none 0 0, .bool false, .bool false, .slice none 0 0] 71))) rfl rfl (by kernel_rfl) (by go_simp) ?_
          refine ⟨hS51.rs, ?_⟩
          simp only [List.setIfInBounds_toArray, List.set_cons_succ, List.set_cons_zero]
          generalize wc50.heap.size = ga at *
          generalize wc50.alloc (.cells #[.string ⟨#[97]⟩, .string ⟨#[117]⟩, .slice none 0 0, .bool false, .bool false, .slice none 0 0] 71) = wm51 at *
          refine tG 3 15 (.agg #[.slice (some ⟨ga, 0, none⟩) 1 1]) 10 rfl hS51.rs ?_
          refine wpAnyH_all (fuel := 9) (rs := [7]) (by kernel_rfl) (by decide) ?_
          refine List.forall_mem_singleton.2 ?_
          have hb52 := bl1 wm51 (.cells #[.string ⟨#[98]⟩, .string ⟨#[117]⟩, .slice none 0 0, .bool false, .bool false, .slice none 0 0, .string ⟨#[115]⟩, .string ⟨#[]⟩, .slice none 0 0, .bool true, .bool false, .slice (some ⟨c + 1, 0, none⟩) 1 1] 71)
          have hS52 := hS51.later hb52
          have qO := row_later qO hb52
          have qa := row_later qa hb52
          have qbb := Dg.row_new wm51 #[.string ⟨#[98]⟩, .string ⟨#[117]⟩, .slice none 0 0, .bool false, .bool false, .slice none 0 0, .string ⟨#[115]⟩, .string ⟨#[]⟩, .slice none 0 0, .bool true, .bool false, .slice (some ⟨c + 1, 0, none⟩) 1 1] 71
          refine wpOp_value (i := 7) (d := 19) (v := .slice (some ⟨wm51.heap.size, 0, none⟩) 2 2) (w' := (wm51.alloc (.cells #[.string ⟨#[98]⟩, .string ⟨#[117]⟩, .slice none 0 0, .bool false, .bool false, .slice none 0 0, .string ⟨#[115]⟩, .string ⟨#[]⟩, .slice none 0 0, .bool true, .bool false, .slice (some ⟨c + 1, 0, none⟩) 1 1] 71))) rfl rfl (by kernel_rfl) (by go_simp) ?_
          refine ⟨hS52.rs, ?_⟩
          simp only [List.setIfInBounds_toArray, List.set_cons_succ, List.set_cons_zero]
          generalize wm51.heap.size = gbb at *
          generalize wm51.alloc (.cells #[.string ⟨#[98]⟩, .string ⟨#[117]⟩, .slice none 0 0, .bool false, .bool false, .slice none 0 0, .string ⟨#[115]⟩, .string ⟨#[]⟩, .slice none 0 0, .bool true, .bool false, .slice (some ⟨c + 1, 0, none⟩) 1 1] 71) = wm52 at *
          refine tG 8 20 (.agg #[.slice (some ⟨gbb, 0, none⟩) 2 2]) 8 rfl hS52.rs ?_
          refine wpAnyH_all (fuel := 7) (rs := [9]) (by kernel_rfl) (by decide) ?_
          refine List.forall_mem_singleton.2 ?_
          have hb53 := bl1 wm52 (.cells #[.slice (some ⟨ga, 0, none⟩) 1 1, .slice (some ⟨gbb, 0, none⟩) 2 2] 87)
          have hS53 := hS52.later hb53
          have qO := row_later qO hb53
          have qa := row_later qa hb53
          have qbb := row_later qbb hb53
          have qgb := Dg.row_new wm52 #[.slice (some ⟨ga, 0, none⟩) 1 1, .slice (some ⟨gbb, 0, none⟩) 2 2] 87
          refine wpOp_value (i := 9) (d := 21) (v := .slice (some ⟨wm52.heap.size, 0, none⟩) 2 2) (w' := (wm52.alloc (.cells #[.slice (some ⟨ga, 0, none⟩) 1 1, .slice (some ⟨gbb, 0, none⟩) 2 2] 87))) rfl rfl (by kernel_rfl) (by go_simp) ?_
          refine ⟨hS53.rs, ?_⟩
          simp only [List.setIfInBounds_toArray, List.set_cons_succ, List.set_cons_zero]
          generalize wm52.heap.size = ggb at *
          generalize wm52.alloc (.cells #[.slice (some ⟨ga, 0, none⟩) 1 1, .slice (some ⟨gbb, 0, none⟩) 2 2] 87) = wm53 at *
          refine tG 10 22 (.agg #[.string ⟨#[116]⟩, .slice (some ⟨ggb, 0, none⟩) 2 2]) 6 rfl hS53.rs ?_
          refine wpAnyH_all (fuel := 5) (rs := [11]) (by kernel_rfl) (by decide) ?_
          refine List.forall_mem_singleton.2 ?_
          have HMK : Hid _ := Make_any wm53 [116] tTh (some ⟨ggb, 0, none⟩) 2 (th_tree _ ga 0 gbb ggb c (c + 1) qa qbb hS53.rc hS53.rb qgb) fair_th hS53.tab
          refine wpOp_calls (i := 11) (d := 23) rfl rfl (by kernel_rfl) (f := 6) (args := #[.agg #[.string ⟨#[116]⟩, .slice (some ⟨ggb, 0, none⟩) 2 2]]) (by kernel_rfl) _ HMK.out ?_ (fun _ _ h => by obtain ⟨_, h⟩ := h; rw [plan_th] at h; obtain ⟨_, h, _⟩ := h; cases h) (fun _ h => by obtain ⟨_, h⟩ := h; rw [plan_th] at h; obtain ⟨_, h, _⟩ := h; cases h)
          rintro vM wM ⟨hbM, hM⟩
          rw [plan_th] at hM
          obtain ⟨vI, hM, hst⟩ := hM
          cases hM
          obtain ⟨ia, ic, rfl, _⟩ := hst.rd
          have HSI : Hid (w.heap.size < wm53.heap.size) := row_lt hS53.root
          have HST : Hid (Stands wm53.heap.size wM (.slice ia iTh.length ic) iTh) := hst
          have HGB : Hid (∀ b, wm53.heap.size ≤ b → b < wM.heap.size → b ≠ gO) := fun b h1 _ e => by have := row_lt qO; omega
          have hSM := hS53.later hbM
          have qO := row_later qO hbM
          clear HMK hst hbM qa qbb qgb
          generalize wm53.heap.size = gM at *
          refine ⟨hSM.rs, ?_⟩
          simp only [List.setIfInBounds_toArray, List.set_cons_succ, List.set_cons_zero]
          refine tK 12 11 (.tuple #[.agg #[.slice ia iTh.length ic], .int .i64 0]) 4 rfl hSM.rs ?_
          refine tK 13 24 (.agg #[.slice ia iTh.length ic]) 3 rfl hSM.rs ?_
          refine tK 14 25 (.int .i64 0) 2 rfl hSM.rs ?_
          refine wpAnyH_all (fuel := 1) (rs := [16]) (by kernel_rfl) (by decide) ?_
          refine List.forall_mem_singleton.2 ?_
          have zO := (Dg.cell_row qO 0).trans rfl
          have fO := Dg.froz_row qO 0
          have hST9 := Dg.row_other hSM.rs (.slice ia iTh.length ic) (i := 0) (Nat.ne_of_lt HGO.out.2)
          have r1 := Dg.row_other hSM.root (.slice ia iTh.length ic) (i := 0) (Nat.ne_of_lt HGO.out.1)
          have qO2 := Dg.row_set qO 0 (.slice ia iTh.length ic)
          have HBL : Hid _ := hSM.bel.setCell (p := ⟨gO, 0, none⟩) (Nat.le_of_lt HGO.out.1) (.slice ia iTh.length ic)
          have HFI : Hid (∀ b, gM ≤ b → b < wM.heap.size → (wM.setCell ⟨gO, 0, none⟩ (.slice ia iTh.length ic)).heap[b]? = wM.heap[b]?) := fun b h1 h2 => by
            exact (Below.heap_setCell _ _ _ b (by show b ≠ gO; exact HGB.out b h1 (by omega))).trans (by first | rfl | exact HBO.out b (by omega))
          refine wpOp_skip (i := 16) (w' := wM.setCell ⟨gO, 0, none⟩ (.slice ia iTh.length ic)) rfl rfl (by kernel_rfl) (by go_simp) ?_
          refine ⟨hST9, ?_⟩
          clear zO fO qO hSM
          generalize wM.setCell ⟨gO, 0, none⟩ (.slice ia iTh.length ic) = wO at *
          refine tK 17 4 (.int .i64 0) 0 rfl hST9 ?_
          refine wpAnyH_done (by kernel_rfl) ?_ _
          have z0 := (Dg.cell_row qO2 0).trans rfl
          have f0 := Dg.froz_row r1 0
          have z1 := (Dg.cell_row r1 0).trans rfl
          clear hST9 qO2
          go_wp2_with fail
          have r2 := Dg.row_set r1 0 (.slice ia iTh.length ic)
          refine ⟨rfl, _, results_cell_row (p := 0) (ty := 28) rfl _ _ w.heap.size 28 #[_] (0, 0) _ rfl r2 Tryd.underlying28 rfl (by kernel_rfl), HBL.out.setCell (Nat.le_refl _) _, _, rfl, ?_⟩
          refine HST.out _ fun b h1 h2 => ?_
          have h3 := HSI.out
          rw [Below.heap_setCell _ _ _ b (by show b ≠ w.heap.size; omega)]
          exact HFI.out b h1 h2
        · have hb54 := bl1 wc50 (.cells #[.string ⟨#[98]⟩, .string ⟨#[117]⟩, .slice none 0 0, .bool false, .bool false, .slice none 0 0, .string ⟨#[115]⟩, .string ⟨#[]⟩, .slice none 0 0, .bool true, .bool false, .slice (some ⟨c + 1, 0, none⟩) 1 1] 71)
          have hS54 := hS50.later hb54
          have qO := row_later qO hb54
          have qbb := Dg.row_new wc50 #[.string ⟨#[98]⟩, .string ⟨#[117]⟩, .slice none 0 0, .bool false, .bool false, .slice none 0 0, .string ⟨#[115]⟩, .string ⟨#[]⟩, .slice none 0 0, .bool true, .bool false, .slice (some ⟨c + 1, 0, none⟩) 1 1] 71
          refine wpOp_value (i := 7) (d := 19) (v := .slice (some ⟨wc50.heap.size, 0, none⟩) 2 2) (w' := (wc50.alloc (.cells #[.string ⟨#[98]⟩, .string ⟨#[117]⟩, .slice none 0 0, .bool false, .bool false, .slice none 0 0, .string ⟨#[115]⟩, .string ⟨#[]⟩, .slice none 0 0, .bool true, .bool false, .slice (some ⟨c + 1, 0, none⟩) 1 1] 71))) rfl rfl (by kernel_rfl) (by go_simp) ?_
          refine ⟨hS54.rs, ?_⟩
          simp only [List.setIfInBounds_toArray, List.set_cons_succ, List.set_cons_zero]
          generalize wc50.heap.size = gbb at *
          generalize wc50.alloc (.cells #[.string ⟨#[98]⟩, .string ⟨#[117]⟩, .slice none 0 0, .bool false, .bool false, .slice none 0 0, .string ⟨#[115]⟩, .string ⟨#[]⟩, .slice none 0 0, .bool true, .bool false, .slice (some ⟨c + 1, 0, none⟩) 1 1] 71) = wm54 at *
          refine tG 8 20 (.agg #[.slice (some ⟨gbb, 0, none⟩) 2 2]) 10 rfl hS54.rs ?_
          refine wpAnyH_all (fuel := 9) (rs := [2]) (by kernel_rfl) (by decide) ?_
          refine List.forall_mem_singleton.2 ?_
          have hb55 := bl1 wm54 (.cells #[.string ⟨#[97]⟩, .string ⟨#[117]⟩, .slice none 0 0, .bool false, .bool false, .slice none 0 0] 71)
          have hS55 := hS54.later hb55
          have qO := row_later qO hb55
          have qbb := row_later qbb hb55
          have qa := Dg.row_new wm54 #[.string ⟨#[97]⟩, .string ⟨#[117]⟩, .slice none 0 0, .bool false, .bool false, .slice none 0 0] 71
          refine wpOp_value (i := 2) (d := 14) (v := .slice (some ⟨wm54.heap.size, 0, none⟩) 1 1) (w' := (wm54.alloc (.cells #[.string ⟨#[97]⟩, .string ⟨#[117]⟩, .slice none 0 0, .bool false, .bool false, .slice none 0 0] 71))) rfl rfl (by kernel_rfl) (by go_simp) ?_
          refine ⟨hS55.rs, ?_⟩
          simp only [List.setIfInBounds_toArray, List.set_cons_succ, List.set_cons_zero]
          generalize wm54.heap.size = ga at *
          generalize wm54.alloc (.cells #[.string ⟨#[97]⟩, .string ⟨#[117]⟩, .slice none 0 0, .bool false, .bool false, .slice none 0 0] 71) = wm55 at *
          refine tG 3 15 (.agg #[.slice (some ⟨ga, 0, none⟩) 1 1]) 8 rfl hS55.rs ?_
          refine wpAnyH_all (fuel := 7) (rs := [9]) (by kernel_rfl) (by decide) ?_
          refine List.forall_mem_singleton.2 ?_
          have hb56 := bl1 wm55 (.cells #[.slice (some ⟨ga, 0, none⟩) 1 1, .slice (some ⟨gbb, 0, none⟩) 2 2] 87)
          have hS56 := hS55.later hb56
          have qO := row_later qO hb56
          have qbb := row_later qbb hb56
          have qa := row_later qa hb56
          have qgb := Dg.row_new wm55 #[.slice (some ⟨ga, 0, none⟩) 1 1, .slice (some ⟨gbb, 0, none⟩) 2 2] 87
          refine wpOp_value (i := 9) (d := 21) (v := .slice (some ⟨wm55.heap.size, 0, none⟩) 2 2) (w' := (wm55.alloc (.cells #[.slice (some ⟨ga, 0, none⟩) 1 1, .slice (some ⟨gbb, 0, none⟩) 2 2] 87))) rfl rfl (by kernel_rfl) (by go_simp) ?_
          refine ⟨hS56.rs, ?_⟩
          simp only [List.setIfInBounds_toArray, List.set_cons_succ, List.set_cons_zero]
          generalize wm55.heap.size = ggb at *
          generalize wm55.alloc (.cells #[.slice (some ⟨ga, 0, none⟩) 1 1, .slice (some ⟨gbb, 0, none⟩) 2 2] 87) = wm56 at *
          refine tG 10 22 (.agg #[.string ⟨#[116]⟩, .slice (some ⟨ggb, 0, none⟩) 2 2]) 6 rfl hS56.rs ?_
          refine wpAnyH_all (fuel := 5) (rs := [11]) (by kernel_rfl) (by decide) ?_
          refine List.forall_mem_singleton.2 ?_
          have HMK : Hid _ := Make_any wm56 [116] tTh (some ⟨ggb, 0, none⟩) 2 (th_tree _ ga 0 gbb ggb c (c + 1) qa qbb hS56.rc hS56.rb qgb) fair_th hS56.tab
          refine wpOp_calls (i := 11) (d := 23) rfl rfl (by kernel_rfl) (f := 6) (args := #[.agg #[.string ⟨#[116]⟩, .slice (some ⟨ggb, 0, none⟩) 2 2]]) (by kernel_rfl) _ HMK.out ?_ (fun _ _ h => by obtain ⟨_, h⟩ := h; rw [plan_th] at h; obtain ⟨_, h, _⟩ := h; cases h) (fun _ h => by obtain ⟨_, h⟩ := h; rw [plan_th] at h; obtain ⟨_, h, _⟩ := h; cases h)
          rintro vM wM ⟨hbM, hM⟩
          rw [plan_th] at hM
          obtain ⟨vI, hM, hst⟩ := hM
          cases hM
          obtain ⟨ia, ic, rfl, _⟩ := hst.rd
          have HSI : Hid (w.heap.size < wm56.heap.size) := row_lt hS56.root
          have HST : Hid (Stands wm56.heap.size wM (.slice ia iTh.length ic) iTh) := hst
          have HGB : Hid (∀ b, wm56.heap.size ≤ b → b < wM.heap.size → b ≠ gO) := fun b h1 _ e => by have := row_lt qO; omega
          have hSM := hS56.later hbM
          have qO := row_later qO hbM
          clear HMK hst hbM qa qbb qgb
          generalize wm56.heap.size = gM at *
          refine ⟨hSM.rs, ?_⟩
          simp only [List.setIfInBounds_toArray, List.set_cons_succ, List.set_cons_zero]
          refine tK 12 11 (.tuple #[.agg #[.slice ia iTh.length ic], .int .i64 0]) 4 rfl hSM.rs ?_
          refine tK 13 24 (.agg #[.slice ia iTh.length ic]) 3 rfl hSM.rs ?_
          refine tK 14 25 (.int .i64 0) 2 rfl hSM.rs ?_
          refine wpAnyH_all (fuel := 1) (rs := [16]) (by kernel_rfl) (by decide) ?_
          refine List.forall_mem_singleton.2 ?_
          have zO := (Dg.cell_row qO 0).trans rfl
          have fO := Dg.froz_row qO 0
          have hST9 := Dg.row_other hSM.rs (.slice ia iTh.length ic) (i := 0) (Nat.ne_of_lt HGO.out.2)
          have r1 := Dg.row_other hSM.root (.slice ia iTh.length ic) (i := 0) (Nat.ne_of_lt HGO.out.1)
          have qO2 := Dg.row_set qO 0 (.slice ia iTh.length ic)
          have HBL : Hid _ := hSM.bel.setCell (p := ⟨gO, 0, none⟩) (Nat.le_of_lt HGO.out.1) (.slice ia iTh.length ic)
          have HFI : Hid (∀ b, gM ≤ b → b < wM.heap.size → (wM.setCell ⟨gO, 0, none⟩ (.slice ia iTh.length ic)).heap[b]? = wM.heap[b]?) := fun b h1 h2 => by
            exact (Below.heap_setCell _ _ _ b (by show b ≠ gO; exact HGB.out b h1 (by omega))).trans (by first | rfl | exact HBO.out b (by omega))
          refine wpOp_skip (i := 16) (w' := wM.setCell ⟨gO, 0, none⟩ (.slice ia iTh.length ic)) rfl rfl (by kernel_rfl) (by go_simp) ?_
          refine ⟨hST9, ?_⟩
          clear zO fO qO hSM
          generalize wM.setCell ⟨gO, 0, none⟩ (.slice ia iTh.length ic) = wO at *
          refine tK 17 4 (.int .i64 0) 0 rfl hST9 ?_
          refine wpAnyH_done (by kernel_rfl) ?_ _
          have z0 := (Dg.cell_row qO2 0).trans rfl
          have f0 := Dg.froz_row r1 0
          have z1 := (Dg.cell_row r1 0).trans rfl
          clear hST9 qO2
          go_wp2_with fail
          have r2 := Dg.row_set r1 0 (.slice ia iTh.length ic)
          refine ⟨rfl, _, results_cell_row (p := 0) (ty := 28) rfl _ _ w.heap.size 28 #[_] (0, 0) _ rfl r2 Tryd.underlying28 rfl (by kernel_rfl), HBL.out.setCell (Nat.le_refl _) _, _, rfl, ?_⟩
          refine HST.out _ fun b h1 h2 => ?_
          have h3 := HSI.out
          rw [Below.heap_setCell _ _ _ b (by show b ≠ w.heap.size; omega)]
          exact HFI.out b h1 h2
  · have hb57 := bl1 wd (.cells #[.slice none 0 0] 28)
    have hS57 := hS0.later hb57
    have qO := Dg.row_new wd #[.slice none 0 0] 28
    have HGO : Hid (w.heap.size < wd.heap.size ∧ c + 1 + 1 < wd.heap.size) := ⟨row_lt hS0.root, row_lt hS0.rs⟩
    refine wpOp_value (i := 15) (d := 3) (v := .pointer (some ⟨wd.heap.size, 0, none⟩)) (w' := (wd.alloc (.cells #[.slice none 0 0] 28))) rfl rfl (by kernel_rfl) (by go_simp) ?_
    refine ⟨hS57.rs, ?_⟩
    simp only [List.setIfInBounds_toArray, List.set_cons_succ, List.set_cons_zero]
    generalize wd.heap.size = gO at *
    generalize wd.alloc (.cells #[.slice none 0 0] 28) = wm57 at *
    refine wpAnyH_all (fuel := 13) (rs := [1]) (by kernel_rfl) (by decide) ?_
    refine List.forall_mem_singleton.2 ?_
    refine wpOp_calls (i := 1) (d := 13) rfl rfl (by kernel_rfl) (f := 36) (args := #[.string ⟨#[97]⟩]) (by kernel_rfl) _ (step_any 97 _) ?_ (fun _ _ h => by cases h.1) (fun _ h => by cases h.1)
    rintro v58 wc58 ⟨h58, hb58⟩
    cases h58
    have hS58 := hS57.later hb58
    have qO := row_later qO hb58
    refine ⟨hS58.rs, ?_⟩
    simp only [List.setIfInBounds_toArray, List.set_cons_succ, List.set_cons_zero]
    refine wpAnyH_all (fuel := 12) (rs := [2, 5]) (by kernel_rfl) (by decide) ?_
    refine List.forall_mem_cons.2 ⟨?_, List.forall_mem_singleton.2 ?_⟩
    · have hb59 := bl1 wc58 (.cells #[.string ⟨#[97]⟩, .string ⟨#[117]⟩, .slice none 0 0, .bool false, .bool false, .slice none 0 0] 71)
      have hS59 := hS58.later hb59
      have qO := row_later qO hb59
      have qa := Dg.row_new wc58 #[.string ⟨#[97]⟩, .string ⟨#[117]⟩, .slice none 0 0, .bool false, .bool false, .slice none 0 0] 71
      refine wpOp_value (i := 2) (d := 14) (v := .slice (some ⟨wc58.heap.size, 0, none⟩) 1 1) (w' := (wc58.alloc (.cells #[.string ⟨#[97]⟩, .string ⟨#[117]⟩, .slice none 0 0, .bool false, .bool false, .slice none 0 0] 71))) rfl rfl (by kernel_rfl) (by go_simp) ?_
      refine ⟨hS59.rs, ?_⟩
      simp only [List.setIfInBounds_toArray, List.set_cons_succ, List.set_cons_zero]
      generalize wc58.heap.size = ga at *
      generalize wc58.alloc (.cells #[.string ⟨#[97]⟩, .string ⟨#[117]⟩, .slice none 0 0, .bool false, .bool false, .slice none 0 0] 71) = wm59 at *
      refine tG 3 15 (.agg #[.slice (some ⟨ga, 0, none⟩) 1 1]) 11 rfl hS59.rs ?_
      refine wpAnyH_all (fuel := 10) (rs := [5]) (by kernel_rfl) (by decide) ?_
      refine List.forall_mem_singleton.2 ?_
      refine wpOp_calls (i := 5) (d := 17) rfl rfl (by kernel_rfl) (f := 36) (args := #[.string ⟨#[98]⟩]) (by kernel_rfl) _ (step_any 98 _) ?_ (fun _ _ h => by cases h.1) (fun _ h => by cases h.1)
      rintro v60 wc60 ⟨h60, hb60⟩
      cases h60
      have hS60 := hS59.later hb60
      have qO := row_later qO hb60
      have qa := row_later qa hb60
      refine ⟨hS60.rs, ?_⟩
      simp only [List.setIfInBounds_toArray, List.set_cons_succ, List.set_cons_zero]
      refine wpAnyH_all (fuel := 9) (rs := [7]) (by kernel_rfl) (by decide) ?_
      refine List.forall_mem_singleton.2 ?_
      have hb61 := bl1 wc60 (.cells #[.string ⟨#[98]⟩, .string ⟨#[117]⟩, .slice none 0 0, .bool false, .bool false, .slice none 0 0, .string ⟨#[115]⟩, .string ⟨#[]⟩, .slice none 0 0, .bool true, .bool false, .slice (some ⟨c + 1, 0, none⟩) 1 1] 71)
      have hS61 := hS60.later hb61
      have qO := row_later qO hb61
      have qa := row_later qa hb61
      have qbb := Dg.row_new wc60 #[.string ⟨#[98]⟩, .string ⟨#[117]⟩, .slice none 0 0, .bool false, .bool false, .slice none 0 0, .string ⟨#[115]⟩, .string ⟨#[]⟩, .slice none 0 0, .bool true, .bool false, .slice (some ⟨c + 1, 0, none⟩) 1 1] 71
      refine wpOp_value (i := 7) (d := 19) (v := .slice (some ⟨wc60.heap.size, 0, none⟩) 2 2) (w' := (wc60.alloc (.cells #[.string ⟨#[98]⟩, .string ⟨#[117]⟩, .slice none 0 0, .bool false, .bool false, .slice none 0 0, .string ⟨#[115]⟩, .string ⟨#[]⟩, .slice none 0 0, .bool true, .bool false, .slice (some ⟨c + 1, 0, none⟩) 1 1] 71))) rfl rfl (by kernel_rfl) (by go_simp) ?_
      refine ⟨hS61.rs, ?_⟩
      simp only [List.setIfInBounds_toArray, List.set_cons_succ, List.set_cons_zero]
      generalize wc60.heap.size = gbb at *
      generalize wc60.alloc (.cells #[.string ⟨#[98]⟩, .string ⟨#[117]⟩, .slice none 0 0, .bool false, .bool false, .slice none 0 0, .string ⟨#[115]⟩, .string ⟨#[]⟩, .slice none 0 0, .bool true, .bool false, .slice (some ⟨c + 1, 0, none⟩) 1 1] 71) = wm61 at *
      refine tG 8 20 (.agg #[.slice (some ⟨gbb, 0, none⟩) 2 2]) 8 rfl hS61.rs ?_
      refine wpAnyH_all (fuel := 7) (rs := [9]) (by kernel_rfl) (by decide) ?_
      refine List.forall_mem_singleton.2 ?_
      have hb62 := bl1 wm61 (.cells #[.slice (some ⟨ga, 0, none⟩) 1 1, .slice (some ⟨gbb, 0, none⟩) 2 2] 87)
      have hS62 := hS61.later hb62
      have qO := row_later qO hb62
      have qa := row_later qa hb62
      have qbb := row_later qbb hb62
      have qgb := Dg.row_new wm61 #[.slice (some ⟨ga, 0, none⟩) 1 1, .slice (some ⟨gbb, 0, none⟩) 2 2] 87
      refine wpOp_value (i := 9) (d := 21) (v := .slice (some ⟨wm61.heap.size, 0, none⟩) 2 2) (w' := (wm61.alloc (.cells #[.slice (some ⟨ga, 0, none⟩) 1 1, .slice (some ⟨gbb, 0, none⟩) 2 2] 87))) rfl rfl (by kernel_rfl) (by go_simp) ?_
      refine ⟨hS62.rs, ?_⟩
      simp only [List.setIfInBounds_toArray, List.set_cons_succ, List.set_cons_zero]
      generalize wm61.heap.size = ggb at *
      generalize wm61.alloc (.cells #[.slice (some ⟨ga, 0, none⟩) 1 1, .slice (some ⟨gbb, 0, none⟩) 2 2] 87) = wm62 at *
      refine tG 10 22 (.agg #[.string ⟨#[116]⟩, .slice (some ⟨ggb, 0, none⟩) 2 2]) 6 rfl hS62.rs ?_
      refine wpAnyH_all (fuel := 5) (rs := [11]) (by kernel_rfl) (by decide) ?_
      refine List.forall_mem_singleton.2 ?_
      have HMK : Hid _ := Make_any wm62 [116] tTh (some ⟨ggb, 0, none⟩) 2 (th_tree _ ga 0 gbb ggb c (c + 1) qa qbb hS62.rc hS62.rb qgb) fair_th hS62.tab
      refine wpOp_calls (i := 11) (d := 23) rfl rfl (by kernel_rfl) (f := 6) (args := #[.agg #[.string ⟨#[116]⟩, .slice (some ⟨ggb, 0, none⟩) 2 2]]) (by kernel_rfl) _ HMK.out ?_ (fun _ _ h => by obtain ⟨_, h⟩ := h; rw [plan_th] at h; obtain ⟨_, h, _⟩ := h; cases h) (fun _ h => by obtain ⟨_, h⟩ := h; rw [plan_th] at h; obtain ⟨_, h, _⟩ := h; cases h)
      rintro vM wM ⟨hbM, hM⟩
      rw [plan_th] at hM
      obtain ⟨vI, hM, hst⟩ := hM
      cases hM
      obtain ⟨ia, ic, rfl, _⟩ := hst.rd
      have HSI : Hid (w.heap.size < wm62.heap.size) := row_lt hS62.root
      have HST : Hid (Stands wm62.heap.size wM (.slice ia iTh.length ic) iTh) := hst
      have HGB : Hid (∀ b, wm62.heap.size ≤ b → b < wM.heap.size → b ≠ gO) := fun b h1 _ e => by have := row_lt qO; omega
      have hSM := hS62.later hbM
      have qO := row_later qO hbM
      clear HMK hst hbM qa qbb qgb
      generalize wm62.heap.size = gM at *
      refine ⟨hSM.rs, ?_⟩
      simp only [List.setIfInBounds_toArray, List.set_cons_succ, List.set_cons_zero]
      refine tK 12 11 (.tuple #[.agg #[.slice ia iTh.length ic], .int .i64 0]) 4 rfl hSM.rs ?_
      refine tK 13 24 (.agg #[.slice ia iTh.length ic]) 3 rfl hSM.rs ?_
      refine tK 14 25 (.int .i64 0) 2 rfl hSM.rs ?_
      refine wpAnyH_all (fuel := 1) (rs := [16]) (by kernel_rfl) (by decide) ?_
      refine List.forall_mem_singleton.2 ?_
      have zO := (Dg.cell_row qO 0).trans rfl
      have fO := Dg.froz_row qO 0
      have hST9 := Dg.row_other hSM.rs (.slice ia iTh.length ic) (i := 0) (Nat.ne_of_lt HGO.out.2)
      have r1 := Dg.row_other hSM.root (.slice ia iTh.length ic) (i := 0) (Nat.ne_of_lt HGO.out.1)
      have qO2 := Dg.row_set qO 0 (.slice ia iTh.length ic)
      have HBL : Hid _ := hSM.bel.setCell (p := ⟨gO, 0, none⟩) (Nat.le_of_lt HGO.out.1) (.slice ia iTh.length ic)
      have HFI : Hid (∀ b, gM ≤ b → b < wM.heap.size → (wM.setCell ⟨gO, 0, none⟩ (.slice ia iTh.length ic)).heap[b]? = wM.heap[b]?) := fun b h1 h2 => by
        exact (Below.heap_setCell _ _ _ b (by show b ≠ gO; exact HGB.out b h1 (by omega))).trans (by first | rfl | exact HBO.out b (by omega))
      refine wpOp_skip (i := 16) (w' := wM.setCell ⟨gO, 0, none⟩ (.slice ia iTh.length ic)) rfl rfl (by kernel_rfl) (by go_simp) ?_
      refine ⟨hST9, ?_⟩
      clear zO fO qO hSM
      generalize wM.setCell ⟨gO, 0, none⟩ (.slice ia iTh.length ic) = wO at *
      refine tK 17 4 (.int .i64 0) 0 rfl hST9 ?_
      refine wpAnyH_done (by kernel_rfl) ?_ _
      have z0 := (Dg.cell_row qO2 0).trans rfl
      have f0 := Dg.froz_row r1 0
      have z1 := (Dg.cell_row r1 0).trans rfl
      clear hST9 qO2
      go_wp2_with fail
      have r2 := Dg.row_set r1 0 (.slice ia iTh.length ic)
      refine ⟨rfl, _, results_cell_row (p := 0) (ty := 28) rfl _ _ w.heap.size 28 #[_] (0, 0) _ rfl r2 Tryd.underlying28 rfl (by kernel_rfl), HBL.out.setCell (Nat.le_refl _) _, _, rfl, ?_⟩
      refine HST.out _ fun b h1 h2 => ?_
      have h3 := HSI.out
      rw [Below.heap_setCell _ _ _ b (by show b ≠ w.heap.size; omega)]
      exact HFI.out b h1 h2
    · refine wpOp_calls (i := 5) (d := 17) rfl rfl (by kernel_rfl) (f := 36) (args := #[.string ⟨#[98]⟩]) (by kernel_rfl) _ (step_any 98 _) ?_ (fun _ _ h => by cases h.1) (fun _ h => by cases h.1)
      rintro v63 wc63 ⟨h63, hb63⟩
      cases h63
      have hS63 := hS58.later hb63
      have qO := row_later qO hb63
      refine ⟨hS63.rs, ?_⟩
      simp only [List.setIfInBounds_toArray, List.set_cons_succ, List.set_cons_zero]
      refine wpAnyH_all (fuel := 11) (rs := [2, 7]) (by kernel_rfl) (by decide) ?_
      refine List.forall_mem_cons.2 ⟨?_, List.forall_mem_singleton.2 ?_⟩
      · have hb64 := bl1 wc63 (.cells #[.string ⟨#[97]⟩, .string ⟨#[117]⟩, .slice none 0 0, .bool false, .bool false, .slice none 0 0] 71)
        have hS64 := hS63.later hb64
        have qO := row_later qO hb64
        have qa := Dg.row_new wc63 #[.string ⟨#[97]⟩, .string ⟨#[117]⟩, .slice none 0 0, .bool false, .bool false, .slice none 0 0] 71
        refine wpOp_value (i := 2) (d := 14) (v := .slice (some ⟨wc63.heap.size, 0, none⟩) 1 1) (w' := (wc63.alloc (.cells #[.string ⟨#[97]⟩, .string ⟨#[117]⟩, .slice none 0 0, .bool false, .bool false, .slice none 0 0] 71))) rfl rfl (by kernel_rfl) (by go_simp) ?_
        refine ⟨hS64.rs, ?_⟩
        simp only [List.setIfInBounds_toArray, List.set_cons_succ, List.set_cons_zero]
        generalize wc63.heap.size = ga at *
        generalize wc63.alloc (.cells #[.string ⟨#[97]⟩, .string ⟨#[117]⟩, .slice none 0 0, .bool false, .bool false, .slice none 0 0] 71) = wm64 at *
        refine tG 3 15 (.agg #[.slice (some ⟨ga, 0, none⟩) 1 1]) 10 rfl hS64.rs ?_
        refine wpAnyH_all (fuel := 9) (rs := [7]) (by kernel_rfl) (by decide) ?_
        refine List.forall_mem_singleton.2 ?_
        have hb65 := bl1 wm64 (.cells #[.string ⟨#[98]⟩, .string ⟨#[117]⟩, .slice none 0 0, .bool false, .bool false, .slice none 0 0, .string ⟨#[115]⟩, .string ⟨#[]⟩, .slice none 0 0, .bool true, .bool false, .slice (some ⟨c + 1, 0, none⟩) 1 1] 71)
        have hS65 := hS64.later hb65
        have qO := row_later qO hb65
        have qa := row_later qa hb65
        have qbb := Dg.row_new wm64 #[.string ⟨#[98]⟩, .string ⟨#[117]⟩, .slice none 0 0, .bool false, .bool false, .slice none 0 0, .string ⟨#[115]⟩, .string ⟨#[]⟩, .slice none 0 0, .bool true, .bool false, .slice (some ⟨c + 1, 0, none⟩) 1 1] 71
        refine wpOp_value (i := 7) (d := 19) (v := .slice (some ⟨wm64.heap.size, 0, none⟩) 2 2) (w' := (wm64.alloc (.cells #[.string ⟨#[98]⟩, .string ⟨#[117]⟩, .slice none 0 0, .bool false, .bool false, .slice none 0 0, .string ⟨#[115]⟩, .string ⟨#[]⟩, .slice none 0 0, .bool true, .bool false, .slice (some ⟨c + 1, 0, none⟩) 1 1] 71))) rfl rfl (by kernel_rfl) (by go_simp) ?_
        refine ⟨hS65.rs, ?_⟩
        simp only [List.setIfInBounds_toArray, List.set_cons_succ, List.set_cons_zero]
        generalize wm64.heap.size = gbb at *
        generalize wm64.alloc (.cells #[.string ⟨#[98]⟩, .string ⟨#[117]⟩, .slice none 0 0, .bool false, .bool false, .slice none 0 0, .string ⟨#[115]⟩, .string ⟨#[]⟩, .slice none 0 0, .bool true, .bool false, .slice (some ⟨c + 1, 0, none⟩) 1 1] 71) = wm65 at *
        refine tG 8 20 (.agg #[.slice (some ⟨gbb, 0, none⟩) 2 2]) 8 rfl hS65.rs ?_
        refine wpAnyH_all (fuel := 7) (rs := [9]) (by kernel_rfl) (by decide) ?_
        refine List.forall_mem_singleton.2 ?_
        have hb66 := bl1 wm65 (.cells #[.slice (some ⟨ga, 0, none⟩) 1 1, .slice (some ⟨gbb, 0, none⟩) 2 2] 87)
        have hS66 := hS65.later hb66
        have qO := row_later qO hb66
        have qa := row_later qa hb66
        have qbb := row_later qbb hb66
        have qgb := Dg.row_new wm65 #[.slice (some ⟨ga, 0, none⟩) 1 1, .slice (some ⟨gbb, 0, none⟩) 2 2] 87
        refine wpOp_value (i := 9) (d := 21) (v := .slice (some ⟨wm65.heap.size, 0, none⟩) 2 2) (w' := (wm65.alloc (.cells #[.slice (some ⟨ga, 0, none⟩) 1 1, .slice (some ⟨gbb, 0, none⟩) 2 2] 87))) rfl rfl (by kernel_rfl) (by go_simp) ?_
        refine ⟨hS66.rs, ?_⟩
        simp only [List.setIfInBounds_toArray, List.set_cons_succ, List.set_cons_zero]
        generalize wm65.heap.size = ggb at *
        generalize wm65.alloc (.cells #[.slice (some ⟨ga, 0, none⟩) 1 1, .slice (some ⟨gbb, 0, none⟩) 2 2] 87) = wm66 at *
        refine tG 10 22 (.agg #[.string ⟨#[116]⟩, .slice (some ⟨ggb, 0, none⟩) 2 2]) 6 rfl hS66.rs ?_
        refine wpAnyH_all (fuel := 5) (rs := [11]) (by kernel_rfl) (by decide) ?_
        refine List.forall_mem_singleton.2 ?_
        have HMK : Hid _ := Make_any wm66 [116] tTh (some ⟨ggb, 0, none⟩) 2 (th_tree _ ga 0 gbb ggb c (c + 1) qa qbb hS66.rc hS66.rb qgb) fair_th hS66.tab
        refine wpOp_calls (i := 11) (d := 23) rfl rfl (by kernel_rfl) (f := 6) (args := #[.agg #[.string ⟨#[116]⟩, .slice (some ⟨ggb, 0, none⟩) 2 2]]) (by kernel_rfl) _ HMK.out ?_ (fun _ _ h => by obtain ⟨_, h⟩ := h; rw [plan_th] at h; obtain ⟨_, h, _⟩ := h; cases h) (fun _ h => by obtain ⟨_, h⟩ := h; rw [plan_th] at h; obtain ⟨_, h, _⟩ := h; cases h)
        rintro vM wM ⟨hbM, hM⟩
        rw [plan_th] at hM
        obtain ⟨vI, hM, hst⟩ := hM
        cases hM
        obtain ⟨ia, ic, rfl, _⟩ := hst.rd
        have HSI : Hid (w.heap.size < wm66.heap.size) := row_lt hS66.root
        have HST : Hid (Stands wm66.heap.size wM (.slice ia iTh.length ic) iTh) := hst
        have HGB : Hid (∀ b, wm66.heap.size ≤ b → b < wM.heap.size → b ≠ gO) := fun b h1 _ e => by have := row_lt qO; omega
        have hSM := hS66.later hbM
        have qO := row_later qO hbM
        clear HMK hst hbM qa qbb qgb
        generalize wm66.heap.size = gM at *
        refine ⟨hSM.rs, ?_⟩
        simp only [List.setIfInBounds_toArray, List.set_cons_succ, List.set_cons_zero]
        refine tK 12 11 (.tuple #[.agg #[.slice ia iTh.length ic], .int .i64 0]) 4 rfl hSM.rs ?_
        refine tK 13 24 (.agg #[.slice ia iTh.length ic]) 3 rfl hSM.rs ?_
        refine tK 14 25 (.int .i64 0) 2 rfl hSM.rs ?_
        refine wpAnyH_all (fuel := 1) (rs := [16]) (by kernel_rfl) (by decide) ?_
        refine List.forall_mem_singleton.2 ?_
        have zO := (Dg.cell_row qO 0).trans rfl
        have fO := Dg.froz_row qO 0
        have hST9 := Dg.row_other hSM.rs (.slice ia iTh.length ic) (i := 0) (Nat.ne_of_lt HGO.out.2)
        have r1 := Dg.row_other hSM.root (.slice ia iTh.length ic) (i := 0) (Nat.ne_of_lt HGO.out.1)
        have qO2 := Dg.row_set qO 0 (.slice ia iTh.length ic)
        have HBL : Hid _ := hSM.bel.setCell (p := ⟨gO, 0, none⟩) (Nat.le_of_lt HGO.out.1) (.slice ia iTh.length ic)
        have HFI : Hid (∀ b, gM ≤ b → b < wM.heap.size → (wM.setCell ⟨gO, 0, none⟩ (.slice ia iTh.length ic)).heap[b]? = wM.heap[b]?) := fun b h1 h2 => by
          exact (Below.heap_setCell _ _ _ b (by show b ≠ gO; exact HGB.out b h1 (by omega))).trans (by first | rfl | exact HBO.out b (by omega))
        refine wpOp_skip (i := 16) (w' := wM.setCell ⟨gO, 0, none⟩ (.slice ia iTh.length ic)) rfl rfl (by kernel_rfl) (by go_simp) ?_
        refine ⟨hST9, ?_⟩
        clear zO fO qO hSM
        generalize wM.setCell ⟨gO, 0, none⟩ (.slice ia iTh.length ic) = wO at *
        refine tK 17 4 (.int .i64 0) 0 rfl hST9 ?_
        refine wpAnyH_done (by kernel_rfl) ?_ _
        have z0 := (Dg.cell_row qO2 0).trans rfl
        have f0 := Dg.froz_row r1 0
        have z1 := (Dg.cell_row r1 0).trans rfl
        clear hST9 qO2
        go_wp2_with fail
        have r2 := Dg.row_set r1 0 (.slice ia iTh.length ic)
        refine ⟨rfl, _, results_cell_row (p := 0) (ty := 28) rfl _ _ w.heap.size 28 #[_] (0, 0) _ rfl r2 Tryd.underlying28 rfl (by kernel_rfl), HBL.out.setCell (Nat.le_refl _) _, _, rfl, ?_⟩
        refine HST.out _ fun b h1 h2 => ?_
        have h3 := HSI.out
        rw [Below.heap_setCell _ _ _ b (by show b ≠ w.heap.size; omega)]
        exact HFI.out b h1 h2
      · have hb67 := bl1 wc63 (.cells #[.string ⟨#[98]⟩, .string ⟨#[117]⟩, .slice none 0 0, .bool false, .bool false, .slice none 0 0, .string ⟨#[115]⟩, .string ⟨#[]⟩, .slice none 0 0, .bool true, .bool false, .slice (some ⟨c + 1, 0, none⟩) 1 1] 71)
        have hS67 := hS63.later hb67
        have qO := row_later qO hb67
        have qbb := Dg.row_new wc63 #[.string ⟨#[98]⟩, .string ⟨#[117]⟩, .slice none 0 0, .bool false, .bool false, .slice none 0 0, .string ⟨#[115]⟩, .string ⟨#[]⟩, .slice none 0 0, .bool true, .bool false, .slice (some ⟨c + 1, 0, none⟩) 1 1] 71
        refine wpOp_value (i := 7) (d := 19) (v := .slice (some ⟨wc63.heap.size, 0, none⟩) 2 2) (w' := (wc63.alloc (.cells #[.string ⟨#[98]⟩, .string ⟨#[117]⟩, .slice none 0 0, .bool false, .bool false, .slice none 0 0, .string ⟨#[115]⟩, .string ⟨#[]⟩, .slice none 0 0, .bool true, .bool false, .slice (some ⟨c + 1, 0, none⟩) 1 1] 71))) rfl rfl (by kernel_rfl) (by go_simp) ?_
        refine ⟨hS67.rs, ?_⟩
        simp only [List.setIfInBounds_toArray, List.set_cons_succ, List.set_cons_zero]
        generalize wc63.heap.size = gbb at *
        generalize wc63.alloc (.cells #[.string ⟨#[98]⟩, .string ⟨#[117]⟩, .slice none 0 0, .bool false, .bool false, .slice none 0 0, .string ⟨#[115]⟩, .string ⟨#[]⟩, .slice none 0 0, .bool true, .bool false, .slice (some ⟨c + 1, 0, none⟩) 1 1] 71) = wm67 at *
        refine tG 8 20 (.agg #[.slice (some ⟨gbb, 0, none⟩) 2 2]) 10 rfl hS67.rs ?_
        refine wpAnyH_all (fuel := 9) (rs := [2]) (by kernel_rfl) (by decide) ?_
        refine List.forall_mem_singleton.2 ?_
        have hb68 := bl1 wm67 (.cells #[.string ⟨#[97]⟩, .string ⟨#[117]⟩, .slice none 0 0, .bool false, .bool false, .slice none 0 0] 71)
        have hS68 := hS67.later hb68
        have qO := row_later qO hb68
        have qbb := row_later qbb hb68
        have qa := Dg.row_new wm67 #[.string ⟨#[97]⟩, .string ⟨#[117]⟩, .slice none 0 0, .bool false, .bool false, .slice none 0 0] 71
        refine wpOp_value (i := 2) (d := 14) (v := .slice (some ⟨wm67.heap.size, 0, none⟩) 1 1) (w' := (wm67.alloc (.cells #[.string ⟨#[97]⟩, .string ⟨#[117]⟩, .slice none 0 0, .bool false, .bool false, .slice none 0 0] 71))) rfl rfl (by kernel_rfl) (by go_simp) ?_
        refine ⟨hS68.rs, ?_⟩
        simp only [List.setIfInBounds_toArray, List.set_cons_succ, List.set_cons_zero]
        generalize wm67.heap.size = ga at *
        generalize wm67.alloc (.cells #[.string ⟨#[97]⟩, .string ⟨#[117]⟩, .slice none 0 0, .bool false, .bool false, .slice none 0 0] 71) = wm68 at *
        refine tG 3 15 (.agg #[.slice (some ⟨ga, 0, none⟩) 1 1]) 8 rfl hS68.rs ?_
        refine wpAnyH_all (fuel := 7) (rs := [9]) (by kernel_rfl) (by decide) ?_
        refine List.forall_mem_singleton.2 ?_
        have hb69 := bl1 wm68 (.cells #[.slice (some ⟨ga, 0, none⟩) 1 1, .slice (some ⟨gbb, 0, none⟩) 2 2] 87)
        have hS69 := hS68.later hb69
        have qO := row_later qO hb69
        have qbb := row_later qbb hb69
        have qa := row_later qa hb69
        have qgb := Dg.row_new wm68 #[.slice (some ⟨ga, 0, none⟩) 1 1, .slice (some ⟨gbb, 0, none⟩) 2 2] 87
        refine wpOp_value (i := 9) (d := 21) (v := .slice (some ⟨wm68.heap.size, 0, none⟩) 2 2) (w' := (wm68.alloc (.cells #[.slice (some ⟨ga, 0, none⟩) 1 1, .slice (some ⟨gbb, 0, none⟩) 2 2] 87))) rfl rfl (by kernel_rfl) (by go_simp) ?_
        refine ⟨hS69.rs, ?_⟩
        simp only [List.setIfInBounds_toArray, List.set_cons_succ, List.set_cons_zero]
        generalize wm68.heap.size = ggb at *
        generalize wm68.alloc (.cells #[.slice (some ⟨ga, 0, none⟩) 1 1, .slice (some ⟨gbb, 0, none⟩) 2 2] 87) = wm69 at *
        refine tG 10 22 (.agg #[.string ⟨#[116]⟩, .slice (some ⟨ggb, 0, none⟩) 2 2]) 6 rfl hS69.rs ?_
        refine wpAnyH_all (fuel := 5) (rs := [11]) (by kernel_rfl) (by decide) ?_
        refine List.forall_mem_singleton.2 ?_
        have HMK : Hid _ := Make_any wm69 [116] tTh (some ⟨ggb, 0, none⟩) 2 (th_tree _ ga 0 gbb ggb c (c + 1) qa qbb hS69.rc hS69.rb qgb) fair_th hS69.tab
        refine wpOp_calls (i := 11) (d := 23) rfl rfl (by kernel_rfl) (f := 6) (args := #[.agg #[.string ⟨#[116]⟩, .slice (some ⟨ggb, 0, none⟩) 2 2]]) (by kernel_rfl) _ HMK.out ?_ (fun _ _ h => by obtain ⟨_, h⟩ := h; rw [plan_th] at h; obtain ⟨_, h, _⟩ := h; cases h) (fun _ h => by obtain ⟨_, h⟩ := h; rw [plan_th] at h; obtain ⟨_, h, _⟩ := h; cases h)
        rintro vM wM ⟨hbM, hM⟩
        rw [plan_th] at hM
        obtain ⟨vI, hM, hst⟩ := hM
        cases hM
        obtain ⟨ia, ic, rfl, _⟩ := hst.rd
        have HSI : Hid (w.heap.size < wm69.heap.size) := row_lt hS69.root
        have HST : Hid (Stands wm69.heap.size wM (.slice ia iTh.length ic) iTh) := hst
        have HGB : Hid (∀ b, wm69.heap.size ≤ b → b < wM.heap.size → b ≠ gO) := fun b h1 _ e => by have := row_lt qO; omega
        have hSM := hS69.later hbM
        have qO := row_later qO hbM
        clear HMK hst hbM qa qbb qgb
        generalize wm69.heap.size = gM at *
        refine ⟨hSM.rs, ?_⟩
        simp only [List.setIfInBounds_toArray, List.set_cons_succ, List.set_cons_zero]
        refine tK 12 11 (.tuple #[.agg #[.slice ia iTh.length ic], .int .i64 0]) 4 rfl hSM.rs ?_
        refine tK 13 24 (.agg #[.slice ia iTh.length ic]) 3 rfl hSM.rs ?_
        refine tK 14 25 (.int .i64 0) 2 rfl hSM.rs ?_
        refine wpAnyH_all (fuel := 1) (rs := [16]) (by kernel_rfl) (by decide) ?_
        refine List.forall_mem_singleton.2 ?_
        have zO := (Dg.cell_row qO 0).trans rfl
        have fO := Dg.froz_row qO 0
        have hST9 := Dg.row_other hSM.rs (.slice ia iTh.length ic) (i := 0) (Nat.ne_of_lt HGO.out.2)
        have r1 := Dg.row_other hSM.root (.slice ia iTh.length ic) (i := 0) (Nat.ne_of_lt HGO.out.1)
        have qO2 := Dg.row_set qO 0 (.slice ia iTh.length ic)
        have HBL : Hid _ := hSM.bel.setCell (p := ⟨gO, 0, none⟩) (Nat.le_of_lt HGO.out.1) (.slice ia iTh.length ic)
        have HFI : Hid (∀ b, gM ≤ b → b < wM.heap.size → (wM.setCell ⟨gO, 0, none⟩ (.slice ia iTh.length ic)).heap[b]? = wM.heap[b]?) := fun b h1 h2 => by
          exact (Below.heap_setCell _ _ _ b (by show b ≠ gO; exact HGB.out b h1 (by omega))).trans (by first | rfl | exact HBO.out b (by omega))
        refine wpOp_skip (i := 16) (w' := wM.setCell ⟨gO, 0, none⟩ (.slice ia iTh.length ic)) rfl rfl (by kernel_rfl) (by go_simp) ?_
        refine ⟨hST9, ?_⟩
        clear zO fO qO hSM
        generalize wM.setCell ⟨gO, 0, none⟩ (.slice ia iTh.length ic) = wO at *
        refine tK 17 4 (.int .i64 0) 0 rfl hST9 ?_
        refine wpAnyH_done (by kernel_rfl) ?_ _
        have z0 := (Dg.cell_row qO2 0).trans rfl
        have f0 := Dg.froz_row r1 0
        have z1 := (Dg.cell_row r1 0).trans rfl
        clear hST9 qO2
        go_wp2_with fail
        have r2 := Dg.row_set r1 0 (.slice ia iTh.length ic)
        refine ⟨rfl, _, results_cell_row (p := 0) (ty := 28) rfl _ _ w.heap.size 28 #[_] (0, 0) _ rfl r2 Tryd.underlying28 rfl (by kernel_rfl), HBL.out.setCell (Nat.le_refl _) _, _, rfl, ?_⟩
        refine HST.out _ fun b h1 h2 => ?_
        have h3 := HSI.out
        rw [Below.heap_setCell _ _ _ b (by show b ≠ w.heap.size; omega)]
        exact HFI.out b h1 h2
end Go.Proofs.YteghapmlnkhepaaDoor.Tk

