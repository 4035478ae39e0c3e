/- Texts of the seat, packed: Kl. -/
import Derived.Test.YtkndchbpbaecbaaGreatDoorP38
/- The laws' lives. -/
namespace Go.Proofs.YtkndchbpbaecbaaGreatDoor.Fc
open Go.RowKit Go.Shelf
set_option maxRecDepth 1000000
set_option linter.unusedVariables false

/-- The facts of the example. -/
def lA : List Fa := [Fa.z, ⟨2, 1, 0, false⟩]
def lB : List Fa := [Fa.z, ⟨2, 1, 1, false⟩]

theorem some_one : (sagaP iOne).isSome = true := by rw [saga_one]; rfl

theorem okL_two {f : Fa} (h : okF f) : okL (subs iOne) [Fa.z, f] := by
  refine ⟨rfl, fun i hi => ?_⟩
  match i, hi with
  | 0, _ => exact ⟨okF_z, fun _ => rfl⟩
  | 1, _ => exact ⟨h, fun h => by cases h⟩

theorem chk_A : chkF iOne lA = 0 := chkF_ok some_one (okL_two (by decide))
theorem chk_B : chkF iOne lB = 0 := chkF_ok some_one (okL_two (by decide))

theorem all_one : allP iOne [evP 1 0, evP 2 0, evP 4 0] = .inr lA := by
  unfold allP
  rw [if_pos some_one]
  decide +kernel

theorem app_A : appP iOne lA (evP 6 0) = .inr lB := by
  rw [appP_hap _ chk_A]
  decide +kernel
theorem app_B : appP iOne lB (evP 4 0) = .inl 14 := by
  rw [appP_hap _ chk_B]
  decide +kernel
theorem open_A : openP iOne lA = [(1, true, 0)] := by
  unfold openP
  rw [if_pos chk_A]
  decide +kernel

theorem fair_iOne : FairI iOne := ⟨fun x hx => by simp [iOne] at hx; rcases hx with rfl | rfl <;> decide, fun x hx => by simp [iOne] at hx; rcases hx with rfl | rfl <;> decide⟩

theorem RF.of_row {W : World} {g : Nat} {l : List Fa} (h : W.heap[g]? = some (.cells (rowsF l).toArray 38 (0, 0))) (hm : l.length ≤ maxLen) : RF W (.slice (some ⟨g, 0, none⟩) l.length l.length) l := by
  refine ⟨_, _, rfl, Nat.le_refl _, hm, fun i f hf => ⟨g, 0, rfl, ?_⟩⟩
  have cell : ∀ j, j < 4 → W.cell? ⟨g, 0 + i * 4 + j, none⟩ = f.cells[j]? := fun j hj => by
    rw [Nat.zero_add, Dg.cell_row h, ← rowsF_get l i f hf j hj]
    simp
  exact ⟨cell 0 (by omega), cell 1 (by omega), cell 2 (by omega), cell 3 (by omega)⟩

theorem RK.of_row {W : World} {g : Nat} {l : List (Nat × Bool × Int)} (h : W.heap[g]? = some (.cells (rowsK l).toArray 45 (0, 0))) (hm : l.length ≤ maxLen) : RK W (.slice (some ⟨g, 0, none⟩) l.length l.length) l := by
  refine ⟨_, _, rfl, Nat.le_refl _, hm, fun i f hf => ⟨g, 0, rfl, ?_⟩⟩
  have cell : ∀ j, j < 3 → W.cell? ⟨g, 0 + i * 3 + j, none⟩ = (keyC f)[j]? := fun j hj => by
    rw [Nat.zero_add, Dg.cell_row h, ← rowsK_get l i f hf j hj]
    simp
  exact ⟨cell 0 (by omega), cell 1 (by omega), cell 2 (by omega)⟩

theorem RE.three {W : World} {g g1 g2 g3 : Nat} {k1 k2 k3 : Int} (h : W.heap[g]? = some (.cells #[.int .i64 k1, .int .i64 1, .int .i64 0, .slice (some ⟨g1, 0, none⟩) 1 1, .int .i64 k2, .int .i64 1, .int .i64 0, .slice (some ⟨g2, 0, none⟩) 1 1, .int .i64 k3, .int .i64 1, .int .i64 0, .slice (some ⟨g3, 0, none⟩) 1 1] 29 (0, 0)))
    (h1 : Ek.RI W (.slice (some ⟨g1, 0, none⟩) 1 1) [1]) (h2 : Ek.RI W (.slice (some ⟨g2, 0, none⟩) 1 1) [1]) (h3 : Ek.RI W (.slice (some ⟨g3, 0, none⟩) 1 1) [1]) : RE W (.slice (some ⟨g, 0, none⟩) 3 3) [evP k1 0, evP k2 0, evP k3 0] := by
  refine ⟨_, 3, rfl, by simp, by unfold maxLen; omega, fun i x hx => ?_⟩
  match i, hx with
  | 0, hx => simp at hx; subst hx; exact ⟨g, 0, _, rfl, Dg.cell_row h 0, Dg.cell_row h 1, Dg.cell_row h 2, Dg.cell_row h 3, h1⟩
  | 1, hx => simp at hx; subst hx; exact ⟨g, 0, _, rfl, Dg.cell_row h 4, Dg.cell_row h 5, Dg.cell_row h 6, Dg.cell_row h 7, h2⟩
  | 2, hx => simp at hx; subst hx; exact ⟨g, 0, _, rfl, Dg.cell_row h 8, Dg.cell_row h 9, Dg.cell_row h 10, Dg.cell_row h 11, h3⟩
  | i + 3, hx => simp at hx

/-- What lives knows. -/
structure LiS (w : World) (v : Value) (b : Nat) (W : World) : Prop where
  bel : Below w.heap.size w W
  box : W.heap[b]? = some (.cells #[v] 24 (0, 0))
  it : RdIt W v iOne
  tab : Dg.Tab W

theorem LiS.later {w : World} {v : Value} {b : Nat} {W W' : World} (h : LiS w v b W) (hb : Below W.heap.size W W') : LiS w v b W' :=
  ⟨h.bel.trans (hb.mono h.bel.size), (hb.block _ (Array.getElem?_eq_some_iff.1 h.box).1).trans h.box, h.it.later hb, h.tab.later hb⟩

/-- An event is made. -/
theorem LiS.ev {w : World} {v : Value} {b : Nat} {W : World} (k : Int) {X : World → Prop} (hX : ∀ W', Below W.heap.size W W' → X W') : Calls Tryz.prog 14 #[.int .i64 k, .int .i64 0] W fun e w' => ∃ g : Nat, e = .returned (.agg #[.int .i64 k, .int .i64 1, .int .i64 0, .slice (some ⟨g, 0, none⟩) 1 1]) ∧ X w' ∧ Ek.RI w' (.slice (some ⟨g, 0, none⟩) 1 1) [1] := by
  refine Calls.mono (ev_any k 0 W) ?_
  rintro e w' ⟨hb, g, rfl, hg⟩
  exact ⟨g, rfl, hX w' hb, hg⟩

theorem LiS.all {w : World} {v : Value} {b g g1 g2 g3 : Nat} {W : World} (h : LiS w v b W) (hr : RE W (.slice (some ⟨g, 0, none⟩) 3 3) [evP 1 0, evP 2 0, evP 4 0]) :
    Calls Tryz.prog 13 #[.agg #[v], .slice (some ⟨g, 0, none⟩) 3 3] W fun e w' => ∃ z : Option Addr × Nat, e = .returned (.tuple #[.slice z.1 2 z.2, .int .i64 3, .int .i64 0]) ∧ LiS w v b w' ∧ RF w' (.slice z.1 2 z.2) lA := by
  refine Calls.mono (all_any iOne v _ _ W h.it fair_iOne h.tab hr (by decide) (by decide) (by simp [evP])) ?_
  rintro e w' ⟨hb, he⟩
  rw [all_one] at he
  obtain ⟨u, rfl, ho⟩ := he
  obtain ⟨a, c, rfl, _⟩ := id ho.rf
  exact ⟨(a, c), rfl, h.later hb, ho.rf⟩

theorem LiS.appA {w : World} {v : Value} {b g : Nat} {u : Option Addr × Nat} {W : World} (h : LiS w v b W) (hu : RF W (.slice u.1 2 u.2) lA) (hg : Ek.RI W (.slice (some ⟨g, 0, none⟩) 1 1) [1]) :
    Calls Tryz.prog 8 #[.agg #[v], .slice u.1 2 u.2, .agg #[.int .i64 6, .int .i64 1, .int .i64 0, .slice (some ⟨g, 0, none⟩) 1 1]] W fun e w' => ∃ z : Option Addr × Nat, e = .returned (.tuple #[.slice z.1 2 z.2, .int .i64 0]) ∧ (LiS w v b w' ∧ RF w' (.slice u.1 2 u.2) lA) ∧ RF w' (.slice z.1 2 z.2) lB := by
  refine Calls.mono (apply_any iOne v _ (.slice (some ⟨g, 0, none⟩) 1 1) lA (evP 6 0) W h.it fair_iOne h.tab hu hg (by decide) (by decide) (by decide)) ?_
  rintro e w' ⟨hb, he⟩
  rw [app_A] at he
  obtain ⟨z, rfl, ho⟩ := he
  obtain ⟨a, c, rfl, _⟩ := id ho.rf
  exact ⟨(a, c), rfl, ⟨h.later hb, hu.later hb⟩, ho.rf⟩

theorem LiS.appB {w : World} {v : Value} {b g : Nat} {u z : Option Addr × Nat} {W : World} (h : LiS w v b W) (hu : RF W (.slice u.1 2 u.2) lA) (hz : RF W (.slice z.1 2 z.2) lB) (hg : Ek.RI W (.slice (some ⟨g, 0, none⟩) 1 1) [1]) :
    Calls Tryz.prog 8 #[.agg #[v], .slice z.1 2 z.2, .agg #[.int .i64 4, .int .i64 1, .int .i64 0, .slice (some ⟨g, 0, none⟩) 1 1]] W fun e w' => e = .returned (.tuple #[.slice none 0 0, .int .i64 14]) ∧ (LiS w v b w' ∧ RF w' (.slice u.1 2 u.2) lA) ∧ RF w' (.slice z.1 2 z.2) lB := by
  refine Calls.mono (apply_any iOne v _ (.slice (some ⟨g, 0, none⟩) 1 1) lB (evP 4 0) W h.it fair_iOne h.tab hz hg (by decide) (by decide) (by decide)) ?_
  rintro e w' ⟨hb, he⟩
  rw [app_B] at he
  exact ⟨he, ⟨h.later hb, hu.later hb⟩, hz.later hb⟩

set_option maxHeartbeats 4000000 in
theorem lives_any (w : World) (hT : Dg.Tab w) : Calls Tryz.prog 7 #[] w fun e w' => e = .returned (.bool true) ∧ Below w.heap.size w w' := by
  have M : Hid _ := one_any w hT
  go_enter Tryz.func7, Tryz.ntmps7
  go_wp2_with fail
  refine Calls.mono M.out ?_
  rintro x w1 ⟨hb1, v, rfl, hv⟩
  have hv' := hv
  obtain ⟨va, vc, rfl, _⟩ := hv'
  clear M
  have h2 : LiS w (.slice va iOne.length vc) w1.heap.size (w1.alloc (.cells #[.slice va iOne.length vc] 24)) := ⟨hb1.trans ((bl1 _ _).mono hb1.size), Dg.row_new w1 _ 24, hv.later (bl1 _ _), (hT.later hb1).later (bl1 _ _)⟩
  have H2 : Hid _ := h2
  clear h2 hb1 hv
  go_wp2_with fail
  generalize w1.alloc (.cells #[.slice va iOne.length vc] 24) = w2 at *
  generalize w1.heap.size = b at *
  generalize iOne.length = n2 at *
  have hS0 : LiS w (.slice va n2 vc) b w2.drew := H2.out.later (Below.refl _ _).drew
  have hCUR := hS0
  clear H2
  refine region_thenG (β := Nat × Nat × Nat × Nat × (Option Addr × Nat)) (fun ⟨g1, g2, g3, n9, u⟩ => [(11, .agg #[.slice va n2 vc]), (12, .agg #[.int .i64 1, .int .i64 1, .int .i64 0, .slice (some ⟨g1, 0, none⟩) 1 1]), (13, .agg #[.int .i64 2, .int .i64 1, .int .i64 0, .slice (some ⟨g2, 0, none⟩) 1 1]), (14, .agg #[.int .i64 4, .int .i64 1, .int .i64 0, .slice (some ⟨g3, 0, none⟩) 1 1]), (15, .slice (some ⟨n9, 0, none⟩) 3 3), (16, .tuple #[.slice u.1 2 u.2, .int .i64 3, .int .i64 0]), (10, .tuple #[.slice u.1 2 u.2, .int .i64 3, .int .i64 0]), (17, .slice u.1 2 u.2), (18, .int .i64 3), (19, .int .i64 0), (2, .slice u.1 2 u.2), (3, .int .i64 3), (4, .int .i64 0)]) (fun ⟨g1, g2, g3, n9, u⟩ w' => LiS w (.slice va n2 vc) b w' ∧ RF w' (.slice u.1 2 u.2) lA) ?_ ?_
  · refine wp_region_held (S := fun w' => LiS w (.slice va n2 vc) b w') (by kernel_rfl) ?_
    simp only [List.size_toArray, List.length_cons, List.length_nil, Nat.reduceAdd, Array.replicate_succ, Array.replicate_zero, List.push_toArray, List.nil_append, List.cons_append]
    refine takeD (i := 0) (d := 11) (v := .agg #[.slice va n2 vc]) (fuel := 12) rfl rfl (by kernel_rfl) (by kernel_rfl) (by kernel_rfl) (fun _ _ _ h => by cases h.1) (.inl ⟨by kernel_rfl, fun wx h => by have y0 := (Dg.cell_row h.box 0).trans rfl; go_simp⟩) hS0 ?_
    simp only [List.setIfInBounds_toArray, List.set_cons_succ, List.set_cons_zero]
    refine oneX (β := Nat) (V := fun g1 => .agg #[.int .i64 1, .int .i64 1, .int .i64 0, .slice (some ⟨g1, 0, none⟩) 1 1]) (R := fun g1 w' => LiS w (.slice va n2 vc) b w' ∧ Ek.RI w' (.slice (some ⟨g1, 0, none⟩) 1 1) [1]) (i := 1) (d := 12) (f := 14) (args := #[.int .i64 1, .int .i64 0]) (fuel := 11) rfl rfl (by kernel_rfl) (by kernel_rfl) (fun _ => by kernel_rfl) (LiS.ev (w := w) (v := .slice none 0 0) (b := 0) 1 (X := fun W9 => LiS w (.slice va n2 vc) b W9) (fun _ hb => hCUR.later hb)) (fun g1 w' h => h.1) (fun g1 wz1 hR1 => ?_)
    simp only [List.setIfInBounds_toArray, List.set_cons_succ, List.set_cons_zero]
    refine oneX (β := Nat) (V := fun g2 => .agg #[.int .i64 2, .int .i64 1, .int .i64 0, .slice (some ⟨g2, 0, none⟩) 1 1]) (R := fun g2 w' => (LiS w (.slice va n2 vc) b w' ∧ Ek.RI w' (.slice (some ⟨g1, 0, none⟩) 1 1) [1]) ∧ Ek.RI w' (.slice (some ⟨g2, 0, none⟩) 1 1) [1]) (i := 2) (d := 13) (f := 14) (args := #[.int .i64 2, .int .i64 0]) (fuel := 10) rfl rfl (by kernel_rfl) (by kernel_rfl) (fun _ => by kernel_rfl) (LiS.ev (w := w) (v := .slice none 0 0) (b := 0) 2 (X := fun W9 => LiS w (.slice va n2 vc) b W9 ∧ Ek.RI W9 (.slice (some ⟨g1, 0, none⟩) 1 1) [1]) (fun _ hb => ⟨hR1.1.later hb, hR1.2.later hb⟩)) (fun g2 w' h => h.1.1) (fun g2 wz2 hR2 => ?_)
    simp only [List.setIfInBounds_toArray, List.set_cons_succ, List.set_cons_zero]
    refine oneX (β := Nat) (V := fun g3 => .agg #[.int .i64 4, .int .i64 1, .int .i64 0, .slice (some ⟨g3, 0, none⟩) 1 1]) (R := fun g3 w' => ((LiS w (.slice va n2 vc) b w' ∧ Ek.RI w' (.slice (some ⟨g1, 0, none⟩) 1 1) [1]) ∧ Ek.RI w' (.slice (some ⟨g2, 0, none⟩) 1 1) [1]) ∧ Ek.RI w' (.slice (some ⟨g3, 0, none⟩) 1 1) [1]) (i := 3) (d := 14) (f := 14) (args := #[.int .i64 4, .int .i64 0]) (fuel := 9) rfl rfl (by kernel_rfl) (by kernel_rfl) (fun _ => by kernel_rfl) (LiS.ev (w := w) (v := .slice none 0 0) (b := 0) 4 (X := fun W9 => (LiS w (.slice va n2 vc) b W9 ∧ Ek.RI W9 (.slice (some ⟨g1, 0, none⟩) 1 1) [1]) ∧ Ek.RI W9 (.slice (some ⟨g2, 0, none⟩) 1 1) [1]) (fun _ hb => ⟨⟨hR2.1.1.later hb, hR2.1.2.later hb⟩, hR2.2.later hb⟩)) (fun g3 w' h => h.1.1.1) (fun g3 wz3 hR3 => ?_)
    simp only [List.setIfInBounds_toArray, List.set_cons_succ, List.set_cons_zero]
    refine wpAnyH_all (fuel := 8) (rs := [4]) (by kernel_rfl) (by decide) (List.forall_mem_singleton.2 ?_)
    refine wpOp_value (i := 4) (d := 15) (v := .slice (some ⟨wz3.heap.size, 0, none⟩) 3 3) (w' := wz3.alloc (.cells #[.int .i64 1, .int .i64 1, .int .i64 0, .slice (some ⟨g1, 0, none⟩) 1 1, .int .i64 2, .int .i64 1, .int .i64 0, .slice (some ⟨g2, 0, none⟩) 1 1, .int .i64 4, .int .i64 1, .int .i64 0, .slice (some ⟨g3, 0, none⟩) 1 1] 29)) rfl rfl (by kernel_rfl) (by go_simp) ⟨((hR3.1.1.1)).later (bl1 _ _), ?_⟩
    simp only [List.setIfInBounds_toArray, List.set_cons_succ, List.set_cons_zero]
    have hSm4 : LiS w (.slice va n2 vc) b (wz3.alloc (.cells #[.int .i64 1, .int .i64 1, .int .i64 0, .slice (some ⟨g1, 0, none⟩) 1 1, .int .i64 2, .int .i64 1, .int .i64 0, .slice (some ⟨g2, 0, none⟩) 1 1, .int .i64 4, .int .i64 1, .int .i64 0, .slice (some ⟨g3, 0, none⟩) 1 1] 29)) := ((hR3.1.1.1)).later (bl1 _ _)
    have hCm4 : RE (wz3.alloc (.cells #[.int .i64 1, .int .i64 1, .int .i64 0, .slice (some ⟨g1, 0, none⟩) 1 1, .int .i64 2, .int .i64 1, .int .i64 0, .slice (some ⟨g2, 0, none⟩) 1 1, .int .i64 4, .int .i64 1, .int .i64 0, .slice (some ⟨g3, 0, none⟩) 1 1] 29)) (.slice (some ⟨wz3.heap.size, 0, none⟩) 3 3) [evP 1 0, evP 2 0, evP 4 0] := RE.three (Dg.row_new _ _ 29) (hR3.1.1.2.later (bl1 _ _)) (hR3.1.2.later (bl1 _ _)) (hR3.2.later (bl1 _ _))
    refine oneX (β := Option Addr × Nat) (V := fun u => .tuple #[.slice u.1 2 u.2, .int .i64 3, .int .i64 0]) (R := fun u w' => LiS w (.slice va n2 vc) b w' ∧ RF w' (.slice u.1 2 u.2) lA) (i := 5) (d := 16) (f := 13) (args := #[.agg #[.slice va n2 vc], .slice (some ⟨wz3.heap.size, 0, none⟩) 3 3]) (fuel := 7) rfl rfl (by kernel_rfl) (by kernel_rfl) (fun _ => by kernel_rfl) (LiS.all (g1 := 0) (g2 := 0) (g3 := 0) hSm4 hCm4) (fun u w' h => h.1) (fun u wz5 hR5 => ?_)
    simp only [List.setIfInBounds_toArray, List.set_cons_succ, List.set_cons_zero]
    refine takeD (i := 6) (d := 10) (v := .tuple #[.slice u.1 2 u.2, .int .i64 3, .int .i64 0]) (fuel := 6) rfl rfl (by kernel_rfl) (by kernel_rfl) (by kernel_rfl) (fun _ _ _ h => by cases h.1) (.inl ⟨by kernel_rfl, fun _ _ => by kernel_rfl⟩) (hR5.1) ?_
    simp only [List.setIfInBounds_toArray, List.set_cons_succ, List.set_cons_zero]
    refine takeD (i := 7) (d := 17) (v := .slice u.1 2 u.2) (fuel := 5) rfl rfl (by kernel_rfl) (by kernel_rfl) (by kernel_rfl) (fun _ _ _ h => by cases h.1) (.inl ⟨by kernel_rfl, fun _ _ => by kernel_rfl⟩) (hR5.1) ?_
    simp only [List.setIfInBounds_toArray, List.set_cons_succ, List.set_cons_zero]
    refine takeD (i := 8) (d := 18) (v := .int .i64 3) (fuel := 4) rfl rfl (by kernel_rfl) (by kernel_rfl) (by kernel_rfl) (fun _ _ _ h => by cases h.1) (.inl ⟨by kernel_rfl, fun _ _ => by kernel_rfl⟩) (hR5.1) ?_
    simp only [List.setIfInBounds_toArray, List.set_cons_succ, List.set_cons_zero]
    refine takeD (i := 9) (d := 19) (v := .int .i64 0) (fuel := 3) rfl rfl (by kernel_rfl) (by kernel_rfl) (by kernel_rfl) (fun _ _ _ h => by cases h.1) (.inl ⟨by kernel_rfl, fun _ _ => by kernel_rfl⟩) (hR5.1) ?_
    simp only [List.setIfInBounds_toArray, List.set_cons_succ, List.set_cons_zero]
    refine takeD (i := 10) (d := 2) (v := .slice u.1 2 u.2) (fuel := 2) rfl rfl (by kernel_rfl) (by kernel_rfl) (by kernel_rfl) (fun _ _ _ h => by cases h.1) (.inl ⟨by kernel_rfl, fun _ _ => by kernel_rfl⟩) (hR5.1) ?_
    simp only [List.setIfInBounds_toArray, List.set_cons_succ, List.set_cons_zero]
    refine takeD (i := 11) (d := 3) (v := .int .i64 3) (fuel := 1) rfl rfl (by kernel_rfl) (by kernel_rfl) (by kernel_rfl) (fun _ _ _ h => by cases h.1) (.inl ⟨by kernel_rfl, fun _ _ => by kernel_rfl⟩) (hR5.1) ?_
    simp only [List.setIfInBounds_toArray, List.set_cons_succ, List.set_cons_zero]
    refine takeD (i := 12) (d := 4) (v := .int .i64 0) (fuel := 0) rfl rfl (by kernel_rfl) (by kernel_rfl) (by kernel_rfl) (fun _ _ _ h => by cases h.1) (.inl ⟨by kernel_rfl, fun _ _ => by kernel_rfl⟩) (hR5.1) ?_
    simp only [List.setIfInBounds_toArray, List.set_cons_succ, List.set_cons_zero]
    refine wpAnyH_done (by kernel_rfl) ?_ _
    exact ⟨rfl, (g1, g2, g3, wz3.heap.size, u), by kernel_rfl, hR5⟩
  · rintro ⟨g1, g2, g3, n9, u⟩ w9 hF
    simp only [setAll, List.setIfInBounds_toArray, List.set_cons_succ, List.set_cons_zero]
    have HFx : Hid _ := hF
    clear hF
    go_wp2_with fail
    have hS0 : LiS w (.slice va n2 vc) b w9.drew ∧ RF w9.drew (.slice u.1 2 u.2) lA := ⟨HFx.out.1.later (Below.refl _ _).drew, HFx.out.2.later (Below.refl _ _).drew⟩
    have hCUR := hS0
    clear HFx
    refine region_thenG (β := Nat × (Option Addr × Nat)) (fun ⟨g4, z⟩ => [(21, .agg #[.slice va n2 vc]), (22, .slice u.1 2 u.2), (23, .agg #[.int .i64 6, .int .i64 1, .int .i64 0, .slice (some ⟨g4, 0, none⟩) 1 1]), (24, .tuple #[.slice z.1 2 z.2, .int .i64 0]), (20, .tuple #[.slice z.1 2 z.2, .int .i64 0]), (25, .slice z.1 2 z.2), (26, .int .i64 0), (5, .slice z.1 2 z.2), (6, .int .i64 0)]) (fun ⟨g4, z⟩ w' => (LiS w (.slice va n2 vc) b w' ∧ RF w' (.slice u.1 2 u.2) lA) ∧ RF w' (.slice z.1 2 z.2) lB) ?_ ?_
    · refine wp_region_held (S := fun w' => LiS w (.slice va n2 vc) b w' ∧ RF w' (.slice u.1 2 u.2) lA) (by kernel_rfl) ?_
      simp only [List.size_toArray, List.length_cons, List.length_nil, Nat.reduceAdd, Array.replicate_succ, Array.replicate_zero, List.push_toArray, List.nil_append, List.cons_append]
      refine takeD (i := 0) (d := 21) (v := .agg #[.slice va n2 vc]) (fuel := 8) rfl rfl (by kernel_rfl) (by kernel_rfl) (by kernel_rfl) (fun _ _ _ h => by cases h.1) (.inl ⟨by kernel_rfl, fun wx h => by have y0 := (Dg.cell_row h.1.box 0).trans rfl; go_simp⟩) hS0 ?_
      simp only [List.setIfInBounds_toArray, List.set_cons_succ, List.set_cons_zero]
      refine takeD (i := 1) (d := 22) (v := .slice u.1 2 u.2) (fuel := 7) rfl rfl (by kernel_rfl) (by kernel_rfl) (by kernel_rfl) (fun _ _ _ h => by cases h.1) (.inl ⟨by kernel_rfl, fun _ _ => by kernel_rfl⟩) hS0 ?_
      simp only [List.setIfInBounds_toArray, List.set_cons_succ, List.set_cons_zero]
      refine oneX (β := Nat) (V := fun g4 => .agg #[.int .i64 6, .int .i64 1, .int .i64 0, .slice (some ⟨g4, 0, none⟩) 1 1]) (R := fun g4 w' => (LiS w (.slice va n2 vc) b w' ∧ RF w' (.slice u.1 2 u.2) lA) ∧ Ek.RI w' (.slice (some ⟨g4, 0, none⟩) 1 1) [1]) (i := 2) (d := 23) (f := 14) (args := #[.int .i64 6, .int .i64 0]) (fuel := 6) rfl rfl (by kernel_rfl) (by kernel_rfl) (fun _ => by kernel_rfl) (LiS.ev (w := w) (v := .slice none 0 0) (b := 0) 6 (X := fun W9 => LiS w (.slice va n2 vc) b W9 ∧ RF W9 (.slice u.1 2 u.2) lA) (fun _ hb => ⟨hCUR.1.later hb, hCUR.2.later hb⟩)) (fun g4 w' h => h.1) (fun g4 wz2 hR2 => ?_)
      simp only [List.setIfInBounds_toArray, List.set_cons_succ, List.set_cons_zero]
      refine oneX (β := Option Addr × Nat) (V := fun z => .tuple #[.slice z.1 2 z.2, .int .i64 0]) (R := fun z w' => (LiS w (.slice va n2 vc) b w' ∧ RF w' (.slice u.1 2 u.2) lA) ∧ RF w' (.slice z.1 2 z.2) lB) (i := 3) (d := 24) (f := 8) (args := #[.agg #[.slice va n2 vc], .slice u.1 2 u.2, .agg #[.int .i64 6, .int .i64 1, .int .i64 0, .slice (some ⟨g4, 0, none⟩) 1 1]]) (fuel := 5) rfl rfl (by kernel_rfl) (by kernel_rfl) (fun _ => by kernel_rfl) (LiS.appA hR2.1.1 hR2.1.2 hR2.2) (fun z w' h => h.1) (fun z wz3 hR3 => ?_)
      simp only [List.setIfInBounds_toArray, List.set_cons_succ, List.set_cons_zero]
      refine takeD (i := 4) (d := 20) (v := .tuple #[.slice z.1 2 z.2, .int .i64 0]) (fuel := 4) rfl rfl (by kernel_rfl) (by kernel_rfl) (by kernel_rfl) (fun _ _ _ h => by cases h.1) (.inl ⟨by kernel_rfl, fun _ _ => by kernel_rfl⟩) (hR3.1) ?_
      simp only [List.setIfInBounds_toArray, List.set_cons_succ, List.set_cons_zero]
      refine takeD (i := 5) (d := 25) (v := .slice z.1 2 z.2) (fuel := 3) rfl rfl (by kernel_rfl) (by kernel_rfl) (by kernel_rfl) (fun _ _ _ h => by cases h.1) (.inl ⟨by kernel_rfl, fun _ _ => by kernel_rfl⟩) (hR3.1) ?_
      simp only [List.setIfInBounds_toArray, List.set_cons_succ, List.set_cons_zero]
      refine takeD (i := 6) (d := 26) (v := .int .i64 0) (fuel := 2) rfl rfl (by kernel_rfl) (by kernel_rfl) (by kernel_rfl) (fun _ _ _ h => by cases h.1) (.inl ⟨by kernel_rfl, fun _ _ => by kernel_rfl⟩) (hR3.1) ?_
      simp only [List.setIfInBounds_toArray, List.set_cons_succ, List.set_cons_zero]
      refine takeD (i := 7) (d := 5) (v := .slice z.1 2 z.2) (fuel := 1) rfl rfl (by kernel_rfl) (by kernel_rfl) (by kernel_rfl) (fun _ _ _ h => by cases h.1) (.inl ⟨by kernel_rfl, fun _ _ => by kernel_rfl⟩) (hR3.1) ?_
      simp only [List.setIfInBounds_toArray, List.set_cons_succ, List.set_cons_zero]
      refine takeD (i := 8) (d := 6) (v := .int .i64 0) (fuel := 0) rfl rfl (by kernel_rfl) (by kernel_rfl) (by kernel_rfl) (fun _ _ _ h => by cases h.1) (.inl ⟨by kernel_rfl, fun _ _ => by kernel_rfl⟩) (hR3.1) ?_
      simp only [List.setIfInBounds_toArray, List.set_cons_succ, List.set_cons_zero]
      refine wpAnyH_done (by kernel_rfl) ?_ _
      exact ⟨rfl, (g4, z), by kernel_rfl, hR3⟩
    · rintro ⟨g4, z⟩ w9 hF
      simp only [setAll, List.setIfInBounds_toArray, List.set_cons_succ, List.set_cons_zero]
      have HFx : Hid _ := hF
      clear hF
      go_wp2_with fail
      have hS0 : (LiS w (.slice va n2 vc) b w9.drew ∧ RF w9.drew (.slice u.1 2 u.2) lA) ∧ RF w9.drew (.slice z.1 2 z.2) lB := ⟨⟨HFx.out.1.1.later (Below.refl _ _).drew, HFx.out.1.2.later (Below.refl _ _).drew⟩, HFx.out.2.later (Below.refl _ _).drew⟩
      have hCUR := hS0
      clear HFx
      refine region_thenG (β := Nat) (fun g5 => [(28, .agg #[.slice va n2 vc]), (29, .slice z.1 2 z.2), (30, .agg #[.int .i64 4, .int .i64 1, .int .i64 0, .slice (some ⟨g5, 0, none⟩) 1 1]), (31, .tuple #[.slice none 0 0, .int .i64 14]), (27, .tuple #[.slice none 0 0, .int .i64 14]), (32, .slice none 0 0), (33, .int .i64 14), (7, .slice none 0 0), (8, .int .i64 14)]) (fun g5 w' => (LiS w (.slice va n2 vc) b w' ∧ RF w' (.slice u.1 2 u.2) lA) ∧ RF w' (.slice z.1 2 z.2) lB) ?_ ?_
      · refine wp_region_held (S := fun w' => (LiS w (.slice va n2 vc) b w' ∧ RF w' (.slice u.1 2 u.2) lA) ∧ RF w' (.slice z.1 2 z.2) lB) (by kernel_rfl) ?_
        simp only [List.size_toArray, List.length_cons, List.length_nil, Nat.reduceAdd, Array.replicate_succ, Array.replicate_zero, List.push_toArray, List.nil_append, List.cons_append]
        refine takeD (i := 0) (d := 28) (v := .agg #[.slice va n2 vc]) (fuel := 8) rfl rfl (by kernel_rfl) (by kernel_rfl) (by kernel_rfl) (fun _ _ _ h => by cases h.1) (.inl ⟨by kernel_rfl, fun wx h => by have y0 := (Dg.cell_row h.1.1.box 0).trans rfl; go_simp⟩) hS0 ?_
        simp only [List.setIfInBounds_toArray, List.set_cons_succ, List.set_cons_zero]
        refine takeD (i := 1) (d := 29) (v := .slice z.1 2 z.2) (fuel := 7) rfl rfl (by kernel_rfl) (by kernel_rfl) (by kernel_rfl) (fun _ _ _ h => by cases h.1) (.inl ⟨by kernel_rfl, fun _ _ => by kernel_rfl⟩) hS0 ?_
        simp only [List.setIfInBounds_toArray, List.set_cons_succ, List.set_cons_zero]
        refine oneX (β := Nat) (V := fun g5 => .agg #[.int .i64 4, .int .i64 1, .int .i64 0, .slice (some ⟨g5, 0, none⟩) 1 1]) (R := fun g5 w' => ((LiS w (.slice va n2 vc) b w' ∧ RF w' (.slice u.1 2 u.2) lA) ∧ RF w' (.slice z.1 2 z.2) lB) ∧ Ek.RI w' (.slice (some ⟨g5, 0, none⟩) 1 1) [1]) (i := 2) (d := 30) (f := 14) (args := #[.int .i64 4, .int .i64 0]) (fuel := 6) rfl rfl (by kernel_rfl) (by kernel_rfl) (fun _ => by kernel_rfl) (LiS.ev (w := w) (v := .slice none 0 0) (b := 0) 4 (X := fun W9 => (LiS w (.slice va n2 vc) b W9 ∧ RF W9 (.slice u.1 2 u.2) lA) ∧ RF W9 (.slice z.1 2 z.2) lB) (fun _ hb => ⟨⟨hCUR.1.1.later hb, hCUR.1.2.later hb⟩, hCUR.2.later hb⟩)) (fun g5 w' h => h.1) (fun g5 wz2 hR2 => ?_)
        simp only [List.setIfInBounds_toArray, List.set_cons_succ, List.set_cons_zero]
        refine oneW (R := fun w' => (LiS w (.slice va n2 vc) b w' ∧ RF w' (.slice u.1 2 u.2) lA) ∧ RF w' (.slice z.1 2 z.2) lB) (i := 3) (d := 31) (f := 8) (args := #[.agg #[.slice va n2 vc], .slice z.1 2 z.2, .agg #[.int .i64 4, .int .i64 1, .int .i64 0, .slice (some ⟨g5, 0, none⟩) 1 1]]) (v := .tuple #[.slice none 0 0, .int .i64 14]) (fuel := 5) rfl rfl (by kernel_rfl) (by kernel_rfl) (fun _ => by kernel_rfl) (LiS.appB hR2.1.1.1 hR2.1.1.2 hR2.1.2 hR2.2) (fun w' h => h) (fun wz hR3 => ?_)
        simp only [List.setIfInBounds_toArray, List.set_cons_succ, List.set_cons_zero]
        refine takeD (i := 4) (d := 27) (v := .tuple #[.slice none 0 0, .int .i64 14]) (fuel := 4) rfl rfl (by kernel_rfl) (by kernel_rfl) (by kernel_rfl) (fun _ _ _ h => by cases h.1) (.inl ⟨by kernel_rfl, fun _ _ => by kernel_rfl⟩) (hR3) ?_
        simp only [List.setIfInBounds_toArray, List.set_cons_succ, List.set_cons_zero]
        refine takeD (i := 5) (d := 32) (v := .slice none 0 0) (fuel := 3) rfl rfl (by kernel_rfl) (by kernel_rfl) (by kernel_rfl) (fun _ _ _ h => by cases h.1) (.inl ⟨by kernel_rfl, fun _ _ => by kernel_rfl⟩) (hR3) ?_
        simp only [List.setIfInBounds_toArray, List.set_cons_succ, List.set_cons_zero]
        refine takeD (i := 6) (d := 33) (v := .int .i64 14) (fuel := 2) rfl rfl (by kernel_rfl) (by kernel_rfl) (by kernel_rfl) (fun _ _ _ h => by cases h.1) (.inl ⟨by kernel_rfl, fun _ _ => by kernel_rfl⟩) (hR3) ?_
        simp only [List.setIfInBounds_toArray, List.set_cons_succ, List.set_cons_zero]
        refine takeD (i := 7) (d := 7) (v := .slice none 0 0) (fuel := 1) rfl rfl (by kernel_rfl) (by kernel_rfl) (by kernel_rfl) (fun _ _ _ h => by cases h.1) (.inl ⟨by kernel_rfl, fun _ _ => by kernel_rfl⟩) (hR3) ?_
        simp only [List.setIfInBounds_toArray, List.set_cons_succ, List.set_cons_zero]
        refine takeD (i := 8) (d := 8) (v := .int .i64 14) (fuel := 0) rfl rfl (by kernel_rfl) (by kernel_rfl) (by kernel_rfl) (fun _ _ _ h => by cases h.1) (.inl ⟨by kernel_rfl, fun _ _ => by kernel_rfl⟩) (hR3) ?_
        simp only [List.setIfInBounds_toArray, List.set_cons_succ, List.set_cons_zero]
        refine wpAnyH_done (by kernel_rfl) ?_ _
        exact ⟨rfl, g5, by kernel_rfl, hR3⟩
      · rintro g5 w9 hF
        simp only [setAll, List.setIfInBounds_toArray, List.set_cons_succ, List.set_cons_zero]
        have HF9 : Hid ((LiS w (.slice va n2 vc) b w9 ∧ RF w9 (.slice u.1 2 u.2) lA) ∧ RF w9 (.slice z.1 2 z.2) lB) := hF
        clear hF
        obtain ⟨ua, uc⟩ := u
        obtain ⟨za, zc⟩ := z
        dsimp only at HF9 ⊢
        go_wp2_with fail
        have HFA : Hid ((LiS w (.slice va n2 vc) b (w9.alloc (.cells #[.int .i64 0, .int .i64 0, .int .i64 0, .bool false, .int .i64 2, .int .i64 1, .int .i64 0, .bool false] 38)) ∧ RF (w9.alloc (.cells #[.int .i64 0, .int .i64 0, .int .i64 0, .bool false, .int .i64 2, .int .i64 1, .int .i64 0, .bool false] 38)) (.slice ua 2 uc) lA) ∧ RF (w9.alloc (.cells #[.int .i64 0, .int .i64 0, .int .i64 0, .bool false, .int .i64 2, .int .i64 1, .int .i64 0, .bool false] 38)) (.slice za 2 zc) lB) := ⟨⟨HF9.out.1.1.later (bl1 _ _), HF9.out.1.2.later (bl1 _ _)⟩, HF9.out.2.later (bl1 _ _)⟩
        refine Calls.mono (sameF_any lA _ _ _ HFA.out.1.2 (RF.of_row (l := lA) (Dg.row_new w9 _ 38) (by decide)) (by decide)) ?_
        rintro x wA ⟨rfl, hbA⟩
        have HFB : Hid ((LiS w (.slice va n2 vc) b wA ∧ RF wA (.slice ua 2 uc) lA) ∧ RF wA (.slice za 2 zc) lB) := ⟨⟨HFA.out.1.1.later hbA, HFA.out.1.2.later hbA⟩, HFA.out.2.later hbA⟩
        have z0 := (Dg.cell_row HFB.out.1.1.box 0).trans rfl
        clear HF9 HFA hbA
        go_wp2_with fail
        refine Calls.mono (open_any iOne (.slice va n2 vc) (.slice ua 2 uc) lA wA HFB.out.1.1.it fair_iOne HFB.out.1.1.tab HFB.out.1.2 (by decide) (by decide)) ?_
        rintro x wB ⟨hbB, o, rfl, ho⟩
        rw [open_A] at ho
        obtain ⟨oa, oc, rfl⟩ := ho.slice
        have HK : Hid (RK wB (.slice oa 1 oc) [(1, true, 0)]) := ho.rk
        have HFC : Hid ((LiS w (.slice va n2 vc) b wB ∧ RF wB (.slice ua 2 uc) lA) ∧ RF wB (.slice za 2 zc) lB) := ⟨⟨HFB.out.1.1.later hbB, HFB.out.1.2.later hbB⟩, HFB.out.2.later hbB⟩
        clear HFB hbB ho z0
        go_wp2_with fail
        refine Calls.mono (sameK_any [(1, true, 0)] _ _ _ (HK.out.later (bl1 _ _)) (RK.of_row (l := [(1, true, 0)]) (Dg.row_new wB _ 45) (by decide)) (by decide)) ?_
        rintro x wC ⟨rfl, hbC⟩
        have HFD : Hid ((LiS w (.slice va n2 vc) b wC ∧ RF wC (.slice ua 2 uc) lA) ∧ RF wC (.slice za 2 zc) lB) := ⟨⟨(HFC.out.1.1.later (bl1 _ _)).later hbC, (HFC.out.1.2.later (bl1 _ _)).later hbC⟩, (HFC.out.2.later (bl1 _ _)).later hbC⟩
        clear HFC hbC HK
        go_wp2_with fail
        refine Calls.mono (sameF_any lB _ _ _ (HFD.out.2.later (bl1 _ _)) (RF.of_row (l := lB) (Dg.row_new wC _ 38) (by decide)) (by decide)) ?_
        rintro x wD ⟨rfl, hbD⟩
        have HFE : Hid (LiS w (.slice va n2 vc) b wD) := (HFD.out.1.1.later (bl1 _ _)).later hbD
        clear HFD hbD
        go_wp2_with fail
        go_ret
        exact ⟨rfl, HFE.out.bel⟩
end Go.Proofs.YtkndchbpbaecbaaGreatDoor.Fc

