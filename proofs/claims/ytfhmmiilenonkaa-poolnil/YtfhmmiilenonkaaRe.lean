/- The walk over Push. -/
import Derived.Test.YtfhmmiilenonkaaRd
namespace Go.Proofs.Ytfhmmiilenonkaa

open Go.RowKit

set_option maxRecDepth 1000000

set_option linter.unusedVariables false

theorem wpOp_skip {P : Program} {ops : Array Oper} {Q : Exit → Act → World → Prop} {i : Nat} {K : Act → World → Prop} {a : Act} {w w' : World} {o : Oper} (hi : ops[i]? = some o) (hd : o.dst = none) (hw : Region.wanted o (yielded ops a.tmps) = true)
    (hrun : (execOp a.eval o).run P w = .ok .skip w') (hK : K a w') : wpOp P ops Q i K a w := by
  have hp : a.put o.dst undef = a := by rw [hd]; rfl
  unfold wpOp
  simp only [hi]
  rw [if_pos hw]
  refine .inl ?_
  unfold Oper.wp
  rw [hrun]
  show K (a.put o.dst undef) w'
  rw [hp]
  exact hK

theorem exec_append {P : Program} {o : Oper} {a : Act} {w w' : World} {s x : Operand} {t : TypeId} {v xv v' : Value} (ho : o.op = Op.call { callee := Callee.builtin Builtin.append, args := #[s, x], argTypes := #[t, t] }) (hs : a.eval s = v) (hx : a.eval x = xv) (hrun : (Builtin.append_ #[t, t] o.type #[v, xv]).run P w = .ok v' w') :
    (execOp a.eval o).run P w = .ok (.value v') w' := by
  unfold execOp
  simp [ho, resolve, invoke, builtin, hs, hx, hrun, Result.andThen]

theorem region_thenG {P : Program} {id : Nat} {ops : Array Oper} {dr : Bool} {Q : Exit → Act → World → Prop} {K : Act → World → Prop} {a : Act} {w : World} {β : Type} (L : β → List (Nat × Value)) (F : β → World → Prop)
    (h : (Code.region id ops dr).wp P (fun e a' w' => e = .normal ∧ ∃ z, a' = { tmps := setAll a.tmps (L z), defers := a.defers } ∧ F z w') a w)
    (h2 : ∀ z w', F z w' → K { tmps := setAll a.tmps (L z), defers := a.defers } w') : (Code.region id ops dr).wp P (Exit.then K Q) a w := by
  refine wp_mono h ?_
  rintro e a' w' ⟨rfl, z, rfl, hF⟩
  exact h2 z w' hF

set_option maxHeartbeats 4000000 in
theorem push1_any (T : Nat → Prop) (w w1 : World) (p bd bj : Nat) (v sv : Value) (M : List JbP) (e : Jb) (h : DV T w p v M) (hb : Below w.heap.size w w1) (hbd : w1.heap[bd]? = some (.cells #[.pointer (some ⟨p, 0, none⟩)] 53 (0, 0))) (hbj : w1.heap[bj]? = some (.cells (jrow (e, sv)).toArray 37 (0, 0)))
    (hld : w.heap.size ≤ bd) (hlj : w.heap.size ≤ bj) (hs : RI w1 sv e.s) (hes : e.s.length ≤ 1000000) (hM : M.length ≤ 1000000) :
    Calls Try.prog 57 #[.pointer (some ⟨bd, 0, none⟩), .pointer (some ⟨bj, 0, none⟩)] w1 fun x w' => ∃ k : Int, x = .returned (.int .i64 k) ∧ k = (pushP (M.map Prod.fst) e).1 ∧ WD T w p (pushP (M.map Prod.fst) e).2 w' := by
  have HV : Hid _ := h
  have HB : Hid _ := hb
  have cd := (cell_row hbd 0).trans rfl
  have c1 := (cell_row (row_later h.blk hb) 1).trans rfl
  simp at cd c1
  unfold pushP
  rw [List.length_map]
  obtain ⟨ra, rc, rfl, hrc1, hrc2⟩ := h.row.slice
  have HM : Hid _ := hM
  by_cases h128 : M.length = 128
  · rw [if_pos h128]
    have hlen : ((M.length : Nat) : Int) = 128 := by omega
    rw [h128] at c1
    go_enter Try.func57, Try.ntmps57
    go_wp2_with fail
    go_ret
    exact ⟨8, rfl, rfl, WD.of_kept ⟨_, _, HV.out, rfl⟩ HB.out⟩
  · rw [if_neg h128]
    have hlen : ¬ ((M.length : Nat) : Int) = 128 := by omega
    have HA : Hid (∀ wx, Below w1.heap.size w1 wx → Calls Try.prog 58 #[JV e sv] wx fun x w' => ∃ v', x = .returned (JV e v') ∧ OwI w.heap.size w' v' e.s ∧ Below w1.heap.size w1 w') := fun wx hbx => by
      refine Calls.mono (apart_any e sv wx (hs.later hbx) hes) ?_
      rintro x w' ⟨v', q1, q2, q3⟩
      exact ⟨v', q1, World.ownsRow.mono_base q2 (Nat.le_trans hb.size hbx.size), hbx.trans (q3.mono hbx.size)⟩
    have HBD : Hid _ := hbd
    have HBJ : Hid _ := hbj
    obtain ⟨j0, j1, j2, j3, j4, j5⟩ := JC.of_row hbj
    have hsv := id hs
    obtain ⟨sa, sc, rfl, _⟩ := hsv
    have HP1 : Hid (w1.heap[p]? = some (.cells #[.bool true, .slice ra M.length rc] 93 (0, 0))) := row_later h.blk hb
    obtain ⟨ei, eu, et, eb, ek, es⟩ := e
    unfold JV at HA
    dsimp only at *
    generalize hml : M.length = ml at *
    generalize hesl : es.length = sl at *
    have HML : Hid _ := hml
    clear hesl
    have hne : ¬ (ml : Int) = 128 := hlen
    have hdf : ((ml : Int) == 128) = false := by simpa using hlen
    have HS : Hid (∀ W, Below w1.heap.size w1 W → W.cell? ⟨bd, 0, none⟩ = some (.pointer (some ⟨p, 0, none⟩)) ∧ W.cell? ⟨bj, 0, none⟩ = some (.int .i64 ei) ∧ W.cell? ⟨bj, 1, none⟩ = some (.bool eu) ∧ W.cell? ⟨bj, 2, none⟩ = some (.int .i64 et) ∧ W.cell? ⟨bj, 3, none⟩ = some (.bool eb) ∧ W.cell? ⟨bj, 4, none⟩ = some (.int .i64 ek) ∧ W.cell? ⟨bj, 5, none⟩ = some (.slice sa sl sc)) :=
      fun W hW => ⟨cell_later hW cd, by simpa using cell_later hW j0, by simpa using cell_later hW j1, by simpa using cell_later hW j2, by simpa using cell_later hW j3, by simpa using cell_later hW j4, by simpa using cell_later hW j5⟩
    have HAP : Hid (∀ va vc w2, Below w1.heap.size w1 w2 → ∃ na nc w3, (Builtin.append_ #[91, 91] 91 #[.slice ra ml rc, .slice (some ⟨w2.heap.size, 0, none⟩) 1 1]).run Try.prog (w2.alloc (.cells #[.int .i64 ei, .bool eu, .int .i64 et, .bool eb, .int .i64 ek, .slice va es.length vc] 37)) = .ok (.slice na (ml + 1) nc) w3 ∧ OwR w3 (.slice na (ml + 1) nc) (M ++ [(⟨ei, eu, et, eb, ek, es⟩, .slice va es.length vc)]) ∧ (w2.alloc (.cells #[.int .i64 ei, .bool eu, .int .i64 et, .bool eb, .int .i64 ek, .slice va es.length vc] 37)).grownBy w3 (Value.slice ra ml rc).ownBlock ∧ ((Value.slice na (ml + 1) nc).ownBlock = (Value.slice ra ml rc).ownBlock ∨ (Value.slice na (ml + 1) nc).ownBlock = some (w2.alloc (.cells #[.int .i64 ei, .bool eu, .int .i64 et, .bool eb, .int .i64 ek, .slice va es.length vc] 37)).heap.size)) := fun va vc w2 hb2 => by
      have hb2' := hb.trans (hb2.mono hb.size)
      have := run_append_j 91 91 Try.underlying91 ((h.row.later hb2').later (bl1 w2 (.cells #[.int .i64 ei, .bool eu, .int .i64 et, .bool eb, .int .i64 ek, .slice va es.length vc] 37))) (⟨ei, eu, et, eb, ek, es⟩, .slice va es.length vc) rfl (nb := w2.heap.size) (row_new w2 _ 37) (fun e9 => by have := (h.row.later hb2').lt _ e9; omega) (by omega)
      rw [hml] at this
      exact this
    have HT : Hid (∀ {w2 w3 : World} {o : Obj}, (w2.alloc o).grownBy w3 (Value.slice ra ml rc).ownBlock → Below w1.heap.size w1 (w2.alloc o) → (w3.cell? ⟨bd, 0, none⟩ = some (.pointer (some ⟨p, 0, none⟩)) ∧ w3.cell? ⟨bj, 0, none⟩ = some (.int .i64 ei) ∧ w3.cell? ⟨bj, 1, none⟩ = some (.bool eu) ∧ w3.cell? ⟨bj, 2, none⟩ = some (.int .i64 et) ∧ w3.cell? ⟨bj, 3, none⟩ = some (.bool eb) ∧ w3.cell? ⟨bj, 4, none⟩ = some (.int .i64 ek) ∧ w3.cell? ⟨bj, 5, none⟩ = some (.slice sa sl sc)) ∧ w3.cell? ⟨p, 1, none⟩ = some (.slice ra ml rc) ∧ w3.frozen? ⟨p, 1, none⟩ = false) := by
      show ∀ {w2 w3 : World} {o : Obj}, _
      intro w2 w3 o hg hb3
      have hS := HS.out _ hb3
      have hrow := row_later HP1.out hb3
      have nb : ∀ b, w.heap.size ≤ b → some b ≠ (Value.slice ra ml rc).ownBlock := fun b hb9 e9 => by have := h.live _ (h.mine b e9.symm).1; omega
      have np : some p ≠ (Value.slice ra ml rc).ownBlock := fun e9 => (h.mine p e9.symm).2 rfl
      have hr3 : w3.heap[p]? = some (.cells #[.bool true, .slice ra ml rc] 93 (0, 0)) := (hg.block p (row_lt hrow) np).trans hrow
      exact ⟨⟨hg.cell hS.1 (nb _ hld), hg.cell hS.2.1 (nb _ hlj), hg.cell hS.2.2.1 (nb _ hlj), hg.cell hS.2.2.2.1 (nb _ hlj), hg.cell hS.2.2.2.2.1 (nb _ hlj), hg.cell hS.2.2.2.2.2.1 (nb _ hlj), hg.cell hS.2.2.2.2.2.2 (nb _ hlj)⟩, (cell_row hr3 1).trans rfl, froz_row hr3 1⟩
    have hplt := h.live p h.own
    have HS2 : Hid (∀ {W : World} {u : Value}, (W.cell? ⟨bd, 0, none⟩ = some (.pointer (some ⟨p, 0, none⟩)) ∧ W.cell? ⟨bj, 0, none⟩ = some (.int .i64 ei) ∧ W.cell? ⟨bj, 1, none⟩ = some (.bool eu) ∧ W.cell? ⟨bj, 2, none⟩ = some (.int .i64 et) ∧ W.cell? ⟨bj, 3, none⟩ = some (.bool eb) ∧ W.cell? ⟨bj, 4, none⟩ = some (.int .i64 ek) ∧ W.cell? ⟨bj, 5, none⟩ = some (.slice sa sl sc)) → ((W.setCell ⟨p, 1, none⟩ u).cell? ⟨bd, 0, none⟩ = some (.pointer (some ⟨p, 0, none⟩)) ∧ (W.setCell ⟨p, 1, none⟩ u).cell? ⟨bj, 0, none⟩ = some (.int .i64 ei) ∧ (W.setCell ⟨p, 1, none⟩ u).cell? ⟨bj, 1, none⟩ = some (.bool eu) ∧ (W.setCell ⟨p, 1, none⟩ u).cell? ⟨bj, 2, none⟩ = some (.int .i64 et) ∧ (W.setCell ⟨p, 1, none⟩ u).cell? ⟨bj, 3, none⟩ = some (.bool eb) ∧ (W.setCell ⟨p, 1, none⟩ u).cell? ⟨bj, 4, none⟩ = some (.int .i64 ek) ∧ (W.setCell ⟨p, 1, none⟩ u).cell? ⟨bj, 5, none⟩ = some (.slice sa sl sc))) := by
      show ∀ {W : World} {u : Value}, _
      intro W u hS
      have k : Kp (fun k => k = p) W (W.setCell ⟨p, 1, none⟩ u) := (Kp.refl _ _).set _ _ rfl
      have n1 : ¬ bd = p := by omega
      have n2 : ¬ bj = p := by omega
      exact ⟨k.cell hS.1 n1, k.cell hS.2.1 n2, k.cell hS.2.2.1 n2, k.cell hS.2.2.2.1 n2, k.cell hS.2.2.2.2.1 n2, k.cell hS.2.2.2.2.2.1 n2, k.cell hS.2.2.2.2.2.2 n2⟩
    have HE : Hid (∀ {va vc w2 na nc w3}, Below w1.heap.size w1 w2 → OwI w.heap.size w2 (.slice va es.length vc) es → OwR w3 (.slice na (ml + 1) nc) (M ++ [(⟨ei, eu, et, eb, ek, es⟩, .slice va es.length vc)]) → (w2.alloc (.cells #[.int .i64 ei, .bool eu, .int .i64 et, .bool eb, .int .i64 ek, .slice va es.length vc] 37)).grownBy w3 (Value.slice ra ml rc).ownBlock → ((Value.slice na (ml + 1) nc).ownBlock = (Value.slice ra ml rc).ownBlock ∨ (Value.slice na (ml + 1) nc).ownBlock = some (w2.alloc (.cells #[.int .i64 ei, .bool eu, .int .i64 et, .bool eb, .int .i64 ek, .slice va es.length vc] 37)).heap.size) → WD T w p (List.map Prod.fst M ++ [⟨ei, eu, et, eb, ek, es⟩]) (w3.setCell ⟨p, 1, none⟩ (.slice na (ml + 1) nc))) := by
      show ∀ {va vc w2 na nc w3}, _
      intro va vc w2 na nc w3 hb2 hs2 ho3 hg3 hat3
      subst hml
      exact push_end (e := ⟨ei, eu, et, eb, ek, es⟩) h (hb.trans (hb2.mono hb.size)) hs2 ho3 hg3 hat3
    have hS0 : _ := HS.out w1.drew (Below.refl _ _).drew
    have hb0 : Below w1.heap.size w1 w1.drew := (Below.refl _ _).drew
    clear hs hbj hbd h hb hml
    go_enter Try.func57, Try.ntmps57
    go_wp2_with fail
    refine region_thenG (β := Value × Value × Value) (fun z => [(9, .pointer (some ⟨p, 0, none⟩)), (10, .pointer (some ⟨p, 0, none⟩)), (11, .pointer (some ⟨p, 0, none⟩)), (12, .pointer (some ⟨p, 1, none⟩)), (13, .slice ra ml rc), (14, .agg #[.int .i64 ei, .bool eu, .int .i64 et, .bool eb, .int .i64 ek, .slice sa sl sc]), (15, z.1), (16, z.2.1), (17, z.2.2), (18, .pointer (some ⟨p, 0, none⟩)), (19, .pointer (some ⟨p, 1, none⟩))]) (fun z W => WD T w p (List.map Prod.fst M ++ [⟨ei, eu, et, eb, ek, es⟩]) W) ?_ ?_
    · refine wp_region_held (S := fun W => W.cell? ⟨bd, 0, none⟩ = some (.pointer (some ⟨p, 0, none⟩)) ∧ W.cell? ⟨bj, 0, none⟩ = some (.int .i64 ei) ∧ W.cell? ⟨bj, 1, none⟩ = some (.bool eu) ∧ W.cell? ⟨bj, 2, none⟩ = some (.int .i64 et) ∧ W.cell? ⟨bj, 3, none⟩ = some (.bool eb) ∧ W.cell? ⟨bj, 4, none⟩ = some (.int .i64 ek) ∧ W.cell? ⟨bj, 5, none⟩ = some (.slice sa sl sc)) (by kernel_rfl) ?_
      simp only [List.size_toArray, List.length_cons, List.length_nil, Nat.reduceAdd, Array.replicate_succ, Array.replicate_zero, List.push_toArray, List.nil_append, List.cons_append]
      refine takeD (i := 0) (d := 9) (v := .pointer (some ⟨p, 0, none⟩)) (fuel := 11) rfl rfl (by kernel_rfl) (by kernel_rfl) (by kernel_rfl) (fun _ _ _ h => by cases h.1) (.inl ⟨by kernel_rfl, fun wx h => by have y0 := h.1; go_simp⟩) hS0 ?_
      simp only [List.setIfInBounds_toArray, List.set_cons_succ, List.set_cons_zero]
      refine takeD (i := 1) (d := 10) (v := .pointer (some ⟨p, 0, none⟩)) (fuel := 10) rfl rfl (by kernel_rfl) (by kernel_rfl) (by kernel_rfl) (fun _ _ _ h => by cases h.1) (.inl ⟨by kernel_rfl, fun wx h => by have y0 := h.1; go_simp⟩) hS0 ?_
      simp only [List.setIfInBounds_toArray, List.set_cons_succ, List.set_cons_zero]
      refine takeD (i := 2) (d := 11) (v := .pointer (some ⟨p, 0, none⟩)) (fuel := 9) rfl rfl (by kernel_rfl) (by kernel_rfl) (by kernel_rfl) (fun _ _ _ h => by cases h.1) (.inl ⟨by kernel_rfl, fun _ _ => by go_simp⟩) hS0 ?_
      simp only [List.setIfInBounds_toArray, List.set_cons_succ, List.set_cons_zero]
      refine takeD (i := 3) (d := 12) (v := .pointer (some ⟨p, 1, none⟩)) (fuel := 8) rfl rfl (by kernel_rfl) (by kernel_rfl) (by kernel_rfl) (fun _ _ _ h => by cases h.1) (.inl ⟨by kernel_rfl, fun _ _ => by go_simp⟩) hS0 ?_
      simp only [List.setIfInBounds_toArray, List.set_cons_succ, List.set_cons_zero]
      refine takeD (i := 5) (d := 14) (v := .agg #[.int .i64 ei, .bool eu, .int .i64 et, .bool eb, .int .i64 ek, .slice sa sl sc]) (fuel := 7) rfl rfl (by kernel_rfl) (by kernel_rfl) (by kernel_rfl) (fun _ _ _ h => by cases h.1) (.inl ⟨by kernel_rfl, fun wx h => by obtain ⟨_, y0, y1, y2, y3, y4, y5⟩ := h; go_simp⟩) hS0 ?_
      simp only [List.setIfInBounds_toArray, List.set_cons_succ, List.set_cons_zero]
      refine wpAnyH_all (fuel := 6) (rs := [4, 6]) (by kernel_rfl) (by decide) ?_
      refine List.forall_mem_cons.2 ⟨?_, List.forall_mem_singleton.2 ?_⟩
      · refine wpOp_value (i := 4) (d := 13) (v := .slice ra ml rc) rfl rfl (by kernel_rfl) (by have y0 := cell_later hb0 c1; go_simp) ⟨HS.out _ hb0, ?_⟩
        simp only [List.setIfInBounds_toArray, List.set_cons_succ, List.set_cons_zero]
        refine wpAnyH_all (fuel := 5) (rs := [6]) (by kernel_rfl) (by decide) ?_
        refine List.forall_mem_singleton.2 ?_
        refine wpOp_calls (i := 6) (d := 15) (f := 58) (args := #[.agg #[.int .i64 ei, .bool eu, .int .i64 et, .bool eb, .int .i64 ek, .slice sa sl sc]]) rfl rfl (by kernel_rfl) (by kernel_rfl) _ (HA.out _ hb0) ?_ (fun _ _ h => by obtain ⟨_, h1, _⟩ := h; cases h1) (fun _ h => by obtain ⟨_, h1, _⟩ := h; cases h1)
        rintro _ w2 ⟨v2, h1, ho2, hb2⟩
        cases h1
        refine ⟨HS.out _ hb2, ?_⟩
        simp only [List.setIfInBounds_toArray, List.set_cons_succ, List.set_cons_zero]
        refine wpAnyH_all (fuel := 4) (rs := [7]) (by kernel_rfl) (by decide) ?_
        refine List.forall_mem_singleton.2 ?_
        obtain ⟨va, vc, rfl⟩ := ho2.slice
        refine wpOp_value (i := 7) (d := 16) (v := .slice (some ⟨w2.heap.size, 0, none⟩) 1 1) (w' := w2.alloc (.cells #[.int .i64 ei, .bool eu, .int .i64 et, .bool eb, .int .i64 ek, .slice va es.length vc] 37)) rfl rfl (by kernel_rfl) (by go_simp) ⟨HS.out _ (hb2.alloc hb2.size _), ?_⟩
        simp only [List.setIfInBounds_toArray, List.set_cons_succ, List.set_cons_zero]
        have hb3 : Below w1.heap.size w1 (w2.alloc (.cells #[.int .i64 ei, .bool eu, .int .i64 et, .bool eb, .int .i64 ek, .slice va es.length vc] 37)) := hb2.alloc hb2.size _
        obtain ⟨na, nc, w3, hrun, ho3, hg3, hat3⟩ := HAP.out va vc w2 hb2
        refine wpAnyH_all (fuel := 3) (rs := [8]) (by kernel_rfl) (by decide) ?_
        refine List.forall_mem_singleton.2 ?_
        refine wpOp_value (i := 8) (d := 17) (v := .slice na (ml + 1) nc) (w' := w3) rfl rfl (by kernel_rfl) (exec_append rfl rfl rfl hrun) ⟨(HT.out hg3 hb3).1, ?_⟩
        simp only [List.setIfInBounds_toArray, List.set_cons_succ, List.set_cons_zero]
        refine takeD (i := 9) (d := 18) (v := .pointer (some ⟨p, 0, none⟩)) (fuel := 2) rfl rfl (by kernel_rfl) (by kernel_rfl) (by kernel_rfl) (fun _ _ _ h => by cases h.1) (.inl ⟨by kernel_rfl, fun _ _ => by go_simp⟩) (HT.out hg3 hb3).1 ?_
        simp only [List.setIfInBounds_toArray, List.set_cons_succ, List.set_cons_zero]
        refine takeD (i := 10) (d := 19) (v := .pointer (some ⟨p, 1, none⟩)) (fuel := 1) rfl rfl (by kernel_rfl) (by kernel_rfl) (by kernel_rfl) (fun _ _ _ h => by cases h.1) (.inl ⟨by kernel_rfl, fun _ _ => by go_simp⟩) (HT.out hg3 hb3).1 ?_
        simp only [List.setIfInBounds_toArray, List.set_cons_succ, List.set_cons_zero]
        refine wpAnyH_all (fuel := 0) (rs := [11]) (by kernel_rfl) (by decide) ?_
        refine List.forall_mem_singleton.2 ?_
        obtain ⟨q0, q1, q2⟩ := HT.out hg3 hb3
        refine wpOp_skip (i := 11) rfl rfl (by kernel_rfl) (w' := w3.setCell ⟨p, 1, none⟩ (.slice na (ml + 1) nc)) (by go_simp) ⟨HS2.out q0, ?_⟩
        simp only [List.setIfInBounds_toArray, List.set_cons_succ, List.set_cons_zero]
        refine wpAnyH_done (by kernel_rfl) ?_ _
        exact ⟨rfl, (.agg #[.int .i64 ei, .bool eu, .int .i64 et, .bool eb, .int .i64 ek, .slice va es.length vc], .slice (some ⟨w2.heap.size, 0, none⟩) 1 1, .slice na (ml + 1) nc), by kernel_rfl, HE.out hb2 ho2 ho3 hg3 hat3⟩
      · refine wpOp_calls (i := 6) (d := 15) (f := 58) (args := #[.agg #[.int .i64 ei, .bool eu, .int .i64 et, .bool eb, .int .i64 ek, .slice sa sl sc]]) rfl rfl (by kernel_rfl) (by kernel_rfl) _ (HA.out _ hb0) ?_ (fun _ _ h => by obtain ⟨_, h1, _⟩ := h; cases h1) (fun _ h => by obtain ⟨_, h1, _⟩ := h; cases h1)
        rintro _ w2 ⟨v2, h1, ho2, hb2⟩
        cases h1
        refine ⟨HS.out _ hb2, ?_⟩
        simp only [List.setIfInBounds_toArray, List.set_cons_succ, List.set_cons_zero]
        refine wpAnyH_all (fuel := 5) (rs := [4, 7]) (by kernel_rfl) (by decide) ?_
        refine List.forall_mem_cons.2 ⟨?_, List.forall_mem_singleton.2 ?_⟩
        · refine wpOp_value (i := 4) (d := 13) (v := .slice ra ml rc) rfl rfl (by kernel_rfl) (by have y0 := cell_later hb2 c1; go_simp) ⟨HS.out _ hb2, ?_⟩
          simp only [List.setIfInBounds_toArray, List.set_cons_succ, List.set_cons_zero]
          refine wpAnyH_all (fuel := 4) (rs := [7]) (by kernel_rfl) (by decide) ?_
          refine List.forall_mem_singleton.2 ?_
          obtain ⟨va, vc, rfl⟩ := ho2.slice
          refine wpOp_value (i := 7) (d := 16) (v := .slice (some ⟨w2.heap.size, 0, none⟩) 1 1) (w' := w2.alloc (.cells #[.int .i64 ei, .bool eu, .int .i64 et, .bool eb, .int .i64 ek, .slice va es.length vc] 37)) rfl rfl (by kernel_rfl) (by go_simp) ⟨HS.out _ (hb2.alloc hb2.size _), ?_⟩
          simp only [List.setIfInBounds_toArray, List.set_cons_succ, List.set_cons_zero]
          have hb3 : Below w1.heap.size w1 (w2.alloc (.cells #[.int .i64 ei, .bool eu, .int .i64 et, .bool eb, .int .i64 ek, .slice va es.length vc] 37)) := hb2.alloc hb2.size _
          obtain ⟨na, nc, w3, hrun, ho3, hg3, hat3⟩ := HAP.out va vc w2 hb2
          refine wpAnyH_all (fuel := 3) (rs := [8]) (by kernel_rfl) (by decide) ?_
          refine List.forall_mem_singleton.2 ?_
          refine wpOp_value (i := 8) (d := 17) (v := .slice na (ml + 1) nc) (w' := w3) rfl rfl (by kernel_rfl) (exec_append rfl rfl rfl hrun) ⟨(HT.out hg3 hb3).1, ?_⟩
          simp only [List.setIfInBounds_toArray, List.set_cons_succ, List.set_cons_zero]
          refine takeD (i := 9) (d := 18) (v := .pointer (some ⟨p, 0, none⟩)) (fuel := 2) rfl rfl (by kernel_rfl) (by kernel_rfl) (by kernel_rfl) (fun _ _ _ h => by cases h.1) (.inl ⟨by kernel_rfl, fun _ _ => by go_simp⟩) (HT.out hg3 hb3).1 ?_
          simp only [List.setIfInBounds_toArray, List.set_cons_succ, List.set_cons_zero]
          refine takeD (i := 10) (d := 19) (v := .pointer (some ⟨p, 1, none⟩)) (fuel := 1) rfl rfl (by kernel_rfl) (by kernel_rfl) (by kernel_rfl) (fun _ _ _ h => by cases h.1) (.inl ⟨by kernel_rfl, fun _ _ => by go_simp⟩) (HT.out hg3 hb3).1 ?_
          simp only [List.setIfInBounds_toArray, List.set_cons_succ, List.set_cons_zero]
          refine wpAnyH_all (fuel := 0) (rs := [11]) (by kernel_rfl) (by decide) ?_
          refine List.forall_mem_singleton.2 ?_
          obtain ⟨q0, q1, q2⟩ := HT.out hg3 hb3
          refine wpOp_skip (i := 11) rfl rfl (by kernel_rfl) (w' := w3.setCell ⟨p, 1, none⟩ (.slice na (ml + 1) nc)) (by go_simp) ⟨HS2.out q0, ?_⟩
          simp only [List.setIfInBounds_toArray, List.set_cons_succ, List.set_cons_zero]
          refine wpAnyH_done (by kernel_rfl) ?_ _
          exact ⟨rfl, (.agg #[.int .i64 ei, .bool eu, .int .i64 et, .bool eb, .int .i64 ek, .slice va es.length vc], .slice (some ⟨w2.heap.size, 0, none⟩) 1 1, .slice na (ml + 1) nc), by kernel_rfl, HE.out hb2 ho2 ho3 hg3 hat3⟩
        · obtain ⟨va, vc, rfl⟩ := ho2.slice
          refine wpOp_value (i := 7) (d := 16) (v := .slice (some ⟨w2.heap.size, 0, none⟩) 1 1) (w' := w2.alloc (.cells #[.int .i64 ei, .bool eu, .int .i64 et, .bool eb, .int .i64 ek, .slice va es.length vc] 37)) rfl rfl (by kernel_rfl) (by go_simp) ⟨HS.out _ (hb2.alloc hb2.size _), ?_⟩
          simp only [List.setIfInBounds_toArray, List.set_cons_succ, List.set_cons_zero]
          have hb3 : Below w1.heap.size w1 (w2.alloc (.cells #[.int .i64 ei, .bool eu, .int .i64 et, .bool eb, .int .i64 ek, .slice va es.length vc] 37)) := hb2.alloc hb2.size _
          refine wpAnyH_all (fuel := 4) (rs := [4]) (by kernel_rfl) (by decide) ?_
          refine List.forall_mem_singleton.2 ?_
          refine wpOp_value (i := 4) (d := 13) (v := .slice ra ml rc) rfl rfl (by kernel_rfl) (by have y0 := cell_later hb3 c1; go_simp) ⟨HS.out _ hb3, ?_⟩
          simp only [List.setIfInBounds_toArray, List.set_cons_succ, List.set_cons_zero]
          obtain ⟨na, nc, w3, hrun, ho3, hg3, hat3⟩ := HAP.out va vc w2 hb2
          refine wpAnyH_all (fuel := 3) (rs := [8]) (by kernel_rfl) (by decide) ?_
          refine List.forall_mem_singleton.2 ?_
          refine wpOp_value (i := 8) (d := 17) (v := .slice na (ml + 1) nc) (w' := w3) rfl rfl (by kernel_rfl) (exec_append rfl rfl rfl hrun) ⟨(HT.out hg3 hb3).1, ?_⟩
          simp only [List.setIfInBounds_toArray, List.set_cons_succ, List.set_cons_zero]
          refine takeD (i := 9) (d := 18) (v := .pointer (some ⟨p, 0, none⟩)) (fuel := 2) rfl rfl (by kernel_rfl) (by kernel_rfl) (by kernel_rfl) (fun _ _ _ h => by cases h.1) (.inl ⟨by kernel_rfl, fun _ _ => by go_simp⟩) (HT.out hg3 hb3).1 ?_
          simp only [List.setIfInBounds_toArray, List.set_cons_succ, List.set_cons_zero]
          refine takeD (i := 10) (d := 19) (v := .pointer (some ⟨p, 1, none⟩)) (fuel := 1) rfl rfl (by kernel_rfl) (by kernel_rfl) (by kernel_rfl) (fun _ _ _ h => by cases h.1) (.inl ⟨by kernel_rfl, fun _ _ => by go_simp⟩) (HT.out hg3 hb3).1 ?_
          simp only [List.setIfInBounds_toArray, List.set_cons_succ, List.set_cons_zero]
          refine wpAnyH_all (fuel := 0) (rs := [11]) (by kernel_rfl) (by decide) ?_
          refine List.forall_mem_singleton.2 ?_
          obtain ⟨q0, q1, q2⟩ := HT.out hg3 hb3
          refine wpOp_skip (i := 11) rfl rfl (by kernel_rfl) (w' := w3.setCell ⟨p, 1, none⟩ (.slice na (ml + 1) nc)) (by go_simp) ⟨HS2.out q0, ?_⟩
          simp only [List.setIfInBounds_toArray, List.set_cons_succ, List.set_cons_zero]
          refine wpAnyH_done (by kernel_rfl) ?_ _
          exact ⟨rfl, (.agg #[.int .i64 ei, .bool eu, .int .i64 et, .bool eb, .int .i64 ek, .slice va es.length vc], .slice (some ⟨w2.heap.size, 0, none⟩) 1 1, .slice na (ml + 1) nc), by kernel_rfl, HE.out hb2 ho2 ho3 hg3 hat3⟩
    · rintro z w9 hF
      have HF : Hid _ := hF
      clear hF HE HS2 HT HAP HS HA
      simp only [setAll, List.setIfInBounds_toArray, List.set_cons_succ, List.set_cons_zero]
      go_wp2_with fail
      go_ret
      exact ⟨0, rfl, rfl, HF.out⟩

set_option maxHeartbeats 2000000 in
theorem push_any (T : Nat → Prop) (w : World) (p : Nat) (L : List Jb) (e : Jb) (sv : Value) (h : DQ T w p L) (hl : L.length ≤ 1000000) (hs : RI w sv e.s) (hes : e.s.length ≤ 1000000) :
    Calls Try.prog 41 #[.pointer (some ⟨p, 0, none⟩), JV e sv] w fun x w' => x = .returned (.int .i64 (pushP L e).1) ∧ WD T w p (pushP L e).2 w' := by
  obtain ⟨v, M, hv, rfl⟩ := h
  rw [List.length_map] at hl
  have hmade : ∀ wx, Below w.heap.size w wx → wx.cell? ⟨p, 0, none⟩ = some (.bool true) := fun wx hb => (cell_row (row_later hv.blk hb) 0).trans rfl
  obtain ⟨sa, sc, hsv, _⟩ := id hs
  have HC : Hid (∀ w1 bd bj, Below w.heap.size w w1 → w1.heap[bd]? = some (.cells #[.pointer (some ⟨p, 0, none⟩)] 53 (0, 0)) → w1.heap[bj]? = some (.cells (jrow (e, sv)).toArray 37 (0, 0)) → w.heap.size ≤ bd → w.heap.size ≤ bj → Calls Try.prog 56 #[.pointer (some ⟨p, 0, none⟩), .func (.func 57) #[] #[.pointer (some ⟨bd, 0, none⟩), .pointer (some ⟨bj, 0, none⟩)]] w1 fun x w' => ∃ k : Int, x = .returned (.int .i64 k) ∧ k = (pushP (M.map Prod.fst) e).1 ∧ WD T w p (pushP (M.map Prod.fst) e).2 w') := fun w1 bd bj hb h1 h2 h3 h4 =>
    call_any p 57 #[] _ w1 _ (hmade w1 hb) ent57 (push1_any T w w1 p bd bj v sv M e hv hb h1 h2 h3 h4 (hs.later hb) hes hl)
  have hmf : ∀ (fn : Fn) (first cap : Array Value) (w : World), (Instr.makeFunc fn first cap).run Try.prog w = .ok (.func fn first cap) w := fun _ _ _ _ => rfl
  obtain ⟨r, hr⟩ : ∃ r, Hid (pushP (M.map Prod.fst) e = r) := ⟨_, rfl⟩
  rw [hr.out] at HC ⊢
  obtain ⟨ei, eu, et, eb, ek, es⟩ := e
  subst hsv
  have HR1 : Hid (((w.alloc (.cells #[.pointer (some ⟨p, 0, none⟩)] 53)).alloc (.cells #[.int .i64 ei, .bool eu, .int .i64 et, .bool eb, .int .i64 ek, .slice sa es.length sc] 37)).heap[w.heap.size]? = _) := row_new1 w _ _
  have HR2 : Hid (((w.alloc (.cells #[.pointer (some ⟨p, 0, none⟩)] 53)).alloc (.cells #[.int .i64 ei, .bool eu, .int .i64 et, .bool eb, .int .i64 ek, .slice sa es.length sc] 37)).heap[w.heap.size + 1]? = _) := row_new2 w _ _
  unfold JV
  dsimp only at *
  generalize es.length = sl at *
  clear hs hv hmade
  go_enter Try.func41, Try.ntmps41
  go_wp2_with fail
  refine Calls.mono (HC.out _ w.heap.size (w.heap.size + 1) (bl2 _ _ _) HR1.out HR2.out (Nat.le_refl _) (by omega)) ?_
  rintro x w2 ⟨k, rfl, rfl, hw⟩
  have HW : Hid _ := hw
  clear hw HC HR1 HR2
  go_wp2_with fail
  go_ret
  exact ⟨rfl, HW.out⟩

end Go.Proofs.Ytfhmmiilenonkaa
