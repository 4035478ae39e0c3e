/- The walk over the document's Split. -/
import Derived.Test.YtamfpmpooaejkaaNn
namespace Go.Proofs.Ytamfpmpooaejkaa
open Go.RowKit Go.Shelf
set_option maxRecDepth 1000000
set_option linter.unusedVariables false

/-- A region that draws, ended the same way in all its orders, and nothing behind it in its block. -/
theorem region_last {P : Program} {id : Nat} {ops : Array Oper} {dr : Bool} {Q : Exit → Act → World → Prop} {a : Act} {w : World} (L : List (Nat × Value)) (w2 : World)
    (h : (Code.region id ops dr).wp P (fun e a' w' => e = .normal ∧ a' = { tmps := setAll a.tmps L, defers := a.defers } ∧ w' = w2) a w)
    (h2 : Q .normal { tmps := setAll a.tmps L, defers := a.defers } w2) : (Code.region id ops dr).wp P Q a w := by
  refine wp_mono h ?_
  rintro e a' w' ⟨rfl, rfl, rfl⟩
  exact h2

/-- What the document's Split has when k events are told. -/
structure RsS (B : Nat) (w0 : World) (n : Nat) (xs : List (Nat × EvP)) (k : Nat) (W : World) : Prop where
  rows : ∃ vs, RwR (B + 1) B W (fun _ => False) vs (partsK n xs k)
  bel : Below w0.heap.size w0 W
  low : w0.heap.size ≤ B
  le : B + 1 ≤ W.heap.size

theorem RsS.push {B : Nat} {w0 : World} {n : Nat} {xs : List (Nat × EvP)} {k : Nat} {W : World} (h : RsS B w0 n xs k W) {i : Nat} {e : Ev} {sv : Value} (hx : xs[k]? = some (i, (e, sv))) (hin : i < n) (hkl : k ≤ 1000000) (sa : Option Addr) (sc : Nat) (hri : RI w0 (.slice sa e.s.length sc) e.s) (hes : e.s.length ≤ 1000000) :
    ∃ (vs : List Value) (va : Option Addr) (vn vc : Nat) (ua : Option Addr) (um uc : Nat) (W3 : World), W.heap[B]? = some (.cells vs.toArray 25 (0, 0)) ∧ vs[i]? = some (.slice va vn vc) ∧ (Builtin.append_ #[25, 25] 25 #[.slice va vn vc, .slice (some ⟨W.heap.size, 0, none⟩) 1 1]).run Try.prog (W.alloc (.cells #[.int .i64 e.k, .int .i64 e.i, .int .i64 e.t, .slice sa e.s.length sc] 45)) = .ok (.slice ua um uc) W3 ∧
      W3.heap[B]? = some (.cells vs.toArray 25 (0, 0)) ∧ Below w0.heap.size w0 W3 ∧ RsS B w0 n xs (k + 1) (W3.setCell ⟨B, i, none⟩ (.slice ua um uc)) ∧ Below B W (W3.setCell ⟨B, i, none⟩ (.slice ua um uc)) := by
  obtain ⟨vs, h1⟩ := h.rows
  have hle := h.le
  have hlow := h.low
  have hil : i < vs.length := by rw [h1.len, partsK_len]; exact hin
  obtain ⟨v, hv⟩ : ∃ v, vs[i]? = some v := ⟨_, List.getElem?_eq_getElem hil⟩
  obtain ⟨va, vc, rfl⟩ := (h1.logs i v _ hv (partsK_get hin)).slice
  obtain ⟨ua, um, uc, W3, q1, q2, q3, q4, q5⟩ := h1.push (fun b hb => hb.elim) hle B (by omega) (Nat.le_refl _) (Below.refl _ _) hv (partsK_get hin) (by
      rw [List.length_map]
      refine Nat.le_trans (List.length_filter_le _ _) ?_
      rw [List.length_take]
      omega) e sa sc (hri.later h.bel) hes (fun b hb hl => by
      subst hb
      have hb1 := hri.blk hl
      have hb2 := h.bel.size
      exact ⟨by omega, id, by omega, fun j u hu hub => by have := (h1.own hu hub).1; omega⟩)
  have hb3 : Below w0.heap.size w0 W3 := by
    have hz := q4.size
    rw [World.size_setCell] at hz
    have hz0 := h.bel.size
    refine ⟨q4.os.trans h.bel.os, q4.tape.trans h.bel.tape, q4.output.trans h.bel.output, by omega, fun b hb => (q2 b (by omega) (fun u hu hub => ?_)).trans (h.bel.block b hb)⟩
    have := (h1.own hu hub).1
    omega
  refine ⟨vs, va, _, vc, ua, um, uc, W3, h1.row, hv, q1, q3, hb3, ⟨⟨vs.set i (.slice ua um uc), ?_⟩, h.bel.trans (q4.below.mono hlow), hlow, Nat.le_trans hle q4.size⟩, q4.below⟩
  rw [partsK_succ hx hin]
  exact q5

set_option maxHeartbeats 8000000 in
theorem rsplit_in (hv : Value) (Hs : List EvP) (n : Nat) (w : World) (hh : REv w hv Hs) (hL1 : 1 ≤ n) (hL : n ≤ 64) (hHs : Hs.length ≤ 100000) (hyes : histB (n : Int) Hs = true) :
    Calls Try.prog 17 #[hv, .int .i64 (n : Int)] w fun e w' => SplitC n (ptN (n : Int) Hs) w e w' := by
  unfold SplitC
  have HBR : Hid _ := branches_any hv Hs (n : Int) w hh hHs
  rw [hyes] at HBR
  have HAT : Hid (∀ x ∈ ptN (n : Int) Hs, x.1 < n ∧ x.2.1.s.length = n) := fun x hx => pt_lt (n := n) Hs _ (by simp) x hx
  have HLE : Hid ((ptN (n : Int) Hs).length = Hs.length) := by
    show (ptN (n : Int) Hs).length = Hs.length
    unfold histB at hyes
    rw [Bool.and_eq_true] at hyes
    exact of_decide_eq_true hyes.2
  have HPE : Hid ((ptN (n : Int) Hs).map Prod.snd = Hs.take (ptN (n : Int) Hs).length) := pt_ev _ _ _
  obtain ⟨ha, hc, rfl, q1, q2, hcs⟩ := hh
  have HCS : Hid _ := hcs
  obtain ⟨xs, HX⟩ : ∃ xs, Hid (xs = ptN (n : Int) Hs) := ⟨_, rfl⟩
  rw [← HX.out] at HAT HLE HBR HPE ⊢
  obtain ⟨m, HM⟩ : ∃ m, Hid (Hs.length = m) := ⟨_, rfl⟩
  rw [HM.out] at HLE HBR hHs q1 ⊢
  have HXK : Hid (∀ (k : Nat) (p : EvP), Hs[k]? = some p → k < m → ∃ i : Nat, xs[k]? = some (i, p)) := fun k p hp hk => by
    have h1 : (xs.map Prod.snd)[k]? = some p := by rw [HPE.out, HLE.out, List.getElem?_take, if_pos hk]; exact hp
    rw [List.getElem?_map] at h1
    obtain ⟨x, hx, rfl⟩ := Option.map_eq_some_iff.1 h1
    exact ⟨x.1, hx⟩
  clear hcs HX hyes HPE
  obtain ⟨C, HC, hmk⟩ := make_rows n hL
  go_enter Try.func17, Try.ntmps17
  go_wp2_with fail
  refine Calls.mono HBR.out ?_
  rintro y w1 ⟨bv, bm, bc, rfl, hbr, hb1⟩
  obtain ⟨hbm, hbri⟩ := hbr trivial
  have hbm2 : bm = m := hbm.trans HLE.out
  subst hbm2
  have HBI : Hid _ := hbri
  have HB1 : Hid (Below w.heap.size w w1) := hb1
  have H0 : Hid (RsS w1.heap.size w n xs 0 (w1.alloc (.cells C 25))) := by
    refine ⟨⟨List.replicate n (.slice none 0 0), ?_⟩, hb1.alloc hb1.size _, hb1.size, by simp⟩
    rw [partsK_zero]
    exact RwR.init _ _ _ _ n (by rw [row_new, HC.out]) id
  have HBW : Hid (Below w1.heap.size w1 (w1.alloc (.cells C 25))) := (Below.refl _ _).alloc (Nat.le_refl _) _
  have HRI1 : Hid (RI w1 (.slice bv bm bc) (hadZ (brsK xs xs.length))) := by
    have := HBI.out
    exact this
  clear hbr hbri hb1 HBR hbm HBI
  go_wp2_with fail
  obtain ⟨B, HBe⟩ : ∃ B, Hid (w1.heap.size = B) := ⟨_, rfl⟩
  rw [HBe.out] at H0 ⊢
  generalize w1.alloc (.cells C 25) = wa at *
  clear hmk HC
  have H0 : Hid (RsS B w n xs 0 wa) := H0.out
  go_loopw [9] (fun iv wr => ∃ k : Nat, k ≤ bm ∧ iv = .int .i64 k ∧ Hid (RsS B w n xs k wr) ∧ Hid (Below B w1 wr)) (fun iv _ => bm - (intOf iv).toNat)
  case atStart => exact ⟨0, Nat.zero_le _, rfl, H0, by have h9 := HBW.out; rw [HBe.out] at h9; exact h9⟩
  case round =>
    obtain ⟨k, hk, rfl, HS, HBB⟩ := hrel
    rename World => w2
    clear H0 HBW
    by_cases hlt : k < bm
    · obtain ⟨p, hp⟩ : ∃ p, Hs[k]? = some p := ⟨_, List.getElem?_eq_getElem (by rw [HM.out]; exact hlt)⟩
      obtain ⟨i, hxk⟩ := HXK.out k p hp hlt
      obtain ⟨eb, eo, rfl, e0, e1, e2, e3, e4⟩ := HCS.out k p hp
      obtain ⟨hil, hsl⟩ := HAT.out _ (List.mem_of_getElem? hxk)
      obtain ⟨e, sv⟩ := p
      dsimp only at *
      obtain ⟨sa, sc, rfl⟩ : ∃ sa sc, sv = .slice sa e.s.length sc := by obtain ⟨a, c, h, _⟩ := e4; exact ⟨a, c, h⟩
      obtain ⟨ba, bcap, hbv, _, _, hbc⟩ := HRI1.out
      simp only [Value.slice.injEq] at hbv
      obtain ⟨rfl, hbl, rfl⟩ := hbv
      obtain ⟨bb, bo, rfl, cb⟩ := hbc k (by rw [← hbl]; exact hlt)
      rw [hadZ_get] at cb
      have hbk : (brsK xs xs.length).getD k 0 = i := by
        unfold brsK
        rw [List.take_length, List.getD_eq_getElem?_getD, List.getElem?_map, hxk]
        rfl
      rw [hbk] at cb
      have db := cell_later (w := w1) (wx := w2) (by rw [HBe.out]; exact HBB.out) cb
      have hSd : RsS B w n xs k w2.drew := by
        obtain ⟨vs, h1⟩ := HS.out.rows
        exact ⟨⟨vs, h1.mv (Mv.drew _ _)⟩, HS.out.bel.drew, HS.out.low, HS.out.le⟩
      obtain ⟨vs, va, vn, vc, ua, um, uc, W4, hrow, hvi, hr4, hrw4, hb4, hS9, hBB9⟩ := hSd.push hxk hil (by omega) sa sc e4 (by rw [hsl]; omega)
      have hcg : w2.drew.cell? ⟨B, i, none⟩ = some (.slice va vn vc) := by rw [cell_row hrow, List.getElem?_toArray]; exact hvi
      have hc4 : W4.cell? ⟨B, i, none⟩ = some (.slice va vn vc) := by rw [cell_row hrw4, List.getElem?_toArray]; exact hvi
      have hf4 : W4.frozen? ⟨B, i, none⟩ = false := froz_row hrw4 i
      have hS0 : Below w.heap.size w w2.drew := hSd.bel
      have hS1 : Below w.heap.size w (w2.drew.alloc (.cells #[.int .i64 e.k, .int .i64 e.i, .int .i64 e.t, .slice sa e.s.length sc] 45)) := hS0.alloc hS0.size _
      have hS4 : Below w.heap.size w W4 := hb4
      have hS5 : Below w.heap.size w (W4.setCell ⟨B, i, none⟩ (.slice ua um uc)) := hS9.bel
      have HBB9 : Hid (Below B w1 (W4.setCell ⟨B, i, none⟩ (.slice ua um uc))) := HBB.out.drew.trans hBB9
      have HS9 : Hid _ := hS9
      have HE0 : Hid _ := e0
      have HE1 : Hid _ := e1
      have HE2 : Hid _ := e2
      have HE3 : Hid _ := e3
      have hin : (i : Int) < (n : Int) := by omega
      have hkm : (k : Int) < (bm : Int) := by omega
      have hcg2 : (w2.drew.alloc (.cells #[.int .i64 e.k, .int .i64 e.i, .int .i64 e.t, .slice sa e.s.length sc] 45)).cell? ⟨B, i, none⟩ = some (.slice va vn vc) := cell_later ((Below.refl w2.drew.heap.size w2.drew).alloc (Nat.le_refl _) _) hcg
      clear hp hxk e0 e1 e2 e3 e4 hbc cb hbk hvi hrow hrw4 hb4 hS9 hBB9
      clear hSd hsl
      go_wp2_with fail
      refine region_last [(31, (.slice (some ⟨B, 0, none⟩) n n)), (32, .int .i64 (i : Int)), (33, (.slice (some ⟨B, 0, none⟩) n n)), (34, .int .i64 (i : Int)), (35, .pointer (some ⟨B, i, none⟩)), (36, .slice va vn vc), (37, .slice (some ⟨eb, eo, none⟩) bm hc), (38, .int .i64 (k : Int)), (39, .pointer (some ⟨eb, eo + k * 4, none⟩)), (40, .agg #[.int .i64 e.k, .int .i64 e.i, .int .i64 e.t, .slice sa e.s.length sc]), (41, .slice (some ⟨w2.drew.heap.size, 0, none⟩) 1 1), (42, .slice ua um uc), (43, .pointer (some ⟨B, i, none⟩))] (W4.setCell ⟨B, i, none⟩ (.slice ua um uc)) ?_ ?_
      · refine wp_region_held (S := fun wx => Below w.heap.size w wx) (by kernel_rfl) ?_
        obtain ⟨wd, hwd⟩ : ∃ wd, wd = w2.drew := ⟨_, rfl⟩
        rw [← hwd] at hS0 hS1 hcg hcg2 hr4 ⊢
        show wpAnyH Try.prog .any _ _ _ _ _ _ w2.drew
        rw [← hwd]
        clear hwd
        simp only [List.size_toArray, List.length_cons, List.length_nil, Nat.reduceAdd, Array.replicate_succ, Array.replicate_zero, List.push_toArray, List.nil_append, List.cons_append]
        refine takeD (i := 0) (d := 31) (v := (.slice (some ⟨B, 0, none⟩) n n)) (fuel := 13) rfl rfl (by kernel_rfl) (by kernel_rfl) (by kernel_rfl) (fun _ _ _ h => by cases h.1) (.inl ⟨by kernel_rfl, fun _ _ => by kernel_rfl⟩) hS0 ?_
        simp only [List.setIfInBounds_toArray, List.set_cons_succ, List.set_cons_zero]
        refine takeD (i := 1) (d := 32) (v := .int .i64 (i : Int)) (fuel := 12) rfl rfl (by kernel_rfl) (by kernel_rfl) (by kernel_rfl) (fun _ _ _ h => by cases h.1) (.inl ⟨by kernel_rfl, fun _ _ => by kernel_rfl⟩) hS0 ?_
        simp only [List.setIfInBounds_toArray, List.set_cons_succ, List.set_cons_zero]
        refine takeD (i := 2) (d := 33) (v := (.slice (some ⟨B, 0, none⟩) n n)) (fuel := 11) rfl rfl (by kernel_rfl) (by kernel_rfl) (by kernel_rfl) (fun _ _ _ h => by cases h.1) (.inl ⟨by kernel_rfl, fun _ _ => by kernel_rfl⟩) hS0 ?_
        simp only [List.setIfInBounds_toArray, List.set_cons_succ, List.set_cons_zero]
        refine takeD (i := 3) (d := 34) (v := .int .i64 (i : Int)) (fuel := 10) rfl rfl (by kernel_rfl) (by kernel_rfl) (by kernel_rfl) (fun _ _ _ h => by cases h.1) (.inl ⟨by kernel_rfl, fun _ _ => by kernel_rfl⟩) hS0 ?_
        simp only [List.setIfInBounds_toArray, List.set_cons_succ, List.set_cons_zero]
        refine takeD (i := 4) (d := 35) (v := .pointer (some ⟨B, i, none⟩)) (fuel := 9) rfl rfl (by kernel_rfl) (by kernel_rfl) (by kernel_rfl) (fun _ _ _ h => by cases h.1) (.inl ⟨by kernel_rfl, fun _ _ => by go_simp⟩) hS0 ?_
        simp only [List.setIfInBounds_toArray, List.set_cons_succ, List.set_cons_zero]
        refine takeD (i := 6) (d := 37) (v := .slice (some ⟨eb, eo, none⟩) bm hc) (fuel := 8) rfl rfl (by kernel_rfl) (by kernel_rfl) (by kernel_rfl) (fun _ _ _ h => by cases h.1) (.inl ⟨by kernel_rfl, fun _ _ => by kernel_rfl⟩) hS0 ?_
        simp only [List.setIfInBounds_toArray, List.set_cons_succ, List.set_cons_zero]
        refine takeD (i := 7) (d := 38) (v := .int .i64 (k : Int)) (fuel := 7) rfl rfl (by kernel_rfl) (by kernel_rfl) (by kernel_rfl) (fun _ _ _ h => by cases h.1) (.inl ⟨by kernel_rfl, fun _ _ => by kernel_rfl⟩) hS0 ?_
        simp only [List.setIfInBounds_toArray, List.set_cons_succ, List.set_cons_zero]
        refine takeD (i := 8) (d := 39) (v := .pointer (some ⟨eb, eo + k * 4, none⟩)) (fuel := 6) rfl rfl (by kernel_rfl) (by kernel_rfl) (by kernel_rfl) (fun _ _ _ h => by cases h.1) (.inl ⟨by kernel_rfl, fun _ _ => by go_simp⟩) hS0 ?_
        simp only [List.setIfInBounds_toArray, List.set_cons_succ, List.set_cons_zero]
        refine takeD (i := 9) (d := 40) (v := .agg #[.int .i64 e.k, .int .i64 e.i, .int .i64 e.t, .slice sa e.s.length sc]) (fuel := 5) rfl rfl (by kernel_rfl) (by kernel_rfl) (by kernel_rfl) (fun _ _ _ h => by cases h.1) (.inl ⟨by kernel_rfl, fun w9 hw9 => by have z0 := cell_later hw9 HE0.out; have z1 := cell_later hw9 HE1.out; have z2 := cell_later hw9 HE2.out; have z3 := cell_later hw9 HE3.out; go_simp⟩) hS0 ?_
        simp only [List.setIfInBounds_toArray, List.set_cons_succ, List.set_cons_zero]
        refine wpAnyH_all (fuel := 4) (rs := [5, 10]) (by kernel_rfl) (by decide) ?_
        refine List.forall_mem_cons.2 ⟨?_, List.forall_mem_singleton.2 ?_⟩
        · refine wpOp_value (i := 5) (d := 36) (v := .slice va vn vc) (w' := wd) rfl rfl (by kernel_rfl) (by go_simp) ?_
          refine ⟨hS0, ?_⟩
          simp only [List.setIfInBounds_toArray, List.set_cons_succ, List.set_cons_zero]
          refine wpAnyH_all (fuel := 3) (rs := [10]) (by kernel_rfl) (by decide) (List.forall_mem_singleton.2 ?_)
          refine wpOp_value (i := 10) (d := 41) (v := .slice (some ⟨wd.heap.size, 0, none⟩) 1 1) (w' := wd.alloc (.cells #[.int .i64 e.k, .int .i64 e.i, .int .i64 e.t, .slice sa e.s.length sc] 45)) rfl rfl (by kernel_rfl) (by go_simp) ?_
          refine ⟨hS1, ?_⟩
          simp only [List.setIfInBounds_toArray, List.set_cons_succ, List.set_cons_zero]
          refine wpAnyH_all (fuel := 2) (rs := [11]) (by kernel_rfl) (by decide) (List.forall_mem_singleton.2 ?_)
          refine wpOp_value (i := 11) (d := 42) (v := .slice ua um uc) (w' := W4) rfl rfl (by kernel_rfl) (by simp [execOp, resolve, invoke, builtin, hr4, Result.andThen, Act.eval]) ?_
          refine ⟨hS4, ?_⟩
          simp only [List.setIfInBounds_toArray, List.set_cons_succ, List.set_cons_zero]
          refine wpAnyH_all (fuel := 1) (rs := [12]) (by kernel_rfl) (by decide) (List.forall_mem_singleton.2 ?_)
          refine wpOp_value (i := 12) (d := 43) (v := .pointer (some ⟨B, i, none⟩)) (w' := W4) rfl rfl (by kernel_rfl) (by go_simp) ?_
          refine ⟨hS4, ?_⟩
          simp only [List.setIfInBounds_toArray, List.set_cons_succ, List.set_cons_zero]
          refine wpAnyH_all (fuel := 0) (rs := [13]) (by kernel_rfl) (by decide) (List.forall_mem_singleton.2 ?_)
          refine wpOp_skip (i := 13) (w' := W4.setCell ⟨B, i, none⟩ (.slice ua um uc)) rfl rfl (by kernel_rfl) (by go_simp) ?_
          refine ⟨hS5, by kernel_rfl, ?_⟩
          exact ⟨rfl, by kernel_rfl, rfl⟩
        · refine wpOp_value (i := 10) (d := 41) (v := .slice (some ⟨wd.heap.size, 0, none⟩) 1 1) (w' := wd.alloc (.cells #[.int .i64 e.k, .int .i64 e.i, .int .i64 e.t, .slice sa e.s.length sc] 45)) rfl rfl (by kernel_rfl) (by go_simp) ?_
          refine ⟨hS1, ?_⟩
          simp only [List.setIfInBounds_toArray, List.set_cons_succ, List.set_cons_zero]
          refine wpAnyH_all (fuel := 3) (rs := [5]) (by kernel_rfl) (by decide) (List.forall_mem_singleton.2 ?_)
          refine wpOp_value (i := 5) (d := 36) (v := .slice va vn vc) (w' := wd.alloc (.cells #[.int .i64 e.k, .int .i64 e.i, .int .i64 e.t, .slice sa e.s.length sc] 45)) rfl rfl (by kernel_rfl) (by go_simp) ?_
          refine ⟨hS1, ?_⟩
          simp only [List.setIfInBounds_toArray, List.set_cons_succ, List.set_cons_zero]
          refine wpAnyH_all (fuel := 2) (rs := [11]) (by kernel_rfl) (by decide) (List.forall_mem_singleton.2 ?_)
          refine wpOp_value (i := 11) (d := 42) (v := .slice ua um uc) (w' := W4) rfl rfl (by kernel_rfl) (by simp [execOp, resolve, invoke, builtin, hr4, Result.andThen, Act.eval]) ?_
          refine ⟨hS4, ?_⟩
          simp only [List.setIfInBounds_toArray, List.set_cons_succ, List.set_cons_zero]
          refine wpAnyH_all (fuel := 1) (rs := [12]) (by kernel_rfl) (by decide) (List.forall_mem_singleton.2 ?_)
          refine wpOp_value (i := 12) (d := 43) (v := .pointer (some ⟨B, i, none⟩)) (w' := W4) rfl rfl (by kernel_rfl) (by go_simp) ?_
          refine ⟨hS4, ?_⟩
          simp only [List.setIfInBounds_toArray, List.set_cons_succ, List.set_cons_zero]
          refine wpAnyH_all (fuel := 0) (rs := [13]) (by kernel_rfl) (by decide) (List.forall_mem_singleton.2 ?_)
          refine wpOp_skip (i := 13) (w' := W4.setCell ⟨B, i, none⟩ (.slice ua um uc)) rfl rfl (by kernel_rfl) (by go_simp) ?_
          refine ⟨hS5, by kernel_rfl, ?_⟩
          exact ⟨rfl, by kernel_rfl, rfl⟩
      · simp only [setAll, List.setIfInBounds_toArray, List.set_cons_succ, List.set_cons_zero]
        clear hr4 hc4 hf4 hcg hcg2 hS0 hS1 hS4 hS5 db
        go_wp2_with fail
        go_roundw
        case rel => exact ⟨k + 1, by omega, by go_num, HS9, HBB9⟩
        case measure => simp [intOf]; omega
    · obtain rfl : bm = k := by omega
      obtain ⟨vs, hrw⟩ := HS.out.rows
      have hrr := hrw.rre (by rw [partsK_len]; exact hL)
      rw [partsK_len] at hrr
      have HRR : Hid _ := hrr
      clear hrr hrw
      go_wp2_with fail
      go_ret2
      rw [HLE.out]
      exact ⟨some ⟨B, 0, none⟩, rfl, HRR.out.1, HRR.out.2, HS.out.bel⟩

theorem rsplit_no (hv : Value) (Hs : List EvP) (n : Int) (w : World) (hh : REv w hv Hs) (hHs : Hs.length ≤ 100000) (hno : histB n Hs = false) :
    Calls Try.prog 17 #[hv, .int .i64 n] w fun e w' => e = .returned (.tuple #[.slice none 0 0, .int .i64 2]) ∧ Below w.heap.size w w' := by
  have HBR : Hid _ := branches_any hv Hs n w hh hHs
  rw [hno] at HBR
  obtain ⟨ha, hc, rfl⟩ := hh.slice
  clear hh
  generalize Hs.length = m at *
  go_enter Try.func17, Try.ntmps17
  go_wp2_with fail
  refine Calls.mono HBR.out ?_
  rintro e w1 ⟨v, bm, c, rfl, _, hb1⟩
  have HB1 : Hid _ := hb1
  clear hb1 HBR
  go_wp2_with fail
  go_ret2
  exact ⟨rfl, HB1.out⟩
end Go.Proofs.Ytamfpmpooaejkaa
