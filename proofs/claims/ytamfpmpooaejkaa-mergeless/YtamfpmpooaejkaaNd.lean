/- What is known while a merge goes on. -/
import Derived.Test.YtamfpmpooaejkaaNc
namespace Go.Proofs.Ytamfpmpooaejkaa
open Go.RowKit Go.Shelf
set_option maxRecDepth 1000000
set_option linter.unusedVariables false
attribute [local go_sem] Oper.semAt_some

theorem make_ints (n : Nat) (hn : n ≤ 64) : ∃ C : Array Value, Hid (C = (ivs (List.replicate n 0)).toArray) ∧ ∀ wx : World, (Instr.makeSlice 26 (.int .i64 (n : Int)) (.int .i64 (n : Int))).run Try.prog wx = .ok (.slice (some ⟨wx.heap.size, 0, none⟩) n n) (wx.alloc (.cells C 3)) := by
  obtain ⟨i0, hi0, hz0, hz1, hz2⟩ := info_parts Try.info3
  refine ⟨_, rfl, fun wx => ?_⟩
  have hmk := run_make (P := Try.prog) wx 26 3 i0 _ Try.underlying26 hi0 hz0 .i64 .i64 (n : Int) (n : Int) (by omega) (by omega) (by rw [hz2]; omega) (by omega)
  simp only [hz1, Int.toNat_natCast, Nat.mul_one] at hmk
  rw [hmk, ← made_zero]
  rfl

/-- A stamp of an event that came in. -/
theorem RREv.ri {w : World} {v : Value} {L : List (List EvP)} (h : RREv w v L) {i j : Nat} {p : EvP} (hp : (L.getD i [])[j]? = some p) : RI w p.2 p.1.s := by
  obtain ⟨a, cap, rfl, _, _, hc⟩ := h
  have hi : i < L.length := by
    apply Classical.byContradiction
    intro hi
    have h0 : L.getD i [] = [] := by rw [List.getD_eq_getElem?_getD, List.getElem?_eq_none (by omega)]; rfl
    rw [h0] at hp
    simp at hp
  obtain ⟨b, off, sv, _, _, a', cap', _, _, _, hc'⟩ := hc i _ (getD_rows hi)
  obtain ⟨b', off', _, _, _, _, _, hr⟩ := hc' j p hp
  exact hr

/-- What is left of the iterator when it is left. -/
structure XSt (Ws : World) (T TJ TB : Nat → Prop) (Ds : List Nat) (W : World) : Prop where
  mks : Marks (fun b => TJ b ∧ ¬ TB b) W Ds
  sub : ∀ b, TB b → TJ b
  own : ∀ b, TJ b → b < W.heap.size
  old : ∀ b, b < Ws.heap.size → (TJ b ↔ T b)
  sz : Ws.heap.size ≤ W.heap.size

structure MSt (A Y H R : Nat) (lv : Value) (n l : Nat) (w0 Ws : World) (T TJ TB : Nat → Prop) (had Ds : List Nat) (W : World) : Prop where
  ba : Boxed W A 22 lv
  bY : Boxed W Y 62 (.func (.yield l) #[] #[])
  bH : Boxed W H 26 (.slice (some ⟨R, 0, none⟩) n n)
  row : RowI W R (hadZ had)
  tA : TJ A
  tY : TJ Y
  tH : TJ H
  tR : TJ R
  nA : ¬ TB A
  nY : ¬ TB Y
  nH : ¬ TB H
  nR : ¬ TB R
  rA : A ≠ R
  rY : Y ≠ R
  rH : H ≠ R
  bel : Below w0.heap.size w0 W
  low : ∀ b, TJ b → w0.heap.size ≤ b
  x : XSt Ws T TJ TB Ds W

section
variable {A Y H R : Nat} {lv : Value} {n l : Nat} {w0 Ws : World} {T TJ TB : Nat → Prop} {had Ds : List Nat} {W W' : World}

theorem XSt.mv (h : XSt Ws T TJ TB Ds W) {TB' : Nat → Prop} (hm : Mv TB W TB' W') : Mv TJ W (fun b => TJ b ∨ TB' b) W' ∧ XSt Ws T (fun b => TJ b ∨ TB' b) TB' Ds W' := by
  have hl : ∀ b, TB b → b < W.heap.size := fun b hb => h.own b (h.sub b hb)
  have hsz := h.sz
  refine ⟨hm.wide h.sub hl, h.mks.mono (fun D hD hx => ⟨.inl hD.1, hm.no (h.own D hD.1) hD.2⟩) (fun D hD hx => (hm.same D (h.own D hD.1) hD.2).trans hx), fun b hb => .inr hb, fun b hb => ?_, fun b hb => ?_, Nat.le_trans h.sz hm.size⟩
  · rcases hb with hb | hb
    · exact Nat.lt_of_lt_of_le (h.own b hb) hm.size
    · exact hm.up hl b hb
  · rw [← h.old b hb]
    exact ⟨fun hx => hx.elim id (fun hx => h.sub b ((hm.old b (by omega)).1 hx)), .inl⟩
theorem XSt.rv (h : XSt Ws T TJ TB Ds W) (hr : Rv 0 TJ W W') : XSt Ws T TJ TB Ds W' :=
  ⟨h.mks.mono (fun D hD _ => hD) (fun D hD hx => (hr.keep D hD.1 (h.own D hD.1)).trans hx), h.sub, fun b hb => Nat.lt_of_lt_of_le (h.own b hb) hr.size, h.old, Nat.le_trans h.sz hr.size⟩
/-- The range within is over. -/
theorem XSt.leave (h : XSt Ws T TJ TB Ds W) {D : Nat} (hT : TB D) (hD : W.heap[D]? = some (.deferred (some []))) : XSt Ws T TJ (fun _ => False) (D :: Ds) W :=
  ⟨Marks.cons (h.mks.mono (fun D hD _ => ⟨hD.1, id⟩) (fun _ _ hx => hx)) ⟨h.sub D hT, id⟩ hD (fun hm => (h.mks.2 D hm).1.2 hT), fun _ h => h.elim, h.own, h.old, h.sz⟩

theorem MSt.mv (h : MSt A Y H R lv n l w0 Ws T TJ TB had Ds W) {TB' : Nat → Prop} (hm : Mv TB W TB' W') : Mv TJ W (fun b => TJ b ∨ TB' b) W' ∧ MSt A Y H R lv n l w0 Ws T (fun b => TJ b ∨ TB' b) TB' had Ds W' := by
  obtain ⟨h1, h2⟩ := h.x.mv hm
  have hls : ∀ {b}, TJ b → b < W.heap.size := fun hb => h.x.own _ hb
  have hle := h.bel.size
  refine ⟨h1, boxed_mv h.ba hm h.nA, boxed_mv h.bY hm h.nY, boxed_mv h.bH hm h.nH, (hm.same R (hls h.tR) h.nR).trans h.row, .inl h.tA, .inl h.tY, .inl h.tH, .inl h.tR, hm.no (hls h.tA) h.nA, hm.no (hls h.tY) h.nY, hm.no (hls h.tH) h.nH, hm.no (hls h.tR) h.nR, h.rA, h.rY, h.rH,
    hm.below h.bel (fun b hb ht => by have := h.low b (h.x.sub b ht); omega) hle, fun b hb => ?_, h2⟩
  rcases hb with hb | hb
  · exact h.low b hb
  · by_cases hlt : b < W.heap.size
    · exact h.low b (h.x.sub b ((hm.old b hlt).1 hb))
    · omega
theorem MSt.below (h : MSt A Y H R lv n l w0 Ws T TJ TB had Ds W) (hb : Below W.heap.size W W') : MSt A Y H R lv n l w0 Ws T TJ TB had Ds W' :=
  ⟨(hb.block A h.ba.lt).trans h.ba, (hb.block Y h.bY.lt).trans h.bY, (hb.block H h.bH.lt).trans h.bH, h.row.below hb, h.tA, h.tY, h.tH, h.tR, h.nA, h.nY, h.nH, h.nR, h.rA, h.rY, h.rH, h.bel.trans (hb.mono h.bel.size), h.low, h.x.rv (Rv.of_below hb (Nat.zero_le _))⟩
/-- The caller's round. -/
theorem MSt.round (h : MSt A Y H R lv n l w0 Ws T TJ TB had Ds W) (hr : Rv w0.heap.size TJ W W') : MSt A Y H R lv n l w0 Ws T TJ TB had Ds W' := by
  have kp : ∀ {b t v}, TJ b → Boxed W b t v → Boxed W' b t v := fun hb hx => (hr.keep _ hb hx.lt).trans hx
  exact ⟨kp h.tA h.ba, kp h.tY h.bY, kp h.tH h.bH, (hr.keep R h.tR (h.x.own R h.tR)).trans h.row, h.tA, h.tY, h.tH, h.tR, h.nA, h.nY, h.nH, h.nR, h.rA, h.rY, h.rH, h.bel.trans hr.below, h.low, h.x.rv hr.low0⟩
/-- One more of a branch. -/
theorem MSt.bump (h : MSt A Y H R lv n l w0 Ws T TJ TB had Ds W) (i : Nat) : MSt A Y H R lv n l w0 Ws T TJ TB (Mg.bump had i) Ds (W.setCell ⟨R, i, none⟩ (.int .i64 ((hadZ had).getD i 0 + 1))) := by
  have ne : ∀ {b}, b ≠ R → (W.setCell ⟨R, i, none⟩ (.int .i64 ((hadZ had).getD i 0 + 1))).heap[b]? = W.heap[b]? := fun hb => Below.heap_setCell W ⟨R, i, none⟩ _ _ hb
  have hrow := h.row.set i ((hadZ had).getD i 0 + 1)
  rw [hadZ_bump] at hrow
  refine ⟨(ne h.rA).trans h.ba, (ne h.rY).trans h.bY, (ne h.rH).trans h.bH, hrow, h.tA, h.tY, h.tH, h.tR, h.nA, h.nY, h.nH, h.nR, h.rA, h.rY, h.rH, h.bel.setCell (p := ⟨R, i, none⟩) (h.low R h.tR) _, h.low, ?_⟩
  refine ⟨h.x.mks.mono (fun D hD _ => hD) (fun D hD hx => (ne ?_).trans hx), h.x.sub, fun b hb => by simpa using h.x.own b hb, h.x.old, by simpa using h.x.sz⟩
  intro e
  rw [e, show W.heap[R]? = _ from h.row] at hx
  cases hx
/-- A range within begins, with two boxes of its own. -/
theorem MSt.enter (h : MSt A Y H R lv n l w0 Ws T TJ (fun _ => False) had Ds W) (o1 o2 : Obj) :
    Mv TJ W (fun b => TJ b ∨ (b = W.heap.size ∨ b = W.heap.size + 1)) ((W.alloc o1).alloc o2) ∧ MSt A Y H R lv n l w0 Ws T (fun b => TJ b ∨ (b = W.heap.size ∨ b = W.heap.size + 1)) (fun b => b = W.heap.size ∨ b = W.heap.size + 1) had Ds ((W.alloc o1).alloc o2) := by
  have hb : Below W.heap.size W ((W.alloc o1).alloc o2) := ((Below.refl _ _).alloc (Nat.le_refl _) _).alloc (by simp) _
  have hm : Mv (fun _ => False) W (fun b => b = W.heap.size ∨ b = W.heap.size + 1) ((W.alloc o1).alloc o2) :=
    ⟨hb.os, hb.tape, hb.output, hb.size, fun k hk _ => hb.block k hk, fun k hk => ⟨fun h => by omega, fun h => h.elim⟩, fun _ k hk => by simp; omega⟩
  obtain ⟨h1, h2⟩ := h.mv hm
  exact ⟨h1, h2⟩
end
end Go.Proofs.Ytamfpmpooaejkaa
