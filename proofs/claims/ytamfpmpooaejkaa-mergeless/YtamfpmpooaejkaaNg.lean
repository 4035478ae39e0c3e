/- The walk over merge.Merge. -/
import Derived.Test.YtamfpmpooaejkaaNf
namespace Go.Proofs.Ytamfpmpooaejkaa
open Go.RowKit Go.Shelf
set_option maxRecDepth 1000000
set_option linter.unusedVariables false
attribute [local go_sem] Oper.semAt_some

theorem wpOp_skip {P : Program} {ops : Array Oper} {Q : Exit → Act → World → Prop} {i : Nat} {K : Act → World → Prop} {a : Act} {w w' : World} {o : Oper} (hi : ops[i]? = some o) (hd : o.dst = none) (hw : Region.wanted o (yielded ops a.tmps) = true)
    (hrun : (execOp a.eval o).run P w = .ok .skip w') (hK : K a w') : wpOp P ops Q i K a w := by
  have hp : a.put o.dst undef = a := by rw [hd]; rfl
  unfold wpOp
  simp only [hi]
  rw [if_pos hw]
  refine .inl ?_
  unfold Oper.wp
  rw [hrun]
  show K (a.put o.dst undef) w'
  rw [hp]
  exact hK

def evsK (xs : List (Nat × EvP)) (k : Nat) : List Ev := (xs.take k).map (fun x => x.2.1)
def brsK (xs : List (Nat × EvP)) (k : Nat) : List Nat := (xs.take k).map Prod.fst
theorem evsK_succ {xs : List (Nat × EvP)} {k : Nat} {x : Nat × EvP} (h : xs[k]? = some x) : evsK xs (k + 1) = evsK xs k ++ [x.2.1] := by
  unfold evsK; rw [List.take_add_one, h]; simp
theorem brsK_succ {xs : List (Nat × EvP)} {k : Nat} {x : Nat × EvP} (h : xs[k]? = some x) : brsK xs (k + 1) = brsK xs k ++ [x.1] := by
  unfold brsK; rw [List.take_add_one, h]; simp
theorem evsK_len {xs : List (Nat × EvP)} {k : Nat} (h : k ≤ xs.length) : (evsK xs k).length = k := by
  unfold evsK; rw [List.length_map, List.length_take]; omega
def hadK (n : Nat) (xs : List (Nat × EvP)) (k : Nat) : List Nat := Mg.after (List.replicate n 0) (brsK xs k)
theorem hadK_succ {n : Nat} {xs : List (Nat × EvP)} {k : Nat} {x : Nat × EvP} (h : xs[k]? = some x) : hadK n xs (k + 1) = Mg.bump (hadK n xs k) x.1 := by
  unfold hadK; rw [brsK_succ h]; unfold Mg.after; rw [List.foldl_append]; rfl
theorem hadK_len (n : Nat) (xs : List (Nat × EvP)) (k : Nat) : (hadK n xs k).length = n := by unfold hadK; rw [Mg.after_len, List.length_replicate]
theorem hadK_le {n : Nat} {xs : List (Nat × EvP)} (hx : ∀ x ∈ xs, x.1 < n) (k : Nat) (hk : k ≤ xs.length) (j : Nat) : (hadK n xs k).getD j 0 ≤ k := by
  unfold hadK
  rw [Mg.after_get _ _ (fun b hb => ?_), Mg.zero_get, Nat.zero_add]
  · refine Nat.le_trans List.count_le_length ?_
    unfold brsK
    rw [List.length_map, List.length_take]
    omega
  · rw [List.length_replicate]
    unfold brsK at hb
    obtain ⟨x, hx1, rfl⟩ := List.mem_map.1 hb
    exact hx x (List.mem_of_mem_take hx1)

/-- What Merge has when kl events are told, kr of them counted. -/
structure MgS (n0 : Nat) (w0 : World) (xs : List (Nat × EvP)) (n kl kr : Nat) (W : World) (T : Nat → Prop) : Prop where
  bl : ∃ v, Boxed W n0 25 v ∧ LogR (n0 + 3) W (fun b => T b ∨ (n0 ≤ b ∧ b < n0 + 3)) v (evsK xs kl)
  row : RowI W (n0 + 1) (hadZ (hadK n xs kr))
  bt : Boxed W (n0 + 2) 26 (.slice (some ⟨n0 + 1, 0, none⟩) n n)
  t0 : ¬ T n0
  t1 : ¬ T (n0 + 1)
  t2 : ¬ T (n0 + 2)
  bel : Below n0 w0 W
  hT : ∀ b, b < n0 → ¬ T b
  le : n0 + 3 ≤ W.heap.size

section
variable {n0 : Nat} {w0 : World} {xs : List (Nat × EvP)} {n kl kr k : Nat} {W : World} {T : Nat → Prop}
theorem MgS.mv (h : MgS n0 w0 xs n kl kr W T) {W' : World} {T' : Nat → Prop} (hm : Mv T W T' W') : MgS n0 w0 xs n kl kr W' T' := by
  obtain ⟨v, h1, h2⟩ := h.bl
  have hle := h.le
  exact ⟨⟨v, boxed_mv h1 hm h.t0, h2.mv (hm.or _)⟩, (hm.same _ (by omega) h.t1).trans h.row, boxed_mv h.bt hm h.t2, hm.no (by omega) h.t0, hm.no (by omega) h.t1, hm.no (by omega) h.t2, hm.below h.bel h.hT (by omega), fun b hb => hm.no (by omega) (h.hT b hb), Nat.le_trans hle hm.size⟩

theorem MgS.push (h : MgS n0 w0 xs n k k W T) (hT : ∀ b, T b → b < W.heap.size) {i : Nat} {e : Ev} {sv : Value} (hx : xs[k]? = some (i, (e, sv))) (hkl : k ≤ 1000000) {v : Value} (hv : Boxed W n0 25 v) {W1 : World} (hb : Below W.heap.size W W1) {g c : Nat} (ho : OI W.heap.size W1 g e.s.length c e.s) (hes : e.s.length ≤ 1000000) :
    ∃ ua um uc W3, (Builtin.append_ #[25, 25] 25 #[v, .slice (some ⟨W1.heap.size, 0, none⟩) 1 1]).run Try.prog (W1.alloc (.cells #[.int .i64 e.k, .int .i64 e.i, .int .i64 e.t, .slice (some ⟨g, 0, none⟩) e.s.length c] 45)) = .ok (.slice ua um uc) W3 ∧
      (∀ b, b < W.heap.size → v.ownBlock ≠ some b → W3.heap[b]? = W.heap[b]?) ∧ W3.cell? ⟨n0, 0, none⟩ = some v ∧ W3.frozen? ⟨n0, 0, none⟩ = false ∧
      MgS n0 w0 xs n (k + 1) k (W3.setCell ⟨n0, 0, none⟩ (.slice ua um uc)) T ∧ Rv n0 T W (W3.setCell ⟨n0, 0, none⟩ (.slice ua um uc)) := by
  obtain ⟨v0, h1, h2⟩ := h.bl
  obtain rfl := boxed_eq h1 hv
  have hle := h.le
  have hkx := (List.getElem?_eq_some_iff.1 hx).1
  have hB3 : Below W.heap.size W (W1.alloc (.cells #[.int .i64 e.k, .int .i64 e.i, .int .i64 e.t, .slice (some ⟨g, 0, none⟩) e.s.length c] 45)) := hb.trans ((Below.refl _ _).alloc hb.size _)
  have hB4 : Below W1.heap.size W1 (W1.alloc (.cells #[.int .i64 e.k, .int .i64 e.i, .int .i64 e.t, .slice (some ⟨g, 0, none⟩) e.s.length c] 45)) := (Below.refl _ _).alloc (Nat.le_refl _) _
  have hz1 := hb.size
  have hgl := ho.lt
  have h3 := h2.mv (Mv.of_below hB3)
  have hown2 : ∀ q, v0.ownBlock = some q → q < W.heap.size := fun q hq => by
    obtain ⟨P, _, p2, _⟩ := h2
    exact (World.ownsRow.lt p2 q hq).2
  obtain ⟨v', W3, hrun, hl4, hgr, hown, ⟨a', c', hv'⟩, _⟩ := h3.push (by rw [evsK_len (Nat.le_of_lt hkx)]; exact hkl) (by simp; omega) (fun b hb => by
      rcases hb with hb | hb
      · have := hT b hb; simp; omega
      · simp; omega) e (some ⟨g, 0, none⟩) c W1.heap.size (fun j u hj => by
      rw [add0, cell_of_row _ _ _ _ 45 (0, 0) (World.alloc_heap_new W1 _)]
      simp only [evRow] at hj
      rw [← Array.getElem?_toList]
      exact hj) (ho.ri.2.later hB4) hes (fun b hb hl => by
      cases hb
      exact ⟨by simp; omega, fun ht => by
        rcases ht with ht | ht
        · have := hT _ ht; simp at this; omega
        · simp at ht; omega, fun e => by have := hown2 _ e; simp at this; omega⟩)
  have hkeep : ∀ b, b < W.heap.size → v0.ownBlock ≠ some b → W3.heap[b]? = W.heap[b]? := fun b hbl hne => (hgr.block b (by simp; omega) (fun e => hne e.symm)).trans (hB3.block b hbl)
  have hne : ∀ b, b < n0 + 3 → v0.ownBlock ≠ some b := fun b hb e => by have := (hown b e).1; omega
  have b0 : Boxed W3 n0 25 v0 := (hkeep n0 (by omega) (hne _ (by omega))).trans h1
  have hs3 := hgr.size
  have hs4 : W.heap.size ≤ W3.heap.size := by simp at hs3; omega
  refine ⟨a', _, c', W3, by rw [hrun, hv'], hkeep, b0.cell, b0.frozen, ?_, ?_⟩
  · have hl9 : LogR (n0 + 3) (W3.setCell ⟨n0, 0, none⟩ (.slice a' (evsK xs k ++ [e]).length c')) (fun b => T b ∨ (n0 ≤ b ∧ b < n0 + 3)) v' (evsK xs k ++ [e]) := LogR.kept hl4 (fun b _ hb => Below.heap_setCell W3 ⟨n0, 0, none⟩ _ _ (fun e : b = n0 => hb (.inr (by omega)))) (fun _ _ h => h) (by simp)
    rw [← hv'] at hl9 ⊢
    rw [show evsK xs k ++ [e] = evsK xs (k + 1) from (evsK_succ hx).symm] at hl9
    have hbel : Below n0 w0 W3 := h.bel.trans ⟨hgr.os.trans hB3.os, hgr.tape.trans hB3.tape, hgr.output.trans hB3.output, hs4, fun b hb => hkeep b (by omega) (hne b (by omega))⟩
    have ne : ∀ {b}, b ≠ n0 → (W3.setCell ⟨n0, 0, none⟩ v').heap[b]? = W3.heap[b]? := fun hb => Below.heap_setCell W3 ⟨n0, 0, none⟩ _ _ hb
    exact ⟨⟨v', b0.set _, hl9⟩, (ne (by omega)).trans ((hkeep _ (by omega) (hne _ (by omega))).trans h.row), (ne (by omega)).trans ((hkeep _ (by omega) (hne _ (by omega))).trans h.bt), h.t0, h.t1, h.t2, hbel.setCell (p := ⟨n0, 0, none⟩) (Nat.le_refl _) _, h.hT, by simp; omega⟩
  · have r1 : Rv n0 T W W3 := (Rv.of_below hB3 (by omega)).trans (Rv.grown hgr (fun r hr => ⟨by have := (hown r hr).1; omega, fun ht => (hown r hr).2 (.inl ht)⟩) (by simp; omega))
    exact r1.trans (Rv.setCell _ _ (Nat.le_refl _) h.t0)

/-- One more counted. -/
theorem MgS.count (h : MgS n0 w0 xs n (k + 1) k W T) {x : Nat × EvP} (hx : xs[k]? = some x) : MgS n0 w0 xs n (k + 1) (k + 1) (W.setCell ⟨n0 + 1, x.1, none⟩ (.int .i64 ((hadZ (hadK n xs k)).getD x.1 0 + 1))) T ∧ Rv n0 T W (W.setCell ⟨n0 + 1, x.1, none⟩ (.int .i64 ((hadZ (hadK n xs k)).getD x.1 0 + 1))) := by
  obtain ⟨v, h1, h2⟩ := h.bl
  have ne : ∀ {b}, b ≠ n0 + 1 → (W.setCell ⟨n0 + 1, x.1, none⟩ (.int .i64 ((hadZ (hadK n xs k)).getD x.1 0 + 1))).heap[b]? = W.heap[b]? := fun hb => Below.heap_setCell W ⟨n0 + 1, x.1, none⟩ _ _ hb
  have hrow := h.row.set x.1 ((hadZ (hadK n xs k)).getD x.1 0 + 1)
  rw [hadZ_bump, ← hadK_succ hx] at hrow
  refine ⟨⟨⟨v, (ne (by omega)).trans h1, LogR.kept h2 (fun b _ hb => ne (fun e => hb (.inr (by omega)))) (fun _ _ h => h) (by simp)⟩, hrow, (ne (by omega)).trans h.bt, h.t0, h.t1, h.t2, h.bel.setCell (p := ⟨n0 + 1, x.1, none⟩) (by show n0 ≤ n0 + 1; omega) _, h.hT, by have := h.le; simpa using this⟩, Rv.setCell _ _ (by omega) h.t1⟩
end
end Go.Proofs.Ytamfpmpooaejkaa
