/- Rows of events of one's own; what Split knows. -/
import Derived.Test.YtamfpmpooaejkaaNi
namespace Go.Proofs.Ytamfpmpooaejkaa
open Go.RowKit Go.Shelf
set_option maxRecDepth 1000000
set_option linter.unusedVariables false
attribute [local go_sem] Oper.semAt_some

theorem Try.info25 : (Try.prog.info? 25).map (fun i => (i.zero, i.size, i.bytes)) = some (some (.slice none 0 0), 1, 24) := by kernel_rfl

theorem made_rows (m : Nat) : madeCells #[Value.slice none 0 0] m = (List.replicate m (Value.slice none 0 0)).toArray := by
  apply Array.toList_inj.1
  rw [toList_madeCells_one]

theorem make_rows (n : Nat) (hn : n ≤ 64) : ∃ C : Array Value, Hid (C = (List.replicate n (Value.slice none 0 0)).toArray) ∧ ∀ wx : World, (Instr.makeSlice 22 (.int .i64 (n : Int)) (.int .i64 (n : Int))).run Try.prog wx = .ok (.slice (some ⟨wx.heap.size, 0, none⟩) n n) (wx.alloc (.cells C 25)) := by
  obtain ⟨i0, hi0, hz0, hz1, hz2⟩ := info_parts Try.info25
  refine ⟨_, rfl, fun wx => ?_⟩
  have hmk := run_make (P := Try.prog) wx 22 25 i0 _ Try.underlying22 hi0 hz0 .i64 .i64 (n : Int) (n : Int) (by omega) (by omega) (by rw [hz2]; omega) (by omega)
  simp only [hz1, Int.toNat_natCast, Nat.mul_one] at hmk
  rw [hmk, ← made_rows]
  rfl

/-- Whose rows are not the i-th one's. -/
def oth (T : Nat → Prop) (R : Nat) (vs : List Value) (i : Nat) (b : Nat) : Prop := T b ∨ b = R ∨ ∃ j u, j ≠ i ∧ vs[j]? = some u ∧ u.ownBlock = some b

/-- Rows of events, each in a row of one's own. -/
structure RwR (N R : Nat) (W : World) (T : Nat → Prop) (vs : List Value) (Ls : List (List Ev)) : Prop where
  len : vs.length = Ls.length
  row : W.heap[R]? = some (.cells vs.toArray 25 (0, 0))
  tR : ¬ T R
  logs : ∀ (i : Nat) (v : Value) (L : List Ev), vs[i]? = some v → Ls[i]? = some L → LogR N W (oth T R vs i) v L

theorem RwR.own {N R : Nat} {W : World} {T : Nat → Prop} {vs : List Value} {Ls : List (List Ev)} (h : RwR N R W T vs Ls) {j : Nat} {u : Value} (hu : vs[j]? = some u) {b : Nat} (hb : u.ownBlock = some b) : N ≤ b ∧ b < W.heap.size ∧ ¬ T b ∧ b ≠ R := by
  have hj := (List.getElem?_eq_some_iff.1 hu).1
  obtain ⟨P, _, p2, p3, _⟩ := h.logs j u _ hu (List.getElem?_eq_getElem (by rw [← h.len]; exact hj))
  have h3 := p3 b hb
  exact ⟨(World.ownsRow.lt p2 b hb).1, (World.ownsRow.lt p2 b hb).2, fun ht => h3 (.inl ht), fun e => h3 (.inr (.inl e))⟩

theorem RwR.kept {N R : Nat} {W W' : World} {T T' : Nat → Prop} {vs : List Value} {Ls : List (List Ev)} (h : RwR N R W T vs Ls) (hk : ∀ b, b < W.heap.size → ¬ T b → W'.heap[b]? = W.heap[b]?) (hT : ∀ b, b < W.heap.size → ¬ T b → ¬ T' b) (hs : W.heap.size ≤ W'.heap.size) : RwR N R W' T' vs Ls := by
  have hR := (Array.getElem?_eq_some_iff.1 h.row).1
  refine ⟨h.len, (hk R hR h.tR).trans h.row, hT R hR h.tR, fun i v L hv hL => LogR.kept (h.logs i v L hv hL) (fun b b2 b3 => hk b b2 (fun ht => b3 (.inl ht))) (fun b b2 b3 ht => ?_) hs⟩
  rcases ht with ht | ht
  · exact hT b b2 (fun h9 => b3 (.inl h9)) ht
  · exact b3 (.inr ht)

theorem RwR.mv {N R : Nat} {W W' : World} {T T' : Nat → Prop} {vs : List Value} {Ls : List (List Ev)} (h : RwR N R W T vs Ls) (hm : Mv T W T' W') : RwR N R W' T' vs Ls :=
  h.kept (fun b b2 b3 => hm.same b b2 b3) (fun b b2 b3 => hm.no b2 b3) hm.size

theorem RwR.init (N R : Nat) (W : World) (T : Nat → Prop) (n : Nat) (hrow : W.heap[R]? = some (.cells (List.replicate n (Value.slice none 0 0)).toArray 25 (0, 0))) (tR : ¬ T R) : RwR N R W T (List.replicate n (.slice none 0 0)) (List.replicate n []) := by
  refine ⟨by simp, hrow, tR, fun i v L hv hL => ?_⟩
  rw [List.getElem?_replicate] at hv hL
  split at hv
  · rw [if_pos (by assumption)] at hL
    cases hv
    cases hL
    exact LogR.nil _ _ _
  · cases hv

/-- An event behind those of the i-th row. -/
theorem RwR.push {N R : Nat} {W : World} {T : Nat → Prop} {vs : List Value} {Ls : List (List Ev)} (h : RwR N R W T vs Ls) (hT : ∀ b, T b → b < W.heap.size) (hN : N ≤ W.heap.size) (n0 : Nat) (hn0 : n0 ≤ N) (hnR : n0 ≤ R) {W1 : World} (hb : Below W.heap.size W W1) {i : Nat} {v : Value} {L : List Ev} (hv : vs[i]? = some v) (hL : Ls[i]? = some L) (hLl : L.length ≤ 1000000)
    (e : Ev) (a : Option Addr) (c : Nat) (hri : RI W1 (.slice a e.s.length c) e.s) (hes : e.s.length ≤ 1000000) (hst : ∀ b, a = some b → 0 < e.s.length → b.block < W1.heap.size ∧ ¬ T b.block ∧ b.block ≠ R ∧ ∀ (j : Nat) (u : Value), vs[j]? = some u → u.ownBlock ≠ some b.block) :
    ∃ ua um uc W3, (Builtin.append_ #[25, 25] 25 #[v, .slice (some ⟨W1.heap.size, 0, none⟩) 1 1]).run Try.prog (W1.alloc (.cells #[.int .i64 e.k, .int .i64 e.i, .int .i64 e.t, .slice a e.s.length c] 45)) = .ok (.slice ua um uc) W3 ∧
      (∀ b, b < W.heap.size → (∀ u : Value, vs[i]? = some u → u.ownBlock ≠ some b) → W3.heap[b]? = W.heap[b]?) ∧ W3.heap[R]? = some (.cells vs.toArray 25 (0, 0)) ∧ Rv n0 T W (W3.setCell ⟨R, i, none⟩ (.slice ua um uc)) ∧
      RwR N R (W3.setCell ⟨R, i, none⟩ (.slice ua um uc)) T (vs.set i (.slice ua um uc)) (Ls.set i (L ++ [e])) := by
  have hlog := h.logs i v L hv hL
  have hR := (Array.getElem?_eq_some_iff.1 h.row).1
  have hil := (List.getElem?_eq_some_iff.1 hv).1
  have hB3 : Below W.heap.size W (W1.alloc (.cells #[.int .i64 e.k, .int .i64 e.i, .int .i64 e.t, .slice a e.s.length c] 45)) := hb.trans ((Below.refl _ _).alloc hb.size _)
  have hB4 : Below W1.heap.size W1 (W1.alloc (.cells #[.int .i64 e.k, .int .i64 e.i, .int .i64 e.t, .slice a e.s.length c] 45)) := (Below.refl _ _).alloc (Nat.le_refl _) _
  have hz1 := hb.size
  have h3 := hlog.mv (Mv.of_below hB3)
  have hot : ∀ b, oth T R vs i b → b < W.heap.size := fun b hb => by
    rcases hb with hb | rfl | ⟨j, u, _, hu, hub⟩
    · exact hT b hb
    · exact hR
    · exact (h.own hu hub).2.1
  obtain ⟨v', W3, hrun, hl4, hgr, hown, ⟨a', c', hv'⟩, hwh⟩ := h3.push hLl (by simp; omega) (fun b hb => by have := hot b hb; simp; omega) e a c W1.heap.size (fun j u hj => by
      rw [add0, cell_of_row _ _ _ _ 45 (0, 0) (World.alloc_heap_new W1 _)]
      simp only [evRow] at hj
      rw [← Array.getElem?_toList]
      exact hj) (hri.later hB4) hes (fun b hb hl => by
      obtain ⟨s1, s2, s3, s4⟩ := hst b hb hl
      refine ⟨by simp; omega, fun ht => ?_, s4 i v hv⟩
      rcases ht with ht | ht | ⟨j, u, _, hu, hub⟩
      · exact s2 ht
      · exact s3 ht
      · exact s4 j u hu hub)
  have hkeep : ∀ b, b < W.heap.size → v.ownBlock ≠ some b → W3.heap[b]? = W.heap[b]? := fun b hbl hne => (hgr.block b (by simp; omega) (fun e => hne e.symm)).trans (hB3.block b hbl)
  have hnR' : v.ownBlock ≠ some R := fun e => (h.own hv e).2.2.2 rfl
  have hrow3 : W3.heap[R]? = some (.cells vs.toArray 25 (0, 0)) := (hkeep R hR hnR').trans h.row
  have hs3 := hgr.size
  have hs4 : W1.heap.size + 1 ≤ W3.heap.size := by simpa using hs3
  subst hv'
  refine ⟨a', _, c', W3, hrun, fun b b1 b2 => hkeep b b1 (b2 v hv), hrow3, ?_, ?_⟩
  · have r1 : Rv n0 T W W3 := (Rv.of_below hB3 (by omega)).trans (Rv.grown hgr (fun r hr => ⟨by have := (hown r hr).1; omega, fun ht => (hown r hr).2 (.inl ht)⟩) (by simp; omega))
    exact r1.trans (Rv.setCell _ _ hnR h.tR)
  · generalize hvn : Value.slice a' (L ++ [e]).length c' = vn at *
    have ne : ∀ {b}, b ≠ R → (W3.setCell ⟨R, i, none⟩ vn).heap[b]? = W3.heap[b]? := fun hb => Below.heap_setCell W3 ⟨R, i, none⟩ _ _ hb
    have hnew : ∀ b, vn.ownBlock = some b → (v.ownBlock = some b ∨ W.heap.size ≤ b) := fun b hb => by
      rcases hwh with e1 | e1
      · rw [e1] at hb; exact .inl hb
      · rw [e1] at hb
        cases hb
        exact .inr (by simp; omega)
    have hrow4 := row_set hrow3 i vn
    refine ⟨by simp [h.len], ?_, h.tR, fun j u K hu hK => ?_⟩
    · rw [hrow4]; simp
    · by_cases hji : j = i
      · subst hji
        rw [List.getElem?_set_self hil] at hu
        rw [List.getElem?_set_self (by rw [← h.len]; exact hil)] at hK
        cases hu
        cases hK
        refine LogR.kept hl4 (fun b _ b3 => ne (fun e => b3 (.inr (.inl e)))) (fun b b2 b3 ht => ?_) (by simp)
        rcases ht with ht | ht | ⟨q, u, hq, hu, hub⟩
        · exact b3 (.inl ht)
        · exact b3 (.inr (.inl ht))
        · rw [List.getElem?_set_ne (Ne.symm hq)] at hu
          exact b3 (.inr (.inr ⟨q, u, hq, hu, hub⟩))
      · rw [List.getElem?_set_ne (Ne.symm hji)] at hu hK
        have hlj := h.logs j u K hu hK
        refine LogR.kept hlj (fun b b2 b3 => (ne (fun e => b3 (.inr (.inl e)))).trans (hkeep b b2 (fun e => b3 (.inr (.inr ⟨i, v, Ne.symm hji, hv, e⟩))))) (fun b b2 b3 ht => ?_) (by simp; omega)
        rcases ht with ht | ht | ⟨q, x, hq, hx, hxb⟩
        · exact b3 (.inl ht)
        · exact b3 (.inr (.inl ht))
        · by_cases hqi : q = i
          · subst hqi
            rw [List.getElem?_set_self hil] at hx
            cases hx
            rcases hnew b hxb with h9 | h9
            · exact b3 (.inr (.inr ⟨q, v, hq, hv, h9⟩))
            · omega
          · rw [List.getElem?_set_ne (Ne.symm hqi)] at hx
            exact b3 (.inr (.inr ⟨q, x, hq, hx, hxb⟩))

theorem RwR.rre {N R : Nat} {W : World} {T : Nat → Prop} {vs : List Value} {Ls : List (List Ev)} (h : RwR N R W T vs Ls) (hl : Ls.length ≤ 64) : RRE W (.slice (some ⟨R, 0, none⟩) Ls.length Ls.length) Ls ∧ ∀ L ∈ Ls, ∀ x ∈ L, x.s.length ≤ 1000000 := by
  refine ⟨⟨_, _, rfl, Nat.le_refl _, by unfold maxLen; omega, fun i L hL => ?_⟩, fun L hL => ?_⟩
  · have hi := (List.getElem?_eq_some_iff.1 hL).1
    obtain ⟨v, hv⟩ : ∃ v, vs[i]? = some v := ⟨_, List.getElem?_eq_getElem (by rw [h.len]; exact hi)⟩
    refine ⟨R, 0, v, rfl, ?_, (h.logs i _ L hv hL).re.1⟩
    rw [Nat.zero_add, cell_row h.row, List.getElem?_toArray]
    exact hv
  · obtain ⟨i, hi⟩ := List.getElem?_of_mem hL
    have hil := (List.getElem?_eq_some_iff.1 hi).1
    exact (h.logs i _ L (List.getElem?_eq_getElem (by rw [h.len]; exact hil)) hi).re.2

/-- Each branch's events of the first k told. -/
def partsK (n : Nat) (xs : List (Nat × EvP)) (k : Nat) : List (List Ev) := (List.range n).map (fun i => ((xs.take k).filter (fun x => x.1 == i)).map (fun x => x.2.1))
theorem partsK_len (n : Nat) (xs : List (Nat × EvP)) (k : Nat) : (partsK n xs k).length = n := by simp [partsK]
theorem partsK_zero (n : Nat) (xs : List (Nat × EvP)) : partsK n xs 0 = List.replicate n [] := by
  apply List.ext_getElem?
  intro i
  unfold partsK
  rw [List.getElem?_map, List.getElem?_replicate]
  by_cases h : i < n
  · rw [List.getElem?_range h, if_pos h]; simp
  · rw [List.getElem?_eq_none (by simpa using Nat.le_of_not_lt h), if_neg h]; rfl
theorem partsK_get {n : Nat} {xs : List (Nat × EvP)} {k i : Nat} (h : i < n) : (partsK n xs k)[i]? = some (((xs.take k).filter (fun x => x.1 == i)).map (fun x => x.2.1)) := by
  unfold partsK
  rw [List.getElem?_map, List.getElem?_range h]
  rfl
theorem partsK_succ {n : Nat} {xs : List (Nat × EvP)} {k : Nat} {x : Nat × EvP} (hx : xs[k]? = some x) (hn : x.1 < n) : partsK n xs (k + 1) = (partsK n xs k).set x.1 (((xs.take k).filter (fun y => y.1 == x.1)).map (fun y => y.2.1) ++ [x.2.1]) := by
  apply List.ext_getElem?
  intro i
  rw [List.getElem?_set, partsK_len]
  by_cases hi : x.1 = i
  · subst hi
    rw [if_pos rfl, if_pos hn, partsK_get hn, List.take_add_one, hx]
    simp [List.filter_append]
  · rw [if_neg hi]
    by_cases h : i < n
    · rw [partsK_get h, partsK_get h, List.take_add_one, hx]
      have : (x.1 == i) = false := by simpa using hi
      simp [List.filter_append, this]
    · rw [List.getElem?_eq_none (by rw [partsK_len]; omega), List.getElem?_eq_none (by rw [partsK_len]; omega)]

/-- What Split has when k events are told. -/
structure SpS (n0 : Nat) (w0 : World) (xs : List (Nat × EvP)) (n k : Nat) (W : World) (T : Nat → Prop) : Prop where
  bl : Boxed W (n0 + 1) 22 (.slice (some ⟨n0, 0, none⟩) n n)
  rows : ∃ vs, RwR (n0 + 2) n0 W (fun b => T b ∨ b = n0 + 1) vs (partsK n xs k)
  t1 : ¬ T (n0 + 1)
  bel : Below n0 w0 W
  hT : ∀ b, b < n0 → ¬ T b
  le : n0 + 2 ≤ W.heap.size
theorem SpS.mv {n0 : Nat} {w0 : World} {xs : List (Nat × EvP)} {n k : Nat} {W W' : World} {T T' : Nat → Prop} (h : SpS n0 w0 xs n k W T) (hm : Mv T W T' W') : SpS n0 w0 xs n k W' T' := by
  obtain ⟨vs, h1⟩ := h.rows
  have hle := h.le
  exact ⟨boxed_mv h.bl hm h.t1, ⟨vs, h1.mv (hm.or _)⟩, hm.no (by omega) h.t1, hm.below h.bel h.hT (by omega), fun b hb => hm.no (by omega) (h.hT b hb), Nat.le_trans hle hm.size⟩

theorem SpS.push {n0 : Nat} {w0 : World} {xs : List (Nat × EvP)} {n k : Nat} {W : World} {T : Nat → Prop} (h : SpS n0 w0 xs n k W T) (hT : ∀ b, T b → b < W.heap.size) {i : Nat} {e : Ev} {sv : Value} (hx : xs[k]? = some (i, (e, sv))) (hin : i < n) (hkl : k ≤ 1000000) {vs : List Value} (hvs : W.heap[n0]? = some (.cells vs.toArray 25 (0, 0))) {W1 : World} (hb : Below W.heap.size W W1) {g c : Nat} (ho : OI W.heap.size W1 g e.s.length c e.s) (hes : e.s.length ≤ 1000000) :
    ∃ v ua um uc W3, vs[i]? = some v ∧ (Builtin.append_ #[25, 25] 25 #[v, .slice (some ⟨W1.heap.size, 0, none⟩) 1 1]).run Try.prog (W1.alloc (.cells #[.int .i64 e.k, .int .i64 e.i, .int .i64 e.t, .slice (some ⟨g, 0, none⟩) e.s.length c] 45)) = .ok (.slice ua um uc) W3 ∧
      (∀ b, b < W.heap.size → v.ownBlock ≠ some b → W3.heap[b]? = W.heap[b]?) ∧ W3.heap[n0]? = some (.cells vs.toArray 25 (0, 0)) ∧
      SpS n0 w0 xs n (k + 1) (W3.setCell ⟨n0, i, none⟩ (.slice ua um uc)) T ∧ Rv n0 T W (W3.setCell ⟨n0, i, none⟩ (.slice ua um uc)) := by
  obtain ⟨vs0, h1⟩ := h.rows
  have hle := h.le
  have e0 : vs0 = vs := by
    have h9 := h1.row.symm.trans hvs
    have h8 : vs0.toArray = vs.toArray := by
      have := Option.some.inj h9
      simp only [Obj.cells.injEq] at this
      exact this.1
    exact List.toArray_inj h8
  subst e0
  have hil : i < vs0.length := by rw [h1.len, partsK_len]; exact hin
  have hgl := ho.lt
  obtain ⟨ua, um, uc, W3, q1, q2, q3, q4, q5⟩ := h1.push (fun b hb => by rcases hb with hb | hb; exact hT b hb; omega) hle n0 (by omega) (Nat.le_refl _) hb (List.getElem?_eq_getElem hil) (partsK_get hin) (by
      rw [List.length_map]
      refine Nat.le_trans (List.length_filter_le _ _) ?_
      rw [List.length_take]
      omega) e (some ⟨g, 0, none⟩) c ho.ri.2 hes (fun b hb _ => by
      cases hb
      refine ⟨hgl.2, fun ht => ?_, fun (e9 : g = n0) => by omega, fun j u hu hub => ?_⟩
      · rcases ht with ht | ht
        · have := hT _ ht; simp at this; omega
        · simp at ht; omega
      · have := (h1.own hu hub).2.1; simp at this; omega)
  have hkp : ∀ b, b < W.heap.size → vs0[i].ownBlock ≠ some b → W3.heap[b]? = W.heap[b]? := fun b b1 b2 => q2 b b1 (fun u hu => by
    rw [List.getElem?_eq_getElem hil] at hu
    cases hu
    exact b2)
  refine ⟨vs0[i], ua, um, uc, W3, List.getElem?_eq_getElem hil, q1, hkp, q3, ?_, q4.mono (fun b hb => .inl hb)⟩
  have ne : ∀ {b}, b ≠ n0 → (W3.setCell ⟨n0, i, none⟩ (.slice ua um uc)).heap[b]? = W3.heap[b]? := fun hb => Below.heap_setCell W3 ⟨n0, i, none⟩ _ _ hb
  have hbl : W3.heap[n0 + 1]? = W.heap[n0 + 1]? := hkp _ (by omega) (fun e9 => (h1.own (List.getElem?_eq_getElem hil) e9).2.2.1 (.inr rfl))
  refine ⟨(ne (by omega)).trans (hbl.trans h.bl), ⟨vs0.set i (.slice ua um uc), ?_⟩, h.t1, h.bel.trans q4.below, h.hT, Nat.le_trans hle q4.size⟩
  rw [partsK_succ hx hin]
  exact q5
end Go.Proofs.Ytamfpmpooaejkaa
