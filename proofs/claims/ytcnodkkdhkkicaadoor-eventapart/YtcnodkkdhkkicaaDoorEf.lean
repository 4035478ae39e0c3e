/- Bytes of the call's own whose block may be marked behind its end (as the bytes of a text are): append to them, and AppendInt. -/
import Derived.Test.YtcnodkkdhkkicaaDoorPb
import Derived.Test.YtcnodkkdhkkicaaDoorPc
import Derived.Test.YtcnodkkdhkkicaaDoorWa
import Derived.Lib.AppendStr
import Derived.Laws.IdiomStrings
namespace Go.Proofs.YtcnodkkdhkkicaaDoor
open Go.RowKit
set_option linter.unusedVariables false

/-- Bytes of the call's own: from block B on; a mark, if there is one, stands behind the block's end. -/
def MB (B : Nat) (w : World) (v : Value) (l : List UInt8) : Prop :=
  ∃ g cap cur fz, v = .slice (some ⟨g, 0, none⟩) l.length cap ∧ B ≤ g ∧ w.heap[g]? = some (.cells cur 5 fz) ∧ (fz.2 = 0 ∨ cap ≤ fz.1) ∧ l.length ≤ cap ∧ cap ≤ maxLen ∧ cur.size = cap ∧ cur.toList.take l.length = bvs l

theorem MB.lt {B : Nat} {w : World} {v : Value} {l : List UInt8} (h : MB B w v l) : ∃ g c, v = .slice (some ⟨g, 0, none⟩) l.length c ∧ B ≤ g ∧ g < w.heap.size := by
  obtain ⟨g, cap, cur, fz, hv, hB, hg, _⟩ := h
  exact ⟨g, cap, hv, hB, (Array.getElem?_eq_some_iff.1 hg).1⟩

theorem MB.later {B : Nat} {w w' : World} {v : Value} {l : List UInt8} (h : MB B w v l) (hb : Below w.heap.size w w') : MB B w' v l := by
  obtain ⟨g, cap, cur, fz, hv, hB, hg, h1⟩ := h
  exact ⟨g, cap, cur, fz, hv, hB, (hb.block g (Array.getElem?_eq_some_iff.1 hg).1).trans hg, h1⟩

theorem MB.rb {B : Nat} {w : World} {v : Value} {l : List UInt8} (h : MB B w v l) : RB w v l := by
  obtain ⟨g, cap, cur, fz, rfl, hB, hg, hf, h1, h2, h3, h4⟩ := h
  refine ⟨_, _, rfl, h1, h2, (fun h => by cases h), fun i hi => ⟨g, 0, rfl, ?_⟩⟩
  have h5 : (cur.toList.take l.length)[i]? = (bvs l)[i]? := by rw [h4]
  rw [List.getElem?_take, if_pos hi] at h5
  have h6 : w.cell? ⟨g, 0 + i, none⟩ = cur[i]? := by simp [World.cell?, hg]
  rw [h6]
  have h7 : cur[i]? = cur.toList[i]? := by simp
  rw [h7, h5]
  simp [bvs, hi]

/-- Cells are stored in a row, ahead of a mark. -/
theorem store_ahead (P : Program) (g o : Nat) (t : TypeId) (fz : Nat × Nat) : ∀ (vs : List Value) (i : Nat) (cur : Array Value) (w : World), w.heap[g]? = some (.cells cur t fz) → (fz.2 = 0 ∨ o + i + vs.length ≤ fz.1) → o + i + vs.length ≤ cur.size → (∀ v ∈ vs, v.oneCell' = true) →
    (storeCells ⟨g, o, none⟩ vs i).run P w = .ok () (w.setRow g (cur.toList.take (o + i) ++ vs ++ cur.toList.drop (o + i + vs.length)).toArray)
  | [], i, cur, w, hg, _, _, _ => by
    simp only [storeCells, List.append_nil, List.length_nil, Nat.add_zero, List.take_append_drop, Array.toArray_toList]
    rw [setRow_self w g cur t fz hg]
    rfl
  | v :: rest, i, cur, w, hg, hfz, hl, h1 => by
    have hi : o + i < cur.size := by simp at hl; omega
    have ha : (⟨g, o, none⟩ : Addr).add i = ⟨g, o + i, none⟩ := by unfold Addr.add; split <;> simp_all
    have hc : w.cell? ⟨g, o + i, none⟩ = some cur[o + i] := by simp [World.cell?, hg, hi]
    have hf : w.frozen? ⟨g, o + i, none⟩ = false := by
      obtain ⟨lo, hi'⟩ := fz
      simp only [World.frozen?, hg, Bool.and_eq_false_iff, decide_eq_false_iff_not]
      simp only [List.length_cons] at hfz
      omega
    have hs : (store ((⟨g, o, none⟩ : Addr).add i) v).run P w = .ok () (w.setRow g (cur.setIfInBounds (o + i) v)) := by
      rw [ha, run_store P w _ v _ (h1 v (by simp)), hc]
      simp [hf, setCell_eq_setRow w g (o + i) cur t fz v hg]
    have ih := store_ahead P g o t fz rest (i + 1) (cur.setIfInBounds (o + i) v) (w.setRow g (cur.setIfInBounds (o + i) v)) (setRow_heap w g cur _ t _ hg) (by simp at hfz ⊢; omega) (by simp at hl ⊢; omega) (fun x hx => h1 x (by simp [hx]))
    simp only [storeCells, Sem.run_bind, hs, Result.andThen_ok, ih, setRow_setRow]
    congr 3
    have e := list_seg_step cur.toList (o + i) v rest (by simp at hl ⊢; omega)
    simpa [Array.toList_setIfInBounds, Nat.add_assoc] using e

theorem bvs_single (l : List UInt8) : ∀ u ∈ bvs l, u.oneCell' = true := by
  intro u hu
  simp only [bvs, List.mem_map] at hu
  obtain ⟨b, _, rfl⟩ := hu
  rfl

theorem bvs_app (a b : List UInt8) : bvs (a ++ b) = bvs a ++ bvs b := by simp [bvs]

/-- What is left when a row had room. -/
theorem MB.room {B g cap : Nat} {w : World} {cur : Array Value} {fz : Nat × Nat} {l k : List UInt8} (hB : B ≤ g) (hg : w.heap[g]? = some (.cells cur 5 fz)) (hf : fz.2 = 0 ∨ cap ≤ fz.1) (hr : l.length + k.length ≤ cap) (hm : cap ≤ maxLen) (hs : cur.size = cap) (ht : cur.toList.take l.length = bvs l) :
    MB B (w.setRow g (cur.toList.take l.length ++ bvs k ++ cur.toList.drop (l.length + k.length)).toArray) (.slice (some ⟨g, 0, none⟩) (l.length + k.length) cap) (l ++ k) ∧ Below B w (w.setRow g (cur.toList.take l.length ++ bvs k ++ cur.toList.drop (l.length + k.length)).toArray) := by
  refine ⟨⟨g, cap, _, fz, by rw [List.length_append], hB, setRow_heap w g cur _ 5 _ hg, hf, by rw [List.length_append]; exact hr, hm, ?_, ?_⟩, ⟨rfl, rfl, rfl, by simp, fun j hj => setRow_other w g j _ (by omega)⟩⟩
  · simp only [List.size_toArray, List.length_append, List.length_take, List.length_drop, Array.length_toList, bvs_len]
    omega
  · rw [ht, ← bvs_app, show (l ++ k).length = (bvs (l ++ k)).length by rw [bvs_len]]
    exact List.take_left

theorem MB.grow {B : Nat} {w : World} {l k : List UInt8} {cap : Nat} (hB : B ≤ w.heap.size) (h1 : l.length + k.length ≤ cap) (h2 : cap ≤ maxLen) (z : Array Value) (hz : z.size = cap - (l.length + k.length)) :
    MB B (w.drew.alloc (.cells ((bvs l).toArray ++ (bvs k).toArray ++ z) 5)) (.slice (some ⟨w.heap.size, 0, none⟩) (l.length + k.length) cap) (l ++ k) ∧ Below B w (w.drew.alloc (.cells ((bvs l).toArray ++ (bvs k).toArray ++ z) 5)) := by
  refine ⟨⟨w.heap.size, cap, _, (0, 0), by rw [List.length_append], hB, heap_alloc_new w.drew _, .inl rfl, by rw [List.length_append]; exact h1, h2, ?_, ?_⟩, ((Below.refl B w).drew).alloc hB _⟩
  · simp only [Array.size_append, List.size_toArray, bvs_len, hz]
    omega
  · simp only [Array.toList_append]
    rw [← bvs_app, show (l ++ k).length = (bvs (l ++ k)).length by rw [bvs_len]]
    exact List.take_left

theorem run_app_slice (w : World) (ty : TypeId) {B : Nat} {v : Value} {l k : List UInt8} (h : MB B w v l) (a : Addr) (c : Nat) (hk : ∀ j u, (bvs k)[j]? = some u → w.cell? (a.add j) = some u) (hl : l.length + k.length ≤ 1000000) (hB : B ≤ w.heap.size) :
    ∃ v' w', (Builtin.append_ #[27, 27] ty #[v, .slice (some a) k.length c]).run Tryd.prog w = .ok v' w' ∧ MB B w' v' (l ++ k) ∧ Below B w w' := by
  obtain ⟨i0, hi, hz0, hz1, hz2⟩ := info_parts Tryd.info5
  have hrb := h.rb
  obtain ⟨g, cap, cur, fz, rfl, hBg, hg, hf, h1, h2, h3, h4⟩ := h
  by_cases hr : l.length + k.length ≤ cap
  · have hfc := run_firstCells_some (P := Tryd.prog) w 1 k.length a k.length c (bvs k) (by rw [bvs_len]; omega) hk
    have hst := store_ahead Tryd.prog g l.length 5 fz (bvs k) 0 cur w hg (by rw [bvs_len]; omega) (by rw [bvs_len]; omega) (bvs_single k)
    simp only [Nat.add_zero, bvs_len] at hst
    obtain ⟨m1, m2⟩ := MB.room hBg hg hf hr h2 h3 h4
    refine ⟨_, _, ?_, m1, m2⟩
    simp [Builtin.append_, run_underlying Tryd.underlying27, sizeOf, typeInfo, hi, hz1, Builtin.lenOf, hr, hfc, Addr.add_lit, hst]
  · have hro := run_append_grow (P := Tryd.prog) w 27 ty 5 i0 (.int .u8 0) Tryd.underlying27 hi hz0 ⟨g, 0, none⟩ l.length cap (bvs l) (by rw [bvs_len, hz1]; omega) hrb.cells.2 a k.length c (bvs k) (by rw [bvs_len, hz1]; omega) hk (by omega) (by omega) (by rw [hz2]; exact growslice_fits (by omega) (by omega))
    have hge := grownCap_ge w (l.length + k.length) cap 5
    have hle := grownCap_le_maxLen w (l.length + k.length) cap 5 (by unfold maxLen; omega)
    obtain ⟨m1, m2⟩ := MB.grow (w := w) (l := l) (k := k) hB hge hle (Builtin.zeroCells (Value.int .u8 0).cells (grownCap w (l.length + k.length) cap 5 - (l.length + k.length))) (by rw [size_zeroCells]; exact Nat.mul_one _)
    exact ⟨_, _, hro, m1, m2⟩

theorem str_cells (k : List UInt8) : Lib.strCells ⟨k.toArray⟩ = bvs k := by
  simp [Lib.strCells, bvs]

theorem str_size (k : List UInt8) : (⟨k.toArray⟩ : ByteArray).size = k.length := by simp [ByteArray.size]

theorem run_app_str (w : World) (ty : TypeId) {B : Nat} {v : Value} {l k : List UInt8} (h : MB B w v l) (hl : l.length + k.length ≤ 1000000) (hB : B ≤ w.heap.size) :
    ∃ v' w', (Builtin.append_ #[27, 9] ty #[v, .string ⟨k.toArray⟩]).run Tryd.prog w = .ok v' w' ∧ MB B w' v' (l ++ k) ∧ Below B w w' := by
  obtain ⟨i0, hi, hz0, hz1, hz2⟩ := info_parts Tryd.info5
  have hrb := h.rb
  obtain ⟨g, cap, cur, fz, rfl, hBg, hg, hf, h1, h2, h3, h4⟩ := h
  by_cases hr : l.length + k.length ≤ cap
  · have hfc := Lib.run_firstCells_string (P := Tryd.prog) w 1 ⟨k.toArray⟩
    have hst := store_ahead Tryd.prog g l.length 5 fz (bvs k) 0 cur w hg (by rw [bvs_len]; omega) (by rw [bvs_len]; omega) (bvs_single k)
    simp only [Nat.add_zero, bvs_len] at hst
    rw [str_cells, str_size] at hfc
    obtain ⟨m1, m2⟩ := MB.room hBg hg hf hr h2 h3 h4
    refine ⟨_, _, ?_, m1, m2⟩
    simp [Builtin.append_, run_underlying Tryd.underlying27, run_underlying Tryd.underlying9, sizeOf, typeInfo, hi, hz1, Builtin.lenOf, str_size, hr, hfc, Addr.add_lit, hst]
  · have hro := Lib.run_append_grow_string (P := Tryd.prog) w 27 9 ty 5 i0 (.int .u8 0) Tryd.underlying27 Tryd.underlying9 hi hz0 ⟨g, 0, none⟩ l.length cap (bvs l) (by rw [bvs_len, hz1]; omega) hrb.cells.2 ⟨k.toArray⟩ (by rw [str_size]; omega) (by rw [str_size]; omega) (by rw [hz2, str_size]; exact growslice_fits (by omega) (by omega))
    rw [str_size, str_cells] at hro
    have hge := grownCap_ge w (l.length + k.length) cap 5
    have hle := grownCap_le_maxLen w (l.length + k.length) cap 5 (by unfold maxLen; omega)
    obtain ⟨m1, m2⟩ := MB.grow (w := w) (l := l) (k := k) hB hge hle (Builtin.zeroCells (Value.int .u8 0).cells (grownCap w (l.length + k.length) cap 5 - (l.length + k.length))) (by rw [size_zeroCells]; exact Nat.mul_one _)
    exact ⟨_, _, hro, m1, m2⟩

/-- append, for the walk: bytes behind bytes. -/
theorem app_slice {ops : Array Oper} {rest : List Oper} {o : Oper} {a : Act} {w : World} {Q : Exit → Act → World → Prop} (hgd : o.guard = none) (s x : Operand)
    (ho : o.op = .call { callee := .builtin .append, args := #[s, x], argTypes := #[27, 27] }) (B : Nat) (v : Value) (l k : List UInt8) (hs : a.eval s = v) (hv : MB B w v l)
    (ad : Addr) (m c : Nat) (hx : a.eval x = .slice (some ad) m c) (hm : m = k.length) (hk : ∀ j u, (bvs k)[j]? = some u → w.cell? (ad.add j) = some u) (hl : l.length + k.length ≤ 1000000) (hB : B ≤ w.heap.size)
    (h : ∀ v' w', MB B w' v' (l ++ k) → Below B w w' → wpList Tryd.prog ops Q rest (a.put o.dst v') w') : wpList Tryd.prog ops Q (o :: rest) a w := by
  subst hm
  refine wpList_plain hgd fun K hK => ?_
  obtain ⟨v', w', hr, h2, h3⟩ := run_app_slice w o.type hv ad c hk hl hB
  unfold Oper.wp execOp
  simp only [ho, resolve, invoke, builtin, Sem.run_bind, Sem.run_pure, Result.andThen_ok, List.map_toArray, List.map_cons, List.map_nil, hs, hx, hr]
  exact hK _ _ (h v' w' h2 h3)

theorem app_str {ops : Array Oper} {rest : List Oper} {o : Oper} {a : Act} {w : World} {Q : Exit → Act → World → Prop} (hgd : o.guard = none) (s x : Operand)
    (ho : o.op = .call { callee := .builtin .append, args := #[s, x], argTypes := #[27, 9] }) (B : Nat) (v : Value) (l k : List UInt8) (hs : a.eval s = v) (hv : MB B w v l)
    (hx : a.eval x = .string ⟨k.toArray⟩) (hl : l.length + k.length ≤ 1000000) (hB : B ≤ w.heap.size)
    (h : ∀ v' w', MB B w' v' (l ++ k) → Below B w w' → wpList Tryd.prog ops Q rest (a.put o.dst v') w') : wpList Tryd.prog ops Q (o :: rest) a w := by
  refine wpList_plain hgd fun K hK => ?_
  obtain ⟨v', w', hr, h2, h3⟩ := run_app_str w o.type hv hl hB
  unfold Oper.wp execOp
  simp only [ho, resolve, invoke, builtin, Sem.run_bind, Sem.run_pure, Result.andThen_ok, List.map_toArray, List.map_cons, List.map_nil, hs, hx, hr]
  exact hK _ _ (h v' w' h2 h3)

/-- A text's bytes. -/
theorem bytes_of (l : List UInt8) (w : World) (hl : l.length ≤ 1000000) (B : Nat) (hB : B ≤ w.heap.size) :
    ∃ V w', (convert 9 27 (.string ⟨l.toArray⟩)).run Tryd.prog w = .ok V w' ∧ MB B w' V l ∧ Below w.heap.size w w' := by
  refine ⟨_, _, run_bytes_of_string w 9 27 5 ⟨l.toArray⟩ Tryd.underlying9 Tryd.underlying27 Tryd.underlying5, ?_, ((Below.refl _ w).drew).alloc (Nat.le_refl _) _⟩
  have hge := grownCap_ge w l.length 0 5
  have hle := grownCap_le_maxLen w l.length 0 5 (by unfold maxLen; omega)
  rw [str_size]
  generalize grownCap w l.length 0 5 = cap at *
  have hsz : (bytesRow ⟨l.toArray⟩ cap).size = cap := by
    unfold bytesRow
    rw [Array.size_append, Array.size_map, Array.size_replicate, str_size]
    simp
    omega
  refine ⟨w.heap.size, cap, bytesRow ⟨l.toArray⟩ cap, _, rfl, hB, heap_alloc_new w.drew _, .inr ?_, hge, hle, hsz, ?_⟩
  · show cap ≤ (bytesRow ⟨l.toArray⟩ cap).size
    omega
  · unfold bytesRow
    rw [Array.toList_append]
    have e : (Array.map (fun b : UInt8 => Value.int IntKind.u8 (b.toNat : Int)) (⟨l.toArray⟩ : ByteArray).data).toList = bvs l := by simp [bvs]
    rw [e, show l.length = (bvs l).length by rw [bvs_len]]
    exact List.take_left
end Go.Proofs.YtcnodkkdhkkicaaDoor
