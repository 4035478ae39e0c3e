/- Words about tokens in memory: a slice of tokens that the call has made, the scan's own block, and what is left as it was. -/
import Derived.Test.YtchdecoceokcmaaWH
import Derived.Test.YtchdecoceokcmaaMd
import Derived.Laws.OwnMore
namespace Go.Proofs.Ytchdecoceokcmaa
open Go.RowKit

/-- A token as it lies in memory. -/
def tv (t : Tok) : List Value := [.int .i64 t.kind, .string ⟨t.text.toArray⟩, .int .i64 (t.at_ : Int)]

/-- Tokens as they lie in memory. -/
def tvs : List Tok → List Value
  | [] => []
  | t :: l => tv t ++ tvs l

theorem tvs_append (a b : List Tok) : tvs (a ++ b) = tvs a ++ tvs b := by
  induction a with
  | nil => rfl
  | cons t a ih => simp [tvs, ih]

theorem tvs_len (a : List Tok) : (tvs a).length = a.length * 3 := by
  induction a with
  | nil => rfl
  | cons t a ih => simp [tvs, tv, ih]; omega

theorem tvs_one (t : Tok) : tvs [t] = tv t := by simp [tvs]

theorem tvs_at (a : List Tok) (i j : Nat) (t : Tok) (h : a[i]? = some t) (hj : j < 3) : (tvs a)[i * 3 + j]? = (tv t)[j]? := by
  induction a generalizing i with
  | nil => simp at h
  | cons x a ih =>
    cases i with
    | zero =>
      simp at h
      subst h
      simp only [tvs, Nat.zero_mul, Nat.zero_add]
      rw [List.getElem?_append_left (by simp [tv]; omega)]
    | succ i =>
      simp at h
      simp only [tvs]
      rw [List.getElem?_append_right (by simp [tv]; omega)]
      have e : (i + 1) * 3 + j - (tv x).length = i * 3 + j := by simp [tv]; omega
      rw [e]
      exact ih i h

theorem tv_one_cell (t : Tok) : ∀ u ∈ tv t, u.oneCell' = true := by
  intro u hu
  simp [tv] at hu
  rcases hu with rfl | rfl | rfl <;> rfl

/-- All below a block is as it was, but for one block. -/
structure KB (b B : Nat) (w w' : World) : Prop where
  os : w'.os = w.os
  tape : w'.tape = w.tape
  output : w'.output = w.output
  size : w.heap.size ≤ w'.heap.size
  block : ∀ k, k < B → k ≠ b → w'.heap[k]? = w.heap[k]?

theorem KB.refl (b B : Nat) (w : World) : KB b B w w := ⟨rfl, rfl, rfl, Nat.le_refl _, fun _ _ _ => rfl⟩

theorem KB.trans {b B : Nat} {x y z : World} (h : KB b B x y) (k : KB b B y z) : KB b B x z :=
  ⟨k.os.trans h.os, k.tape.trans h.tape, k.output.trans h.output, Nat.le_trans h.size k.size, fun i hi hn => (k.block i hi hn).trans (h.block i hi hn)⟩

theorem KB.of_below {b B : Nat} {x y : World} (h : Below B x y) : KB b B x y := ⟨h.os, h.tape, h.output, h.size, fun i hi _ => h.block i hi⟩

theorem KB.setCell (b B : Nat) (w : World) (i : Nat) (v : Value) : KB b B w (w.setCell ⟨b, i, none⟩ v) :=
  ⟨rfl, rfl, rfl, by simp, fun k _ hn => heap_setCell_other w ⟨b, i, none⟩ k v hn⟩

theorem KB.setFar {b B : Nat} (w : World) (g i : Nat) (v : Value) (hg : B ≤ g) : KB b B w (w.setCell ⟨g, i, none⟩ v) :=
  ⟨rfl, rfl, rfl, by simp, fun k hk _ => heap_setCell_other w ⟨g, i, none⟩ k v (by show k ≠ g; omega)⟩

theorem KB.drewN {b B : Nat} {x y : World} (h : KB b B x y) (n : Nat) : KB b B x (y.drewN n) := ⟨h.os, h.tape, h.output, h.size, h.block⟩

theorem KB.below {b B B0 : Nat} {x y : World} (h : KB b B x y) (h1 : B0 ≤ b) (h2 : B0 ≤ B) : Below B0 x y :=
  ⟨h.os, h.tape, h.output, h.size, fun k hk => h.block k (by omega) (by omega)⟩

/-- The scan's block and its tokens. -/
structure ScanAt (w : World) (b B : Nat) (s : ByteArray) (v : Value) (st : Sc) : Prop where
  blk : w.heap[b]? = some (.cells #[.string s, v, .bool st.cur.isSome, .bool st.remark] 46 (0, 0))
  own : w.ownsRow B 38 3 v st.toks.length (tvs st.toks)
  lt : b < B
  le : B ≤ w.heap.size

theorem cell_blk {w : World} {b : Nat} {cs : Array Value} {t : TypeId} (h : w.heap[b]? = some (.cells cs t (0, 0))) (i : Nat) : w.cell? ⟨b, i, none⟩ = cs[i]? := cell_of_row w b i cs t (0, 0) h

/-- The last token of a slice that the call has made. -/
theorem last_tok {w : World} {B : Nat} {v : Value} {l : List Tok} {t : Tok} (h : w.ownsRow B 38 3 v (l ++ [t]).length (tvs (l ++ [t]))) :
    ∃ g cap, v = .slice (some ⟨g, 0, none⟩) (l.length + 1) cap ∧ B ≤ g ∧ g < w.heap.size ∧ l.length < cap ∧ cap ≤ maxLen ∧
      w.cell? ⟨g, l.length * 3, none⟩ = some (.int .i64 t.kind) ∧ w.cell? ⟨g, l.length * 3 + 1, none⟩ = some (.string ⟨t.text.toArray⟩) ∧ w.cell? ⟨g, l.length * 3 + 2, none⟩ = some (.int .i64 (t.at_ : Int)) ∧
      (∀ j, w.frozen? ⟨g, j, none⟩ = false) := by
  have hl : (l ++ [t]).length = l.length + 1 := by simp
  rw [hl] at h
  have hlast : (l ++ [t])[l.length]? = some t := by simp
  rcases h.2 with ⟨_, h0⟩ | ⟨g, cap, cur, rfl, hb, hg, hnc, hcm, _⟩
  · omega
  · refine ⟨g, cap, rfl, hb, (Array.getElem?_eq_some_iff.1 hg).1, by omega, hcm, ?_, ?_, ?_, fun j => h.frozenAt j⟩
    · rw [h.cellAt _ (by omega)]
      exact tvs_at _ l.length 0 t hlast (by omega)
    · rw [h.cellAt _ (by omega)]
      exact tvs_at _ l.length 1 t hlast (by omega)
    · rw [h.cellAt _ (by omega)]
      exact tvs_at _ l.length 2 t hlast (by omega)

theorem last_at {w : World} {B g cap : Nat} {l : List Tok} {t : Tok} (h : w.ownsRow B 38 3 (.slice (some ⟨g, 0, none⟩) (l.length + 1) cap) (l ++ [t]).length (tvs (l ++ [t]))) :
    B ≤ g ∧ g < w.heap.size ∧ l.length < cap ∧ cap ≤ maxLen ∧
      w.cell? ⟨g, l.length * 3, none⟩ = some (.int .i64 t.kind) ∧ w.cell? ⟨g, l.length * 3 + 1, none⟩ = some (.string ⟨t.text.toArray⟩) ∧ w.cell? ⟨g, l.length * 3 + 2, none⟩ = some (.int .i64 (t.at_ : Int)) ∧
      (∀ j, w.frozen? ⟨g, j, none⟩ = false) := by
  obtain ⟨g', cap', e, r⟩ := last_tok h
  simp only [Value.slice.injEq, Option.some.injEq, Addr.mk.injEq, and_true, true_and] at e
  obtain ⟨rfl, rfl⟩ := e
  exact r

theorem tvs_set_text (l : List Tok) (t : Tok) (x : List UInt8) : (tvs (l ++ [t])).set (l.length * 3 + 1) (.string ⟨x.toArray⟩) = tvs (l ++ [⟨t.kind, x, t.at_⟩]) := by
  rw [tvs_append, tvs_append, tvs_one, tvs_one]
  rw [List.set_append_right _ _ (by rw [tvs_len]; omega), tvs_len]
  rw [show l.length * 3 + 1 - l.length * 3 = 1 by omega]
  rfl

theorem set_text {w : World} {B g cap : Nat} {l : List Tok} {t : Tok} (x : List UInt8) (h : w.ownsRow B 38 3 (.slice (some ⟨g, 0, none⟩) (l.length + 1) cap) (l ++ [t]).length (tvs (l ++ [t]))) :
    (w.setCell ⟨g, l.length * 3 + 1, none⟩ (.string ⟨x.toArray⟩)).ownsRow B 38 3 (.slice (some ⟨g, 0, none⟩) (l.length + 1) cap) (l ++ [(⟨t.kind, x, t.at_⟩ : Tok)]).length (tvs (l ++ [⟨t.kind, x, t.at_⟩])) := by
  have hl : (l ++ [t]).length = l.length + 1 := by simp
  rw [hl] at h
  have h2 := (h.stored (l.length * 3 + 1) (.string ⟨x.toArray⟩)).1
  rw [tvs_set_text] at h2
  simpa using h2

/-- A token is put behind the scan's tokens, and the slice is stored. -/
theorem scan_push {W w3 : World} {b B : Nat} {o : Obj} {v v' : Value} {s : ByteArray} {done : List Tok} {t : Tok} {x2 x3 : Value} (hblk : W.heap[b]? = some (.cells #[.string s, v, x2, x3] 46 (0, 0)))
    (hown : W.ownsRow B 38 3 v done.length (tvs done)) (hlt : b < B) (hle : B ≤ W.heap.size) (ho : w3.ownsRow B 38 3 v' (done ++ [t]).length (tvs (done ++ [t]))) (hg : (W.alloc o).grownBy w3 v.ownBlock) :
    w3.heap[b]? = some (.cells #[.string s, v, x2, x3] 46 (0, 0)) ∧ KB b B W w3 ∧
      (∀ u, (w3.setCell ⟨b, 1, none⟩ u).heap[b]? = some (.cells #[.string s, u, x2, x3] 46 (0, 0))) ∧ (∀ u, (w3.setCell ⟨b, 1, none⟩ u).ownsRow B 38 3 v' (done ++ [t]).length (tvs (done ++ [t]))) := by
  have hb3 : w3.heap[b]? = some (.cells #[.string s, v, x2, x3] 46 (0, 0)) := by
    rw [hg.block b (by simp; omega) (fun h => by have := (hown.lt _ h.symm).1; omega), Below.heap_alloc _ _ _ (by omega)]
    exact hblk
  refine ⟨hb3, ?_, fun u => heap_setCell_same w3 b 1 _ 46 u hb3, fun u => ownsRow_setCell_below ho hlt u⟩
  exact KB.of_below (Below.grown ((Below.refl _ _).alloc hle _) hg (by simp; omega) (fun j hj => (hown.lt _ hj).1))

theorem Try.info38 : (Try.prog.info? 38).map (fun i => (i.zero, i.size, i.bytes)) = some (some (.agg #[.int .i64 0, .string ⟨#[]⟩, .int .i64 0]), 3, 32) := by kernel_rfl

/-- A law for the walk: 'append' of one token onto a slice of tokens of the call's own. -/
theorem append_tok {W : World} {ops : Array Oper} {rest : List Oper} {o : Oper} {a : Act} {Q : Exit → Act → World → Prop} (hgd : o.guard = none) (s x : Operand)
    (ho : o.op = .call { callee := .builtin .append, args := #[s, x], argTypes := #[23, 23] }) (B : Nat) (v : Value) (l : List Tok) (hs : a.eval s = v) (hown : W.ownsRow B 38 3 v l.length (tvs l))
    (t : Tok) (A : Addr) (hx : a.eval x = .slice (some A) 1 1) (hcells : ∀ j u, (tv t)[j]? = some u → W.cell? (A.add j) = some u) (hl : l.length ≤ 100000) (hB : B ≤ W.heap.size)
    (h : ∀ g cap w', w'.ownsRow B 38 3 (.slice (some ⟨g, 0, none⟩) (l.length + 1) cap) (l ++ [t]).length (tvs (l ++ [t])) → W.grownBy w' v.ownBlock → wpList Try.prog ops Q rest (a.put o.dst (.slice (some ⟨g, 0, none⟩) (l.length + 1) cap)) w') : wpList Try.prog ops Q (o :: rest) a W := by
  obtain ⟨i0, hi, hz0, hz1, hz2⟩ := info_parts Try.info38
  refine wpList_append_own _ hgd s x 23 ho B 38 i0 _ 3 32 Try.underlying23 hi hz0 hz1 hz2 rfl (by decide) v l.length (tvs l) hs hown A 1 1 (tv t) hx rfl hcells (tv_one_cell t) (by unfold maxLen; omega) (by omega) hB ?_
  intro v' w' hown' hg _
  have ho' : w'.ownsRow B 38 3 v' (l ++ [t]).length (tvs (l ++ [t])) := by rw [tvs_append, tvs_one]; simpa using hown'
  obtain ⟨g, cap, rfl, _⟩ := last_tok ho'
  exact h g cap w' ho' hg

theorem cells_set (w : World) (p : Addr) (q x y z : Value) : ∀ j u, [x, y, z][j]? = some u → ((w.setCell p q).alloc (.cells #[x, y, z] 38)).cell? ((⟨w.heap.size, 0, none⟩ : Addr).add j) = some u := by
  intro j u hj
  have h := cells3 (w.setCell p q) x y z 38 j u hj
  rwa [World.size_setCell] at h
end Go.Proofs.Ytchdecoceokcmaa
