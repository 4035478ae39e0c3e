/- Whole numbers in memory; the walks over wire.Puts and wire.Takes. -/
import Derived.Test.YthkndkbffiaknaaWa
namespace Go.Proofs.Ythkndkbffiaknaa

set_option maxRecDepth 1000000

open Go.RowKit

set_option linter.unusedVariables false

theorem Try.info3 : (Try.prog.info? 3).map (fun i => (i.zero, i.size, i.bytes)) = some (some (.int .i64 0), 1, 8) := by kernel_rfl

/-- A slice of ints that reads as a list. -/
def RI (w : World) (v : Value) (l : List Int) : Prop :=
  ∃ a cap, v = .slice a l.length cap ∧ l.length ≤ cap ∧ cap ≤ maxLen ∧ ∀ i, i < l.length → ∃ b off, a = some ⟨b, off, none⟩ ∧ w.cell? ⟨b, off + i, none⟩ = some (.int .i64 (l.getD i 0))

theorem RI.later {w w' : World} {v : Value} {l : List Int} (h : RI w v l) (hb : Below w.heap.size w w') : RI w' v l := by
  obtain ⟨a, cap, rfl, h1, h2, hc⟩ := h
  refine ⟨a, cap, rfl, h1, h2, fun i hi => ?_⟩
  obtain ⟨b, off, rfl, hcell⟩ := hc i hi
  exact ⟨b, off, rfl, cell_later hb hcell⟩

theorem RI.nil (w : World) : RI w (.slice none 0 0) [] := ⟨none, 0, rfl, by simp, by unfold maxLen; omega, by simp⟩

def ivs (l : List Int) : List Value := l.map fun x => .int .i64 x

theorem cell_row {w : World} {b : Nat} {cs : Array Value} {t : TypeId} (h : w.heap[b]? = some (.cells cs t (0, 0))) (i : Nat) : w.cell? ⟨b, i, none⟩ = cs[i]? := by
  simp [World.cell?, h]

theorem froz_row {w : World} {b : Nat} {cs : Array Value} {t : TypeId} (h : w.heap[b]? = some (.cells cs t (0, 0))) (i : Nat) : w.frozen? ⟨b, i, none⟩ = false := by
  simp [World.frozen?, h]

theorem row_set {w : World} {b : Nat} {cs : Array Value} {t : TypeId} (h : w.heap[b]? = some (.cells cs t (0, 0))) (i : Nat) (v : Value) : (w.setCell ⟨b, i, none⟩ v).heap[b]? = some (.cells (cs.setIfInBounds i v) t (0, 0)) := by
  obtain ⟨hlt, hk'⟩ := Array.getElem?_eq_some_iff.1 h
  simp only [World.setCell]
  rw [Array.getElem?_eq_getElem (by rw [Array.size_modify]; exact hlt), Array.getElem_modify_self, hk']
  rfl

theorem row_new (w : World) (cs : Array Value) (t : TypeId) : (w.alloc (.cells cs t)).heap[w.heap.size]? = some (.cells cs t (0, 0)) := by
  show (w.heap.push _)[w.heap.size]? = _
  simp

/-- Ints of the call's own, in a block. -/
def RowI (w : World) (b : Nat) (L : List Int) : Prop := w.heap[b]? = some (.cells (ivs L).toArray 3 (0, 0))

theorem RowI.get {w : World} {b : Nat} {L : List Int} (h : RowI w b L) (t : Nat) (ht : t < L.length) : w.cell? ⟨b, t, none⟩ = some (.int .i64 (L.getD t 0)) ∧ w.frozen? ⟨b, t, none⟩ = false := by
  have hg : L[t]? = some (L.getD t 0) := by rw [List.getD_eq_getElem?_getD, List.getElem?_eq_getElem ht]; rfl
  refine ⟨?_, froz_row h t⟩
  rw [cell_row h t, List.getElem?_toArray, ivs, List.getElem?_map, hg]
  rfl

theorem RowI.set {w : World} {b : Nat} {L : List Int} (h : RowI w b L) (t : Nat) (x : Int) : RowI (w.setCell ⟨b, t, none⟩ (.int .i64 x)) b (L.set t x) := by
  have := row_set h t (.int .i64 x)
  rw [show (ivs L).toArray.setIfInBounds t (.int .i64 x) = (ivs (L.set t x)).toArray by simp [ivs, List.map_set]] at this
  exact this

theorem RowI.below {w w' : World} {b : Nat} {L : List Int} (h : RowI w b L) (hb : Below w.heap.size w w') : RowI w' b L := (hb.block b (Array.getElem?_eq_some_iff.1 h).1).trans h

theorem RowI.ri {w : World} {b : Nat} {L : List Int} (h : RowI w b L) (hl : L.length ≤ 1000000) : RI w (.slice (some ⟨b, 0, none⟩) L.length L.length) L := by
  refine ⟨_, _, rfl, Nat.le_refl _, by unfold maxLen; omega, fun i hi => ⟨b, 0, rfl, ?_⟩⟩
  rw [Nat.zero_add]
  exact (h.get i hi).1

end Go.Proofs.Ythkndkbffiaknaa
