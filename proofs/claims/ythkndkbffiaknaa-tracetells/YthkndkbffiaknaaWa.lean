/- What is known of bytes in memory, and of texts (as in the layer of frames). -/
import Derived.Test.YthkndkbffiaknaaRows
import Derived.BigQuiet
import Derived.Deep.QuietTactic
import Derived.Deep.RegionHeld
import Derived.Laws.AppendOwnNone
import Derived.Laws.BytesArg
import Derived.Laws.IdiomStrings
import Derived.Laws.MakeOwn
import Derived.Laws.Rows
import Derived.Lib.SliceRun
import Derived.WalkKit
import Derived.WalkLawsBesides
import Derived.WalkSpells
namespace Go.Proofs.Ythkndkbffiaknaa

set_option maxRecDepth 1000000

open Go.RowKit

set_option linter.unusedVariables false

theorem ret_i {k : IntKind} {a b : Int} (h : a = b) : Ending.returned (.int k a) = .returned (.int k b) := by rw [h]

/-- A slice of bytes that reads as a list. -/
def RB (w : World) (v : Value) (l : List UInt8) : Prop :=
  ∃ a cap, v = .slice a l.length cap ∧ l.length ≤ cap ∧ cap ≤ maxLen ∧ (a = none → cap = 0) ∧ ∀ i, i < l.length → ∃ b off, a = some ⟨b, off, none⟩ ∧ w.cell? ⟨b, off + i, none⟩ = some (.int .u8 ((l.getD i 0).toNat : Nat))

/-- Bytes as they lie in memory. -/
def bvs (l : List UInt8) : List Value := l.map fun b => Value.int .u8 (b.toNat : Int)

theorem bvs_len (a : List UInt8) : (bvs a).length = a.length := by simp [bvs]

theorem below_drewN {B : Nat} {a w : World} (h : Below B a w) (n : Nat) : Below B a (w.drewN n) := h.trans ⟨rfl, rfl, rfl, Nat.le_refl _, fun _ _ => rfl⟩

theorem cell_later {w wx : World} (hb : Below w.heap.size w wx) {a : Addr} {v : Value} (h : w.cell? a = some v) : wx.cell? a = some v := by
  rw [hb.cell (World.block_lt_of_cell? w a h)]
  exact h

theorem RB.later {w wx : World} {v : Value} {l : List UInt8} (h : RB w v l) (hb : Below w.heap.size w wx) : RB wx v l := by
  obtain ⟨a, cap, hv, h1, h2, h3, hc⟩ := h
  refine ⟨a, cap, hv, h1, h2, h3, fun i hi => ?_⟩
  obtain ⟨b, off, ha, hcell⟩ := hc i hi
  exact ⟨b, off, ha, cell_later hb hcell⟩

theorem RB.of_owns {w : World} {B : Nat} {v : Value} {n : Nat} {l : List UInt8} (hown : w.ownsRow B 5 1 v n (bvs l)) (hn : n = l.length) : RB w v l := by
  subst hn
  rcases hown.2 with ⟨rfl, h0⟩ | ⟨g, cap, cur, rfl, _, _, h1, h2, _⟩
  · have h1 : l = [] := List.eq_nil_of_length_eq_zero h0
    subst h1
    exact ⟨none, 0, rfl, by simp, by unfold maxLen; omega, fun _ => rfl, by simp⟩
  · refine ⟨_, cap, rfl, h1, h2, (fun h => by cases h), fun i hi => ⟨g, 0, rfl, ?_⟩⟩
    have h := hown.cellAt i (by omega)
    rw [Nat.zero_add, h]
    simp [bvs, hi]

theorem RB.nil (w : World) : RB w (.slice none 0 0) [] := ⟨none, 0, rfl, by simp, by unfold maxLen; omega, fun _ => rfl, by simp⟩

theorem ret_agg {a b : Value} (h : a = b) : Ending.returned a = .returned b := by rw [h]

theorem bvs_get {l : List UInt8} {j : Nat} {u : Value} (h : (bvs l)[j]? = some u) : j < l.length ∧ u = .int .u8 ((l.getD j 0).toNat : Nat) := by
  have hj : j < l.length := by
    have := (List.getElem?_eq_some_iff.1 h).1
    simpa [bvs] using this
  refine ⟨hj, ?_⟩
  simp [bvs, hj] at h
  rw [← h]
  simp [hj]

theorem RB.cells {w : World} {x : Addr} {n cap : Nat} {l : List UInt8} (h : RB w (.slice (some x) n cap) l) : n = l.length ∧ ∀ j u, (bvs l)[j]? = some u → w.cell? (x.add j) = some u := by
  obtain ⟨a, ca, he, _, _, _, hc⟩ := h
  simp only [Value.slice.injEq] at he
  obtain ⟨rfl, rfl, rfl⟩ := he
  refine ⟨rfl, fun j u hj => ?_⟩
  obtain ⟨hj2, rfl⟩ := bvs_get hj
  obtain ⟨b, off, hb, hcell⟩ := hc j hj2
  simp only [Option.some.injEq] at hb
  subst hb
  rw [Go.WideShapes.add_plain, hcell]

/-- Bytes of the call's own, in a block of their own. -/
def OB (B : Nat) (w : World) (g n cap : Nat) (bs : List UInt8) : Prop := w.ownsRow B 5 1 (.slice (some ⟨g, 0, none⟩) n cap) n (bvs bs)

theorem OB.rb {B : Nat} {w : World} {g n cap : Nat} {bs : List UInt8} (h : OB B w g n cap bs) : n = bs.length ∧ RB w (.slice (some ⟨g, 0, none⟩) n cap) bs := by
  have h0 : n = bs.length := by have := h.1; rw [bvs_len] at this; omega
  exact ⟨h0, RB.of_owns h h0⟩

theorem OB.lt {B : Nat} {w : World} {g n cap : Nat} {bs : List UInt8} (h : OB B w g n cap bs) : B ≤ g ∧ g < w.heap.size := World.ownsRow.lt h g rfl

theorem OB.later {B : Nat} {w w' : World} {g n cap : Nat} {bs : List UInt8} (h : OB B w g n cap bs) (hb : Below w.heap.size w w') : OB B w' g n cap bs := by
  refine ⟨h.1, ?_⟩
  rcases h.2 with hn | ⟨g', cap', cur, e1, e2, e3, rest⟩
  · exact .inl hn
  · refine .inr ⟨g', cap', cur, e1, e2, ?_, rest⟩
    rw [hb.block g' (Array.getElem?_eq_some_iff.1 e3).1]
    exact e3

theorem OB.below {B : Nat} {w w' : World} {g n cap : Nat} {bs : List UInt8} (h : OB B w g n cap bs) (hB : B ≤ w.heap.size) (hg : w.grownBy w' (some g)) : Below B w w' :=
  Below.grown (Below.refl _ _) hg hB (fun k hk => by cases hk; exact h.lt.1)

/-- A slice of no bytes, made anew. -/
theorem OB.made (w : World) (cap : Nat) (cur : Array Value) (hm : cap ≤ maxLen) (hs : cur.size = cap) : OB w.heap.size (w.alloc (.cells cur 5)) w.heap.size 0 cap [] :=
  World.ownsRow_made w cur cap (Nat.le_refl _) hm (by rw [hs, Nat.mul_one])

theorem OB.cap {B : Nat} {w : World} {g n cap : Nat} {bs : List UInt8} (h : OB B w g n cap bs) : n ≤ cap ∧ cap ≤ maxLen := by
  obtain ⟨a', cap', he, g1, g2, _⟩ := h.rb.2
  simp only [Value.slice.injEq] at he
  obtain ⟨rfl, e1, rfl⟩ := he
  exact ⟨by omega, g2⟩

theorem ret_b {a b : Bool} (h : a = b) : Ending.returned (.bool a) = .returned (.bool b) := by rw [h]

theorem OB.cell {B : Nat} {w : World} {g n cap : Nat} {bs : List UInt8} (h : OB B w g n cap bs) (j : Nat) (hj : j < n) : w.cell? ⟨g, j, none⟩ = some (.int .u8 ((bs.getD j 0).toNat : Nat)) := by
  have h0 := h.rb.1
  rw [World.ownsRow.cellAt h j (by omega)]
  have hj2 : j < bs.length := by omega
  simp [bvs, hj2]

end Go.Proofs.Ythkndkbffiaknaa
