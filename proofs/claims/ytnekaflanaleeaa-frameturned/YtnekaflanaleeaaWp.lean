/- What is known of a byte of the call's own that is written. -/
import Derived.Test.YtnekaflanaleeaaWo
import Derived.Test.YtnekaflanaleeaaMf
namespace Go.Proofs.Ytnekaflanaleeaa
open Go.RowKit
set_option linter.unusedVariables false

theorem OB.set {B : Nat} {w : World} {g n cap : Nat} {bs : List UInt8} (h : OB B w g n cap bs) (j : Nat) (c : UInt8) : OB B (w.setCell ⟨g, j, none⟩ (.int .u8 (c.toNat : Nat))) g n cap (bs.set j c) := by
  have := (World.ownsRow.stored h j (.int .u8 ((c.toNat : Nat) : Int))).1
  unfold OB bvs
  rw [List.map_set]
  exact this

theorem OB.cell {B : Nat} {w : World} {g n cap : Nat} {bs : List UInt8} (h : OB B w g n cap bs) (j : Nat) (hj : j < n) : w.cell? ⟨g, j, none⟩ = some (.int .u8 ((bs.getD j 0).toNat : Nat)) := by
  have h0 := h.rb.1
  rw [World.ownsRow.cellAt h j (by omega)]
  have hj2 : j < bs.length := by omega
  simp [bvs, hj2]

theorem OB.frozen {B : Nat} {w : World} {g n cap : Nat} {bs : List UInt8} (h : OB B w g n cap bs) (j : Nat) : w.frozen? ⟨g, j, none⟩ = false := World.ownsRow.frozenAt h j
end Go.Proofs.Ytnekaflanaleeaa
