/- Effects and keys that came in: how they read. -/
import Derived.Test.YthkndkbffiaknaaWl
import Derived.Test.YthkndkbffiaknaaRa
import Derived.Deep.Strs
import Derived.Deep.SlicePairs
import Derived.ProofKit
import Derived.OpenShut
import Derived.ShutString
namespace Go.Proofs.Ythkndkbffiaknaa.Tz
open Go.RowKit Go.ChangeShapes Go.WideShapes Go.ChangeAt Go.Proofs.Ythkndkbffiaknaa
set_option linter.unusedVariables false
set_option maxRecDepth 1000000

theorem Try.cells37 : Try.prog.cellsOf 37 = 4 := by kernel_rfl

variable {H : Type} {enc : TypeId × Value → H} {w : World} {base : Nat} {spare : Nat → Bool} {held : Bool}

theorem open_key {fuel : Nat} {cs : List Value} {x : DataW H × List MemPlace} (h : DataW.trod enc Try.prog w base spare held fuel 24 cs = some x) :
    ∃ k : Kx, cs = [.int .i64 k.1, .bool k.2.1, .int .i64 k.2.2] ∧ wfK k := by
  obtain ⟨xs, n', hn', _, hcl, hxl, hfs⟩ := DataW.trod_struct Try.underlying24 h
  rw [cells24] at hcl
  have hx3 : xs.length = 3 := by simpa using hxl
  match cs, hcl with
  | [v0, v1, v2], _ =>
    have g0 := hfs 0 _ rfl
    have g1 := hfs 1 _ rfl
    have g2 := hfs 2 _ rfl
    simp [cells3] at g0
    simp [cells3, cells4'] at g1 g2
    rw [List.getElem?_eq_getElem (by omega)] at g0 g1 g2
    obtain ⟨n0, e0, _, z0⟩ := DataW.trod_int Try.underlying3 g0
    obtain ⟨n1, e1, _⟩ := DataW.trod_bool Try.underlying4 g1
    obtain ⟨n2, e2, _, z2⟩ := DataW.trod_int Try.underlying3 g2
    simp only [List.cons.injEq, and_true] at e0 e1 e2
    subst e0 e1 e2
    exact ⟨(n0, n1, n2), rfl, z0, z2⟩

theorem open_ef {fuel : Nat} {cs : List Value} {x : DataW H × List MemPlace} (h : DataW.trod enc Try.prog w base spare held fuel 37 cs = some x) :
    ∃ e : Ef, cs = [.int .i64 e.i, .bool e.u, .int .i64 e.t, .bool e.ok] ∧ wfK e.key := by
  obtain ⟨xs, n', hn', _, hcl, hxl, hfs⟩ := DataW.trod_struct Try.underlying37 h
  rw [Try.cells37] at hcl
  have hx2 : xs.length = 2 := by simpa using hxl
  match cs, hcl with
  | [v0, v1, v2, v3], _ =>
    have g0 := hfs 0 _ rfl
    have g1 := hfs 1 _ rfl
    simp [cells24, cells4'] at g0 g1
    rw [List.getElem?_eq_getElem (by omega)] at g0 g1
    obtain ⟨k, e0, hk⟩ := open_key g0
    obtain ⟨n1, e1, _⟩ := DataW.trod_bool Try.underlying4 g1
    simp only [List.cons.injEq, and_true] at e0 e1
    obtain ⟨rfl, rfl, rfl⟩ := e0
    subst e1
    exact ⟨⟨k.1, k.2.1, k.2.2, n1⟩, rfl, hk⟩

theorem open_effs {fuel : Nat} {a : Option Addr} {len cap : Nat} {x : DataW H × List MemPlace}
    (h : DataW.trod enc Try.prog w base spare held fuel 22 [.slice a len cap] = some x) : ∃ L, RE w (.slice a len cap) L := by
  rcases Go.Deep.open_slice Try.underlying22 h with ⟨hcs, _⟩ | ⟨ad, l2, c2, m, n, D, Pl, hcs, hb, hl, hm, hmm, rfl, hx⟩
  · simp at hcs
    obtain ⟨rfl, rfl, rfl⟩ := hcs
    exact ⟨[], RE.nil w⟩
  · simp at hcs
    obtain ⟨rfl, rfl, rfl⟩ := hcs
    have hlm : len ≤ m := by rw [hmm]; split <;> omega
    have each : ∀ i, i < len → ∃ t : Ef, w.cell? (ad.add (i * 4)) = some (.int .i64 t.i) ∧ w.cell? (ad.add (i * 4 + 1)) = some (.bool t.u) ∧ w.cell? (ad.add (i * 4 + 2)) = some (.int .i64 t.t) ∧ w.cell? (ad.add (i * 4 + 3)) = some (.bool t.ok) ∧ wfK t.key := by
      intro i hi
      obtain ⟨cs', h1, h2⟩ := hx i (by omega)
      rw [Try.cells37] at h1
      obtain ⟨_, hlen, hcell⟩ := World.cells?_some h1
      obtain ⟨y, rfl, q1⟩ := open_ef h2
      have k0 := hcell 0 (by omega)
      have k1 := hcell 1 (by omega)
      have k2 := hcell 2 (by omega)
      have k3 := hcell 3 (by omega)
      rw [Go.Deep.add_add] at k0 k1 k2 k3
      exact ⟨y, by simpa using k0, by simpa using k1, by simpa using k2, by simpa using k3, q1⟩
    obtain ⟨q, hq⟩ := Go.Deep.choose_lt each
    refine ⟨(List.range len).map fun i => q i, some ad, cap, by simp, by simpa using hl, hm, fun i t hi => ?_⟩
    have hil : i < len := by have := (List.getElem?_eq_some_iff.1 hi).1; simpa using this
    have ht : t = q i := by simp [hil] at hi; exact hi.symm
    subst ht
    obtain ⟨b, off, spot⟩ := ad
    have hspot : spot = none := by simpa [Addr.add] using World.cell?_spot (hq 0 (by omega)).1
    subst hspot
    obtain ⟨a0, a1, a2, a3, a9⟩ := hq i hil
    rw [add_at] at a0 a1 a2 a3
    exact ⟨a9, b, off, rfl, a0, by rw [Nat.add_assoc]; exact a1, by rw [Nat.add_assoc]; exact a2, by rw [Nat.add_assoc]; exact a3⟩
end Go.Proofs.Ythkndkbffiaknaa.Tz
