/- Calls and jobs that came in: how they read. -/
import Derived.Test.YthbckfncpnobcaaWl
import Derived.Test.YthbckfncpnobcaaRr
import Derived.Deep.Strs
import Derived.Deep.SlicePairs
import Derived.ProofKit
import Derived.OpenShut
import Derived.ShutString
namespace Go.Proofs.Ythbckfncpnobcaa
open Go.RowKit Go.ChangeShapes Go.WideShapes Go.ChangeAt
set_option linter.unusedVariables false

theorem Try.cells37 : Try.prog.cellsOf 37 = 7 := by kernel_rfl
theorem Try.cells35 : Try.prog.cellsOf 35 = 6 := by kernel_rfl
theorem Try.cells33 : Try.prog.cellsOf 33 = 1 := by kernel_rfl
theorem Try.cells32 : Try.prog.cellsOf 32 = 3 := by kernel_rfl
theorem Try.cells3 : Try.prog.cellsOf 3 = 1 := by kernel_rfl
theorem Try.cells4 : Try.prog.cellsOf 4 = 1 := by kernel_rfl

variable {H : Type} {enc : TypeId × Value → H} {w : World} {base : Nat} {spare : Nat → Bool} {held : Bool}

instance : Inhabited Ac := ⟨(0, (⟨0, false, 0, false, 0, []⟩, .bool false))⟩

theorem RI.rs {w : World} {v : Value} {l : List Int} (h : RI w v l) : RS (fun k => k < w.heap.size) w v l := by
  have h9 := h
  obtain ⟨a, cap, rfl, _, _, hc⟩ := h
  refine ⟨h9, fun h0 a2 n c he => ?_⟩
  obtain ⟨b, off, ha, hcell⟩ := hc 0 h0
  subst ha
  simp only [Value.slice.injEq, Option.some.injEq] at he
  obtain ⟨rfl, _, _⟩ := he
  exact World.block_lt_of_cell? _ _ hcell

set_option maxRecDepth 1000000 in
theorem open_key {fuel : Nat} {cs : List Value} {x : DataW H × List MemPlace} (h : DataW.trod enc Try.prog w base spare held fuel 32 cs = some x) :
    ∃ (i : Int) (u : Bool) (t : Int), cs = [.int .i64 i, .bool u, .int .i64 t] := by
  obtain ⟨xs, n', hn', _, hcl, hxl, hfs⟩ := DataW.trod_struct Try.underlying32 h
  rw [Try.cells32] at hcl
  have hx3 : xs.length = 3 := by simpa using hxl
  match cs, hcl with
  | [v0, v1, v2], _ =>
    have g0 := hfs 0 _ rfl
    have g1 := hfs 1 _ rfl
    have g2 := hfs 2 _ rfl
    simp [Try.cells3] at g0 
    simp [Try.cells3, Try.cells4] at g1 g2
    rw [List.getElem?_eq_getElem (by omega)] at g0 g1 g2
    obtain ⟨n0, e0, _, z0⟩ := DataW.trod_int Try.underlying3 g0
    obtain ⟨n1, e1, _⟩ := DataW.trod_bool Try.underlying4 g1
    obtain ⟨n2, e2, _, z2⟩ := DataW.trod_int Try.underlying3 g2
    simp only [List.cons.injEq, and_true] at e0 e1 e2
    subst e0 e1 e2
    exact ⟨n0, n1, n2, rfl⟩

set_option maxRecDepth 1000000 in
theorem open_job {fuel : Nat} {cs : List Value} {x : DataW H × List MemPlace} (h : DataW.trod enc Try.prog w base spare held fuel 35 cs = some x) :
    ∃ (j : Jb) (sv : Value), cs = [.int .i64 j.i, .bool j.u, .int .i64 j.t, .bool j.b, .int .i64 j.k, sv] ∧ RI w sv j.s := by
  obtain ⟨xs, n', hn', _, hcl, hxl, hfs⟩ := DataW.trod_struct Try.underlying35 h
  rw [Try.cells35] at hcl
  have hx4 : xs.length = 4 := by simpa using hxl
  match cs, hcl with
  | [v0, v1, v2, v3, v4, v5], _ =>
    have g0 := hfs 0 _ rfl
    have g1 := hfs 1 _ rfl
    have g2 := hfs 2 _ rfl
    have g3 := hfs 3 _ rfl
    simp [Try.cells3, Try.cells4, Try.cells32, Try.cells33] at g0 g1 g2 g3
    rw [List.getElem?_eq_getElem (by omega)] at g0 g1 g2 g3
    obtain ⟨i, u, t, e0⟩ := open_key g0
    obtain ⟨n1, e1, _⟩ := DataW.trod_bool Try.underlying4 g1
    obtain ⟨n2, e2, _, z2⟩ := DataW.trod_int Try.underlying3 g2
    obtain ⟨sv, l, e3, hl⟩ := open_i64s g3
    simp only [List.cons.injEq, and_true] at e0 e1 e2 e3
    obtain ⟨rfl, rfl, rfl⟩ := e0
    subst e1 e2 e3
    exact ⟨⟨i, u, t, n1, n2, l⟩, v5, rfl, hl⟩

set_option maxRecDepth 1000000 in
theorem open_act {fuel : Nat} {cs : List Value} {x : DataW H × List MemPlace} (h : DataW.trod enc Try.prog w base spare held fuel 37 cs = some x) :
    ∃ (a : Ac), cs = [.int .i64 a.1, .int .i64 a.2.1.i, .bool a.2.1.u, .int .i64 a.2.1.t, .bool a.2.1.b, .int .i64 a.2.1.k, a.2.2] ∧ RI w a.2.2 a.2.1.s := by
  obtain ⟨xs, n', hn', _, hcl, hxl, hfs⟩ := DataW.trod_struct Try.underlying37 h
  rw [Try.cells37] at hcl
  have hx4 : xs.length = 2 := by simpa using hxl
  match cs, hcl with
  | [v0, v1, v2, v3, v4, v5, v6], _ =>
    have g0 := hfs 0 _ rfl
    have g1 := hfs 1 _ rfl
    simp [Try.cells3, Try.cells35] at g0 g1
    rw [List.getElem?_eq_getElem (by omega)] at g0 g1
    obtain ⟨n0, e0, _, z0⟩ := DataW.trod_int Try.underlying3 g0
    obtain ⟨j, sv, e1, hl⟩ := open_job g1
    simp only [List.cons.injEq, and_true] at e0 e1
    obtain ⟨rfl, rfl, rfl, rfl, rfl, rfl⟩ := e1
    subst e0
    exact ⟨(n0, (j, v6)), rfl, hl⟩

theorem open_acts {fuel : Nat} {a : Option Addr} {len cap : Nat} {x : DataW H × List MemPlace}
    (h : DataW.trod enc Try.prog w base spare held fuel 22 [.slice a len cap] = some x) : ∃ L, RA w (.slice a len cap) L := by
  rcases Go.Deep.open_slice Try.underlying22 h with ⟨hcs, _⟩ | ⟨ad, l2, c2, m, n, D, Pl, hcs, hb, hl, hm, hmm, rfl, hx⟩
  · simp at hcs
    obtain ⟨rfl, rfl, rfl⟩ := hcs
    exact ⟨[], none, 0, rfl, Nat.le_refl _, by unfold maxLen; omega, by simp⟩
  · simp at hcs
    obtain ⟨rfl, rfl, rfl⟩ := hcs
    have hlm : len ≤ m := by rw [hmm]; split <;> omega
    have each : ∀ i, i < len → ∃ t : Ac, w.cell? (ad.add (i * 7)) = some (.int .i64 t.1) ∧ w.cell? (ad.add (i * 7 + 1)) = some (.int .i64 t.2.1.i) ∧ w.cell? (ad.add (i * 7 + 2)) = some (.bool t.2.1.u) ∧ w.cell? (ad.add (i * 7 + 3)) = some (.int .i64 t.2.1.t) ∧ w.cell? (ad.add (i * 7 + 4)) = some (.bool t.2.1.b) ∧ w.cell? (ad.add (i * 7 + 5)) = some (.int .i64 t.2.1.k) ∧ w.cell? (ad.add (i * 7 + 6)) = some t.2.2 ∧ RI w t.2.2 t.2.1.s := by
      intro i hi
      obtain ⟨cs', h1, h2⟩ := hx i (by omega)
      rw [Try.cells37] at h1
      obtain ⟨_, hlen, hcell⟩ := World.cells?_some h1
      obtain ⟨y, rfl, q1⟩ := open_act h2
      have k0 := hcell 0 (by omega)
      have k1 := hcell 1 (by omega)
      have k2 := hcell 2 (by omega)
      have k3 := hcell 3 (by omega)
      have k4 := hcell 4 (by omega)
      have k5 := hcell 5 (by omega)
      have k6 := hcell 6 (by omega)
      rw [Go.Deep.add_add] at k0 k1 k2 k3 k4 k5 k6
      exact ⟨y, by simpa using k0, by simpa using k1, by simpa using k2, by simpa using k3, by simpa using k4, by simpa using k5, by simpa using k6, q1⟩
    obtain ⟨q, hq⟩ := Go.Deep.choose_lt each
    refine ⟨(List.range len).map fun i => q i, some ad, cap, by simp, by simpa using hl, hm, fun i t hi => ?_⟩
    have hil : i < len := by have := (List.getElem?_eq_some_iff.1 hi).1; simpa using this
    have ht : t = q i := by simp [hil] at hi; exact hi.symm
    subst ht
    obtain ⟨b, off, spot⟩ := ad
    have hspot : spot = none := by simpa [Addr.add] using World.cell?_spot (hq 0 (by omega)).1
    subst hspot
    obtain ⟨a0, a1, a2, a3, a4, a5, a6, a7⟩ := hq i hil
    rw [add_plain] at a0 a1 a2 a3 a4 a5 a6
    have ee : ∀ k, off + (i * 7 + (1 + k)) = off + i * 7 + 1 + k := fun k => by omega
    exact ⟨b, off, rfl, a0, ⟨by rw [Nat.add_assoc]; exact a1, by rw [← ee 1]; exact a2, by rw [← ee 2]; exact a3, by rw [← ee 3]; exact a4, by rw [← ee 4]; exact a5, by rw [← ee 5]; exact a6⟩, a7.rs⟩
end Go.Proofs.Ythbckfncpnobcaa
