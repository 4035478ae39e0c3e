/- Calls and jobs that came in: how they read. -/
import Derived.Test.YtfhmmiilenonkaaWl
import Derived.Test.YtfhmmiilenonkaaVg
import Derived.Deep.Strs
import Derived.Deep.SlicePairs
import Derived.ProofKit
import Derived.OpenShut
import Derived.ShutString
namespace Go.Proofs.Ytfhmmiilenonkaa
open Go.RowKit Go.ChangeShapes Go.WideShapes Go.ChangeAt
set_option linter.unusedVariables false

theorem Try.cells39 : Try.prog.cellsOf 39 = 9 := by kernel_rfl
theorem Try.cells37 : Try.prog.cellsOf 37 = 6 := by kernel_rfl
theorem Try.cells35 : Try.prog.cellsOf 35 = 1 := by kernel_rfl
theorem Try.cells34 : Try.prog.cellsOf 34 = 3 := by kernel_rfl
theorem Try.cells3 : Try.prog.cellsOf 3 = 1 := by kernel_rfl
theorem Try.cells4 : Try.prog.cellsOf 4 = 1 := by kernel_rfl

variable {H : Type} {enc : TypeId × Value → H} {w : World} {base : Nat} {spare : Nat → Bool} {held : Bool}

instance : Inhabited AcP := ⟨(⟨0, 0, 0, ⟨0, false, 0, false, 0, []⟩⟩, .bool false)⟩

theorem RI.rs {w : World} {v : Value} {l : List Int} (h : RI w v l) : RS (fun k => k < w.heap.size) w v l := by
  have h9 := h
  obtain ⟨a, cap, rfl, _, _, hc⟩ := h
  refine ⟨h9, fun h0 a2 n c he => ?_⟩
  obtain ⟨b, off, ha, hcell⟩ := hc 0 h0
  subst ha
  simp only [Value.slice.injEq, Option.some.injEq] at he
  obtain ⟨rfl, _, _⟩ := he
  exact World.block_lt_of_cell? _ _ hcell

set_option maxRecDepth 1000000 in
theorem open_key {fuel : Nat} {cs : List Value} {x : DataW H × List MemPlace} (h : DataW.trod enc Try.prog w base spare held fuel 34 cs = some x) :
    ∃ (i : Int) (u : Bool) (t : Int), cs = [.int .i64 i, .bool u, .int .i64 t] := by
  obtain ⟨xs, n', hn', _, hcl, hxl, hfs⟩ := DataW.trod_struct Try.underlying34 h
  rw [Try.cells34] at hcl
  have hx3 : xs.length = 3 := by simpa using hxl
  match cs, hcl with
  | [v0, v1, v2], _ =>
    have g0 := hfs 0 _ rfl
    have g1 := hfs 1 _ rfl
    have g2 := hfs 2 _ rfl
    simp [Try.cells3] at g0 
    simp [Try.cells3, Try.cells4] at g1 g2
    rw [List.getElem?_eq_getElem (by omega)] at g0 g1 g2
    obtain ⟨n0, e0, _, z0⟩ := DataW.trod_int Try.underlying3 g0
    obtain ⟨n1, e1, _⟩ := DataW.trod_bool Try.underlying4 g1
    obtain ⟨n2, e2, _, z2⟩ := DataW.trod_int Try.underlying3 g2
    simp only [List.cons.injEq, and_true] at e0 e1 e2
    subst e0 e1 e2
    exact ⟨n0, n1, n2, rfl⟩

set_option maxRecDepth 1000000 in
theorem open_job {fuel : Nat} {cs : List Value} {x : DataW H × List MemPlace} (h : DataW.trod enc Try.prog w base spare held fuel 37 cs = some x) :
    ∃ (j : Jb) (sv : Value), cs = [.int .i64 j.i, .bool j.u, .int .i64 j.t, .bool j.b, .int .i64 j.k, sv] ∧ RI w sv j.s := by
  obtain ⟨xs, n', hn', _, hcl, hxl, hfs⟩ := DataW.trod_struct Try.underlying37 h
  rw [Try.cells37] at hcl
  have hx4 : xs.length = 4 := by simpa using hxl
  match cs, hcl with
  | [v0, v1, v2, v3, v4, v5], _ =>
    have g0 := hfs 0 _ rfl
    have g1 := hfs 1 _ rfl
    have g2 := hfs 2 _ rfl
    have g3 := hfs 3 _ rfl
    simp [Try.cells3, Try.cells4, Try.cells34, Try.cells35] at g0 g1 g2 g3
    rw [List.getElem?_eq_getElem (by omega)] at g0 g1 g2 g3
    obtain ⟨i, u, t, e0⟩ := open_key g0
    obtain ⟨n1, e1, _⟩ := DataW.trod_bool Try.underlying4 g1
    obtain ⟨n2, e2, _, z2⟩ := DataW.trod_int Try.underlying3 g2
    obtain ⟨sv, l, e3, hl⟩ := open_i64s g3
    simp only [List.cons.injEq, and_true] at e0 e1 e2 e3
    obtain ⟨rfl, rfl, rfl⟩ := e0
    subst e1 e2 e3
    exact ⟨⟨i, u, t, n1, n2, l⟩, v5, rfl, hl⟩


theorem wf_i64 {n : Int} (h : (Lit.int .i64 n).wf = true) : -9223372036854775808 ≤ n ∧ n ≤ 9223372036854775807 := by
  simp only [Lit.wf, IntKind.min, IntKind.max, IntKind.signed, IntKind.bits, Bool.and_eq_true, decide_eq_true_eq, if_true] at h
  omega

set_option maxRecDepth 1000000 in
theorem open_act {fuel : Nat} {cs : List Value} {x : DataW H × List MemPlace} (h : DataW.trod enc Try.prog w base spare held fuel 39 cs = some x) :
    ∃ (a : AcP), cs = [.int .i64 a.1.k, .int .i64 a.1.v, .int .i64 a.1.n, .int .i64 a.1.e.i, .bool a.1.e.u, .int .i64 a.1.e.t, .bool a.1.e.b, .int .i64 a.1.e.k, a.2] ∧ RI w a.2 a.1.e.s ∧ (-9223372036854775808 ≤ a.1.n ∧ a.1.n ≤ 9223372036854775807) := by
  obtain ⟨xs, n', hn', _, hcl, hxl, hfs⟩ := DataW.trod_struct Try.underlying39 h
  rw [Try.cells39] at hcl
  have hx4 : xs.length = 4 := by simpa using hxl
  match cs, hcl with
  | [v0, v1, v2, v3, v4, v5, v6, v7, v8], _ =>
    have g0 := hfs 0 _ rfl
    have g1 := hfs 1 _ rfl
    have g2 := hfs 2 _ rfl
    have g3 := hfs 3 _ rfl
    simp [Try.cells3, Try.cells37] at g0 g1 g2 g3
    rw [List.getElem?_eq_getElem (by omega)] at g0 g1 g2 g3
    obtain ⟨n0, e0, _, z0⟩ := DataW.trod_int Try.underlying3 g0
    obtain ⟨n1, e1, _, z1⟩ := DataW.trod_int Try.underlying3 g1
    obtain ⟨n2, e2, _, z2⟩ := DataW.trod_int Try.underlying3 g2
    obtain ⟨j, sv, e3, hl⟩ := open_job g3
    simp only [List.cons.injEq, and_true] at e0 e1 e2 e3
    obtain ⟨rfl, rfl, rfl, rfl, rfl, rfl⟩ := e3
    subst e0 e1 e2
    exact ⟨(⟨n0, n1, n2, j⟩, v8), rfl, hl, wf_i64 z2⟩

theorem open_acts {fuel : Nat} {a : Option Addr} {len cap : Nat} {x : DataW H × List MemPlace}
    (h : DataW.trod enc Try.prog w base spare held fuel 22 [.slice a len cap] = some x) : ∃ L, RA w (.slice a len cap) L := by
  rcases Go.Deep.open_slice Try.underlying22 h with ⟨hcs, _⟩ | ⟨ad, l2, c2, m, n, D, Pl, hcs, hb, hl, hm, hmm, rfl, hx⟩
  · simp at hcs
    obtain ⟨rfl, rfl, rfl⟩ := hcs
    exact ⟨[], none, 0, rfl, Nat.le_refl _, by unfold maxLen; omega, by simp⟩
  · simp at hcs
    obtain ⟨rfl, rfl, rfl⟩ := hcs
    have hlm : len ≤ m := by rw [hmm]; split <;> omega
    have each : ∀ i, i < len → ∃ t : AcP, (w.cell? (ad.add (i * 9)) = some (.int .i64 t.1.k) ∧ w.cell? (ad.add (i * 9 + 1)) = some (.int .i64 t.1.v) ∧ w.cell? (ad.add (i * 9 + 2)) = some (.int .i64 t.1.n)) ∧ (w.cell? (ad.add (i * 9 + 3)) = some (.int .i64 t.1.e.i) ∧ w.cell? (ad.add (i * 9 + 4)) = some (.bool t.1.e.u) ∧ w.cell? (ad.add (i * 9 + 5)) = some (.int .i64 t.1.e.t) ∧ w.cell? (ad.add (i * 9 + 6)) = some (.bool t.1.e.b) ∧ w.cell? (ad.add (i * 9 + 7)) = some (.int .i64 t.1.e.k) ∧ w.cell? (ad.add (i * 9 + 8)) = some t.2) ∧ RI w t.2 t.1.e.s ∧ (-9223372036854775808 ≤ t.1.n ∧ t.1.n ≤ 9223372036854775807) := by
      intro i hi
      obtain ⟨cs', h1, h2⟩ := hx i (by omega)
      rw [Try.cells39] at h1
      obtain ⟨_, hlen, hcell⟩ := World.cells?_some h1
      obtain ⟨y, rfl, q1, q2⟩ := open_act h2
      have k0 := hcell 0 (by omega)
      have k1 := hcell 1 (by omega)
      have k2 := hcell 2 (by omega)
      have k3 := hcell 3 (by omega)
      have k4 := hcell 4 (by omega)
      have k5 := hcell 5 (by omega)
      have k6 := hcell 6 (by omega)
      have k7 := hcell 7 (by omega)
      have k8 := hcell 8 (by omega)
      rw [Go.Deep.add_add] at k0 k1 k2 k3 k4 k5 k6 k7 k8
      exact ⟨y, ⟨by simpa using k0, by simpa using k1, by simpa using k2⟩, ⟨by simpa using k3, by simpa using k4, by simpa using k5, by simpa using k6, by simpa using k7, by simpa using k8⟩, q1, q2⟩
    obtain ⟨q, hq⟩ := Go.Deep.choose_lt each
    refine ⟨(List.range len).map fun i => q i, some ad, cap, by simp, by simpa using hl, hm, fun i t hi => ?_⟩
    have hil : i < len := by have := (List.getElem?_eq_some_iff.1 hi).1; simpa using this
    have ht : t = q i := by simp [hil] at hi; exact hi.symm
    subst ht
    obtain ⟨b, off, spot⟩ := ad
    have hspot : spot = none := by simpa [Addr.add] using World.cell?_spot (hq 0 (by omega)).1.1
    subst hspot
    obtain ⟨⟨a0, a1, a2⟩, ⟨a3, a4, a5, a6, a7, a8⟩, a9, a10⟩ := hq i hil
    rw [add_plain] at a0 a1 a2 a3 a4 a5 a6 a7 a8
    have ee : ∀ k, off + (i * 9 + (3 + k)) = off + i * 9 + 3 + k := fun k => by omega
    exact ⟨b, off, rfl, a0, by rw [Nat.add_assoc]; exact a1, by rw [Nat.add_assoc]; exact a2, ⟨by rw [Nat.add_assoc]; exact a3, by rw [← ee 1]; exact a4, by rw [← ee 2]; exact a5, by rw [← ee 3]; exact a6, by rw [← ee 4]; exact a7, by rw [← ee 5]; exact a8⟩, a9.rs, a10⟩
theorem wf_u8 {n : Int} (h : (Lit.int .u8 n).wf = true) : 0 ≤ n ∧ n ≤ 255 := by
  simp only [Lit.wf, IntKind.min, IntKind.max, IntKind.signed, IntKind.bits, Bool.and_eq_true] at h
  simp at h
  omega

/-- Whole numbers in memory, each as a machine holds it. -/
def RW (w : World) (v : Value) (l : List Int) : Prop := RI w v l ∧ ∀ x ∈ l, -9223372036854775808 ≤ x ∧ x ≤ 9223372036854775807
theorem open_i64w {fuel : Nat} {cs : List Value} {x : DataW H × List MemPlace} (h : DataW.trod enc Try.prog w base spare held fuel 35 cs = some x) : ∃ v l, cs = [v] ∧ RW w v l := by
  rcases open_ints Try.underlying35 Try.underlying3 (by kernel_rfl) h with ⟨hcs, _⟩ | ⟨x, l, c, zs, hcs, _, hl, hm, hz, _, hcell, hwz⟩
  · exact ⟨_, [], hcs, RI.nil w, by simp⟩
  · have hlz : l ≤ zs.length := by rw [hz]; split <;> omega
    have hlen : (zs.take l).length = l := by simp; omega
    refine ⟨_, zs.take l, hcs, ⟨some x, c, by rw [hlen], by rw [hlen]; exact hl, hm, fun i hi => ?_⟩, fun y hy => wf_i64 (hwz y (List.mem_of_mem_take hy))⟩
    rw [hlen] at hi
    obtain ⟨b, off, rfl, hcc⟩ := ints_at hcell (by omega)
    refine ⟨b, off, rfl, ?_⟩
    rw [hcc i (by omega)]
    congr 2
    simp only [List.getD_eq_getElem?_getD, List.getElem?_take]
    rw [if_pos hi]
end Go.Proofs.Ytfhmmiilenonkaa
