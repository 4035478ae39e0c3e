/- Arcs that came in, opened. -/
import Derived.Test.YtdbohfpkhidfiaaDoorRRRa
namespace Go.Proofs.YtdbohfpkhidfiaaDoorRR
open Go.ChangeShapes Go.WideShapes Go.ChangeAt Go.RowKit

theorem wf_i64 {n : Int} (h : (Lit.int .i64 n).wf = true) : -9223372036854775808 ≤ n ∧ n ≤ 9223372036854775807 := by
  simp [Lit.wf, IntKind.min, IntKind.max, IntKind.bits, IntKind.signed] at h
  omega

theorem open_arcs {H : Type} {enc : TypeId × Value → H} {W : World} {base : Nat} {spare : Nat → Bool} {held : Bool} {fuel : Nat} {a : Option Addr} {len cap : Nat} {x : DataW H × List MemPlace}
    (hf : DataW.trod enc Tryd.prog W base spare held fuel 22 [.slice a len cap] = some x) : ∃ l, RdA W (.slice a len cap) l := by
  rcases Go.Deep.open_slice_pairs Tryd.underlying22 Tryd.underlying46 c46 rfl rfl c3 c3 hf with ⟨hcs, _⟩ | ⟨y, n, c, m, k, V0, V1, D0, D1, P0, P1, hcs, _, hl, hm, hmm, _, hall⟩
  · simp at hcs
    obtain ⟨rfl, rfl, rfl⟩ := hcs
    exact ⟨[], none, 0, rfl, Nat.le_refl _, by simp, by simp⟩
  · simp at hcs
    obtain ⟨rfl, rfl, rfl⟩ := hcs
    have each : ∀ i, i < len → ∃ p : Int × Int, (W.cell? (y.add (i * 2)) = some (.int .i64 p.1) ∧ W.cell? (y.add (i * 2 + 1)) = some (.int .i64 p.2)) ∧ (-9223372036854775808 ≤ p.1 ∧ p.1 ≤ 9223372036854775807) ∧ -9223372036854775808 ≤ p.2 ∧ p.2 ≤ 9223372036854775807 := by
      intro i hi
      have hlm : len ≤ m := by rw [hmm]; split <;> omega
      obtain ⟨h0, h1, t0, t1⟩ := hall i (by omega)
      obtain ⟨k0, e0, _, w0⟩ := DataW.trod_int Tryd.underlying3 t0
      obtain ⟨k1, e1, _, w1⟩ := DataW.trod_int Tryd.underlying3 t1
      simp at e0 e1
      rw [e0] at h0
      rw [e1] at h1
      exact ⟨(k0, k1), ⟨h0, h1⟩, wf_i64 w0, wf_i64 w1⟩
    obtain ⟨F, hF⟩ : ∃ F : Nat → Int × Int, ∀ i, i < len → (W.cell? (y.add (i * 2)) = some (.int .i64 (F i).1) ∧ W.cell? (y.add (i * 2 + 1)) = some (.int .i64 (F i).2)) ∧ (-9223372036854775808 ≤ (F i).1 ∧ (F i).1 ≤ 9223372036854775807) ∧ -9223372036854775808 ≤ (F i).2 ∧ (F i).2 ≤ 9223372036854775807 :=
      ⟨fun i => if h : i < len then (each i h).choose else (0, 0), fun i hi => by simp only [dif_pos hi]; exact (each i hi).choose_spec⟩
    refine ⟨(List.range len).map F, some y, cap, by simp, by simpa using hl, ?_, ?_⟩
    · intro p hp
      obtain ⟨i, hi, rfl⟩ := List.mem_map.1 hp
      exact (hF i (List.mem_range.1 hi)).2
    · intro i p hi
      have hil : i < len := by have := (List.getElem?_eq_some_iff.1 hi).1; simpa using this
      have hp : p = F i := by simp [hil] at hi; exact hi.symm
      subst hp
      obtain ⟨h0, h1⟩ := (hF i hil).1
      obtain ⟨b, off, spot⟩ := y
      have hspot : spot = none := by simpa [Addr.add] using World.cell?_spot (hF 0 (by omega)).1.1
      subst hspot
      refine ⟨b, off, rfl, ?_, ?_⟩
      · rw [← Go.WideShapes.add_plain]; exact h0
      · rw [Nat.add_assoc, ← Go.WideShapes.add_plain]; exact h1
end Go.Proofs.YtdbohfpkhidfiaaDoorRR
