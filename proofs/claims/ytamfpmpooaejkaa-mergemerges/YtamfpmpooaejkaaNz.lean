/- Rows of events that came in. -/
import Derived.Test.YtamfpmpooaejkaaHe
import Derived.Test.YtamfpmpooaejkaaNq
import Derived.SizedLaws
namespace Go.Proofs.Ytamfpmpooaejkaa
open Go.ChangeShapes Go.WideShapes Go.ChangeAt Go.RowKit
set_option linter.unusedVariables false

theorem Try.cells25 : Try.prog.cellsOf 25 = 1 := by kernel_rfl
theorem Try.bytes45 : Try.prog.bytesOf 45 = 48 := by kernel_rfl

variable {H : Type} {enc : TypeId × Value → H} {w : World} {base : Nat} {spare : Nat → Bool} {held : Bool}

/-- What an element weighs is among what the elements weigh. -/
theorem weigh_in {P : Program} {t : TypeId} {d : DataW H} {n : Nat} (hn : n ∈ d.weights P t) {l : List (DataW H)} (hd : d ∈ l) : n ∈ DataW.weightsAll P t l := by
  induction l with
  | nil => cases hd
  | cons c r ih =>
    rw [DataW.weightsAll, List.mem_append]
    cases hd with
    | head => exact .inl hn
    | tail _ h => exact .inr (ih h)

/-- A list of events that came in, by its size. -/
theorem evs_sized {fuel : Nat} {cs : List Value} {x : DataW H × List MemPlace} (h : DataW.trod enc Try.prog w base spare held fuel 25 cs = some x) (hz : ∀ n ∈ x.1.weights Try.prog 25, n ≤ reachBytes) :
    ∃ v L, cs = [v] ∧ RE w v L ∧ L.length ≤ 4611686018427387904 := by
  have h0 := h
  rcases Go.Deep.open_slice Try.underlying25 h with ⟨hcs, _⟩ | ⟨ad, len, cap, m, n, D, Pl, hcs, hb, hl, hm, hmm, rfl, hx⟩
  · subst hcs
    exact ⟨_, [], rfl, ⟨none, 0, rfl, Nat.le_refl _, by unfold maxLen; omega, by simp⟩, by simp⟩
  · subst hcs
    obtain ⟨L, hL⟩ := open_evs h0
    have hL2 := hL
    obtain ⟨a', c', he, _⟩ := hL2
    have hln : len = L.length := by simp only [Value.slice.injEq] at he; exact he.2.1
    have h9 := hz ((((List.range len).map D).length + ((List.range (m - len)).map fun j => D (len + j)).length) * Try.prog.bytesOf 45) (by simp [DataW.weights, Try.underlying25])
    rw [Try.bytes45, List.length_map, List.length_range] at h9
    have h8 : reachBytes < 4611686018427387904 := by decide
    exact ⟨_, L, rfl, hL, by omega⟩

/-- Rows of events that came in. -/
theorem open_rows {fuel : Nat} {a : Option Addr} {len cap : Nat} {x : DataW H × List MemPlace}
    (h : DataW.trod enc Try.prog w base spare held fuel 22 [.slice a len cap] = some x) (hz : ∀ n ∈ x.1.weights Try.prog 22, n ≤ reachBytes) : ∃ R, RRE w (.slice a len cap) R ∧ Fit R := by
  rcases Go.Deep.open_slice Try.underlying22 h with ⟨hcs, _⟩ | ⟨ad, l2, c2, m, n, D, Pl, hcs, hb, hl, hm, hmm, rfl, hx⟩
  · simp at hcs
    obtain ⟨rfl, rfl, rfl⟩ := hcs
    exact ⟨[], ⟨none, 0, rfl, Nat.le_refl _, by unfold maxLen; omega, by simp⟩, by simp [Fit]⟩
  · simp at hcs
    obtain ⟨rfl, rfl, rfl⟩ := hcs
    have hlm : len ≤ m := by rw [hmm]; split <;> omega
    have each : ∀ i, i < len → ∃ t : List Ev × Value, w.cell? (ad.add i) = some t.2 ∧ RE w t.2 t.1 ∧ t.1.length ≤ 4611686018427387904 := by
      intro i hi
      obtain ⟨cs', h1, h2⟩ := hx i (by omega)
      rw [Try.cells25] at h1
      obtain ⟨_, hlen, hcell⟩ := World.cells?_some h1
      obtain ⟨v, L, rfl, q1, q2⟩ := evs_sized h2 (fun n9 hn9 => hz n9 (by
        simp only [DataW.weights, Try.underlying22, List.mem_cons, List.mem_append]
        exact .inr (.inl (weigh_in hn9 (List.mem_map.2 ⟨i, List.mem_range.2 hi, rfl⟩)))))
      have k0 := hcell 0 (by omega)
      rw [Go.Deep.add_add] at k0
      exact ⟨(L, v), by simpa using k0, q1, q2⟩
    obtain ⟨q, hq⟩ := Go.Deep.choose_lt each
    refine ⟨(List.range len).map fun i => (q i).1, ⟨some ad, cap, by simp, by simpa using hl, hm, fun i t hi => ?_⟩, fun L hL => ?_⟩
    · have hil : i < len := by have := (List.getElem?_eq_some_iff.1 hi).1; simpa using this
      have ht : t = (q i).1 := by simp [hil] at hi; exact hi.symm
      subst ht
      obtain ⟨b, off, spot⟩ := ad
      have hspot : spot = none := by simpa [Addr.add] using World.cell?_spot (hq 0 (by omega)).1
      subst hspot
      obtain ⟨a0, a1, _⟩ := hq i hil
      rw [add_plain] at a0
      exact ⟨b, off, _, rfl, a0, a1⟩
    · obtain ⟨i, hi, rfl⟩ := List.mem_map.1 hL
      exact (hq i (List.mem_range.1 hi)).2.2
end Go.Proofs.Ytamfpmpooaejkaa
