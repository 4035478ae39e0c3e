/- The walks over the document's Same, and the law's small and put. -/
import Derived.Test.YtnekaflanaleeaaWj
namespace Go.Proofs.Ytnekaflanaleeaa
open Go.RowKit
set_option linter.unusedVariables false

/-- A slice of texts that reads as a list. -/
def RS (w : World) (v : Value) (L : List (List UInt8)) : Prop :=
  ∃ a cap, v = .slice a L.length cap ∧ L.length ≤ cap ∧ cap ≤ maxLen ∧ ∀ (i : Nat) (b : List UInt8), L[i]? = some b → ∃ g off, a = some ⟨g, off, none⟩ ∧ w.cell? ⟨g, off + i, none⟩ = some (.string ⟨b.toArray⟩)

/-- A slice of slices of bytes that reads as a list. -/
def RSB (w : World) (v : Value) (L : List (List UInt8)) : Prop :=
  ∃ a cap, v = .slice a L.length cap ∧ ∀ (i : Nat) (b : List UInt8), L[i]? = some b → ∃ g off x, a = some ⟨g, off, none⟩ ∧ w.cell? ⟨g, off + i, none⟩ = some x ∧ RB w x b

theorem RS.later {w wx : World} {v : Value} {L : List (List UInt8)} (h : RS w v L) (hb : Below w.heap.size w wx) : RS wx v L := by
  obtain ⟨a, cap, hv, h1, h2, hc⟩ := h
  refine ⟨a, cap, hv, h1, h2, fun i b hi => ?_⟩
  obtain ⟨g, off, ha, hcell⟩ := hc i b hi
  exact ⟨g, off, ha, cell_later hb hcell⟩

theorem RSB.later {w wx : World} {v : Value} {L : List (List UInt8)} (h : RSB w v L) (hb : Below w.heap.size w wx) : RSB wx v L := by
  obtain ⟨a, cap, hv, hc⟩ := h
  refine ⟨a, cap, hv, fun i b hi => ?_⟩
  obtain ⟨g, off, x, ha, hcell, hx⟩ := hc i b hi
  exact ⟨g, off, x, ha, cell_later hb hcell, hx.later hb⟩

theorem RBB.reads {B : Nat} {w : World} {v : Value} {L : List (List UInt8)} (h : RBB B w v L) : RSB w v L := by
  obtain ⟨xs, h1, h2⟩ := h
  rcases h1.2 with ⟨rfl, h0⟩ | ⟨g, cap, cur, rfl, _, _, h3, h4, _⟩
  · have hL : L = [] := List.eq_nil_of_length_eq_zero h0
    subst hL
    exact ⟨none, 0, rfl, fun i b hi => by simp at hi⟩
  · refine ⟨_, cap, rfl, fun i b hi => ?_⟩
    obtain ⟨x, h5, h6⟩ := h2 i b hi
    have hil := (List.getElem?_eq_some_iff.1 hi).1
    refine ⟨g, 0, x, rfl, ?_, RB.of_owns h6 rfl⟩
    rw [Nat.zero_add, h1.cellAt i (by have := h1.1; omega)]
    exact h5

theorem RS.of_owns {B : Nat} {w : World} {v : Value} {n : Nat} {L : List (List UInt8)} (h : w.ownsRow B 9 1 v n (svs L)) (hn : n = L.length) : RS w v L := by
  subst hn
  rcases h.2 with ⟨rfl, h0⟩ | ⟨g, cap, cur, rfl, _, _, h3, h4, _⟩
  · have hL : L = [] := List.eq_nil_of_length_eq_zero h0
    subst hL
    exact ⟨none, 0, rfl, by simp, by unfold maxLen; omega, fun i b hi => by simp at hi⟩
  · refine ⟨_, cap, rfl, h3, h4, fun i b hi => ⟨g, 0, rfl, ?_⟩⟩
    have hil := (List.getElem?_eq_some_iff.1 hi).1
    rw [Nat.zero_add, h.cellAt i (by have := h.1; omega)]
    simp [svs, hi]

set_option maxRecDepth 1000000 in
set_option maxHeartbeats 1000000 in
theorem same_eq (x y : Value) (L : List (List UInt8)) (w : World) (hx : RS w x L) (hy : RSB w y L) (hl : L.length ≤ 100000) :
    Calls Try.prog 17 #[x, y] w fun e w' => e = .returned (.bool true) ∧ ∃ n, w' = w.drewN n := by
  obtain ⟨a, ca, rfl, _, _, hca⟩ := hx
  obtain ⟨b, cb, rfl, hcb⟩ := hy
  go_enter Try.func17, Try.ntmps17
  go_wp2
  go_loopw [5] (fun i wr => ∃ (k n : Nat), k ≤ L.length ∧ i = .int .i64 k ∧ wr = w.drewN n) (fun i _ => L.length - (intOf i).toNat)
  case atStart => exact ⟨0, 0, Nat.zero_le _, rfl, rfl⟩
  case round =>
    obtain ⟨k, n, hk, rfl, rfl⟩ := hrel
    by_cases hlt : k < L.length
    · obtain ⟨b1, o1, rfl, hc1⟩ := hca k L[k] (List.getElem?_eq_getElem hlt)
      obtain ⟨b2, o2, z, rfl, hc2, hz⟩ := hcb k L[k] (List.getElem?_eq_getElem hlt)
      have hd1 : ∀ m, (w.drewN m).cell? ⟨b1, o1 + k, none⟩ = some (.string ⟨L[k].toArray⟩) := fun _ => hc1
      have hd2 : ∀ m, (w.drewN m).cell? ⟨b2, o2 + k, none⟩ = some z := fun _ => hc2
      have hcv : ∀ m, (convert 22 9 z).run Try.prog (w.drewN m) = .ok (.string ⟨L[k].toArray⟩) (w.drewN m) := fun m => string_of_RB (hz.later (below_drewN (Below.refl _ _) m))
      obtain ⟨az, cz, rfl, _⟩ := hz
      generalize L[k] = bb at *
      clear hca hcb hc1 hc2
      go_wp2
      go_quiet (fail)
      go_wp2
      go_roundw
      case rel => exact ⟨k + 1, _, by omega, by go_num, rfl⟩
      case measure => simp [intOf]; omega
    · go_wp2
      go_ret
      exact ⟨rfl, n, rfl⟩
end Go.Proofs.Ytnekaflanaleeaa
