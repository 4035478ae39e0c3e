/- What is known of a part of a slice of texts. -/
import Derived.Test.YtnekaflanaleeaaWn
import Derived.Test.YtnekaflanaleeaaMe
namespace Go.Proofs.Ytnekaflanaleeaa
open Go.RowKit
set_option linter.unusedVariables false

theorem small_out {L : List (List UInt8)} (h : smallP L = true) : L.length ≤ 20 ∧ ∀ b ∈ L, b.length ≤ 1024 := by
  unfold smallP at h
  rw [Bool.and_eq_true, List.all_eq_true] at h
  exact ⟨by simpa using h.1, fun b hb => by simpa using h.2 b hb⟩

theorem texts_to {w : World} {a : Option Addr} {n ca : Nat} {L : List (List UInt8)} (h : RS w (.slice a n ca) L) (hi : Nat) (h2 : hi ≤ L.length) (e : Int) (he : e = hi) :
    ∃ V, RS w V (L.take hi) ∧ ∀ wx : World, (Instr.sliceAt 40 (.slice a n ca) none (some (.int .i64 e)) none).run Try.prog wx = .ok V wx := by
  subst he
  obtain ⟨a', ca', he, h3, h4, hc⟩ := h
  simp only [Value.slice.injEq] at he
  obtain ⟨rfl, rfl, rfl⟩ := he
  refine ⟨sliced a 0 hi ca 1, ?_, fun wx => ?_⟩
  · have hl : (L.take hi).length = hi := by rw [List.length_take]; omega
    have key : ∀ (i : Nat) (b : List UInt8), (L.take hi)[i]? = some b → L[i]? = some b := by
      intro i b hb
      rw [List.getElem?_take] at hb
      split at hb
      · exact hb
      · cases hb
    unfold sliced
    by_cases h0 : ca = 0
    · rw [if_pos h0]
      refine ⟨a, ca - 0, by rw [hl, Nat.sub_zero], by rw [hl]; omega, by omega, fun i b hb => hc i b (key i b hb)⟩
    · rw [if_neg h0]
      refine ⟨_, ca - 0, by rw [hl, Nat.sub_zero], by rw [hl]; omega, by omega, fun i b hb => ?_⟩
      obtain ⟨g, off, rfl, hcell⟩ := hc i b (key i b hb)
      refine ⟨g, off, ?_, hcell⟩
      rw [Option.map_some, Go.WideShapes.add_plain, Nat.zero_mul, Nat.add_zero]
  · rw [run_sliceAt_slice wx 40 _ _ _ _ Try.underlying40, run_slice_h wx 40 a L.length ca Try.underlying40 .i64 hi (by omega) (by omega)]
    have : (sizeOf (Try.prog.elem 40)).run Try.prog wx = .ok 1 wx := by kernel_rfl
    rw [this]
    simp
end Go.Proofs.Ytnekaflanaleeaa
