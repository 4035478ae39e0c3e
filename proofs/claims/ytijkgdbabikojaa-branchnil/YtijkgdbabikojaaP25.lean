/- Texts of the seat, packed: Hb. -/
import Derived.Test.YtijkgdbabikojaaP24
import Derived.Deep.RegionHeld
/- The walk over BranchTorn. -/
namespace Go.Proofs.Ytijkgdbabikojaa
open Go.RowKit
open Dk (DS DK Okay Small WR Kp Wid cutP appendP syncP hasB hasB_true)
set_option maxRecDepth 1000000
set_option linter.unusedVariables false

theorem ev_slice_to {w : World} {a : Option Addr} {n ca : Nat} {L : List Ev} (h : RE w (.slice a n ca) L) (hi : Nat) (hh : hi ≤ L.length) :
    ∃ va vc, RE w (.slice va hi vc) (L.take hi) ∧ ∀ wx : World, (Instr.sliceAt 22 (.slice a n ca) none (some (.int .i64 hi)) none).run Try.prog wx = .ok (.slice va hi vc) wx := by
  obtain ⟨a', ca', he, h1, h2, h3⟩ := h
  simp only [Value.slice.injEq] at he
  obtain ⟨rfl, rfl, rfl⟩ := he
  have hl : (L.take hi).length = hi := by rw [List.length_take]; omega
  have key : ∀ v : Option Addr, (∀ i x, (L.take hi)[i]? = some x → v = a) → RE w (.slice v hi ca) (L.take hi) := fun v hv => by
    refine ⟨v, ca, by rw [hl], by omega, h2, fun i x hx => ?_⟩
    have hxi : L[i]? = some x := by
      rw [List.getElem?_take] at hx
      split at hx
      · exact hx
      · cases hx
    obtain rfl := hv i x hx
    exact h3 i x hxi
  have hs : ∃ va vc, sliced a 0 hi ca 4 = .slice va hi vc ∧ RE w (.slice va hi vc) (L.take hi) := by
    unfold sliced
    refine ⟨_, _, rfl, key _ (fun i x hx => ?_)⟩
    have hxi : L[i]? = some x := by
      rw [List.getElem?_take] at hx
      split at hx
      · exact hx
      · cases hx
    obtain ⟨b, off, sv, rfl, _⟩ := h3 i x hxi
    split
    · rfl
    · simp [Go.WideShapes.add_plain]
  obtain ⟨va, vc, e, hr⟩ := hs
  refine ⟨va, vc, hr, fun wx => ?_⟩
  rw [run_sliceAt_slice wx 22 _ _ _ _ Try.underlying22, run_slice_h wx 22 a L.length ca Try.underlying22 .i64 hi (by omega) (by omega)]
  have : (sizeOf (Try.prog.elem 22)).run Try.prog wx = .ok 4 wx := by kernel_rfl
  rw [this]
  simp [e]

theorem RE.kept {w w' : World} {T : Nat → Prop} {N : Nat} {v : Value} {L : List Ev} (h : LogR N w T v L) (hk : Kp T w w') : RE w' v L := (h.kept (fun b _ b2 b3 => hk.block b b2 b3) (fun _ _ h => h) hk.size).re.1

theorem trim_q {S : DS} (i m : Nat) (h : S.n = 3 ∧ Okay S ∧ Dk.tot3 S = 20000) : (trimP S i m).2.n = 3 ∧ Okay (trimP S i m).2 ∧ Dk.tot3 (trimP S i m).2 = 20000 := ⟨by rw [trim_n]; exact h.1, okay_trim h.2.1 i m, by rw [tot_trim h.1]; exact h.2.2⟩

/-- Open of a disk of the laws. -/
theorem open_law {B : Nat} {W : World} {T : Nat → Prop} {p : Nat} {S : DS} {v : Value} {L : List Ev} (h : Mem B W T p S v L) (hn : S.n = 3) (ho : Okay S) (ht : Dk.tot3 S = 20000) {R : List (List Ev)} {Z : DS} (hR : (openP 3 S).1 = R) (h0 : (openP 3 S).2.1 = 0) (hZ : (openP 3 S).2.2 = Z) :
    Calls Try.prog 13 #[.pointer (some ⟨p, 0, none⟩)] W fun e w' => ∃ a c T', e = .returned (.tuple #[.slice a R.length c, .int .i64 0]) ∧ RRT T' w' (.slice a R.length c) R ∧ (∀ b, T' b → T b ∨ W.heap.size ≤ b) ∧ Kp T W w' ∧ Mem B w' T' p Z v L ∧ Okay Z ∧ Z.n = 3 ∧ Dk.tot3 Z = 20000 ∧ Below B W w' := by
  refine Calls.mono (open_any 3 (fun S => S.n = 3 ∧ Okay S ∧ Dk.tot3 S = 20000) (fun S h => ⟨h.2.1, Dk.small_mono (small_of h.1 h.2.1 h.2.2) (by omega) (by omega), h.1⟩) (fun S i m _ h => trim_q i m h) T W p S h.dk ⟨hn, ho, ht⟩) ?_
  rintro e w' ⟨a, c, e1, ⟨T', e3, e2, e4⟩, e5, e6⟩
  rw [hR, h0] at e1
  rw [hR] at e2
  rw [hZ] at e3 e5
  refine ⟨a, c, _, e1, e2, e4, e6, ⟨e3, fun b hb => ?_, h.log.kept (fun b _ b2 b3 => e6.block b b2 b3) (fun b b2 b3 hb => ?_) e6.size, Nat.le_trans h.hB e6.size⟩, e5.2.1, e5.1, e5.2.2, e6.below h.hB h.hT⟩
  · rcases e4 b hb with hb | hb
    · exact h.hT b hb
    · exact Nat.le_trans h.hB hb
  · rcases e4 b hb with hb | hb
    · exact b3 hb
    · omega
end Go.Proofs.Ytijkgdbabikojaa

