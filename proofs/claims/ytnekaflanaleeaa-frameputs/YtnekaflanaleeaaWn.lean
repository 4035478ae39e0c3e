/- The walk over the laws' lives: the document's examples hold. -/
import Derived.Test.YtnekaflanaleeaaWm
namespace Go.Proofs.Ytnekaflanaleeaa
open Go.RowKit
set_option linter.unusedVariables false

set_option maxRecDepth 1000000 in
set_option maxHeartbeats 1000000 in
theorem lives_any (w : World) : Calls Try.prog 8 #[] w fun e w' => e = .returned (.bool true) ∧ Below w.heap.size w w' := by
  obtain ⟨fr, hcv1⟩ : ∃ fr, (convert 22 22 (.slice (some ⟨w.heap.size, 0, none⟩) 1 1)).run Try.prog (w.alloc (.cells #[.int .u8 65] 5)) = .ok (.slice (some ⟨w.heap.size, 0, none⟩) 1 1) (w.alloc (.cells #[.int .u8 65] 5 fr)) := ⟨_, conv22 w _ 1⟩
  obtain ⟨F, HF⟩ : ∃ F, Hid (frameP [65] = F) := ⟨_, rfl⟩
  have HP := lput F HF.out w fr
  have HP2 : Hid (Calls Try.prog 9 #[.slice none 0 0, .slice (some ⟨w.heap.size, 0, none⟩) 1 1] (w.alloc (.cells #[.int .u8 65] 5 fr)) fun e w' => ∃ g cap, e = .returned (.tuple #[.slice (some ⟨g, 0, none⟩) 7 cap, .int .i64 0]) ∧ RB w' (.slice (some ⟨g, 0, none⟩) 7 cap) F ∧ Below w.heap.size w w') := HP
  clear HP
  have HHE : Hid (F.take 3 = [0, 1, 65]) := by show _ = _; rw [← HF.out]; exact head_ex
  have HFL : Hid (3 ≤ F.length) := by show _ ≤ _; rw [← HF.out, frameP_len]; decide
  go_enter Try.func8, Try.ntmps8
  go_wp2_with (first
    | (go_at_call 9; refine Calls.mono HP2.out ?_; rintro e w2 ⟨g, cap, rfl, hr2, hb2⟩; have HR2 : Hid (RB w2 (.slice (some ⟨g, 0, none⟩) 7 cap) F) := hr2; have HB2 : Hid (Below w.heap.size w w2) := hb2; clear hr2 hb2)
    | (go_at_call 13; refine Calls.mono (ltake7 F HF.out _ w3 (HR2.out.later HB3.out)) ?_; rintro e w4 ⟨u4, c4, rfl, hb4⟩; have HB4 : Hid (Below w3.heap.size w3 w4) := hb4; clear hb4; have HBX : Hid (Below w.heap.size w w4) := (HB2.out.trans (HB3.out.mono HB2.out.size)).trans (HB4.out.mono (Nat.le_trans HB2.out.size HB3.out.size)); obtain ⟨fr4, hcv4⟩ : ∃ fr4, (convert 22 22 (.slice (some ⟨w4.heap.size, 0, none⟩) 9 9)).run Try.prog (w4.alloc (.cells #[.int .u8 49, .int .u8 50, .int .u8 51, .int .u8 52, .int .u8 53, .int .u8 54, .int .u8 55, .int .u8 56, .int .u8 57] 5)) = .ok (.slice (some ⟨w4.heap.size, 0, none⟩) 9 9) (w4.alloc (.cells #[.int .u8 49, .int .u8 50, .int .u8 51, .int .u8 52, .int .u8 53, .int .u8 54, .int .u8 55, .int .u8 56, .int .u8 57] 5 fr4)) := ⟨_, conv22 w4 _ 9⟩; have HBA : Hid (Below w4.heap.size w4 (w4.alloc (.cells #[.int .u8 49, .int .u8 50, .int .u8 51, .int .u8 52, .int .u8 53, .int .u8 54, .int .u8 55, .int .u8 56, .int .u8 57] 5 fr4))) := (Below.refl _ _).alloc (Nat.le_refl _) _; have hs1 := string_of_RB ((HR3.out.later HB4.out).later HBA.out); obtain ⟨V5, hV5, hs5⟩ := slice_to HR2.out 3 HFL.out 3 rfl; have hs2 := string_of_RB (((hV5.later HB3.out).later HB4.out).later HBA.out); rw [HHE.out] at hs2; clear hV5)
    | (go_at_call 13; refine Calls.mono (ltake0 F HF.out _ w2 HR2.out) ?_; rintro e w3 ⟨u3, c3, rfl, hr3, hb3⟩; have HR3 : Hid (RB w3 (.slice u3 1 c3) [65]) := hr3; have HB3 : Hid (Below w2.heap.size w2 w3) := hb3; clear hr3 hb3)
    | (go_at_call 11; refine Calls.mono (lsum w4 fr4) ?_; rintro e w5 ⟨rfl, rfl⟩))
  go_ret
  exact ⟨rfl, HBX.out.alloc HBX.out.size _⟩
end Go.Proofs.Ytnekaflanaleeaa
