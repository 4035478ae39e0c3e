/- The walk over the laws' lives. -/
import Derived.Test.YtamfpmpooaejkaaNq
namespace Go.Proofs.Ytamfpmpooaejkaa
open Go.RowKit Go.Shelf
set_option maxRecDepth 1000000
set_option linter.unusedVariables false

set_option maxHeartbeats 8000000 in
theorem lives_any (w : World) : Calls Try.prog 10 #[] w fun e w' => e = .returned (.bool true) ∧ Below w.heap.size w w' := by
  have HB0 : Hid (Below w.heap.size w w) := Below.refl _ _
  go_enter Try.func10, Try.ntmps10
  have HB0 : Hid (Below w.heap.size w (w.alloc (.cells #[.int .i64 1, .int .i64 0] 3))) := HB0.out.alloc HB0.out.size _
  have HI1 : Hid (RI (w.alloc (.cells #[.int .i64 1, .int .i64 0] 3)) (.slice (some ⟨w.heap.size, 0, none⟩) 2 2) [1, 0]) := two_new w 1 0
  go_wp2_with fail
  refine Calls.mono (ev_any _ _ _ _) ?_
  rintro e w2 ⟨rfl, hb2⟩
  have HI1 : Hid (RI w2 (.slice (some ⟨w.heap.size, 0, none⟩) 2 2) [1, 0]) := RI.later HI1.out hb2
  have HB0 : Hid (Below w.heap.size w w2) := HB0.out.trans (hb2.mono HB0.out.size)
  clear hb2
  have HI1 : Hid (RI (w2.alloc (.cells #[.int .i64 2, .int .i64 1] 3)) (.slice (some ⟨w.heap.size, 0, none⟩) 2 2) [1, 0]) := RI.later HI1.out ((Below.refl _ _).alloc (Nat.le_refl _) _)
  have HB0 : Hid (Below w.heap.size w (w2.alloc (.cells #[.int .i64 2, .int .i64 1] 3))) := HB0.out.alloc HB0.out.size _
  have HI3 : Hid (RI (w2.alloc (.cells #[.int .i64 2, .int .i64 1] 3)) (.slice (some ⟨w2.heap.size, 0, none⟩) 2 2) [2, 1]) := two_new w2 2 1
  go_wp2_with fail
  refine Calls.mono (ev_any _ _ _ _) ?_
  rintro e w4 ⟨rfl, hb4⟩
  have HI1 : Hid (RI w4 (.slice (some ⟨w.heap.size, 0, none⟩) 2 2) [1, 0]) := RI.later HI1.out hb4
  have HI3 : Hid (RI w4 (.slice (some ⟨w2.heap.size, 0, none⟩) 2 2) [2, 1]) := RI.later HI3.out hb4
  have HB0 : Hid (Below w.heap.size w w4) := HB0.out.trans (hb4.mono HB0.out.size)
  clear hb4
  have HI1 : Hid (RI (w4.alloc (.cells #[.int .i64 1, .int .i64 1, .int .i64 0, .slice (some ⟨w.heap.size, 0, none⟩) 2 2, .int .i64 1, .int .i64 1, .int .i64 0, .slice (some ⟨w2.heap.size, 0, none⟩) 2 2] 45)) (.slice (some ⟨w.heap.size, 0, none⟩) 2 2) [1, 0]) := RI.later HI1.out ((Below.refl _ _).alloc (Nat.le_refl _) _)
  have HI3 : Hid (RI (w4.alloc (.cells #[.int .i64 1, .int .i64 1, .int .i64 0, .slice (some ⟨w.heap.size, 0, none⟩) 2 2, .int .i64 1, .int .i64 1, .int .i64 0, .slice (some ⟨w2.heap.size, 0, none⟩) 2 2] 45)) (.slice (some ⟨w2.heap.size, 0, none⟩) 2 2) [2, 1]) := RI.later HI3.out ((Below.refl _ _).alloc (Nat.le_refl _) _)
  have HB0 : Hid (Below w.heap.size w (w4.alloc (.cells #[.int .i64 1, .int .i64 1, .int .i64 0, .slice (some ⟨w.heap.size, 0, none⟩) 2 2, .int .i64 1, .int .i64 1, .int .i64 0, .slice (some ⟨w2.heap.size, 0, none⟩) 2 2] 45))) := HB0.out.alloc HB0.out.size _
  have HE5 : Hid (RE (w4.alloc (.cells #[.int .i64 1, .int .i64 1, .int .i64 0, .slice (some ⟨w.heap.size, 0, none⟩) 2 2, .int .i64 1, .int .i64 1, .int .i64 0, .slice (some ⟨w2.heap.size, 0, none⟩) 2 2] 45)) (.slice (some ⟨w4.heap.size, 0, none⟩) 2 2) [exE 1 0, exE 2 1]) := RE.of_row [(exE 1 0, (.slice (some ⟨w.heap.size, 0, none⟩) 2 2)), (exE 2 1, (.slice (some ⟨w2.heap.size, 0, none⟩) 2 2))] #[.int .i64 1, .int .i64 1, .int .i64 0, .slice (some ⟨w.heap.size, 0, none⟩) 2 2, .int .i64 1, .int .i64 1, .int .i64 0, .slice (some ⟨w2.heap.size, 0, none⟩) 2 2] (by have h9 := row_new w4 #[.int .i64 1, .int .i64 1, .int .i64 0, .slice (some ⟨w.heap.size, 0, none⟩) 2 2, .int .i64 1, .int .i64 1, .int .i64 0, .slice (some ⟨w2.heap.size, 0, none⟩) 2 2] 45; (try simp only [World.size_alloc] at h9); exact h9) rfl (fun p hp => by simp only [List.mem_cons, List.not_mem_nil, or_false] at hp; rcases hp with rfl | rfl; exact HI1.out; exact HI3.out) (by simp) 2 rfl
  have HI1 : Hid (RI ((w4.alloc (.cells #[.int .i64 1, .int .i64 1, .int .i64 0, .slice (some ⟨w.heap.size, 0, none⟩) 2 2, .int .i64 1, .int .i64 1, .int .i64 0, .slice (some ⟨w2.heap.size, 0, none⟩) 2 2] 45)).alloc (.cells #[.int .i64 0, .int .i64 1] 3)) (.slice (some ⟨w.heap.size, 0, none⟩) 2 2) [1, 0]) := RI.later HI1.out ((Below.refl _ _).alloc (Nat.le_refl _) _)
  have HI3 : Hid (RI ((w4.alloc (.cells #[.int .i64 1, .int .i64 1, .int .i64 0, .slice (some ⟨w.heap.size, 0, none⟩) 2 2, .int .i64 1, .int .i64 1, .int .i64 0, .slice (some ⟨w2.heap.size, 0, none⟩) 2 2] 45)).alloc (.cells #[.int .i64 0, .int .i64 1] 3)) (.slice (some ⟨w2.heap.size, 0, none⟩) 2 2) [2, 1]) := RI.later HI3.out ((Below.refl _ _).alloc (Nat.le_refl _) _)
  have HE5 : Hid (RE ((w4.alloc (.cells #[.int .i64 1, .int .i64 1, .int .i64 0, .slice (some ⟨w.heap.size, 0, none⟩) 2 2, .int .i64 1, .int .i64 1, .int .i64 0, .slice (some ⟨w2.heap.size, 0, none⟩) 2 2] 45)).alloc (.cells #[.int .i64 0, .int .i64 1] 3)) (.slice (some ⟨w4.heap.size, 0, none⟩) 2 2) [exE 1 0, exE 2 1]) := RE.later HE5.out ((Below.refl _ _).alloc (Nat.le_refl _) _)
  have HB0 : Hid (Below w.heap.size w ((w4.alloc (.cells #[.int .i64 1, .int .i64 1, .int .i64 0, .slice (some ⟨w.heap.size, 0, none⟩) 2 2, .int .i64 1, .int .i64 1, .int .i64 0, .slice (some ⟨w2.heap.size, 0, none⟩) 2 2] 45)).alloc (.cells #[.int .i64 0, .int .i64 1] 3))) := HB0.out.alloc HB0.out.size _
  have HI6 : Hid (RI ((w4.alloc (.cells #[.int .i64 1, .int .i64 1, .int .i64 0, .slice (some ⟨w.heap.size, 0, none⟩) 2 2, .int .i64 1, .int .i64 1, .int .i64 0, .slice (some ⟨w2.heap.size, 0, none⟩) 2 2] 45)).alloc (.cells #[.int .i64 0, .int .i64 1] 3)) (.slice (some ⟨w4.heap.size + 1, 0, none⟩) 2 2) [0, 1]) := (by have h9 := two_new (w4.alloc (.cells #[.int .i64 1, .int .i64 1, .int .i64 0, .slice (some ⟨w.heap.size, 0, none⟩) 2 2, .int .i64 1, .int .i64 1, .int .i64 0, .slice (some ⟨w2.heap.size, 0, none⟩) 2 2] 45)) 0 1; (try simp only [World.size_alloc] at h9); exact h9)
  go_wp2_with fail
  refine Calls.mono (ev_any _ _ _ _) ?_
  rintro e w7 ⟨rfl, hb7⟩
  have HI1 : Hid (RI w7 (.slice (some ⟨w.heap.size, 0, none⟩) 2 2) [1, 0]) := RI.later HI1.out hb7
  have HI3 : Hid (RI w7 (.slice (some ⟨w2.heap.size, 0, none⟩) 2 2) [2, 1]) := RI.later HI3.out hb7
  have HE5 : Hid (RE w7 (.slice (some ⟨w4.heap.size, 0, none⟩) 2 2) [exE 1 0, exE 2 1]) := RE.later HE5.out hb7
  have HI6 : Hid (RI w7 (.slice (some ⟨w4.heap.size + 1, 0, none⟩) 2 2) [0, 1]) := RI.later HI6.out hb7
  have HB0 : Hid (Below w.heap.size w w7) := HB0.out.trans (hb7.mono HB0.out.size)
  clear hb7
  have HI1 : Hid (RI (w7.alloc (.cells #[.int .i64 2, .int .i64 2] 3)) (.slice (some ⟨w.heap.size, 0, none⟩) 2 2) [1, 0]) := RI.later HI1.out ((Below.refl _ _).alloc (Nat.le_refl _) _)
  have HI3 : Hid (RI (w7.alloc (.cells #[.int .i64 2, .int .i64 2] 3)) (.slice (some ⟨w2.heap.size, 0, none⟩) 2 2) [2, 1]) := RI.later HI3.out ((Below.refl _ _).alloc (Nat.le_refl _) _)
  have HE5 : Hid (RE (w7.alloc (.cells #[.int .i64 2, .int .i64 2] 3)) (.slice (some ⟨w4.heap.size, 0, none⟩) 2 2) [exE 1 0, exE 2 1]) := RE.later HE5.out ((Below.refl _ _).alloc (Nat.le_refl _) _)
  have HI6 : Hid (RI (w7.alloc (.cells #[.int .i64 2, .int .i64 2] 3)) (.slice (some ⟨w4.heap.size + 1, 0, none⟩) 2 2) [0, 1]) := RI.later HI6.out ((Below.refl _ _).alloc (Nat.le_refl _) _)
  have HB0 : Hid (Below w.heap.size w (w7.alloc (.cells #[.int .i64 2, .int .i64 2] 3))) := HB0.out.alloc HB0.out.size _
  have HI8 : Hid (RI (w7.alloc (.cells #[.int .i64 2, .int .i64 2] 3)) (.slice (some ⟨w7.heap.size, 0, none⟩) 2 2) [2, 2]) := two_new w7 2 2
  go_wp2_with fail
  refine Calls.mono (ev_any _ _ _ _) ?_
  rintro e w9 ⟨rfl, hb9⟩
  have HI1 : Hid (RI w9 (.slice (some ⟨w.heap.size, 0, none⟩) 2 2) [1, 0]) := RI.later HI1.out hb9
  have HI3 : Hid (RI w9 (.slice (some ⟨w2.heap.size, 0, none⟩) 2 2) [2, 1]) := RI.later HI3.out hb9
  have HE5 : Hid (RE w9 (.slice (some ⟨w4.heap.size, 0, none⟩) 2 2) [exE 1 0, exE 2 1]) := RE.later HE5.out hb9
  have HI6 : Hid (RI w9 (.slice (some ⟨w4.heap.size + 1, 0, none⟩) 2 2) [0, 1]) := RI.later HI6.out hb9
  have HI8 : Hid (RI w9 (.slice (some ⟨w7.heap.size, 0, none⟩) 2 2) [2, 2]) := RI.later HI8.out hb9
  have HB0 : Hid (Below w.heap.size w w9) := HB0.out.trans (hb9.mono HB0.out.size)
  clear hb9
  have HI1 : Hid (RI (w9.alloc (.cells #[.int .i64 1, .int .i64 1, .int .i64 0, .slice (some ⟨w4.heap.size + 1, 0, none⟩) 2 2, .int .i64 1, .int .i64 1, .int .i64 0, .slice (some ⟨w7.heap.size, 0, none⟩) 2 2] 45)) (.slice (some ⟨w.heap.size, 0, none⟩) 2 2) [1, 0]) := RI.later HI1.out ((Below.refl _ _).alloc (Nat.le_refl _) _)
  have HI3 : Hid (RI (w9.alloc (.cells #[.int .i64 1, .int .i64 1, .int .i64 0, .slice (some ⟨w4.heap.size + 1, 0, none⟩) 2 2, .int .i64 1, .int .i64 1, .int .i64 0, .slice (some ⟨w7.heap.size, 0, none⟩) 2 2] 45)) (.slice (some ⟨w2.heap.size, 0, none⟩) 2 2) [2, 1]) := RI.later HI3.out ((Below.refl _ _).alloc (Nat.le_refl _) _)
  have HE5 : Hid (RE (w9.alloc (.cells #[.int .i64 1, .int .i64 1, .int .i64 0, .slice (some ⟨w4.heap.size + 1, 0, none⟩) 2 2, .int .i64 1, .int .i64 1, .int .i64 0, .slice (some ⟨w7.heap.size, 0, none⟩) 2 2] 45)) (.slice (some ⟨w4.heap.size, 0, none⟩) 2 2) [exE 1 0, exE 2 1]) := RE.later HE5.out ((Below.refl _ _).alloc (Nat.le_refl _) _)
  have HI6 : Hid (RI (w9.alloc (.cells #[.int .i64 1, .int .i64 1, .int .i64 0, .slice (some ⟨w4.heap.size + 1, 0, none⟩) 2 2, .int .i64 1, .int .i64 1, .int .i64 0, .slice (some ⟨w7.heap.size, 0, none⟩) 2 2] 45)) (.slice (some ⟨w4.heap.size + 1, 0, none⟩) 2 2) [0, 1]) := RI.later HI6.out ((Below.refl _ _).alloc (Nat.le_refl _) _)
  have HI8 : Hid (RI (w9.alloc (.cells #[.int .i64 1, .int .i64 1, .int .i64 0, .slice (some ⟨w4.heap.size + 1, 0, none⟩) 2 2, .int .i64 1, .int .i64 1, .int .i64 0, .slice (some ⟨w7.heap.size, 0, none⟩) 2 2] 45)) (.slice (some ⟨w7.heap.size, 0, none⟩) 2 2) [2, 2]) := RI.later HI8.out ((Below.refl _ _).alloc (Nat.le_refl _) _)
  have HB0 : Hid (Below w.heap.size w (w9.alloc (.cells #[.int .i64 1, .int .i64 1, .int .i64 0, .slice (some ⟨w4.heap.size + 1, 0, none⟩) 2 2, .int .i64 1, .int .i64 1, .int .i64 0, .slice (some ⟨w7.heap.size, 0, none⟩) 2 2] 45))) := HB0.out.alloc HB0.out.size _
  have HE10 : Hid (RE (w9.alloc (.cells #[.int .i64 1, .int .i64 1, .int .i64 0, .slice (some ⟨w4.heap.size + 1, 0, none⟩) 2 2, .int .i64 1, .int .i64 1, .int .i64 0, .slice (some ⟨w7.heap.size, 0, none⟩) 2 2] 45)) (.slice (some ⟨w9.heap.size, 0, none⟩) 2 2) [exE 0 1, exE 2 2]) := RE.of_row [(exE 0 1, (.slice (some ⟨w4.heap.size + 1, 0, none⟩) 2 2)), (exE 2 2, (.slice (some ⟨w7.heap.size, 0, none⟩) 2 2))] #[.int .i64 1, .int .i64 1, .int .i64 0, .slice (some ⟨w4.heap.size + 1, 0, none⟩) 2 2, .int .i64 1, .int .i64 1, .int .i64 0, .slice (some ⟨w7.heap.size, 0, none⟩) 2 2] (by have h9 := row_new w9 #[.int .i64 1, .int .i64 1, .int .i64 0, .slice (some ⟨w4.heap.size + 1, 0, none⟩) 2 2, .int .i64 1, .int .i64 1, .int .i64 0, .slice (some ⟨w7.heap.size, 0, none⟩) 2 2] 45; (try simp only [World.size_alloc] at h9); exact h9) rfl (fun p hp => by simp only [List.mem_cons, List.not_mem_nil, or_false] at hp; rcases hp with rfl | rfl; exact HI6.out; exact HI8.out) (by simp) 2 rfl
  have HI1 : Hid (RI ((w9.alloc (.cells #[.int .i64 1, .int .i64 1, .int .i64 0, .slice (some ⟨w4.heap.size + 1, 0, none⟩) 2 2, .int .i64 1, .int .i64 1, .int .i64 0, .slice (some ⟨w7.heap.size, 0, none⟩) 2 2] 45)).alloc (.cells #[.slice (some ⟨w4.heap.size, 0, none⟩) 2 2, .slice (some ⟨w9.heap.size, 0, none⟩) 2 2] 25)) (.slice (some ⟨w.heap.size, 0, none⟩) 2 2) [1, 0]) := RI.later HI1.out ((Below.refl _ _).alloc (Nat.le_refl _) _)
  have HI3 : Hid (RI ((w9.alloc (.cells #[.int .i64 1, .int .i64 1, .int .i64 0, .slice (some ⟨w4.heap.size + 1, 0, none⟩) 2 2, .int .i64 1, .int .i64 1, .int .i64 0, .slice (some ⟨w7.heap.size, 0, none⟩) 2 2] 45)).alloc (.cells #[.slice (some ⟨w4.heap.size, 0, none⟩) 2 2, .slice (some ⟨w9.heap.size, 0, none⟩) 2 2] 25)) (.slice (some ⟨w2.heap.size, 0, none⟩) 2 2) [2, 1]) := RI.later HI3.out ((Below.refl _ _).alloc (Nat.le_refl _) _)
  have HE5 : Hid (RE ((w9.alloc (.cells #[.int .i64 1, .int .i64 1, .int .i64 0, .slice (some ⟨w4.heap.size + 1, 0, none⟩) 2 2, .int .i64 1, .int .i64 1, .int .i64 0, .slice (some ⟨w7.heap.size, 0, none⟩) 2 2] 45)).alloc (.cells #[.slice (some ⟨w4.heap.size, 0, none⟩) 2 2, .slice (some ⟨w9.heap.size, 0, none⟩) 2 2] 25)) (.slice (some ⟨w4.heap.size, 0, none⟩) 2 2) [exE 1 0, exE 2 1]) := RE.later HE5.out ((Below.refl _ _).alloc (Nat.le_refl _) _)
  have HI6 : Hid (RI ((w9.alloc (.cells #[.int .i64 1, .int .i64 1, .int .i64 0, .slice (some ⟨w4.heap.size + 1, 0, none⟩) 2 2, .int .i64 1, .int .i64 1, .int .i64 0, .slice (some ⟨w7.heap.size, 0, none⟩) 2 2] 45)).alloc (.cells #[.slice (some ⟨w4.heap.size, 0, none⟩) 2 2, .slice (some ⟨w9.heap.size, 0, none⟩) 2 2] 25)) (.slice (some ⟨w4.heap.size + 1, 0, none⟩) 2 2) [0, 1]) := RI.later HI6.out ((Below.refl _ _).alloc (Nat.le_refl _) _)
  have HI8 : Hid (RI ((w9.alloc (.cells #[.int .i64 1, .int .i64 1, .int .i64 0, .slice (some ⟨w4.heap.size + 1, 0, none⟩) 2 2, .int .i64 1, .int .i64 1, .int .i64 0, .slice (some ⟨w7.heap.size, 0, none⟩) 2 2] 45)).alloc (.cells #[.slice (some ⟨w4.heap.size, 0, none⟩) 2 2, .slice (some ⟨w9.heap.size, 0, none⟩) 2 2] 25)) (.slice (some ⟨w7.heap.size, 0, none⟩) 2 2) [2, 2]) := RI.later HI8.out ((Below.refl _ _).alloc (Nat.le_refl _) _)
  have HE10 : Hid (RE ((w9.alloc (.cells #[.int .i64 1, .int .i64 1, .int .i64 0, .slice (some ⟨w4.heap.size + 1, 0, none⟩) 2 2, .int .i64 1, .int .i64 1, .int .i64 0, .slice (some ⟨w7.heap.size, 0, none⟩) 2 2] 45)).alloc (.cells #[.slice (some ⟨w4.heap.size, 0, none⟩) 2 2, .slice (some ⟨w9.heap.size, 0, none⟩) 2 2] 25)) (.slice (some ⟨w9.heap.size, 0, none⟩) 2 2) [exE 0 1, exE 2 2]) := RE.later HE10.out ((Below.refl _ _).alloc (Nat.le_refl _) _)
  have HB0 : Hid (Below w.heap.size w ((w9.alloc (.cells #[.int .i64 1, .int .i64 1, .int .i64 0, .slice (some ⟨w4.heap.size + 1, 0, none⟩) 2 2, .int .i64 1, .int .i64 1, .int .i64 0, .slice (some ⟨w7.heap.size, 0, none⟩) 2 2] 45)).alloc (.cells #[.slice (some ⟨w4.heap.size, 0, none⟩) 2 2, .slice (some ⟨w9.heap.size, 0, none⟩) 2 2] 25))) := HB0.out.alloc HB0.out.size _
  have HR11 : Hid (RRE ((w9.alloc (.cells #[.int .i64 1, .int .i64 1, .int .i64 0, .slice (some ⟨w4.heap.size + 1, 0, none⟩) 2 2, .int .i64 1, .int .i64 1, .int .i64 0, .slice (some ⟨w7.heap.size, 0, none⟩) 2 2] 45)).alloc (.cells #[.slice (some ⟨w4.heap.size, 0, none⟩) 2 2, .slice (some ⟨w9.heap.size, 0, none⟩) 2 2] 25)) (.slice (some ⟨w9.heap.size + 1, 0, none⟩) 2 2) [[exE 1 0, exE 2 1], [exE 0 1, exE 2 2]]) := RRE.two (by have h9 := row_new (w9.alloc (.cells #[.int .i64 1, .int .i64 1, .int .i64 0, .slice (some ⟨w4.heap.size + 1, 0, none⟩) 2 2, .int .i64 1, .int .i64 1, .int .i64 0, .slice (some ⟨w7.heap.size, 0, none⟩) 2 2] 45)) #[.slice (some ⟨w4.heap.size, 0, none⟩) 2 2, .slice (some ⟨w9.heap.size, 0, none⟩) 2 2] 25; (try simp only [World.size_alloc] at h9); exact h9) HE5.out HE10.out
  go_wp2_with fail
  refine Calls.mono (c_merge _ ex1 _ HR11.out (by decide)) ?_
  rintro e wA ⟨va, vc, na, nc, rfl, hre, hfe, hri, hbA⟩
  rw [ex_h] at hre hfe ⊢
  rw [ex_n] at hri ⊢
  clear HI1 HI3 HE5 HI6 HI8 HE10 HR11
  have HB0 : Hid (Below w.heap.size w wA) := HB0.out.trans (hbA.mono HB0.out.size)
  clear hbA
  have HH : Hid (RE wA (.slice va 4 vc) [exE 1 0, exE 0 1, exE 2 1, exE 2 2]) := hre
  have HNN : Hid (RI wA (.slice na 2 nc) [2, 2]) := hri
  clear hre hri hfe
  simp only [List.length_cons, List.length_nil, Nat.reduceAdd]
  have HH : Hid (RE (wA.alloc (.cells #[.int .i64 1, .int .i64 0] 3)) (.slice va 4 vc) [exE 1 0, exE 0 1, exE 2 1, exE 2 2]) := RE.later HH.out ((Below.refl _ _).alloc (Nat.le_refl _) _)
  have HNN : Hid (RI (wA.alloc (.cells #[.int .i64 1, .int .i64 0] 3)) (.slice na 2 nc) [2, 2]) := RI.later HNN.out ((Below.refl _ _).alloc (Nat.le_refl _) _)
  have HB0 : Hid (Below w.heap.size w (wA.alloc (.cells #[.int .i64 1, .int .i64 0] 3))) := HB0.out.alloc HB0.out.size _
  have HI12 : Hid (RI (wA.alloc (.cells #[.int .i64 1, .int .i64 0] 3)) (.slice (some ⟨wA.heap.size, 0, none⟩) 2 2) [1, 0]) := two_new wA 1 0
  go_wp2_with fail
  refine Calls.mono (ev_any _ _ _ _) ?_
  rintro e w13 ⟨rfl, hb13⟩
  have HH : Hid (RE w13 (.slice va 4 vc) [exE 1 0, exE 0 1, exE 2 1, exE 2 2]) := RE.later HH.out hb13
  have HNN : Hid (RI w13 (.slice na 2 nc) [2, 2]) := RI.later HNN.out hb13
  have HI12 : Hid (RI w13 (.slice (some ⟨wA.heap.size, 0, none⟩) 2 2) [1, 0]) := RI.later HI12.out hb13
  have HB0 : Hid (Below w.heap.size w w13) := HB0.out.trans (hb13.mono HB0.out.size)
  clear hb13
  have HH : Hid (RE (w13.alloc (.cells #[.int .i64 2, .int .i64 1] 3)) (.slice va 4 vc) [exE 1 0, exE 0 1, exE 2 1, exE 2 2]) := RE.later HH.out ((Below.refl _ _).alloc (Nat.le_refl _) _)
  have HNN : Hid (RI (w13.alloc (.cells #[.int .i64 2, .int .i64 1] 3)) (.slice na 2 nc) [2, 2]) := RI.later HNN.out ((Below.refl _ _).alloc (Nat.le_refl _) _)
  have HI12 : Hid (RI (w13.alloc (.cells #[.int .i64 2, .int .i64 1] 3)) (.slice (some ⟨wA.heap.size, 0, none⟩) 2 2) [1, 0]) := RI.later HI12.out ((Below.refl _ _).alloc (Nat.le_refl _) _)
  have HB0 : Hid (Below w.heap.size w (w13.alloc (.cells #[.int .i64 2, .int .i64 1] 3))) := HB0.out.alloc HB0.out.size _
  have HI14 : Hid (RI (w13.alloc (.cells #[.int .i64 2, .int .i64 1] 3)) (.slice (some ⟨w13.heap.size, 0, none⟩) 2 2) [2, 1]) := two_new w13 2 1
  go_wp2_with fail
  refine Calls.mono (ev_any _ _ _ _) ?_
  rintro e w15 ⟨rfl, hb15⟩
  have HH : Hid (RE w15 (.slice va 4 vc) [exE 1 0, exE 0 1, exE 2 1, exE 2 2]) := RE.later HH.out hb15
  have HNN : Hid (RI w15 (.slice na 2 nc) [2, 2]) := RI.later HNN.out hb15
  have HI12 : Hid (RI w15 (.slice (some ⟨wA.heap.size, 0, none⟩) 2 2) [1, 0]) := RI.later HI12.out hb15
  have HI14 : Hid (RI w15 (.slice (some ⟨w13.heap.size, 0, none⟩) 2 2) [2, 1]) := RI.later HI14.out hb15
  have HB0 : Hid (Below w.heap.size w w15) := HB0.out.trans (hb15.mono HB0.out.size)
  clear hb15
  have HH : Hid (RE (w15.alloc (.cells #[.int .i64 1, .int .i64 1, .int .i64 0, .slice (some ⟨wA.heap.size, 0, none⟩) 2 2, .int .i64 1, .int .i64 1, .int .i64 0, .slice (some ⟨w13.heap.size, 0, none⟩) 2 2] 45)) (.slice va 4 vc) [exE 1 0, exE 0 1, exE 2 1, exE 2 2]) := RE.later HH.out ((Below.refl _ _).alloc (Nat.le_refl _) _)
  have HNN : Hid (RI (w15.alloc (.cells #[.int .i64 1, .int .i64 1, .int .i64 0, .slice (some ⟨wA.heap.size, 0, none⟩) 2 2, .int .i64 1, .int .i64 1, .int .i64 0, .slice (some ⟨w13.heap.size, 0, none⟩) 2 2] 45)) (.slice na 2 nc) [2, 2]) := RI.later HNN.out ((Below.refl _ _).alloc (Nat.le_refl _) _)
  have HI12 : Hid (RI (w15.alloc (.cells #[.int .i64 1, .int .i64 1, .int .i64 0, .slice (some ⟨wA.heap.size, 0, none⟩) 2 2, .int .i64 1, .int .i64 1, .int .i64 0, .slice (some ⟨w13.heap.size, 0, none⟩) 2 2] 45)) (.slice (some ⟨wA.heap.size, 0, none⟩) 2 2) [1, 0]) := RI.later HI12.out ((Below.refl _ _).alloc (Nat.le_refl _) _)
  have HI14 : Hid (RI (w15.alloc (.cells #[.int .i64 1, .int .i64 1, .int .i64 0, .slice (some ⟨wA.heap.size, 0, none⟩) 2 2, .int .i64 1, .int .i64 1, .int .i64 0, .slice (some ⟨w13.heap.size, 0, none⟩) 2 2] 45)) (.slice (some ⟨w13.heap.size, 0, none⟩) 2 2) [2, 1]) := RI.later HI14.out ((Below.refl _ _).alloc (Nat.le_refl _) _)
  have HB0 : Hid (Below w.heap.size w (w15.alloc (.cells #[.int .i64 1, .int .i64 1, .int .i64 0, .slice (some ⟨wA.heap.size, 0, none⟩) 2 2, .int .i64 1, .int .i64 1, .int .i64 0, .slice (some ⟨w13.heap.size, 0, none⟩) 2 2] 45))) := HB0.out.alloc HB0.out.size _
  have HE16 : Hid (RE (w15.alloc (.cells #[.int .i64 1, .int .i64 1, .int .i64 0, .slice (some ⟨wA.heap.size, 0, none⟩) 2 2, .int .i64 1, .int .i64 1, .int .i64 0, .slice (some ⟨w13.heap.size, 0, none⟩) 2 2] 45)) (.slice (some ⟨w15.heap.size, 0, none⟩) 2 2) [exE 1 0, exE 2 1]) := RE.of_row [(exE 1 0, (.slice (some ⟨wA.heap.size, 0, none⟩) 2 2)), (exE 2 1, (.slice (some ⟨w13.heap.size, 0, none⟩) 2 2))] #[.int .i64 1, .int .i64 1, .int .i64 0, .slice (some ⟨wA.heap.size, 0, none⟩) 2 2, .int .i64 1, .int .i64 1, .int .i64 0, .slice (some ⟨w13.heap.size, 0, none⟩) 2 2] (by have h9 := row_new w15 #[.int .i64 1, .int .i64 1, .int .i64 0, .slice (some ⟨wA.heap.size, 0, none⟩) 2 2, .int .i64 1, .int .i64 1, .int .i64 0, .slice (some ⟨w13.heap.size, 0, none⟩) 2 2] 45; (try simp only [World.size_alloc] at h9); exact h9) rfl (fun p hp => by simp only [List.mem_cons, List.not_mem_nil, or_false] at hp; rcases hp with rfl | rfl; exact HI12.out; exact HI14.out) (by simp) 2 rfl
  have HH : Hid (RE ((w15.alloc (.cells #[.int .i64 1, .int .i64 1, .int .i64 0, .slice (some ⟨wA.heap.size, 0, none⟩) 2 2, .int .i64 1, .int .i64 1, .int .i64 0, .slice (some ⟨w13.heap.size, 0, none⟩) 2 2] 45)).alloc (.cells #[] 45)) (.slice va 4 vc) [exE 1 0, exE 0 1, exE 2 1, exE 2 2]) := RE.later HH.out ((Below.refl _ _).alloc (Nat.le_refl _) _)
  have HNN : Hid (RI ((w15.alloc (.cells #[.int .i64 1, .int .i64 1, .int .i64 0, .slice (some ⟨wA.heap.size, 0, none⟩) 2 2, .int .i64 1, .int .i64 1, .int .i64 0, .slice (some ⟨w13.heap.size, 0, none⟩) 2 2] 45)).alloc (.cells #[] 45)) (.slice na 2 nc) [2, 2]) := RI.later HNN.out ((Below.refl _ _).alloc (Nat.le_refl _) _)
  have HI12 : Hid (RI ((w15.alloc (.cells #[.int .i64 1, .int .i64 1, .int .i64 0, .slice (some ⟨wA.heap.size, 0, none⟩) 2 2, .int .i64 1, .int .i64 1, .int .i64 0, .slice (some ⟨w13.heap.size, 0, none⟩) 2 2] 45)).alloc (.cells #[] 45)) (.slice (some ⟨wA.heap.size, 0, none⟩) 2 2) [1, 0]) := RI.later HI12.out ((Below.refl _ _).alloc (Nat.le_refl _) _)
  have HI14 : Hid (RI ((w15.alloc (.cells #[.int .i64 1, .int .i64 1, .int .i64 0, .slice (some ⟨wA.heap.size, 0, none⟩) 2 2, .int .i64 1, .int .i64 1, .int .i64 0, .slice (some ⟨w13.heap.size, 0, none⟩) 2 2] 45)).alloc (.cells #[] 45)) (.slice (some ⟨w13.heap.size, 0, none⟩) 2 2) [2, 1]) := RI.later HI14.out ((Below.refl _ _).alloc (Nat.le_refl _) _)
  have HE16 : Hid (RE ((w15.alloc (.cells #[.int .i64 1, .int .i64 1, .int .i64 0, .slice (some ⟨wA.heap.size, 0, none⟩) 2 2, .int .i64 1, .int .i64 1, .int .i64 0, .slice (some ⟨w13.heap.size, 0, none⟩) 2 2] 45)).alloc (.cells #[] 45)) (.slice (some ⟨w15.heap.size, 0, none⟩) 2 2) [exE 1 0, exE 2 1]) := RE.later HE16.out ((Below.refl _ _).alloc (Nat.le_refl _) _)
  have HB0 : Hid (Below w.heap.size w ((w15.alloc (.cells #[.int .i64 1, .int .i64 1, .int .i64 0, .slice (some ⟨wA.heap.size, 0, none⟩) 2 2, .int .i64 1, .int .i64 1, .int .i64 0, .slice (some ⟨w13.heap.size, 0, none⟩) 2 2] 45)).alloc (.cells #[] 45))) := HB0.out.alloc HB0.out.size _
  have HE17 : Hid (RE ((w15.alloc (.cells #[.int .i64 1, .int .i64 1, .int .i64 0, .slice (some ⟨wA.heap.size, 0, none⟩) 2 2, .int .i64 1, .int .i64 1, .int .i64 0, .slice (some ⟨w13.heap.size, 0, none⟩) 2 2] 45)).alloc (.cells #[] 45)) (.slice (some ⟨w15.heap.size + 1, 0, none⟩) 0 0) []) := RE.of_row ([] : List (Ev × Value)) #[] (by have h9 := row_new (w15.alloc (.cells #[.int .i64 1, .int .i64 1, .int .i64 0, .slice (some ⟨wA.heap.size, 0, none⟩) 2 2, .int .i64 1, .int .i64 1, .int .i64 0, .slice (some ⟨w13.heap.size, 0, none⟩) 2 2] 45)) #[] 45; (try simp only [World.size_alloc] at h9); exact h9) rfl (fun p hp => by cases hp) (by simp) 0 rfl
  have HH : Hid (RE (((w15.alloc (.cells #[.int .i64 1, .int .i64 1, .int .i64 0, .slice (some ⟨wA.heap.size, 0, none⟩) 2 2, .int .i64 1, .int .i64 1, .int .i64 0, .slice (some ⟨w13.heap.size, 0, none⟩) 2 2] 45)).alloc (.cells #[] 45)).alloc (.cells #[.slice (some ⟨w15.heap.size, 0, none⟩) 2 2, .slice (some ⟨w15.heap.size + 1, 0, none⟩) 0 0] 25)) (.slice va 4 vc) [exE 1 0, exE 0 1, exE 2 1, exE 2 2]) := RE.later HH.out ((Below.refl _ _).alloc (Nat.le_refl _) _)
  have HNN : Hid (RI (((w15.alloc (.cells #[.int .i64 1, .int .i64 1, .int .i64 0, .slice (some ⟨wA.heap.size, 0, none⟩) 2 2, .int .i64 1, .int .i64 1, .int .i64 0, .slice (some ⟨w13.heap.size, 0, none⟩) 2 2] 45)).alloc (.cells #[] 45)).alloc (.cells #[.slice (some ⟨w15.heap.size, 0, none⟩) 2 2, .slice (some ⟨w15.heap.size + 1, 0, none⟩) 0 0] 25)) (.slice na 2 nc) [2, 2]) := RI.later HNN.out ((Below.refl _ _).alloc (Nat.le_refl _) _)
  have HI12 : Hid (RI (((w15.alloc (.cells #[.int .i64 1, .int .i64 1, .int .i64 0, .slice (some ⟨wA.heap.size, 0, none⟩) 2 2, .int .i64 1, .int .i64 1, .int .i64 0, .slice (some ⟨w13.heap.size, 0, none⟩) 2 2] 45)).alloc (.cells #[] 45)).alloc (.cells #[.slice (some ⟨w15.heap.size, 0, none⟩) 2 2, .slice (some ⟨w15.heap.size + 1, 0, none⟩) 0 0] 25)) (.slice (some ⟨wA.heap.size, 0, none⟩) 2 2) [1, 0]) := RI.later HI12.out ((Below.refl _ _).alloc (Nat.le_refl _) _)
  have HI14 : Hid (RI (((w15.alloc (.cells #[.int .i64 1, .int .i64 1, .int .i64 0, .slice (some ⟨wA.heap.size, 0, none⟩) 2 2, .int .i64 1, .int .i64 1, .int .i64 0, .slice (some ⟨w13.heap.size, 0, none⟩) 2 2] 45)).alloc (.cells #[] 45)).alloc (.cells #[.slice (some ⟨w15.heap.size, 0, none⟩) 2 2, .slice (some ⟨w15.heap.size + 1, 0, none⟩) 0 0] 25)) (.slice (some ⟨w13.heap.size, 0, none⟩) 2 2) [2, 1]) := RI.later HI14.out ((Below.refl _ _).alloc (Nat.le_refl _) _)
  have HE16 : Hid (RE (((w15.alloc (.cells #[.int .i64 1, .int .i64 1, .int .i64 0, .slice (some ⟨wA.heap.size, 0, none⟩) 2 2, .int .i64 1, .int .i64 1, .int .i64 0, .slice (some ⟨w13.heap.size, 0, none⟩) 2 2] 45)).alloc (.cells #[] 45)).alloc (.cells #[.slice (some ⟨w15.heap.size, 0, none⟩) 2 2, .slice (some ⟨w15.heap.size + 1, 0, none⟩) 0 0] 25)) (.slice (some ⟨w15.heap.size, 0, none⟩) 2 2) [exE 1 0, exE 2 1]) := RE.later HE16.out ((Below.refl _ _).alloc (Nat.le_refl _) _)
  have HE17 : Hid (RE (((w15.alloc (.cells #[.int .i64 1, .int .i64 1, .int .i64 0, .slice (some ⟨wA.heap.size, 0, none⟩) 2 2, .int .i64 1, .int .i64 1, .int .i64 0, .slice (some ⟨w13.heap.size, 0, none⟩) 2 2] 45)).alloc (.cells #[] 45)).alloc (.cells #[.slice (some ⟨w15.heap.size, 0, none⟩) 2 2, .slice (some ⟨w15.heap.size + 1, 0, none⟩) 0 0] 25)) (.slice (some ⟨w15.heap.size + 1, 0, none⟩) 0 0) []) := RE.later HE17.out ((Below.refl _ _).alloc (Nat.le_refl _) _)
  have HB0 : Hid (Below w.heap.size w (((w15.alloc (.cells #[.int .i64 1, .int .i64 1, .int .i64 0, .slice (some ⟨wA.heap.size, 0, none⟩) 2 2, .int .i64 1, .int .i64 1, .int .i64 0, .slice (some ⟨w13.heap.size, 0, none⟩) 2 2] 45)).alloc (.cells #[] 45)).alloc (.cells #[.slice (some ⟨w15.heap.size, 0, none⟩) 2 2, .slice (some ⟨w15.heap.size + 1, 0, none⟩) 0 0] 25))) := HB0.out.alloc HB0.out.size _
  have HR18 : Hid (RRE (((w15.alloc (.cells #[.int .i64 1, .int .i64 1, .int .i64 0, .slice (some ⟨wA.heap.size, 0, none⟩) 2 2, .int .i64 1, .int .i64 1, .int .i64 0, .slice (some ⟨w13.heap.size, 0, none⟩) 2 2] 45)).alloc (.cells #[] 45)).alloc (.cells #[.slice (some ⟨w15.heap.size, 0, none⟩) 2 2, .slice (some ⟨w15.heap.size + 1, 0, none⟩) 0 0] 25)) (.slice (some ⟨w15.heap.size + 1 + 1, 0, none⟩) 2 2) [[exE 1 0, exE 2 1], []]) := RRE.two (by have h9 := row_new ((w15.alloc (.cells #[.int .i64 1, .int .i64 1, .int .i64 0, .slice (some ⟨wA.heap.size, 0, none⟩) 2 2, .int .i64 1, .int .i64 1, .int .i64 0, .slice (some ⟨w13.heap.size, 0, none⟩) 2 2] 45)).alloc (.cells #[] 45)) #[.slice (some ⟨w15.heap.size, 0, none⟩) 2 2, .slice (some ⟨w15.heap.size + 1, 0, none⟩) 0 0] 25; (try simp only [World.size_alloc] at h9); exact h9) HE16.out HE17.out
  go_wp2_with fail
  refine Calls.mono (c_merge _ ex2 _ HR18.out (by decide)) ?_
  rintro e wB ⟨ga, gc, gna, gnc, rfl, hre, hfe, hri, hbB⟩
  rw [ex_g]
  clear hre hfe hri
  clear HI12 HI14 HE16 HE17 HR18
  have HH : Hid (RE wB (.slice va 4 vc) [exE 1 0, exE 0 1, exE 2 1, exE 2 2]) := RE.later HH.out hbB
  have HNN : Hid (RI wB (.slice na 2 nc) [2, 2]) := RI.later HNN.out hbB
  have HB0 : Hid (Below w.heap.size w wB) := HB0.out.trans (hbB.mono HB0.out.size)
  clear hbB
  generalize (mgN ex2).length = gn
  have HH : Hid (RE (wB.alloc (.cells #[.int .i64 1, .int .i64 0] 3)) (.slice va 4 vc) [exE 1 0, exE 0 1, exE 2 1, exE 2 2]) := RE.later HH.out ((Below.refl _ _).alloc (Nat.le_refl _) _)
  have HNN : Hid (RI (wB.alloc (.cells #[.int .i64 1, .int .i64 0] 3)) (.slice na 2 nc) [2, 2]) := RI.later HNN.out ((Below.refl _ _).alloc (Nat.le_refl _) _)
  have HB0 : Hid (Below w.heap.size w (wB.alloc (.cells #[.int .i64 1, .int .i64 0] 3))) := HB0.out.alloc HB0.out.size _
  have HI19 : Hid (RI (wB.alloc (.cells #[.int .i64 1, .int .i64 0] 3)) (.slice (some ⟨wB.heap.size, 0, none⟩) 2 2) [1, 0]) := two_new wB 1 0
  go_wp2_with fail
  refine Calls.mono (ev_any _ _ _ _) ?_
  rintro e w20 ⟨rfl, hb20⟩
  have HH : Hid (RE w20 (.slice va 4 vc) [exE 1 0, exE 0 1, exE 2 1, exE 2 2]) := RE.later HH.out hb20
  have HNN : Hid (RI w20 (.slice na 2 nc) [2, 2]) := RI.later HNN.out hb20
  have HI19 : Hid (RI w20 (.slice (some ⟨wB.heap.size, 0, none⟩) 2 2) [1, 0]) := RI.later HI19.out hb20
  have HB0 : Hid (Below w.heap.size w w20) := HB0.out.trans (hb20.mono HB0.out.size)
  clear hb20
  have HH : Hid (RE (w20.alloc (.cells #[.int .i64 0, .int .i64 1] 3)) (.slice va 4 vc) [exE 1 0, exE 0 1, exE 2 1, exE 2 2]) := RE.later HH.out ((Below.refl _ _).alloc (Nat.le_refl _) _)
  have HNN : Hid (RI (w20.alloc (.cells #[.int .i64 0, .int .i64 1] 3)) (.slice na 2 nc) [2, 2]) := RI.later HNN.out ((Below.refl _ _).alloc (Nat.le_refl _) _)
  have HI19 : Hid (RI (w20.alloc (.cells #[.int .i64 0, .int .i64 1] 3)) (.slice (some ⟨wB.heap.size, 0, none⟩) 2 2) [1, 0]) := RI.later HI19.out ((Below.refl _ _).alloc (Nat.le_refl _) _)
  have HB0 : Hid (Below w.heap.size w (w20.alloc (.cells #[.int .i64 0, .int .i64 1] 3))) := HB0.out.alloc HB0.out.size _
  have HI21 : Hid (RI (w20.alloc (.cells #[.int .i64 0, .int .i64 1] 3)) (.slice (some ⟨w20.heap.size, 0, none⟩) 2 2) [0, 1]) := two_new w20 0 1
  go_wp2_with fail
  refine Calls.mono (ev_any _ _ _ _) ?_
  rintro e w22 ⟨rfl, hb22⟩
  have HH : Hid (RE w22 (.slice va 4 vc) [exE 1 0, exE 0 1, exE 2 1, exE 2 2]) := RE.later HH.out hb22
  have HNN : Hid (RI w22 (.slice na 2 nc) [2, 2]) := RI.later HNN.out hb22
  have HI19 : Hid (RI w22 (.slice (some ⟨wB.heap.size, 0, none⟩) 2 2) [1, 0]) := RI.later HI19.out hb22
  have HI21 : Hid (RI w22 (.slice (some ⟨w20.heap.size, 0, none⟩) 2 2) [0, 1]) := RI.later HI21.out hb22
  have HB0 : Hid (Below w.heap.size w w22) := HB0.out.trans (hb22.mono HB0.out.size)
  clear hb22
  have HH : Hid (RE (w22.alloc (.cells #[.int .i64 2, .int .i64 1] 3)) (.slice va 4 vc) [exE 1 0, exE 0 1, exE 2 1, exE 2 2]) := RE.later HH.out ((Below.refl _ _).alloc (Nat.le_refl _) _)
  have HNN : Hid (RI (w22.alloc (.cells #[.int .i64 2, .int .i64 1] 3)) (.slice na 2 nc) [2, 2]) := RI.later HNN.out ((Below.refl _ _).alloc (Nat.le_refl _) _)
  have HI19 : Hid (RI (w22.alloc (.cells #[.int .i64 2, .int .i64 1] 3)) (.slice (some ⟨wB.heap.size, 0, none⟩) 2 2) [1, 0]) := RI.later HI19.out ((Below.refl _ _).alloc (Nat.le_refl _) _)
  have HI21 : Hid (RI (w22.alloc (.cells #[.int .i64 2, .int .i64 1] 3)) (.slice (some ⟨w20.heap.size, 0, none⟩) 2 2) [0, 1]) := RI.later HI21.out ((Below.refl _ _).alloc (Nat.le_refl _) _)
  have HB0 : Hid (Below w.heap.size w (w22.alloc (.cells #[.int .i64 2, .int .i64 1] 3))) := HB0.out.alloc HB0.out.size _
  have HI23 : Hid (RI (w22.alloc (.cells #[.int .i64 2, .int .i64 1] 3)) (.slice (some ⟨w22.heap.size, 0, none⟩) 2 2) [2, 1]) := two_new w22 2 1
  go_wp2_with fail
  refine Calls.mono (ev_any _ _ _ _) ?_
  rintro e w24 ⟨rfl, hb24⟩
  have HH : Hid (RE w24 (.slice va 4 vc) [exE 1 0, exE 0 1, exE 2 1, exE 2 2]) := RE.later HH.out hb24
  have HNN : Hid (RI w24 (.slice na 2 nc) [2, 2]) := RI.later HNN.out hb24
  have HI19 : Hid (RI w24 (.slice (some ⟨wB.heap.size, 0, none⟩) 2 2) [1, 0]) := RI.later HI19.out hb24
  have HI21 : Hid (RI w24 (.slice (some ⟨w20.heap.size, 0, none⟩) 2 2) [0, 1]) := RI.later HI21.out hb24
  have HI23 : Hid (RI w24 (.slice (some ⟨w22.heap.size, 0, none⟩) 2 2) [2, 1]) := RI.later HI23.out hb24
  have HB0 : Hid (Below w.heap.size w w24) := HB0.out.trans (hb24.mono HB0.out.size)
  clear hb24
  have HH : Hid (RE (w24.alloc (.cells #[.int .i64 2, .int .i64 2] 3)) (.slice va 4 vc) [exE 1 0, exE 0 1, exE 2 1, exE 2 2]) := RE.later HH.out ((Below.refl _ _).alloc (Nat.le_refl _) _)
  have HNN : Hid (RI (w24.alloc (.cells #[.int .i64 2, .int .i64 2] 3)) (.slice na 2 nc) [2, 2]) := RI.later HNN.out ((Below.refl _ _).alloc (Nat.le_refl _) _)
  have HI19 : Hid (RI (w24.alloc (.cells #[.int .i64 2, .int .i64 2] 3)) (.slice (some ⟨wB.heap.size, 0, none⟩) 2 2) [1, 0]) := RI.later HI19.out ((Below.refl _ _).alloc (Nat.le_refl _) _)
  have HI21 : Hid (RI (w24.alloc (.cells #[.int .i64 2, .int .i64 2] 3)) (.slice (some ⟨w20.heap.size, 0, none⟩) 2 2) [0, 1]) := RI.later HI21.out ((Below.refl _ _).alloc (Nat.le_refl _) _)
  have HI23 : Hid (RI (w24.alloc (.cells #[.int .i64 2, .int .i64 2] 3)) (.slice (some ⟨w22.heap.size, 0, none⟩) 2 2) [2, 1]) := RI.later HI23.out ((Below.refl _ _).alloc (Nat.le_refl _) _)
  have HB0 : Hid (Below w.heap.size w (w24.alloc (.cells #[.int .i64 2, .int .i64 2] 3))) := HB0.out.alloc HB0.out.size _
  have HI25 : Hid (RI (w24.alloc (.cells #[.int .i64 2, .int .i64 2] 3)) (.slice (some ⟨w24.heap.size, 0, none⟩) 2 2) [2, 2]) := two_new w24 2 2
  go_wp2_with fail
  refine Calls.mono (ev_any _ _ _ _) ?_
  rintro e w26 ⟨rfl, hb26⟩
  have HH : Hid (RE w26 (.slice va 4 vc) [exE 1 0, exE 0 1, exE 2 1, exE 2 2]) := RE.later HH.out hb26
  have HNN : Hid (RI w26 (.slice na 2 nc) [2, 2]) := RI.later HNN.out hb26
  have HI19 : Hid (RI w26 (.slice (some ⟨wB.heap.size, 0, none⟩) 2 2) [1, 0]) := RI.later HI19.out hb26
  have HI21 : Hid (RI w26 (.slice (some ⟨w20.heap.size, 0, none⟩) 2 2) [0, 1]) := RI.later HI21.out hb26
  have HI23 : Hid (RI w26 (.slice (some ⟨w22.heap.size, 0, none⟩) 2 2) [2, 1]) := RI.later HI23.out hb26
  have HI25 : Hid (RI w26 (.slice (some ⟨w24.heap.size, 0, none⟩) 2 2) [2, 2]) := RI.later HI25.out hb26
  have HB0 : Hid (Below w.heap.size w w26) := HB0.out.trans (hb26.mono HB0.out.size)
  clear hb26
  have HH : Hid (RE (w26.alloc (.cells #[.int .i64 1, .int .i64 1, .int .i64 0, .slice (some ⟨wB.heap.size, 0, none⟩) 2 2, .int .i64 1, .int .i64 1, .int .i64 0, .slice (some ⟨w20.heap.size, 0, none⟩) 2 2, .int .i64 1, .int .i64 1, .int .i64 0, .slice (some ⟨w22.heap.size, 0, none⟩) 2 2, .int .i64 1, .int .i64 1, .int .i64 0, .slice (some ⟨w24.heap.size, 0, none⟩) 2 2] 45)) (.slice va 4 vc) [exE 1 0, exE 0 1, exE 2 1, exE 2 2]) := RE.later HH.out ((Below.refl _ _).alloc (Nat.le_refl _) _)
  have HNN : Hid (RI (w26.alloc (.cells #[.int .i64 1, .int .i64 1, .int .i64 0, .slice (some ⟨wB.heap.size, 0, none⟩) 2 2, .int .i64 1, .int .i64 1, .int .i64 0, .slice (some ⟨w20.heap.size, 0, none⟩) 2 2, .int .i64 1, .int .i64 1, .int .i64 0, .slice (some ⟨w22.heap.size, 0, none⟩) 2 2, .int .i64 1, .int .i64 1, .int .i64 0, .slice (some ⟨w24.heap.size, 0, none⟩) 2 2] 45)) (.slice na 2 nc) [2, 2]) := RI.later HNN.out ((Below.refl _ _).alloc (Nat.le_refl _) _)
  have HI19 : Hid (RI (w26.alloc (.cells #[.int .i64 1, .int .i64 1, .int .i64 0, .slice (some ⟨wB.heap.size, 0, none⟩) 2 2, .int .i64 1, .int .i64 1, .int .i64 0, .slice (some ⟨w20.heap.size, 0, none⟩) 2 2, .int .i64 1, .int .i64 1, .int .i64 0, .slice (some ⟨w22.heap.size, 0, none⟩) 2 2, .int .i64 1, .int .i64 1, .int .i64 0, .slice (some ⟨w24.heap.size, 0, none⟩) 2 2] 45)) (.slice (some ⟨wB.heap.size, 0, none⟩) 2 2) [1, 0]) := RI.later HI19.out ((Below.refl _ _).alloc (Nat.le_refl _) _)
  have HI21 : Hid (RI (w26.alloc (.cells #[.int .i64 1, .int .i64 1, .int .i64 0, .slice (some ⟨wB.heap.size, 0, none⟩) 2 2, .int .i64 1, .int .i64 1, .int .i64 0, .slice (some ⟨w20.heap.size, 0, none⟩) 2 2, .int .i64 1, .int .i64 1, .int .i64 0, .slice (some ⟨w22.heap.size, 0, none⟩) 2 2, .int .i64 1, .int .i64 1, .int .i64 0, .slice (some ⟨w24.heap.size, 0, none⟩) 2 2] 45)) (.slice (some ⟨w20.heap.size, 0, none⟩) 2 2) [0, 1]) := RI.later HI21.out ((Below.refl _ _).alloc (Nat.le_refl _) _)
  have HI23 : Hid (RI (w26.alloc (.cells #[.int .i64 1, .int .i64 1, .int .i64 0, .slice (some ⟨wB.heap.size, 0, none⟩) 2 2, .int .i64 1, .int .i64 1, .int .i64 0, .slice (some ⟨w20.heap.size, 0, none⟩) 2 2, .int .i64 1, .int .i64 1, .int .i64 0, .slice (some ⟨w22.heap.size, 0, none⟩) 2 2, .int .i64 1, .int .i64 1, .int .i64 0, .slice (some ⟨w24.heap.size, 0, none⟩) 2 2] 45)) (.slice (some ⟨w22.heap.size, 0, none⟩) 2 2) [2, 1]) := RI.later HI23.out ((Below.refl _ _).alloc (Nat.le_refl _) _)
  have HI25 : Hid (RI (w26.alloc (.cells #[.int .i64 1, .int .i64 1, .int .i64 0, .slice (some ⟨wB.heap.size, 0, none⟩) 2 2, .int .i64 1, .int .i64 1, .int .i64 0, .slice (some ⟨w20.heap.size, 0, none⟩) 2 2, .int .i64 1, .int .i64 1, .int .i64 0, .slice (some ⟨w22.heap.size, 0, none⟩) 2 2, .int .i64 1, .int .i64 1, .int .i64 0, .slice (some ⟨w24.heap.size, 0, none⟩) 2 2] 45)) (.slice (some ⟨w24.heap.size, 0, none⟩) 2 2) [2, 2]) := RI.later HI25.out ((Below.refl _ _).alloc (Nat.le_refl _) _)
  have HB0 : Hid (Below w.heap.size w (w26.alloc (.cells #[.int .i64 1, .int .i64 1, .int .i64 0, .slice (some ⟨wB.heap.size, 0, none⟩) 2 2, .int .i64 1, .int .i64 1, .int .i64 0, .slice (some ⟨w20.heap.size, 0, none⟩) 2 2, .int .i64 1, .int .i64 1, .int .i64 0, .slice (some ⟨w22.heap.size, 0, none⟩) 2 2, .int .i64 1, .int .i64 1, .int .i64 0, .slice (some ⟨w24.heap.size, 0, none⟩) 2 2] 45))) := HB0.out.alloc HB0.out.size _
  have HE27 : Hid (RE (w26.alloc (.cells #[.int .i64 1, .int .i64 1, .int .i64 0, .slice (some ⟨wB.heap.size, 0, none⟩) 2 2, .int .i64 1, .int .i64 1, .int .i64 0, .slice (some ⟨w20.heap.size, 0, none⟩) 2 2, .int .i64 1, .int .i64 1, .int .i64 0, .slice (some ⟨w22.heap.size, 0, none⟩) 2 2, .int .i64 1, .int .i64 1, .int .i64 0, .slice (some ⟨w24.heap.size, 0, none⟩) 2 2] 45)) (.slice (some ⟨w26.heap.size, 0, none⟩) 4 4) [exE 1 0, exE 0 1, exE 2 1, exE 2 2]) := RE.of_row [(exE 1 0, (.slice (some ⟨wB.heap.size, 0, none⟩) 2 2)), (exE 0 1, (.slice (some ⟨w20.heap.size, 0, none⟩) 2 2)), (exE 2 1, (.slice (some ⟨w22.heap.size, 0, none⟩) 2 2)), (exE 2 2, (.slice (some ⟨w24.heap.size, 0, none⟩) 2 2))] #[.int .i64 1, .int .i64 1, .int .i64 0, .slice (some ⟨wB.heap.size, 0, none⟩) 2 2, .int .i64 1, .int .i64 1, .int .i64 0, .slice (some ⟨w20.heap.size, 0, none⟩) 2 2, .int .i64 1, .int .i64 1, .int .i64 0, .slice (some ⟨w22.heap.size, 0, none⟩) 2 2, .int .i64 1, .int .i64 1, .int .i64 0, .slice (some ⟨w24.heap.size, 0, none⟩) 2 2] (by have h9 := row_new w26 #[.int .i64 1, .int .i64 1, .int .i64 0, .slice (some ⟨wB.heap.size, 0, none⟩) 2 2, .int .i64 1, .int .i64 1, .int .i64 0, .slice (some ⟨w20.heap.size, 0, none⟩) 2 2, .int .i64 1, .int .i64 1, .int .i64 0, .slice (some ⟨w22.heap.size, 0, none⟩) 2 2, .int .i64 1, .int .i64 1, .int .i64 0, .slice (some ⟨w24.heap.size, 0, none⟩) 2 2] 45; (try simp only [World.size_alloc] at h9); exact h9) rfl (fun p hp => by simp only [List.mem_cons, List.not_mem_nil, or_false] at hp; rcases hp with rfl | rfl | rfl | rfl; exact HI19.out; exact HI21.out; exact HI23.out; exact HI25.out) (by simp) 4 rfl
  go_wp2_with fail
  refine Calls.mono (sameAll_any _ _ _ _ _ HH.out HE27.out (by decide) (by decide) (by decide) (by decide)) ?_
  rintro e wC ⟨rfl, hbwC⟩
  have HH : Hid (RE wC (.slice va 4 vc) [exE 1 0, exE 0 1, exE 2 1, exE 2 2]) := RE.later HH.out hbwC
  have HNN : Hid (RI wC (.slice na 2 nc) [2, 2]) := RI.later HNN.out hbwC
  have HI19 : Hid (RI wC (.slice (some ⟨wB.heap.size, 0, none⟩) 2 2) [1, 0]) := RI.later HI19.out hbwC
  have HI21 : Hid (RI wC (.slice (some ⟨w20.heap.size, 0, none⟩) 2 2) [0, 1]) := RI.later HI21.out hbwC
  have HI23 : Hid (RI wC (.slice (some ⟨w22.heap.size, 0, none⟩) 2 2) [2, 1]) := RI.later HI23.out hbwC
  have HI25 : Hid (RI wC (.slice (some ⟨w24.heap.size, 0, none⟩) 2 2) [2, 2]) := RI.later HI25.out hbwC
  have HE27 : Hid (RE wC (.slice (some ⟨w26.heap.size, 0, none⟩) 4 4) [exE 1 0, exE 0 1, exE 2 1, exE 2 2]) := RE.later HE27.out hbwC
  have HB0 : Hid (Below w.heap.size w wC) := HB0.out.trans (hbwC.mono HB0.out.size)
  clear hbwC
  simp only [decide_true]
  clear HI19 HI21 HI23 HI25 HE27
  have HH : Hid (RE (wC.alloc (.cells #[.int .i64 2, .int .i64 2] 3)) (.slice va 4 vc) [exE 1 0, exE 0 1, exE 2 1, exE 2 2]) := RE.later HH.out ((Below.refl _ _).alloc (Nat.le_refl _) _)
  have HNN : Hid (RI (wC.alloc (.cells #[.int .i64 2, .int .i64 2] 3)) (.slice na 2 nc) [2, 2]) := RI.later HNN.out ((Below.refl _ _).alloc (Nat.le_refl _) _)
  have HB0 : Hid (Below w.heap.size w (wC.alloc (.cells #[.int .i64 2, .int .i64 2] 3))) := HB0.out.alloc HB0.out.size _
  have HI28 : Hid (RI (wC.alloc (.cells #[.int .i64 2, .int .i64 2] 3)) (.slice (some ⟨wC.heap.size, 0, none⟩) 2 2) [2, 2]) := two_new wC 2 2
  go_wp2_with fail
  refine Calls.mono (same_any _ _ _ _ _ HNN.out HI28.out (by decide) (by decide)) ?_
  rintro e wD ⟨rfl, hbwD⟩
  have HH : Hid (RE wD (.slice va 4 vc) [exE 1 0, exE 0 1, exE 2 1, exE 2 2]) := RE.later HH.out hbwD
  have HNN : Hid (RI wD (.slice na 2 nc) [2, 2]) := RI.later HNN.out hbwD
  have HI28 : Hid (RI wD (.slice (some ⟨wC.heap.size, 0, none⟩) 2 2) [2, 2]) := RI.later HI28.out hbwD
  have HB0 : Hid (Below w.heap.size w wD) := HB0.out.trans (hbwD.mono HB0.out.size)
  clear hbwD
  simp only [decide_true]
  clear HNN HI28
  go_wp2_with fail
  refine Calls.mono (c_check _ _ 2 _ HH.out (by decide)) ?_
  rintro e wE ⟨rfl, hbwE⟩
  have HH : Hid (RE wE (.slice va 4 vc) [exE 1 0, exE 0 1, exE 2 1, exE 2 2]) := RE.later HH.out hbwE
  have HB0 : Hid (Below w.heap.size w wE) := HB0.out.trans (hbwE.mono HB0.out.size)
  clear hbwE
  rw [ex_c]
  go_wp2_with fail
  refine Calls.mono (c_ahead _ _ 0 2 _ HH.out) ?_
  rintro e wF ⟨rfl, hbwF⟩
  have HH : Hid (RE wF (.slice va 4 vc) [exE 1 0, exE 0 1, exE 2 1, exE 2 2]) := RE.later HH.out hbwF
  have HB0 : Hid (Below w.heap.size w wF) := HB0.out.trans (hbwF.mono HB0.out.size)
  clear hbwF
  rw [ex_a]
  go_wp2_with fail
  refine Calls.mono (c_ahead _ _ 0 1 _ HH.out) ?_
  rintro e wG ⟨rfl, hbwG⟩
  have HH : Hid (RE wG (.slice va 4 vc) [exE 1 0, exE 0 1, exE 2 1, exE 2 2]) := RE.later HH.out hbwG
  have HB0 : Hid (Below w.heap.size w wG) := HB0.out.trans (hbwG.mono HB0.out.size)
  clear hbwG
  rw [ex_b]
  go_wp2_with fail
  go_ret
  exact ⟨rfl, HB0.out⟩
end Go.Proofs.Ytamfpmpooaejkaa
