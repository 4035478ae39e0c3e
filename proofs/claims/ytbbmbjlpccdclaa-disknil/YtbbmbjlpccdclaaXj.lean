/- The laws' lives. -/
import Derived.Test.YtbbmbjlpccdclaaXi
namespace Go.Proofs.Ytbbmbjlpccdclaa
open Go.RowKit
set_option linter.unusedVariables false

set_option maxRecDepth 1000000 in
set_option maxHeartbeats 4000000 in
theorem lives_any (w : World) : Calls Try.prog 9 #[] w fun e w' => e = .returned (.bool true) ∧ Below w.heap.size w w' := by
  have HN : Hid (Calls Try.prog 10 #[.int .i64 2, .int .i64 9] w fun e w' => ∃ p, e = .returned (.tuple #[.pointer (some ⟨p, 0, none⟩), .int .i64 0]) ∧ LD w.heap.size w' p v0 0 9 ∧ Below w.heap.size w w') := d_new 2 9 w (by omega) (by omega) (by omega)
  have H1 : Hid (∀ p wp fr, LD w.heap.size wp p v0 0 9 → Calls Try.prog 23 #[.pointer (some ⟨p, 0, none⟩), .int .i64 0, .slice (some ⟨wp.heap.size, 0, none⟩) 3 3] (wp.alloc (.cells #[.int .u8 97, .int .u8 98, .int .u8 99] 5 fr)) fun e w' => e = .returned (.int .i64 0) ∧ LD w.heap.size w' p v1 3 9 ∧ Below w.heap.size wp w') := fun p wp fr h => by
    have := d_append h 0 [97, 98, 99] #[.int .u8 97, .int .u8 98, .int .u8 99] fr rfl (by decide) (by decide) (by decide)
    rw [k1] at this
    exact this
  have H2 : Hid (∀ p wp, LD w.heap.size wp p v1 3 9 → Calls Try.prog 22 #[.pointer (some ⟨p, 0, none⟩), .int .i64 0] wp fun e w' => e = .returned (.int .i64 0) ∧ LD w.heap.size w' p v2 3 9 ∧ Below w.heap.size wp w') := fun p wp h => by
    have := d_sync h 0 (by decide) (by decide)
    rw [k2] at this
    exact this
  have H3 : Hid (∀ p wp fr, LD w.heap.size wp p v2 3 9 → Calls Try.prog 23 #[.pointer (some ⟨p, 0, none⟩), .int .i64 0, .slice (some ⟨wp.heap.size, 0, none⟩) 2 2] (wp.alloc (.cells #[.int .u8 100, .int .u8 101] 5 fr)) fun e w' => e = .returned (.int .i64 0) ∧ LD w.heap.size w' p v3 5 9 ∧ Below w.heap.size wp w') := fun p wp fr h => by
    have := d_append h 0 [100, 101] #[.int .u8 100, .int .u8 101] fr rfl (by decide) (by decide) (by decide)
    rw [k3] at this
    exact this
  have H4 : Hid (∀ p wp fr, LD w.heap.size wp p v3 5 9 → Calls Try.prog 23 #[.pointer (some ⟨p, 0, none⟩), .int .i64 1, .slice (some ⟨wp.heap.size, 0, none⟩) 1 1] (wp.alloc (.cells #[.int .u8 120] 5 fr)) fun e w' => e = .returned (.int .i64 0) ∧ LD w.heap.size w' p v4 6 9 ∧ Below w.heap.size wp w') := fun p wp fr h => by
    have := d_append h 1 [120] #[.int .u8 120] fr rfl (by decide) (by decide) (by decide)
    rw [k4] at this
    exact this
  have H5 : Hid (∀ p wp, LD w.heap.size wp p v4 6 9 → Calls Try.prog 17 #[.pointer (some ⟨p, 0, none⟩), .slice (some ⟨wp.heap.size, 0, none⟩) 1 1] (wp.alloc (.cells #[.int .i64 1] 3)) fun e w' => e = .returned (.int .i64 0) ∧ LD w.heap.size w' p v5 6 399 ∧ Below w.heap.size wp w') := fun p wp h => d_crash1 h 1 (by decide) (by decide)
  have H5a : Hid (∀ p wp, LD w.heap.size wp p v5 6 399 → Calls Try.prog 15 #[.pointer (some ⟨p, 0, none⟩), .int .i64 0] wp fun e w' => (∃ v, e = .returned v ∧ RB w' v [97, 98, 99, 100]) ∧ LD w.heap.size w' p v5 6 399 ∧ Below wp.heap.size wp w') := fun p wp h => by
    have := d_read h 0 (by decide) (by decide)
    rw [k5a] at this
    exact this
  have H5b : Hid (∀ p wp, LD w.heap.size wp p v5 6 399 → Calls Try.prog 15 #[.pointer (some ⟨p, 0, none⟩), .int .i64 1] wp fun e w' => (∃ a c, e = .returned (.slice a 0 c)) ∧ LD w.heap.size w' p v5 6 399 ∧ Below wp.heap.size wp w') := fun p wp h => by
    have := d_read h 1 (by decide) (by decide)
    rw [k5b] at this
    refine Calls.mono this ?_
    rintro e w' ⟨⟨v, q1, a, c, q2, _⟩, q3⟩
    exact ⟨⟨a, c, by rw [q1, q2]; rfl⟩, q3⟩
  have H5c : Hid (∀ p wp, LD w.heap.size wp p v5 6 399 → Calls Try.prog 19 #[.pointer (some ⟨p, 0, none⟩)] wp fun e w' => e = .returned (.int .i64 5) ∧ LD w.heap.size w' p v5 6 399 ∧ Below wp.heap.size wp w') := fun p wp h => by
    have := d_room h
    rw [k5c] at this
    exact this
  have H6 : Hid (∀ p wp, LD w.heap.size wp p v5 6 399 → Calls Try.prog 20 #[.pointer (some ⟨p, 0, none⟩), .int .i64 1] wp fun e w' => e = .returned (.int .i64 0) ∧ LD w.heap.size w' p v6 6 399 ∧ Below w.heap.size wp w') := fun p wp h => by
    have := d_arm h 1 (by decide)
    rw [k6] at this
    exact this
  have H7 : Hid (∀ p wp fr, LD w.heap.size wp p v6 6 399 → Calls Try.prog 23 #[.pointer (some ⟨p, 0, none⟩), .int .i64 1, .slice (some ⟨wp.heap.size, 0, none⟩) 1 1] (wp.alloc (.cells #[.int .u8 121] 5 fr)) fun e w' => e = .returned (.int .i64 0) ∧ LD w.heap.size w' p v7 7 399 ∧ Below w.heap.size wp w') := fun p wp fr h => by
    have := d_append h 1 [121] #[.int .u8 121] fr rfl (by decide) (by decide) (by decide)
    rw [k7] at this
    exact this
  have H8 : Hid (∀ p wp, LD w.heap.size wp p v7 7 399 → Calls Try.prog 22 #[.pointer (some ⟨p, 0, none⟩), .int .i64 1] wp fun e w' => e = .returned (.int .i64 9) ∧ LD w.heap.size w' p v8 7 399 ∧ Below w.heap.size wp w') := fun p wp h => by
    have := d_sync h 1 (by decide) (by decide)
    rw [k8] at this
    exact this
  have H9 : Hid (∀ p wp, LD w.heap.size wp p v8 7 399 → Calls Try.prog 18 #[.pointer (some ⟨p, 0, none⟩)] wp fun e w' => e = .returned (.bool true) ∧ LD w.heap.size w' p v8 7 399 ∧ Below wp.heap.size wp w') := fun p wp h => by
    have := d_down h
    rw [k8d] at this
    exact this
  generalize v0 = s0 at *
  generalize v1 = s1 at *
  generalize v2 = s2 at *
  generalize v3 = s3 at *
  generalize v4 = s4 at *
  generalize v5 = s5 at *
  generalize v6 = s6 at *
  generalize v7 = s7 at *
  generalize v8 = s8 at *
  have hcv := conv33
  go_enter Try.func9, Try.ntmps9
  go_wp2_with fail
  refine Calls.mono (HN.out) ?_
  rintro e w0 ⟨p, rfl, hd0, hb0⟩
  clear HN
  go_wp2_with fail
  refine Calls.mono (H1.out _ _ _ hd0) ?_
  rintro e w1 ⟨rfl, hd1, hb1⟩
  clear H1
  go_wp2_with fail
  refine Calls.mono (H2.out _ _ hd1) ?_
  rintro e w2 ⟨rfl, hd2, hb2⟩
  clear H2
  go_wp2_with fail
  refine Calls.mono (H3.out _ _ _ hd2) ?_
  rintro e w3 ⟨rfl, hd3, hb3⟩
  clear H3
  go_wp2_with fail
  refine Calls.mono (H4.out _ _ _ hd3) ?_
  rintro e w4 ⟨rfl, hd4, hb4⟩
  clear H4
  go_wp2_with fail
  refine Calls.mono (H5.out _ _ hd4) ?_
  rintro e w5 ⟨rfl, hd5, hb5⟩
  clear H5
  go_wp2_with fail
  refine Calls.mono (H5a.out _ _ hd5) ?_
  rintro e w5a ⟨⟨va, rfl, hva⟩, hd5a, hb5a⟩
  have hcv0 := string_of_RB hva
  obtain ⟨aa, ca, rfl, _, _, _, _⟩ := hva
  have hcva : (convert 33 9 (.slice aa 4 ca)).run Try.prog w5a = .ok (.string ⟨#[97, 98, 99, 100]⟩) w5a := hcv0
  clear hcv0
  clear H5a
  go_wp2_with fail
  refine Calls.mono (H5b.out _ _ hd5a) ?_
  rintro e w5b ⟨⟨ab, cb, rfl⟩, hd5b, hb5b⟩
  clear H5b
  go_wp2_with fail
  refine Calls.mono (H5c.out _ _ hd5b) ?_
  rintro e w5c ⟨rfl, hd5c, hb5c⟩
  clear H5c
  go_wp2_with fail
  refine Calls.mono (H6.out _ _ hd5c) ?_
  rintro e w6 ⟨rfl, hd6, hb6⟩
  clear H6
  go_wp2_with fail
  refine Calls.mono (H7.out _ _ _ hd6) ?_
  rintro e w7 ⟨rfl, hd7, hb7⟩
  clear H7
  go_wp2_with fail
  refine Calls.mono (H8.out _ _ hd7) ?_
  rintro e w8 ⟨rfl, hd8, hb8⟩
  clear H8
  go_wp2_with fail
  refine Calls.mono (H9.out _ _ hd8) ?_
  rintro e w9 ⟨rfl, hd9, hb9⟩
  clear H9
  go_wp2_with fail
  go_ret
  have f1 := hb0.trans hb1
  have f2 := f1.trans hb2
  have f3 := f2.trans hb3
  have f4 := f3.trans hb4
  have f5 := f4.trans hb5
  have f6 := f5.trans (hb5a.mono f5.size)
  have f7 := f6.trans (hb5b.mono f6.size)
  have f8 := f7.trans (hb5c.mono f7.size)
  have f9 := f8.trans hb6
  have f10 := f9.trans hb7
  have f11 := f10.trans hb8
  exact ⟨rfl, f11.trans (hb9.mono f11.size)⟩
end Go.Proofs.Ytbbmbjlpccdclaa
