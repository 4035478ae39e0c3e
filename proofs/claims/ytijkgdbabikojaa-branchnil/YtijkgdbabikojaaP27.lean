/- Texts of the seat, packed: Hd. -/
import Derived.Test.YtijkgdbabikojaaP26
/- The walk over BranchNil. -/
namespace Go.Proofs.Ytijkgdbabikojaa
open Go.RowKit
open Dk (DS DK Okay Small WR Kp Wid cutP appendP syncP hasB hasB_true)
set_option maxRecDepth 1000000
set_option linter.unusedVariables false

theorem made_nil (w : World) : Calls Try.prog 35 #[.pointer none] w fun e w' => e = .returned (.bool false) ∧ Below w.heap.size w w' := made_br none 0 w (cnt_nil w) (by omega)

theorem new_one (w : World) : Calls Try.prog 22 #[.int .i64 1, .int .i64 5000] w fun e w' => ∃ p, e = .returned (.tuple #[.pointer (some ⟨p, 0, none⟩), .int .i64 0]) ∧ (∃ T : Nat → Prop, DK T w' p (Dk.newP 1 5000) ∧ ∀ k, T k → w.heap.size ≤ k) ∧ Below w.heap.size w w' := by
  refine Calls.mono (Dk.new_yes 1 5000 w (by omega) (by omega) (by omega)) ?_
  rintro e w' ⟨rfl, h1, h2⟩
  exact ⟨_, rfl, ⟨_, h1, fun k hk => by omega⟩, h2⟩

theorem one_open : openP 1 (Dk.newP 1 5000) = ([], 0, Dk.newP 1 5000) := rfl
theorem one_small : Small 1000 10000 (Dk.newP 1 5000) := ⟨fun i => by show (0 : Nat) ≤ _; omega, by show 5000 ≤ 10000; omega⟩

set_option maxHeartbeats 8000000 in
theorem nil_walk (ev : Ev) (sv : Value) (i : Int) (s : List UInt8) (w : World) (hv : RI w sv ev.s) : Calls Try.prog 6 #[.agg #[.int .i64 ev.k, .int .i64 ev.i, .int .i64 ev.t, sv], .int .i64 i, .string ⟨s.toArray⟩] w fun e w' => e = .returned (.bool true) ∧ Below w.heap.size w w' := by
  have HL : Hid (∀ wx, Calls Try.prog 7 #[] wx fun e w' => e = .returned (.bool true) ∧ Below wx.heap.size wx w') := lives_any
  have hsz : (⟨s.toArray⟩ : ByteArray).size = s.length := by simp [ByteArray.size]
  have HV : Hid _ := hv
  obtain ⟨a, c, rfl, hcc, _, _⟩ := hv
  obtain ⟨ek, Hek⟩ : ∃ z, Hid (ev.k = z) := ⟨_, rfl⟩
  obtain ⟨ei, Hei⟩ : ∃ z, Hid (ev.i = z) := ⟨_, rfl⟩
  obtain ⟨et, Het⟩ : ∃ z, Hid (ev.t = z) := ⟨_, rfl⟩
  obtain ⟨n, HN⟩ : ∃ z, Hid (ev.s.length = z) := ⟨_, rfl⟩
  rw [Hek.out, Hei.out, Het.out, HN.out]
  rw [HN.out] at hcc
  have HX : Hid (Below w.heap.size w (w.alloc (.cells #[.int .i64 ek, .int .i64 ei, .int .i64 et, .slice a n c] 52))) := (Below.refl _ _).alloc (Nat.le_refl _) _
  have HBOX : Hid (Box (w.alloc (.cells #[.int .i64 ek, .int .i64 ei, .int .i64 et, .slice a n c] 52)) w.heap.size ek ei et (.slice a n c)) := Box.new w _ _ _ _
  by_cases hs : 1000 < s.length ∨ 200 < n
  · have H1 : Hid _ := HL.out (w.alloc (.cells #[.int .i64 ek, .int .i64 ei, .int .i64 et, .slice a n c] 52))
    clear HL
    by_cases hs1 : 1000 < s.length
    · have hsi : (1000 : Int) < (s.length : Int) := by omega
      clear hs hs1
      go_enter Try.func6, Try.ntmps6
      go_wp2_with fail
      refine Calls.mono H1.out ?_
      rintro e w1 ⟨rfl, hb1⟩
      have HB1 : Hid (Below w.heap.size w w1) := HX.out.trans (hb1.mono HX.out.size)
      clear hb1 H1
      go_wp2_with fail
      go_ret
      exact ⟨rfl, HB1.out⟩
    · have hsi : ¬ (1000 : Int) < (s.length : Int) := by omega
      have hni : (200 : Int) < (n : Int) := by omega
      clear hs hs1
      go_enter Try.func6, Try.ntmps6
      go_wp2_with fail
      refine Calls.mono H1.out ?_
      rintro e w1 ⟨rfl, hb1⟩
      have HB1 : Hid (Below w.heap.size w w1) := HX.out.trans (hb1.mono HX.out.size)
      clear hb1 H1
      go_wp2_with fail
      go_ret
      exact ⟨rfl, HB1.out⟩
  · have hsi : ¬ (1000 : Int) < (s.length : Int) := by omega
    have hni : ¬ (200 : Int) < (n : Int) := by omega
    have H1 : Hid _ := told_nil (w.alloc (.cells #[.int .i64 ek, .int .i64 ei, .int .i64 et, .slice a n c] 52))
    have HSL : Hid (s.length ≤ 1000 ∧ n ≤ 200) := by show _ ∧ _; omega
    clear hs
    go_enter Try.func6, Try.ntmps6
    go_wp2_with fail
    obtain ⟨W0, HW0⟩ : ∃ W0, Hid (w.alloc (.cells #[.int .i64 ek, .int .i64 ei, .int .i64 et, .slice a n c] 52) = W0) := ⟨_, rfl⟩
    rw [HW0.out] at H1 HX HBOX ⊢
    have HBX : Hid (∀ wx, Below W0.heap.size W0 wx → Box wx w.heap.size ek ei et (.slice a n c)) := fun wx hb => Box.later HBOX.out hb
    clear HW0
    refine Calls.mono H1.out ?_
    rintro e w1 ⟨rfl, hb1⟩
    have HB1 : Hid _ := hb1
    have K2 : Hid _ := load_nil i w1
    clear hb1 H1
    go_wp2_with fail
    refine Calls.mono K2.out ?_
    rintro e w2 ⟨la, lc, rfl, q3⟩
    have HB2 : Hid _ := HB1.out.trans (q3.mono HB1.out.size)
    have K3 : Hid _ := open_nil w2
    clear q3 K2 HB1
    go_wp2_with fail
    refine Calls.mono K3.out ?_
    rintro e w3 ⟨rfl, q3⟩
    have HB3 : Hid _ := HB2.out.trans (q3.mono HB2.out.size)
    have K4 : Hid _ := keep_nil i 0 w3
    clear q3 K3 HB2
    go_wp2_with fail
    refine Calls.mono K4.out ?_
    rintro e w4 ⟨rfl, q3⟩
    have HB4 : Hid _ := HB3.out.trans (q3.mono HB3.out.size)
    have K5 : Hid _ := begin_nil ⟨s.toArray⟩ w4
    clear q3 K4 HB3
    go_wp2_with fail
    refine Calls.mono K5.out ?_
    rintro e w5 ⟨rfl, q3⟩
    have HB5 : Hid _ := HB4.out.trans (q3.mono HB4.out.size)
    have K6 : Hid _ := append_nil ek ei et (.slice a n c) i rfl w5
    have hbx := HBX.out w5 HB5.out
    have z0 := hbx.c0
    have z1 := hbx.c1
    have z2 := hbx.c2
    have z3 := hbx.c3
    clear q3 K5 HB4 hbx
    go_wp2_with fail
    refine Calls.mono K6.out ?_
    rintro e w6 ⟨rfl, q3⟩
    have HB6 : Hid _ := HB5.out.trans (q3.mono HB5.out.size)
    have K7 : Hid _ := new_one w6
    clear q3 K6 HB5 z0 z1 z2 z3
    go_wp2_with fail
    refine Calls.mono K7.out ?_
    rintro e w7 ⟨p, rfl, ⟨T, d1, d2⟩, q3⟩
    have HB7 : Hid _ := HB6.out.trans (q3.mono HB6.out.size)
    have ho : Okay (Dk.newP 1 5000) := Dk.okay_new (by omega) (by omega)
    have K8 : Hid _ := open_any 1 (fun S => S = Dk.newP 1 5000) (fun S h => by subst h; exact ⟨ho, Dk.small_mono one_small (by omega) (by omega), rfl⟩) (fun S i m hi h => by omega) T w7 p (Dk.newP 1 5000) d1 rfl
    rw [one_open] at K8
    have HT7 : Hid (∀ k, T k → w6.heap.size ≤ k) := d2
    have HS6 : Hid (W0.heap.size ≤ w6.heap.size) := HB6.out.size
    clear q3 K7 d1 d2
    go_wp2_with fail
    refine Calls.mono K8.out ?_
    rintro e w8 ⟨ya, yc, rfl, ⟨T8, d1, _, d2⟩, _, q3⟩
    have hT8 : ∀ b, T8 b → W0.heap.size ≤ b := fun b hb => by
      rcases d2 b hb with h | h
      · exact Nat.le_trans HS6.out (HT7.out b h)
      · exact Nat.le_trans HB7.out.size h
    have hb8 : Below W0.heap.size w7 w8 := q3.below HB7.out.size (fun b hb => Nat.le_trans HS6.out (HT7.out b hb))
    have HB8 : Hid _ := HB7.out.trans hb8
    have hri8 : RI w8 (.slice a ev.s.length c) ev.s := RI.later HV.out (HX.out.trans (HB8.out.mono HX.out.size))
    have K9 : Hid (Calls Try.prog 21 #[.pointer (some ⟨p, 0, none⟩), .int .i64 i, .agg #[.int .i64 ek, .int .i64 ei, .int .i64 et, .slice a n c]] w8 (WR T8 w8 p (2, Dk.newP 1 5000))) := by
      have h1 := append_br T8 w8 p (Dk.newP 1 5000) i ev a c d1 ho (Dk.small_mono one_small (by omega) (by omega)) hri8 (by rw [HN.out]; have := HSL.out; omega)
      rw [app_no (fun h => by have h9 := h.1; unfold hasN at h9; simp only [decide_eq_true_eq] at h9; have h8 : (Dk.newP 1 5000).n = 1 := rfl; rw [h8] at h9; omega)] at h1
      unfold EvV at h1
      rw [Hek.out, Hei.out, Het.out, HN.out] at h1
      exact h1
    have hbx := HBX.out w8 HB8.out
    have z0 := hbx.c0
    have z1 := hbx.c1
    have z2 := hbx.c2
    have z3 := hbx.c3
    have HT8 : Hid _ := hT8
    clear d1 d2 q3 hb8 hri8 K8 HB7 hbx hT8 HT7 HS6
    go_wp2_with fail
    refine Calls.mono K9.out ?_
    rintro e w9 ⟨rfl, d1, q3⟩
    have HB9 : Hid (Below W0.heap.size W0 w9) := HB8.out.trans (q3.below HB8.out.size HT8.out)
    have K10 : Hid (Calls Try.prog 18 #[.pointer (some ⟨p, 0, none⟩), .string ⟨s.toArray⟩] w9 fun e w' => e = .returned (.int .i64 0) ∧ Below W0.heap.size w9 w') := by
      refine Calls.mono (begin_any _ w9 p (Dk.newP 1 5000) s d1 ho (Dk.small_mono one_small (by omega) (by omega)) (by show (0 : Nat) ≤ _; omega) (by have := HSL.out; omega)) ?_
      rintro e w' ⟨r1, r2, r3⟩
      rw [one_begin s HSL.out.1] at r1
      refine ⟨r1, r3.below HB9.out.size (fun k hk => ?_)⟩
      rcases hk with hk | hk
      · exact HT8.out k hk
      · exact Nat.le_trans HB8.out.size hk.1
    clear d1 q3 K9 z0 z1 z2 z3
    go_wp2_with fail
    refine Calls.mono K10.out ?_
    rintro e w10 ⟨rfl, q3⟩
    have HB10 : Hid _ := HB9.out.trans q3
    have K11 : Hid _ := HL.out w10
    clear q3 K10
    go_wp2_with fail
    refine Calls.mono K11.out ?_
    rintro e w11 ⟨rfl, q3⟩
    have HB11 : Hid _ := HB10.out.trans (q3.mono HB10.out.size)
    clear q3 K11
    go_wp2_with fail
    go_ret
    exact ⟨rfl, HX.out.trans (HB11.out.mono HX.out.size)⟩
end Go.Proofs.Ytijkgdbabikojaa

