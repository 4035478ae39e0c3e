/- The walk over the laws' examples. -/
import Derived.Test.YtfemfekhpfkafaaDoorOd
import Derived.Test.YtfemfekhpfkafaaDoorOh
namespace Go.Proofs.YtfemfekhpfkafaaDoor.Or
open Go.RowKit Go.Proofs.YtfemfekhpfkafaaDoor
set_option maxRecDepth 1000000
set_option linter.unusedVariables false

theorem mk_a : mk [2] [] = [0, 0, 4] := by decide
theorem mk_b : mk [] [0, 3] = [0, 3] := by decide
theorem ok_a : okM [2] [] = true := by decide
theorem ok_b : okM [] [0, 3] = true := by decide

theorem make_a (wx : World) : Calls Tryd.prog 16 #[.slice (some ⟨wx.heap.size, 0, none⟩) 1 1, .slice none 0 0] (wx.alloc (.cells #[.int .i64 2] 3)) fun e w' =>
    Below (wx.alloc (.cells #[.int .i64 2] 3)).heap.size (wx.alloc (.cells #[.int .i64 2] 3)) w' ∧ ∃ g c, e = .returned (.tuple #[.slice (some ⟨g, 0, none⟩) 3 c, .int .i64 0]) ∧ RB w' (.slice (some ⟨g, 0, none⟩) 3 c) [0, 0, 4] := by
  have h : RowI (wx.alloc (.cells #[.int .i64 2] 3)) wx.heap.size [2] := row_new wx _ 3
  refine Calls.mono (make_any [2] [] _ _ _ (h.ri (by decide)) (RI.nil _) (by decide) (by decide)) ?_
  rintro e w' ⟨hb, hc⟩
  rw [if_pos ok_a, mk_a] at hc
  exact ⟨hb, hc⟩

theorem make_b (wx : World) : Calls Tryd.prog 16 #[.slice none 0 0, .slice (some ⟨wx.heap.size, 0, none⟩) 2 2] (wx.alloc (.cells #[.int .i64 0, .int .i64 3] 3)) fun e w' =>
    Below (wx.alloc (.cells #[.int .i64 0, .int .i64 3] 3)).heap.size (wx.alloc (.cells #[.int .i64 0, .int .i64 3] 3)) w' ∧ ∃ g c, e = .returned (.tuple #[.slice (some ⟨g, 0, none⟩) 2 c, .int .i64 0]) ∧ RB w' (.slice (some ⟨g, 0, none⟩) 2 c) [0, 3] := by
  have h : RowI (wx.alloc (.cells #[.int .i64 0, .int .i64 3] 3)) wx.heap.size [0, 3] := row_new wx _ 3
  refine Calls.mono (make_any [] [0, 3] _ _ _ (RI.nil _) (h.ri (by decide)) (by decide) (by decide)) ?_
  rintro e w' ⟨hb, hc⟩
  rw [if_pos ok_b, mk_b] at hc
  exact ⟨hb, hc⟩

theorem most_c (wx : World) : Calls Tryd.prog 14 #[.slice (some ⟨wx.heap.size, 0, none⟩) 2 2, .int .i64 2] (wx.alloc (.cells #[.int .u8 0, .int .u8 7] 5)) fun e w' => e = .returned (.int .i64 3) ∧ w' = wx.alloc (.cells #[.int .u8 0, .int .u8 7] 5) :=
  most_any [0, 7] _ 2 _ (RB.new wx [0, 7] #[.int .u8 0, .int .u8 7] 5 rfl (by decide)) (by decide)

set_option maxHeartbeats 1000000 in
theorem lives_any (w : World) : Calls Tryd.prog 7 #[] w fun e w' => e = .returned (.bool true) ∧ Below w.heap.size w w' := by
  have HB1 : Hid (Below w.heap.size w (w.alloc (.cells #[.int .i64 2] 3))) := (Below.refl _ _).alloc (Nat.le_refl _) _
  go_enter Tryd.func7, Tryd.ntmps7
  go_wp2_with fail
  refine Calls.mono (make_a w) ?_
  rintro e w2 ⟨hb2, g1, c1, rfl, r2⟩
  have HB2 : Hid (Below w.heap.size w w2) := HB1.out.trans (hb2.mono HB1.out.size)
  have HR2 : Hid _ := r2
  have HB3 : Hid (Below w.heap.size w (w2.alloc (.cells #[.int .i64 0, .int .i64 3] 3))) := HB2.out.alloc HB2.out.size _
  have HR3 : Hid (RB (w2.alloc (.cells #[.int .i64 0, .int .i64 3] 3)) (.slice (some ⟨g1, 0, none⟩) 3 c1) [0, 0, 4]) := r2.later ((Below.refl _ _).alloc (Nat.le_refl _) _)
  clear hb2 r2 HB1 HR2
  go_wp2_with fail
  refine Calls.mono (make_b w2) ?_
  rintro e w4 ⟨hb4, g2, c2, rfl, r4⟩
  have HB4 : Hid (Below w.heap.size w w4) := HB3.out.trans (hb4.mono HB3.out.size)
  have HR4 : Hid (RB w4 (.slice (some ⟨g1, 0, none⟩) 3 c1) [0, 0, 4]) := HR3.out.later hb4
  have HS4 : Hid (RB w4 (.slice (some ⟨g2, 0, none⟩) 2 c2) [0, 3]) := r4
  have hv1 : (convert 22 9 (.slice (some ⟨g1, 0, none⟩) 3 c1)).run Tryd.prog w4 = .ok (.string ⟨#[0, 0, 4]⟩) w4 := string_of_RB HR4.out
  have hv2 : (convert 22 9 (.slice (some ⟨g2, 0, none⟩) 2 c2)).run Tryd.prog w4 = .ok (.string ⟨#[0, 3]⟩) w4 := string_of_RB HS4.out
  clear hb4 r4 HR3 HB3 HR4
  go_wp2_with fail
  refine Calls.mono (key_any 2 w4) ?_
  rintro e w5 ⟨rfl, hb5⟩
  have HB5 : Hid (Below w.heap.size w w5) := HB4.out.trans (hb5.mono HB4.out.size)
  have HS5 : Hid (RB w5 (.slice (some ⟨g2, 0, none⟩) 2 c2) [0, 3]) := HS4.out.later hb5
  have HO5 : Hid _ := ok_any [0, 3] (.slice (some ⟨g2, 0, none⟩) 2 c2) 1 true 2 w5 HS5.out (by decide)
  rw [show okP [0, 3] 1 true 2 = false by decide] at HO5
  unfold kV at HO5 ⊢
  clear hb5 hv1 hv2 HB4 HS4
  go_wp2_with fail
  refine Calls.mono HO5.out ?_
  rintro e w6 ⟨rfl, hb6⟩
  have HB6 : Hid (Below w.heap.size w w6) := HB5.out.trans (hb6.mono HB5.out.size)
  have HS6 : Hid (RB w6 (.slice (some ⟨g2, 0, none⟩) 2 c2) [0, 3]) := HS5.out.later hb6
  clear hb6 HB5 HS5 HO5
  go_wp2_with fail
  refine Calls.mono (key_any 3 w6) ?_
  rintro e w7 ⟨rfl, hb7⟩
  have HB7 : Hid (Below w.heap.size w w7) := HB6.out.trans (hb7.mono HB6.out.size)
  have HS7 : Hid (RB w7 (.slice (some ⟨g2, 0, none⟩) 2 c2) [0, 3]) := HS6.out.later hb7
  have HO7 : Hid _ := ok_any [0, 3] (.slice (some ⟨g2, 0, none⟩) 2 c2) 1 true 3 w7 HS7.out (by decide)
  rw [show okP [0, 3] 1 true 3 = true by decide] at HO7
  unfold kV at HO7 ⊢
  clear hb7 HB6 HS6
  go_wp2_with fail
  refine Calls.mono HO7.out ?_
  rintro e w8 ⟨rfl, hb8⟩
  have HB8 : Hid (Below w.heap.size w w8) := HB7.out.trans (hb8.mono HB7.out.size)
  have HB9 : Hid (Below w.heap.size w (w8.alloc (.cells #[.int .u8 0, .int .u8 7] 5))) := HB8.out.alloc HB8.out.size _
  have HM : Hid _ := most_c w8
  clear hb8 HB7 HS7 HO7
  go_wp2_with fail
  refine Calls.mono HM.out ?_
  rintro e w10 ⟨rfl, rfl⟩
  go_wp2_with fail
  go_ret
  exact ⟨rfl, HB9.out⟩
end Go.Proofs.YtfemfekhpfkafaaDoor.Or
