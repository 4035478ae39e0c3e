/- The walk over the laws' lives: the program tells the document's examples. -/
import Derived.Test.YtcnodkkdhkkicaaDoorPd
import Derived.Test.YtcnodkkdhkkicaaDoorEh
namespace Go.Proofs.YtcnodkkdhkkicaaDoor
open Go.RowKit
set_option linter.unusedVariables false

theorem l8 (sv : Value) (w : World) (h : RI w sv [2, 0]) : Calls Tryd.prog 8 #[.agg #[.int .i64 4, .int .i64 5, .int .i64 1, sv]] w fun x w' => ∃ v c, x = .returned (.tuple #[.slice v 6 c, .int .i64 0]) ∧ RB w' (.slice v 6 c) [4, 5, 1, 2, 2, 0] ∧ Below w.heap.size w w' := by
  have := bytes_ev ex sv w h (by decide)
  rw [ex_byt, ex_err] at this
  exact this

theorem l18 (v : Option Addr) (c : Nat) (w : World) (h : RB w (.slice v 6 c) [4, 5, 1, 2, 2, 0]) : Calls Tryd.prog 18 #[.slice v 6 c] w fun x w' => ∃ sv, x = .returned (.tuple #[.agg #[.int .i64 4, .int .i64 5, .int .i64 1, sv], .int .i64 0]) ∧ RI w' sv [2, 0] ∧ Below w.heap.size w w' := by
  have := read_ev (.slice v 6 c) _ w h (by decide)
  rw [show readF (tri ((([4, 5, 1, 2, 2, 0] : List UInt8).getD 0 0).toNat : Nat)) [4, 5, 1, 2, 2, 0] = some ex from ex_rd] at this
  exact this

theorem l20 (sv su : Value) (w : World) (h : RI w sv [2, 0]) (h2 : RI w su [2, 0]) : Calls Tryd.prog 20 #[.agg #[.int .i64 4, .int .i64 5, .int .i64 1, sv], .agg #[.int .i64 4, .int .i64 5, .int .i64 1, su]] w fun x w' => x = .returned (.bool true) ∧ Below w.heap.size w w' := by
  have := same_ev ex ex sv su w h h2 (by decide) (by decide)
  rw [ex_same] at this
  exact this

theorem l12 (sv : Value) (w : World) (h : RI w sv [2, 0]) (ht : Tab w.heap.size w) : Calls Tryd.prog 12 #[.agg #[.int .i64 4, .int .i64 5, .int .i64 1, sv]] w fun x w' => x = .returned (.string ⟨#[117, 110, 100, 111, 32, 53, 46, 49, 32, 50, 32, 48]⟩) ∧ Below w.heap.size w w' := by
  have := text_ev ex sv w h (by decide) ht
  rw [ex_text] at this
  exact this

theorem l10 (w : World) : Calls Tryd.prog 10 #[.agg #[.int .i64 0, .int .i64 0, .int .i64 0, .slice none 0 0]] w fun x w' => x = .returned (.int .i64 2) ∧ Below w.heap.size w w' := by
  have := check_ev ⟨0, 0, 0, []⟩ (.slice none 0 0) w (RI.nil w) (by decide)
  rw [none_err] at this
  exact this

theorem l16 (w : World) : Calls Tryd.prog 16 #[.int .i64 4] w fun x w' => x = .returned (.bool true) ∧ w' = w := opens_any 4 w

theorem ri_two (w : World) : RI (w.alloc (.cells #[.int .i64 2, .int .i64 0] 3)) (.slice (some ⟨w.heap.size, 0, none⟩) 2 2) [2, 0] := by
  have h : RowI (w.alloc (.cells #[.int .i64 2, .int .i64 0] 3)) w.heap.size [2, 0] := row_new w _ 3
  exact RowI.ri h (by decide)

set_option maxRecDepth 1000000 in
set_option maxHeartbeats 4000000 in
theorem lives_any (w : World) (htab : Tab w.heap.size w) : Calls Tryd.prog 7 #[] w fun x w' => x = .returned (.bool true) ∧ Below w.heap.size w w' := by
  have HTab : Hid (∀ wx, Below w.heap.size w wx → Tab wx.heap.size wx) := fun wx hb => (htab.later hb).up hb.size
  have HB1 : Hid (Below w.heap.size w ((w.alloc (.cells #[.int .i64 2, .int .i64 0] 3)).alloc (.cells #[.int .i64 4, .int .i64 5, .int .i64 1, .slice (some ⟨w.heap.size, 0, none⟩) 2 2] 25))) := ((Below.refl _ _).alloc (Nat.le_refl _) _).alloc (by simp) _
  have HR1 : Hid (RI ((w.alloc (.cells #[.int .i64 2, .int .i64 0] 3)).alloc (.cells #[.int .i64 4, .int .i64 5, .int .i64 1, .slice (some ⟨w.heap.size, 0, none⟩) 2 2] 25)) (.slice (some ⟨w.heap.size, 0, none⟩) 2 2) [2, 0]) := (ri_two w).later ((Below.refl _ _).alloc (Nat.le_refl _) _)
  have HX1 : Hid (Box ((w.alloc (.cells #[.int .i64 2, .int .i64 0] 3)).alloc (.cells #[.int .i64 4, .int .i64 5, .int .i64 1, .slice (some ⟨w.heap.size, 0, none⟩) 2 2] 25)) (w.heap.size + 1) 4 5 1 (.slice (some ⟨w.heap.size, 0, none⟩) 2 2)) := heap_alloc2_new w _ _
  clear htab
  go_enter Tryd.func7, Tryd.ntmps7
  go_wp2_with fail
  refine Calls.mono (l8 _ _ HR1.out) ?_
  rintro e w2 ⟨v2, c2, rfl, hr2, hb2⟩
  have HB2 : Hid (Below w.heap.size w w2) := HB1.out.trans (hb2.mono (by simp; omega))
  have HR2 : Hid (RI w2 (.slice (some ⟨w.heap.size, 0, none⟩) 2 2) [2, 0]) := RI.later HR1.out hb2
  have HX2 : Hid (Box w2 (w.heap.size + 1) 4 5 1 (.slice (some ⟨w.heap.size, 0, none⟩) 2 2)) := HX1.out.later hb2
  have HS2 : Hid (RB w2 (.slice v2 6 c2) [4, 5, 1, 2, 2, 0]) := hr2
  clear hb2 hr2 HB1 HR1 HX1
  go_wp2_with fail
  refine Calls.mono (l18 _ _ _ HS2.out) ?_
  rintro e w3 ⟨sv, rfl, hr3, hb3⟩
  have HB3 : Hid (Below w.heap.size w (w3.alloc (.cells #[.int .i64 4, .int .i64 5, .int .i64 1, sv] 25))) := (HB2.out.trans (hb3.mono HB2.out.size)).alloc (HB2.out.trans (hb3.mono HB2.out.size)).size _
  have HR3 : Hid (RI (w3.alloc (.cells #[.int .i64 4, .int .i64 5, .int .i64 1, sv] 25)) (.slice (some ⟨w.heap.size, 0, none⟩) 2 2) [2, 0]) := RI.later (RI.later HR2.out hb3) ((Below.refl _ _).alloc (Nat.le_refl _) _)
  have HQ3 : Hid (RI (w3.alloc (.cells #[.int .i64 4, .int .i64 5, .int .i64 1, sv] 25)) sv [2, 0]) := RI.later hr3 ((Below.refl _ _).alloc (Nat.le_refl _) _)
  have HX3 : Hid (Box (w3.alloc (.cells #[.int .i64 4, .int .i64 5, .int .i64 1, sv] 25)) (w.heap.size + 1) 4 5 1 (.slice (some ⟨w.heap.size, 0, none⟩) 2 2)) := (HX2.out.later hb3).alloc _
  have hcv := string_of_RB (RB.later (RB.later HS2.out hb3) ((Below.refl _ _).alloc (Nat.le_refl _) (.cells #[.int .i64 4, .int .i64 5, .int .i64 1, sv] 25)))
  have d0 := HX3.out.c0
  have d1 := HX3.out.c1
  have d2 := HX3.out.c2
  have d3 := HX3.out.c3
  obtain ⟨sa, sc, hsv, _, _, _⟩ := hr3
  obtain rfl : sv = .slice sa 2 sc := hsv
  clear hb3 HB2 HR2 HX2 HS2
  go_wp2_with fail
  refine Calls.mono (l20 _ _ _ HQ3.out HR3.out) ?_
  rintro e w5 ⟨rfl, hb5⟩
  have HB5 : Hid (Below w.heap.size w w5) := HB3.out.trans (hb5.mono HB3.out.size)
  have HR5 : Hid (RI w5 (.slice (some ⟨w.heap.size, 0, none⟩) 2 2) [2, 0]) := RI.later HR3.out hb5
  have HX5 : Hid (Box w5 (w.heap.size + 1) 4 5 1 (.slice (some ⟨w.heap.size, 0, none⟩) 2 2)) := HX3.out.later hb5
  clear hb5 HB3 HR3 HQ3 HX3 hcv d0 d1 d2 d3
  have d0 := HX5.out.c0
  have d1 := HX5.out.c1
  have d2 := HX5.out.c2
  have d3 := HX5.out.c3
  go_wp2_with fail
  refine Calls.mono (l12 _ _ HR5.out (HTab.out _ HB5.out)) ?_
  rintro e w6 ⟨rfl, hb6⟩
  have HB6 : Hid (Below w.heap.size w w6) := HB5.out.trans (hb6.mono HB5.out.size)
  clear hb6 HB5 HR5 HX5 d0 d1 d2 d3
  go_wp2_with fail
  refine Calls.mono (l10 _) ?_
  rintro e w7 ⟨rfl, hb7⟩
  have HB7 : Hid (Below w.heap.size w w7) := HB6.out.trans (hb7.mono HB6.out.size)
  clear hb7 HB6
  go_wp2_with fail
  refine Calls.mono (l16 _) ?_
  rintro e w8 ⟨rfl, h2⟩
  obtain rfl := h2.symm
  clear h2
  go_wp2_with fail
  go_ret
  exact ⟨rfl, HB7.out⟩
end Go.Proofs.YtcnodkkdhkkicaaDoor
