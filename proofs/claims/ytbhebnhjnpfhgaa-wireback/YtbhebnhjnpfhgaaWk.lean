/- The walk over the laws' lives: the document's examples. -/
import Derived.Test.YtbhebnhjnpfhgaaWi
namespace Go.Proofs.Ytbhebnhjnpfhgaa
open Go.RowKit
set_option linter.unusedVariables false

theorem one_top : oneP 1099511627776 = [128, 128, 128, 128, 128, 32] := by simp [oneP]
theorem one_300 : oneP 300 = [172, 2] := by simp [oneP]
theorem one_1 : oneP 1 = [1] := by simp [oneP]
theorem one_2 : oneP 2 = [2] := by simp [oneP]

theorem put_ex : putR [] 1099511627776 = [128, 128, 128, 128, 128, 32] ∧ putE 1099511627776 = 0 := by
  have h : isN 1099511627776 = true := by decide
  unfold putR putE
  rw [if_pos h, if_pos h]
  exact ⟨by rw [List.nil_append]; exact one_top, rfl⟩

theorem take_ex : takeI [128, 0] 0 = (0, 0, 4) := by decide

theorem puts_nums : putsP [1, 300] = [2, 1, 172, 2] := by
  show oneP 2 ++ manyP [1, 300] = _
  rw [many_cons, many_cons, one_1, one_2, one_300]
  rfl

theorem puts_ex : putsR [] [1, 300] = [2, 1, 172, 2] ∧ putsE [1, 300] = 0 := by
  have h : allN [1, 300] = true := by decide
  unfold putsR putsE
  rw [if_pos (by decide), if_pos h, if_pos (by decide), if_pos h]
  exact ⟨puts_nums, rfl⟩

theorem takes_ex : listI [2, 1, 172, 2] 0 = ([1, 300], 4, 0) := by
  have := list_put [] [1, 300] [] (by decide) (by decide)
  rw [puts_nums] at this
  exact this

theorem RI.new2 (w : World) (x y : Int) : RI (w.alloc (.cells #[.int .i64 x, .int .i64 y] 3)) (.slice (some ⟨w.heap.size, 0, none⟩) 2 2) [x, y] := by
  have h : RowI (w.alloc (.cells #[.int .i64 x, .int .i64 y] 3)) w.heap.size [x, y] := row_new w _ 3
  exact h.ri (by simp)

theorem RB.new2 (w : World) : RB (w.alloc (.cells #[.int .u8 128, .int .u8 0] 5)) (.slice (some ⟨w.heap.size, 0, none⟩) 2 2) [128, 0] := RB.new w [128, 0] #[.int .u8 128, .int .u8 0] 5 rfl (by simp)

theorem l_put : ∀ wx, Calls Try.prog 9 #[.slice none 0 0, .int .i64 1099511627776] wx fun e w' => ∃ v c, e = .returned (.tuple #[.slice v 6 c, .int .i64 0]) ∧ RB w' (.slice v 6 c) [128, 128, 128, 128, 128, 32] ∧ Below wx.heap.size wx w' := by
  intro wx
  have h := put_any _ [] 1099511627776 wx (RB.nil wx) (by simp)
  rw [put_ex.1, put_ex.2] at h
  exact h

theorem l_take : ∀ wx : World, Calls Try.prog 13 #[.slice (some ⟨wx.heap.size, 0, none⟩) 2 2, .int .i64 0] (wx.alloc (.cells #[.int .u8 128, .int .u8 0] 5)) fun e w' => e = .returned (.tuple #[.int .i64 0, .int .i64 0, .int .i64 4]) ∧ Below wx.heap.size wx w' := by
  intro wx
  have h := takei_any _ [128, 0] 0 _ (RB.new2 wx) (by simp)
  rw [take_ex] at h
  refine Calls.mono h ?_
  rintro e w' ⟨rfl, rfl⟩
  exact ⟨rfl, (Below.refl _ _).alloc (Nat.le_refl _) _⟩

theorem l_puts : ∀ wx : World, Calls Try.prog 11 #[.slice none 0 0, .slice (some ⟨wx.heap.size, 0, none⟩) 2 2] (wx.alloc (.cells #[.int .i64 1, .int .i64 300] 3)) fun e w' => ∃ v c, e = .returned (.tuple #[.slice v 4 c, .int .i64 0]) ∧ RB w' (.slice v 4 c) [2, 1, 172, 2] ∧ Below wx.heap.size wx w' := by
  intro wx
  have h := puts_any _ _ [] [1, 300] _ (RB.nil _) (RI.new2 wx 1 300) (by simp) (by simp)
  rw [puts_ex.1, puts_ex.2] at h
  refine Calls.mono h ?_
  rintro e w' ⟨v, c, h1, h2, h3⟩
  have hb : Below wx.heap.size wx (wx.alloc (.cells #[.int .i64 1, .int .i64 300] 3)) := (Below.refl _ _).alloc (Nat.le_refl _) _
  exact ⟨v, c, h1, h2, hb.trans (h3.mono hb.size)⟩

theorem l_takes : ∀ (wx : World) (v : Option Addr) (c : Nat), RB wx (.slice v 4 c) [2, 1, 172, 2] → Calls Try.prog 15 #[.slice v 4 c, .int .i64 0] wx fun e w' => ∃ v c, e = .returned (.tuple #[.slice v 2 c, .int .i64 4, .int .i64 0]) ∧ RI w' (.slice v 2 c) [1, 300] ∧ Below wx.heap.size wx w' := by
  intro wx v c hr
  have h := takes_any _ [2, 1, 172, 2] 0 wx hr (by simp)
  rw [takes_ex] at h
  exact h

set_option maxRecDepth 1000000 in
set_option maxHeartbeats 1000000 in
theorem lives_any (w : World) : Calls Try.prog 8 #[] w fun e w' => e = .returned (.bool true) ∧ Below w.heap.size w w' := by
  have HP : Hid _ := l_put
  have HT : Hid _ := l_take
  have HPS : Hid _ := l_puts
  have HTS : Hid _ := l_takes
  go_enter Try.func8, Try.ntmps8
  go_wp2_with fail
  refine Calls.mono (HP.out _) ?_
  rintro e w1 ⟨v1, c1, rfl, hr1, hb1⟩
  have HR1 : Hid (RB w1 (.slice v1 6 c1) [128, 128, 128, 128, 128, 32]) := hr1
  have HB1 : Hid (Below w.heap.size w w1) := hb1
  clear hr1 hb1 HP
  go_wp2_with fail
  refine Calls.mono (HT.out _) ?_
  rintro e w2 ⟨rfl, hb2⟩
  clear HT
  go_wp2_with fail
  refine Calls.mono (HPS.out _) ?_
  rintro e w3 ⟨v3, c3, rfl, hr3, hb3⟩
  have HB13 : Hid (Below w1.heap.size w1 w3) := hb2.trans (hb3.mono hb2.size)
  have HR3 : Hid (RB w3 (.slice v3 4 c3) [2, 1, 172, 2]) := hr3
  clear hb2 hb3 hr3 HPS
  go_wp2_with fail
  refine Calls.mono (HTS.out _ _ _ HR3.out) ?_
  rintro e w4 ⟨v4, c4, rfl, hr4, hb4⟩
  have HB14 : Hid (Below w1.heap.size w1 w4) := HB13.out.trans (hb4.mono HB13.out.size)
  have hsa := string_of_RB (HR1.out.later HB14.out)
  have hsb := string_of_RB (HR3.out.later hb4)
  have HS : Hid (∀ wx : World, Below w4.heap.size w4 wx → Calls Try.prog 17 #[.slice v4 2 c4, .slice (some ⟨w4.heap.size, 0, none⟩) 2 2] (w4.alloc (.cells #[.int .i64 1, .int .i64 300] 3)) fun e w' => e = .returned (.bool true) ∧ Below w4.heap.size w4 w') := by
    show ∀ wx, _
    intro wx _
    have hb : Below w4.heap.size w4 (w4.alloc (.cells #[.int .i64 1, .int .i64 300] 3)) := (Below.refl _ _).alloc (Nat.le_refl _) _
    have h := same_any [1, 300] [1, 300] _ _ _ (hr4.later hb) (RI.new2 w4 1 300) (by simp) (by simp)
    refine Calls.mono h ?_
    rintro e w' ⟨h1, h2⟩
    exact ⟨by rw [h1]; rfl, hb.trans (h2.mono hb.size)⟩
  clear HTS hr4 hb4 HR1 HR3 HB13
  go_wp2_with fail
  refine Calls.mono (HS.out w4 (Below.refl _ _)) ?_
  rintro e w5 ⟨rfl, hb5⟩
  have HB5 : Hid (Below w.heap.size w w5) := (HB1.out.trans (HB14.out.mono HB1.out.size)).trans (hb5.mono (HB1.out.trans (HB14.out.mono HB1.out.size)).size)
  clear hsa hsb hb5 HS
  go_wp2_with fail
  go_ret
  exact ⟨rfl, HB5.out⟩
end Go.Proofs.Ytbhebnhjnpfhgaa
