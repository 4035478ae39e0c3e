/- The walk over the laws' lives: the document's examples. -/
import Derived.Test.YtjpeefibdpjfaabSf
namespace Go.Proofs.Ytjpeefibdpjfaab
open Go.RowKit
set_option linter.unusedVariables false

theorem RI.new1 (w : World) (x : Int) : RI (w.alloc (.cells #[.int .i64 x] 3)) (.slice (some ⟨w.heap.size, 0, none⟩) 1 1) [x] := by
  have h : RowI (w.alloc (.cells #[.int .i64 x] 3)) w.heap.size [x] := row_new w _ 3
  exact h.ri (by simp)

theorem RI.new2 (w : World) (x y : Int) : RI (w.alloc (.cells #[.int .i64 x, .int .i64 y] 3)) (.slice (some ⟨w.heap.size, 0, none⟩) 2 2) [x, y] := by
  have h : RowI (w.alloc (.cells #[.int .i64 x, .int .i64 y] 3)) w.heap.size [x, y] := row_new w _ 3
  exact h.ri (by simp)

theorem two_new (w : World) (x y p q : Int) : RI ((w.alloc (.cells #[.int .i64 x, .int .i64 y] 3)).alloc (.cells #[.int .i64 p, .int .i64 q] 3)) (.slice (some ⟨w.heap.size, 0, none⟩) 2 2) [x, y]
    ∧ RI ((w.alloc (.cells #[.int .i64 x, .int .i64 y] 3)).alloc (.cells #[.int .i64 p, .int .i64 q] 3)) (.slice (some ⟨w.heap.size + 1, 0, none⟩) 2 2) [p, q]
    ∧ Below w.heap.size w ((w.alloc (.cells #[.int .i64 x, .int .i64 y] 3)).alloc (.cells #[.int .i64 p, .int .i64 q] 3)) := by
  refine ⟨(RI.new2 w x y).later ((Below.refl _ _).alloc (Nat.le_refl _) _), ?_, ((Below.refl _ w).alloc (Nat.le_refl _) _).alloc (by simp) _⟩
  have := RI.new2 (w.alloc (.cells #[.int .i64 x, .int .i64 y] 3)) p q
  rw [World.size_alloc] at this
  exact this

theorem l_tick : ∀ wx : World, Calls Try.prog 10 #[.slice (some ⟨wx.heap.size, 0, none⟩) 2 2, .int .i64 0] (wx.alloc (.cells #[.int .i64 1, .int .i64 2] 3)) fun e w' => ∃ v c, e = .returned (.tuple #[.slice v 2 c, .int .i64 0]) ∧ RI w' (.slice v 2 c) [2, 2] ∧ Below wx.heap.size wx w' := by
  intro wx
  have hb : Below wx.heap.size wx (wx.alloc (.cells #[.int .i64 1, .int .i64 2] 3)) := (Below.refl _ _).alloc (Nat.le_refl _) _
  have h := tick_any _ [1, 2] 0 _ (RI.new2 wx 1 2) (by simp)
  have e1 : tickL [1, 2] 0 = [2, 2] := by decide
  have e2 : tickE [1, 2] 0 = 0 := by decide
  rw [e1, e2] at h
  refine Calls.mono h ?_
  rintro e w' ⟨v, c, h1, h2, h3⟩
  exact ⟨v, c, h1, h2, hb.trans (h3.mono hb.size)⟩

theorem l_rank (x y p q : Int) (r : Nat) (hr : rankZ [x, y] [p, q] = r) : ∀ wx : World, Calls Try.prog 11 #[.slice (some ⟨wx.heap.size, 0, none⟩) 2 2, .slice (some ⟨wx.heap.size + 1, 0, none⟩) 2 2] ((wx.alloc (.cells #[.int .i64 x, .int .i64 y] 3)).alloc (.cells #[.int .i64 p, .int .i64 q] 3)) fun e w' => e = .returned (.int .i64 (r : Nat)) ∧ Below wx.heap.size wx w' := by
  intro wx
  obtain ⟨h1, h2, hb⟩ := two_new wx x y p q
  have h := rank_any _ _ [x, y] [p, q] _ h1 h2 (by simp) (by simp)
  rw [hr] at h
  refine Calls.mono h ?_
  rintro e w' ⟨h1, h3⟩
  exact ⟨h1, hb.trans (h3.mono hb.size)⟩

theorem l_rank3 : ∀ wx : World, Calls Try.prog 11 #[.slice (some ⟨wx.heap.size, 0, none⟩) 1 1, .slice (some ⟨wx.heap.size + 1, 0, none⟩) 2 2] ((wx.alloc (.cells #[.int .i64 1] 3)).alloc (.cells #[.int .i64 1, .int .i64 0] 3)) fun e w' => e = .returned (.int .i64 0) ∧ Below wx.heap.size wx w' := by
  intro wx
  have hb : Below wx.heap.size wx ((wx.alloc (.cells #[.int .i64 1] 3)).alloc (.cells #[.int .i64 1, .int .i64 0] 3)) := ((Below.refl _ wx).alloc (Nat.le_refl _) _).alloc (by simp) _
  have h2 := RI.new2 (wx.alloc (.cells #[.int .i64 1] 3)) 1 0
  rw [World.size_alloc] at h2
  have h := rank_any _ _ [1] [1, 0] _ ((RI.new1 wx 1).later ((Below.refl _ _).alloc (Nat.le_refl _) _)) h2 (by simp) (by simp)
  rw [show rankZ [1] [1, 0] = 0 by decide] at h
  refine Calls.mono h ?_
  rintro e w' ⟨h1, h3⟩
  exact ⟨h1, hb.trans (h3.mono hb.size)⟩

theorem l_join : ∀ wx : World, Calls Try.prog 12 #[.slice (some ⟨wx.heap.size, 0, none⟩) 2 2, .slice (some ⟨wx.heap.size + 1, 0, none⟩) 2 2] ((wx.alloc (.cells #[.int .i64 1, .int .i64 5] 3)).alloc (.cells #[.int .i64 2, .int .i64 3] 3)) fun e w' => ∃ v c, e = .returned (.slice v 2 c) ∧ RI w' (.slice v 2 c) [2, 5] ∧ Below wx.heap.size wx w' := by
  intro wx
  obtain ⟨h1, h2, hb⟩ := two_new wx 1 5 2 3
  have h := join_any _ _ [1, 5] [2, 3] _ h1 h2 (by simp) (by simp)
  rw [show joinL [1, 5] [2, 3] = [2, 5] by decide] at h
  refine Calls.mono h ?_
  rintro e w' ⟨v, c, h1, h2, h3⟩
  exact ⟨v, c, h1, h2, hb.trans (h3.mono hb.size)⟩

theorem l_same (v : Option Addr) (c : Nat) (x y : Int) : ∀ wx : World, RI wx (.slice v 2 c) [x, y] → Calls Try.prog 9 #[.slice v 2 c, .slice (some ⟨wx.heap.size, 0, none⟩) 2 2] (wx.alloc (.cells #[.int .i64 x, .int .i64 y] 3)) fun e w' => e = .returned (.bool true) ∧ Below wx.heap.size wx w' := by
  intro wx hr
  have hb : Below wx.heap.size wx (wx.alloc (.cells #[.int .i64 x, .int .i64 y] 3)) := (Below.refl _ _).alloc (Nat.le_refl _) _
  have h := same_any [x, y] [x, y] _ _ _ (hr.later hb) (RI.new2 wx x y) (by simp) (by simp)
  rw [show decide ([x, y] = [x, y]) = true from decide_eq_true rfl] at h
  refine Calls.mono h ?_
  rintro e w' ⟨h1, h2⟩
  exact ⟨h1, hb.trans (h2.mono hb.size)⟩

theorem l_next (x y p q : Int) (r : Bool) (hr : nxB [x, y] [p, q] 0 = r) : ∀ wx : World, Calls Try.prog 13 #[.slice (some ⟨wx.heap.size, 0, none⟩) 2 2, .slice (some ⟨wx.heap.size + 1, 0, none⟩) 2 2, .int .i64 0] ((wx.alloc (.cells #[.int .i64 x, .int .i64 y] 3)).alloc (.cells #[.int .i64 p, .int .i64 q] 3)) fun e w' => e = .returned (.bool r) ∧ Below wx.heap.size wx w' := by
  intro wx
  obtain ⟨h1, h2, hb⟩ := two_new wx x y p q
  have h := next_any _ _ [x, y] [p, q] 0 _ h1 h2 (by simp) (by simp)
  rw [hr] at h
  refine Calls.mono h ?_
  rintro e w' ⟨h1, h3⟩
  exact ⟨h1, hb.trans (h3.mono hb.size)⟩

theorem nx1 : nxB [1, 2] [2, 1] 0 = true := by
  have h1 : othB [2, 1] [1, 2] 0 = true := by decide
  unfold nxB
  rw [h1]
  simp [atZ, wrap64]

theorem nx2 : nxB [1, 2] [2, 3] 0 = false := by
  have h1 : othB [2, 3] [1, 2] 0 = false := by decide
  unfold nxB
  rw [h1]
  simp

set_option maxRecDepth 1000000 in
set_option maxHeartbeats 4000000 in
theorem lives_any (w : World) : Calls Try.prog 5 #[] w fun e w' => e = .returned (.bool true) ∧ Below w.heap.size w w' := by
  have HT : Hid _ := l_tick
  have HK1 : Hid _ := l_rank 1 2 1 3 1 (by decide)
  have HK2 : Hid _ := l_rank 1 2 2 1 3 (by decide)
  have HK3 : Hid _ := l_rank3
  have HJ : Hid _ := l_join
  have HN1 : Hid _ := l_next 1 2 2 1 true nx1
  have HN2 : Hid _ := l_next 1 2 2 3 false nx2
  go_enter Try.func5, Try.ntmps5
  go_wp2_with fail
  refine Calls.mono (HT.out _) ?_
  rintro e w1 ⟨v1, c1, rfl, hr1, hb1⟩
  have HR1 : Hid (RI w1 (.slice v1 2 c1) [2, 2]) := hr1
  have HB1 : Hid (Below w.heap.size w w1) := hb1
  clear hr1 hb1 HT
  go_wp2_with fail
  refine Calls.mono (HK1.out _) ?_
  rintro e w2 ⟨rfl, hb2⟩
  have HB2 : Hid (Below w1.heap.size w1 w2) := hb2
  clear hb2 HK1
  go_wp2_with fail
  refine Calls.mono (HK2.out _) ?_
  rintro e w3 ⟨rfl, hb3⟩
  have HB3 : Hid (Below w1.heap.size w1 w3) := HB2.out.trans (hb3.mono HB2.out.size)
  clear hb3 HK2
  go_wp2_with fail
  refine Calls.mono (HK3.out _) ?_
  rintro e w4 ⟨rfl, hb4⟩
  have HB4 : Hid (Below w1.heap.size w1 w4) := HB3.out.trans (hb4.mono HB3.out.size)
  clear hb4 HK3
  go_wp2_with fail
  refine Calls.mono (HJ.out _) ?_
  rintro e w5 ⟨v5, c5, rfl, hr5, hb5⟩
  have HR5 : Hid (RI w5 (.slice v5 2 c5) [2, 5]) := hr5
  have HB5 : Hid (Below w1.heap.size w1 w5) := HB4.out.trans (hb5.mono HB4.out.size)
  have HS5 : Hid _ := l_same v5 c5 2 5 w5 HR5.out
  clear hr5 hb5 HJ
  go_wp2_with fail
  refine Calls.mono HS5.out ?_
  rintro e w6 ⟨rfl, hb6⟩
  have HB6 : Hid (Below w1.heap.size w1 w6) := HB5.out.trans (hb6.mono HB5.out.size)
  have HS6 : Hid _ := l_same v1 c1 2 2 w6 (HR1.out.later HB6.out)
  clear hb6 HS5
  go_wp2_with fail
  refine Calls.mono HS6.out ?_
  rintro e w7 ⟨rfl, hb7⟩
  have HB7 : Hid (Below w1.heap.size w1 w7) := HB6.out.trans (hb7.mono HB6.out.size)
  clear hb7 HS6
  go_wp2_with fail
  refine Calls.mono (HN1.out _) ?_
  rintro e w8 ⟨rfl, hb8⟩
  have HB8 : Hid (Below w1.heap.size w1 w8) := HB7.out.trans (hb8.mono HB7.out.size)
  clear hb8 HN1
  go_wp2_with fail
  refine Calls.mono (HN2.out _) ?_
  rintro e w9 ⟨rfl, hb9⟩
  have HB9 : Hid (Below w1.heap.size w1 w9) := HB8.out.trans (hb9.mono HB8.out.size)
  clear hb9 HN2
  have HBZ : Hid (Below w.heap.size w w9) := HB1.out.trans (HB9.out.mono HB1.out.size)
  go_wp2_with fail
  go_ret
  exact ⟨rfl, HBZ.out⟩
end Go.Proofs.Ytjpeefibdpjfaab
