/- The laws' example: job, lives. -/
import Derived.Test.YtfhmmiilenonkaaVa
namespace Go.Proofs.Ytfhmmiilenonkaa
open Go.RowKit Go.Shelf
set_option maxRecDepth 1000000
set_option linter.unusedVariables false

variable {N : Nat} {F S : Nat → Prop} {w w' : World} {p n : Nat} {s : Pq.St Jb}

/-- One of an item. -/
def jI (i : Int) : Jb := ⟨i, false, 0, false, 0, []⟩

theorem job_any (i : Int) (w : World) : Calls Try.prog 23 #[.int .i64 i] w fun e w' => e = .returned (.agg #[.int .i64 i, .bool false, .int .i64 0, .bool false, .int .i64 0, .slice none 0 0]) ∧ Below w.heap.size w w' := by
  have R0 : Hid ((w.alloc (.cells (jrow (jI i, .slice none 0 0)).toArray 37)).heap[w.heap.size]? = _) := row_new w (jrow (jI i, .slice none 0 0)).toArray 37
  have HB : Hid _ := bl1 w (.cells (jrow (jI i, .slice none 0 0)).toArray 37)
  go_enter Try.func23, Try.ntmps23
  go_wp2_with fail
  exact retJ rfl w.heap.size (jI i) (.slice none 0 0) rfl rfl R0.out ⟨rfl, HB.out⟩

/-- The example's pools. -/
def x1 : Pq.St Jb := ⟨[[jI 1], []], [none, none]⟩
def x2 : Pq.St Jb := ⟨[[jI 1, jI 2], []], [none, none]⟩
def x3 : Pq.St Jb := ⟨[[jI 2], []], [none, some (jI 1)]⟩
def x4 : Pq.St Jb := ⟨[[], []], [some (jI 2), some (jI 1)]⟩
def x5 : Pq.St Jb := ⟨[[], []], [none, some (jI 1)]⟩
def x6 : Pq.St Jb := ⟨[[], []], [some (jI 1), none]⟩
theorem lv1 : pushC (st0 2) 2 0 (jI 1) = (0, x1) := rfl
theorem lv2 : pushC x1 2 0 (jI 2) = (0, x2) := rfl
theorem lv3 : takeC x2 2 1 5 = (x3, (jI 1, 0, 0)) := rfl
theorem lv4 : takeC x3 2 0 0 = (x4, (jI 2, 0, 0)) := rfl
theorem lv5 : doneC x4 2 0 = (0, x5) := rfl
theorem lv6 : takeC x5 2 0 0 = (x6, (jI 1, 1, 0)) := rfl
theorem lv7 : x6.cnt = 1 := rfl
theorem i1 : PInv x1 := by have := (PInv.st0 2).pushC 2 0 (e := jI 1) (by simp [jI]); rw [lv1] at this; exact this
theorem i2 : PInv x2 := by have := i1.pushC 2 0 (e := jI 2) (by simp [jI]); rw [lv2] at this; exact this
theorem i3 : PInv x3 := by have := i2.takeC 2 1 5; rw [lv3] at this; exact this
theorem i4 : PInv x4 := by have := i3.takeC 2 0 0; rw [lv4] at this; exact this
theorem i5 : PInv x5 := by have := i4.doneC 2 0; rw [lv5] at this; exact this
theorem i6 : PInv x6 := by have := i5.takeC 2 0 0; rw [lv6] at this; exact this

theorem l_push {s' : Pq.St Jb} (i : Int) (h : LP N F w p n s) (hi : PInv s) (he : pushC s n 0 (jI i) = (0, s')) :
    Calls Try.prog 19 #[.pointer (some ⟨p, 0, none⟩), .int .i64 0, .agg #[.int .i64 i, .bool false, .int .i64 0, .bool false, .int .i64 0, .slice none 0 0]] w fun x w' => x = .returned (.int .i64 0) ∧ LP N F w' p n s' ∧ Kp (Mv N F) w w' := by
  have := push_all 0 (e := jI i) (sv := .slice none 0 0) h hi (RI.nil _) (by simp [jI])
  rw [he] at this
  exact this
theorem l_take {s' : Pq.St Jb} {v pick j u : Int} (h : LP N F w p n s) (hi : PInv s) (hp : pick = 0 ∨ pick = 5) (he : takeC s n v pick = (s', (jI j, u, 0))) :
    Calls Try.prog 15 #[.pointer (some ⟨p, 0, none⟩), .int .i64 v, .int .i64 pick] w fun x w' => (∃ a c, x = .returned (.tuple #[.agg #[.int .i64 j, .bool false, .int .i64 0, .bool false, .int .i64 0, .slice a 0 c], .int .i64 u, .int .i64 0])) ∧ LP N F w' p n s' ∧ Kp (Mv N F) w w' := by
  have := take_all v pick h hi (by omega)
  rw [he] at this
  refine Calls.mono this ?_
  rintro e w' ⟨sv, rfl, q1, q2, q3⟩
  obtain ⟨a, c, rfl, _⟩ := q1.1
  exact ⟨⟨a, c, rfl⟩, q2, q3⟩
/-- A box of the law's own. -/
theorem LP.box (h : LP N F w p n s) (o : Obj) : LP N (fun k => F k ∨ k = w.heap.size) (w.alloc o) p n s :=
  (h.guard (bl1 w o)).less (fun k hk => hk.imp id (fun e => by rw [e, World.size_alloc]; omega))

set_option maxHeartbeats 8000000 in
theorem lives_any (w : World) : Calls Try.prog 8 #[] w fun e w' => e = .returned (.bool true) ∧ Below w.heap.size w w' := by
  have HN : Hid _ := new_w 2 (by omega) (by omega) w
  have HJ : Hid (∀ (i : Int) (wx : World), Calls Try.prog 23 #[.int .i64 i] wx fun e w' => e = .returned (.agg #[.int .i64 i, .bool false, .int .i64 0, .bool false, .int .i64 0, .slice none 0 0]) ∧ Below wx.heap.size wx w') := fun i wx => job_any i wx
  obtain ⟨N, hN⟩ : ∃ N, N = w.heap.size := ⟨_, rfl⟩
  have HNN : Hid (N ≤ w.heap.size) := Nat.le_of_eq hN
  rw [← hN] at HN ⊢
  clear hN
  go_enter Try.func8, Try.ntmps8
  go_wp2_with fail
  refine Calls.mono HN.out ?_
  rintro e w1 ⟨p, rfl, hd1, hb1⟩
  have HD1 : Hid _ := hd1
  have HB1 : Hid (Below N w w1) := hb1
  clear hd1 hb1 HN
  go_wp2_with fail
  refine Calls.mono (HJ.out 1 w1) ?_
  rintro e w2 ⟨rfl, hb2⟩
  have H2 : Hid _ := l_push 1 (HD1.out.later hb2) (PInv.st0 2) lv1
  have HB2 : Hid (Below N w w2) := HB1.out.trans (hb2.mono HD1.out.le)
  clear hb2 HD1
  go_wp2_with fail
  refine Calls.mono H2.out ?_
  rintro e w3 ⟨rfl, hd3, hb3⟩
  have HD3 : Hid _ := hd3
  have HB3 : Hid (Below N w w3) := HB2.out.trans (Mv.below hb3 (Nat.le_trans HNN.out HB2.out.size))
  clear hd3 hb3 H2
  go_wp2_with fail
  refine Calls.mono (HJ.out 2 w3) ?_
  rintro e w4 ⟨rfl, hb4⟩
  have H4 : Hid _ := l_push 2 (HD3.out.later hb4) i1 lv2
  have HB4 : Hid (Below N w w4) := HB3.out.trans (hb4.mono HD3.out.le)
  clear hb4 HD3
  go_wp2_with fail
  refine Calls.mono H4.out ?_
  rintro e w5 ⟨rfl, hd5, hb5⟩
  have H5 : Hid _ := l_take hd5 i2 (.inr rfl) lv3
  have HB5 : Hid (Below N w w5) := HB4.out.trans (Mv.below hb5 (Nat.le_trans HNN.out HB4.out.size))
  clear hd5 hb5 H4
  go_wp2_with fail
  refine Calls.mono H5.out ?_
  rintro e w6 ⟨⟨a6, c6, rfl⟩, hd6, hb6⟩
  have HB6 : Hid (Below N w w6) := HB5.out.trans (Mv.below hb6 (Nat.le_trans HNN.out HB5.out.size))
  have HD6 : Hid _ := hd6.box (.cells #[.int .i64 1, .bool false, .int .i64 0, .bool false, .int .i64 0, .slice a6 0 c6] 37)
  have R6 : Hid _ := row_new w6 #[.int .i64 1, .bool false, .int .i64 0, .bool false, .int .i64 0, .slice a6 0 c6] 37
  have HB6' : Hid (Below N w (w6.alloc (.cells #[.int .i64 1, .bool false, .int .i64 0, .bool false, .int .i64 0, .slice a6 0 c6] 37))) := HB6.out.alloc (Nat.le_trans HNN.out HB6.out.size) _
  have H6 : Hid _ := l_take HD6.out i3 (.inl rfl) lv4
  clear hd6 hb6 H5 HD6 HB6
  go_wp2_with fail
  refine Calls.mono H6.out ?_
  rintro e w7 ⟨⟨a7, c7, rfl⟩, hd7, hb7⟩
  have HB7 : Hid (Below N w w7) := HB6'.out.trans (Mv.below hb7 (Nat.le_trans HNN.out HB6'.out.size))
  have r7 := hb7.row R6.out (fun h => h.2 (.inr rfl))
  have HD7 : Hid _ := hd7.box (.cells #[.int .i64 2, .bool false, .int .i64 0, .bool false, .int .i64 0, .slice a7 0 c7] 37)
  have R7 : Hid _ := row_new w7 #[.int .i64 2, .bool false, .int .i64 0, .bool false, .int .i64 0, .slice a7 0 c7] 37
  have R67 : Hid _ := row_later r7 (bl1 w7 (.cells #[.int .i64 2, .bool false, .int .i64 0, .bool false, .int .i64 0, .slice a7 0 c7] 37))
  have HB7' : Hid (Below N w (w7.alloc (.cells #[.int .i64 2, .bool false, .int .i64 0, .bool false, .int .i64 0, .slice a7 0 c7] 37))) := HB7.out.alloc (Nat.le_trans HNN.out HB7.out.size) _
  have H7 : Hid _ := done_all 0 HD7.out
  rw [lv5] at H7
  clear hd7 hb7 r7 H6 R6 HD7 HB7 HB6'
  go_wp2_with fail
  refine Calls.mono H7.out ?_
  rintro e w8 ⟨rfl, hd8, hb8⟩
  have HB8 : Hid (Below N w w8) := HB7'.out.trans (Mv.below hb8 (Nat.le_trans HNN.out HB7'.out.size))
  have R68 : Hid _ := hb8.row R67.out (fun h => h.2 (.inl (.inr rfl)))
  have R78 : Hid _ := hb8.row R7.out (fun h => h.2 (.inr rfl))
  have H8 : Hid _ := l_take hd8 i5 (.inl rfl) lv6
  clear hd8 hb8 H7 R67 R7 HB7'
  go_wp2_with fail
  refine Calls.mono H8.out ?_
  rintro e w9 ⟨⟨a9, c9, rfl⟩, hd9, hb9⟩
  have HB9 : Hid (Below N w w9) := HB8.out.trans (Mv.below hb9 (Nat.le_trans HNN.out HB8.out.size))
  have r69 := hb9.row R68.out (fun h => h.2 (.inl (.inr rfl)))
  have r79 := hb9.row R78.out (fun h => h.2 (.inr rfl))
  have HD9 : Hid _ := hd9.later (bl1 w9 (.cells #[.int .i64 1, .bool false, .int .i64 0, .bool false, .int .i64 0, .slice a9 0 c9] 37))
  have R69 : Hid _ := row_later r69 (bl1 w9 (.cells #[.int .i64 1, .bool false, .int .i64 0, .bool false, .int .i64 0, .slice a9 0 c9] 37))
  have R79 : Hid _ := row_later r79 (bl1 w9 (.cells #[.int .i64 1, .bool false, .int .i64 0, .bool false, .int .i64 0, .slice a9 0 c9] 37))
  have R99 : Hid _ := row_new w9 #[.int .i64 1, .bool false, .int .i64 0, .bool false, .int .i64 0, .slice a9 0 c9] 37
  have HB9' : Hid (Below N w (w9.alloc (.cells #[.int .i64 1, .bool false, .int .i64 0, .bool false, .int .i64 0, .slice a9 0 c9] 37))) := HB9.out.alloc (Nat.le_trans HNN.out HB9.out.size) _
  have H9 : Hid _ := held_err (by decide) ⟨_, rfl⟩ (holder_none HD9.out (v := 1) (by omega) rfl)
  clear hd9 hb9 r69 r79 H8 R68 R78 HB8 HB9
  go_wp2_with fail
  refine Calls.mono H9.out ?_
  rintro e wa ⟨rfl, hba⟩
  have HBa : Hid (Below N w wa) := HB9'.out.trans (hba.mono (Nat.le_trans HNN.out HB9'.out.size))
  have HDa : Hid _ := HD9.out.later hba
  have ra1 := row_later R69.out hba
  have ra2 := row_later R79.out hba
  have ra3 := row_later R99.out hba
  have c1 := (cell_row ra1 0).trans rfl
  have c2 := (cell_row ra2 0).trans rfl
  have c3 := (cell_row ra3 0).trans rfl
  have l1 := row_lt ra1
  have l2 := row_lt ra2
  have l3 := row_lt ra3
  have HLn : Hid _ := len_w (HDa.out.later (bl1 wa (.cells #[.int .i64 0, .bool false, .int .i64 0, .bool false, .int .i64 0, .slice none 0 0] 37))) i6
  rw [lv7] at HLn
  have HBa' : Hid (Below N w (wa.alloc (.cells #[.int .i64 0, .bool false, .int .i64 0, .bool false, .int .i64 0, .slice none 0 0] 37))) := HBa.out.alloc (Nat.le_trans HNN.out HBa.out.size) _
  unfold JV zJ
  dsimp only
  clear hba ra1 ra2 ra3 H9 R69 R79 R99 HB9' HD9
  go_wp2_with fail
  refine Calls.mono HLn.out ?_
  rintro e wb ⟨rfl, hbb⟩
  have HBb : Hid (Below N w wb) := HBa'.out.trans (hbb.mono (Nat.le_trans HNN.out HBa'.out.size))
  clear hbb HLn
  go_wp2_with fail
  go_ret
  exact ⟨rfl, HBb.out⟩
end Go.Proofs.Ytfhmmiilenonkaa
