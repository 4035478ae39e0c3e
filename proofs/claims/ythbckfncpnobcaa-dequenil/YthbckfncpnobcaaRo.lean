/- Deques of the call's own; the laws' job, lives. -/
import Derived.Test.YthbckfncpnobcaaRn
namespace Go.Proofs.Ythbckfncpnobcaa
open Go.RowKit
set_option maxRecDepth 1000000
set_option linter.unusedVariables false

/-- A deque whose blocks are the call's own, and none of F. -/
structure LD (N : Nat) (F : Nat → Prop) (w : World) (p : Nat) (L : List Jb) : Prop where
  own : ∃ T, DQ T w p L ∧ ∀ k, T k → N ≤ k ∧ ¬ F k
  le : N ≤ w.heap.size
  fl : ∀ k, F k → k < w.heap.size
/-- What may turn. -/
def Mv (N : Nat) (F : Nat → Prop) : Nat → Prop := fun k => N ≤ k ∧ ¬ F k

theorem LD.later {N : Nat} {F : Nat → Prop} {w w' : World} {p : Nat} {L : List Jb} (h : LD N F w p L) (hb : Below w.heap.size w w') : LD N F w' p L := by
  obtain ⟨⟨T, h1, h2⟩, h3, h4⟩ := h
  exact ⟨⟨T, h1.later hb, h2⟩, Nat.le_trans h3 hb.size, fun k hk => Nat.lt_of_lt_of_le (h4 k hk) hb.size⟩
/-- What is new may be guarded. -/
theorem LD.guard {N : Nat} {F : Nat → Prop} {w w' : World} {p : Nat} {L : List Jb} (h : LD N F w p L) (hb : Below w.heap.size w w') : LD N (fun k => F k ∨ w.heap.size ≤ k ∧ k < w'.heap.size) w' p L := by
  obtain ⟨⟨T, h1, h2⟩, h3, h4⟩ := h
  refine ⟨⟨T, h1.later hb, fun k hk => ⟨(h2 k hk).1, fun hh => ?_⟩⟩, Nat.le_trans h3 hb.size, fun k hk => ?_⟩
  · rcases hh with hh | hh
    · exact (h2 k hk).2 hh
    · have := h1.live k hk; omega
  · rcases hk with hk | hk
    · exact Nat.lt_of_lt_of_le (h4 k hk) hb.size
    · exact hk.2
theorem LD.less {N : Nat} {F F' : Nat → Prop} {w : World} {p : Nat} {L : List Jb} (h : LD N F w p L) (hF : ∀ k, F' k → F k) : LD N F' w p L := by
  obtain ⟨⟨T, h1, h2⟩, h3, h4⟩ := h
  exact ⟨⟨T, h1, fun k hk => ⟨(h2 k hk).1, fun hh => (h2 k hk).2 (hF k hh)⟩⟩, h3, fun k hk => h4 k (hF k hk)⟩
theorem LD.kept {N : Nat} {F X : Nat → Prop} {w w' : World} {p : Nat} {L : List Jb} (h : LD N F w p L) (hk : Kp X w w') (hX : ∀ k, X k → k < w.heap.size → F k) : LD N F w' p L := by
  obtain ⟨⟨T, h1, h2⟩, h3, h4⟩ := h
  exact ⟨⟨T, h1.kept hk (fun k hk1 hk2 => (h2 k hk1).2 (hX k hk2 (h1.live k hk1))), h2⟩, Nat.le_trans h3 hk.size, fun k hk1 => Nat.lt_of_lt_of_le (h4 k hk1) hk.size⟩
theorem Mv.below {N : Nat} {F : Nat → Prop} {w w' : World} (h : Kp (Mv N F) w w') (hN : N ≤ w.heap.size) : Below N w w' := h.below hN (fun k hk => hk.1)

theorem l_new (w : World) : Calls Try.prog 7 #[] w fun e w' => ∃ p, e = .returned (.pointer (some ⟨p, 0, none⟩)) ∧ LD w.heap.size (fun _ => False) w' p [] ∧ Below w.heap.size w w' := by
  refine Calls.mono (new_any w) ?_
  rintro e w' ⟨p, rfl, h1, rfl, h2⟩
  exact ⟨_, rfl, ⟨⟨_, h1, fun k hk => ⟨by rw [hk]; exact Nat.le_refl _, fun h => h⟩⟩, h2.size, fun k hk => hk.elim⟩, h2⟩

theorem l_push {N : Nat} {F : Nat → Prop} {w : World} {p : Nat} {L : List Jb} (h : LD N F w p L) (e : Jb) (sv : Value) (hl : L.length ≤ 1000000) (hs : RI w sv e.s) (hes : e.s.length ≤ 1000000) :
    Calls Try.prog 14 #[.pointer (some ⟨p, 0, none⟩), JV e sv] w fun x w' => x = .returned (.int .i64 (pushP L e).1) ∧ LD N F w' p (pushP L e).2 ∧ Kp (Mv N F) w w' := by
  obtain ⟨⟨T, h1, h2⟩, h3, h4⟩ := h
  refine Calls.mono (push_any T w p L e sv h1 hl hs hes) ?_
  rintro x w' ⟨rfl, hd, hk⟩
  refine ⟨rfl, ⟨⟨_, hd, fun k hk2 => ?_⟩, Nat.le_trans h3 hk.size, fun k hk1 => Nat.lt_of_lt_of_le (h4 k hk1) hk.size⟩, hk.mono h2⟩
  rcases hk2 with hk2 | hk2
  · exact h2 k hk2
  · exact ⟨Nat.le_trans h3 hk2.1, fun hh => by have := h4 k hh; omega⟩

theorem l_take {N : Nat} {F : Nat → Prop} {w : World} {p : Nat} {L : List Jb} (h : LD N F w p L) (pop : Bool) (hl : L.length ≤ 1000000) :
    Calls Try.prog (if pop = true then 17 else 16) #[.pointer (some ⟨p, 0, none⟩)] w fun x w' => ∃ sv, x = .returned (.tuple #[JV (takeP pop L).1.1 sv, .int .i64 (takeP pop L).1.2]) ∧ RI w' sv (takeP pop L).1.1.s ∧ LD N F w' p (takeP pop L).2 ∧ Kp (Mv N F) w w' := by
  obtain ⟨⟨T, h1, h2⟩, h3, h4⟩ := h
  have : Calls Try.prog (if pop = true then 17 else 16) #[.pointer (some ⟨p, 0, none⟩)] w fun e w' => TakeC T w p (takeP pop L) e w' := by
    cases pop
    · exact steal_any T w p L h1 hl
    · exact pop_any T w p L h1 hl
  refine Calls.mono this ?_
  rintro x w' ⟨sv, rfl, q1, q2, q3⟩
  exact ⟨sv, rfl, q1.1, ⟨⟨T, q2, h2⟩, Nat.le_trans h3 q3.size, fun k hk1 => Nat.lt_of_lt_of_le (h4 k hk1) q3.size⟩, q3.mono h2⟩

theorem l_drop {N : Nat} {F : Nat → Prop} {w : World} {p : Nat} {L : List Jb} (h : LD N F w p L) (k : Ky) (hl : L.length ≤ 1000000) :
    Calls Try.prog 19 #[.pointer (some ⟨p, 0, none⟩), KV k] w fun x w' => x = .returned (.int .i64 ((L.length : Int) - ((dropP k L).length : Int))) ∧ LD N F w' p (dropP k L) ∧ Kp (Mv N F) w w' := by
  obtain ⟨⟨T, h1, h2⟩, h3, h4⟩ := h
  refine Calls.mono (drop_any T w p k L h1 hl) ?_
  rintro x w' ⟨rfl, hd, hk⟩
  exact ⟨rfl, ⟨⟨T, hd, h2⟩, Nat.le_trans h3 hk.size, fun k hk1 => Nat.lt_of_lt_of_le (h4 k hk1) hk.size⟩, hk.mono h2⟩

theorem l_len {N : Nat} {F : Nat → Prop} {w : World} {p : Nat} {L : List Jb} (h : LD N F w p L) (hl : L.length ≤ 1000000) :
    Calls Try.prog 11 #[.pointer (some ⟨p, 0, none⟩)] w fun x w' => x = .returned (.int .i64 L.length) ∧ LD N F w' p L ∧ Below w.heap.size w w' := by
  obtain ⟨T, h1, h2⟩ := h.own
  refine Calls.mono (len_any T w p L h1 hl) ?_
  rintro x w' ⟨rfl, hb⟩
  exact ⟨rfl, h.later hb, hb⟩

theorem l_list {N : Nat} {F : Nat → Prop} {w : World} {p : Nat} {L : List Jb} (h : LD N F w p L) (hl : L.length ≤ 1000000) (hfs : ∀ x ∈ L, x.s.length ≤ 1000000) :
    Calls Try.prog 13 #[.pointer (some ⟨p, 0, none⟩)] w fun x w' => ∃ a n c A, x = .returned (.slice a n c) ∧ LiW w.heap.size w' (.slice a n c) A ∧ A.map Prod.fst = L ∧ LD N F w' p L ∧ Below w.heap.size w w' := by
  obtain ⟨T, h1, h2⟩ := h.own
  refine Calls.mono (list_any T w p L h1 hl hfs) ?_
  rintro x w' ⟨lv, A, rfl, q1, q2, q3⟩
  obtain ⟨a, c, rfl, _⟩ := q1.row.slice
  exact ⟨a, _, c, A, rfl, q1, q2, h.later q3, q3⟩

/-- One of an item. -/
def jI (i : Int) : Jb := ⟨i, false, 0, false, 0, []⟩

theorem job_any (i : Int) (w : World) : Calls Try.prog 15 #[.int .i64 i] w fun e w' => e = .returned (JV (jI i) (.slice none 0 0)) ∧ Below w.heap.size w w' := by
  have R0 : Hid ((w.alloc (.cells (jrow (jI i, .slice none 0 0)).toArray 35)).heap[w.heap.size]? = _) := row_new w (jrow (jI i, .slice none 0 0)).toArray 35
  have HB : Hid _ := bl1 w (.cells (jrow (jI i, .slice none 0 0)).toArray 35)
  go_enter Try.func15, Try.ntmps15
  go_wp2_with fail
  exact retJ rfl w.heap.size (jI i) (.slice none 0 0) rfl rfl R0.out ⟨rfl, HB.out⟩

theorem RJ.one (w : World) (e : Jb) (he : e.s = []) : RJ (fun _ => True) (w.alloc (.cells (jrow (e, .slice none 0 0)).toArray 35)) (.slice (some ⟨w.heap.size, 0, none⟩) 1 1) [(e, .slice none 0 0)] := by
  refine ⟨_, 1, rfl, Nat.le_refl _, by unfold maxLen; omega, fun i p hp => ?_⟩
  match i, hp with
  | 0, hp =>
    simp at hp
    subst hp
    exact ⟨w.heap.size, 0, rfl, trivial, JC.of_row (row_new w _ 35), by rw [he]; exact RS.nil _ _⟩
  | i + 1, hp => simp at hp

theorem lv1 : pushP [] (jI 1) = (0, [jI 1]) := rfl
theorem lv2 : pushP [jI 1] (jI 2) = (0, [jI 1, jI 2]) := rfl
theorem lv3 : pushP [jI 1, jI 2] (jI 3) = (0, [jI 1, jI 2, jI 3]) := rfl
theorem lv4 : takeP false [jI 1, jI 2, jI 3] = ((jI 1, 0), [jI 2, jI 3]) := by decide
theorem lv5 : takeP true [jI 2, jI 3] = ((jI 3, 0), [jI 2]) := by decide

/-- A push of one of an item. -/
theorem l_job {N : Nat} {F : Nat → Prop} {w : World} {p : Nat} {L L' : List Jb} {k : Int} (i : Int) (h : LD N F w p L) (hl : L.length ≤ 1000) (he : pushP L (jI i) = (k, L')) :
    Calls Try.prog 14 #[.pointer (some ⟨p, 0, none⟩), .agg #[.int .i64 i, .bool false, .int .i64 0, .bool false, .int .i64 0, .slice none 0 0]] w fun x w' => x = .returned (.int .i64 k) ∧ LD N F w' p L' ∧ Kp (Mv N F) w w' := by
  have := l_push h (jI i) (.slice none 0 0) (by omega) (RI.nil _) (by simp [jI])
  rw [he] at this
  exact this
theorem l_one {N : Nat} {F : Nat → Prop} {w : World} {p : Nat} {L L' : List Jb} {j : Int} (pop : Bool) (h : LD N F w p L) (hl : L.length ≤ 1000) (he : takeP pop L = ((jI j, 0), L')) :
    Calls Try.prog (if pop = true then 17 else 16) #[.pointer (some ⟨p, 0, none⟩)] w fun x w' => (∃ a n c, x = .returned (.tuple #[.agg #[.int .i64 j, .bool false, .int .i64 0, .bool false, .int .i64 0, .slice a n c], .int .i64 0])) ∧ LD N F w' p L' ∧ Kp (Mv N F) w w' := by
  have := l_take h pop (by omega)
  rw [he] at this
  refine Calls.mono this ?_
  rintro x w' ⟨sv, rfl, q1, q2, q3⟩
  obtain ⟨a, c, rfl, _⟩ := q1
  exact ⟨⟨a, _, c, rfl⟩, q2, q3⟩

set_option maxHeartbeats 4000000 in
theorem lives_any (w : World) : Calls Try.prog 9 #[] w fun e w' => e = .returned (.bool true) ∧ Below w.heap.size w w' := by
  have HN : Hid _ := l_new w
  have HJ : Hid (∀ (i : Int) (wx : World), Calls Try.prog 15 #[.int .i64 i] wx fun e w' => e = .returned (.agg #[.int .i64 i, .bool false, .int .i64 0, .bool false, .int .i64 0, .slice none 0 0]) ∧ Below wx.heap.size wx w') := fun i wx => job_any i wx
  obtain ⟨N, hN⟩ : ∃ N, N = w.heap.size := ⟨_, rfl⟩
  have HNN : Hid (N ≤ w.heap.size) := Nat.le_of_eq hN
  rw [← hN] at HN ⊢
  clear hN
  go_enter Try.func9, Try.ntmps9
  go_wp2_with fail
  refine Calls.mono HN.out ?_
  rintro e w1 ⟨p, rfl, hd1, hb1⟩
  have HD1 : Hid _ := hd1
  have HB1 : Hid (Below N w w1) := hb1
  clear hd1 hb1 HN
  go_wp2_with fail
  refine Calls.mono (HJ.out 1 w1) ?_
  rintro e w2 ⟨rfl, hb2⟩
  have H2 : Hid _ := l_job 1 (HD1.out.later hb2) (by simp) lv1
  have HB2 : Hid (Below N w w2) := HB1.out.trans (hb2.mono HD1.out.le)
  clear hb2 HD1
  go_wp2_with fail
  refine Calls.mono H2.out ?_
  rintro e w3 ⟨rfl, hd3, hb3⟩
  have HD3 : Hid _ := hd3
  have HB3 : Hid (Below N w w3) := HB2.out.trans (Mv.below hb3 (Nat.le_trans HNN.out HB2.out.size))
  clear hd3 hb3 H2
  go_wp2_with fail
  refine Calls.mono (HJ.out 2 w3) ?_
  rintro e w4 ⟨rfl, hb4⟩
  have H4 : Hid _ := l_job 2 (HD3.out.later hb4) (by simp) lv2
  have HB4 : Hid (Below N w w4) := HB3.out.trans (hb4.mono HD3.out.le)
  clear hb4 HD3
  go_wp2_with fail
  refine Calls.mono H4.out ?_
  rintro e w5 ⟨rfl, hd5, hb5⟩
  have HD5 : Hid _ := hd5
  have HB5 : Hid (Below N w w5) := HB4.out.trans (Mv.below hb5 (Nat.le_trans HNN.out HB4.out.size))
  clear hd5 hb5 H4
  go_wp2_with fail
  refine Calls.mono (HJ.out 3 w5) ?_
  rintro e w6 ⟨rfl, hb6⟩
  have H6 : Hid _ := l_job 3 (HD5.out.later hb6) (by simp) lv3
  have HB6 : Hid (Below N w w6) := HB5.out.trans (hb6.mono HD5.out.le)
  clear hb6 HD5
  go_wp2_with fail
  refine Calls.mono H6.out ?_
  rintro e w7 ⟨rfl, hd7, hb7⟩
  have H7 : Hid _ := l_one false hd7 (by simp) lv4
  have HB7 : Hid (Below N w w7) := HB6.out.trans (Mv.below hb7 (Nat.le_trans HNN.out HB6.out.size))
  clear hd7 hb7 H6
  go_wp2_with fail
  refine Calls.mono H7.out ?_
  rintro e w8 ⟨⟨a8, n8, c8, rfl⟩, hd8, hb8⟩
  have HB8 : Hid (Below N w w8) := HB7.out.trans (Mv.below hb8 (Nat.le_trans HNN.out HB7.out.size))
  have HD8 : Hid _ := hd8.guard (bl1 w8 (.cells #[.int .i64 1, .bool false, .int .i64 0, .bool false, .int .i64 0, .slice a8 n8 c8] 35))
  have R8 : Hid ((w8.alloc (.cells #[.int .i64 1, .bool false, .int .i64 0, .bool false, .int .i64 0, .slice a8 n8 c8] 35)).heap[w8.heap.size]? = _) := row_new w8 _ 35
  have HB8' : Hid (Below N w (w8.alloc (.cells #[.int .i64 1, .bool false, .int .i64 0, .bool false, .int .i64 0, .slice a8 n8 c8] 35))) := HB8.out.alloc (Nat.le_trans HNN.out HB8.out.size) _
  have H8 : Hid _ := l_one true HD8.out (by simp) lv5
  have S8 : Hid (w8.heap.size < (w8.alloc (.cells #[.int .i64 1, .bool false, .int .i64 0, .bool false, .int .i64 0, .slice a8 n8 c8] 35)).heap.size) := by show _ < _; simp
  clear hd8 hb8 H7 HD8
  go_wp2_with fail
  refine Calls.mono H8.out ?_
  rintro e w9 ⟨⟨a9, n9, c9, rfl⟩, hd9, hb9⟩
  have HB9 : Hid (Below N w w9) := HB8'.out.trans (Mv.below hb9 (Nat.le_trans HNN.out HB8'.out.size))
  have r9 := hb9.row R8.out (fun h => h.2 (.inr ⟨Nat.le_refl _, S8.out⟩))
  have c90 : w9.cell? ⟨w8.heap.size, 0, none⟩ = some (.int .i64 1) := (cell_row r9 0).trans rfl
  have HD9 : Hid _ := hd9.later (bl1 w9 (.cells #[.int .i64 3, .bool false, .int .i64 0, .bool false, .int .i64 0, .slice a9 n9 c9] 35))
  have cA : (w9.alloc (.cells #[.int .i64 3, .bool false, .int .i64 0, .bool false, .int .i64 0, .slice a9 n9 c9] 35)).cell? ⟨w8.heap.size, 0, none⟩ = some (.int .i64 1) := cell_later (bl1 _ _) c90
  have HLn : Hid _ := l_len HD9.out (by simp)
  have HB9' : Hid (Below N w (w9.alloc (.cells #[.int .i64 3, .bool false, .int .i64 0, .bool false, .int .i64 0, .slice a9 n9 c9] 35))) := HB9.out.alloc (Nat.le_trans HNN.out HB9.out.size) _
  clear hd9 hb9 r9 c90 H8 R8 S8 HB8'
  go_wp2_with fail
  refine Calls.mono HLn.out ?_
  rintro e wa ⟨rfl, hda, hba⟩
  have HLs : Hid _ := l_list hda (by simp) (by simp [jI])
  have HBa : Hid (Below N w wa) := HB9'.out.trans (hba.mono (Nat.le_trans HNN.out HB9'.out.size))
  clear hda hba HLn cA
  go_wp2_with fail
  refine Calls.mono HLs.out ?_
  rintro e wb ⟨la, ln, lc, A, rfl, hA, hA2, hdb, hbb⟩
  have HBb : Hid (Below N w wb) := HBa.out.trans (hbb.mono (Nat.le_trans HNN.out HBa.out.size))
  have HA : Hid _ := hA
  have HA2 : Hid _ := hA2
  clear hA hA2 hdb hbb HLs
  go_wp2_with fail
  refine Calls.mono (HJ.out 2 wb) ?_
  rintro e wc ⟨rfl, hbc⟩
  have HBc : Hid (Below N w wc) := HBb.out.trans (hbc.mono (Nat.le_trans HNN.out HBb.out.size))
  have HFA : FewS A := fun x hx => by
    have : x.1 ∈ A.map Prod.fst := List.mem_map_of_mem hx
    rw [HA2.out] at this
    simp at this
    rw [this]
    simp [jI]
  have HAl : A.length = 1 := by
    have := congrArg List.length HA2.out
    simpa using this
  have HSm : Hid _ := sameAll_any _ _ A [(jI 2, .slice none 0 0)] _ _ _ ((HA.out.rj.later hbc).later (bl1 wc (.cells (jrow (jI 2, .slice none 0 0)).toArray 35))) (RJ.one wc (jI 2) rfl) HFA (by intro x hx; simp at hx; subst hx; simp [jI]) (by omega) (by simp)
  rw [decide_eq_true (by rw [HA2.out]; rfl)] at HSm
  have HBd : Hid (Below N w (wc.alloc (.cells (jrow (jI 2, .slice none 0 0)).toArray 35))) := HBc.out.alloc (Nat.le_trans HNN.out HBc.out.size) _
  clear hbc HFA HAl
  go_wp2_with fail
  refine Calls.mono HSm.out ?_
  rintro e wd ⟨rfl, hbd⟩
  have HBe : Hid (Below N w wd) := HBd.out.trans (hbd.mono (Nat.le_trans HNN.out HBd.out.size))
  clear hbd HSm
  go_wp2_with fail
  go_ret
  exact ⟨rfl, HBe.out⟩
end Go.Proofs.Ythbckfncpnobcaa
