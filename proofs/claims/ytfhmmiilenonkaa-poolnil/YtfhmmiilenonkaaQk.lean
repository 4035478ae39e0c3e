/- Held, Done, Put, Push, List; calls of no worker. -/
import Derived.Test.YtfhmmiilenonkaaQj
namespace Go.Proofs.Ytfhmmiilenonkaa
open Go.RowKit Go.Shelf
set_option maxRecDepth 1000000
set_option linter.unusedVariables false

variable {N : Nat} {F : Nat → Prop} {w w' : World} {p n : Nat} {s : Pq.St Jb}

/-- There is no such worker. -/
structure WErr (w : World) (pv : Value) (v k : Int) : Prop where
  p : ∃ a, pv = .pointer a
  k0 : k ≠ 0
  c : ∀ wx, Below w.heap.size w wx → Calls Try.prog 35 #[pv, .int .i64 v] wx fun e w' => e = .returned (.tuple #[.pointer none, .int .i64 k]) ∧ w' = wx
theorem WErr.out {v : Int} (h : LP N F w p n s) (hv : v < 0 ∨ (n : Int) ≤ v) : WErr w (.pointer (some ⟨p, 0, none⟩)) v 2 := ⟨⟨_, rfl⟩, by decide, fun wx hb => worker_out (h.later hb) hv⟩
theorem WErr.no {pv : Value} (v : Int) (h : NoP w pv) : WErr w pv v 1 := by
  refine ⟨?_, by decide, fun wx hb => worker_no v ?_⟩
  · rcases h with h | ⟨p, h, _⟩
    · exact ⟨_, h⟩
    · exact ⟨_, h⟩
  · rcases h with h | ⟨p, h, hc⟩
    · exact .inl h
    · exact .inr ⟨p, h, cell_later hb hc⟩
theorem WErr.holder {pv : Value} {v k : Int} (h : WErr w pv v k) : ∀ wx, Below w.heap.size w wx → Calls Try.prog 38 #[pv, .int .i64 v] wx fun e w' => e = .returned (.tuple #[.pointer none, .int .i64 k]) ∧ w' = wx := fun wx hb => holder_err h.k0 (h.c wx hb) h.p

set_option maxHeartbeats 2000000 in
theorem take_err {pv : Value} {v k : Int} (pick : Int) (h : WErr w pv v k) : Calls Try.prog 15 #[pv, .int .i64 v, .int .i64 pick] w fun e w' => e = .returned (.tuple #[JV zJ (.slice none 0 0), .int .i64 0, .int .i64 k]) ∧ Below w.heap.size w w' := by
  obtain ⟨a, rfl⟩ := h.p
  have hk := h.k0
  have HC : Hid _ := h.c _ (bl1 w (.cells #[.int .i64 0, .bool false, .int .i64 0, .bool false, .int .i64 0, .slice none 0 0] 37))
  clear h
  go_enter Try.func15, Try.ntmps15
  go_wp2_with fail
  refine Calls.mono HC.out ?_
  rintro e w1 ⟨rfl, rfl⟩
  clear HC
  go_wp2_with fail
  refine bodyPost_ret (results_j4 rfl _ _ (e := zJ) (v := .slice none 0 0) rfl (row_new w #[.int .i64 0, .bool false, .int .i64 0, .bool false, .int .i64 0, .slice none 0 0] 37)) rfl ?_
  exact ⟨rfl, bl1 _ _⟩

set_option maxHeartbeats 2000000 in
/-- Held, where there is none. -/
theorem held_err {pv : Value} {v k : Int} (hk : k ≠ 0) (hp : ∃ a, pv = .pointer a) (h : ∀ wx, Below w.heap.size w wx → Calls Try.prog 38 #[pv, .int .i64 v] wx fun e w' => e = .returned (.tuple #[.pointer none, .int .i64 k]) ∧ w' = wx) : Calls Try.prog 16 #[pv, .int .i64 v] w fun e w' => e = .returned (.tuple #[JV zJ (.slice none 0 0), .int .i64 k]) ∧ Below w.heap.size w w' := by
  obtain ⟨a, rfl⟩ := hp
  have HC : Hid _ := h _ (bl1 w (.cells #[.int .i64 0, .bool false, .int .i64 0, .bool false, .int .i64 0, .slice none 0 0] 37))
  clear h
  go_enter Try.func16, Try.ntmps16
  go_wp2_with fail
  refine Calls.mono HC.out ?_
  rintro e w1 ⟨rfl, rfl⟩
  clear HC
  go_wp2_with fail
  refine bodyPost_ret (results_j2 rfl _ _ (e := zJ) (v := .slice none 0 0) rfl (row_new w #[.int .i64 0, .bool false, .int .i64 0, .bool false, .int .i64 0, .slice none 0 0] 37)) rfl ?_
  exact ⟨rfl, bl1 _ _⟩

set_option maxHeartbeats 2000000 in
theorem done_err {pv : Value} {v k : Int} (hk : k ≠ 0) (hp : ∃ a, pv = .pointer a) (h : ∀ wx, Below w.heap.size w wx → Calls Try.prog 38 #[pv, .int .i64 v] wx fun e w' => e = .returned (.tuple #[.pointer none, .int .i64 k]) ∧ w' = wx) : Calls Try.prog 18 #[pv, .int .i64 v] w fun e w' => e = .returned (.int .i64 k) ∧ w' = w := by
  obtain ⟨a, rfl⟩ := hp
  have HC : Hid _ := h w (Below.refl _ _)
  clear h
  go_enter Try.func18, Try.ntmps18
  go_wp2_with fail
  refine Calls.mono HC.out ?_
  rintro e w1 ⟨rfl, rfl⟩
  clear HC
  go_wp2_with fail
  go_ret
  exact ⟨rfl, rfl⟩

set_option maxHeartbeats 2000000 in
theorem put_err {pv : Value} {v k : Int} {e : Jb} {sv : Value} (hsv : ∃ a n c, sv = .slice a n c) (hk : k ≠ 0) (hp : ∃ a, pv = .pointer a) (h : ∀ wx, Below w.heap.size w wx → Calls Try.prog 38 #[pv, .int .i64 v] wx fun e w' => e = .returned (.tuple #[.pointer none, .int .i64 k]) ∧ w' = wx) : Calls Try.prog 20 #[pv, .int .i64 v, JV e sv] w fun e w' => e = .returned (.int .i64 k) ∧ Below w.heap.size w w' := by
  obtain ⟨a, rfl⟩ := hp
  obtain ⟨sa, sn, sc, rfl⟩ := hsv
  obtain ⟨ei, eu, et, eb, ek, es⟩ := e
  unfold JV
  dsimp only
  have HC : Hid _ := h _ (bl1 w (.cells #[.int .i64 ei, .bool eu, .int .i64 et, .bool eb, .int .i64 ek, .slice sa sn sc] 37))
  clear h
  go_enter Try.func20, Try.ntmps20
  go_wp2_with fail
  refine Calls.mono HC.out ?_
  rintro e w1 ⟨rfl, rfl⟩
  clear HC
  go_wp2_with fail
  go_ret
  exact ⟨rfl, bl1 _ _⟩

set_option maxHeartbeats 2000000 in
theorem push_err {pv : Value} {v k : Int} {e : Jb} {sv : Value} (hsv : ∃ a n c, sv = .slice a n c) (h : WErr w pv v k) : Calls Try.prog 19 #[pv, .int .i64 v, JV e sv] w fun e w' => e = .returned (.int .i64 k) ∧ Below w.heap.size w w' := by
  obtain ⟨a, rfl⟩ := h.p
  have hk := h.k0
  obtain ⟨sa, sn, sc, rfl⟩ := hsv
  obtain ⟨ei, eu, et, eb, ek, es⟩ := e
  unfold JV
  dsimp only
  have HC : Hid _ := h.c _ (bl1 w (.cells #[.int .i64 ei, .bool eu, .int .i64 et, .bool eb, .int .i64 ek, .slice sa sn sc] 37))
  clear h
  go_enter Try.func19, Try.ntmps19
  go_wp2_with fail
  refine Calls.mono HC.out ?_
  rintro e w1 ⟨rfl, rfl⟩
  clear HC
  go_wp2_with fail
  go_ret
  exact ⟨rfl, bl1 _ _⟩

set_option maxHeartbeats 2000000 in
theorem list_err {pv : Value} {v k : Int} (h : WErr w pv v k) : Calls Try.prog 21 #[pv, .int .i64 v] w fun e w' => e = .returned (.slice none 0 0) ∧ w' = w := by
  obtain ⟨a, rfl⟩ := h.p
  have hk := h.k0
  have HC : Hid _ := h.c w (Below.refl _ _)
  clear h
  go_enter Try.func21, Try.ntmps21
  go_wp2_with fail
  refine Calls.mono HC.out ?_
  rintro e w1 ⟨rfl, rfl⟩
  clear HC
  go_wp2_with fail
  go_ret
  exact ⟨rfl, rfl⟩

/-- A worker that holds none. -/
theorem holder_none {v : Nat} (h : LP N F w p n s) (hv : v < n) (hj : s.hd v = none) : ∀ wx, Below w.heap.size w wx → Calls Try.prog 38 #[.pointer (some ⟨p, 0, none⟩), .int .i64 (v : Int)] wx fun e w' => e = .returned (.tuple #[.pointer none, .int .i64 6]) ∧ w' = wx := fun wx hb => by
  have := holder_in (h.later hb) hv
  rw [hj] at this
  exact this
theorem holder_some {v : Nat} {j : Jb} (h : LP N F w p n s) (hv : v < n) (hj : s.hd v = some j) : ∀ wx, Below w.heap.size w wx → Calls Try.prog 38 #[.pointer (some ⟨p, 0, none⟩), .int .i64 (v : Int)] wx fun e w' => e = .returned (.tuple #[.pointer (some ⟨p, 1 + v * 2, none⟩), .int .i64 0]) ∧ w' = wx := fun wx hb => by
  have := holder_in (h.later hb) hv
  rw [hj] at this
  exact this

set_option maxHeartbeats 4000000 in
theorem held_some {v : Nat} {j : Jb} (h : LP N F w p n s) (hi : PInv s) (hv : v < n) (hj : s.hd v = some j) :
    Calls Try.prog 16 #[.pointer (some ⟨p, 0, none⟩), .int .i64 (v : Int)] w fun e w' => ∃ sv, e = .returned (.tuple #[JV j sv, .int .i64 0]) ∧ RI w' sv j.s ∧ Below w.heap.size w w' := by
  have hjl := hi.hd v j hj
  have HC : Hid _ := holder_some h hv hj _ (bl1 w (.cells #[.int .i64 0, .bool false, .int .i64 0, .bool false, .int .i64 0, .slice none 0 0] 37))
  have HB1 : Hid _ := bl1 w (.cells #[.int .i64 0, .bool false, .int .i64 0, .bool false, .int .i64 0, .slice none 0 0] 37)
  have R1 : Hid _ := row_new w #[.int .i64 0, .bool false, .int .i64 0, .bool false, .int .i64 0, .slice none 0 0] 37
  obtain ⟨⟨D, cs, h1, h2, h5⟩, h3, h4⟩ := h
  obtain ⟨hv2, hc, ho⟩ := h1.hd v hv
  rw [hj] at ho
  obtain ⟨b, sv, rfl, hb, hI, hs⟩ := ho
  have hpl := row_lt h1.blk
  have hbl := row_lt hb
  obtain ⟨sa, sc, hsv, _⟩ := hs.1
  subst hsv
  obtain ⟨d0, d1, d2, d3, d4, d5⟩ := JC.of_row hb
  simp only [Nat.zero_add] at d0 d1 d2 d3 d4 d5
  have c0 := (cell_row h1.blk (1 + v * 2 + 1)).trans hc
  have HA : Hid _ := apart39_any j (.slice sa j.s.length sc) _ (hs.1.later HB1.out) (by omega)
  obtain ⟨ji, ju, jt, jb, jk, js⟩ := j
  dsimp only at *
  obtain ⟨ml, hml⟩ : ∃ m, js.length = m := ⟨_, rfl⟩
  have HML : Hid _ := hml
  unfold JV at HA
  dsimp only at HA
  rw [hml] at HA d5
  clear h1 hb hI hs hc h2 h5 h3 h4 hj hi hml
  go_enter Try.func16, Try.ntmps16
  go_wp2_with fail
  refine Calls.mono HC.out ?_
  rintro e w1 ⟨rfl, rfl⟩
  clear HC
  go_wp2_with fail
  refine Calls.mono HA.out ?_
  rintro e w2 ⟨sv', rfl, ho, hb2⟩
  have r2 := row_later R1.out hb2
  obtain ⟨a0, a1, a2, a3, a4, a5⟩ := JC.of_row (e := zJ) (v := .slice none 0 0) r2
  have f2 := froz_row r2
  have hlt := row_lt r2
  obtain ⟨sb, se, hsv⟩ := ho.slice
  subst hsv
  have HO : Hid (OwI _ w2 (.slice sb js.length se) js) := ho
  have RR : Hid _ := r2
  have HB2 : Hid (Below w.heap.size w w2) := HB1.out.trans (hb2.mono HB1.out.size)
  simp only [Nat.zero_add] at a0 a1 a2 a3 a4 a5
  unfold zJ at a0 a1 a2 a3 a4
  dsimp only at a0 a1 a2 a3 a4
  clear ho hb2 r2 HA R1
  go_wp2_with fail
  have k9 : Kp (fun k => k = w.heap.size) w2 (set6 w2 w.heap.size 0 (⟨ji, ju, jt, jb, jk, js⟩, .slice sb js.length se)) := set6_kept _ _ _ _ _ rfl
  refine bodyPost_ret (results_j2 rfl _ _ (e := ⟨ji, ju, jt, jb, jk, js⟩) (v := .slice sb js.length se) rfl (set6_whole RR.out rfl (⟨ji, ju, jt, jb, jk, js⟩, .slice sb js.length se))) rfl ?_
  have hl := World.ownsRow.lt HO.out
  refine ⟨_, rfl, (OwI.ri HO.out).kept k9 (fun _ a n c he e => ?_), HB2.out.trans (k9.below HB2.out.size (fun k hk => by omega))⟩
  have := (OwI.rs HO.out).2 (by assumption) a n c he
  simp at this
  omega

set_option maxHeartbeats 4000000 in
theorem done_some {v : Nat} {j : Jb} (h : LP N F w p n s) (hv : v < n) (hj : s.hd v = some j) :
    Calls Try.prog 18 #[.pointer (some ⟨p, 0, none⟩), .int .i64 (v : Int)] w fun e w' => e = .returned (.int .i64 0) ∧ LP N F w' p n (Pq.doneS s v) ∧ Kp (fun k => k = p) w w' := by
  have HC : Hid _ := holder_some h hv hj w (Below.refl _ _)
  obtain ⟨⟨D, cs, h1, h2, h5⟩, h3, h4⟩ := h
  obtain ⟨hv2, hc, ho⟩ := h1.hd v hv
  have hpl := row_lt h1.blk
  have c0 := (cell_row h1.blk (1 + v * 2 + 1)).trans hc
  have f0 := froz_row h1.blk
  have HP : Hid _ := h1.put hv (show HV (Im D F p n) w (.pointer none) none from rfl)
  have H2 : Hid _ := h2
  have H5 : Hid _ := h5
  have H3 : Hid _ := h3
  have H4 : Hid _ := h4
  clear h1 h2 h5 h3 h4 hc ho hj
  go_enter Try.func18, Try.ntmps18
  go_wp2_with fail
  refine Calls.mono HC.out ?_
  rintro e w1 ⟨rfl, rfl⟩
  clear HC
  go_wp2_with fail
  go_ret
  have hk : Kp (fun k => k = p) w1 (w1.setCell ⟨p, 1 + v * 2 + 1, none⟩ (.pointer none)) := (Kp.refl _ _).set _ _ rfl
  exact ⟨rfl, LP.of HP.out H2.out H5.out H3.out H4.out hk.size, hk⟩

set_option maxHeartbeats 4000000 in
theorem put_some {v : Nat} {j e : Jb} {sv : Value} (h : LP N F w p n s) (hv : v < n) (hj : s.hd v = some j) (hs : RI w sv e.s) (hes : e.s.length ≤ 1000000) :
    Calls Try.prog 20 #[.pointer (some ⟨p, 0, none⟩), .int .i64 (v : Int), JV e sv] w fun e' w' => e' = .returned (.int .i64 0) ∧ LP N F w' p n (Pq.putS s v e) ∧ Kp (fun k => k = p) w w' := by
  obtain ⟨sa, sc, hsv, _⟩ := id hs
  subst hsv
  obtain ⟨ml, hml⟩ : ∃ m, e.s.length = m := ⟨_, rfl⟩
  have HB1 : Hid _ := bl1 w (.cells #[.int .i64 e.i, .bool e.u, .int .i64 e.t, .bool e.b, .int .i64 e.k, .slice sa e.s.length sc] 37)
  have HC : Hid _ := holder_some h hv hj _ HB1.out
  have HD : Hid _ := hold_w (j := e) (sv := .slice sa e.s.length sc) (h.later HB1.out) hv (hs.later HB1.out) hes
  have hp := h.lt
  obtain ⟨ei, eu, et, eb, ek, es⟩ := e
  unfold JV at *
  dsimp only at *
  rw [hml] at HD HC HB1 ⊢
  clear h hs hj
  go_enter Try.func20, Try.ntmps20
  go_wp2_with fail
  refine Calls.mono HC.out ?_
  rintro e w1 ⟨rfl, hw1⟩
  rw [hw1]
  clear HC hw1
  go_wp2_with fail
  refine Calls.mono HD.out ?_
  rintro e w2 ⟨rfl, q2, k2⟩
  have Q2 : Hid _ := q2
  have K2 : Hid (Kp (fun k => k = p) w w2) := (Kp.of_below _ HB1.out).trans k2 (fun _ h _ => h)
  clear q2 k2 HD
  go_wp2_with fail
  go_ret
  exact ⟨rfl, Q2.out, K2.out⟩

set_option maxHeartbeats 4000000 in
theorem push_in {v : Nat} {e : Jb} {sv : Value} (h : LP N F w p n s) (hi : PInv s) (hv : v < n) (hs : RI w sv e.s) (hes : e.s.length ≤ 1000000) :
    Calls Try.prog 19 #[.pointer (some ⟨p, 0, none⟩), .int .i64 (v : Int), JV e sv] w fun x w' => x = .returned (.int .i64 (pushP (s.row v) e).1) ∧ LP N F w' p n ⟨s.rows.set v (pushP (s.row v) e).2, s.hold⟩ ∧ Kp (Mv N F) w w' := by
  obtain ⟨sa, sc, hsv, _⟩ := id hs
  subst hsv
  have HB1 : Hid _ := bl1 w (.cells #[.int .i64 e.i, .bool e.u, .int .i64 e.t, .bool e.b, .int .i64 e.k, .slice sa e.s.length sc] 37)
  have HC : Hid _ := worker_in (h.later HB1.out) hv
  obtain ⟨q, T, cq, hdq, hT, hTp, hres⟩ := (h.later HB1.out).dq hv
  have HD : Hid (∀ wx, Below (w.alloc (.cells #[.int .i64 e.i, .bool e.u, .int .i64 e.t, .bool e.b, .int .i64 e.k, .slice sa e.s.length sc] 37)).heap.size (w.alloc (.cells #[.int .i64 e.i, .bool e.u, .int .i64 e.t, .bool e.b, .int .i64 e.k, .slice sa e.s.length sc] 37)) wx → Calls Try.prog 41 #[.pointer (some ⟨q, 0, none⟩), JV e (.slice sa e.s.length sc)] wx fun x w' => x = .returned (.int .i64 (pushP (s.row v) e).1) ∧ LP N F w' p n ⟨s.rows.set v (pushP (s.row v) e).2, s.hold⟩ ∧ Kp (Mv N F) w w') := fun wx hb => by
    refine Calls.mono (push_any T wx q (s.row v) e _ (hdq.later hb) (hi.le v) ((hs.later HB1.out).later hb) hes) ?_
    rintro x w' ⟨rfl, q1, q2⟩
    exact ⟨rfl, hres wx w' _ _ hb q2 q1 (fun k hk => hk.imp id (fun h => h.1)), ((Kp.of_below _ HB1.out).later hb).trans (q2.mono hT) (fun _ h _ => h)⟩
  have cq0 : w.cell? ⟨p, 1 + v * 2, none⟩ = some (.pointer (some ⟨q, 0, none⟩)) := by
    obtain ⟨q', T', cq', _⟩ := h.dq hv
    have := cell_later HB1.out cq'
    rw [cq] at this
    rw [cq', ← this]
  have hp := h.lt
  have R1 : Hid _ := row_new w #[.int .i64 e.i, .bool e.u, .int .i64 e.t, .bool e.b, .int .i64 e.k, .slice sa e.s.length sc] 37
  obtain ⟨x1, hx1⟩ : ∃ r, (pushP (s.row v) e).1 = r := ⟨_, rfl⟩
  obtain ⟨x2, hx2⟩ : ∃ r, (pushP (s.row v) e).2 = r := ⟨_, rfl⟩
  rw [hx1, hx2] at HD ⊢
  obtain ⟨ml, hml⟩ : ∃ m, e.s.length = m := ⟨_, rfl⟩
  obtain ⟨ei, eu, et, eb, ek, es⟩ := e
  unfold JV at *
  dsimp only at *
  rw [hml] at HD HC HB1 R1 ⊢
  clear h hs hi hdq hT hTp hres cq hx1 hx2
  go_enter Try.func19, Try.ntmps19
  go_wp2_with fail
  refine Calls.mono HC.out ?_
  rintro e w1 ⟨rfl, hw1⟩
  rw [hw1]
  clear HC hw1
  have hmx : Try.prog.follows .mixedOrders = true := by kernel_rfl
  go_wp2_with fail
  go_region_with (go_at_call 41; refine Calls.mono (HD.out _ ((Below.refl _ _).drew)) ?_; rintro e w2 ⟨rfl, q2, k2⟩)
  all_goals
    have Q2 : Hid _ := q2
    have K2 : Hid _ := k2
    clear q2 k2
    go_wp2_with fail
    go_ret
    exact ⟨rfl, Q2.out, K2.out⟩

set_option maxHeartbeats 4000000 in
theorem list_in {v : Nat} (h : LP N F w p n s) (hi : PInv s) (hv : v < n) :
    Calls Try.prog 21 #[.pointer (some ⟨p, 0, none⟩), .int .i64 (v : Int)] w fun e w' => ∃ lv A, e = .returned lv ∧ LiW w.heap.size w' lv A ∧ A.map Prod.fst = s.row v ∧ Below w.heap.size w w' := by
  have HC : Hid _ := worker_in h hv
  obtain ⟨q, T, cq, hdq, hT, hTp, hres⟩ := h.dq hv
  have HD : Hid _ := list_any T w q (s.row v) hdq (hi.le v) (fun x hx => Nat.le_trans ((hi.row v).2 x hx) (by omega))
  have hp := h.lt
  clear h hi hdq hT hTp hres
  go_enter Try.func21, Try.ntmps21
  go_wp2_with fail
  refine Calls.mono HC.out ?_
  rintro e w1 ⟨rfl, rfl⟩
  clear HC
  go_wp2_with fail
  refine Calls.mono HD.out ?_
  rintro e w2 ⟨lv, A, rfl, q1, q2, q3⟩
  obtain ⟨a, c, rfl, _⟩ := q1.row.slice
  have Q1 : Hid _ := q1
  have Q2 : Hid _ := q2
  have Q3 : Hid _ := q3
  clear q1 q2 q3 HD
  go_wp2_with fail
  go_ret
  exact ⟨_, A, rfl, Q1.out, Q2.out, Q3.out⟩
end Go.Proofs.Ytfhmmiilenonkaa
