/- A worker's own: give, steal, count, hold; worker, holder. -/
import Derived.Test.YtfhmmiilenonkaaQc
namespace Go.Proofs.Ytfhmmiilenonkaa
open Go.RowKit
set_option maxRecDepth 1000000
set_option linter.unusedVariables false

variable {N : Nat} {F : Nat → Prop} {w w' : World} {p n : Nat} {s : Pq.St Jb}

/-- A pool that was turned. -/
theorem LP.of {D : Nat → Nat → Prop} {cs : Array Value} {s' : Pq.St Jb} (h : PL D F w' p n cs s') (h2 : N ≤ p) (h5 : ∀ v k, v < n → D v k → N ≤ k) (h3 : N ≤ w.heap.size) (h4 : ∀ k, F k → k < w.heap.size) (hs : w.heap.size ≤ w'.heap.size) : LP N F w' p n s' :=
  ⟨⟨D, cs, h, h2, h5⟩, Nat.le_trans h3 hs, fun k hk => Nat.lt_of_lt_of_le (h4 k hk) hs⟩

set_option maxHeartbeats 4000000 in
theorem give_some {v : Nat} {j : Jb} (h : LP N F w p n s) (hv : v < n) (hj : s.hd v = some j) :
    Calls Try.prog 51 #[.pointer (some ⟨p, 1 + v * 2, none⟩)] w fun e w' => ∃ sv, e = .returned (.tuple #[JV j sv, .int .i64 0]) ∧ RS (fun k => k ≠ p ∧ ¬ F k) w' sv j.s ∧ LP N F w' p n ⟨s.rows, s.hold.set v none⟩ ∧ Kp (fun k => k = p) w w' := by
  obtain ⟨⟨D, cs, h1, h2, h5⟩, h3, h4⟩ := h
  obtain ⟨hv2, hc, ho⟩ := h1.hd v hv
  rw [hj] at ho
  obtain ⟨b, sv, rfl, hb, hI, hs⟩ := ho
  have hpl := row_lt h1.blk
  have hbp : b ≠ p := hI.1
  have hbl := row_lt hb
  obtain ⟨sa, sc, hsv, _⟩ := hs.1
  subst hsv
  obtain ⟨d0, d1, d2, d3, d4, d5⟩ := JC.of_row hb
  simp only [Nat.zero_add] at d0 d1 d2 d3 d4 d5
  have c0 := (cell_row h1.blk (1 + v * 2 + 1)).trans hc
  have f0 := froz_row h1.blk
  have HL : Hid (PL D F (w.setCell ⟨p, 1 + v * 2 + 1, none⟩ (.pointer none)) p n (cs.setIfInBounds (1 + v * 2 + 1) (.pointer none)) ⟨s.rows, s.hold.set v none⟩) := h1.put hv (show HV _ _ _ none from rfl)
  have HK : Hid (Kp (fun k => k = p) w (w.setCell ⟨p, 1 + v * 2 + 1, none⟩ (.pointer none))) := (Kp.refl _ w).set _ _ rfl
  have HS : Hid (RS (fun k => k ≠ p ∧ ¬ F k) w (.slice sa j.s.length sc) j.s) := hs.mono (fun k _ hk => ⟨hk.1, hk.2.2⟩)
  have H2 : Hid _ := h2
  have H5 : Hid _ := h5
  have H3 : Hid _ := h3
  have H4 : Hid _ := h4
  obtain ⟨ji, ju, jt, jb, jk, js⟩ := j
  dsimp only at *
  clear h1 hb hI hs hc h2 h5 h3 h4 hj
  go_enter Try.func51, Try.ntmps51
  go_wp2_with fail
  have hw0 : (w.setCell ⟨p, 1 + v * 2 + 1, none⟩ (.pointer none)).heap.size = w.heap.size := by simp
  have hB := bl2 (w.setCell ⟨p, 1 + v * 2 + 1, none⟩ (.pointer none)) (.cells #[.int .i64 ji, .bool ju, .int .i64 jt, .bool jb, .int .i64 jk, .slice sa js.length sc] 37) (.cells #[.int .i64 ji, .bool ju, .int .i64 jt, .bool jb, .int .i64 jk, .slice sa js.length sc] 37)
  have hr := row_later (row_new (w.setCell ⟨p, 1 + v * 2 + 1, none⟩ (.pointer none)) #[.int .i64 ji, .bool ju, .int .i64 jt, .bool jb, .int .i64 jk, .slice sa js.length sc] 37) (bl1 _ (.cells #[.int .i64 ji, .bool ju, .int .i64 jt, .bool jb, .int .i64 jk, .slice sa js.length sc] 37))
  rw [hw0] at hr
  refine bodyPost_ret (results_j2 rfl _ _ (e := ⟨ji, ju, jt, jb, jk, js⟩) (v := .slice sa js.length sc) rfl hr) rfl ?_
  have hK := HK.out.later hB
  exact ⟨_, rfl, HS.out.kept hK (fun k h1 h2 => h1.1 h2), LP.of (HL.out.later hB) H2.out H5.out H3.out H4.out hK.size, hK⟩

set_option maxHeartbeats 4000000 in
theorem give_none {v : Nat} (h : LP N F w p n s) (hv : v < n) (hj : s.hd v = none) :
    Calls Try.prog 51 #[.pointer (some ⟨p, 1 + v * 2, none⟩)] w fun e w' => e = .returned (.tuple #[JV zJ (.slice none 0 0), .int .i64 6]) ∧ Below w.heap.size w w' := by
  obtain ⟨⟨D, cs, h1, h2, h5⟩, h3, h4⟩ := h
  obtain ⟨hv2, hc, ho⟩ := h1.hd v hv
  rw [hj] at ho
  obtain rfl : hv2 = _ := ho
  have hpl := row_lt h1.blk
  have c0 := (cell_row h1.blk (1 + v * 2 + 1)).trans hc
  clear h1 hc h2 h5 h3 h4 hj
  go_enter Try.func51, Try.ntmps51
  go_wp2_with fail
  have hr := row_new w #[.int .i64 0, .bool false, .int .i64 0, .bool false, .int .i64 0, .slice none 0 0] 37
  refine bodyPost_ret (results_j2 rfl _ _ (e := zJ) (v := .slice none 0 0) rfl hr) rfl ?_
  exact ⟨rfl, bl1 _ _⟩

/-- What is read of a worker. -/
theorem PL.cells {D : Nat → Nat → Prop} {cs : Array Value} (h : PL D F w p n cs s) {v : Nat} (hv : v < n) : ∃ q, cs[1 + v * 2]? = some (.pointer (some ⟨q, 0, none⟩)) ∧ w.cell? ⟨p, 1 + v * 2, none⟩ = some (.pointer (some ⟨q, 0, none⟩)) ∧ DQ (D v) w q (s.row v) := by
  obtain ⟨q, h1, h2⟩ := h.dq v hv
  exact ⟨q, h1, (cell_row h.blk _).trans h1, h2⟩

set_option maxHeartbeats 4000000 in
theorem steal_w {v : Nat} (h : LP N F w p n s) (hv : v < n) (hl : (s.row v).length ≤ 1000000) :
    Calls Try.prog 54 #[.pointer (some ⟨p, 1 + v * 2, none⟩)] w fun e w' => ∃ sv, e = .returned (.tuple #[JV (takeP false (s.row v)).1.1 sv, .int .i64 (takeP false (s.row v)).1.2]) ∧ RS (fun k => k ≠ p ∧ ¬ F k) w' sv (takeP false (s.row v)).1.1.s ∧ LP N F w' p n ⟨s.rows.set v (takeP false (s.row v)).2, s.hold⟩ ∧ Kp (Mv N F) w w' := by
  obtain ⟨⟨D, cs, h1, h2, h5⟩, h3, h4⟩ := h
  obtain ⟨q, hq, hc, hd⟩ := h1.cells hv
  have hpl := row_lt h1.blk
  have HB1 : Hid _ := bl1 w (.cells (jrow (zJ, .slice none 0 0)).toArray 37)
  have HC : Hid _ := steal_any (D v) _ q (s.row v) (hd.later HB1.out) hl
  have R0 : Hid ((w.alloc (.cells (jrow (zJ, .slice none 0 0)).toArray 37)).heap[w.heap.size]? = _) := row_new w (jrow (zJ, .slice none 0 0)).toArray 37
  have HT : Hid (∀ k, D v k → k < w.heap.size) := hd.live
  have HP : Hid (PL D F w p n cs s) := h1
  have H2 : Hid _ := h2
  have H5 : Hid _ := h5
  have H3 : Hid _ := h3
  have H4 : Hid _ := h4
  have HQ : Hid _ := hq
  generalize takeP false (s.row v) = r at *
  obtain ⟨⟨rj, rk⟩, rl⟩ := r
  clear h1 h2 h5 h3 h4 hd hq
  go_enter Try.func54, Try.ntmps54
  go_wp2_with fail
  refine Calls.mono HC.out ?_
  rintro e w2 ⟨sv, rfl, q2, q3, q4⟩
  have r2 := q4.row R0.out (fun hh => by have := HT.out _ hh; omega)
  obtain ⟨d0, d1, d2, d3, d4, d5⟩ := JC.of_row r2
  have f2 := froz_row r2
  obtain ⟨sa, sc, hsv, _⟩ := q2.1
  subst hsv
  have Q2 : Hid (RS (D v) w2 (.slice sa rj.s.length sc) rj.s) := q2
  have Q3 : Hid _ := q3
  have Q4 : Hid _ := q4
  have RR : Hid _ := r2
  simp only [Nat.zero_add] at d0 d1 d2 d3 d4 d5
  clear q2 q3 q4 r2 HC R0
  obtain ⟨ji, ju, jt, jb, jk, js⟩ := rj
  unfold JV
  dsimp only at *
  go_wp2_with fail
  have k9 : Kp (fun k => k = w.heap.size) w2 (set6 w2 w.heap.size 0 (⟨ji, ju, jt, jb, jk, js⟩, .slice sa js.length sc)) := set6_kept _ _ _ _ _ rfl
  refine bodyPost_ret (results_j2 rfl _ _ (e := ⟨ji, ju, jt, jb, jk, js⟩) (v := .slice sa js.length sc) rfl (set6_whole RR.out rfl (⟨ji, ju, jt, jb, jk, js⟩, .slice sa js.length sc))) rfl ?_
  have hkk : Kp (D v) w (set6 w2 w.heap.size 0 (⟨ji, ju, jt, jb, jk, js⟩, .slice sa js.length sc)) := ((Kp.of_below (D v) HB1.out).trans Q4.out (fun _ h _ => h)).trans k9 (fun k hk hk2 => by omega)
  refine ⟨.slice sa js.length sc, rfl, (Q2.out.kept k9 (fun k hk e => by have := HT.out k hk; omega)).mono (fun k _ hk => ⟨fun e => HP.out.np v hv (e ▸ hk), HP.out.nd v k hv hk⟩), ?_, hkk.mono (fun k hk => ⟨H5.out v k hv hk, HP.out.nd v k hv hk⟩)⟩
  refine LP.of (HP.out.deq hv HQ.out hkk (DQ.kept Q3.out k9 (fun k hk e => by have := HT.out k hk; omega)) (fun k hk => .inl hk) H4.out) H2.out (fun u k hu hk => ?_) H3.out H4.out hkk.size
  by_cases e : u = v
  · simp only [if_pos e] at hk; exact H5.out v k hv hk
  · simp only [if_neg e] at hk; exact H5.out u k hu hk

/-- How many jobs a worker has. -/
def cntW (s : Pq.St Jb) (v : Nat) : Nat := (s.row v).length + (if (s.hd v).isSome then 1 else 0)

set_option maxHeartbeats 4000000 in
theorem count_w {v : Nat} (h : LP N F w p n s) (hv : v < n) (hl : (s.row v).length ≤ 1000000) :
    Calls Try.prog 34 #[.pointer (some ⟨p, 1 + v * 2, none⟩)] w fun e w' => e = .returned (.int .i64 (cntW s v)) ∧ Below w.heap.size w w' := by
  obtain ⟨⟨D, cs, h1, h2, h5⟩, h3, h4⟩ := h
  obtain ⟨q, hq, hc, hd⟩ := h1.cells hv
  obtain ⟨hv2, hc2, ho⟩ := h1.hd v hv
  have c0 := (cell_row h1.blk (1 + v * 2 + 1)).trans hc2
  have HC : Hid _ := len_any (D v) w q (s.row v) hd hl
  unfold cntW
  generalize (s.row v).length = m at *
  cases hj : s.hd v with
  | none =>
    rw [hj] at ho
    obtain rfl : hv2 = _ := ho
    clear h1 h2 h5 h3 h4 hd hq hc2 hj
    go_enter Try.func34, Try.ntmps34
    go_wp2_with fail
    refine Calls.mono HC.out ?_
    rintro e w2 ⟨rfl, hb⟩
    have HB : Hid _ := hb
    clear hb HC
    go_wp2_with fail
    go_ret
    exact ⟨rfl, HB.out⟩
  | some j =>
    rw [hj] at ho
    obtain ⟨b, sv, rfl, _⟩ := ho
    clear h1 h2 h5 h3 h4 hd hq hc2 hj
    have hm : (m : Int) ≤ 1000000 := by omega
    go_enter Try.func34, Try.ntmps34
    go_wp2_with fail
    refine Calls.mono HC.out ?_
    rintro e w2 ⟨rfl, hb⟩
    have HB : Hid _ := hb
    clear hb HC
    go_wp2_with fail
    go_ret
    refine ⟨?_, HB.out⟩
    go_num

set_option maxHeartbeats 4000000 in
theorem hold_w {v : Nat} {j : Jb} {sv : Value} (h : LP N F w p n s) (hv : v < n) (hs : RI w sv j.s) (hjs : j.s.length ≤ 1000000) :
    Calls Try.prog 37 #[.pointer (some ⟨p, 1 + v * 2, none⟩), JV j sv] w fun e w' => e = .returned (.tuple #[]) ∧ LP N F w' p n ⟨s.rows, s.hold.set v (some j)⟩ ∧ Kp (fun k => k = p) w w' := by
  obtain ⟨⟨D, cs, h1, h2, h5⟩, h3, h4⟩ := h
  have hpl := row_lt h1.blk
  have HB1 : Hid _ := bl1 w (.cells (jrow (j, sv)).toArray 37)
  have HC : Hid _ := apart39_any j sv (w.alloc (.cells (jrow (j, sv)).toArray 37)) (hs.later HB1.out) hjs
  have R0 : Hid ((w.alloc (.cells (jrow (j, sv)).toArray 37)).heap[w.heap.size]? = _) := row_new w (jrow (j, sv)).toArray 37
  have HP : Hid (PL D F w p n cs s) := h1
  have H2 : Hid _ := h2
  have H5 : Hid _ := h5
  have H3 : Hid _ := h3
  have H4 : Hid _ := h4
  obtain ⟨sa, sc, hsv, _⟩ := hs
  obtain ⟨ji, ju, jt, jb, jk, js⟩ := j
  subst hsv
  unfold JV at *
  dsimp only at *
  obtain ⟨ml, hml⟩ : ∃ m, js.length = m := ⟨_, rfl⟩
  have R1 : Hid ((w.alloc (.cells #[.int .i64 ji, .bool ju, .int .i64 jt, .bool jb, .int .i64 jk, .slice sa ml sc] 37)).heap[w.heap.size]? = _) := row_new w #[.int .i64 ji, .bool ju, .int .i64 jt, .bool jb, .int .i64 jk, .slice sa ml sc] 37
  rw [hml] at HC HB1 ⊢
  clear h1 h2 h5 h3 h4 R0
  go_enter Try.func37, Try.ntmps37
  go_wp2_with fail
  refine Calls.mono HC.out ?_
  rintro e w2 ⟨sv', rfl, ho, hb⟩
  have r2 := row_later R1.out hb
  obtain ⟨d0, d1, d2, d3, d4, d5⟩ := JC.of_row (e := ⟨ji, ju, jt, jb, jk, js⟩) (v := .slice sa ml sc) r2
  have f2 := froz_row r2
  have hsz := hb.size
  rw [World.size_alloc] at hsz
  have hB2 : Below w.heap.size w w2 := HB1.out.trans (hb.mono HB1.out.size)
  have HP2 : Hid (PL D F w2 p n cs s) := HP.out.later hB2
  have f3 := froz_row HP2.out.blk
  have hp2 : p < w2.heap.size := by omega
  have hpn : p ≠ w.heap.size := by omega
  obtain ⟨c3, hc3⟩ : ∃ u, w2.cell? ⟨p, 1 + v * 2 + 1, none⟩ = some u := by
    obtain ⟨hv2, hc, _⟩ := HP2.out.hd v hv
    exact ⟨_, (cell_row HP2.out.blk _).trans hc⟩
  obtain ⟨sb, se, hsv⟩ := ho.slice
  rw [hml] at hsv
  subst hsv
  have HO : Hid _ := ho
  have HB2 : Hid _ := hB2
  have RR : Hid _ := r2
  simp only [Nat.zero_add] at d0 d1 d2 d3 d4 d5
  clear ho hb hB2 r2 HC R1
  go_wp2_with fail
  refine bodyPost_end (results_none9 rfl _ _) rfl ?_
  have k9 : Kp (fun k => k = w.heap.size) w2 (set6 w2 w.heap.size 0 (⟨ji, ju, jt, jb, jk, js⟩, .slice sb ml se)) := set6_kept _ _ _ _ _ rfl
  have r9 := set6_whole RR.out rfl (⟨ji, ju, jt, jb, jk, js⟩, .slice sb ml se)
  have hHL : ∀ u k, u < n → D u k → k < w.heap.size := fun u k hu hk => HP.out.live hu hk
  have hkk : Kp (fun k => k = p) w (set6 w2 w.heap.size 0 (⟨ji, ju, jt, jb, jk, js⟩, .slice sb ml se)) := (Kp.of_below _ HB2.out).trans k9 (fun k hk hk2 => by omega)
  have hP9 : PL D F (set6 w2 w.heap.size 0 (⟨ji, ju, jt, jb, jk, js⟩, .slice sb ml se)) p n cs s := by
    refine HP.out.later ⟨hkk.os, hkk.tape, hkk.output, hkk.size, fun k hk => ?_⟩
    have k10 := (Kp.of_below (fun k => k = w.heap.size) HB2.out).trans k9 (fun k hk hk2 => hk)
    exact k10.block k hk (by omega)
  have hH : HV (Im D F p n) (set6 w2 w.heap.size 0 (⟨ji, ju, jt, jb, jk, js⟩, .slice sb ml se)) (.pointer (some ⟨w.heap.size, 0, none⟩)) (some ⟨ji, ju, jt, jb, jk, js⟩) := by
    refine ⟨w.heap.size, .slice sb ml se, rfl, r9, ⟨by omega, (fun u hu hk => by have := hHL u _ hu hk; omega), fun hf => by have := H4.out _ hf; omega⟩, ?_⟩
    have hrs := ((OwI.rs HO.out).kept k9 (fun k hk e => by have := hk.1; simp at this; omega)).mono (S' := Im D F p n) (fun k _ hk => ⟨by have := hk.1; simp at this; omega, (fun u hu hk2 => by have := hHL u _ hu hk2; have := hk.1; simp at this; omega), fun hf => by have := H4.out _ hf; have := hk.1; simp at this; omega⟩)
    exact hrs
  have hk3 := hkk.set ⟨p, 1 + v * 2 + 1, none⟩ (.pointer (some ⟨w.heap.size, 0, none⟩)) rfl
  exact ⟨rfl, LP.of (hP9.put hv hH) H2.out H5.out H3.out H4.out hk3.size, hk3⟩

/-- The worker of a number. -/
def isW (n : Nat) (v : Int) : Prop := 0 ≤ v ∧ v < n

set_option maxHeartbeats 4000000 in
theorem worker_in {v : Nat} (h : LP N F w p n s) (hv : v < n) :
    Calls Try.prog 35 #[.pointer (some ⟨p, 0, none⟩), .int .i64 (v : Int)] w fun e w' => e = .returned (.tuple #[.pointer (some ⟨p, 1 + v * 2, none⟩), .int .i64 0]) ∧ w' = w := by
  have c0 : w.cell? ⟨p, 0, none⟩ = some (.int .i64 (n : Int)) := h.num
  have h0 := h.n0
  have h64 := h.n64
  have hn0 : ¬ (n : Int) = 0 := by omega
  have hvn : (v : Int) < (n : Int) := by omega
  have hv64 : (v : Int) < 64 := by omega
  have hd0 : decide ((v : Int) < 0) = false := decide_eq_false (by omega)
  have hd1 : decide ((n : Int) ≤ (v : Int)) = false := decide_eq_false (by omega)
  clear h
  go_enter Try.func35, Try.ntmps35
  go_wp2_with fail
  refine bodyPost_ret (results_tmp2 rfl _ _ _) rfl ?_
  exact ⟨rfl, rfl⟩

set_option maxHeartbeats 4000000 in
theorem worker_out {v : Int} (h : LP N F w p n s) (hv : v < 0 ∨ (n : Int) ≤ v) :
    Calls Try.prog 35 #[.pointer (some ⟨p, 0, none⟩), .int .i64 v] w fun e w' => e = .returned (.tuple #[.pointer none, .int .i64 2]) ∧ w' = w := by
  have c0 : w.cell? ⟨p, 0, none⟩ = some (.int .i64 (n : Int)) := h.num
  have h0 := h.n0
  have hn0 : ¬ (n : Int) = 0 := by omega
  clear h
  by_cases h1 : v < 0
  · have hd0 : decide (v < 0) = true := decide_eq_true h1
    go_enter Try.func35, Try.ntmps35
    go_wp2_with fail
    refine bodyPost_ret (results_tmp2 rfl _ _ _) rfl ?_
    exact ⟨rfl, rfl⟩
  · have h2 : (n : Int) ≤ v := by omega
    have hd0 : decide (v < 0) = false := decide_eq_false h1
    have hd1 : decide ((n : Int) ≤ v) = true := decide_eq_true h2
    go_enter Try.func35, Try.ntmps35
    go_wp2_with fail
    refine bodyPost_ret (results_tmp2 rfl _ _ _) rfl ?_
    exact ⟨rfl, rfl⟩

/-- No pool, and one that nothing made. -/
def NoP (w : World) (pv : Value) : Prop := pv = .pointer none ∨ ∃ p, pv = .pointer (some ⟨p, 0, none⟩) ∧ w.cell? ⟨p, 0, none⟩ = some (.int .i64 0)

set_option maxHeartbeats 4000000 in
theorem worker_no {pv : Value} (v : Int) (h : NoP w pv) :
    Calls Try.prog 35 #[pv, .int .i64 v] w fun e w' => e = .returned (.tuple #[.pointer none, .int .i64 1]) ∧ w' = w := by
  rcases h with rfl | ⟨p, rfl, c0⟩
  · go_enter Try.func35, Try.ntmps35
    go_wp2_with fail
    refine bodyPost_ret (results_tmp2 rfl _ _ _) rfl ?_
    exact ⟨rfl, rfl⟩
  · go_enter Try.func35, Try.ntmps35
    go_wp2_with fail
    refine bodyPost_ret (results_tmp2 rfl _ _ _) rfl ?_
    exact ⟨rfl, rfl⟩

/-- What a worker holds, as a value: nil, if it holds none. -/
theorem LP.held (h : LP N F w p n s) {v : Nat} (hv : v < n) : ∃ a, w.cell? ⟨p, 1 + v * 2 + 1, none⟩ = some (.pointer a) ∧ (a.isSome = (s.hd v).isSome) := by
  obtain ⟨⟨D, cs, h1, h2, h5⟩, h3, h4⟩ := h
  obtain ⟨hv2, hc, ho⟩ := h1.hd v hv
  cases hj : s.hd v with
  | none =>
    rw [hj] at ho
    obtain rfl : hv2 = _ := ho
    exact ⟨none, (cell_row h1.blk _).trans hc, rfl⟩
  | some j =>
    rw [hj] at ho
    obtain ⟨b, sv, rfl, _⟩ := ho
    exact ⟨_, (cell_row h1.blk _).trans hc, rfl⟩

set_option maxHeartbeats 4000000 in
theorem holder_in {v : Nat} (h : LP N F w p n s) (hv : v < n) :
    Calls Try.prog 38 #[.pointer (some ⟨p, 0, none⟩), .int .i64 (v : Int)] w fun e w' => e = .returned (.tuple (if (s.hd v).isSome then #[.pointer (some ⟨p, 1 + v * 2, none⟩), .int .i64 0] else #[.pointer none, .int .i64 6])) ∧ w' = w := by
  have HC : Hid _ := worker_in h hv
  obtain ⟨a, c0, ha⟩ := h.held hv
  rw [← ha]
  clear h ha
  cases a with
  | none =>
    go_enter Try.func38, Try.ntmps38
    go_wp2_with fail
    refine Calls.mono HC.out ?_
    rintro e w2 ⟨rfl, rfl⟩
    clear HC
    go_wp2_with fail
    refine bodyPost_ret (results_tmp2 rfl _ _ _) rfl ?_
    exact ⟨rfl, rfl⟩
  | some a =>
    go_enter Try.func38, Try.ntmps38
    go_wp2_with fail
    refine Calls.mono HC.out ?_
    rintro e w2 ⟨rfl, rfl⟩
    clear HC
    go_wp2_with fail
    refine bodyPost_ret (results_tmp2 rfl _ _ _) rfl ?_
    exact ⟨rfl, rfl⟩

set_option maxHeartbeats 4000000 in
/-- Where there is no such worker. -/
theorem holder_err {pv : Value} {v k : Int} (hk : k ≠ 0) (h : Calls Try.prog 35 #[pv, .int .i64 v] w fun e w' => e = .returned (.tuple #[.pointer none, .int .i64 k]) ∧ w' = w) (hpv : ∃ a, pv = .pointer a) :
    Calls Try.prog 38 #[pv, .int .i64 v] w fun e w' => e = .returned (.tuple #[.pointer none, .int .i64 k]) ∧ w' = w := by
  obtain ⟨a, rfl⟩ := hpv
  have HC : Hid _ := h
  clear h
  go_enter Try.func38, Try.ntmps38
  go_wp2_with fail
  refine Calls.mono HC.out ?_
  rintro e w2 ⟨rfl, rfl⟩
  clear HC
  go_wp2_with fail
  refine bodyPost_ret (results_tmp2 rfl _ _ _) rfl ?_
  exact ⟨rfl, rfl⟩
end Go.Proofs.Ytfhmmiilenonkaa
