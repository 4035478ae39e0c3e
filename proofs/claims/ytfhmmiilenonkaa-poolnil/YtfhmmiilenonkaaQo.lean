/- The document's Push. -/
import Derived.Test.YtfhmmiilenonkaaQn
namespace Go.Proofs.Ytfhmmiilenonkaa
open Go.RowKit Go.Shelf
set_option maxRecDepth 1000000
set_option linter.unusedVariables false

variable {S : Nat → Prop} {w w' : World} {r b1 b2 b3 n : Nat} {s : Pq.St Jb} {rs hs fs : Array Value}

set_option maxHeartbeats 4000000 in
theorem rpush_out {v : Int} {e : Jb} {sv : Value} (h : RV S w r b1 b2 b3 n s rs hs fs) (hsv : ∃ a n c, sv = .slice a n c) (hv : v < 0 ∨ (n : Int) ≤ v) :
    Calls Try.prog 30 #[.pointer (some ⟨r, 0, none⟩), .int .i64 v, JV e sv] w fun x w' => x = .returned (.int .i64 2) ∧ Below w.heap.size w w' := by
  obtain ⟨sa, sn, sc, rfl⟩ := hsv
  obtain ⟨ei, eu, et, eb, ek, es⟩ := e
  unfold JV
  dsimp only
  have HC : Hid _ := is_out (h.later (bl1 w (.cells #[.int .i64 ei, .bool eu, .int .i64 et, .bool eb, .int .i64 ek, .slice sa sn sc] 37))) hv
  clear h
  go_enter Try.func30, Try.ntmps30
  go_wp2_with fail
  refine Calls.mono HC.out ?_
  rintro e w1 ⟨rfl, hw⟩
  rw [hw]
  clear HC
  go_wp2_with fail
  go_ret
  exact ⟨rfl, bl1 _ _⟩

set_option maxHeartbeats 8000000 in
theorem rpush_in {v : Nat} {e : Jb} {sv : Value} (h : RV S w r b1 b2 b3 n s rs hs fs) (hs1 : RS S w sv e.s) (hv : v < n) (hl : (s.row v).length ≤ 1000) :
    Calls Try.prog 30 #[.pointer (some ⟨r, 0, none⟩), .int .i64 (v : Int), JV e sv] w fun x w' => x = .returned (.int .i64 (pushP (s.row v) e).1) ∧ (∃ rs', RV (fun k => S k ∨ w.heap.size ≤ k) w' r b1 b2 b3 n ⟨s.rows.set v (pushP (s.row v) e).2, s.hold⟩ rs' hs fs) ∧ Kp (fun k => k = b1) w w' := by
  obtain ⟨sa, sc, hsv, _⟩ := hs1.1
  subst hsv
  have HB1 : Hid _ := bl1 w (.cells #[.int .i64 e.i, .bool e.u, .int .i64 e.t, .bool e.b, .int .i64 e.k, .slice sa e.s.length sc] 37)
  have HC : Hid _ := is_at (h.later HB1.out) hv
  have HH : Hid (RV (fun k => S k ∨ w.heap.size ≤ k) w r b1 b2 b3 n s rs hs fs) := h.mono (fun k _ hk => .inl hk) (fun k hk => hk)
  obtain ⟨rv, L, y, hL, hL2⟩ := h.row_at hv
  have hLl : L.length = (s.row v).length := by rw [← hL2, List.length_map]
  have hRJ : RJ (fun k => S k ∨ w.heap.size ≤ k) w rv L := hL.mono (fun k _ hk => .inl hk)
  have hRS : RS (fun k => S k ∨ w.heap.size ≤ k) w (.slice sa e.s.length sc) e.s := hs1.mono (fun k _ hk => .inl hk)
  have HD : Hid (∀ wx, Below w.heap.size w wx → Calls Try.prog 49 #[rv, JV e (.slice sa e.s.length sc)] wx fun x w' => ∃ a' n' c' L', x = .returned (.tuple #[.slice a' n' c', .int .i64 (pushP (s.row v) e).1]) ∧ RJ (fun k => S k ∨ w.heap.size ≤ k) w' (.slice a' n' c') L' ∧ L'.map Prod.fst = (pushP (s.row v) e).2 ∧ Below w.heap.size w w') := fun wx hb => by
    refine Calls.mono (rpush_any _ wx rv L e _ (hRJ.later hb) (hRS.later hb) (fun b hb2 => .inr (Nat.le_trans hb.size hb2)) (by omega)) ?_
    rw [hL2]
    rintro x w' ⟨rv', L', rfl, q1, q2, q3⟩
    obtain ⟨a', c', rfl⟩ := q1.slice
    exact ⟨_, _, _, L', rfl, q1, q2, hb.trans (q3.mono hb.size)⟩
  obtain ⟨ra, rc, hrv⟩ := hL.slice
  subst hrv
  obtain ⟨rl, hrl⟩ : ∃ m, L.length = m := ⟨_, rfl⟩
  rw [hrl] at y HD
  obtain ⟨x1, hx1⟩ : ∃ m, (pushP (s.row v) e).1 = m := ⟨_, rfl⟩
  obtain ⟨x2, hx2⟩ : ∃ m, (pushP (s.row v) e).2 = m := ⟨_, rfl⟩
  rw [hx1, hx2] at HD ⊢
  have c1 := h.c1
  have f1 := froz_row h.q1
  have hr := row_lt h.blk
  have hb1 := row_lt h.q1
  have hn1 := h.d1
  have hvn : (v : Int) < (n : Int) := by omega
  have HR : Hid _ := h
  have HV : Hid (v < n) := hv
  obtain ⟨ei, eu, et, eb, ek, es⟩ := e
  dsimp only at *
  obtain ⟨ml, hml⟩ : ∃ m, es.length = m := ⟨_, rfl⟩
  have HML : Hid _ := hml
  have HP : Hid (∀ wx, Below (w.alloc (.cells #[.int .i64 ei, .bool eu, .int .i64 et, .bool eb, .int .i64 ek, .slice sa ml sc] 37)).heap.size (w.alloc (.cells #[.int .i64 ei, .bool eu, .int .i64 et, .bool eb, .int .i64 ek, .slice sa ml sc] 37)) wx → wx.cell? ⟨r, 0, none⟩ = some (.slice (some ⟨b1, 0, none⟩) n n) ∧ wx.cell? ⟨b1, v, none⟩ = some (.slice ra rl rc) ∧ (∀ i, wx.frozen? ⟨b1, i, none⟩ = false) ∧ wx.cell? ⟨w.heap.size, 0, none⟩ = some (.int .i64 ei) ∧ wx.cell? ⟨w.heap.size, 1, none⟩ = some (.bool eu) ∧ wx.cell? ⟨w.heap.size, 2, none⟩ = some (.int .i64 et) ∧ wx.cell? ⟨w.heap.size, 3, none⟩ = some (.bool eb) ∧ wx.cell? ⟨w.heap.size, 4, none⟩ = some (.int .i64 ek) ∧ wx.cell? ⟨w.heap.size, 5, none⟩ = some (.slice sa ml sc)) := fun wx hb => by
    have hbw := (bl1 w (.cells #[.int .i64 ei, .bool eu, .int .i64 et, .bool eb, .int .i64 ek, .slice sa ml sc] 37))
    have hbx : Below w.heap.size w wx := hbw.trans (hb.mono hbw.size)
    have rr := row_later (row_new w #[.int .i64 ei, .bool eu, .int .i64 et, .bool eb, .int .i64 ek, .slice sa ml sc] 37) hb
    exact ⟨(h.later hbx).c1, cell_later hbx y, froz_row (row_later h.q1 hbx), (cell_row rr 0).trans rfl, (cell_row rr 1).trans rfl, (cell_row rr 2).trans rfl, (cell_row rr 3).trans rfl, (cell_row rr 4).trans rfl, (cell_row rr 5).trans rfl⟩
  unfold JV at HD ⊢
  dsimp only at HD ⊢
  rw [hml] at HC HB1 HD ⊢
  clear h hs1 hml hL hL2 hRJ hRS hx1 hx2 hrl hLl hl hv
  go_enter Try.func30, Try.ntmps30
  go_wp2_with fail
  refine Calls.mono HC.out ?_
  rintro e w1 ⟨rfl, hw⟩
  rw [hw]
  clear HC hw
  go_wp2_with fail
  go_region_with (go_at_call 49; refine Calls.mono (HD.out _ HB1.out.drew) ?_; rintro e w2 ⟨a', n', c', L', rfl, q1, q2, q3⟩; have Q1 : Hid _ := q1; have Q2 : Hid _ := q2; have Q3 : Hid _ := q3; clear q1 q2 q3)
  all_goals
    have HR2 := HR.out.later Q3.out
    have HH2 := HH.out.later Q3.out
    have g1 := HR2.c1
    have gf := froz_row HR2.q1
    have gy := cell_later Q3.out y
    have HH2' : Hid _ := HH2
    simp only [Act.put, List.getElem_toArray, List.getElem_cons_succ, List.getElem_cons_zero, List.setIfInBounds_toArray, List.set_cons_succ, List.set_cons_zero]
    clear HR2 HH2
    go_wp2_with fail
    go_ret
    exact ⟨rfl, ⟨_, HH2'.out.set1 HV.out Q1.out Q2.out⟩, (Kp.of_below _ Q3.out).set _ _ rfl⟩
end Go.Proofs.Ytfhmmiilenonkaa
