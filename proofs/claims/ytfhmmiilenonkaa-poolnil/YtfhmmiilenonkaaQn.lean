/- The document's Put, Done, Held. -/
import Derived.Test.YtfhmmiilenonkaaQm
namespace Go.Proofs.Ytfhmmiilenonkaa
open Go.RowKit Go.Shelf
set_option maxRecDepth 1000000
set_option linter.unusedVariables false

variable {S : Nat → Prop} {w w' : World} {r b1 b2 b3 n : Nat} {s : Pq.St Jb} {rs hs fs : Array Value}

set_option maxHeartbeats 4000000 in
theorem rput_out {v : Int} {e : Jb} {sv : Value} (h : RV S w r b1 b2 b3 n s rs hs fs) (hsv : ∃ a n c, sv = .slice a n c) (hv : v < 0 ∨ (n : Int) ≤ v) :
    Calls Try.prog 27 #[.pointer (some ⟨r, 0, none⟩), .int .i64 v, JV e sv] w fun x w' => x = .returned (.int .i64 2) ∧ Below w.heap.size w w' := by
  obtain ⟨sa, sn, sc, rfl⟩ := hsv
  obtain ⟨ei, eu, et, eb, ek, es⟩ := e
  unfold JV
  dsimp only
  have HC : Hid _ := is_out (h.later (bl1 w (.cells #[.int .i64 ei, .bool eu, .int .i64 et, .bool eb, .int .i64 ek, .slice sa sn sc] 37))) hv
  clear h
  go_enter Try.func27, Try.ntmps27
  go_wp2_with fail
  refine Calls.mono HC.out ?_
  rintro e w1 ⟨rfl, hw⟩
  rw [hw]
  clear HC
  go_wp2_with fail
  go_ret
  exact ⟨rfl, bl1 _ _⟩

set_option maxHeartbeats 4000000 in
theorem rput_none {v : Nat} {e : Jb} {sv : Value} (h : RV S w r b1 b2 b3 n s rs hs fs) (hsv : ∃ a n c, sv = .slice a n c) (hv : v < n) (hj : s.hd v = none) :
    Calls Try.prog 27 #[.pointer (some ⟨r, 0, none⟩), .int .i64 (v : Int), JV e sv] w fun x w' => x = .returned (.int .i64 6) ∧ Below w.heap.size w w' := by
  obtain ⟨sa, sn, sc, rfl⟩ := hsv
  obtain ⟨ei, eu, et, eb, ek, es⟩ := e
  unfold JV
  dsimp only
  have HC : Hid _ := is_at (h.later (bl1 w (.cells #[.int .i64 ei, .bool eu, .int .i64 et, .bool eb, .int .i64 ek, .slice sa sn sc] 37))) hv
  have c3 := h.c3
  have y := h.has_at hv
  have hr := row_lt h.blk
  have hb3 := row_lt h.q3
  rw [hj] at y
  have hvn : (v : Int) < (n : Int) := by omega
  clear h hj
  simp only [Option.isSome_none] at y
  go_enter Try.func27, Try.ntmps27
  go_wp2_with fail
  refine Calls.mono HC.out ?_
  rintro e w1 ⟨rfl, hw⟩
  rw [hw]
  clear HC
  go_wp2_with fail
  go_ret
  exact ⟨rfl, bl1 _ _⟩

set_option maxHeartbeats 8000000 in
theorem rput_some {v : Nat} {j e : Jb} {sv : Value} (h : RV S w r b1 b2 b3 n s rs hs fs) (hs1 : RS S w sv e.s) (hv : v < n) (hj : s.hd v = some j) :
    Calls Try.prog 27 #[.pointer (some ⟨r, 0, none⟩), .int .i64 (v : Int), JV e sv] w fun x w' => x = .returned (.int .i64 0) ∧ (∃ hs', RV S w' r b1 b2 b3 n (Pq.putS s v e) rs hs' fs) ∧ Kp (fun k => k = b2) w w' := by
  obtain ⟨sa, sc, hsv, _⟩ := hs1.1
  subst hsv
  have HB1 : Hid _ := bl1 w (.cells #[.int .i64 e.i, .bool e.u, .int .i64 e.t, .bool e.b, .int .i64 e.k, .slice sa e.s.length sc] 37)
  have HC : Hid _ := is_at (h.later HB1.out) hv
  have HH : Hid _ := h
  have HS : Hid (RS S w (.slice sa e.s.length sc) e.s) := hs1
  have HJ : Hid _ := hj
  have c3 := h.c3
  have c2 := h.c2
  have y := h.has_at hv
  obtain ⟨e0, ⟨z0, z1, z2, z3, z4, z5⟩, _⟩ := h.hold_at hv
  have f2 := froz_row h.q2
  have hr := row_lt h.blk
  have hb3 := row_lt h.q3
  have hb2 := row_lt h.q2
  rw [hj] at y
  have hvn : (v : Int) < (n : Int) := by omega
  simp only [Option.isSome_some] at y
  obtain ⟨ei, eu, et, eb, ek, es⟩ := e
  dsimp only at *
  obtain ⟨ml, hml⟩ : ∃ m, es.length = m := ⟨_, rfl⟩
  have HML : Hid _ := hml
  unfold JV
  dsimp only
  rw [hml] at HC HB1 ⊢
  clear h hj hs1 hml
  go_enter Try.func27, Try.ntmps27
  go_wp2_with fail
  refine Calls.mono HC.out ?_
  rintro e w1 ⟨rfl, hw⟩
  rw [hw]
  clear HC hw
  go_wp2_with fail
  go_region
  all_goals
    go_wp2_with fail
    go_ret
    obtain rfl := HML.out
    obtain ⟨hs', h9⟩ := HH.out.set2 (e := (⟨ei, eu, et, eb, ek, es⟩, .slice sa es.length sc)) hv HS.out HJ.out
    have k9 : Kp (fun k => k = b2) w (set6 w b2 (v * 6) (⟨ei, eu, et, eb, ek, es⟩, .slice sa es.length sc)) := set6_kept _ _ _ _ _ rfl
    have hb5 := (bl1 (set6 w b2 (v * 6) (⟨ei, eu, et, eb, ek, es⟩, .slice sa es.length sc)) (.cells #[.int .i64 ei, .bool eu, .int .i64 et, .bool eb, .int .i64 ek, .slice sa es.length sc] 37)).drew
    exact ⟨rfl, ⟨hs', h9.later hb5⟩, k9.later hb5⟩

set_option maxHeartbeats 4000000 in
theorem rdone_out {v : Int} (h : RV S w r b1 b2 b3 n s rs hs fs) (hv : v < 0 ∨ (n : Int) ≤ v) :
    Calls Try.prog 28 #[.pointer (some ⟨r, 0, none⟩), .int .i64 v] w fun x w' => x = .returned (.int .i64 2) ∧ w' = w := by
  have HC : Hid _ := is_out h hv
  clear h
  go_enter Try.func28, Try.ntmps28
  go_wp2_with fail
  refine Calls.mono HC.out ?_
  rintro e w1 ⟨rfl, rfl⟩
  clear HC
  go_wp2_with fail
  go_ret
  exact ⟨rfl, rfl⟩

set_option maxHeartbeats 4000000 in
theorem rdone_none {v : Nat} (h : RV S w r b1 b2 b3 n s rs hs fs) (hv : v < n) (hj : s.hd v = none) :
    Calls Try.prog 28 #[.pointer (some ⟨r, 0, none⟩), .int .i64 (v : Int)] w fun x w' => x = .returned (.int .i64 6) ∧ w' = w := by
  have HC : Hid _ := is_at h hv
  have c3 := h.c3
  have y := h.has_at hv
  rw [hj] at y
  have hvn : (v : Int) < (n : Int) := by omega
  clear h hj
  simp only [Option.isSome_none] at y
  go_enter Try.func28, Try.ntmps28
  go_wp2_with fail
  refine Calls.mono HC.out ?_
  rintro e w1 ⟨rfl, rfl⟩
  clear HC
  go_wp2_with fail
  go_ret
  exact ⟨rfl, rfl⟩

set_option maxHeartbeats 8000000 in
theorem rdone_some {v : Nat} {j : Jb} (h : RV S w r b1 b2 b3 n s rs hs fs) (hv : v < n) (hj : s.hd v = some j) :
    Calls Try.prog 28 #[.pointer (some ⟨r, 0, none⟩), .int .i64 (v : Int)] w fun x w' => x = .returned (.int .i64 0) ∧ (∃ hs' fs', RV S w' r b1 b2 b3 n (Pq.doneS s v) rs hs' fs') ∧ Kp (fun k => k = b2 ∨ k = b3) w w' := by
  have HC : Hid _ := is_at h hv
  have HH : Hid _ := h
  have c3 := h.c3
  have c2 := h.c2
  have y := h.has_at hv
  obtain ⟨e0, ⟨z0, z1, z2, z3, z4, z5⟩, _⟩ := h.hold_at hv
  have f2 := froz_row h.q2
  have f3 := froz_row h.q3
  have hr := row_lt h.blk
  have hb3 := row_lt h.q3
  have hb2 := row_lt h.q2
  have h23 := h.d23
  rw [hj] at y
  have hvn : (v : Int) < (n : Int) := by omega
  simp only [Option.isSome_some] at y
  have hd2 := h.d2
  have hd3 := h.d3
  clear h hj
  go_enter Try.func28, Try.ntmps28
  go_wp2_with fail
  refine Calls.mono HC.out ?_
  rintro e w1 ⟨rfl, rfl⟩
  clear HC
  go_wp2_with fail
  go_region
  all_goals
    go_wp2_with fail
    go_ret
    obtain ⟨hs', h9⟩ := HH.out.set23 (e := (zJ, .slice none 0 0)) (o := none) hv (RS.nil _ _) rfl
    have k9 : Kp (fun k => k = b2) w1 (set6 w1 b2 (v * 6) (zJ, .slice none 0 0)) := set6_kept _ _ _ _ _ rfl
    have k10 := (k9.mono (T' := fun k => k = b2 ∨ k = b3) (fun k h => .inl h)).set ⟨b3, v, none⟩ (.bool false) (.inr rfl)
    have hb5 : Below ((set6 w1 b2 (v * 6) (zJ, .slice none 0 0)).setCell ⟨b3, v, none⟩ (.bool false)).heap.size _ ((set6 w1 b2 (v * 6) (zJ, .slice none 0 0)).setCell ⟨b3, v, none⟩ (.bool false)).drew := (Below.refl _ _).drew
    exact ⟨rfl, ⟨hs', _, h9.later hb5⟩, k10.later hb5⟩

set_option maxHeartbeats 4000000 in
theorem rheld_out {v : Int} (h : RV S w r b1 b2 b3 n s rs hs fs) (hv : v < 0 ∨ (n : Int) ≤ v) :
    Calls Try.prog 31 #[.pointer (some ⟨r, 0, none⟩), .int .i64 v] w fun x w' => x = .returned (.tuple #[JV zJ (.slice none 0 0), .int .i64 2]) ∧ Below w.heap.size w w' := by
  have HC : Hid _ := is_out (h.later (bl1 w (.cells #[.int .i64 0, .bool false, .int .i64 0, .bool false, .int .i64 0, .slice none 0 0] 37))) hv
  clear h
  go_enter Try.func31, Try.ntmps31
  go_wp2_with fail
  refine Calls.mono HC.out ?_
  rintro e w1 ⟨rfl, hw⟩
  rw [hw]
  clear HC
  go_wp2_with fail
  refine bodyPost_ret (results_j2 rfl _ _ (e := zJ) (v := .slice none 0 0) rfl (row_new w #[.int .i64 0, .bool false, .int .i64 0, .bool false, .int .i64 0, .slice none 0 0] 37)) rfl ?_
  exact ⟨rfl, bl1 _ _⟩

set_option maxHeartbeats 4000000 in
theorem rheld_none {v : Nat} (h : RV S w r b1 b2 b3 n s rs hs fs) (hv : v < n) (hj : s.hd v = none) :
    Calls Try.prog 31 #[.pointer (some ⟨r, 0, none⟩), .int .i64 (v : Int)] w fun x w' => x = .returned (.tuple #[JV zJ (.slice none 0 0), .int .i64 6]) ∧ Below w.heap.size w w' := by
  have HC : Hid _ := is_at (h.later (bl1 w (.cells #[.int .i64 0, .bool false, .int .i64 0, .bool false, .int .i64 0, .slice none 0 0] 37))) hv
  have c3 := h.c3
  have y := h.has_at hv
  rw [hj] at y
  have hvn : (v : Int) < (n : Int) := by omega
  have hr := row_lt h.blk
  have hb3 := row_lt h.q3
  clear h hj
  simp only [Option.isSome_none] at y
  go_enter Try.func31, Try.ntmps31
  go_wp2_with fail
  refine Calls.mono HC.out ?_
  rintro e w1 ⟨rfl, hw⟩
  rw [hw]
  clear HC hw
  go_wp2_with fail
  refine bodyPost_ret (results_j2 rfl _ _ (e := zJ) (v := .slice none 0 0) rfl (row_new w #[.int .i64 0, .bool false, .int .i64 0, .bool false, .int .i64 0, .slice none 0 0] 37)) rfl ?_
  exact ⟨rfl, bl1 _ _⟩

set_option maxHeartbeats 4000000 in
theorem rheld_some {v : Nat} {j : Jb} (h : RV S w r b1 b2 b3 n s rs hs fs) (hv : v < n) (hj : s.hd v = some j) :
    Calls Try.prog 31 #[.pointer (some ⟨r, 0, none⟩), .int .i64 (v : Int)] w fun x w' => ∃ sv, x = .returned (.tuple #[JV j sv, .int .i64 0]) ∧ RI w' sv j.s ∧ Below w.heap.size w w' := by
  have HC : Hid _ := is_at (h.later (bl1 w (.cells #[.int .i64 0, .bool false, .int .i64 0, .bool false, .int .i64 0, .slice none 0 0] 37))) hv
  have c3 := h.c3
  have c2 := h.c2
  have y := h.has_at hv
  obtain ⟨⟨e, sv⟩, ⟨z0, z1, z2, z3, z4, z5⟩, hS, he⟩ := h.hold_at hv
  rw [hj] at y he
  simp only [Option.getD_some] at he
  subst he
  have hvn : (v : Int) < (n : Int) := by omega
  have hr := row_lt h.blk
  have hb3 := row_lt h.q3
  have hb2 := row_lt h.q2
  simp only [Option.isSome_some] at y
  obtain ⟨sa, sc, hsv, _⟩ := hS.1
  dsimp only at hsv
  subst hsv
  have HS : Hid (RI w (.slice sa e.s.length sc) e.s) := hS.1
  obtain ⟨ei, eu, et, eb, ek, es⟩ := e
  dsimp only at *
  clear h hj hS
  go_enter Try.func31, Try.ntmps31
  go_wp2_with fail
  refine Calls.mono HC.out ?_
  rintro e w1 ⟨rfl, hw⟩
  rw [hw]
  clear HC hw
  go_wp2_with fail
  have hb := bl1 w (.cells #[.int .i64 ei, .bool eu, .int .i64 et, .bool eb, .int .i64 ek, .slice sa es.length sc] 37)
  refine bodyPost_ret (results_j2 rfl _ _ (e := ⟨ei, eu, et, eb, ek, es⟩) (v := .slice sa es.length sc) rfl (row_new w #[.int .i64 ei, .bool eu, .int .i64 et, .bool eb, .int .i64 ek, .slice sa es.length sc] 37)) rfl ?_
  exact ⟨_, rfl, HS.out.later hb, hb⟩
end Go.Proofs.Ytfhmmiilenonkaa
