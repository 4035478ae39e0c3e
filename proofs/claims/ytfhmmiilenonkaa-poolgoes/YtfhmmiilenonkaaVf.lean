/- The laws' step: Push. -/
import Derived.Test.YtfhmmiilenonkaaVc
namespace Go.Proofs.Ytfhmmiilenonkaa
open Go.RowKit Go.Shelf
set_option maxRecDepth 1000000
set_option linter.unusedVariables false

variable {N : Nat} {F S : Nat → Prop} {w w' : World} {p r b1 b2 b3 n : Nat} {s : Pq.St Jb} {rs hs fs : Array Value}

set_option maxHeartbeats 8000000 in
theorem step_push {x : Ac} {sv : Value} (h : PB N w p r n s) (hk : x.k ≠ 1 ∧ x.k ≠ 2 ∧ x.k ≠ 3 ∧ x.k ≠ 4) (hx : okA x) (hsv : RS (fun b => b < N) w sv x.e.s) :
    Calls Try.prog 11 #[.pointer (some ⟨p, 0, none⟩), .pointer (some ⟨r, 0, none⟩), AV x sv] w fun e w' => StC N w p r n (stepP n s x) e w' := by
  obtain ⟨sa, sc, hsl, _⟩ := hsv.1
  subst hsl
  have hst : stepP n s x = (pushC s n x.v x.e).2 := by unfold stepP; rw [if_neg hk.1, if_neg hk.2.1, if_neg hk.2.2.1, if_neg hk.2.2.2]
  obtain ⟨F, b1, b2, b3, rs, hs, fs, hO, hFw, l0, l1, l2, l3, lp, hN⟩ := h.open (.cells (acs x (.slice sa x.e.s.length sc)) 39)
  have HO : Hid _ := hO
  have HB1 : Hid _ := bl1 w (.cells (acs x (.slice sa x.e.s.length sc)) 39)
  have HIn : Hid _ := hO.inv.pushC n x.v (e := x.e) (Nat.le_trans hx.1 (by omega))
  rw [hst]
  have HS : Hid (RS (fun b => b < N) w (.slice sa x.e.s.length sc) x.e.s) := hsv
  have hes := hx.1
  obtain ⟨sn, hsn⟩ : ∃ m, x.e.s.length = m := ⟨_, rfl⟩
  have HSN : Hid _ := hsn
  rw [hsn] at HO HB1 HS hes ⊢
  clear hsv
  obtain ⟨xk, xv, xn, ⟨ei, eu, et, eb, ek, es⟩⟩ := x
  dsimp only at hk
  obtain ⟨hk1, hk2, hk3, hk4⟩ := hk
  unfold AV
  unfold acs at HB1 HO
  dsimp only at *
  clear hsn
  obtain ⟨w1, hw1⟩ : ∃ w1, w.alloc (.cells #[.int .i64 xk, .int .i64 xv, .int .i64 xn, .int .i64 ei, .bool eu, .int .i64 et, .bool eb, .int .i64 ek, .slice sa sn sc] 39) = w1 := ⟨_, rfl⟩
  have R1 : Hid (w1.heap[w.heap.size]? = some (.cells #[.int .i64 xk, .int .i64 xv, .int .i64 xn, .int .i64 ei, .bool eu, .int .i64 et, .bool eb, .int .i64 ek, .slice sa sn sc] 39 (0, 0))) := by rw [← hw1]; exact row_new w _ 39
  have HW1 : Hid _ := hw1
  rw [hw1] at HO HB1
  obtain ⟨⟨dc, s'⟩, hdc⟩ : ∃ q, pushC s n xv ⟨ei, eu, et, eb, ek, es⟩ = q := ⟨_, rfl⟩
  have HD : Hid (∀ wx, Below w1.heap.size w1 wx → Calls Try.prog 19 #[.pointer (some ⟨p, 0, none⟩), .int .i64 xv, .agg #[.int .i64 ei, .bool eu, .int .i64 et, .bool eb, .int .i64 ek, .slice sa sn sc]] wx fun e w' => e = .returned (.int .i64 dc) ∧ Mid N F w1 w' p r b1 b2 b3 n s s' rs hs fs) := fun wx hb => by
    refine Calls.mono (push_all xv (e := ⟨ei, eu, et, eb, ek, es⟩) (HO.out.l.later hb) HO.out.inv ((HS.out.1.later HB1.out).later hb) (by rw [HSN.out]; omega)) ?_
    rw [hdc]
    rintro e w' ⟨rfl, q1, q2⟩
    exact ⟨rfl, HO.out.mid q1 ((Kp.of_below _ hb).trans q2 (fun _ h _ => h))⟩
  have HR : Hid (∀ wx, Mid N F w1 wx p r b1 b2 b3 n s s' rs hs fs → Calls Try.prog 30 #[.pointer (some ⟨r, 0, none⟩), .int .i64 xv, .agg #[.int .i64 ei, .bool eu, .int .i64 et, .bool eb, .int .i64 ek, .slice sa sn sc]] wx fun e w' => e = .returned (.int .i64 dc) ∧ (PB N w' p r n s' ∧ Below N w1 w') ∧ w'.heap[w.heap.size]? = some (.cells #[.int .i64 xk, .int .i64 xv, .int .i64 xn, .int .i64 ei, .bool eu, .int .i64 et, .bool eb, .int .i64 ek, .slice sa sn sc] 39 (0, 0))) := fun wx hm => by
    refine Calls.mono (rpush_all xv (e := ⟨ei, eu, et, eb, ek, es⟩) (sv := .slice sa sn sc) hm.d HO.out.inv (((RS.later HS.out HB1.out).kept hm.k (fun k hk hh => by have := hh.1; omega)).mono (fun k _ hk => ⟨.inl hk, by have := HO.out.n0; omega, by have := HO.out.n1; omega, by have := HO.out.n2; omega, by have := HO.out.n3; omega⟩))) ?_
    rw [hdc]
    rintro e w' ⟨rfl, q1, q2⟩
    have hI : PInv s' := by have := HIn.out; rw [hdc] at this; exact this
    exact ⟨rfl, HO.out.fin2 hm q1 q2 hI, q2.row (hm.k.row R1.out (fun hh => hh.2 hFw)) (by omega)⟩
  have HA : Hid (∀ wx, Mid N F w1 wx p r b1 b2 b3 n s s' rs hs fs → wx.heap[w.heap.size]? = some (.cells #[.int .i64 xk, .int .i64 xv, .int .i64 xn, .int .i64 ei, .bool eu, .int .i64 et, .bool eb, .int .i64 ek, .slice sa sn sc] 39 (0, 0))) := fun wx hm => hm.k.row R1.out (fun hh => hh.2 hFw)
  rw [hdc]
  dsimp only
  clear h hst hO hx hdc hw1 hFw hes
  go_enter Try.func11, Try.ntmps11
  go_wp2_with fail
  rw [HW1.out]
  have kk0 : w1.cell? ⟨w.heap.size, 0, none⟩ = some (.int .i64 xk) := (cell_row R1.out 0).trans rfl
  have k1 : w1.cell? ⟨w.heap.size, 1, none⟩ = some (.int .i64 xv) := (cell_row (R1.out) 1).trans rfl
  have k3 : w1.cell? ⟨w.heap.size, 3, none⟩ = some (.int .i64 ei) := (cell_row (R1.out) 3).trans rfl
  have k4 : w1.cell? ⟨w.heap.size, 4, none⟩ = some (.bool eu) := (cell_row (R1.out) 4).trans rfl
  have k5 : w1.cell? ⟨w.heap.size, 5, none⟩ = some (.int .i64 et) := (cell_row (R1.out) 5).trans rfl
  have k6 : w1.cell? ⟨w.heap.size, 6, none⟩ = some (.bool eb) := (cell_row (R1.out) 6).trans rfl
  have k7 : w1.cell? ⟨w.heap.size, 7, none⟩ = some (.int .i64 ek) := (cell_row (R1.out) 7).trans rfl
  have k8 : w1.cell? ⟨w.heap.size, 8, none⟩ = some (.slice sa sn sc) := (cell_row (R1.out) 8).trans rfl
  refine region_thenG (β := Unit) (fun _ => [(89, .pointer (some ⟨p, 0, none⟩)), (90, .pointer (some ⟨w.heap.size, 1, none⟩)), (91, .int .i64 xv), (92, .pointer (some ⟨w.heap.size, 3, none⟩)), (93, .agg #[.int .i64 ei, .bool eu, .int .i64 et, .bool eb, .int .i64 ek, .slice sa sn sc]), (94, .int .i64 dc), (95, .pointer (some ⟨r, 0, none⟩)), (96, .pointer (some ⟨w.heap.size, 1, none⟩)), (97, .int .i64 xv), (98, .pointer (some ⟨w.heap.size, 3, none⟩)), (99, .agg #[.int .i64 ei, .bool eu, .int .i64 et, .bool eb, .int .i64 ek, .slice sa sn sc]), (100, .int .i64 dc), (101, .bool true), (6, .bool true)]) (fun _ w' => PB N w' p r n s' ∧ Below N w1 w') ?_ ?_
  · refine wp_region_held (S := fun W => W.heap[w.heap.size]? = some (.cells #[.int .i64 xk, .int .i64 xv, .int .i64 xn, .int .i64 ei, .bool eu, .int .i64 et, .bool eb, .int .i64 ek, .slice sa sn sc] 39 (0, 0))) (by kernel_rfl) ?_
    simp only [List.size_toArray, List.length_cons, List.length_nil, Nat.reduceAdd, Array.replicate_succ, Array.replicate_zero, List.push_toArray, List.nil_append, List.cons_append]
    have hS0 : w1.drew.heap[w.heap.size]? = some (.cells #[.int .i64 xk, .int .i64 xv, .int .i64 xn, .int .i64 ei, .bool eu, .int .i64 et, .bool eb, .int .i64 ek, .slice sa sn sc] 39 (0, 0)) := R1.out
    refine takeD (i := 0) (d := 89) (v := .pointer (some ⟨p, 0, none⟩)) (fuel := 13) rfl rfl (by kernel_rfl) (by kernel_rfl) (by kernel_rfl) (fun _ _ _ h => by cases h.1) (.inl ⟨by kernel_rfl, fun _ _ => by go_simp⟩) hS0 ?_
    simp only [List.setIfInBounds_toArray, List.set_cons_succ, List.set_cons_zero]
    refine takeD (i := 1) (d := 90) (v := .pointer (some ⟨w.heap.size, 1, none⟩)) (fuel := 12) rfl rfl (by kernel_rfl) (by kernel_rfl) (by kernel_rfl) (fun _ _ _ h => by cases h.1) (.inl ⟨by kernel_rfl, fun _ _ => by go_simp⟩) hS0 ?_
    simp only [List.setIfInBounds_toArray, List.set_cons_succ, List.set_cons_zero]
    refine takeD (i := 2) (d := 91) (v := .int .i64 xv) (fuel := 11) rfl rfl (by kernel_rfl) (by kernel_rfl) (by kernel_rfl) (fun _ _ _ h => by cases h.1) (.inl ⟨by kernel_rfl, fun wx h => by have y1 : wx.cell? ⟨w.heap.size, 1, none⟩ = some (.int .i64 xv) := (cell_row h 1).trans rfl; go_simp⟩) hS0 ?_
    simp only [List.setIfInBounds_toArray, List.set_cons_succ, List.set_cons_zero]
    refine takeD (i := 3) (d := 92) (v := .pointer (some ⟨w.heap.size, 3, none⟩)) (fuel := 10) rfl rfl (by kernel_rfl) (by kernel_rfl) (by kernel_rfl) (fun _ _ _ h => by cases h.1) (.inl ⟨by kernel_rfl, fun _ _ => by go_simp⟩) hS0 ?_
    simp only [List.setIfInBounds_toArray, List.set_cons_succ, List.set_cons_zero]
    refine takeD (i := 4) (d := 93) (v := .agg #[.int .i64 ei, .bool eu, .int .i64 et, .bool eb, .int .i64 ek, .slice sa sn sc]) (fuel := 9) rfl rfl (by kernel_rfl) (by kernel_rfl) (by kernel_rfl) (fun _ _ _ h => by cases h.1) (.inl ⟨by kernel_rfl, fun wx h => by have y3 : wx.cell? ⟨w.heap.size, 3, none⟩ = some (.int .i64 ei) := (cell_row h 3).trans rfl; have y4 : wx.cell? ⟨w.heap.size, 4, none⟩ = some (.bool eu) := (cell_row h 4).trans rfl; have y5 : wx.cell? ⟨w.heap.size, 5, none⟩ = some (.int .i64 et) := (cell_row h 5).trans rfl; have y6 : wx.cell? ⟨w.heap.size, 6, none⟩ = some (.bool eb) := (cell_row h 6).trans rfl; have y7 : wx.cell? ⟨w.heap.size, 7, none⟩ = some (.int .i64 ek) := (cell_row h 7).trans rfl; have y8 : wx.cell? ⟨w.heap.size, 8, none⟩ = some (.slice sa sn sc) := (cell_row h 8).trans rfl; go_simp⟩) hS0 ?_
    simp only [List.setIfInBounds_toArray, List.set_cons_succ, List.set_cons_zero]
    refine takeD (i := 6) (d := 95) (v := .pointer (some ⟨r, 0, none⟩)) (fuel := 8) rfl rfl (by kernel_rfl) (by kernel_rfl) (by kernel_rfl) (fun _ _ _ h => by cases h.1) (.inl ⟨by kernel_rfl, fun _ _ => by go_simp⟩) hS0 ?_
    simp only [List.setIfInBounds_toArray, List.set_cons_succ, List.set_cons_zero]
    refine takeD (i := 7) (d := 96) (v := .pointer (some ⟨w.heap.size, 1, none⟩)) (fuel := 7) rfl rfl (by kernel_rfl) (by kernel_rfl) (by kernel_rfl) (fun _ _ _ h => by cases h.1) (.inl ⟨by kernel_rfl, fun _ _ => by go_simp⟩) hS0 ?_
    simp only [List.setIfInBounds_toArray, List.set_cons_succ, List.set_cons_zero]
    refine takeD (i := 8) (d := 97) (v := .int .i64 xv) (fuel := 6) rfl rfl (by kernel_rfl) (by kernel_rfl) (by kernel_rfl) (fun _ _ _ h => by cases h.1) (.inl ⟨by kernel_rfl, fun wx h => by have y1 : wx.cell? ⟨w.heap.size, 1, none⟩ = some (.int .i64 xv) := (cell_row h 1).trans rfl; go_simp⟩) hS0 ?_
    simp only [List.setIfInBounds_toArray, List.set_cons_succ, List.set_cons_zero]
    refine takeD (i := 9) (d := 98) (v := .pointer (some ⟨w.heap.size, 3, none⟩)) (fuel := 5) rfl rfl (by kernel_rfl) (by kernel_rfl) (by kernel_rfl) (fun _ _ _ h => by cases h.1) (.inl ⟨by kernel_rfl, fun _ _ => by go_simp⟩) hS0 ?_
    simp only [List.setIfInBounds_toArray, List.set_cons_succ, List.set_cons_zero]
    refine takeD (i := 10) (d := 99) (v := .agg #[.int .i64 ei, .bool eu, .int .i64 et, .bool eb, .int .i64 ek, .slice sa sn sc]) (fuel := 4) rfl rfl (by kernel_rfl) (by kernel_rfl) (by kernel_rfl) (fun _ _ _ h => by cases h.1) (.inl ⟨by kernel_rfl, fun wx h => by have y3 : wx.cell? ⟨w.heap.size, 3, none⟩ = some (.int .i64 ei) := (cell_row h 3).trans rfl; have y4 : wx.cell? ⟨w.heap.size, 4, none⟩ = some (.bool eu) := (cell_row h 4).trans rfl; have y5 : wx.cell? ⟨w.heap.size, 5, none⟩ = some (.int .i64 et) := (cell_row h 5).trans rfl; have y6 : wx.cell? ⟨w.heap.size, 6, none⟩ = some (.bool eb) := (cell_row h 6).trans rfl; have y7 : wx.cell? ⟨w.heap.size, 7, none⟩ = some (.int .i64 ek) := (cell_row h 7).trans rfl; have y8 : wx.cell? ⟨w.heap.size, 8, none⟩ = some (.slice sa sn sc) := (cell_row h 8).trans rfl; go_simp⟩) hS0 ?_
    simp only [List.setIfInBounds_toArray, List.set_cons_succ, List.set_cons_zero]
    refine oneX (β := Unit) (V := fun _ => .int .i64 dc) (R := fun _ w' => Mid N F w1 w' p r b1 b2 b3 n s s' rs hs fs) (i := 5) (d := 94) (f := 19) (args := #[.pointer (some ⟨p, 0, none⟩), .int .i64 xv, .agg #[.int .i64 ei, .bool eu, .int .i64 et, .bool eb, .int .i64 ek, .slice sa sn sc]]) (fuel := 3) rfl rfl (by kernel_rfl) (by kernel_rfl) (fun _ => by kernel_rfl) (Calls.mono (HD.out _ (Below.refl _ w1).drew) (by rintro e w' ⟨rfl, h⟩; exact ⟨(), rfl, h⟩)) (fun _ w' h => HA.out w' h) (fun _ w2 hm => ?_)
    simp only [List.setIfInBounds_toArray, List.set_cons_succ, List.set_cons_zero]
    refine oneX (β := Unit) (V := fun _ => .int .i64 dc) (R := fun _ w' => (PB N w' p r n s' ∧ Below N w1 w') ∧ w'.heap[w.heap.size]? = some (.cells #[.int .i64 xk, .int .i64 xv, .int .i64 xn, .int .i64 ei, .bool eu, .int .i64 et, .bool eb, .int .i64 ek, .slice sa sn sc] 39 (0, 0))) (i := 11) (d := 100) (f := 30) (args := #[.pointer (some ⟨r, 0, none⟩), .int .i64 xv, .agg #[.int .i64 ei, .bool eu, .int .i64 et, .bool eb, .int .i64 ek, .slice sa sn sc]]) (fuel := 2) rfl rfl (by kernel_rfl) (by kernel_rfl) (fun _ => by kernel_rfl) (Calls.mono (HR.out _ hm) (by rintro e w' ⟨rfl, h⟩; exact ⟨(), rfl, h⟩)) (fun _ w' h => h.2) (fun _ w3 h3 => ?_)
    simp only [List.setIfInBounds_toArray, List.set_cons_succ, List.set_cons_zero]
    refine takeD (i := 12) (d := 101) (v := .bool true) (fuel := 1) rfl rfl (by kernel_rfl) (by kernel_rfl) (by kernel_rfl) (fun _ _ _ h => by cases h.1) (.inl ⟨by kernel_rfl, fun _ _ => by go_simp⟩) h3.2 ?_
    simp only [List.setIfInBounds_toArray, List.set_cons_succ, List.set_cons_zero]
    refine takeD (i := 13) (d := 6) (v := .bool true) (fuel := 0) rfl rfl (by kernel_rfl) (by kernel_rfl) (by kernel_rfl) (fun _ _ _ h => by cases h.1) (.inl ⟨by kernel_rfl, fun _ _ => by go_simp⟩) h3.2 ?_
    simp only [List.setIfInBounds_toArray, List.set_cons_succ, List.set_cons_zero]
    refine wpAnyH_done (by kernel_rfl) ?_ _
    exact ⟨rfl, (), by kernel_rfl, h3.1⟩
  · rintro _ w3 ⟨hp3, hb3⟩
    have HP3 : Hid _ := hp3
    have HB3 : Hid _ := hb3
    simp only [setAll, List.setIfInBounds_toArray, List.set_cons_succ, List.set_cons_zero]
    clear hp3 hb3 HD HR HA
    go_wp2_with fail
    go_ret
    exact ⟨rfl, HP3.out, (HB1.out.mono hN).trans HB3.out⟩
end Go.Proofs.Ytfhmmiilenonkaa
