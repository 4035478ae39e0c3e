/- The laws' step: Drop. -/
import Derived.Test.YtfhmmiilenonkaaVc
namespace Go.Proofs.Ytfhmmiilenonkaa
open Go.RowKit Go.Shelf
set_option maxRecDepth 1000000
set_option linter.unusedVariables false

variable {N : Nat} {F S : Nat → Prop} {w w' : World} {p r b1 b2 b3 n : Nat} {s : Pq.St Jb} {rs hs fs : Array Value}

set_option maxHeartbeats 8000000 in
theorem step_drop {x : Ac} {sv : Value} (h : PB N w p r n s) (hk : x.k = 4) (hx : okA x) (hsv : ∃ a n c, sv = .slice a n c) :
    Calls Try.prog 11 #[.pointer (some ⟨p, 0, none⟩), .pointer (some ⟨r, 0, none⟩), AV x sv] w fun e w' => StC N w p r n (stepP n s x) e w' := by
  obtain ⟨sa, sn, sc, rfl⟩ := hsv
  have hst : stepP n s x = dropS ⟨x.e.i, x.e.u, x.e.t⟩ s := by unfold stepP; rw [hk]; rfl
  obtain ⟨F, b1, b2, b3, rs, hs, fs, hO, hFw, l0, l1, l2, l3, lp, hN⟩ := h.open (.cells (acs x (.slice sa sn sc)) 39)
  have HO : Hid _ := hO
  have HB1 : Hid _ := bl1 w (.cells (acs x (.slice sa sn sc)) 39)
  have HIn : Hid _ := hO.inv.dropS ⟨x.e.i, x.e.u, x.e.t⟩
  rw [hst]
  obtain ⟨xk, xv, xn, ⟨ei, eu, et, eb, ek, es⟩⟩ := x
  dsimp only at hk
  subst hk
  unfold AV
  unfold acs at HB1 HO
  dsimp only at *
  obtain ⟨w1, hw1⟩ : ∃ w1, w.alloc (.cells #[.int .i64 4, .int .i64 xv, .int .i64 xn, .int .i64 ei, .bool eu, .int .i64 et, .bool eb, .int .i64 ek, .slice sa sn sc] 39) = w1 := ⟨_, rfl⟩
  have R1 : Hid (w1.heap[w.heap.size]? = some (.cells #[.int .i64 4, .int .i64 xv, .int .i64 xn, .int .i64 ei, .bool eu, .int .i64 et, .bool eb, .int .i64 ek, .slice sa sn sc] 39 (0, 0))) := by rw [← hw1]; exact row_new w _ 39
  have HW1 : Hid _ := hw1
  rw [hw1] at HO HB1
  obtain ⟨dc, hdc0⟩ : ∃ q, dropN ⟨ei, eu, et⟩ s n = q := ⟨_, rfl⟩
  obtain ⟨s', hdc⟩ : ∃ q, dropS ⟨ei, eu, et⟩ s = q := ⟨_, rfl⟩
  have HD : Hid (∀ wx, Below w1.heap.size w1 wx → Calls Try.prog 22 #[.pointer (some ⟨p, 0, none⟩), .agg #[.int .i64 ei, .bool eu, .int .i64 et]] wx fun e w' => e = .returned (.int .i64 dc) ∧ Mid N F w1 w' p r b1 b2 b3 n s s' rs hs fs) := fun wx hb => by
    refine Calls.mono (drop_w ⟨ei, eu, et⟩ (HO.out.l.later hb) HO.out.inv) ?_
    rw [hdc, hdc0]
    rintro e w' ⟨rfl, q1, q2⟩
    exact ⟨rfl, HO.out.mid q1 ((Kp.of_below _ hb).trans q2 (fun _ h _ => h))⟩
  have HR : Hid (∀ wx, Mid N F w1 wx p r b1 b2 b3 n s s' rs hs fs → Calls Try.prog 29 #[.pointer (some ⟨r, 0, none⟩), .agg #[.int .i64 ei, .bool eu, .int .i64 et]] wx fun e w' => e = .returned (.int .i64 dc) ∧ PB N w' p r n s' ∧ Below N w1 w') := fun wx hm => by
    refine Calls.mono (rdrop_w ⟨ei, eu, et⟩ hm.d HO.out.inv) ?_
    rw [hdc, hdc0]
    rintro e w' ⟨rfl, ⟨rs', q1⟩, q2⟩
    have hI : PInv s' := by have := HIn.out; rw [hdc] at this; exact this
    exact ⟨rfl, HO.out.fin2 hm ⟨_, _, _, q1⟩ (q2.mono (fun k hk => .inl hk)) hI⟩
  have HA : Hid (∀ wx, Mid N F w1 wx p r b1 b2 b3 n s s' rs hs fs → wx.heap[w.heap.size]? = some (.cells #[.int .i64 4, .int .i64 xv, .int .i64 xn, .int .i64 ei, .bool eu, .int .i64 et, .bool eb, .int .i64 ek, .slice sa sn sc] 39 (0, 0))) := fun wx hm => hm.k.row R1.out (fun hh => hh.2 hFw)
  rw [hdc]
  clear h hst hO hx hdc hdc0 hw1 hFw
  go_enter Try.func11, Try.ntmps11
  go_wp2_with fail
  rw [HW1.out]
  have k3 : w1.cell? ⟨w.heap.size, 3, none⟩ = some (.int .i64 ei) := (cell_row (R1.out) 3).trans rfl
  have k4 : w1.cell? ⟨w.heap.size, 4, none⟩ = some (.bool eu) := (cell_row (R1.out) 4).trans rfl
  have k5 : w1.cell? ⟨w.heap.size, 5, none⟩ = some (.int .i64 et) := (cell_row (R1.out) 5).trans rfl
  go_region_with (first
    | (go_at_call 22; refine Calls.mono (HD.out _ (Below.refl _ w1).drew) ?_; rintro e w2 ⟨rfl, hm⟩; have HM : Hid _ := hm; have l3 : w2.cell? ⟨w.heap.size, 3, none⟩ = some (.int .i64 ei) := (cell_row (HA.out _ hm) 3).trans rfl; have l4 : w2.cell? ⟨w.heap.size, 4, none⟩ = some (.bool eu) := (cell_row (HA.out _ hm) 4).trans rfl; have l5 : w2.cell? ⟨w.heap.size, 5, none⟩ = some (.int .i64 et) := (cell_row (HA.out _ hm) 5).trans rfl; clear hm)
    | (go_at_call 29; refine Calls.mono (HR.out _ HM.out) ?_; rintro e w3 ⟨rfl, hp3, hb3⟩; have HP3 : Hid _ := hp3; have HB3 : Hid _ := hb3; clear hp3 hb3))
  all_goals
    simp only [Act.put, List.getElem_toArray, List.getElem_cons_succ, List.getElem_cons_zero, List.setIfInBounds_toArray, List.set_cons_succ, List.set_cons_zero]
    go_wp2_with fail
    go_ret
    exact ⟨rfl, HP3.out, (HB1.out.mono hN).trans HB3.out⟩
end Go.Proofs.Ytfhmmiilenonkaa
