/- The laws' step: Done. -/
import Derived.Test.YtfhmmiilenonkaaVb
namespace Go.Proofs.Ytfhmmiilenonkaa
open Go.RowKit Go.Shelf
set_option maxRecDepth 1000000
set_option linter.unusedVariables false

variable {N : Nat} {F S : Nat → Prop} {w w' : World} {p r b1 b2 b3 n : Nat} {s : Pq.St Jb} {rs hs fs : Array Value}

theorem oneX {P : Program} {ops : Array Oper} {Q : Exit → Act → World → Prop} {md : Region.Mode} {S : World → Prop} {i : Nat} {o : Oper} {d : Tmp} {f : FuncId} {args : Array Value} {β : Type} {V : β → Value} {fuel : Nat} {listed : Array Bool} {a : Act} {w : World} {R : β → World → Prop}
    (hi : ops[i]? = some o) (hd : o.dst = some d) (hr : Region.ready md ops listed = [i]) (hw : Region.wanted o (yielded ops a.tmps) = true) (hrun : ∀ wx, (execOp a.eval o).run P wx = .ok (.enter f args) wx)
    (hc : Calls P f args w fun e w' => ∃ z, e = .returned (V z) ∧ R z w') (hRS : ∀ z w', R z w' → S w')
    (h : ∀ z w', R z w' → wpAnyH P md ops Q S fuel (listed.setIfInBounds i true) { tmps := a.tmps.setIfInBounds d (V z), defers := a.defers } w') : wpAnyH P md ops Q S (fuel + 1) listed a w := by
  refine wpAnyH_all hr (by simp) (List.forall_mem_singleton.2 ?_)
  refine wpOp_calls hi hd hw (hrun w) _ hc ?_ (fun _ _ h => by obtain ⟨_, h1, _⟩ := h; cases h1) (fun _ h => by obtain ⟨_, h1, _⟩ := h; cases h1)
  rintro v' w'' ⟨z, h1, h2⟩
  cases h1
  exact ⟨hRS z w'' h2, h z w'' h2⟩

/-- The second call, behind the first. -/
structure Mid (N : Nat) (F : Nat → Prop) (w1 w2 : World) (p r b1 b2 b3 n : Nat) (s s' : Pq.St Jb) (rs hs fs : Array Value) : Prop where
  l : LP N F w2 p n s'
  d : RV (SF N F r b1 b2 b3) w2 r b1 b2 b3 n s rs hs fs
  k : Kp (Mv N F) w1 w2
theorem PO.mid {w1 w2 : World} {s' : Pq.St Jb} (h : PO N F w1 p r b1 b2 b3 n s rs hs fs) (hl : LP N F w2 p n s') (hk : Kp (Mv N F) w1 w2) : Mid N F w1 w2 p r b1 b2 b3 n s s' rs hs fs :=
  ⟨hl, h.d.kept1 hk h.f0 h.f1 h.f2 h.f3, hk⟩
theorem PO.fin {w1 w2 w3 : World} {s' : Pq.St Jb} (h : PO N F w1 p r b1 b2 b3 n s rs hs fs) (hm : Mid N F w1 w2 p r b1 b2 b3 n s s' rs hs fs) (hr : ∃ rs hs fs, RV (SF N F r b1 b2 b3) w3 r b1 b2 b3 n s' rs hs fs) (hk : Kp (fun k => k = b1 ∨ k = b2 ∨ k = b3) w2 w3) (hi : PInv s') : PB N w3 p r n s' ∧ Below N w1 w3 := by
  have l0 := hm.l.fl r h.f0
  have l1 := hm.l.fl b1 h.f1
  have l2 := hm.l.fl b2 h.f2
  have l3 := hm.l.fl b3 h.f3
  refine ⟨PB.close hm.l (RV.more hr ⟨l0, l1, l2, l3⟩) hk h.f0 h.f1 h.f2 h.f3 h.n1 h.n2 h.n3 h.n0 hi, ?_⟩
  exact (Mv.below hm.k h.l.le).trans (hk.below hm.l.le (fun k hk => by have := h.n1; have := h.n2; have := h.n3; omega))
theorem PO.fin2 {w1 w2 w3 : World} {s' : Pq.St Jb} (h : PO N F w1 p r b1 b2 b3 n s rs hs fs) (hm : Mid N F w1 w2 p r b1 b2 b3 n s s' rs hs fs) (hr : ∃ rs hs fs, RV (fun k => SF N F r b1 b2 b3 k ∨ w2.heap.size ≤ k) w3 r b1 b2 b3 n s' rs hs fs) (hk : Kp (fun k => k = b1 ∨ k = b2 ∨ k = b3) w2 w3) (hi : PInv s') : PB N w3 p r n s' ∧ Below N w1 w3 := by
  refine ⟨PB.close hm.l hr hk h.f0 h.f1 h.f2 h.f3 h.n1 h.n2 h.n3 h.n0 hi, ?_⟩
  exact (Mv.below hm.k h.l.le).trans (hk.below hm.l.le (fun k hk => by have := h.n1; have := h.n2; have := h.n3; omega))

set_option maxHeartbeats 8000000 in
theorem step_done {x : Ac} {sv : Value} (h : PB N w p r n s) (hk : x.k = 3) (hx : okA x) (hsv : ∃ a n c, sv = .slice a n c) :
    Calls Try.prog 11 #[.pointer (some ⟨p, 0, none⟩), .pointer (some ⟨r, 0, none⟩), AV x sv] w fun e w' => StC N w p r n (stepP n s x) e w' := by
  obtain ⟨sa, sn, sc, rfl⟩ := hsv
  have hst : stepP n s x = (doneC s n x.v).2 := by unfold stepP; rw [hk]; rfl
  obtain ⟨F, b1, b2, b3, rs, hs, fs, hO, hFw, l0, l1, l2, l3, lp, hN⟩ := h.open (.cells (acs x (.slice sa sn sc)) 39)
  have HO : Hid _ := hO
  have HB1 : Hid _ := bl1 w (.cells (acs x (.slice sa sn sc)) 39)
  have HIn : Hid _ := hO.inv.doneC n x.v
  rw [hst]
  obtain ⟨xk, xv, xn, ⟨ei, eu, et, eb, ek, es⟩⟩ := x
  dsimp only at hk
  subst hk
  unfold AV
  unfold acs at HB1 HO
  dsimp only at *
  obtain ⟨w1, hw1⟩ : ∃ w1, w.alloc (.cells #[.int .i64 3, .int .i64 xv, .int .i64 xn, .int .i64 ei, .bool eu, .int .i64 et, .bool eb, .int .i64 ek, .slice sa sn sc] 39) = w1 := ⟨_, rfl⟩
  have R1 : Hid (w1.heap[w.heap.size]? = some (.cells #[.int .i64 3, .int .i64 xv, .int .i64 xn, .int .i64 ei, .bool eu, .int .i64 et, .bool eb, .int .i64 ek, .slice sa sn sc] 39 (0, 0))) := by rw [← hw1]; exact row_new w _ 39
  have HW1 : Hid _ := hw1
  rw [hw1] at HO HB1
  obtain ⟨⟨dc, s'⟩, hdc⟩ : ∃ q, doneC s n xv = q := ⟨_, rfl⟩
  have HD : Hid (∀ wx, Below w1.heap.size w1 wx → Calls Try.prog 18 #[.pointer (some ⟨p, 0, none⟩), .int .i64 xv] wx fun e w' => e = .returned (.int .i64 dc) ∧ Mid N F w1 w' p r b1 b2 b3 n s s' rs hs fs) := fun wx hb => by
    refine Calls.mono (done_all xv (HO.out.l.later hb)) ?_
    rw [hdc]
    rintro e w' ⟨rfl, q1, q2⟩
    exact ⟨rfl, HO.out.mid q1 ((Kp.of_below _ hb).trans q2 (fun _ h _ => h))⟩
  have HR : Hid (∀ wx, Mid N F w1 wx p r b1 b2 b3 n s s' rs hs fs → Calls Try.prog 28 #[.pointer (some ⟨r, 0, none⟩), .int .i64 xv] wx fun e w' => e = .returned (.int .i64 dc) ∧ PB N w' p r n s' ∧ Below N w1 w') := fun wx hm => by
    refine Calls.mono (rdone_all xv hm.d) ?_
    rw [hdc]
    rintro e w' ⟨rfl, q1, q2⟩
    have hI : PInv s' := by have := HIn.out; rw [hdc] at this; exact this
    exact ⟨rfl, HO.out.fin hm q1 q2 hI⟩
  have HA : Hid (∀ wx, Mid N F w1 wx p r b1 b2 b3 n s s' rs hs fs → wx.heap[w.heap.size]? = some (.cells #[.int .i64 3, .int .i64 xv, .int .i64 xn, .int .i64 ei, .bool eu, .int .i64 et, .bool eb, .int .i64 ek, .slice sa sn sc] 39 (0, 0))) := fun wx hm => hm.k.row R1.out (fun hh => hh.2 hFw)
  rw [hdc]
  dsimp only
  clear h hst hO hx hdc hw1 hFw
  go_enter Try.func11, Try.ntmps11
  go_wp2_with fail
  rw [HW1.out]
  have k0 : w1.cell? ⟨w.heap.size, 1, none⟩ = some (.int .i64 xv) := (cell_row R1.out 1).trans rfl
  go_region_with (first
    | (go_at_call 18; refine Calls.mono (HD.out _ (Below.refl _ w1).drew) ?_; rintro e w2 ⟨rfl, hm⟩; have HM : Hid _ := hm; have k1 : w2.cell? ⟨w.heap.size, 1, none⟩ = some (.int .i64 xv) := (cell_row (HA.out _ hm) 1).trans rfl; clear hm)
    | (go_at_call 28; refine Calls.mono (HR.out _ HM.out) ?_; rintro e w3 ⟨rfl, hp3, hb3⟩; have HP3 : Hid _ := hp3; have HB3 : Hid _ := hb3; clear hp3 hb3))
  all_goals
    simp only [Act.put, List.getElem_toArray, List.getElem_cons_succ, List.getElem_cons_zero, List.setIfInBounds_toArray, List.set_cons_succ, List.set_cons_zero]
    go_wp2_with fail
    go_ret
    exact ⟨rfl, HP3.out, (HB1.out.mono hN).trans HB3.out⟩
end Go.Proofs.Ytfhmmiilenonkaa
