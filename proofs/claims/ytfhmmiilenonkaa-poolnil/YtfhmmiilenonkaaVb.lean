/- The laws' step: Take. -/
import Derived.Test.YtfhmmiilenonkaaVa
namespace Go.Proofs.Ytfhmmiilenonkaa
open Go.RowKit Go.Shelf
set_option maxRecDepth 1000000
set_option linter.unusedVariables false

variable {N : Nat} {F S : Nat → Prop} {w w' : World} {p r b1 b2 b3 n : Nat} {s : Pq.St Jb} {rs hs fs : Array Value}

/-- A call, as a value. -/
structure Ac where
  k : Int
  v : Int
  n : Int
  e : Jb
def AV (x : Ac) (sv : Value) : Value := .agg #[.int .i64 x.k, .int .i64 x.v, .int .i64 x.n, .int .i64 x.e.i, .bool x.e.u, .int .i64 x.e.t, .bool x.e.b, .int .i64 x.e.k, sv]
def acs (x : Ac) (sv : Value) : Array Value := #[.int .i64 x.k, .int .i64 x.v, .int .i64 x.n, .int .i64 x.e.i, .bool x.e.u, .int .i64 x.e.t, .bool x.e.b, .int .i64 x.e.k, sv]

/-- What a call makes of a pool. -/
def stepP (n : Nat) (s : Pq.St Jb) (x : Ac) : Pq.St Jb :=
  if x.k = 1 then (takeC s n x.v x.n).1 else if x.k = 2 then (putC s n x.v x.e).2 else if x.k = 3 then (doneC s n x.v).2 else if x.k = 4 then dropS ⟨x.e.i, x.e.u, x.e.t⟩ s else (pushC s n x.v x.e).2
def okA (x : Ac) : Prop := x.e.s.length ≤ 100 ∧ -9223372036854775808 ≤ x.n ∧ x.n ≤ 9223372036854775807
theorem PInv.step (h : PInv s) {x : Ac} (hx : okA x) (n : Nat) : PInv (stepP n s x) := by
  have he : x.e.s.length ≤ 1000 := Nat.le_trans hx.1 (by omega)
  unfold stepP
  split
  · exact h.takeC _ _ _
  · split
    · exact h.putC _ _ he
    · split
      · exact h.doneC _ _
      · split
        · exact h.dropS _
        · exact h.pushC _ _ he

/-- What may be read of the document's pool. -/
def SF (N : Nat) (F : Nat → Prop) (r b1 b2 b3 : Nat) : Nat → Prop := fun k => (k < N ∨ F k) ∧ k ≠ r ∧ k ≠ b1 ∧ k ≠ b2 ∧ k ≠ b3

/-- Both pools, opened, one block guarded more. -/
structure PO (N : Nat) (F : Nat → Prop) (w : World) (p r b1 b2 b3 n : Nat) (s : Pq.St Jb) (rs hs fs : Array Value) : Prop where
  l : LP N F w p n s
  d : RV (SF N F r b1 b2 b3) w r b1 b2 b3 n s rs hs fs
  f0 : F r
  f1 : F b1
  f2 : F b2
  f3 : F b3
  n1 : N ≤ b1
  n2 : N ≤ b2
  n3 : N ≤ b3
  n0 : N ≤ r
  inv : PInv s
theorem PB.open (h : PB N w p r n s) (o : Obj) : ∃ F b1 b2 b3 rs hs fs, PO N F (w.alloc o) p r b1 b2 b3 n s rs hs fs ∧ F w.heap.size ∧ r < w.heap.size ∧ b1 < w.heap.size ∧ b2 < w.heap.size ∧ b3 < w.heap.size ∧ p < w.heap.size ∧ N ≤ w.heap.size := by
  obtain ⟨⟨F, b1, b2, b3, rs, hs, fs, hl, hr, f0, f1, f2, f3, n1, n2, n3, n0⟩, hi⟩ := h
  have l0 := hl.fl r f0
  have l1 := hl.fl b1 f1
  have l2 := hl.fl b2 f2
  have l3 := hl.fl b3 f3
  refine ⟨fun k => F k ∨ (w.heap.size ≤ k ∧ k < (w.alloc o).heap.size), b1, b2, b3, rs, hs, fs, ⟨hl.guard (bl1 w o), (hr.mono (fun k _ hk => ⟨hk.1.imp id .inl, hk.2⟩) (fun k hk => ?_)).later (bl1 w o), .inl f0, .inl f1, .inl f2, .inl f3, n1, n2, n3, n0, hi⟩, .inr ⟨Nat.le_refl _, by simp⟩, l0, l1, l2, l3, hl.lt, hl.le⟩
  rcases hk.1 with h | h | h
  · exact .inl ⟨.inl h, hk.2⟩
  · exact .inl ⟨.inr h, hk.2⟩
  · exact .inr h.1
theorem RV.kept1 (h : RV (SF N F r b1 b2 b3) w r b1 b2 b3 n s rs hs fs) (hk : Kp (Mv N F) w w') (f0 : F r) (f1 : F b1) (f2 : F b2) (f3 : F b3) : RV (SF N F r b1 b2 b3) w' r b1 b2 b3 n s rs hs fs :=
  h.kept hk (fun k hk hm => hk.1.elim (fun h => by have := hm.1; omega) hm.2) (fun h => h.2 f0) (fun h => h.2 f1) (fun h => h.2 f2) (fun h => h.2 f3)
theorem RV.more (h : ∃ rs hs fs, RV S w r b1 b2 b3 n s rs hs fs) {k0 : Nat} (hk : r < k0 ∧ b1 < k0 ∧ b2 < k0 ∧ b3 < k0) : ∃ rs hs fs, RV (fun k => S k ∨ k0 ≤ k) w r b1 b2 b3 n s rs hs fs := by
  obtain ⟨rs, hs, fs, h⟩ := h
  exact ⟨rs, hs, fs, { h with row := h.row.mono (fun k _ hk => .inl hk), hold := h.hold.mono (fun k _ hk => .inl hk), nr := fun hh => hh.elim h.nr (by omega), n1 := fun hh => hh.elim h.n1 (by omega), n2 := fun hh => hh.elim h.n2 (by omega), n3 := fun hh => hh.elim h.n3 (by omega) }⟩
theorem PB.later (h : PB N w p r n s) (hb : Below w.heap.size w w') : PB N w' p r n s := by
  obtain ⟨⟨F, b1, b2, b3, rs, hs, fs, hl, hr, f0, f1, f2, f3, n1, n2, n3, n0⟩, hi⟩ := h
  exact ⟨⟨F, b1, b2, b3, rs, hs, fs, hl.later hb, hr.later hb, f0, f1, f2, f3, n1, n2, n3, n0⟩, hi⟩
theorem PB.le (h : PB N w p r n s) : N ≤ w.heap.size := by
  obtain ⟨⟨F, b1, b2, b3, rs, hs, fs, hl, hr, f0, f1, f2, f3, n1, n2, n3, n0⟩, hi⟩ := h
  exact hl.le

/-- What a step tells. -/
def StC (N : Nat) (w : World) (p r n : Nat) (s' : Pq.St Jb) (e : Ending) (w' : World) : Prop := e = .returned (.bool true) ∧ PB N w' p r n s' ∧ Below N w w'

set_option maxHeartbeats 8000000 in
theorem step_take {x : Ac} {sv : Value} (h : PB N w p r n s) (hk : x.k = 1) (hx : okA x) (hsv : ∃ a n c, sv = .slice a n c) :
    Calls Try.prog 11 #[.pointer (some ⟨p, 0, none⟩), .pointer (some ⟨r, 0, none⟩), AV x sv] w fun e w' => StC N w p r n (stepP n s x) e w' := by
  obtain ⟨sa, sn, sc, rfl⟩ := hsv
  have hst : stepP n s x = (takeC s n x.v x.n).1 := by unfold stepP; rw [if_pos hk]
  obtain ⟨F, b1, b2, b3, rs, hs, fs, hO, hFw, l0, l1, l2, l3, lp, hN⟩ := h.open (.cells (acs x (.slice sa sn sc)) 39)
  have HO : Hid _ := hO
  have HB1 : Hid _ := bl1 w (.cells (acs x (.slice sa sn sc)) 39)
  have R1 : Hid _ := row_new w (acs x (.slice sa sn sc)) 39
  have HT : Hid _ := take_all x.v x.n hO.l hO.inv hx.2
  have hi' := hO.inv.takeC n x.v x.n
  have htl : (takeC s n x.v x.n).2.1.s.length ≤ 1000000 := by
    have h1 := hO.inv
    unfold takeC
    split
    · split
      · rename_i j u hju
        have h2 := hO.l.ok
        cases hq : takeQ s x.v.toNat (Pq.circ n (frm x.n n)) with
        | none =>
          have hin : inW n x.v = true := by assumption
          obtain ⟨u', hu', hu2⟩ := inW_yes hin
          have h3 := take_of h2 (v := x.v.toNat) (by omega) (frm x.n n)
          rw [hq] at h3
          rw [h3] at hju
          cases hju
        | some q =>
          have hin : inW n x.v = true := by assumption
          obtain ⟨u', hu', hu2⟩ := inW_yes hin
          have h3 := take_of h2 (v := x.v.toNat) (by omega) (frm x.n n)
          rw [hq] at h3
          rw [h3] at hju
          unfold takeQ at hq
          cases hy : nextP s x.v.toNat (Pq.circ n (frm x.n n)) with
          | none => rw [hy] at hq; cases hq
          | some y =>
            rw [hy] at hq
            cases hq
            cases hju
            exact Nat.le_trans (nextP_few h1 hy) (by omega)
      · simp [zJ]
    · simp [zJ]
  rw [hst]
  have HI' : Hid _ := hi'
  have HTL : Hid _ := htl
  have HX : Hid _ := hx
  obtain ⟨xk, xv, xn, ⟨ei, eu, et, eb, ek, es⟩⟩ := x
  dsimp only at hk
  subst hk
  unfold AV
  unfold acs at HB1 HO HT R1
  dsimp only at *
  obtain ⟨⟨s', ⟨tj, tu, tc⟩⟩, htk⟩ : ∃ q, takeC s n xv xn = q := ⟨_, rfl⟩
  have HTK : Hid _ := htk
  rw [htk] at HT HI' HTL ⊢
  dsimp only at HT HI' HTL ⊢
  clear h hst hO hi' htl hx htk
  go_enter Try.func11, Try.ntmps11
  go_wp2_with fail
  refine Calls.mono HT.out ?_
  rintro e w2 ⟨svj, rfl, q1, q2, q3⟩
  obtain ⟨ja, jc, hsvj, _⟩ := q1.1
  subst hsvj
  have R2 : Hid _ := q3.row R1.out (fun hh => hh.2 hFw)
  have HD2 : Hid _ := HO.out.d.kept1 q3 HO.out.f0 HO.out.f1 HO.out.f2 HO.out.f3
  have HBx : Hid _ := bl1 w2 (.cells (jrow (tj, .slice ja tj.s.length jc)).toArray 37)
  have HRT : Hid _ := rtake_all xv xn (HD2.out.later HBx.out) HO.out.inv HX.out.2
  rw [HTK.out] at HRT
  dsimp only at HRT
  have HL3 : Hid _ := q2.later HBx.out
  have HK2 : Hid _ := q3
  have HQ1 : Hid (RS (fun k => k ≠ p ∧ ¬ F k) w2 (.slice ja tj.s.length jc) tj.s) := q1
  have RJ3 : Hid _ := row_new w2 (jrow (tj, .slice ja tj.s.length jc)).toArray 37
  have hw2 : w.heap.size < w2.heap.size := row_lt R2.out
  have k0 : w2.cell? ⟨w.heap.size, 1, none⟩ = some (.int .i64 xv) := (cell_row R2.out 1).trans rfl
  have k1 : w2.cell? ⟨w.heap.size, 2, none⟩ = some (.int .i64 xn) := (cell_row R2.out 2).trans rfl
  obtain ⟨ml, hml⟩ : ∃ m, tj.s.length = m := ⟨_, rfl⟩
  have HML : Hid _ := hml
  obtain ⟨ti, tuu, tt, tb, tk, ts⟩ := tj
  unfold JV at *
  dsimp only at *
  rw [hml] at HBx HRT HL3 RJ3 ⊢
  clear q1 q2 q3 HT hml
  go_wp2_with fail
  refine Calls.mono HRT.out ?_
  rintro e w4 ⟨svk, rfl, y1, y2, y3⟩
  obtain ⟨ka, kc, hsvk, _⟩ := y1.1
  subst hsvk
  rw [HML.out]
  have hw4 := y3.size
  have hBx := HBx.out.size
  have r4 := y3.row RJ3.out (by omega)
  obtain ⟨d0, d1, d2, d3, d4, d5⟩ := JC.of_row (e := ⟨ti, tuu, tt, tb, tk, ts⟩) (v := .slice ja ml jc) r4
  simp only [Nat.zero_add] at d0 d1 d2 d3 d4 d5
  have hlt4 := row_lt r4
  have hrs4 : RI w4 (.slice ja ml jc) ts := by
    have h5 : RI (w2.alloc (.cells (jrow (⟨ti, tuu, tt, tb, tk, ts⟩, .slice ja ml jc)).toArray 37)) (.slice ja ml jc) ts := by
      have := HQ1.out.1.later HBx.out
      rw [HML.out] at this
      exact this
    refine h5.kept y3 (fun h0 a nn c he hh => ?_)
    have h6 := (HQ1.out.2 h0 a nn c (by rw [HML.out]; exact he)).2
    rcases hh with hh | hh | hh
    · exact h6 (hh ▸ HO.out.f1)
    · exact h6 (hh ▸ HO.out.f2)
    · exact h6 (hh ▸ HO.out.f3)
  have HB4 : Hid _ := bl1 w4 (.cells #[.int .i64 ti, .bool tuu, .int .i64 tt, .bool tb, .int .i64 tk, .slice ka ml kc] 37)
  have y1' : RI w4 (.slice ka ml kc) ts := by have := y1.1; rw [HML.out] at this; exact this
  have HSM : Hid _ := same_job ⟨ti, tuu, tt, tb, tk, ts⟩ ⟨ti, tuu, tt, tb, tk, ts⟩ (.slice ja ml jc) (.slice ka ml kc) _ (hrs4.later HB4.out) (y1'.later HB4.out) HTL.out HTL.out
  rw [decide_eq_true rfl] at HSM
  unfold JV at HSM
  dsimp only at HSM
  have HPB : Hid (PB N w4 p r n s') := PB.close HL3.out (RV.more y2 (by rw [World.size_alloc]; omega)) y3 HO.out.f0 HO.out.f1 HO.out.f2 HO.out.f3 HO.out.n1 HO.out.n2 HO.out.n3 HO.out.n0 HI'.out
  have hN1 : N ≤ (w.alloc (.cells #[.int .i64 1, .int .i64 xv, .int .i64 xn, .int .i64 ei, .bool eu, .int .i64 et, .bool eb, .int .i64 ek, .slice sa sn sc] 39)).heap.size := Nat.le_trans hN HB1.out.size
  have HBw : Hid (Below N w w4) := by
    have e1 := HB1.out.mono hN
    have e2 := e1.trans (Mv.below HK2.out hN1)
    have e3 := e2.trans (HBx.out.mono (Nat.le_trans hN e2.size))
    exact e3.trans (y3.below (Nat.le_trans hN e3.size) (fun k hk => by have := HO.out.n1; have := HO.out.n2; have := HO.out.n3; omega))
  clear y1 y2 y3 y1' r4 HRT hrs4 k0 k1
  go_wp2_with fail
  refine Calls.mono HSM.out ?_
  rintro e w6 ⟨rfl, hb6⟩
  have HB6 : Hid _ := HB4.out.trans (hb6.mono HB4.out.size)
  clear hb6 HSM
  go_wp2_with fail
  go_ret
  exact ⟨rfl, HPB.out.later HB6.out, HBw.out.trans (HB6.out.mono (HPB.out.le))⟩
end Go.Proofs.Ytfhmmiilenonkaa
