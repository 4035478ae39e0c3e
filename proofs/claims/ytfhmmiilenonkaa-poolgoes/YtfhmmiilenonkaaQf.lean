/- New. -/
import Derived.Test.YtfhmmiilenonkaaQe
namespace Go.Proofs.Ytfhmmiilenonkaa
open Go.RowKit Go.Shelf
set_option maxRecDepth 1000000
set_option linter.unusedVariables false

variable {w w' : World} {p n : Nat}

/-- A pool without jobs. -/
def st0 (n : Nat) : Pq.St Jb := ⟨List.replicate n [], List.replicate n none⟩
theorem st0_ok (n : Nat) : (st0 n).Ok n := ⟨by simp [st0], by simp [st0]⟩
theorem st0_row (n v : Nat) : (st0 n).row v = [] := by
  unfold Pq.St.row st0
  rw [List.getD_eq_getElem?_getD, List.getElem?_replicate]
  split <;> rfl
theorem st0_hd (n v : Nat) : (st0 n).hd v = none := by
  unfold Pq.St.hd st0
  rw [List.getD_eq_getElem?_getD, List.getElem?_replicate]
  split <;> rfl
theorem PInv.st0 (n : Nat) : PInv (Go.Proofs.Ytfhmmiilenonkaa.st0 n) := ⟨fun v => by rw [st0_row]; exact ⟨by simp, by simp⟩, fun v j h => by rw [st0_hd] at h; cases h⟩

/-- What New knows once k workers have a deque. -/
structure NewS (w : World) (p n : Nat) (k : Nat) (V : World) (TB : Nat → Prop) : Prop where
  bel : Below w.heap.size w V
  own : ∀ b, TB b → w.heap.size ≤ b
  wp : w.heap.size ≤ p
  np : ¬ TB p
  ex : ∃ (cs : Array Value) (q : Nat → Nat), V.heap[p]? = some (.cells cs 59 (0, 0)) ∧ cs.size = 129 ∧ cs[0]? = some (.int .i64 (n : Int)) ∧ (∀ v, v < n → cs[1 + v * 2 + 1]? = some (.pointer none)) ∧
    (∀ v, v < k → cs[1 + v * 2]? = some (.pointer (some ⟨q v, 0, none⟩)) ∧ DQ (fun b => b = q v) V (q v) [] ∧ w.heap.size ≤ q v ∧ q v ≠ p ∧ ¬ TB (q v)) ∧ ∀ u v, u < k → v < k → q u = q v → u = v

theorem NewS.mv {k : Nat} {V V' : World} {TB TB' : Nat → Prop} (h : NewS w p n k V TB) (hm : Rl.Mv TB V TB' V') : NewS w p n k V' TB' := by
  obtain ⟨h1, h2, h3, h4, cs, q, h5, h6, h7, h8, h9, h10⟩ := h
  have hk : Kp TB V V' := ⟨hm.os, hm.tape, hm.output, hm.size, hm.same⟩
  refine ⟨hm.below h1 (fun b hb ht => by have := h2 b ht; omega) h1.size, fun b hb => ?_, h3, hm.no (row_lt h5) h4, cs, q, hk.row h5 h4, h6, h7, h8, fun v hv => ?_, h10⟩
  · by_cases hlt : b < V.heap.size
    · exact h2 b ((hm.old b hlt).1 hb)
    · have := h1.size; omega
  · obtain ⟨g1, g2, g3, g4, g5⟩ := h9 v hv
    exact ⟨g1, g2.kept hk (fun b hb => by rw [hb]; exact g5), g3, g4, hm.no (g2.live _ rfl) g5⟩
/-- The next worker has one, too. -/
theorem NewS.next {k qb : Nat} {V V3 : World} {TB : Nat → Prop} (h : NewS w p n k V TB) (hup : ∀ b, TB b → b < V.heap.size) (hk : k < n) (hn : n ≤ 64) (hb : Below V.heap.size V V3) (hd : DQ (fun b => b = qb) V3 qb []) (hq : V.heap.size ≤ qb) :
    NewS w p n (k + 1) (V3.setCell ⟨p, 1 + k * 2, none⟩ (.pointer (some ⟨qb, 0, none⟩))) TB ∧ Rl.Rv 0 TB V (V3.setCell ⟨p, 1 + k * 2, none⟩ (.pointer (some ⟨qb, 0, none⟩))) := by
  obtain ⟨h1, h2, h3, h4, cs, q, h5, h6, h7, h8, h9, h10⟩ := h
  have hpl := row_lt h5
  have hws := h1.size
  have hkk : Kp (fun b => b = p) V (V3.setCell ⟨p, 1 + k * 2, none⟩ (.pointer (some ⟨qb, 0, none⟩))) := (Kp.of_below _ hb).set _ _ rfl
  have hk3 : Kp (fun b => b = p) V3 (V3.setCell ⟨p, 1 + k * 2, none⟩ (.pointer (some ⟨qb, 0, none⟩))) := (Kp.refl _ V3).set _ _ rfl
  refine ⟨⟨h1.trans (hkk.below hws (fun b hb => by omega)), h2, h3, h4, cs.setIfInBounds (1 + k * 2) (.pointer (some ⟨qb, 0, none⟩)), fun v => if v = k then qb else q v, row_set (row_later h5 hb) _ _, by simp [h6], by rw [Array.getElem?_setIfInBounds_ne (by omega)]; exact h7, fun v hv => by rw [Array.getElem?_setIfInBounds_ne (by omega)]; exact h8 v hv, fun v hv => ?_, fun u v hu hv he => ?_⟩, (Rl.Rv.of_below hb (Nat.zero_le _)).trans (Rl.Rv.setCell V3 _ (Nat.zero_le _) h4)⟩
  · by_cases e : v = k
    · subst e
      simp only [if_pos]
      exact ⟨by rw [Array.getElem?_setIfInBounds_self_of_lt (by omega)], hd.kept hk3 (fun b hb2 e => by omega), by omega, by omega, fun ht => by have := hup _ ht; omega⟩
    · simp only [if_neg e]
      obtain ⟨g1, g2, g3, g4, g5⟩ := h9 v (by omega)
      exact ⟨by rw [Array.getElem?_setIfInBounds_ne (by omega)]; exact g1, g2.kept hkk (fun b hb2 e => by omega), g3, g4, g5⟩
  · have lt : ∀ v, v < k → q v < V.heap.size := fun v hv => by obtain ⟨g1, g2, _⟩ := h9 v hv; exact g2.live _ rfl
    by_cases e1 : u = k
    · by_cases e2 : v = k
      · rw [e1, e2]
      · simp only [if_pos e1, if_neg e2] at he
        have := lt v (by omega)
        omega
    · by_cases e2 : v = k
      · simp only [if_neg e1, if_pos e2] at he
        have := lt u (by omega)
        omega
      · simp only [if_neg e1, if_neg e2] at he
        exact h10 u v (by omega) (by omega) he
theorem NewS.lp {V : World} {TB : Nat → Prop} (h : NewS w p n n V TB) (h0 : 0 < n) (h64 : n ≤ 64) : LP w.heap.size (fun _ => False) V p n (st0 n) := by
  obtain ⟨h1, h2, h3, h4, cs, q, h5, h6, h7, h8, h9, h10⟩ := h
  refine ⟨⟨fun v b => b = q v, cs, ⟨h5, h6, h7, h0, h64, st0_ok n, fun v hv => ⟨q v, (h9 v hv).1, by rw [st0_row]; exact (h9 v hv).2.1⟩, fun v hv => ⟨_, h8 v hv, by rw [st0_hd]; rfl⟩, fun v hv hh => (h9 v hv).2.2.2.1 hh.symm, fun u v k hu hv e1 e2 => h10 u v hu hv (e1.symm.trans e2), fun h => h, fun _ _ _ _ h => h⟩, h3, fun v k hv hk => by rw [hk]; exact (h9 v hv).2.2.1⟩, h1.size, fun _ h => h.elim⟩

/-- The cells of a new pool. -/
noncomputable def cs0 (n : Nat) : Array Value := Try.zeroCells59.setIfInBounds 0 (.int .i64 (n : Int))
theorem zc59 : Try.zeroCells59 = #[.int .i64 0] ++ Array.replicate 128 (.pointer none) := by kernel_rfl
theorem cs0_size (n : Nat) : (cs0 n).size = 129 := by unfold cs0; rw [zc59]; simp
theorem cs0_zero (n : Nat) : (cs0 n)[0]? = some (.int .i64 (n : Int)) := by unfold cs0; rw [zc59]; simp
theorem cs0_at (n i : Nat) (h : i < 128) : (cs0 n)[1 + i]? = some (.pointer none) := by
  unfold cs0
  rw [Array.getElem?_setIfInBounds_ne (by omega), zc59, Array.getElem?_append_right (by simp), Array.getElem?_replicate]
  simp [h]

attribute [local go_sem] Oper.semAt_some

set_option maxHeartbeats 8000000 in
theorem new_w (n : Nat) (h0 : 0 < n) (h64 : n ≤ 64) (w : World) :
    Calls Try.prog 9 #[.int .i64 (n : Int)] w fun e w' => ∃ p, e = .returned (.tuple #[.pointer (some ⟨p, 0, none⟩), .int .i64 0]) ∧ LP w.heap.size (fun _ => False) w' p n (st0 n) ∧ Below w.heap.size w w' := by
  have hd0 : decide ((n : Int) < 1) = false := decide_eq_false (by omega)
  have hd1 : decide ((64 : Int) < (n : Int)) = false := decide_eq_false (by omega)
  obtain ⟨R, HR⟩ : ∃ R : Ending → World → Prop, Hid (R = fun e w' => ∃ p, e = .returned (.tuple #[.pointer (some ⟨p, 0, none⟩), .int .i64 0]) ∧ LP w.heap.size (fun _ => False) w' p n (st0 n) ∧ Below w.heap.size w w') := ⟨_, rfl⟩
  rw [← HR.out]
  suffices key : CallsIn Fence.wide 0 Try.prog 9 #[.int .i64 (n : Int)] w R from callsIn_wide.1 key
  refine callsIn_of_wp_marks Try.func9 rfl trivial ?_ rfl
  simp only [Try.ntmps9, List.size_toArray, List.length_cons, List.length_nil, Nat.reduceAdd, Nat.reduceSub, Array.replicate_succ, Array.replicate_zero, List.push_toArray, List.append_toArray, List.nil_append, List.cons_append]
  gi_wp2
  obtain ⟨w1, hw1⟩ : ∃ w1, w.alloc (.cells (Try.zeroCells59.setIfInBounds 0 (.int .i64 (n : Int))) 59) = w1 := ⟨_, rfl⟩
  have hb1 : Below w.heap.size w w1 := by rw [← hw1]; exact bl1 _ _
  have hs1 : w1.heap.size = w.heap.size + 1 := by rw [← hw1]; simp
  have q1 : w1.heap[w.heap.size]? = some (.cells (cs0 n) 59 (0, 0)) := by rw [← hw1]; exact row_new w _ 59
  rw [hw1]
  clear hw1
  obtain ⟨w2, hw2⟩ : ∃ w2, (w1.alloc (.cells #[.pointer (some ⟨w.heap.size, 0, none⟩)] 25)).alloc (.cells #[.int .i64 0] 3) = w2 := ⟨_, rfl⟩
  have hb2 : Below w1.heap.size w1 w2 := by rw [← hw2]; exact bl2 _ _ _
  have hs2 : w2.heap.size = w.heap.size + 3 := by rw [← hw2]; simp; omega
  have q2 : Boxed w2 (w.heap.size + 1) 25 (.pointer (some ⟨w.heap.size, 0, none⟩)) := by rw [← hw2, ← hs1]; exact (Boxed.new w1 25 _).alloc _
  have q3 : Boxed w2 (w.heap.size + 1 + 1) 3 (.int .i64 0) := by
    have := Boxed.new (w1.alloc (.cells #[.pointer (some ⟨w.heap.size, 0, none⟩)] 25)) 3 (.int .i64 0)
    rw [World.size_alloc, hs1, hw2] at this
    exact this
  have hb02 : Below w.heap.size w w2 := hb1.trans (hb2.mono hb1.size)
  have HC : Hid _ := circle_any (.pointer (some ⟨w.heap.size, 0, none⟩)) (.inr ⟨_, rfl⟩) 0 w1
  rw [hw2, hs1] at HC
  have HITR : Hid _ := circle_itr w.heap.size n (w.heap.size + 1) (w.heap.size + 1 + 1) 0 h0 h64 (by omega) (fun b => b = w.heap.size + 1 ∨ b = w.heap.size + 1 + 1) w2 q2 q3 (.inl rfl) (.inr rfl) (fun b hb => by omega)
  have H0 : Hid (NewS w w.heap.size n 0 w2 (fun b => b = w.heap.size + 1 ∨ b = w.heap.size + 1 + 1)) :=
    ⟨hb02, fun b hb => by omega, Nat.le_refl _, by omega, cs0 n, fun _ => 0, row_later q1 hb2, cs0_size n, cs0_zero n, fun v hv => by rw [show 1 + v * 2 + 1 = 1 + (v * 2 + 1) by omega]; exact cs0_at n _ (by omega), fun v hv => by omega, fun u v hu => by omega⟩
  have HS2 : Hid _ := hs2
  clear hb1 hb2 hb02 q1 q2 q3 hs2 hw2 hs1
  refine ⟨trivial, rfl, (callsIn_wide.2 HC.out).mono ?_⟩
  rintro e w3 ⟨rfl, hw3⟩
  subst hw3
  clear HC
  gi_wp2
  refine Rl.range_law (P := Try.prog) (gf := 44) (lb := #[.pointer (some ⟨w.heap.size + 1, 0, none⟩), .pointer (some ⟨w.heap.size + 1 + 1, 0, none⟩)]) rfl (enters_of Try.func44 (by kernel_rfl) rfl) (enc := encW w.heap.size) (xs := Pq.circ n (frm 0 n)) (n0 := 0) (m0 := 0) (G := CirG w.heap.size n) (T := fun b => b = w.heap.size + 1 ∨ b = w.heap.size + 1 + 1)
    HITR.out (fun b hb => by have := HS2.out; omega) (Nat.zero_le _) (Nat.le_refl _) (fun x F W T args h => by rw [show args = _ from h]; rfl)
    (fun k V TB => Hid (NewS w w.heap.size n k V TB)) (fun c k V TB => False)
    (fun k V TV V' TV' h hm => h.out.mv hm) (fun c k V TV V' TV' h hm => h)
    (fun k V TV h => by obtain ⟨h1, h2, h3, h4, cs, q, h5, h6, h7, h8⟩ := h.out; exact (cell_row h5 0).trans h7) H0 ?rnd ?done ?stop
  case rnd =>
    rintro m l' k x args F V T1 TB hxk henc ⟨Wf, Tf, HIf, hF9, hmF⟩ HI2 hTB hup hnc hlt
    cases henc
    obtain ⟨rfl, hkn⟩ := circ_at hxk
    clear HIf hF9 hmF hxk hTB hnc hlt HITR H0 HS2
    gi_wp2
    refine ⟨HI2, Rl.Rv.refl _ _ _, fun W2 HI3 hbz => ?_⟩
    have HUP : Hid (∀ b, TB b → b < W2.heap.size) := fun b hb => by have h1 := hup b hb; have h2 := hbz.size; omega
    clear hbz HI2 hup
    have HCt : Hid _ := new_any W2
    gi_wp2
    refine ⟨trivial, (fun hd => by cases hd), (CallsIn.inRound l' (callsIn_wide.2 HCt.out)).mono ?_⟩
    rintro e w4 ⟨qb, rfl, hd4, hq4, hb4⟩
    obtain ⟨N1, N2⟩ := HI3.out.next HUP.out hkn h64 hb4 hd4 (by omega)
    have NS : Hid _ := N1
    have NR : Hid _ := N2
    have hpl : w.heap.size < W2.heap.size := by obtain ⟨h1, h2, h3, h4, cs, q, h5, _⟩ := HI3.out; exact row_lt h5
    obtain ⟨u4, hu4⟩ : ∃ u, w4.cell? ⟨w.heap.size, 1 + x * 2, none⟩ = some u := by
      obtain ⟨h1, h2, h3, h4, cs, q, h5, h6, _⟩ := HI3.out
      refine ⟨cs[1 + x * 2]'(by omega), (cell_row (row_later h5 hb4) _).trans (by simp)⟩
    have f4 : ∀ i, w4.frozen? ⟨w.heap.size, i, none⟩ = false := by
      obtain ⟨h1, h2, h3, h4, cs, q, h5, h6, _⟩ := HI3.out
      exact froz_row (row_later h5 hb4)
    clear N1 N2 hd4 hb4 HCt HI3 hq4
    gi_wp2
    exact ⟨NS, NR.out⟩
  case done =>
    rintro V T2 h hold hup hdef hts
    have HV : Hid (NewS w w.heap.size n n V T2 ∧ V.heap[w3.heap.size]? = some (.deferred (some [])) ∧ T2 w3.heap.size) := ⟨by have := h.out; rw [circ_len] at this; exact this, hdef, hts⟩
    clear h hold hup hdef hts
    gi_wp2
    show LeavesInM Fence.wide 0 Try.prog Try.f9 _ R ([w3.heap.size].map Rl.mark) .returning V
    refine Rl.leaves_marks (T := T2) (by simp) (fun A => NewS w w.heap.size n n A T2) ?_ ?_ _ V ⟨by simp, fun D hD => by simp at hD; subst hD; exact ⟨HV.out.2.2, HV.out.2.1⟩⟩ HV.out.1
    · rintro A D hD k1
      exact k1.mv (Rl.Mv.putObj A _ hD)
    · rintro A k1
      refine ⟨_, results_tmp2 (t := 2) (u := 3) rfl _ _ _, ?_⟩
      rw [HR.out]
      exact ⟨_, rfl, k1.lp h0 h64, k1.bel⟩
  case stop =>
    rintro c k V T2 hk h hold hup hdef hts
    exact h.elim

set_option maxHeartbeats 4000000 in
theorem new_err (n : Int) (h : n < 1 ∨ 64 < n) (w : World) :
    Calls Try.prog 9 #[.int .i64 n] w fun e w' => e = .returned (.tuple #[.pointer none, .int .i64 2]) ∧ w' = w := by
  by_cases h1 : n < 1
  · have hd0 : decide (n < 1) = true := decide_eq_true h1
    go_enter Try.func9, Try.ntmps9
    go_wp2_with fail
    refine bodyPost_ret (results_tmp2 rfl _ _ _) rfl ?_
    exact ⟨rfl, rfl⟩
  · have h2 : 64 < n := by omega
    have hd0 : decide (n < 1) = false := decide_eq_false h1
    have hd1 : decide ((64 : Int) < n) = true := decide_eq_true h2
    go_enter Try.func9, Try.ntmps9
    go_wp2_with fail
    refine bodyPost_ret (results_tmp2 rfl _ _ _) rfl ?_
    exact ⟨rfl, rfl⟩
end Go.Proofs.Ytfhmmiilenonkaa
