/- Again. -/
import Derived.Test.YthkndkbffiaknaaRd
namespace Go.Proofs.Ythkndkbffiaknaa.Tz
open Go.RowKit Go.Shelf Go.Proofs.Ythkndkbffiaknaa
set_option maxRecDepth 1000000
set_option linter.unusedVariables false

theorem results_slot2 {P : Program} {fn : Func} (h : fn.results = #[.tmp 2]) (tmps : Array Value) (w : World) {v : Value} (hp : tmps.getD 2 undef = v) : (results fn tmps).run P w = .ok v w := by
  have hp' : tmps[2]?.getD undef = v := by simpa using hp
  simp [results, h, hp', go_sem]

/-- Between two places. -/
def AgI (w : World) (v : Value) (l : List Ef) (k : Nat) (V : World) (TB : Nat → Prop) : Prop :=
  CoS w v l (w.heap.size + 1) V TB ∧ Boxed V w.heap.size 3 (.int .i64 (cntB (l.drop (l.length - k)) : Nat))

attribute [local go_sem] Oper.semAt_some

set_option maxHeartbeats 16000000 in
theorem again_any (l : List Ef) (v : Value) (hl : l.length ≤ 1000000) (w : World) (hv : RE w v l) :
    Calls Try.prog 9 #[v] w fun e w' => e = .returned (.int .i64 (agn [] l : Nat)) ∧ Below w.heap.size w w' := by
  obtain ⟨a, c, hvs, hlc⟩ := hv.slice
  subst hvs
  obtain ⟨n, hn⟩ : ∃ n, l.length = n := ⟨_, rfl⟩
  have HN : Hid (l.length = n) := hn
  obtain ⟨w1, hw1⟩ : ∃ w1, w.alloc (.cells #[.int .i64 0] 3) = w1 := ⟨_, rfl⟩
  have HW1 : Hid (w.alloc (.cells #[.int .i64 0] 3) = w1) := hw1
  obtain ⟨R, HR⟩ : ∃ R : Ending → World → Prop, Hid (R = fun e w' => e = .returned (.int .i64 (agn [] l : Nat)) ∧ Below w.heap.size w w') := ⟨_, rfl⟩
  rw [← HR.out]
  suffices key : CallsIn Fence.wide 0 Try.prog 9 #[.slice a l.length c] w R from callsIn_wide.1 key
  have hb1 : Below w.heap.size w w1 := by rw [← hw1]; exact bl1 _ _
  have hs1 : w1.heap.size = w.heap.size + 1 := by rw [← hw1]; simp
  have q0 : Boxed w1 w.heap.size 3 (.int .i64 0) := by rw [← hw1]; exact Boxed.new w 3 _
  obtain ⟨w2, hw2⟩ : ∃ w2, w1.alloc (.cells #[.slice a n c] 22) = w2 := ⟨_, rfl⟩
  have hb2 : Below w1.heap.size w1 w2 := by rw [← hw2]; exact bl1 _ _
  have hs2 : w2.heap.size = w.heap.size + 2 := by rw [← hw2]; simp; omega
  have q2 : Boxed w2 (w.heap.size + 1) 22 (.slice a n c) := by rw [← hw2, ← hs1]; exact Boxed.new w1 22 _
  have HMK : Hid _ := fromBehind_any a n c w1
  rw [hw2, hs1] at HMK
  have HITR : Hid _ := behind_itr l a c (w.heap.size + 1) hl (fun b => b = w.heap.size + 1) w2 (by rw [hn]; exact q2) rfl (fun b hb => by omega)
  have H0 : Hid (AgI w (.slice a n c) l 0 w2 (fun b => b = w.heap.size + 1)) := by
    refine ⟨⟨hb1.trans (hb2.mono hb1.size), fun b hb => by omega, by omega, by omega, by rw [← hn]; exact hv⟩, ?_⟩
    rw [Nat.sub_zero, List.drop_eq_nil_of_le (Nat.le_refl _)]
    exact (hb2.block _ q0.lt).trans q0
  have HS2 : Hid (w2.heap.size = w.heap.size + 2) := hs2
  rw [hn] at HITR ⊢
  obtain ⟨xs, HX⟩ : ∃ xs, Hid (xs = brev n) := ⟨_, rfl⟩
  have HXL : Hid (xs.length = n) := by show _ = _; rw [HX.out]; exact brev_len n
  have HXA : Hid (∀ i x, xs[i]? = some x → i < n ∧ x = n - 1 - i) := fun i x hx => by
    rw [HX.out] at hx
    have h1 : i < n := by have := (List.getElem?_eq_some_iff.1 hx).1; rw [brev_len] at this; exact this
    rw [brev_at h1] at hx
    exact ⟨h1, (Option.some.inj hx).symm⟩
  rw [← HX.out] at HITR
  have HLN : Hid (l.length ≤ 1000000) := hl
  clear hv hb1 hs1 q0 hw2 hb2 hs2 q2 hn hl HX hlc hw1
  refine callsIn_of_wp_marks Try.func9 rfl trivial ?_ rfl
  simp only [Try.ntmps9, List.size_toArray, List.length_cons, List.length_nil, Nat.reduceAdd, Nat.reduceSub, Array.replicate_succ, Array.replicate_zero, List.push_toArray, List.append_toArray, List.nil_append, List.cons_append]
  gi_wp2
  rw [HW1.out]
  refine ⟨trivial, rfl, (callsIn_wide.2 HMK.out).mono ?_⟩
  rintro e w3 ⟨rfl, hw3⟩
  subst hw3
  clear HMK HW1
  gi_wp2
  refine Rl.range_law (P := Try.prog) (gf := 29) (lb := #[.pointer (some ⟨w.heap.size + 1, 0, none⟩)]) rfl (enters_of Try.func29 (by kernel_rfl) rfl) (enc := encN l) (xs := xs) (n0 := 0) (m0 := 0) (G := fun A => RE A (.slice a n c) l) (T := fun b => b = w.heap.size + 1)
    HITR.out (fun b hb => by have := HS2.out; omega) (Nat.zero_le _) (Nat.le_refl _) (fun x F W T args h => by rw [show args = _ from h]; rfl)
    (fun k V TB => Hid (AgI w (.slice a n c) l k V TB)) (fun c' k V TB => False)
    (fun k V TV V' TV' h hm => by
      obtain ⟨h1, h2⟩ := h.out
      obtain ⟨m1, m2⟩ := h1.mv hm
      exact ⟨m1, (m2 _ (by omega)).trans h2⟩)
    (fun c k V TV V' TV' h hm => h)
    (fun k V TV h => h.out.1.reV) H0 ?rnd ?done ?stop
  case rnd =>
    rintro m l' k x args F9 V T1 TB hxk henc ⟨Wf, Tf, HIf, hF9, hmF⟩ HI2 hTB hup hnc hlt
    cases henc
    obtain ⟨hkn, hxe⟩ := HXA.out k x hxk
    have HXE : Hid (x = n - 1 - k ∧ k < n) := ⟨hxe, hkn⟩
    clear HIf hF9 hmF hxk hTB hnc hlt HITR H0 HS2 hup hkn hxe
    gi_wp2
    refine ⟨HI2, Rl.Rv.refl _ _ _, fun W2 hmv HI3 hbz => ?_⟩
    clear hbz HI2 hmv
    have HI4 : Hid (AgI w (.slice a n c) l k W2 TB) := HI3
    obtain ⟨h1, h2⟩ := HI3.out
    have y0 := h2.cell
    have f0 := h2.frozen
    have HXN : Hid (x < l.length ∧ l.length - k = x + 1 ∧ l.length - (k + 1) = x) := by have := HXE.out; have := HN.out; exact ⟨by omega, by omega, by omega⟩
    rcases nxt_cases (a := x) HLN.out with ⟨hnx, hno⟩ | ⟨g, hnx, hg1, hg2, hg3, hg4⟩
    · rw [show nxtV l x = 9223372036854775807 from hnx]
      have HI5 : Hid (AgI w (.slice a n c) l (k + 1) W2 TB) := by
        refine ⟨h1, ?_⟩
        rw [HXN.out.2.2, cntB_step HXN.out.1, if_neg hno, Nat.zero_add, ← HXN.out.2.1]
        exact h2
      clear HI3 h1 h2 hnx hno
      gi_wp2
      exact ⟨HI5, Rl.Rv.refl _ _ _⟩
    · rw [hnx]
      have hgm : ¬ ((g : Int) = 9223372036854775807) := by have := HLN.out; omega
      obtain ⟨q, hq⟩ : ∃ q, cntB (l.drop (l.length - k)) = q := ⟨_, rfl⟩
      have hq9 : (q : Int) ≤ 1000000 := by have := cntB_le (l.drop (l.length - k)); have := HLN.out; rw [List.length_drop] at *; omega
      have HQ : Hid (cntB (l.drop (l.length - (k + 1))) = q + 1) := by
        show _ = _
        rw [HXN.out.2.2, cntB_step HXN.out.1, if_pos hg4, ← HXN.out.2.1, hq, Nat.add_comm]
      rw [hq] at y0
      obtain ⟨m1, m2⟩ := h1.set (i := 0) (.int .i64 ((q : Int) + 1)) (Nat.le_refl _) (show w.heap.size < w.heap.size + 1 by omega)
      have HI5 : Hid (AgI w (.slice a n c) l (k + 1) (W2.setCell ⟨w.heap.size, 0, none⟩ (.int .i64 ((q : Int) + 1))) TB ∧ Rl.Rv 0 TB W2 (W2.setCell ⟨w.heap.size, 0, none⟩ (.int .i64 ((q : Int) + 1)))) := by
        refine ⟨⟨m1, ?_⟩, m2⟩
        rw [HQ.out, show ((q + 1 : Nat) : Int) = (q : Int) + 1 by omega]
        exact Boxed.set _ h2
      clear HI3 h1 h2 hnx m1 m2 hq hg1 hg2 hg3 hg4
      gi_wp2
      exact HI5.out
  case done =>
    rintro V T2 h hold hup hdef hts
    obtain ⟨h1, h2⟩ := h.out
    have HV : Hid (V.heap[w3.heap.size]? = some (.deferred (some [])) ∧ T2 w3.heap.size) := ⟨hdef, hts⟩
    have y0 := h2.cell
    have HC : Hid (CoS w (.slice a n c) l (w.heap.size + 1) V T2) := h1
    have hc : cntB (l.drop (l.length - xs.length)) = agn [] l := by
      rw [HXL.out, HN.out, Nat.sub_self]
      exact cntB_agn l
    rw [hc] at y0
    clear h h1 h2 hold hup hdef hts HITR H0 hc
    gi_wp2
    show LeavesInM Fence.wide 0 Try.prog Try.f9 _ R ([w3.heap.size].map Rl.mark) .returning _
    refine Rl.leaves_marks (T := T2) (by simp) (fun A => CoS w (.slice a n c) l (w.heap.size + 1) A T2) ?_ ?_ _ _ ⟨by simp, fun D hD => by simp at hD; subst hD; exact ⟨HV.out.2, HV.out.1⟩⟩ HC.out
    · rintro A D hD k1
      exact (k1.mv (Rl.Mv.putObj A _ hD)).1
    · rintro A k1
      refine ⟨_, results_slot2 rfl _ _ rfl, ?_⟩
      rw [HR.out]
      exact ⟨rfl, k1.bel⟩
  case stop =>
    rintro c' k V T2 hk h hold hup hdef hts
    exact h.elim
end Go.Proofs.Ythkndkbffiaknaa.Tz
