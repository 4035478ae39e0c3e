/- Texts of the seat, packed: Gs Ha. -/
import Derived.Test.YtijkgdbabikojaaP23
/- The walk over the laws' laid. -/
namespace Go.Proofs.Ytijkgdbabikojaa
open Go.RowKit
open Dk (DS DK Okay Small WR Kp Wid cutP appendP syncP hasB hasB_true)
set_option maxRecDepth 1000000
set_option linter.unusedVariables false

/-- A disk, and events beside it. -/
structure Mem (B : Nat) (W : World) (T : Nat → Prop) (p : Nat) (S : DS) (v : Value) (L : List Ev) : Prop where
  dk : DK T W p S
  hT : ∀ b, T b → B ≤ b
  log : LogR B W T v L
  hB : B ≤ W.heap.size

theorem LogR.below {N : Nat} {W W' : World} {T : Nat → Prop} {v : Value} {L : List Ev} (h : LogR N W T v L) (hb : Below W.heap.size W W') : LogR N W' T v L := h.kept (fun b _ b2 _ => hb.block b b2) (fun _ _ h => h) hb.size

theorem Mem.later {B : Nat} {W W' : World} {T : Nat → Prop} {p : Nat} {S : DS} {v : Value} {L : List Ev} (h : Mem B W T p S v L) (hb : Below W.heap.size W W') : Mem B W' T p S v L :=
  ⟨h.dk.later hb, h.hT, h.log.below hb, Nat.le_trans h.hB hb.size⟩

theorem Mem.wr {B : Nat} {W W' : World} {T : Nat → Prop} {p : Nat} {S S' : DS} {v : Value} {L : List Ev} (h : Mem B W T p S v L) (hd : DK (Wid T W W') W' p S') (hk : Kp T W W') : Mem B W' (Wid T W W') p S' v L := by
  refine ⟨hd, fun b hb => ?_, h.log.kept (fun b _ b2 b3 => hk.block b b2 b3) (fun b b2 b3 hb => ?_) hk.size, Nat.le_trans h.hB hk.size⟩
  · rcases hb with hb | hb
    · exact h.hT b hb
    · exact Nat.le_trans h.hB hb.1
  · rcases hb with hb | hb
    · exact b3 hb
    · omega

/-- What laid knows when k events are laid. -/
def LdI (l : List Ev) (sure : Int) (w : World) (p k : Nat) (v : Value) (W : World) : Prop :=
  ∃ (T : Nat → Prop) (S : DS), Mem w.heap.size W T p S v (stL l k) ∧ Okay S ∧ LaidS l sure k S ∧ Below w.heap.size w W

theorem small_of {S : DS} (hn : S.n = 3) (ho : Okay S) (ht : Dk.tot3 S = 20000) : Small 20000 20000 S := tot_small hn ho (by omega)

set_option maxHeartbeats 4000000 in
theorem laid_any (l : List Ev) (sure : Int) (v : Value) (w : World) (hl : RE w v l) (hn : l.length ≤ 100) :
    Calls Try.prog 8 #[v, .int .i64 sure] w fun e w' => ∃ p k oa oc, e = .returned (.tuple #[.pointer (some ⟨p, 0, none⟩), .slice oa k oc, .bool true]) ∧ k ≤ l.length ∧ LdI l sure w p k (.slice oa k oc) w' := by
  obtain ⟨a, cap, rfl, hc, _, hr⟩ := hl
  have HR : Hid _ := hr
  clear hr
  have HN0 : Hid _ := begun_any 20000 w (by omega)
  obtain ⟨n, HN⟩ : ∃ n, Hid (l.length = n) := ⟨_, rfl⟩
  rw [HN.out] at hn hc ⊢
  go_enter Try.func8, Try.ntmps8
  go_wp2_with fail
  refine Calls.mono HN0.out ?_
  rintro e w0 ⟨p, r, rfl, hd0, hb0⟩
  obtain ⟨T0, d1, d2⟩ := hd0.dk
  have HI0 : Hid (LdI l sure w p 0 (.slice none 0 0) w0) := ⟨T0, _, ⟨d1, d2, LogR.nil _ _ _, hb0.size⟩, hd0.ok, LaidS.zero l sure, hb0⟩
  clear HN0 hd0 hb0 d1 d2
  go_wp2_with fail
  go_loopw [9, 10] (fun ov iv wr => ∃ k : Nat, k ≤ n ∧ iv = .int .i64 k ∧ (∃ oa oc, ov = .slice oa k oc) ∧ Hid (LdI l sure w p k ov wr)) (fun _ iv _ => n - (intOf iv).toNat)
  case atStart => exact ⟨0, Nat.zero_le _, rfl, ⟨none, 0, rfl⟩, HI0⟩
  case round =>
    obtain ⟨k, hk, rfl, ⟨oa, oc, rfl⟩, HI⟩ := hrel
    by_cases hlt : k < n
    · have g1 := getD_ev (L := l) (k := k) (by rw [HN.out]; exact hlt)
      obtain ⟨y, HY⟩ : ∃ y, Hid (l.getD k Ev.none = y) := ⟨_, rfl⟩
      rw [HY.out] at g1
      obtain ⟨b, off, sv, rfl, c0, c1, c2, c3, c4⟩ := HR.out k y g1
      obtain ⟨T, S, d1, d3, d4, d6⟩ := HI.out
      have e0 := cell_later d6 c0
      have e1 := cell_later d6 c1
      have e2 := cell_later d6 c2
      have e3 := cell_later d6 c3
      obtain ⟨sa, sc, rfl, _, _, _⟩ := c4
      have hki : (k : Int) < (n : Int) := by omega
      obtain ⟨W1, HW1⟩ : ∃ W1, Hid ((wr.alloc (.cells #[.int .i64 y.k, .int .i64 y.i, .int .i64 y.t, .slice (some ⟨wr.heap.size + 1, 0, none⟩) 2 2] 52)).alloc (.cells #[.int .i64 0, .int .i64 ((k : Int) + 1)] 3) = W1) := ⟨_, rfl⟩
      have hb1 : Below wr.heap.size wr W1 := by rw [← HW1.out]; exact ((Below.refl _ _).alloc (Nat.le_refl _) _).alloc (by simp) _
      have hsz1 : W1.heap.size = wr.heap.size + 2 := by rw [← HW1.out]; simp
      have hbox1 : Box W1 wr.heap.size y.k y.i y.t (.slice (some ⟨wr.heap.size + 1, 0, none⟩) 2 2) := by rw [← HW1.out]; exact (Box.new wr _ _ _ _).alloc _
      have hri1 : RI W1 (.slice (some ⟨wr.heap.size + 1, 0, none⟩) 2 2) [0, (k : Int) + 1] := by
        rw [← HW1.out]
        have := RI.new (wr.alloc (.cells #[.int .i64 y.k, .int .i64 y.i, .int .i64 y.t, .slice (some ⟨wr.heap.size + 1, 0, none⟩) 2 2] 52)) [0, (k : Int) + 1] #[.int .i64 0, .int .i64 ((k : Int) + 1)] rfl (by show 2 ≤ 1000000; omega)
        rw [World.size_alloc] at this
        exact this
      have hsm := small_of d4.run.n d3 d4.tot
      have hlive := d1.dk.live
      have HAp : Hid (Calls Try.prog 21 #[.pointer (some ⟨p, 0, none⟩), .int .i64 1, .agg #[.int .i64 y.k, .int .i64 y.i, .int .i64 y.t, .slice (some ⟨wr.heap.size + 1, 0, none⟩) 2 2]] W1 (WR T W1 p (appP S 1 (stE k y)))) := append_br T W1 p S 1 (stE k y) (some ⟨wr.heap.size + 1, 0, none⟩) 2 (d1.dk.later hb1) d3 (Dk.small_mono hsm (by omega) (by omega)) hri1 (by show 2 ≤ 1000000; omega)
      have HB1 : Hid _ := hb1
      have HX1 : Hid _ := hbox1
      have HRI1 : Hid _ := hri1
      have HM1 : Hid _ := d1.later hb1
      have HOK : Hid _ := d3
      have HLS : Hid _ := d4
      have HBL : Hid (Below w.heap.size w W1) := d6.trans (hb1.mono d6.size)
      have HSZ : Hid _ := hsz1
      have HNT : Hid (¬ T wr.heap.size ∧ ¬ T (wr.heap.size + 1)) := ⟨fun h => by have := hlive _ h; omega, fun h => by have := hlive _ h; omega⟩
      have HOW : Hid (∀ g, (Value.slice oa k oc).ownBlock = some g → g < wr.heap.size) := fun g hg => by
        obtain ⟨P, _, q2, _⟩ := d1.log
        exact (World.ownsRow.lt q2 g hg).2
      have HWR : Hid (w.heap.size ≤ wr.heap.size) := d6.size
      obtain ⟨ek, Hek⟩ : ∃ z, Hid (y.k = z) := ⟨_, rfl⟩
      obtain ⟨ei, Hei⟩ : ∃ z, Hid (y.i = z) := ⟨_, rfl⟩
      obtain ⟨et, Het⟩ : ∃ z, Hid (y.t = z) := ⟨_, rfl⟩
      rw [Hek.out] at e0 HAp HX1 HW1
      rw [Hei.out] at e1 HAp HX1 HW1
      rw [Het.out] at e2 HAp HX1 HW1
      have HSE : Hid (stE k y = ⟨ek, ei, et, [0, (k : Int) + 1]⟩) := by
        show stE k y = _
        unfold stE
        rw [Hek.out, Hei.out, Het.out]
      clear c0 c1 c2 c3 d1 d3 d4 d6 hb1 hbox1 hri1 hsm hlive HI hsz1 HR g1 Hek Hei Het
      cases hok : okE (stE k y) with
      | false =>
        rw [laid_no hok] at HAp
        have HEV : Hid (∀ wx, RI wx (.slice (some ⟨wr.heap.size + 1, 0, none⟩) 2 2) [0, (k : Int) + 1] → Calls Try.prog 23 #[.agg #[.int .i64 ek, .int .i64 ei, .int .i64 et, .slice (some ⟨wr.heap.size + 1, 0, none⟩) 2 2]] wx fun x w' => x = .returned (.int .i64 2) ∧ Below wx.heap.size wx w') := fun wx hx => by
          have := rcheck_ev (stE k y) (.slice (some ⟨wr.heap.size + 1, 0, none⟩) 2 2) wx hx (by show 2 ≤ 1000000; omega)
          rw [show (evE (stE k y) : Nat) = 2 by unfold evE; rw [hok]; rfl, HSE.out] at this
          exact this
        clear hok
        go_wp2_with fail
        rw [HW1.out]
        refine Calls.mono HAp.out ?_
        rintro e w2 ⟨rfl, q2, q3⟩
        have HM2 : Hid _ := Mem.wr HM1.out q2 q3
        have hbx : Box w2 wr.heap.size ek ei et (.slice (some ⟨wr.heap.size + 1, 0, none⟩) 2 2) := (q3.block _ (Box.lt HX1.out) HNT.out.1).trans HX1.out
        have z0 := hbx.c0
        have z1 := hbx.c1
        have z2 := hbx.c2
        have z3 := hbx.c3
        have H3 : Hid _ := HEV.out w2 (RI.stay HRI1.out (fun a n c he _ hlt => by cases he; exact q3.block _ hlt HNT.out.2))
        have HB2 : Hid (Below w.heap.size w w2) := HBL.out.trans (q3.below HM1.out.hB HM1.out.hT)
        clear q2 q3 HAp HEV hbx HW1
        go_wp2_with fail
        refine Calls.mono H3.out ?_
        rintro e w3 ⟨rfl, hb3⟩
        have HM3 : Hid _ := Mem.later HM2.out hb3
        have HB3 : Hid _ := HB2.out.trans (hb3.mono HB2.out.size)
        clear hb3 H3 z0 z1 z2 z3
        go_wp2_with fail
        go_ret3
        exact ⟨p, k, oa, oc, rfl, hk, _, _, HM3.out, HOK.out, HLS.out, HB3.out⟩
      | true =>
        have hok2 : okE (stE k (l.getD k Ev.none)) = true := by rw [HY.out]; exact hok
        obtain ⟨s1, s2, s3⟩ := HLS.out.app (by omega) hok2
        rw [HY.out] at s1 s2 s3
        have HO2 : Hid (Okay (appP S 1 (stE k y)).2) := (app_tot HLS.out.run.n 1 (stE k y)).2.2 HOK.out
        have HT2 : Hid ((appP S 1 (stE k y)).2.n = 3 ∧ Dk.tot3 (appP S 1 (stE k y)).2 = 20000) := by
          obtain ⟨q1, q2, _⟩ := app_tot HLS.out.run.n 1 (stE k y)
          exact ⟨q1, by rw [q2]; exact HLS.out.tot⟩
        have HS2 : Hid _ := s2
        have HS3 : Hid _ := s3
        have HSL : Hid (stL l (k + 1) = stL l k ++ [stE k y]) := by show _ = _; rw [stL_succ, HY.out]
        have HEQ : Hid _ := s1
        clear s2 s3 hok hok2 s1
        generalize appP S 1 (stE k y) = R1 at *
        obtain ⟨r1, S1⟩ := R1
        obtain rfl : r1 = 0 := HEQ.out
        simp only at HO2 HT2 HS2 HS3
        go_wp2_with fail
        rw [HW1.out]
        refine Calls.mono HAp.out ?_
        rintro e w2 ⟨rfl, q2, q3⟩
        have HM2 : Hid _ := Mem.wr HM1.out q2 q3
        have hbx : Box w2 wr.heap.size ek ei et (.slice (some ⟨wr.heap.size + 1, 0, none⟩) 2 2) := (q3.block _ (Box.lt HX1.out) HNT.out.1).trans HX1.out
        have hri2 : RI w2 (.slice (some ⟨wr.heap.size + 1, 0, none⟩) 2 2) [0, (k : Int) + 1] := RI.stay HRI1.out (fun a n c he _ hlt => by cases he; exact q3.block _ hlt HNT.out.2)
        have HB2 : Hid (Below w.heap.size w w2) := HBL.out.trans (q3.below HM1.out.hB HM1.out.hT)
        have hs2 := q3.size
        have HNT2 : Hid (¬ Wid T W1 w2 (wr.heap.size + 1)) := fun h => by
          rcases h with h | h
          · exact HNT.out.2 h
          · have := HSZ.out; omega
        obtain ⟨T2, HT⟩ : ∃ T2, Hid (Wid T W1 w2 = T2) := ⟨_, rfl⟩
        rw [HT.out] at HM2 HNT2
        have z0 := hbx.c0
        have z1 := hbx.c1
        have z2 := hbx.c2
        have z3 := hbx.c3
        obtain ⟨W3, HW3⟩ : ∃ W3, Hid (w2.alloc (.cells #[.int .i64 ek, .int .i64 ei, .int .i64 et, .slice (some ⟨wr.heap.size + 1, 0, none⟩) 2 2] 52) = W3) := ⟨_, rfl⟩
        have hb3 : Below w2.heap.size w2 W3 := by rw [← HW3.out]; exact (Below.refl _ _).alloc (Nat.le_refl _) _
        have hm3 := Mem.later HM2.out hb3
        have hl3 := hm3.dk.live
        obtain ⟨v', W4, hrun, hl4, hgr, hown, a', c', hv'⟩ := hm3.log.push (by rw [stL_len]; omega) hm3.hB (fun b hb => hl3 b hb) ⟨ek, ei, et, [0, (k : Int) + 1]⟩ (some ⟨wr.heap.size + 1, 0, none⟩) 2 w2.heap.size (fun j u hj => by
          rw [add0, ← HW3.out, cell_of_row _ _ _ _ 52 (0, 0) (World.alloc_heap_new w2 _)]
          simp only [evRow] at hj
          rw [← Array.getElem?_toList]
          exact hj) (hri2.later hb3) (by show 2 ≤ 1000000; omega) (fun b hb hl => by
          cases hb
          have h1 := HWR.out
          have h2 := HSZ.out
          have h3 := hb3.size
          exact ⟨by show _ ≤ wr.heap.size + 1; omega, by show wr.heap.size + 1 < _; omega, HNT2.out, fun e => by have h4 : wr.heap.size + 1 < wr.heap.size := HOW.out _ e; omega⟩)
        rw [← HSE.out, ← HSL.out, stL_len] at hv'
        rw [← HSE.out, ← HSL.out] at hl4
        subst hv'
        have hd4 : DK T2 W4 p S1 := DK.kept hm3.dk (T' := fun b => some b = (Value.slice oa k oc).ownBlock) ⟨hgr.os, hgr.tape, hgr.output, hgr.size, fun b hb hn => hgr.block b hb hn⟩ (fun b hb e => (hown b e.symm).2 hb)
        have HM4 : Hid (Mem w.heap.size W4 T2 p S1 (.slice a' (k + 1) c') (stL l (k + 1))) := ⟨hd4, hm3.hT, hl4, Nat.le_trans hm3.hB hgr.size⟩
        have HB4 : Hid (Below w.heap.size w W4) := by
          have h1 : Below w.heap.size w W3 := HB2.out.trans (hb3.mono HB2.out.size)
          exact h1.trans ⟨hgr.os, hgr.tape, hgr.output, hgr.size, fun b hb => hgr.block b (by have := hm3.hB; omega) (fun e => by have := (hown b e.symm).1; omega)⟩
        have HSy : Hid (Calls Try.prog 24 #[.pointer (some ⟨p, 0, none⟩), .int .i64 1] W4 (WR T2 W4 p (syncP S1 1))) := Dk.sync_any T2 W4 p S1 1 hd4 HO2.out (Dk.small_mono (small_of HT2.out.1 HO2.out HT2.out.2) (by omega) (by omega))
        rw [← HW3.out] at hrun
        have HRUN : Hid _ := hrun
        clear q2 q3 HAp hbx hri2 hs2 hm3 hl3 hl4 hgr hown hd4 hb3 HW1 HM1 HM2 HX1 HRI1 HOW hrun
        by_cases hsu : sure = (k : Int) + 1
        · obtain ⟨u1, u2⟩ := HS3.out hsu
          have HO3 : Hid (Okay (syncP S1 1).2) := Dk.okay_sync HO2.out 1
          have HU2 : Hid _ := u2
          have heq : ((k : Int) + 1 == sure) = true := by simp [hsu]
          have HEQ2 : Hid _ := u1
          clear u1 u2 HS2 HS3 hsu
          generalize syncP S1 1 = R2 at *
          obtain ⟨r2, S2⟩ := R2
          obtain rfl : r2 = 0 := HEQ2.out
          simp only at HO3 HU2
          go_wp2_with (at_builtin; refine Dk.wpList_append_run rfl _ _ 22 rfl 44 rfl _ _ _ _ rfl rfl HRUN.out ?_)
          refine Calls.mono HSy.out ?_
          rintro e w5 ⟨rfl, q2, q3⟩
          have HM5 : Hid _ := Mem.wr HM4.out q2 q3
          have HB5 : Hid (Below w.heap.size w w5) := HB4.out.trans (q3.below HM4.out.hB HM4.out.hT)
          clear q2 q3 HSy HRUN HW3 HM4 HB4 z0 z1 z2 z3
          go_wp2_with fail
          go_roundw
          case rel => exact ⟨k + 1, by omega, by go_num, ⟨_, _, rfl⟩, ⟨_, _, HM5.out, HO3.out, HU2.out, HB5.out⟩⟩
          case measure => simp [intOf]; omega
        · have u2 := HS2.out hsu
          have HU2 : Hid _ := u2
          have heq : ((k : Int) + 1 == sure) = false := by simpa using fun h => hsu h.symm
          clear u2 HS2 HS3 hsu HSy
          go_wp2_with (at_builtin; refine Dk.wpList_append_run rfl _ _ 22 rfl 44 rfl _ _ _ _ rfl rfl HRUN.out ?_)
          go_roundw
          case rel => exact ⟨k + 1, by omega, by go_num, ⟨_, _, rfl⟩, ⟨_, _, HM4.out, HO2.out, HU2.out, HB4.out⟩⟩
          case measure => simp [intOf]; omega
    · have hkn : k = n := by omega
      subst hkn
      go_wp2_with fail
      go_ret3
      exact ⟨p, k, oa, oc, rfl, Nat.le_refl _, HI.out⟩
end Go.Proofs.Ytijkgdbabikojaa

/- The walks over BranchBack and BranchTold. -/
namespace Go.Proofs.Ytijkgdbabikojaa
open Go.RowKit
open Dk (DS DK Okay Small WR Kp Wid cutP appendP syncP hasB hasB_true)
set_option maxRecDepth 1000000
set_option linter.unusedVariables false

theorem stL_few {l : List Ev} {k : Nat} (hk : k ≤ 100) : (stL l k).length ≤ 1000000 ∧ ∀ x ∈ stL l k, x.s.length ≤ 1000000 := by
  refine ⟨by rw [stL_len]; omega, fun x hx => ?_⟩
  unfold stL at hx
  obtain ⟨i, _, rfl⟩ := List.mem_map.1 hx
  show 2 ≤ 1000000
  omega

set_option maxHeartbeats 4000000 in
theorem back_walk (l : List Ev) (v : Value) (w : World) (hl : RE w v l) : Calls Try.prog 3 #[v] w fun e w' => e = .returned (.bool true) ∧ Below w.heap.size w w' := by
  have HL : Hid (∀ wx, Calls Try.prog 7 #[] wx fun e w' => e = .returned (.bool true) ∧ Below wx.heap.size wx w') := lives_any
  have HLA : Hid (l.length ≤ 100 → _) := fun hn => laid_any l 0 v w hl hn
  obtain ⟨a, cap, rfl, hc, hcm, _⟩ := hl
  obtain ⟨n, HN⟩ : ∃ n, Hid (l.length = n) := ⟨_, rfl⟩
  rw [HN.out] at HLA ⊢
  by_cases hn : 100 < n
  · have hni : (100 : Int) < (n : Int) := by omega
    have H1 : Hid _ := HL.out w
    clear HLA HL
    go_enter Try.func3, Try.ntmps3
    go_wp2_with fail
    refine Calls.mono H1.out ?_
    rintro e w1 ⟨rfl, hb1⟩
    have HB1 : Hid _ := hb1
    clear hb1 H1
    go_wp2_with fail
    go_ret
    exact ⟨rfl, HB1.out⟩
  · have hni : ¬ (100 : Int) < (n : Int) := by omega
    have H1 : Hid _ := HLA.out (by omega)
    clear HLA
    go_enter Try.func3, Try.ntmps3
    go_wp2_with fail
    refine Calls.mono H1.out ?_
    rintro e w1 ⟨p, k, oa, oc, rfl, hk, T, S, m1, o1, s1, b1⟩
    obtain ⟨t1, t2, t3⟩ := s1.tells
    have hsm := small_of s1.run.n o1 s1.tot
    have HB1 : Hid _ := b1
    have HM : Hid _ := m1
    have H2 : Hid (Calls Try.prog 9 #[.pointer (some ⟨p, 0, none⟩), .int .i64 1] w1 fun e w' => ∃ a c, e = .returned (.tuple #[.slice a k c, .int .i64 ((S.fs 1).b.length : Nat)]) ∧ RE w' (.slice a k c) (stL l k) ∧ Below w1.heap.size w1 w') := by
      have := load_dk m1.dk o1 (Dk.small_mono hsm (by omega) (by omega)) s1.run.n 1 (by omega)
      rw [t1] at this
      refine Calls.mono this ?_
      rintro e w' ⟨a, c, q1, q2, q3⟩
      simp only [stL_len] at q1 q2
      exact ⟨a, c, q1, q2.re.1, q3⟩
    have H3 : Hid (∀ wx, Below w1.heap.size w1 wx → Calls Try.prog 9 #[.pointer (some ⟨p, 0, none⟩), .int .i64 0] wx fun e w' => ∃ a c, e = .returned (.tuple #[.slice a 0 c, .int .i64 0]) ∧ Below wx.heap.size wx w') := fun wx hb => by
      have := load_dk (m1.dk.later hb) o1 (Dk.small_mono hsm (by omega) (by omega)) s1.run.n 0 (by omega)
      rw [t2] at this
      refine Calls.mono this ?_
      rintro e w' ⟨a, c, q1, q2, q3⟩
      exact ⟨a, c, q1, q3⟩
    have H5 : Hid (∀ wx, Below w1.heap.size w1 wx → Calls Try.prog 11 #[.pointer (some ⟨p, 0, none⟩), .int .i64 1] wx fun e w' => ∃ a c, e = .returned (.slice a (S.fs 1).b.length c) ∧ Below wx.heap.size wx w') := fun wx hb => by
      refine Calls.mono (Dk.read_any T wx p S 1 (m1.dk.later hb) o1 (Dk.small_mono hsm (by omega) (by omega))) ?_
      rintro e w' ⟨⟨v, q1, q2⟩, q3⟩
      rw [t3] at q2
      obtain ⟨⟨a, c, rfl, _⟩, _⟩ := q2
      exact ⟨a, c, q1, q3⟩
    have HSA : Hid (∀ wx u, Below w1.heap.size w1 wx → RE wx u (stL l k) → Calls Try.prog 10 #[u, .slice oa k oc] wx fun e w' => e = .returned (.bool true) ∧ Below wx.heap.size wx w') := fun wx u hb hu => by
      obtain ⟨f1, f2⟩ := stL_few (l := l) (k := k) (by omega)
      have := sameAll_any (stL l k) (stL l k) u (.slice oa k oc) wx hu (m1.log.re.1.later hb) f2 f2 f1 f1
      rw [decide_eq_true rfl] at this
      exact this
    clear m1 o1 s1 b1 t1 t2 t3 hsm H1 HM
    generalize (S.fs 1).b.length = E at *
    go_wp2_with fail
    refine Calls.mono H2.out ?_
    rintro e w2 ⟨xa, xc, rfl, q2, q3⟩
    have HX : Hid _ := q2
    have HB2 : Hid _ := q3
    have H4 : Hid _ := H3.out w2 q3
    clear q2 q3 H2 H3
    go_wp2_with fail
    refine Calls.mono H4.out ?_
    rintro e w3 ⟨ya, yc, rfl, q3⟩
    have HB3 : Hid _ := HB2.out.trans (q3.mono HB2.out.size)
    have H6 : Hid _ := HSA.out w3 _ HB3.out (RE.later HX.out q3)
    clear q3 H4 HSA HX HB2
    go_wp2_with fail
    refine Calls.mono H6.out ?_
    rintro e w4 ⟨rfl, q3⟩
    have HB4 : Hid _ := HB3.out.trans (q3.mono HB3.out.size)
    have H7 : Hid _ := H5.out w4 HB4.out
    clear q3 H6 H5 HB3
    go_wp2_with fail
    refine Calls.mono H7.out ?_
    rintro e w5 ⟨za, zc, rfl, q3⟩
    have HB5 : Hid _ := HB4.out.trans (q3.mono HB4.out.size)
    have H8 : Hid _ := HL.out w5
    clear q3 H7 HB4 HL
    go_wp2_with fail
    refine Calls.mono H8.out ?_
    rintro e w6 ⟨rfl, q3⟩
    have HB6 : Hid _ := HB5.out.trans (q3.mono HB5.out.size)
    clear q3 H8 HB5
    go_wp2_with fail
    go_ret
    exact ⟨rfl, HB1.out.trans (HB6.out.mono HB1.out.size)⟩

/-- A crash that keeps so much of each file. -/
theorem l_crash2 {B : Nat} {wp : World} {p : Nat} {S : DS} (h : Lw B wp p S) (keep : List Int) (cs : Array Value) (hcs : cs.toList = keep.map (fun x => Value.int .i64 x)) (hl : keep.length ≤ 1000000) :
    Calls Try.prog 12 #[.pointer (some ⟨p, 0, none⟩), .slice (some ⟨wp.heap.size, 0, none⟩) keep.length keep.length] (wp.alloc (.cells cs 3)) fun e w' => e = .returned (.int .i64 0) ∧ Lw B w' p (Dk.crashP S keep) ∧ Below B wp w' := by
  have hb : Below wp.heap.size wp (wp.alloc (.cells cs 3)) := (Below.refl _ _).alloc (Nat.le_refl _) _
  obtain ⟨T, h1, h2⟩ := h.dk
  have hlv := h1.live
  obtain ⟨q1, q2⟩ := crash_tot h.three keep
  refine Calls.mono (Dk.crash_any T _ p S _ keep (h1.later hb) h.ok (Dk.small_mono h.small (by omega) (by omega)) (RI.new wp keep cs hcs hl) (fun _ a n c he ht => by cases he; have h9 : wp.heap.size < wp.heap.size := hlv _ ht; omega) hl) (fun e w' hw => ?_)
  obtain ⟨r1, r2, r3⟩ := WR.lw hw h2 (Nat.le_trans h.hB hb.size) (h.ok.crash keep) q1 (by rw [q2]; exact h.tot)
  exact ⟨r1, r2, (hb.mono h.hB).trans r3⟩

theorem tV_some (s : List UInt8) : tV (some s) = .string ⟨s.toArray⟩ := rfl
theorem tE_some (s : List UInt8) : tE (some s) = 0 := rfl
theorem tV_none : tV none = .string ⟨#[]⟩ := rfl
theorem tE_none : tE none = 6 := rfl

set_option maxHeartbeats 8000000 in
theorem told_walk (s t : List UInt8) (fuse keep : Int) (w : World) (hfu : fuse ≤ 9223372036854775807) : Calls Try.prog 5 #[.string ⟨s.toArray⟩, .int .i64 fuse, .int .i64 keep, .string ⟨t.toArray⟩] w fun e w' => e = .returned (.bool true) ∧ Below w.heap.size w w' := by
  have HL : Hid (∀ wx, Calls Try.prog 7 #[] wx fun e w' => e = .returned (.bool true) ∧ Below wx.heap.size wx w') := lives_any
  have hsz : (⟨s.toArray⟩ : ByteArray).size = s.length := by simp [ByteArray.size]
  have htz : (⟨t.toArray⟩ : ByteArray).size = t.length := by simp [ByteArray.size]
  by_cases hs : 9000 < s.length
  · have hsi : (9000 : Int) < (s.length : Int) := by omega
    have H1 : Hid _ := HL.out w
    clear HL hs htz
    go_enter Try.func5, Try.ntmps5
    go_wp2_with fail
    refine Calls.mono H1.out ?_
    rintro e w1 ⟨rfl, hb1⟩
    have HB1 : Hid _ := hb1
    clear hb1 H1
    go_wp2_with fail
    go_ret
    exact ⟨rfl, HB1.out⟩
  by_cases ht : 9000 < t.length
  · have hsi : ¬ (9000 : Int) < (s.length : Int) := by omega
    have hti : (9000 : Int) < (t.length : Int) := by omega
    have H1 : Hid _ := HL.out w
    clear HL hs ht
    go_enter Try.func5, Try.ntmps5
    go_wp2_with fail
    refine Calls.mono H1.out ?_
    rintro e w1 ⟨rfl, hb1⟩
    have HB1 : Hid _ := hb1
    clear hb1 H1
    go_wp2_with fail
    go_ret
    exact ⟨rfl, HB1.out⟩
  have hsi : ¬ (9000 : Int) < (s.length : Int) := by omega
  have hti : ¬ (9000 : Int) < (t.length : Int) := by omega
  obtain ⟨P1, P2, P3⟩ := told_plain s t (by omega) (by omega) fuse keep
  have H1 : Hid (Calls Try.prog 16 #[.int .i64 20000] w fun e w' => ∃ p r, e = .returned (.tuple #[.pointer (some ⟨p, 0, none⟩), .pointer (some ⟨r, 0, none⟩)]) ∧ Lw w.heap.size w' p (Dk.newP 3 20000) ∧ Below w.heap.size w w') := begun_any 20000 w (by omega)
  have H2 : Hid (∀ p wx, Lw w.heap.size wx p (Dk.newP 3 20000) → Calls Try.prog 17 #[.pointer (some ⟨p, 0, none⟩), .int .i64 fuse] wx fun e w' => e = .returned (.int .i64 0) ∧ Lw w.heap.size w' p (Dk.armP (Dk.newP 3 20000) fuse).2 ∧ Below w.heap.size wx w') := fun p wx h => l_arm h fuse hfu
  generalize (Dk.armP (Dk.newP 3 20000) fuse).2 = A at *
  have H3 : Hid (∀ p wx, Lw w.heap.size wx p A → Calls Try.prog 18 #[.pointer (some ⟨p, 0, none⟩), .string ⟨s.toArray⟩] wx fun e w' => e = .returned (.int .i64 (beginP A s).1) ∧ Lw w.heap.size w' p (beginP A s).2 ∧ Below w.heap.size wx w') := fun p wx h => l_begin h s (by omega)
  generalize beginP A s = R1 at *
  obtain ⟨e1, C⟩ := R1
  simp only at P1 P2 P3 H3
  have H4 : Hid (∀ p wx, Lw w.heap.size wx p C → Calls Try.prog 12 #[.pointer (some ⟨p, 0, none⟩), .slice (some ⟨wx.heap.size, 0, none⟩) 3 3] (wx.alloc (.cells #[.int .i64 0, .int .i64 0, .int .i64 keep] 3)) fun e w' => e = .returned (.int .i64 0) ∧ Lw w.heap.size w' p (Dk.crashP C [0, 0, keep]) ∧ Below w.heap.size wx w') := fun p wx h => l_crash2 h [0, 0, keep] #[.int .i64 0, .int .i64 0, .int .i64 keep] rfl (by show 3 ≤ 1000000; omega)
  generalize Dk.crashP C [0, 0, keep] = D at *
  have H5 : Hid (∀ p wx, Lw w.heap.size wx p D → Calls Try.prog 19 #[.pointer (some ⟨p, 0, none⟩)] wx fun e w' => e = .returned (.tuple #[tV (toldG (lastB D)), .int .i64 (tE (toldG (lastB D)))]) ∧ Lw w.heap.size w' p D ∧ Below wx.heap.size wx w') := fun p wx h => l_told h
  generalize toldG (lastB D) = o at *
  have H6 : Hid (∀ p wx, Lw w.heap.size wx p D → Calls Try.prog 18 #[.pointer (some ⟨p, 0, none⟩), .string ⟨t.toArray⟩] wx fun e w' => e = .returned (.int .i64 (beginP D t).1) ∧ Lw w.heap.size w' p (beginP D t).2 ∧ Below w.heap.size wx w') := fun p wx h => l_begin h t (by omega)
  generalize beginP D t = R2 at *
  obtain ⟨e2, F⟩ := R2
  simp only at P2 P3 H6
  have H7 : Hid (∀ p wx, Lw w.heap.size wx p F → Calls Try.prog 19 #[.pointer (some ⟨p, 0, none⟩)] wx fun e w' => e = .returned (.tuple #[tV (toldG (lastB F)), .int .i64 (tE (toldG (lastB F)))]) ∧ Lw w.heap.size w' p F ∧ Below wx.heap.size wx w') := fun p wx h => l_told h
  generalize toldG (lastB F) = o2 at *
  have HP2 : Hid _ := P2
  have HP3 : Hid _ := P3
  have HP1 : Hid _ := P1
  clear P1 P2 P3 hs ht
  go_enter Try.func5, Try.ntmps5
  go_wp2_with fail
  refine Calls.mono H1.out ?_
  rintro e w1 ⟨p, r, rfl, q2, q3⟩
  have HB1 : Hid _ := q3
  have K2 : Hid _ := H2.out p w1 q2
  clear q2 q3 H1 H2
  go_wp2_with fail
  refine Calls.mono K2.out ?_
  rintro e w2 ⟨rfl, q2, q3⟩
  have HB2 : Hid _ := HB1.out.trans q3
  have K3 : Hid _ := H3.out p w2 q2
  clear q2 q3 K2 H3 HB1
  go_wp2_with fail
  refine Calls.mono K3.out ?_
  rintro e w3 ⟨rfl, q2, q3⟩
  have HB3 : Hid _ := HB2.out.trans q3
  have K4 : Hid _ := H4.out p w3 q2
  clear q2 q3 K3 H4 HB2
  go_wp2_with fail
  refine Calls.mono K4.out ?_
  rintro e w4 ⟨rfl, q2, q3⟩
  have HB4 : Hid _ := HB3.out.trans q3
  have K5 : Hid _ := H5.out p w4 q2
  clear q2 q3 K4 H5 HB3
  go_wp2_with fail
  refine Calls.mono K5.out ?_
  rintro e w5 ⟨rfl, q2, q3⟩
  have HB5 : Hid _ := HB4.out.trans (q3.mono HB4.out.size)
  have K6 : Hid _ := H6.out p w5 q2
  clear q2 q3 K5 H6 HB4
  have hcase : (o = some s ∧ (e1 = 0 ∨ e1 = 9)) ∨ (o = none ∧ e1 = 9) := by
    rcases HP1.out with ⟨a1, a2⟩ | ⟨a1, a2 | a2⟩
    · exact .inl ⟨a2, .inl a1⟩
    · exact .inl ⟨a2, .inr a1⟩
    · exact .inr ⟨a2, a1⟩
  clear HP1
  rcases hcase with ⟨rfl, he⟩ | ⟨rfl, rfl⟩
  · obtain rfl : e2 = 7 := HP2.out rfl
    clear HP2 HP3 H7
    rw [tV_some, tE_some]
    rcases he with rfl | rfl
    all_goals
      go_wp2_with fail
      refine Calls.mono K6.out ?_
      rintro e w6 ⟨rfl, q2, q3⟩
      have HB6 : Hid _ := HB5.out.trans q3
      have K7 : Hid _ := HL.out w6
      clear q2 q3 K6 HL HB5
      go_wp2_with fail
      refine Calls.mono K7.out ?_
      rintro e w7 ⟨rfl, q3⟩
      have HB7 : Hid _ := HB6.out.trans (q3.mono HB6.out.size)
      clear q3 K7 HB6
      go_wp2_with fail
      go_ret
      exact ⟨rfl, HB7.out⟩
  · obtain ⟨g1, g2⟩ := HP3.out rfl
    obtain rfl : e2 = 0 := g1
    obtain rfl : o2 = some t := g2
    clear HP2 HP3
    rw [tV_none, tE_none]
    simp only [tV_some, tE_some] at H7
    go_wp2_with fail
    refine Calls.mono K6.out ?_
    rintro e w6 ⟨rfl, q2, q3⟩
    have HB6 : Hid _ := HB5.out.trans q3
    have K7 : Hid _ := H7.out p w6 q2
    clear q2 q3 K6 H7 HB5
    go_wp2_with fail
    refine Calls.mono K7.out ?_
    rintro e w7 ⟨rfl, q2, q3⟩
    have HB7 : Hid _ := HB6.out.trans (q3.mono HB6.out.size)
    have K8 : Hid _ := HL.out w7
    clear q2 q3 K7 HL HB6
    go_wp2_with fail
    refine Calls.mono K8.out ?_
    rintro e w8 ⟨rfl, q3⟩
    have HB8 : Hid _ := HB7.out.trans (q3.mono HB7.out.size)
    clear q3 K8 HB7
    go_wp2_with fail
    go_ret
    exact ⟨rfl, HB8.out⟩
end Go.Proofs.Ytijkgdbabikojaa

