/- TraceFew's walk. -/
import Derived.Test.YthkndkbffiaknaaRl
namespace Go.Proofs.Ythkndkbffiaknaa.Tz
open Go.RowKit Go.Shelf Go.Proofs.Ythkndkbffiaknaa
set_option maxRecDepth 1000000
set_option linter.unusedVariables false

set_option maxHeartbeats 16000000 in
theorem few_walk (a : Option Addr) (n c : Nat) (l : List Ef) (w : World) (h : RE w (.slice a n c) l) : Calls Try.prog 4 #[.slice a n c] w fun e w' => e = .returned (.bool true) ∧ Below w.heap.size w w' := by
  have hn : n = l.length := by obtain ⟨a', c', e, _⟩ := h; exact (Value.slice.inj e).2.1
  have HN : Hid (l.length = n) := hn.symm
  have HL : Hid (∀ wx, Calls Try.prog 6 #[] wx fun e w' => e = .returned (.bool true) ∧ Below wx.heap.size wx w') := lives_any
  by_cases hbig : (150 : Int) < (n : Int)
  · clear h hn
    go_enter Try.func4, Try.ntmps4
    go_wp2_with fail
    refine Calls.mono (HL.out _) ?_
    rintro e w2 ⟨rfl, hb2⟩
    have HB2 : Hid _ := hb2
    clear hb2
    go_wp2_with fail
    go_ret
    exact ⟨rfl, HB2.out⟩
  · have HS : Hid (l.length ≤ 1000000 ∧ l.length ≤ 150) := by show _ ∧ _; rw [HN.out]; omega
    have HRE : Hid (∀ wx, Below w.heap.size w wx → RE wx (.slice a n c) l) := fun wx hb => h.later hb
    have HLA : Hid _ := last_any l _ HS.out.1 w h
    clear h hn
    go_enter Try.func4, Try.ntmps4
    go_wp2_with fail
    refine Calls.mono HLA.out ?_
    rintro e w1 ⟨rv, rfl, how, hb1, hrv⟩
    have hre1 := how.re (fun e he => (HRE.out w (Below.refl _ _)).wf e (lastL_sub he))
    obtain ⟨fa, fc, hrs, _⟩ := hre1.slice
    subst hrs
    obtain ⟨m, hm⟩ : ∃ m, (lastL l).length = m := ⟨_, rfl⟩
    have HM : Hid ((lastL l).length = m) := hm
    rw [hm] at hre1
    have HRF : Hid (∀ wx, Below w1.heap.size w1 wx → RE wx (.slice fa m fc) (lastL l)) := fun wx hb => hre1.later hb
    have HB1 : Hid (Below w.heap.size w w1) := hb1
    have HMS : Hid ((lastL l).length ≤ 1000000 ∧ (m : Int) ≤ 150) := by have := lastL_len l; have := HS.out; show _ ∧ _; rw [← hm]; omega
    rw [hm]
    clear how hre1 hb1 hrv HLA hm
    go_wp2_with fail
    refine Calls.mono (last_any (lastL l) _ HMS.out.1 w1 (HRF.out _ (Below.refl _ _))) ?_
    rintro e w2 ⟨rv, rfl, how, hb2, hrv⟩
    rw [last_last] at how
    have hre2 := how.re (fun e he => (HRF.out w1 (Below.refl _ _)).wf e he)
    obtain ⟨fa2, fc2, hrs, _⟩ := hre2.slice
    subst hrs
    have HB2 : Hid (Below w1.heap.size w1 w2) := hb2
    have HR2 : Hid (RE w2 (.slice fa2 m fc2) (lastL l)) := by have h9 := hre2; rw [HM.out] at h9; exact h9
    rw [HM.out]
    clear how hre2 hb2 hrv
    go_wp2_with fail
    refine Calls.mono (same_e (lastL l) (lastL l) _ _ w2 HR2.out (HRF.out _ HB2.out) HMS.out.1 HMS.out.1) ?_
    rintro e w3 ⟨rfl, hb3⟩
    have HB3 : Hid (Below w1.heap.size w1 w3) := HB2.out.trans (hb3.mono HB2.out.size)
    rw [decide_eq_true (rfl : lastL l = lastL l)]
    clear hb3 HR2 HB2
    go_wp2_with fail
    refine Calls.mono (again_any (lastL l) _ HMS.out.1 w3 (HRF.out _ HB3.out)) ?_
    rintro e w4 ⟨rfl, hb4⟩
    have HB4 : Hid (Below w1.heap.size w1 w4) := HB3.out.trans (hb4.mono HB3.out.size)
    rw [again_last]
    clear hb4 HB3
    go_wp2_with fail
    refine Calls.mono (again_any l _ HS.out.1 w4 (HRE.out _ (HB1.out.trans (HB4.out.mono HB1.out.size)))) ?_
    rintro e w5 ⟨rfl, hb5⟩
    have HB5 : Hid (Below w1.heap.size w1 w5) := HB4.out.trans (hb5.mono HB4.out.size)
    obtain ⟨g, hg⟩ : ∃ g, agn [] l = g := ⟨_, rfl⟩
    have hgm : (m : Int) + (g : Int) = (n : Int) := by have := last_again l; have := HM.out; have := HN.out; omega
    rw [hg]
    clear hb5 HB4 hg
    go_wp2_with fail
    refine Calls.mono (check_any (lastL l) _ HMS.out.1 w5 (HRF.out _ HB5.out)) ?_
    rintro e w6 ⟨rfl, hb6⟩
    have HB6 : Hid (Below w1.heap.size w1 w6) := HB5.out.trans (hb6.mono HB5.out.size)
    rw [chk_ok (check_last l)]
    clear hb6 HB5 hgm
    go_wp2_with fail
    go_loopw [4] (fun s4 wr => ∃ (i : Nat), s4 = .int .i64 i ∧ i ≤ n ∧ Hid (Below w1.heap.size w1 wr)) (fun s4 _ => n - (intOf s4).toNat)
    case atStart => exact ⟨0, rfl, Nat.zero_le _, HB6⟩
    case round =>
      obtain ⟨i, rfl, hi, HBp⟩ := hrel
      rename World => wp
      clear HB6
      have HBv : Hid (Below w.heap.size w wp) := HB1.out.trans (HBp.out.mono HB1.out.size)
      by_cases hlt : i < n
      · have hil : i < l.length := by rw [HN.out]; exact hlt
        obtain ⟨hwf, b, off, ha, d0, d1, d2, d3⟩ := (HRE.out wp HBv.out).at' hil
        subst ha
        have hii : (i : Int) < (n : Int) := by omega
        obtain ⟨e, he⟩ : ∃ e, l.getD i default = e := ⟨_, rfl⟩
        rw [he] at d0 d1 d2 d3
        have hem : e ∈ l := by
          rw [← he, List.getD_eq_getElem?_getD, List.getElem?_eq_getElem hil]
          exact List.getElem_mem hil
        have HEE : Hid (l.getD i default = e) := he
        obtain ⟨j, x, hj1, hj2, hj3, hj4⟩ := find_last hem
        have hjm : j < m := by have := (List.getElem?_eq_some_iff.1 hj2).1; rw [HM.out] at this; exact this
        have HFV : Hid (findV e.key (lastL l) = (j : Int)) := by show _ = _; unfold findV; rw [hj1]
        have HJ2 : Hid ((lastL l).getD j default = x) := by show _ = _; rw [List.getD_eq_getElem?_getD, hj2]; rfl
        have HJ4 : Hid (checkE l → x = e) := hj4
        have HFI : Hid (Calls Try.prog 11 #[.slice fa m fc, .agg #[.int .i64 e.i, .bool e.u, .int .i64 e.t]] wp fun z w' => z = .returned (.int .i64 (findV e.key (lastL l))) ∧ Below wp.heap.size wp w') := find_any e.key (lastL l) _ wp (HRF.out _ HBp.out) HMS.out.1
        rw [HFV.out] at HFI
        clear he hj1 hj2 hj3 hj4 hem hwf hil
        go_wp2_with fail
        refine Calls.mono HFI.out ?_
        rintro z wr ⟨rfl, hb2⟩
        have HBr : Hid (Below w1.heap.size w1 wr) := HBp.out.trans (hb2.mono HBp.out.size)
        have HBw2 : Hid (Below w.heap.size w wr) := HB1.out.trans (HBr.out.mono HB1.out.size)
        clear HBp HBv HFI d0 d1 d2 d3 hb2
        -- few[at] and l[i], wherever
        obtain ⟨_, fb, fo, hfa, _⟩ := (HRF.out wr HBr.out).at' (i := j) (by rw [HM.out]; exact hjm)
        subst hfa
        have HX : Hid (∀ wx, Below wr.heap.size wr wx → EC wx fb (fo + j * 4) x) := fun wx hb => by
          obtain ⟨_, fb', fo', hfa, hc⟩ := (HRF.out wx (HBr.out.trans (hb.mono HBr.out.size))).at' (i := j) (by rw [HM.out]; exact hjm)
          simp only [Option.some.injEq, Addr.mk.injEq, and_true] at hfa
          obtain ⟨rfl, rfl⟩ := hfa
          rw [HJ2.out] at hc
          exact hc
        have HE : Hid (∀ wx, Below wr.heap.size wr wx → EC wx b (off + i * 4) e) := fun wx hb => by
          obtain ⟨_, fb', fo', hfa, hc⟩ := (HRE.out wx (HBw2.out.trans (hb.mono HBw2.out.size))).at' (i := i) (by rw [HN.out]; exact hlt)
          simp only [Option.some.injEq, Addr.mk.injEq, and_true] at hfa
          obtain ⟨rfl, rfl⟩ := hfa
          rw [HEE.out] at hc
          exact hc
        have hjm2 : (j : Int) < (m : Int) := by omega
        have HCH : Hid _ := check_any l _ HS.out.1 wr.drew (HRE.out wr.drew HBw2.out.drew)
        by_cases hck : checkE l
        · have HXE2 : Hid ((!decide (x = e)) = false) := by show _ = _; rw [decide_eq_true (HJ4.out hck)]; rfl
          clear HBw2
          go_wp2_with fail
          refine region_thenF [(50, .int .i64 (j : Int)), (51, .bool false), (52, .bool false), (53, .int .i64 (j : Int)), (54, .slice (some ⟨fb, fo, none⟩) m fc), (55, .int .i64 (m : Int)), (56, .bool false), (57, .bool false), (58, .bool false), (59, .slice (some ⟨b, off, none⟩) n c), (60, .int .i64 0), (61, .bool true), (62, .bool true), (63, .slice (some ⟨fb, fo, none⟩) m fc), (64, .int .i64 (j : Int)), (65, .pointer (some ⟨fb, fo + j * 4, none⟩)), (66, EV x), (67, .slice (some ⟨b, off, none⟩) n c), (68, .int .i64 (i : Int)), (69, .pointer (some ⟨b, off + i * 4, none⟩)), (70, EV e), (71, .bool false), (72, .bool false), (73, .bool false)] (fun w9 => Below wr.heap.size wr w9) ?_ ?_
          · refine wp_region_held (S := fun w9 => Below wr.heap.size wr w9) (by kernel_rfl) ?_
            have hS0 : Below wr.heap.size wr wr.drew := (Below.refl _ wr).drew
            simp only [List.size_toArray, List.length_cons, List.length_nil, Nat.reduceAdd, Array.replicate_succ, Array.replicate_zero, List.push_toArray, List.nil_append, List.cons_append]
            refine tG 0 50 (.int .i64 (j : Int)) 23 rfl hS0 ?_
            refine tG 1 51 (.bool false) 22 rfl hS0 ?_
            refine tG 2 52 (.bool false) 21 rfl hS0 ?_
            refine tG 3 53 (.int .i64 (j : Int)) 20 rfl hS0 ?_
            refine tG 4 54 (.slice (some ⟨fb, fo, none⟩) m fc) 19 rfl hS0 ?_
            refine tG 5 55 (.int .i64 (m : Int)) 18 rfl hS0 ?_
            refine tG 6 56 (.bool false) 17 rfl hS0 ?_
            refine tG 7 57 (.bool false) 16 rfl hS0 ?_
            refine tG 8 58 (.bool false) 15 rfl hS0 ?_
            refine tG 9 59 (.slice (some ⟨b, off, none⟩) n c) 14 rfl hS0 ?_
            refine oneW (R := fun w9 => Below wr.heap.size wr w9) (i := 10) (d := 60) (f := 7) (args := #[.slice (some ⟨b, off, none⟩) n c]) (v := .int .i64 0) (fuel := 13) rfl rfl (by kernel_rfl) (by kernel_rfl) (fun _ => by kernel_rfl) (Calls.mono HCH.out (by rintro e9 w9 ⟨rfl, h9⟩; exact ⟨by rw [chk_ok hck], (Below.refl _ wr).drew.trans h9⟩)) (fun w9 h => h) (fun w5 hS5 => ?_)
            simp only [List.setIfInBounds_toArray, List.set_cons_succ, List.set_cons_zero]
            refine tG 11 61 (.bool true) 12 rfl hS5 ?_
            refine tG 12 62 (.bool true) 11 rfl hS5 ?_
            refine tG 13 63 (.slice (some ⟨fb, fo, none⟩) m fc) 10 rfl hS5 ?_
            refine tG 14 64 (.int .i64 (j : Int)) 9 rfl hS5 ?_
            refine tG 15 65 (.pointer (some ⟨fb, fo + j * 4, none⟩)) 8 rfl hS5 ?_
            refine tV 16 66 (EV x) 7 rfl hS5 ?_ (fun wx h => by obtain ⟨y0, y1, y2, y3⟩ := HX.out wx h; unfold EV; go_simp)
            refine tG 17 67 (.slice (some ⟨b, off, none⟩) n c) 6 rfl hS5 ?_
            refine tG 18 68 (.int .i64 (i : Int)) 5 rfl hS5 ?_
            refine tG 19 69 (.pointer (some ⟨b, off + i * 4, none⟩)) 4 rfl hS5 ?_
            refine tV 20 70 (EV e) 3 rfl hS5 ?_ (fun wx h => by obtain ⟨y0, y1, y2, y3⟩ := HE.out wx h; unfold EV; go_simp)
            refine tV 21 71 (.bool false) 2 rfl hS5 ?_ (fun wx h => neq_exec x e (x := .tmp 66) (y := .tmp 70) rfl rfl rfl HXE2.out)
            refine tG 22 72 (.bool false) 1 rfl hS5 ?_
            refine tG 23 73 (.bool false) 0 rfl hS5 ?_
            refine wpAnyH_done (by kernel_rfl) ?_ _
            exact ⟨rfl, by kernel_rfl, hS5⟩
          intro w8 hF8
          simp only [setAll, List.setIfInBounds_toArray, List.set_cons_succ, List.set_cons_zero]
          have HB8 : Hid (Below w1.heap.size w1 w8) := HBr.out.trans (hF8.mono HBr.out.size)
          clear hF8 HCH HX HE HXE2
          go_wp2_with fail
          go_roundw
          case rel => exact ⟨i + 1, by go_num, by omega, HB8⟩
          case measure => simp [intOf]; omega
        · have HXE2 : Hid True := trivial
          clear HBw2
          go_wp2_with fail
          refine region_thenF [(50, .int .i64 (j : Int)), (51, .bool false), (52, .bool false), (53, .int .i64 (j : Int)), (54, .slice (some ⟨fb, fo, none⟩) m fc), (55, .int .i64 (m : Int)), (56, .bool false), (57, .bool false), (58, .bool false), (59, .slice (some ⟨b, off, none⟩) n c), (60, .int .i64 14), (61, .bool false), (62, .bool false), (63, undef), (64, undef), (65, undef), (66, undef), (67, undef), (68, undef), (69, undef), (70, undef), (71, undef), (72, .bool false), (73, .bool false)] (fun w9 => Below wr.heap.size wr w9) ?_ ?_
          · refine wp_region_held (S := fun w9 => Below wr.heap.size wr w9) (by kernel_rfl) ?_
            have hS0 : Below wr.heap.size wr wr.drew := (Below.refl _ wr).drew
            simp only [List.size_toArray, List.length_cons, List.length_nil, Nat.reduceAdd, Array.replicate_succ, Array.replicate_zero, List.push_toArray, List.nil_append, List.cons_append]
            refine tG 0 50 (.int .i64 (j : Int)) 23 rfl hS0 ?_
            refine tG 1 51 (.bool false) 22 rfl hS0 ?_
            refine tG 2 52 (.bool false) 21 rfl hS0 ?_
            refine tG 3 53 (.int .i64 (j : Int)) 20 rfl hS0 ?_
            refine tG 4 54 (.slice (some ⟨fb, fo, none⟩) m fc) 19 rfl hS0 ?_
            refine tG 5 55 (.int .i64 (m : Int)) 18 rfl hS0 ?_
            refine tG 6 56 (.bool false) 17 rfl hS0 ?_
            refine tG 7 57 (.bool false) 16 rfl hS0 ?_
            refine tG 8 58 (.bool false) 15 rfl hS0 ?_
            refine tG 9 59 (.slice (some ⟨b, off, none⟩) n c) 14 rfl hS0 ?_
            refine oneW (R := fun w9 => Below wr.heap.size wr w9) (i := 10) (d := 60) (f := 7) (args := #[.slice (some ⟨b, off, none⟩) n c]) (v := .int .i64 14) (fuel := 13) rfl rfl (by kernel_rfl) (by kernel_rfl) (fun _ => by kernel_rfl) (Calls.mono HCH.out (by rintro e9 w9 ⟨rfl, h9⟩; exact ⟨by rw [chk_no hck], (Below.refl _ wr).drew.trans h9⟩)) (fun w9 h => h) (fun w5 hS5 => ?_)
            simp only [List.setIfInBounds_toArray, List.set_cons_succ, List.set_cons_zero]
            refine tG 11 61 (.bool false) 12 rfl hS5 ?_
            refine tG 12 62 (.bool false) 11 rfl hS5 ?_
            refine tU 13 63 10 rfl hS5 ?_
            refine tU 14 64 9 rfl hS5 ?_
            refine tU 15 65 8 rfl hS5 ?_
            refine tU 16 66 7 rfl hS5 ?_
            refine tU 17 67 6 rfl hS5 ?_
            refine tU 18 68 5 rfl hS5 ?_
            refine tU 19 69 4 rfl hS5 ?_
            refine tU 20 70 3 rfl hS5 ?_
            refine tU 21 71 2 rfl hS5 ?_
            refine tG 22 72 (.bool false) 1 rfl hS5 ?_
            refine tG 23 73 (.bool false) 0 rfl hS5 ?_
            refine wpAnyH_done (by kernel_rfl) ?_ _
            exact ⟨rfl, by kernel_rfl, hS5⟩
          intro w8 hF8
          simp only [setAll, List.setIfInBounds_toArray, List.set_cons_succ, List.set_cons_zero]
          have HB8 : Hid (Below w1.heap.size w1 w8) := HBr.out.trans (hF8.mono HBr.out.size)
          clear hF8 HCH HX HE HXE2
          go_wp2_with fail
          go_roundw
          case rel => exact ⟨i + 1, by go_num, by omega, HB8⟩
          case measure => simp [intOf]; omega
      · clear HBv
        go_wp2_with fail
        refine Calls.mono (HL.out _) ?_
        rintro e w2 ⟨rfl, hb2⟩
        have HB2 : Hid (Below w.heap.size w w2) := by
          have h1 := HB1.out.trans (HBp.out.mono HB1.out.size)
          exact h1.trans (hb2.mono h1.size)
        clear hb2
        go_wp2_with fail
        go_ret
        exact ⟨rfl, HB2.out⟩
end Go.Proofs.Ythkndkbffiaknaa.Tz
