/- The walk over MergeHistory. -/
import Derived.Test.YtamfpmpooaejkaaNx
namespace Go.Proofs.Ytamfpmpooaejkaa
open Go.RowKit Go.Shelf
set_option maxRecDepth 1000000
set_option linter.unusedVariables false

/-- What was merged is a history, and has of each branch its first events. -/
theorem hist_plain {R : List (List Ev)} (h : 1 ≤ R.length ∧ R.length ≤ 64) : hist (R.length : Int) (mgH R) = true ∧ (spl (R.length : Int) (mgH R)).length = R.length ∧ ∀ i, i < R.length → ∃ q : Nat, (mgN R).getD i 0 = (q : Int) ∧ q ≤ (R.getD i []).length ∧ (spl (R.length : Int) (mgH R)).getD i [] = (R.getD i []).take q := by
  have hok := Mg.mer_ok evS R
  have e1 : mgH R = (Mg.mer evS R).1 := by unfold mgH; rw [if_pos h]
  have e2 : mgN R = hadZ (Mg.mer evS R).2.2 := by unfold mgN; rw [if_pos h]
  have h3 : hist (R.length : Int) (mgH R) = true := by
    unfold hist
    rw [e1, Int.toNat_natCast, hok.1, decide_eq_true (by omega)]
    rfl
  have e3 : spl (R.length : Int) (mgH R) = prts R.length (mgH R) := by unfold spl; rw [if_pos h3, Int.toNat_natCast]
  refine ⟨h3, by rw [e3, prts_len], fun i hi => ⟨(Mg.mer evS R).2.2.getD i 0, by rw [e2, hadZ_get], (hok.2.2.2.2.1 i hi).1, ?_⟩⟩
  rw [e3, e1, prts_get hok.1 hi]
  exact (hok.2.2.2.2.1 i hi).2

set_option maxHeartbeats 8000000 in
theorem history_walk (R : List (List Ev)) (lv : Value) (w : World) (hl : RRE w lv R) (hf : Fit R) : Calls Try.prog 5 #[lv] w fun e w' => e = .returned (.bool true) ∧ Below w.heap.size w w' := by
  have HFW : Hid _ := few_any lv R w hl hf
  have HRL : Hid (RRE w lv R) := hl
  obtain ⟨la, lc, rfl, q1, _, hcs⟩ := hl
  have HCS : Hid _ := hcs
  clear hcs
  cases hfb : fewB R with
  | false =>
    rw [hfb] at HFW
    clear hfb hf
    generalize R.length = n at *
    go_enter Try.func5, Try.ntmps5
    go_wp2_with fail
    refine Calls.mono HFW.out ?_
    rintro e w1 ⟨rfl, h⟩
    obtain rfl := h.symm
    go_wp2_with fail
    refine Calls.mono (lives_any _) ?_
    rintro e w1 ⟨rfl, hb⟩
    have HB : Hid _ := hb
    clear hb
    go_wp2_with fail
    go_ret
    exact ⟨rfl, HB.out⟩
  | true =>
    rw [hfb] at HFW
    obtain ⟨h70, h150⟩ := few_yes hfb
    have HM1 : Hid _ := c_merge _ R w HRL.out (by omega)
    have HLN : Hid ((mgH R).length ≤ 150) := Nat.le_trans (mgH_len R) h150
    by_cases hok : 1 ≤ R.length ∧ R.length ≤ 64
    · obtain ⟨p1, p2, p3⟩ := hist_plain hok
      have HC2 : Hid (∀ w1 v, RE w1 v (mgH R) → Calls Try.prog 16 #[v, .int .i64 (R.length : Int)] w1 fun e w' => SplC (R.length : Int) (mgH R) w1 e w') := fun w1 v hr => c_split v _ _ w1 hr (by have := HLN.out; omega)
      have HC3 : Hid (∀ w1 v, RE w1 v (mgH R) → Calls Try.prog 19 #[v, .int .i64 (R.length : Int)] w1 fun e w' => e = .returned (.int .i64 (chkN (R.length : Int) (mgH R) : Nat)) ∧ Below w1.heap.size w1 w') := fun w1 v hr => c_check v _ _ w1 hr (by have := HLN.out; omega)
      have e1 : chkN (R.length : Int) (mgH R) = 0 := by unfold chkN; rw [p1]; rfl
      unfold MrgC at HM1
      unfold SplC at HC2
      rw [e1] at HC2 HC3
      rw [p2] at HC2
      rw [mgN_len R hok] at HM1
      have HP3 : Hid _ := p3
      have HXL : Hid ((spl (R.length : Int) (mgH R)).length = R.length) := p2
      have HRF : Hid (∀ i, i < R.length → (R.getD i []).length ≤ 150) := fun i hi => by
        have h9 := totR_succ (R := R) hi
        have h8 := totR_le R (i + 1)
        omega
      have HNL : Hid ((mgN R).length = R.length) := mgN_len R hok
      clear hfb hf p1 p2 p3 e1 h70 h150
      generalize mgH R = G at *
      generalize mgN R = NN at *
      obtain ⟨n, HN⟩ : ∃ n, Hid (R.length = n) := ⟨_, rfl⟩
      rw [HN.out] at HFW HRL q1 HRF HC2 HC3 HXL HNL HP3 HM1 hok ⊢
      generalize spl (n : Int) G = X at *
      obtain ⟨m, HGm⟩ : ∃ m, Hid (G.length = m) := ⟨_, rfl⟩
      rw [HGm.out] at HM1
      obtain ⟨h1, h64⟩ := hok
      have hg1 : ¬ (n : Int) < 1 := by omega
      have hg2 : ¬ (n : Int) > 64 := by omega
      go_enter Try.func5, Try.ntmps5
      go_wp2_with fail
      refine Calls.mono HFW.out ?_
      rintro e w1 ⟨rfl, h⟩
      obtain rfl := h.symm
      clear HFW
      go_wp2_with fail
      refine Calls.mono HM1.out ?_
      rintro e w1 ⟨va, vc, na, nc, rfl, r1, r2, r3, r4⟩
      have HB1 : Hid (Below w.heap.size w w1) := r4
      have HR1 : Hid (RE w1 (.slice va m vc) G) := r1
      have HN1 : Hid (RI w1 (.slice na n nc) NN) := r3
      clear r1 r2 r3 r4 HM1
      go_wp2_with fail
      refine Calls.mono (HC2.out w1 _ HR1.out) ?_
      rintro e w2 ⟨xa, xc, rfl, r1, r2, r4⟩
      have HR2 : Hid (RE w2 (.slice va m vc) G) := HR1.out.later r4
      have HN2 : Hid (RI w2 (.slice na n nc) NN) := HN1.out.later r4
      have HX2 : Hid (RRE w2 (.slice xa n xc) X) := r1
      have HSX : Hid (∀ L ∈ X, ∀ x ∈ L, x.s.length ≤ 1000000) := r2
      have HB2 : Hid (Below w.heap.size w w2) := HB1.out.trans (r4.mono HB1.out.size)
      clear r1 r2 r4 HC2 HR1 HN1 HB1
      go_wp2_with fail
      refine Calls.mono (HC3.out w2 _ HR2.out) ?_
      rintro e w4 ⟨rfl, r4⟩
      have HN4 : Hid (RI w4 (.slice na n nc) NN) := HN2.out.later r4
      have HX4 : Hid (RRE w4 (.slice xa n xc) X) := HX2.out.later r4
      have HB4 : Hid (Below w.heap.size w w4) := HB2.out.trans (r4.mono HB2.out.size)
      clear r4 HC3 HN2 HX2 HB2 HR2
      go_wp2_with fail
      go_loopw [7] (fun iv wr => ∃ i : Nat, i ≤ n ∧ iv = .int .i64 i ∧ Hid (Below w4.heap.size w4 wr)) (fun iv _ => n - (intOf iv).toNat)
      case atStart => exact ⟨0, Nat.zero_le _, rfl, Below.refl _ _⟩
      case round =>
        obtain ⟨i, hi, rfl, HBB⟩ := hrel
        rename World => w5
        by_cases hlt : i < n
        · obtain ⟨lb, lo, rv, rfl, cL0, hrow⟩ := HCS.out i _ (getD_row (by rw [HN.out]; exact hlt))
          obtain ⟨ra, rc, rfl⟩ := hrow.slice
          obtain ⟨q, hq1, hq2, hq3⟩ := HP3.out i hlt
          obtain ⟨nb', ncp, hne, _, _, hnc⟩ := HN4.out
          simp only [Value.slice.injEq] at hne
          obtain ⟨rfl, hz1, rfl⟩ := hne
          obtain ⟨nb, no, rfl, cN⟩ := hnc i (by rw [HNL.out]; exact hlt)
          obtain ⟨xb', xcp, hxe, _, _, hxc⟩ := HX4.out
          simp only [Value.slice.injEq] at hxe
          obtain ⟨rfl, hz2, rfl⟩ := hxe
          obtain ⟨xb, xo, yv, rfl, cX, hyr⟩ := hxc i _ (getD_row (by rw [HXL.out]; exact hlt))
          have cL := cell_later HB4.out cL0
          rw [hq1] at cN
          rw [hq3] at hyr
          obtain ⟨ya, yc, rfl⟩ := hyr.slice
          have hyl : ((R.getD i []).take q).length = q := by rw [List.length_take]; omega
          rw [hyl] at hyr cX
          have hrow4 : RE w4 (.slice ra (R.getD i []).length rc) (R.getD i []) := hrow.later HB4.out
          obtain ⟨va2, vc2, hV, HVS'⟩ := slice_evs hrow4 q hq2
          have HVS : Hid _ := HVS'
          have hrf := HRF.out i hlt
          have HSS : Hid (∀ x ∈ (R.getD i []).take q, x.s.length ≤ 1000000) := by
            show ∀ x ∈ _, _
            rw [← hq3]
            exact HSX.out _ (List.mem_of_getElem? (getD_row (by rw [HXL.out]; exact hlt)))
          have HSA : Hid (∀ wx, Below w4.heap.size w4 wx → Calls Try.prog 13 #[.slice ya q yc, .slice va2 q vc2] wx fun e w' => e = .returned (.bool true) ∧ Below w4.heap.size w4 w') := fun wx h => by
            refine Calls.mono (sameAll_any _ _ _ _ wx (hyr.later h) (hV.later h) HSS.out HSS.out (by rw [hyl]; omega) (by rw [hyl]; omega)) ?_
            rintro e w' ⟨q1, q2⟩
            rw [decide_eq_true rfl] at q1
            exact ⟨q1, h.trans (q2.mono h.size)⟩
          have hS0 : Below w4.heap.size w4 w5.drew := HBB.out.drew
          have hin : (i : Int) < (n : Int) := by omega
          generalize hrn : (R.getD i []).length = rn at *
          have hqn : ¬ (q : Int) > (rn : Int) := by omega
          have hq0 : ¬ (q : Int) < 0 := by omega
          clear hz1 hz2 hnc hxc hyr hV HVS' hrow hrow4 hq1 hq3 cL0 hyl HSS hrf hrn
          go_wp2_with fail
          refine region_thenF [(72, .slice (some ⟨nb, no, none⟩) n nc), (73, .int .i64 (i : Int)), (74, .pointer (some ⟨nb, no + i, none⟩)), (75, .int .i64 (q : Int)), (76, .bool false), (77, .bool false), (78, .slice (some ⟨nb, no, none⟩) n nc), (79, .int .i64 (i : Int)), (80, .pointer (some ⟨nb, no + i, none⟩)), (81, .int .i64 (q : Int)), (82, .slice (some ⟨lb, lo, none⟩) n lc), (83, .int .i64 (i : Int)), (84, .pointer (some ⟨lb, lo + i, none⟩)), (85, .slice ra rn rc), (86, .int .i64 (rn : Int)), (87, .bool false), (88, .bool false), (89, .bool false), (90, .slice (some ⟨xb, xo, none⟩) n xc), (91, .int .i64 (i : Int)), (92, .pointer (some ⟨xb, xo + i, none⟩)), (93, .slice ya q yc), (94, .slice (some ⟨lb, lo, none⟩) n lc), (95, .int .i64 (i : Int)), (96, .pointer (some ⟨lb, lo + i, none⟩)), (97, .slice ra rn rc), (98, .slice (some ⟨nb, no, none⟩) n nc), (99, .int .i64 (i : Int)), (100, .pointer (some ⟨nb, no + i, none⟩)), (101, .int .i64 (q : Int)), (102, .slice va2 q vc2), (103, .bool true), (104, .bool false), (105, .bool false)] (fun w' => Below w4.heap.size w4 w') ?_ ?_
          · refine wp_region_held (S := fun w' => Below w4.heap.size w4 w') (by kernel_rfl) ?_
            simp only [List.size_toArray, List.length_cons, List.length_nil, Nat.reduceAdd, Array.replicate_succ, Array.replicate_zero, List.push_toArray, List.nil_append, List.cons_append]
            refine takeD (i := 0) (d := 72) (v := .slice (some ⟨nb, no, none⟩) n nc) (fuel := 33) rfl rfl (by kernel_rfl) (by kernel_rfl) (by kernel_rfl) (fun _ _ _ h => by cases h.1) (.inl ⟨by kernel_rfl, fun _ _ => by kernel_rfl⟩) hS0 ?_
            simp only [List.setIfInBounds_toArray, List.set_cons_succ, List.set_cons_zero]
            refine takeD (i := 1) (d := 73) (v := .int .i64 (i : Int)) (fuel := 32) rfl rfl (by kernel_rfl) (by kernel_rfl) (by kernel_rfl) (fun _ _ _ h => by cases h.1) (.inl ⟨by kernel_rfl, fun _ _ => by kernel_rfl⟩) hS0 ?_
            simp only [List.setIfInBounds_toArray, List.set_cons_succ, List.set_cons_zero]
            refine takeD (i := 2) (d := 74) (v := .pointer (some ⟨nb, no + i, none⟩)) (fuel := 31) rfl rfl (by kernel_rfl) (by kernel_rfl) (by kernel_rfl) (fun _ _ _ h => by cases h.1) (.inl ⟨by kernel_rfl, fun _ _ => by go_simp⟩) hS0 ?_
            simp only [List.setIfInBounds_toArray, List.set_cons_succ, List.set_cons_zero]
            refine takeD (i := 3) (d := 75) (v := .int .i64 (q : Int)) (fuel := 30) rfl rfl (by kernel_rfl) (by kernel_rfl) (by kernel_rfl) (fun _ _ _ h => by cases h.1) (.inl ⟨by kernel_rfl, fun wx h => by have z9 := cell_later h cN; go_simp⟩) hS0 ?_
            simp only [List.setIfInBounds_toArray, List.set_cons_succ, List.set_cons_zero]
            refine takeD (i := 4) (d := 76) (v := .bool false) (fuel := 29) rfl rfl (by kernel_rfl) (by kernel_rfl) (by kernel_rfl) (fun _ _ _ h => by cases h.1) (.inl ⟨by kernel_rfl, fun _ _ => by go_simp⟩) hS0 ?_
            simp only [List.setIfInBounds_toArray, List.set_cons_succ, List.set_cons_zero]
            refine takeD (i := 5) (d := 77) (v := .bool false) (fuel := 28) rfl rfl (by kernel_rfl) (by kernel_rfl) (by kernel_rfl) (fun _ _ _ h => by cases h.1) (.inl ⟨by kernel_rfl, fun _ _ => by kernel_rfl⟩) hS0 ?_
            simp only [List.setIfInBounds_toArray, List.set_cons_succ, List.set_cons_zero]
            refine takeD (i := 6) (d := 78) (v := .slice (some ⟨nb, no, none⟩) n nc) (fuel := 27) rfl rfl (by kernel_rfl) (by kernel_rfl) (by kernel_rfl) (fun _ _ _ h => by cases h.1) (.inl ⟨by kernel_rfl, fun _ _ => by kernel_rfl⟩) hS0 ?_
            simp only [List.setIfInBounds_toArray, List.set_cons_succ, List.set_cons_zero]
            refine takeD (i := 7) (d := 79) (v := .int .i64 (i : Int)) (fuel := 26) rfl rfl (by kernel_rfl) (by kernel_rfl) (by kernel_rfl) (fun _ _ _ h => by cases h.1) (.inl ⟨by kernel_rfl, fun _ _ => by kernel_rfl⟩) hS0 ?_
            simp only [List.setIfInBounds_toArray, List.set_cons_succ, List.set_cons_zero]
            refine takeD (i := 8) (d := 80) (v := .pointer (some ⟨nb, no + i, none⟩)) (fuel := 25) rfl rfl (by kernel_rfl) (by kernel_rfl) (by kernel_rfl) (fun _ _ _ h => by cases h.1) (.inl ⟨by kernel_rfl, fun _ _ => by go_simp⟩) hS0 ?_
            simp only [List.setIfInBounds_toArray, List.set_cons_succ, List.set_cons_zero]
            refine takeD (i := 9) (d := 81) (v := .int .i64 (q : Int)) (fuel := 24) rfl rfl (by kernel_rfl) (by kernel_rfl) (by kernel_rfl) (fun _ _ _ h => by cases h.1) (.inl ⟨by kernel_rfl, fun wx h => by have z9 := cell_later h cN; go_simp⟩) hS0 ?_
            simp only [List.setIfInBounds_toArray, List.set_cons_succ, List.set_cons_zero]
            refine takeD (i := 10) (d := 82) (v := .slice (some ⟨lb, lo, none⟩) n lc) (fuel := 23) rfl rfl (by kernel_rfl) (by kernel_rfl) (by kernel_rfl) (fun _ _ _ h => by cases h.1) (.inl ⟨by kernel_rfl, fun _ _ => by kernel_rfl⟩) hS0 ?_
            simp only [List.setIfInBounds_toArray, List.set_cons_succ, List.set_cons_zero]
            refine takeD (i := 11) (d := 83) (v := .int .i64 (i : Int)) (fuel := 22) rfl rfl (by kernel_rfl) (by kernel_rfl) (by kernel_rfl) (fun _ _ _ h => by cases h.1) (.inl ⟨by kernel_rfl, fun _ _ => by kernel_rfl⟩) hS0 ?_
            simp only [List.setIfInBounds_toArray, List.set_cons_succ, List.set_cons_zero]
            refine takeD (i := 12) (d := 84) (v := .pointer (some ⟨lb, lo + i, none⟩)) (fuel := 21) rfl rfl (by kernel_rfl) (by kernel_rfl) (by kernel_rfl) (fun _ _ _ h => by cases h.1) (.inl ⟨by kernel_rfl, fun _ _ => by go_simp⟩) hS0 ?_
            simp only [List.setIfInBounds_toArray, List.set_cons_succ, List.set_cons_zero]
            refine takeD (i := 13) (d := 85) (v := .slice ra rn rc) (fuel := 20) rfl rfl (by kernel_rfl) (by kernel_rfl) (by kernel_rfl) (fun _ _ _ h => by cases h.1) (.inl ⟨by kernel_rfl, fun wx h => by have z9 := cell_later h cL; go_simp⟩) hS0 ?_
            simp only [List.setIfInBounds_toArray, List.set_cons_succ, List.set_cons_zero]
            refine takeD (i := 14) (d := 86) (v := .int .i64 (rn : Int)) (fuel := 19) rfl rfl (by kernel_rfl) (by kernel_rfl) (by kernel_rfl) (fun _ _ _ h => by cases h.1) (.inl ⟨by kernel_rfl, fun _ _ => by go_simp⟩) hS0 ?_
            simp only [List.setIfInBounds_toArray, List.set_cons_succ, List.set_cons_zero]
            refine takeD (i := 15) (d := 87) (v := .bool false) (fuel := 18) rfl rfl (by kernel_rfl) (by kernel_rfl) (by kernel_rfl) (fun _ _ _ h => by cases h.1) (.inl ⟨by kernel_rfl, fun _ _ => by go_simp⟩) hS0 ?_
            simp only [List.setIfInBounds_toArray, List.set_cons_succ, List.set_cons_zero]
            refine takeD (i := 16) (d := 88) (v := .bool false) (fuel := 17) rfl rfl (by kernel_rfl) (by kernel_rfl) (by kernel_rfl) (fun _ _ _ h => by cases h.1) (.inl ⟨by kernel_rfl, fun _ _ => by kernel_rfl⟩) hS0 ?_
            simp only [List.setIfInBounds_toArray, List.set_cons_succ, List.set_cons_zero]
            refine takeD (i := 17) (d := 89) (v := .bool false) (fuel := 16) rfl rfl (by kernel_rfl) (by kernel_rfl) (by kernel_rfl) (fun _ _ _ h => by cases h.1) (.inl ⟨by kernel_rfl, fun _ _ => by kernel_rfl⟩) hS0 ?_
            simp only [List.setIfInBounds_toArray, List.set_cons_succ, List.set_cons_zero]
            refine takeD (i := 18) (d := 90) (v := .slice (some ⟨xb, xo, none⟩) n xc) (fuel := 15) rfl rfl (by kernel_rfl) (by kernel_rfl) (by kernel_rfl) (fun _ _ _ h => by cases h.1) (.inl ⟨by kernel_rfl, fun _ _ => by kernel_rfl⟩) hS0 ?_
            simp only [List.setIfInBounds_toArray, List.set_cons_succ, List.set_cons_zero]
            refine takeD (i := 19) (d := 91) (v := .int .i64 (i : Int)) (fuel := 14) rfl rfl (by kernel_rfl) (by kernel_rfl) (by kernel_rfl) (fun _ _ _ h => by cases h.1) (.inl ⟨by kernel_rfl, fun _ _ => by kernel_rfl⟩) hS0 ?_
            simp only [List.setIfInBounds_toArray, List.set_cons_succ, List.set_cons_zero]
            refine takeD (i := 20) (d := 92) (v := .pointer (some ⟨xb, xo + i, none⟩)) (fuel := 13) rfl rfl (by kernel_rfl) (by kernel_rfl) (by kernel_rfl) (fun _ _ _ h => by cases h.1) (.inl ⟨by kernel_rfl, fun _ _ => by go_simp⟩) hS0 ?_
            simp only [List.setIfInBounds_toArray, List.set_cons_succ, List.set_cons_zero]
            refine takeD (i := 21) (d := 93) (v := .slice ya q yc) (fuel := 12) rfl rfl (by kernel_rfl) (by kernel_rfl) (by kernel_rfl) (fun _ _ _ h => by cases h.1) (.inl ⟨by kernel_rfl, fun wx h => by have z9 := cell_later h cX; go_simp⟩) hS0 ?_
            simp only [List.setIfInBounds_toArray, List.set_cons_succ, List.set_cons_zero]
            refine takeD (i := 22) (d := 94) (v := .slice (some ⟨lb, lo, none⟩) n lc) (fuel := 11) rfl rfl (by kernel_rfl) (by kernel_rfl) (by kernel_rfl) (fun _ _ _ h => by cases h.1) (.inl ⟨by kernel_rfl, fun _ _ => by kernel_rfl⟩) hS0 ?_
            simp only [List.setIfInBounds_toArray, List.set_cons_succ, List.set_cons_zero]
            refine takeD (i := 23) (d := 95) (v := .int .i64 (i : Int)) (fuel := 10) rfl rfl (by kernel_rfl) (by kernel_rfl) (by kernel_rfl) (fun _ _ _ h => by cases h.1) (.inl ⟨by kernel_rfl, fun _ _ => by kernel_rfl⟩) hS0 ?_
            simp only [List.setIfInBounds_toArray, List.set_cons_succ, List.set_cons_zero]
            refine takeD (i := 24) (d := 96) (v := .pointer (some ⟨lb, lo + i, none⟩)) (fuel := 9) rfl rfl (by kernel_rfl) (by kernel_rfl) (by kernel_rfl) (fun _ _ _ h => by cases h.1) (.inl ⟨by kernel_rfl, fun _ _ => by go_simp⟩) hS0 ?_
            simp only [List.setIfInBounds_toArray, List.set_cons_succ, List.set_cons_zero]
            refine takeD (i := 25) (d := 97) (v := .slice ra rn rc) (fuel := 8) rfl rfl (by kernel_rfl) (by kernel_rfl) (by kernel_rfl) (fun _ _ _ h => by cases h.1) (.inl ⟨by kernel_rfl, fun wx h => by have z9 := cell_later h cL; go_simp⟩) hS0 ?_
            simp only [List.setIfInBounds_toArray, List.set_cons_succ, List.set_cons_zero]
            refine takeD (i := 26) (d := 98) (v := .slice (some ⟨nb, no, none⟩) n nc) (fuel := 7) rfl rfl (by kernel_rfl) (by kernel_rfl) (by kernel_rfl) (fun _ _ _ h => by cases h.1) (.inl ⟨by kernel_rfl, fun _ _ => by kernel_rfl⟩) hS0 ?_
            simp only [List.setIfInBounds_toArray, List.set_cons_succ, List.set_cons_zero]
            refine takeD (i := 27) (d := 99) (v := .int .i64 (i : Int)) (fuel := 6) rfl rfl (by kernel_rfl) (by kernel_rfl) (by kernel_rfl) (fun _ _ _ h => by cases h.1) (.inl ⟨by kernel_rfl, fun _ _ => by kernel_rfl⟩) hS0 ?_
            simp only [List.setIfInBounds_toArray, List.set_cons_succ, List.set_cons_zero]
            refine takeD (i := 28) (d := 100) (v := .pointer (some ⟨nb, no + i, none⟩)) (fuel := 5) rfl rfl (by kernel_rfl) (by kernel_rfl) (by kernel_rfl) (fun _ _ _ h => by cases h.1) (.inl ⟨by kernel_rfl, fun _ _ => by go_simp⟩) hS0 ?_
            simp only [List.setIfInBounds_toArray, List.set_cons_succ, List.set_cons_zero]
            refine takeD (i := 29) (d := 101) (v := .int .i64 (q : Int)) (fuel := 4) rfl rfl (by kernel_rfl) (by kernel_rfl) (by kernel_rfl) (fun _ _ _ h => by cases h.1) (.inl ⟨by kernel_rfl, fun wx h => by have z9 := cell_later h cN; go_simp⟩) hS0 ?_
            simp only [List.setIfInBounds_toArray, List.set_cons_succ, List.set_cons_zero]
            refine takeD (i := 30) (d := 102) (v := .slice va2 q vc2) (fuel := 3) rfl rfl (by kernel_rfl) (by kernel_rfl) (by kernel_rfl) (fun _ _ _ h => by cases h.1) (.inl ⟨by kernel_rfl, fun wx _ => by have z9 := HVS.out wx; go_simp⟩) hS0 ?_
            simp only [List.setIfInBounds_toArray, List.set_cons_succ, List.set_cons_zero]
            refine oneC (i := 31) (d := 103) (f := 13) (args := #[.slice ya q yc, .slice va2 q vc2]) (v := .bool true) (fuel := 2) rfl rfl (by kernel_rfl) (by kernel_rfl) (fun _ => by kernel_rfl) hS0 (fun wx h => HSA.out wx h) (fun wz hS131 => ?_)
            simp only [List.setIfInBounds_toArray, List.set_cons_succ, List.set_cons_zero]
            refine takeD (i := 32) (d := 104) (v := .bool false) (fuel := 1) rfl rfl (by kernel_rfl) (by kernel_rfl) (by kernel_rfl) (fun _ _ _ h => by cases h.1) (.inl ⟨by kernel_rfl, fun _ _ => by kernel_rfl⟩) hS131 ?_
            simp only [List.setIfInBounds_toArray, List.set_cons_succ, List.set_cons_zero]
            refine takeD (i := 33) (d := 105) (v := .bool false) (fuel := 0) rfl rfl (by kernel_rfl) (by kernel_rfl) (by kernel_rfl) (fun _ _ _ h => by cases h.1) (.inl ⟨by kernel_rfl, fun _ _ => by kernel_rfl⟩) hS131 ?_
            simp only [List.setIfInBounds_toArray, List.set_cons_succ, List.set_cons_zero]
            refine wpAnyH_done (by kernel_rfl) ?_ _
            exact ⟨rfl, by kernel_rfl, hS131⟩
          · intro w9 hF
            simp only [setAll, List.setIfInBounds_toArray, List.set_cons_succ, List.set_cons_zero]
            have HF : Hid _ := hF
            clear hF
            go_wp2_with fail
            go_roundw
            case rel => exact ⟨i + 1, by omega, by go_num, HF⟩
            case measure => simp [intOf]; omega
        · have HBF : Hid (Below w.heap.size w w5) := HB4.out.trans (HBB.out.mono HB4.out.size)
          go_wp2_with fail
          refine Calls.mono (lives_any _) ?_
          rintro e w6 ⟨rfl, r4⟩
          have HB6 : Hid (Below w.heap.size w w6) := HBF.out.trans (r4.mono HBF.out.size)
          clear r4
          go_wp2_with fail
          go_ret
          exact ⟨rfl, HB6.out⟩
    · unfold MrgC at HM1
      rw [show mgH R = [] by unfold mgH; rw [if_neg hok], show mgN R = [] by unfold mgN; rw [if_neg hok]] at HM1
      clear hfb hf h70 h150 HRL HCS
      generalize R.length = n at *
      by_cases hg1 : (n : Int) < 1
      · clear hok
        go_enter Try.func5, Try.ntmps5
        go_wp2_with fail
        refine Calls.mono HFW.out ?_
        rintro e w1 ⟨rfl, h⟩
        obtain rfl := h.symm
        clear HFW
        go_wp2_with fail
        refine Calls.mono HM1.out ?_
        rintro e w1 ⟨va, vc, na, nc, rfl, r1, r2, r3, r4⟩
        have HB1 : Hid (Below w.heap.size w w1) := r4
        clear r1 r2 r3 r4 HM1
        simp only [List.length_nil]
        go_wp2_with fail
        refine Calls.mono (lives_any _) ?_
        rintro e w2 ⟨rfl, r4⟩
        have HB2 : Hid (Below w.heap.size w w2) := HB1.out.trans (r4.mono HB1.out.size)
        clear r4
        go_wp2_with fail
        go_ret
        exact ⟨rfl, HB2.out⟩
      · have hg2 : (n : Int) > 64 := by omega
        clear hok
        go_enter Try.func5, Try.ntmps5
        go_wp2_with fail
        refine Calls.mono HFW.out ?_
        rintro e w1 ⟨rfl, h⟩
        obtain rfl := h.symm
        clear HFW
        go_wp2_with fail
        refine Calls.mono HM1.out ?_
        rintro e w1 ⟨va, vc, na, nc, rfl, r1, r2, r3, r4⟩
        have HB1 : Hid (Below w.heap.size w w1) := r4
        clear r1 r2 r3 r4 HM1
        simp only [List.length_nil]
        go_wp2_with fail
        refine Calls.mono (lives_any _) ?_
        rintro e w2 ⟨rfl, r4⟩
        have HB2 : Hid (Below w.heap.size w w2) := HB1.out.trans (r4.mono HB1.out.size)
        clear r4
        go_wp2_with fail
        go_ret
        exact ⟨rfl, HB2.out⟩
end Go.Proofs.Ytamfpmpooaejkaa
