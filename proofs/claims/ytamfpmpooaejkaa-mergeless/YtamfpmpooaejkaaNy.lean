/- The walk over MergeLess: the loop. -/
import Derived.Test.YtamfpmpooaejkaaNx
import Derived.BigQuiet
namespace Go.Proofs.Ytamfpmpooaejkaa
open Go.RowKit Go.Shelf
set_option maxRecDepth 1000000
set_option linter.unusedVariables false

theorem c64 (x : UInt8) : (x.toNat : Int) ≤ 255 := by have := x.toNat_lt; omega

set_option maxHeartbeats 8000000 in
theorem less_walk (R : List (List Ev)) (C : List UInt8) (lv cv : Value) (w : World) (hl : RRE w lv R) (hf : Fit R) (hc : RB w cv C) : Calls Try.prog 8 #[lv, cv] w fun e w' => e = .returned (.bool true) ∧ Below w.heap.size w w' := by
  have HFW : Hid _ := few_any lv R w hl hf
  have HRL : Hid (RRE w lv R) := hl
  obtain ⟨la, lc, rfl, q1, _, hcs⟩ := hl
  have HCS : Hid _ := hcs
  have HRB : Hid (RB w cv C) := hc
  obtain ⟨ca, cc, rfl, _⟩ := hc
  clear hcs
  cases hfb : fewB R with
  | false =>
    rw [hfb] at HFW
    clear hfb hf
    generalize R.length = n at *
    generalize C.length = cn at *
    go_enter Try.func8, Try.ntmps8
    go_wp2_with fail
    refine Calls.mono HFW.out ?_
    rintro e w1 ⟨rfl, h⟩
    obtain rfl := h.symm
    go_wp2_with fail
    refine Calls.mono (lives_any _) ?_
    rintro e w1 ⟨rfl, hb⟩
    have HB : Hid _ := hb
    clear hb
    go_wp2_with fail
    go_ret
    exact ⟨rfl, HB.out⟩
  | true =>
    rw [hfb] at HFW
    obtain ⟨h70, h150⟩ := few_yes hfb
    clear hfb hf
    obtain ⟨n, HN⟩ : ∃ n, Hid (R.length = n) := ⟨_, rfl⟩
    rw [HN.out] at HFW HRL q1 h70 ⊢
    obtain ⟨cn, HCN⟩ : ∃ m, Hid (C.length = m) := ⟨_, rfl⟩
    rw [HCN.out] at HRB ⊢
    go_enter Try.func8, Try.ntmps8
    go_wp2_with fail
    refine Calls.mono HFW.out ?_
    rintro e w1 ⟨rfl, h⟩
    obtain rfl := h.symm
    clear HFW
    go_wp2_with fail
    go_loopw [5, 6] (fun sv iv wr => ∃ (i : Nat) (sa : Option Addr) (sc : Nat), i ≤ n ∧ iv = .int .i64 i ∧ sv = .slice sa i sc ∧ Hid (LsS w.heap.size w R C i (.slice sa i sc) wr)) (fun _ iv _ => n - (intOf iv).toNat)
    case atStart => exact ⟨0, none, 0, Nat.zero_le _, rfl, rfl, ⟨[], ⟨rfl, .inl ⟨rfl, rfl⟩⟩, rfl, by simp⟩, Below.refl _ _⟩
    case round =>
      obtain ⟨i, sa, sc, hi, rfl, rfl, HS⟩ := hrel
      rename World => w5
      by_cases hlt : i < n
      · obtain ⟨lb, lo, rv, rfl, cL0, hrow⟩ := HCS.out i _ (getD_row (by rw [HN.out]; exact hlt))
        obtain ⟨ra, rc, rfl⟩ := hrow.slice
        have hct := ct_le R C i
        obtain ⟨ua, uc, hu, HSL'⟩ := slice_evs hrow (ct R C i) hct
        have HSL : Hid _ := HSL'
        obtain ⟨a6, c6, w6, hrun, hS6⟩ := HS.out.push rfl (by omega) ua (ct R C i) uc hu
        have HS6 : Hid _ := hS6
        have cL := cell_later HS.out.bel cL0
        have hin : (i : Int) < (n : Int) := by omega
        have hC1 : ct R C i = if i < C.length then min (R.getD i []).length (C.getD i 0).toNat else (R.getD i []).length := rfl
        have hrf : (R.getD i []).length ≤ 150 := by
          have h9 := totR_succ (R := R) (i := i) (by rw [HN.out]; exact hlt)
          have h8 := totR_le R (i + 1)
          omega
        rw [HCN.out] at hC1
        clear HSL' hS6 cL0 hrow hu h150
        generalize ct R C i = q at *
        generalize (R.getD i []).length = rn at *
        by_cases hci : i < cn
        · rw [if_pos hci] at hC1
          obtain ⟨ca', cc', hce, _, _, _, hcc⟩ := HRB.out
          simp only [Value.slice.injEq] at hce
          obtain ⟨rfl, hz, rfl⟩ := hce
          obtain ⟨cb, co, rfl, cC0⟩ := hcc i (by rw [HCN.out]; exact hci)
          have cC := cell_later HS.out.bel cC0
          have h255 := c64 (C.getD i 0)
          clear hcc cC0 hz
          generalize (C.getD i 0).toNat = c at *
          have hcin : (i : Int) < (cn : Int) := by omega
          have hsl := HSL.out w5
          by_cases hm : rn ≤ c
          · rw [Nat.min_eq_left hm] at hC1
            subst hC1
            have hml : ¬ (c : Int) < (q : Int) := by omega
            go_wp2_with (first
              | (at_builtin; refine Lib.wpList_append_run _ rfl _ _ _ _ rfl _ _ rfl rfl _ _ hrun ?_))
            go_roundw
            case rel => exact ⟨i + 1, a6, c6, by omega, by go_num, rfl, HS6⟩
            case measure => simp [intOf]; omega
          · rw [Nat.min_eq_right (by omega)] at hC1
            subst hC1
            have hml : (q : Int) < (rn : Int) := by omega
            go_wp2_with (first
              | (at_builtin; refine Lib.wpList_append_run _ rfl _ _ _ _ rfl _ _ rfl rfl _ _ hrun ?_))
            go_roundw
            case rel => exact ⟨i + 1, a6, c6, by omega, by go_num, rfl, HS6⟩
            case measure => simp [intOf]; omega
        · rw [if_neg hci] at hC1
          subst hC1
          have hcin : ¬ (i : Int) < (cn : Int) := by omega
          have hsl := HSL.out w5
          go_wp2_with (first
            | (at_builtin; refine Lib.wpList_append_run _ rfl _ _ _ _ rfl _ _ rfl rfl _ _ hrun ?_))
          go_roundw
          case rel => exact ⟨i + 1, a6, c6, by omega, by go_num, rfl, HS6⟩
          case measure => simp [intOf]; omega
      · obtain rfl : n = i := by omega
        have HB5 : Hid (Below w.heap.size w w5) := HS.out.bel
        have HRR : Hid (RRE w5 (.slice sa n sc) (cutL R C n)) := by
          have h9 := HS.out
          rw [show n = R.length from HN.out.symm] at h9
          have h8 := h9.rre
          rw [HN.out] at h8
          exact h8
        have HM1 : Hid _ := c_merge _ R w5 (HRL.out.later HB5.out) (by omega)
        have HM2 : Hid (∀ w1 v, RRE w1 v (cutL R C n) → Calls Try.prog 11 #[v] w1 fun e w' => MrgC (cutL R C n) w1 e w') := fun w1 v hr => c_merge v _ w1 hr (by have := cutL_tot R C; rw [HN.out] at this; omega)
        have HGL : Hid ((mgH R).length ≤ 150) := Nat.le_trans (mgH_len R) h150
        clear HS HCS HRB h150 HRL
        unfold MrgC at HM1 HM2
        by_cases hok : 1 ≤ n ∧ n ≤ 64
        · have hok' : 1 ≤ R.length ∧ R.length ≤ 64 := by rw [HN.out]; exact hok
          have HLP : Hid (∀ i, i < n → (mgN (cutL R C n)).getD i 0 ≤ (mgN R).getD i 0) := fun i hi => by
            have := less_plain C hok' i (by rw [HN.out]; exact hi)
            rw [HN.out] at this
            exact this
          have HHP : Hid (∀ k, chkN (n : Int) ((mgH R).take k) = 0) := fun k => by
            have := half_plain hok' k
            rw [HN.out] at this
            exact this
          have HL1 : Hid ((mgN R).length = n) := by show _ = _; rw [mgN_len R hok']; exact HN.out
          have HL2 : Hid ((mgN (cutL R C n)).length = n) := by show _ = _; rw [mgN_len _ (by rw [cutL_len]; exact hok)]; exact cutL_len _ _ _
          rw [HL1.out] at HM1
          rw [HL2.out] at HM2
          clear hok' HN HCN
          generalize (mgH (cutL R C n)) = G2 at *
          generalize (mgN (cutL R C n)) = MM at *
          generalize cutL R C n = X at *
          generalize mgH R = G at *
          generalize mgN R = NN at *
          generalize G2.length = m2 at *
          obtain ⟨m, HGm⟩ : ∃ m, Hid (G.length = m) := ⟨_, rfl⟩
          rw [HGm.out] at HM1 HGL
          have hm150 := HGL.out
          have HHC : Hid (∀ w1 v k, RE w1 v (G.take k) → Calls Try.prog 19 #[v, .int .i64 (n : Int)] w1 fun e w' => e = .returned (.int .i64 0) ∧ Below w1.heap.size w1 w') := fun w1 v k hr => by
            have h9 := c_check v _ (n : Int) w1 hr (by rw [List.length_take, HGm.out]; omega)
            rw [HHP.out k] at h9
            exact h9
          clear HHP
          obtain ⟨h1, h64⟩ := hok
          go_wp2_with fail
          refine Calls.mono HM1.out ?_
          rintro e w6 ⟨va, vc, na, nc, rfl, r1, r2, r3, r4⟩
          have HG6 : Hid (RE w6 (.slice va m vc) G) := r1
          have HN6 : Hid (RI w6 (.slice na n nc) NN) := r3
          have HR6 : Hid (RRE w6 (.slice sa n sc) X) := HRR.out.later r4
          have HB6 : Hid (Below w.heap.size w w6) := HB5.out.trans (r4.mono HB5.out.size)
          clear r1 r2 r3 r4 HM1 HRR HB5
          go_wp2_with fail
          refine Calls.mono (HM2.out w6 _ HR6.out) ?_
          rintro e w7 ⟨vb, vd, ma, mc, rfl, r1, r2, r3, r4⟩
          have HG7 : Hid (RE w7 (.slice va m vc) G) := HG6.out.later r4
          have HN7 : Hid (RI w7 (.slice na n nc) NN) := HN6.out.later r4
          have HM7 : Hid (RI w7 (.slice ma n mc) MM) := r3
          have HB7 : Hid (Below w.heap.size w w7) := HB6.out.trans (r4.mono HB6.out.size)
          clear r1 r2 r3 r4 HM2 HR6 HB6 HG6 HN6
          go_wp2_with fail
          go_loopw [12] (fun iv wr => ∃ i : Nat, i ≤ n ∧ iv = .int .i64 i ∧ Hid (Below w7.heap.size w7 wr)) (fun iv _ => n - (intOf iv).toNat)
          case atStart => exact ⟨0, Nat.zero_le _, rfl, Below.refl _ _⟩
          case round =>
            obtain ⟨i, hi, rfl, HBB⟩ := hrel
            rename World => w8
            by_cases hlt : i < n
            · obtain ⟨nb', ncp, hne, _, _, hnc⟩ := HN7.out
              simp only [Value.slice.injEq] at hne
              obtain ⟨rfl, hz, rfl⟩ := hne
              obtain ⟨nb, no, rfl, cN0⟩ := hnc i (by rw [HL1.out]; exact hlt)
              obtain ⟨mb', mcp, hme, _, _, hmc⟩ := HM7.out
              simp only [Value.slice.injEq] at hme
              obtain ⟨rfl, hz2, rfl⟩ := hme
              obtain ⟨mb, mo, rfl, cM0⟩ := hmc i (by rw [HL2.out]; exact hlt)
              have cN := cell_later HBB.out cN0
              have cM := cell_later HBB.out cM0
              have hle := HLP.out i hlt
              clear hz hz2 hnc hmc cN0 cM0
              generalize NN.getD i 0 = x at *
              generalize MM.getD i 0 = y at *
              have hin : (i : Int) < (n : Int) := by omega
              have hd : decide (x < y) = false := decide_eq_false (by omega)
              go_wp2_with fail
              go_quiet (fail)
              go_wp2_with fail
              go_roundw
              case rel => exact ⟨i + 1, by omega, by go_num, below_drewN HBB.out _⟩
              case measure => simp [intOf]; omega
            · have HG8 : Hid (RE w8 (.slice va m vc) G) := HG7.out.later HBB.out
              have HB8 : Hid (Below w.heap.size w w8) := HB7.out.trans (HBB.out.mono HB7.out.size)
              obtain ⟨ua, uc, hu, HSL'⟩ := slice_evs HG8.out (m / 2) (by rw [HGm.out]; omega)
              have hsl := HSL' w8
              have HK : Hid _ := HHC.out w8 _ _ hu
              have hg1 : ¬ (n : Int) < 1 := by omega
              have hg2 : ¬ (n : Int) > 64 := by omega
              have htd : (m : Int).tdiv 2 = ((m / 2 : Nat) : Int) := by rw [Int.tdiv_eq_ediv_of_nonneg (by omega)]; omega
              have hmb : m / 2 ≤ 150 := by omega
              have hwr : wrap64 ((m / 2 : Nat) : Int) = ((m / 2 : Nat) : Int) := by unfold wrap64; omega
              clear HSL' hu HHC
              generalize m / 2 = hm at *
              go_wp2_with fail
              refine Calls.mono HK.out ?_
              rintro e w9 ⟨rfl, r4⟩
              have HB9 : Hid (Below w.heap.size w w9) := HB8.out.trans (r4.mono HB8.out.size)
              clear r4 HK
              go_wp2_with fail
              refine Calls.mono (lives_any _) ?_
              rintro e w10 ⟨rfl, r4⟩
              have HB10 : Hid (Below w.heap.size w w10) := HB9.out.trans (r4.mono HB9.out.size)
              clear r4
              go_wp2_with fail
              go_ret
              exact ⟨rfl, HB10.out⟩
        · have e1 : mgN R = [] := by unfold mgN; rw [if_neg (by rw [HN.out]; exact hok)]
          have e2 : mgN (cutL R C n) = [] := by unfold mgN; rw [if_neg (by rw [cutL_len]; exact hok)]
          rw [e1] at HM1
          rw [e2] at HM2
          clear e1 e2 HN HCN HGL
          generalize (mgH (cutL R C n)) = G2 at *
          generalize mgH R = G at *
          generalize cutL R C n = X at *
          generalize G2.length = m2 at *
          generalize G.length = m at *
          go_wp2_with fail
          refine Calls.mono HM1.out ?_
          rintro e w6 ⟨va, vc, na, nc, rfl, r1, r2, r3, r4⟩
          have HR6 : Hid (RRE w6 (.slice sa n sc) X) := HRR.out.later r4
          have HB6 : Hid (Below w.heap.size w w6) := HB5.out.trans (r4.mono HB5.out.size)
          clear r1 r2 r3 r4 HM1 HRR HB5
          simp only [List.length_nil]
          go_wp2_with fail
          refine Calls.mono (HM2.out w6 _ HR6.out) ?_
          rintro e w7 ⟨vb, vd, ma, mc, rfl, r1, r2, r3, r4⟩
          have HB7 : Hid (Below w.heap.size w w7) := HB6.out.trans (r4.mono HB6.out.size)
          clear r1 r2 r3 r4 HM2 HR6 HB6
          simp only [List.length_nil]
          go_wp2_with fail
          go_loopw [12] (fun iv wr => iv = .int .i64 0 ∧ Hid (Below w.heap.size w wr)) (fun iv _ => 0)
          case atStart => exact ⟨rfl, HB7⟩
          case round =>
            obtain ⟨rfl, HB8⟩ := hrel
            rename World => w8
            by_cases hg1 : (n : Int) < 1
            · go_wp2_with fail
              refine Calls.mono (lives_any _) ?_
              rintro e w10 ⟨rfl, r4⟩
              have HB10 : Hid (Below w.heap.size w w10) := HB8.out.trans (r4.mono HB8.out.size)
              clear r4
              go_wp2_with fail
              go_ret
              exact ⟨rfl, HB10.out⟩
            · have hg2 : (n : Int) > 64 := by omega
              go_wp2_with fail
              refine Calls.mono (lives_any _) ?_
              rintro e w10 ⟨rfl, r4⟩
              have HB10 : Hid (Below w.heap.size w w10) := HB8.out.trans (r4.mono HB8.out.size)
              clear r4
              go_wp2_with fail
              go_ret
              exact ⟨rfl, HB10.out⟩
end Go.Proofs.Ytamfpmpooaejkaa
