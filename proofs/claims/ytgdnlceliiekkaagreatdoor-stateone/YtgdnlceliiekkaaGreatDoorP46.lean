/- Texts of the seat, packed: Ls. -/
import Derived.Test.YtgdnlceliiekkaaGreatDoorP45
import Derived.Deep.CutRange
/- StateOne's walk. -/
namespace Go.Proofs.YtgdnlceliiekkaaGreatDoor.Sa
open Go.RowKit Go.Shelf Go.Proofs.YtgdnlceliiekkaaGreatDoor.Fc Go.Proofs.YtgdnlceliiekkaaGreatDoor.St Go.Proofs.YtgdnlceliiekkaaGreatDoor.Sx
set_option maxRecDepth 1000000
set_option linter.unusedVariables false

/-- What right facts tell of an item. -/
structure One (its : List It) (l : List Fa) (i : Nat) (x : It) (z : Int) (c : Bool) : Prop where
  cle : cleS its l i = c
  s1 : z = 3 ∨ z = 0 ∨ z = 5 → c = true
  s2 : z = 2 → x.sub = false → c = false
  inn : 1 ≤ i → ∃ j : Nat, x.inn = (j : Int) ∧ j < i ∧ (St.S (plOf its) (fOf l) j = 3 → c = true)
  at_ : x.sub = true → z = 3 → atS its l i = x.alts - 1

theorem one_of {its : List It} {l : List Fa} (hc : chkF its l = 0) {i : Nat} {x : It} (hx : its[i]? = some x) : One its l i x (St.S (plOf its) (fOf l) i) (W (plOf its) (fOf l) i).clean := by
  obtain ⟨hsome, hok⟩ := chkF_iff.1 hc
  obtain ⟨q, hq⟩ := Option.isSome_iff_exists.1 hsome
  have hp := plan_ok hq
  have hi := (List.getElem?_eq_some_iff.1 hx).1
  have hlen : l.length = its.length := by have := hok.1; unfold subs at this; rw [List.length_map] at this; exact this
  have hf : ∀ i, i < (plOf its).n → okF (fOf l i) := fun i h => (hok.2 i (by rw [hlen]; exact h)).1
  obtain ⟨o1, o2, o3, o4⟩ := state_one hp hf (i := i) hi
  have hsub : (plOf its).sub i = x.sub := by show (its.getD i It.z).sub = _; rw [getD_it hx]
  refine ⟨?_, o1, fun h h2 => o2 h (hsub.trans h2), fun h1 => ?_, fun hs hz => ?_⟩
  · unfold cleS
    rw [if_pos hc, decide_eq_true ⟨by omega, by omega⟩, Int.toNat_natCast]
    rfl
  · obtain ⟨⟨j, a, y, e1, e2, e3, _⟩, _⟩ := (plan_items hq).2 i x hx h1
    refine ⟨j, e1, e3, fun h => o3 h1 ?_⟩
    have : (plOf its).inn i = j := by show (its.getD i It.z).inn.toNat = j; rw [getD_it hx, e1]; rfl
    rw [this]
    exact h
  · have h4 := o4 (hsub.trans hs) hz
    unfold atS
    rw [if_pos hc, if_pos ⟨by omega, by omega⟩, Int.toNat_natCast]
    unfold atP
    rw [hsub, hs, if_pos rfl, h4]
    have h1 := hp.alts i hi (hsub.trans hs)
    have h2 : (plOf its).alts i = x.alts.toNat := by show (its.getD i It.z).alts.toNat = _; rw [getD_it hx]
    rw [h2] at h1 ⊢
    omega

set_option maxHeartbeats 64000000 in
theorem one_walk (its : List It) (v lv : Value) (l : List Fa) (w : World) (hT : Dg.Tab w) (hIt : RdIt w v its) (hil : its.length ≤ maxLen) (hnm : ∀ x ∈ its, x.name.length ≤ maxLen ∧ x.undo.length ≤ maxLen ∧ x.after.length ≤ maxLen) (hl : RF w lv l) :
    Calls Tryz.prog 3 #[.agg #[v], lv] w fun x w' => x = .returned (.bool true) ∧ Below w.heap.size w w' := by
  have h0 : ChS w v (w.alloc (.cells #[v] 24)) := ⟨bl1 _ _, Dg.row_new w _ 24⟩
  have MS0 := small_any its v _ (hIt.later h0.bel) hil hnm
  have HIt : Hid (∀ W, Below w.heap.size w W → RdIt W v its) := fun W hb => hIt.later hb
  have HL : Hid (∀ W, Below w.heap.size w W → RF W lv l) := fun W hb => hl.later hb
  have HLV : Hid (∀ W, Below w.heap.size w W → Calls Tryz.prog 8 #[] W fun x w' => x = .returned (.bool true) ∧ Below W.heap.size W w') := fun W hb => lives_any W (hT.later hb)
  have HT : Hid (∀ W, Below w.heap.size w W → Dg.Tab W) := fun W hb => hT.later hb
  obtain ⟨ia, icap, rfl, hic, hir⟩ := hIt
  obtain ⟨la, lcap, rfl, hl1, hl2, _⟩ := hl
  have hlm : l.length ≤ maxLen := by omega
  have HIR : Hid _ := hir
  clear hnm hir hl1 hl2
  obtain ⟨q, HQ⟩ : ∃ q, Hid (smallI its = q) := ⟨_, rfl⟩
  rw [HQ.out] at MS0
  obtain ⟨n, HN⟩ : ∃ n, Hid (its.length = n) := ⟨_, rfl⟩
  obtain ⟨ml, HML⟩ : ∃ n, Hid (l.length = n) := ⟨_, rfl⟩
  have H0 : Hid (ChS w (.slice ia n icap) (w.alloc (.cells #[.slice ia n icap] 24))) := by show ChS _ _ _; rw [← HN.out]; exact h0
  have MS : Hid (Calls Tryz.prog 7 #[.agg #[.slice ia n icap]] (w.alloc (.cells #[.slice ia n icap] 24)) fun x w' => x = .returned (.bool q) ∧ Below (w.alloc (.cells #[.slice ia n icap] 24)).heap.size (w.alloc (.cells #[.slice ia n icap] 24)) w') := by show Calls _ _ _ _ _; rw [← HN.out]; exact MS0
  unfold maxLen at hlm
  rw [HN.out] at HIt hic ⊢
  rw [HML.out] at HL hlm ⊢
  have c0 := (Dg.cell_row H0.out.box 0).trans rfl
  clear h0 MS0 hT
  go_enter Tryz.func3, Tryz.ntmps3
  go_wp2_with fail
  generalize w.alloc (.cells #[.slice ia n icap] 24) = w0 at *
  refine Calls.mono MS.out ?_
  rintro x w1 ⟨rfl, hb1⟩
  have H1 : Hid _ := H0.out.later hb1
  clear MS hb1 H0 c0
  by_cases hg : q = true ∧ ml ≤ 100
  rotate_left
  · cases q with
    | false =>
      go_wp2_with fail
      refine Calls.mono (HLV.out _ H1.out.bel) ?_
      rintro x w2 ⟨rfl, hb2⟩
      have H2 : Hid _ := H1.out.later hb2
      clear hb2
      go_wp2_with fail
      go_ret
      exact ⟨rfl, H2.out.bel⟩
    | true =>
      have hgt : (ml : Int) > 100 := by have : ¬ ml ≤ 100 := fun h => hg ⟨rfl, h⟩; omega
      go_wp2_with fail
      refine Calls.mono (HLV.out _ H1.out.bel) ?_
      rintro x w2 ⟨rfl, hb2⟩
      have H2 : Hid _ := H1.out.later hb2
      clear hb2
      go_wp2_with fail
      go_ret
      exact ⟨rfl, H2.out.bel⟩
  obtain ⟨rfl, hml⟩ := hg
  obtain ⟨hfair, h70⟩ := small_fair HQ.out
  rw [HN.out] at h70
  have HFA : Hid _ := hfair
  have z1 := (Dg.cell_row H1.out.box 0).trans rfl
  have HPF : Hid (∀ W, Below w.heap.size w W → PF its l (.slice ia n icap) (.slice la ml lcap) W) := fun W hb => ⟨HIt.out W hb, HFA.out, HT.out W hb, HL.out W hb, by rw [HN.out]; omega, by rw [HML.out]; omega⟩
  have hgt : ¬ (ml : Int) > 100 := by omega
  clear hfair
  by_cases hc : chkF its l = 0
  rotate_left
  · have h2 : chkF its l = 2 := by unfold chkF at hc ⊢; split at hc <;> simp_all
    have HA : Hid (Calls Tryz.prog 9 #[.agg #[.slice ia n icap], .slice la ml lcap] w1 fun e w' => Below w1.heap.size w1 w' ∧ ∃ a c, e = .returned (.tuple #[.slice a 0 c, .int .i64 2])) := Calls.mono (All_any (HPF.out w1 H1.out.bel)) (by
        rintro e w' ⟨hb, a, c, rfl, hr⟩
        have h8 : allS its l = [] := by unfold allS; rw [if_neg hc]
        rw [h8, h2]
        exact ⟨hb, a, c, rfl⟩)
    have hv0 : verS its l = 0 := by unfold verS; rw [if_neg hc]
    have HV : Hid (∀ W, Below w.heap.size w W → Calls Tryz.prog 10 #[.agg #[.slice ia n icap], .slice la ml lcap] W fun e w' => e = .returned (.int .i64 0) ∧ Below W.heap.size W w') := fun W hb => Calls.mono (Verdict_any (HPF.out W hb)) (by rintro e w' ⟨rfl, hb⟩; rw [hv0]; exact ⟨rfl, hb⟩)
    clear hc h2
    go_wp2_with fail
    refine Calls.mono HA.out ?_
    rintro x w2 ⟨hb2, a2, c2, rfl⟩
    have H2 : Hid _ := H1.out.later hb2
    have z2 := (Dg.cell_row H2.out.box 0).trans rfl
    clear hb2 HA z1
    go_wp2_with fail
    refine Calls.mono (HV.out _ H2.out.bel) ?_
    rintro x w3 ⟨rfl, hb3⟩
    have H3 : Hid _ := H2.out.later hb3
    clear hb3 HV z2
    go_wp2_with fail
    refine Calls.mono (HLV.out _ H3.out.bel) ?_
    rintro x w4 ⟨rfl, hb4⟩
    have H4 : Hid _ := H3.out.later hb4
    clear hb4
    go_wp2_with fail
    go_ret
    exact ⟨rfl, H4.out.bel⟩
  have HC : Hid _ := hc
  have h64 := (root_len (chkF_iff.1 hc).1).2
  rw [HN.out] at h64
  have HA : Hid (Calls Tryz.prog 9 #[.agg #[.slice ia n icap], .slice la ml lcap] w1 fun e w' => Below w1.heap.size w1 w' ∧ ∃ a c, e = .returned (.tuple #[.slice a n c, .int .i64 0]) ∧ n ≤ c ∧ ∀ i, i < n → ∃ b off, a = some ⟨b, off, none⟩ ∧ w'.cell? ⟨b, off + i, none⟩ = some (.int .i64 (St.S (plOf its) (fOf l) i))) := Calls.mono (All_any (HPF.out w1 H1.out.bel)) (by
    rintro e w' ⟨hb, a, c, rfl, hr⟩
    have h8 : allS its l = (List.range n).map (St.S (plOf its) (fOf l)) := by unfold allS; rw [if_pos hc, HN.out]
    rw [h8, List.length_map, List.length_range] at hr ⊢
    rw [hc]
    refine ⟨hb, a, c, rfl, ?_⟩
    obtain ⟨a', c', e', hc', hr'⟩ := hr
    rw [List.length_map, List.length_range] at e' hc'
    cases e'
    exact ⟨hc', fun i hi => hr' i _ (by rw [List.getElem?_map, List.getElem?_range hi]; rfl)⟩)
  have hnn : ((n : Int) != (n : Int)) = false := by simp
  clear hc
  go_wp2_with fail
  refine Calls.mono HA.out ?_
  rintro x w2 ⟨hb2, sa, scap, rfl, hsc, hs2⟩
  have H2 : Hid _ := H1.out.later hb2
  have HS2 : Hid _ := hs2
  have z2 := (Dg.cell_row H2.out.box 0).trans rfl
  clear hb2 HA z1 hs2 H1
  go_wp2_with fail
  go_loopw [7] (fun iv wr => ∃ (k : Nat), k ≤ n ∧ iv = .int .i64 k ∧ Hid (Below w2.heap.size w2 wr)) (fun iv _ => n - (intOf iv).toNat)
  case atStart => exact ⟨0, Nat.zero_le _, by go_num, Below.refl _ _⟩
  case round =>
    obtain ⟨k, hk, rfl, HW⟩ := hrel
    rename World => wr
    have HR : Hid _ := H2.out.later HW.out
    have zr := (Dg.cell_row HR.out.box 0).trans rfl
    clear z2
    by_cases hlt : k < n
    rotate_left
    · go_wp2_with fail
      refine Calls.mono (HLV.out _ HR.out.bel) ?_
      rintro x w6 ⟨rfl, hb6⟩
      have H6 : Hid _ := HR.out.later hb6
      clear hb6
      go_wp2_with fail
      go_ret
      exact ⟨rfl, H6.out.bel⟩
    · obtain ⟨y, hy⟩ : ∃ y, its[k]? = some y := ⟨_, List.getElem?_eq_getElem (by rw [HN.out]; exact hlt)⟩
      obtain ⟨sb, so, rfl, sc0⟩ := HS2.out k hlt
      have hON := one_of HC.out hy
      obtain ⟨z, HZ⟩ : ∃ z, Hid (St.S (plOf its) (fOf l) k = z) := ⟨_, rfl⟩
      obtain ⟨c, HCc⟩ : ∃ c, Hid ((W (plOf its) (fOf l) k).clean = c) := ⟨_, rfl⟩
      rw [HZ.out, HCc.out] at hON
      rw [HZ.out] at sc0
      obtain ⟨xb, xo, xav, xam, xac, rfl, k0, k1, k2, k3, k4, k5, k6, k7, _⟩ := HIR.out k y hy
      have HCL : Hid (Calls Tryz.prog 11 #[.agg #[.slice (some ⟨xb, xo, none⟩) n icap], .slice la ml lcap, .int .i64 (k : Int)] wr fun e w' => e = .returned (.bool c) ∧ Below wr.heap.size wr w') := Calls.mono (Clean_any (HPF.out wr HR.out.bel) k) (by rintro e w' ⟨rfl, hb⟩; rw [hON.cle]; exact ⟨rfl, hb⟩)
      have HON : Hid _ := hON
      have hii : (k : Int) < (n : Int) := by omega
      have HK : Hid (∀ W, Below w.heap.size w W → W.cell? ⟨xb, xo + k * 8 + 2, none⟩ = some (.bool y.sub) ∧ W.cell? ⟨xb, xo + k * 8 + 4, none⟩ = some (.int .i64 y.alts) ∧ W.cell? ⟨xb, xo + k * 8 + 5, none⟩ = some (.int .i64 y.inn)) := fun W hb => ⟨Dg.cell_later hb k2, Dg.cell_later hb k4, Dg.cell_later hb k5⟩
      have HSC : Hid (∀ (W : World) (i : Nat), Below w2.heap.size w2 W → i < n → W.cell? ⟨sb, so + i, none⟩ = some (.int .i64 (St.S (plOf its) (fOf l) i))) := fun W i hb hi => by
        obtain ⟨b', o', e', hcc⟩ := HS2.out i hi
        cases e'
        exact Dg.cell_later hb hcc
      clear k0 k1 k2 k3 k4 k5 k6 k7 sc0 hON
      go_wp2_with fail
      refine Calls.mono HCL.out ?_
      rintro x w5 ⟨rfl, hb5⟩
      have HB5 : Hid (Below w2.heap.size w2 w5) := HW.out.trans (hb5.mono HW.out.size)
      have H5 : Hid _ := HR.out.later hb5
      have z5 := (Dg.cell_row H5.out.box 0).trans rfl
      obtain ⟨m2, m4, m5⟩ := HK.out w5 H5.out.bel
      have s5 := HSC.out w5 k HB5.out hlt
      rw [HZ.out] at s5
      have HAT : Hid (∀ W, Below w.heap.size w W → Calls Tryz.prog 12 #[.agg #[.slice (some ⟨xb, xo, none⟩) n icap], .slice la ml lcap, .int .i64 (k : Int)] W fun e w' => e = .returned (.int .i64 (atS its l k)) ∧ Below W.heap.size W w') := fun W hb => At_any (HPF.out W hb) k
      have HRND : Hid (∀ W, Below w5.heap.size w5 W → Below w2.heap.size w2 W) := fun W hb => HB5.out.trans (hb.mono HB5.out.size)
      clear hb5 HCL zr HR
      -- by the status and by what the item is
      obtain ⟨su, HSU⟩ : ∃ su, Hid (y.sub = su) := ⟨_, rfl⟩
      rw [HSU.out] at m2
      have HF1 : Hid (z = 3 ∨ z = 0 ∨ z = 5 → c = true) := HON.out.s1
      have HF2 : Hid (z = 2 → su = false → c = false) := fun h h2 => HON.out.s2 h (HSU.out.trans h2)
      have HFA3 : Hid (su = true → z = 3 → atS its l k = y.alts - 1) := fun h h2 => HON.out.at_ (HSU.out.trans h) h2
      have hzc : z = 3 ∨ z = 0 ∨ z = 5 ∨ z = 2 ∨ (¬ z = 3 ∧ ¬ z = 0 ∧ ¬ z = 5 ∧ ¬ z = 2) := by omega
      have hal : 1 ≤ y.alts → y.alts ≤ 4 := fun _ => by
        obtain ⟨q9, hq9⟩ := Option.isSome_iff_exists.1 (chkF_iff.1 HC.out).1
        have hpi := plan_items hq9
        by_cases hk0 : k = 0
        · subst hk0
          obtain ⟨r, r0, r1, r2, r3, r4, r5⟩ := hpi.1
          rw [r0] at hy
          cases hy
          exact r5
        · have := (hpi.2 k y hy (by omega)).2
          split at this <;> omega
      have HA1 : Hid (y.sub = true → 1 ≤ y.alts) := fun hs => by
        obtain ⟨q9, hq9⟩ := Option.isSome_iff_exists.1 (chkF_iff.1 HC.out).1
        have hpi := plan_items hq9
        by_cases hk0 : k = 0
        · subst hk0
          obtain ⟨r, r0, r1, r2, r3, r4, r5⟩ := hpi.1
          rw [r0] at hy
          cases hy
          exact r4
        · have := (hpi.2 k y hy (by omega)).2
          rw [hs, if_pos rfl] at this
          exact this.1
      clear hy
      obtain ⟨yi, HYI⟩ : ∃ yi, Hid (y.inn = yi) := ⟨_, rfl⟩
      rw [HYI.out] at m5
      go_upto_region 12 with fail
      go_cut [96] from 45 to 151 (fun s wx => s = .bool false ∧ w5 = wx)
      case first =>
        rcases hzc with rfl | rfl | rfl | rfl | ⟨g3, g0, g5, g2⟩
        · obtain rfl : c = true := HF1.out (by omega)
          go_wp2_with fail
          go_meet
          exact ⟨rfl, rfl⟩
        · obtain rfl : c = true := HF1.out (by omega)
          go_wp2_with fail
          go_meet
          exact ⟨rfl, rfl⟩
        · obtain rfl : c = true := HF1.out (by omega)
          go_wp2_with fail
          go_meet
          exact ⟨rfl, rfl⟩
        · cases su with
          | false =>
            obtain rfl : c = false := HF2.out rfl rfl
            go_wp2_with fail
            go_meet
            exact ⟨rfl, rfl⟩
          | true =>
            go_wp2_with fail
            go_meet
            exact ⟨rfl, rfl⟩
        · have e3 : (z == 3) = false := by simpa using g3
          have e0 : (z == 0) = false := by simpa using g0
          have e5 : (z == 5) = false := by simpa using g5
          have e2 : (z == 2) = false := by simpa using g2
          clear g3 g0 g5 g2
          go_wp2_with fail
          go_meet
          exact ⟨rfl, rfl⟩
      case rest =>
      obtain ⟨rfl, hwc⟩ := hcut
      subst hwc
      go_upto_region 15 with fail
      go_cut [124] from 45 to 151 (fun s wx => s = .bool false ∧ w5 = wx)
      case first =>
        by_cases hk0 : k = 0
        · subst hk0
          have hg1 : decide (0 < 0) = false := rfl
          go_wp2_with fail
          go_meet
          exact ⟨rfl, rfl⟩
        · obtain ⟨j, hj1, hj2, hj3⟩ := HON.out.inn (by omega)
          rw [HYI.out] at hj1
          subst hj1
          have sj := HSC.out w5 j HB5.out (by omega)
          have hg1 : decide (0 < k) = true := decide_eq_true (by omega)
          have hg2 : (0 : Int) < (k : Int) := by omega
          have hg3 : (j : Int) < (k : Int) := by omega
          have hg4 : (j : Int) < (n : Int) := by omega
          have hjj : Value.bool (decide ((j : Int) < 0) || decide (k ≤ j)) = Value.bool false := by rw [decide_eq_false (by omega : ¬ (j : Int) < 0), decide_eq_false (by omega : ¬ k ≤ j)]; rfl
          obtain ⟨u, HU⟩ : ∃ u, Hid (St.S (plOf its) (fOf l) j = u) := ⟨_, rfl⟩
          rw [HU.out] at sj hj3
          by_cases hu : u = 3
          · subst hu
            obtain rfl : c = true := hj3 rfl
            clear hj3
            go_wp2_with fail
            go_meet
            first | exact ⟨rfl, rfl⟩ | exact ⟨hjj, rfl⟩
          · have e9 : (u == 3) = false := by simpa using hu
            clear hj3 hu
            go_wp2_with fail
            go_meet
            first | exact ⟨rfl, rfl⟩ | exact ⟨hjj, rfl⟩
      case rest =>
      obtain ⟨rfl, hwc⟩ := hcut
      subst hwc
      cases su with
      | false =>
        go_wp2_with fail
        go_quiet (fail)
        go_wp2_with fail
        go_roundw
        case rel => exact ⟨k + 1, by omega, by go_num, HRND.out _ (drawn_below (Below.refl _ _) _)⟩
        case measure => simp [intOf] <;> omega
      | true =>
        by_cases hz3 : z = 3
        · subst hz3
          go_wp2_with fail
          have HFA4 : Hid _ := HFA3.out (by first | rfl | trivial) (by first | rfl | trivial)
          have hal4 : 1 ≤ y.alts ∧ y.alts ≤ 4 := ⟨HA1.out HSU.out, hal (HA1.out HSU.out)⟩
          have HAT2 : Hid (∀ W, Below w5.heap.size w5 W → Calls Tryz.prog 12 #[.agg #[.slice (some ⟨xb, xo, none⟩) n icap], .slice la ml lcap, .int .i64 (k : Int)] W fun e w' => e = .returned (.int .i64 (y.alts - 1)) ∧ Below w5.heap.size w5 w') := fun W hb => Calls.mono (HAT.out W (H5.out.bel.trans (hb.mono H5.out.bel.size))) (by rintro e w' ⟨rfl, hb'⟩; rw [HFA4.out]; exact ⟨rfl, hb.trans (hb'.mono hb.size)⟩)
          have hw9 : IntKind.i64.wrap (y.alts - 1) = y.alts - 1 := by rw [IntKind.wrap_i64]; omega
          have hne9 : ((y.alts - 1) != (y.alts - 1)) = false := by simp
          have hCUR : Below w5.heap.size w5 w5.drew := (Below.refl _ _).drew
          have hS0 := hCUR
          refine region_thenF [(125, .pointer (some ⟨w.heap.size, 0, none⟩)), (126, .slice (some ⟨xb, xo, none⟩) n icap), (127, .int .i64 k), (128, .pointer (some ⟨xb, xo + k * 8, none⟩)), (129, .pointer (some ⟨xb, xo + k * 8 + 2, none⟩)), (130, .bool true), (131, .bool true), (132, .slice (some ⟨sb, so, none⟩) n scap), (133, .int .i64 k), (134, .pointer (some ⟨sb, so + k, none⟩)), (135, .int .i64 3), (136, .bool true), (137, .bool true), (138, .bool true), (139, .agg #[.slice (some ⟨xb, xo, none⟩) n icap]), (140, .slice la ml lcap), (141, .int .i64 k), (142, .int .i64 (y.alts - 1)), (143, .pointer (some ⟨w.heap.size, 0, none⟩)), (144, .slice (some ⟨xb, xo, none⟩) n icap), (145, .int .i64 k), (146, .pointer (some ⟨xb, xo + k * 8, none⟩)), (147, .pointer (some ⟨xb, xo + k * 8 + 4, none⟩)), (148, .int .i64 y.alts), (149, .int .i64 (y.alts - 1)), (150, .bool false), (151, .bool false)] (fun w' => Below w5.heap.size w5 w') ?_ ?_
          · refine wp_region_held (S := fun w' => Below w5.heap.size w5 w') (by kernel_rfl) ?_
            simp only [List.size_toArray, List.length_cons, List.length_nil, Nat.reduceAdd, Array.replicate_succ, Array.replicate_zero, List.push_toArray, List.nil_append, List.cons_append]
            refine takeD (i := 0) (d := 125) (v := .pointer (some ⟨w.heap.size, 0, none⟩)) (fuel := 26) rfl rfl (by kernel_rfl) (by kernel_rfl) (by kernel_rfl) (fun _ _ _ h => by cases h.1) (.inl ⟨by kernel_rfl, fun _ _ => by go_simp⟩) hS0 ?_
            simp only [List.setIfInBounds_toArray, List.set_cons_succ, List.set_cons_zero]
            refine takeD (i := 1) (d := 126) (v := .slice (some ⟨xb, xo, none⟩) n icap) (fuel := 25) rfl rfl (by kernel_rfl) (by kernel_rfl) (by kernel_rfl) (fun _ _ _ h => by cases h.1) (.inl ⟨by kernel_rfl, fun wx h => by have y0 := Dg.cell_later h z5; go_simp⟩) hS0 ?_
            simp only [List.setIfInBounds_toArray, List.set_cons_succ, List.set_cons_zero]
            refine takeD (i := 2) (d := 127) (v := .int .i64 k) (fuel := 24) rfl rfl (by kernel_rfl) (by kernel_rfl) (by kernel_rfl) (fun _ _ _ h => by cases h.1) (.inl ⟨by kernel_rfl, fun _ _ => by kernel_rfl⟩) hS0 ?_
            simp only [List.setIfInBounds_toArray, List.set_cons_succ, List.set_cons_zero]
            refine takeD (i := 3) (d := 128) (v := .pointer (some ⟨xb, xo + k * 8, none⟩)) (fuel := 23) rfl rfl (by kernel_rfl) (by kernel_rfl) (by kernel_rfl) (fun _ _ _ h => by cases h.1) (.inl ⟨by kernel_rfl, fun _ _ => by go_simp⟩) hS0 ?_
            simp only [List.setIfInBounds_toArray, List.set_cons_succ, List.set_cons_zero]
            refine takeD (i := 4) (d := 129) (v := .pointer (some ⟨xb, xo + k * 8 + 2, none⟩)) (fuel := 22) rfl rfl (by kernel_rfl) (by kernel_rfl) (by kernel_rfl) (fun _ _ _ h => by cases h.1) (.inl ⟨by kernel_rfl, fun _ _ => by go_simp⟩) hS0 ?_
            simp only [List.setIfInBounds_toArray, List.set_cons_succ, List.set_cons_zero]
            refine takeD (i := 5) (d := 130) (v := .bool true) (fuel := 21) rfl rfl (by kernel_rfl) (by kernel_rfl) (by kernel_rfl) (fun _ _ _ h => by cases h.1) (.inl ⟨by kernel_rfl, fun wx h => by have y0 := Dg.cell_later h m2; go_simp⟩) hS0 ?_
            simp only [List.setIfInBounds_toArray, List.set_cons_succ, List.set_cons_zero]
            refine takeD (i := 6) (d := 131) (v := .bool true) (fuel := 20) rfl rfl (by kernel_rfl) (by kernel_rfl) (by kernel_rfl) (fun _ _ _ h => by cases h.1) (.inl ⟨by kernel_rfl, fun _ _ => by kernel_rfl⟩) hS0 ?_
            simp only [List.setIfInBounds_toArray, List.set_cons_succ, List.set_cons_zero]
            refine takeD (i := 7) (d := 132) (v := .slice (some ⟨sb, so, none⟩) n scap) (fuel := 19) rfl rfl (by kernel_rfl) (by kernel_rfl) (by kernel_rfl) (fun _ _ _ h => by cases h.1) (.inl ⟨by kernel_rfl, fun _ _ => by kernel_rfl⟩) hS0 ?_
            simp only [List.setIfInBounds_toArray, List.set_cons_succ, List.set_cons_zero]
            refine takeD (i := 8) (d := 133) (v := .int .i64 k) (fuel := 18) rfl rfl (by kernel_rfl) (by kernel_rfl) (by kernel_rfl) (fun _ _ _ h => by cases h.1) (.inl ⟨by kernel_rfl, fun _ _ => by kernel_rfl⟩) hS0 ?_
            simp only [List.setIfInBounds_toArray, List.set_cons_succ, List.set_cons_zero]
            refine takeD (i := 9) (d := 134) (v := .pointer (some ⟨sb, so + k, none⟩)) (fuel := 17) rfl rfl (by kernel_rfl) (by kernel_rfl) (by kernel_rfl) (fun _ _ _ h => by cases h.1) (.inl ⟨by kernel_rfl, fun _ _ => by go_simp⟩) hS0 ?_
            simp only [List.setIfInBounds_toArray, List.set_cons_succ, List.set_cons_zero]
            refine takeD (i := 10) (d := 135) (v := .int .i64 3) (fuel := 16) rfl rfl (by kernel_rfl) (by kernel_rfl) (by kernel_rfl) (fun _ _ _ h => by cases h.1) (.inl ⟨by kernel_rfl, fun wx h => by have y0 := Dg.cell_later h s5; go_simp⟩) hS0 ?_
            simp only [List.setIfInBounds_toArray, List.set_cons_succ, List.set_cons_zero]
            refine takeD (i := 11) (d := 136) (v := .bool true) (fuel := 15) rfl rfl (by kernel_rfl) (by kernel_rfl) (by kernel_rfl) (fun _ _ _ h => by cases h.1) (.inl ⟨by kernel_rfl, fun wx h => by go_simp⟩) hS0 ?_
            simp only [List.setIfInBounds_toArray, List.set_cons_succ, List.set_cons_zero]
            refine takeD (i := 12) (d := 137) (v := .bool true) (fuel := 14) rfl rfl (by kernel_rfl) (by kernel_rfl) (by kernel_rfl) (fun _ _ _ h => by cases h.1) (.inl ⟨by kernel_rfl, fun _ _ => by kernel_rfl⟩) hS0 ?_
            simp only [List.setIfInBounds_toArray, List.set_cons_succ, List.set_cons_zero]
            refine takeD (i := 13) (d := 138) (v := .bool true) (fuel := 13) rfl rfl (by kernel_rfl) (by kernel_rfl) (by kernel_rfl) (fun _ _ _ h => by cases h.1) (.inl ⟨by kernel_rfl, fun _ _ => by kernel_rfl⟩) hS0 ?_
            simp only [List.setIfInBounds_toArray, List.set_cons_succ, List.set_cons_zero]
            refine takeD (i := 14) (d := 139) (v := .agg #[.slice (some ⟨xb, xo, none⟩) n icap]) (fuel := 12) rfl rfl (by kernel_rfl) (by kernel_rfl) (by kernel_rfl) (fun _ _ _ h => by cases h.1) (.inl ⟨by kernel_rfl, fun wx h => by have y0 := Dg.cell_later h z5; go_simp⟩) hS0 ?_
            simp only [List.setIfInBounds_toArray, List.set_cons_succ, List.set_cons_zero]
            refine takeD (i := 15) (d := 140) (v := .slice la ml lcap) (fuel := 11) rfl rfl (by kernel_rfl) (by kernel_rfl) (by kernel_rfl) (fun _ _ _ h => by cases h.1) (.inl ⟨by kernel_rfl, fun _ _ => by kernel_rfl⟩) hS0 ?_
            simp only [List.setIfInBounds_toArray, List.set_cons_succ, List.set_cons_zero]
            refine takeD (i := 16) (d := 141) (v := .int .i64 k) (fuel := 10) rfl rfl (by kernel_rfl) (by kernel_rfl) (by kernel_rfl) (fun _ _ _ h => by cases h.1) (.inl ⟨by kernel_rfl, fun _ _ => by kernel_rfl⟩) hS0 ?_
            simp only [List.setIfInBounds_toArray, List.set_cons_succ, List.set_cons_zero]
            refine takeD (i := 18) (d := 143) (v := .pointer (some ⟨w.heap.size, 0, none⟩)) (fuel := 9) rfl rfl (by kernel_rfl) (by kernel_rfl) (by kernel_rfl) (fun _ _ _ h => by cases h.1) (.inl ⟨by kernel_rfl, fun _ _ => by go_simp⟩) hS0 ?_
            simp only [List.setIfInBounds_toArray, List.set_cons_succ, List.set_cons_zero]
            refine takeD (i := 19) (d := 144) (v := .slice (some ⟨xb, xo, none⟩) n icap) (fuel := 8) rfl rfl (by kernel_rfl) (by kernel_rfl) (by kernel_rfl) (fun _ _ _ h => by cases h.1) (.inl ⟨by kernel_rfl, fun wx h => by have y0 := Dg.cell_later h z5; go_simp⟩) hS0 ?_
            simp only [List.setIfInBounds_toArray, List.set_cons_succ, List.set_cons_zero]
            refine takeD (i := 20) (d := 145) (v := .int .i64 k) (fuel := 7) rfl rfl (by kernel_rfl) (by kernel_rfl) (by kernel_rfl) (fun _ _ _ h => by cases h.1) (.inl ⟨by kernel_rfl, fun _ _ => by kernel_rfl⟩) hS0 ?_
            simp only [List.setIfInBounds_toArray, List.set_cons_succ, List.set_cons_zero]
            refine takeD (i := 21) (d := 146) (v := .pointer (some ⟨xb, xo + k * 8, none⟩)) (fuel := 6) rfl rfl (by kernel_rfl) (by kernel_rfl) (by kernel_rfl) (fun _ _ _ h => by cases h.1) (.inl ⟨by kernel_rfl, fun _ _ => by go_simp⟩) hS0 ?_
            simp only [List.setIfInBounds_toArray, List.set_cons_succ, List.set_cons_zero]
            refine takeD (i := 22) (d := 147) (v := .pointer (some ⟨xb, xo + k * 8 + 4, none⟩)) (fuel := 5) rfl rfl (by kernel_rfl) (by kernel_rfl) (by kernel_rfl) (fun _ _ _ h => by cases h.1) (.inl ⟨by kernel_rfl, fun _ _ => by go_simp⟩) hS0 ?_
            simp only [List.setIfInBounds_toArray, List.set_cons_succ, List.set_cons_zero]
            refine takeD (i := 23) (d := 148) (v := .int .i64 y.alts) (fuel := 4) rfl rfl (by kernel_rfl) (by kernel_rfl) (by kernel_rfl) (fun _ _ _ h => by cases h.1) (.inl ⟨by kernel_rfl, fun wx h => by have y0 := Dg.cell_later h m4; go_simp⟩) hS0 ?_
            simp only [List.setIfInBounds_toArray, List.set_cons_succ, List.set_cons_zero]
            refine takeD (i := 24) (d := 149) (v := .int .i64 (y.alts - 1)) (fuel := 3) rfl rfl (by kernel_rfl) (by kernel_rfl) (by kernel_rfl) (fun _ _ _ h => by cases h.1) (.inl ⟨by kernel_rfl, fun wx h => by go_simp⟩) hS0 ?_
            simp only [List.setIfInBounds_toArray, List.set_cons_succ, List.set_cons_zero]
            refine oneW (R := fun w' => Below w5.heap.size w5 w') (i := 17) (d := 142) (f := 12) (args := #[.agg #[.slice (some ⟨xb, xo, none⟩) n icap], .slice la ml lcap, .int .i64 k]) (v := .int .i64 (y.alts - 1)) (fuel := 2) rfl rfl (by kernel_rfl) (by kernel_rfl) (fun _ => by kernel_rfl) (HAT2.out _ hCUR) (fun w' h => h) (fun wz hR17 => ?_)
            simp only [List.setIfInBounds_toArray, List.set_cons_succ, List.set_cons_zero]
            refine takeD (i := 25) (d := 150) (v := .bool false) (fuel := 1) rfl rfl (by kernel_rfl) (by kernel_rfl) (by kernel_rfl) (fun _ _ _ h => by cases h.1) (.inl ⟨by kernel_rfl, fun wx h => by go_simp⟩) (hR17) ?_
            simp only [List.setIfInBounds_toArray, List.set_cons_succ, List.set_cons_zero]
            refine takeD (i := 26) (d := 151) (v := .bool false) (fuel := 0) rfl rfl (by kernel_rfl) (by kernel_rfl) (by kernel_rfl) (fun _ _ _ h => by cases h.1) (.inl ⟨by kernel_rfl, fun _ _ => by kernel_rfl⟩) (hR17) ?_
            simp only [List.setIfInBounds_toArray, List.set_cons_succ, List.set_cons_zero]
            refine wpAnyH_done (by kernel_rfl) ?_ _
            exact ⟨rfl, by kernel_rfl, (hR17)⟩
          · intro w9 hF
            simp only [setAll, List.setIfInBounds_toArray, List.set_cons_succ, List.set_cons_zero]
            have HF9 : Hid _ := hF
            clear hF
            go_wp2_with fail
            go_roundw
            case rel => exact ⟨k + 1, by omega, by go_num, HRND.out _ HF9.out⟩
            case measure => simp [intOf] <;> omega
        · have e3 : (z == 3) = false := by simpa using hz3
          clear hz3
          go_wp2_with fail
          go_quiet (fail)
          go_wp2_with fail
          go_roundw
          case rel => exact ⟨k + 1, by omega, by go_num, HRND.out _ (drawn_below (Below.refl _ _) _)⟩
          case measure => simp [intOf] <;> omega
end Go.Proofs.YtgdnlceliiekkaaGreatDoor.Sa

