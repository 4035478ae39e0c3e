/- Texts of the seat, packed: Lw. -/
import Derived.Test.YtgdnlceliiekkaaGreatDoorP49
import Derived.Deep.CutRange
import Derived.Great.BuildSlice
/- StateSees' walk. -/
namespace Go.Proofs.YtgdnlceliiekkaaGreatDoor.Sa
open Go.RowKit Go.Shelf Go.Proofs.YtgdnlceliiekkaaGreatDoor.Fc Go.Proofs.YtgdnlceliiekkaaGreatDoor.St Go.Proofs.YtgdnlceliiekkaaGreatDoor.Sx
set_option maxRecDepth 1000000
set_option linter.unusedVariables false

theorem RB.zero {w : World} {d : Nat} (h : w.heap[d]? = some (.cells Tryz.zeroCells55 55 (0, 0))) : RB w (.pointer (some ⟨d, 0, none⟩)) (some Bo.z) := by
  refine ⟨d, rfl, by decide, ?_⟩
  rw [h, zero55]
  rfl

theorem chk_or (its : List It) (l : List Fa) : chkF its l = 0 ∨ chkF its l = 2 := by unfold chkF; split <;> simp

theorem z_at (i : Int) : Bo.z.at_ i = 0 := rfl
theorem z_fal (s a : Int) : Bo.z.fal s a = false := by unfold Bo.fal; show (_ && false) = false; rw [Bool.and_false]
theorem z_cle (i : Int) : Bo.z.cle i = false := by unfold Bo.cle; show (_ && false) = false; rw [Bool.and_false]

/-- What is known once the board is seen, and the facts that it was seen by are others. -/
structure SeS (w : World) (v bv : Value) (o : Option Bo) (sa : Option Addr) (nl sc : Nat) (L : List Int) (W : World) : Prop where
  bel : Below w.heap.size w W
  box : W.heap[w.heap.size]? = some (.cells #[v] 24 (0, 0))
  brd : RB W bv o
  rs : RS W (.slice sa nl sc) L

theorem SeS.later {w : World} {v bv : Value} {o : Option Bo} {sa : Option Addr} {nl sc : Nat} {L : List Int} {W W' : World} (h : SeS w v bv o sa nl sc L W) (hb : Below W.heap.size W W') : SeS w v bv o sa nl sc L W' :=
  ⟨h.bel.trans (hb.mono h.bel.size), (hb.block _ (Array.getElem?_eq_some_iff.1 h.box).1).trans h.box, h.brd.later hb, h.rs.later hb⟩

set_option maxHeartbeats 64000000 in
theorem sees_walk (its : List It) (v lv : Value) (i alt : Int) (made : Bool) (l : List Fa) (w : World) (hT : Dg.Tab w) (hIt : RdIt w v its) (hil : its.length ≤ maxLen) (hnm : ∀ x ∈ its, x.name.length ≤ maxLen ∧ x.undo.length ≤ maxLen ∧ x.after.length ≤ maxLen) (hl : RF w lv l) (hno : ∀ len cap, lv = .slice none len cap → cap = 0) :
    Calls Tryz.prog 5 #[.agg #[v], lv, .int .i64 i, .int .i64 alt, .bool made] w fun x w' => x = .returned (.bool true) ∧ Below w.heap.size w w' := by
  have h0 : ChS w v (w.alloc (.cells #[v] 24)) := ⟨bl1 _ _, Dg.row_new w _ 24⟩
  have MS0 := small_any its v _ (hIt.later h0.bel) hil hnm
  have HIt : Hid (∀ W, Below w.heap.size w W → RdIt W v its) := fun W hb => hIt.later hb
  have HL : Hid (∀ W, Below w.heap.size w W → RF W lv l) := fun W hb => hl.later hb
  have HLV : Hid (∀ W, Below w.heap.size w W → Calls Tryz.prog 8 #[] W fun x w' => x = .returned (.bool true) ∧ Below W.heap.size W w') := fun W hb => lives_any W (hT.later hb)
  have HT : Hid (∀ W, Below w.heap.size w W → Dg.Tab W) := fun W hb => hT.later hb
  obtain ⟨ia, icap, rfl, hic, hir⟩ := hIt
  obtain ⟨la, lcap, rfl, hl1, hl2, _⟩ := hl
  have hla : la = none → lcap = 0 := fun h => hno _ _ (by rw [h])
  clear hno
  have hlm : l.length ≤ maxLen := by omega
  have HIR : Hid _ := hir
  clear hnm hir hl1 hl2
  obtain ⟨q, HQ⟩ : ∃ q, Hid (smallI its = q) := ⟨_, rfl⟩
  rw [HQ.out] at MS0
  obtain ⟨n, HN⟩ : ∃ n, Hid (its.length = n) := ⟨_, rfl⟩
  obtain ⟨ml, HML⟩ : ∃ n, Hid (l.length = n) := ⟨_, rfl⟩
  have H0 : Hid (ChS w (.slice ia n icap) (w.alloc (.cells #[.slice ia n icap] 24))) := by show ChS _ _ _; rw [← HN.out]; exact h0
  have MS : Hid (Calls Tryz.prog 7 #[.agg #[.slice ia n icap]] (w.alloc (.cells #[.slice ia n icap] 24)) fun x w' => x = .returned (.bool q) ∧ Below (w.alloc (.cells #[.slice ia n icap] 24)).heap.size (w.alloc (.cells #[.slice ia n icap] 24)) w') := by show Calls _ _ _ _ _; rw [← HN.out]; exact MS0
  unfold maxLen at hlm
  rw [HN.out] at HIt hic ⊢
  rw [HML.out] at HL hlm ⊢
  have c0 := (Dg.cell_row H0.out.box 0).trans rfl
  clear h0 MS0 hT
  go_enter Tryz.func5, Tryz.ntmps5
  go_wp2_with fail
  generalize w.alloc (.cells #[.slice ia n icap] 24) = w0 at *
  refine Calls.mono MS.out ?_
  rintro x w1 ⟨rfl, hb1⟩
  have H1 : Hid _ := H0.out.later hb1
  clear MS hb1 H0 c0
  by_cases hg : q = true ∧ ml ≤ 100
  rotate_left
  · cases q with
    | false =>
      go_wp2_with fail
      refine Calls.mono (HLV.out _ H1.out.bel) ?_
      rintro x w2 ⟨rfl, hb2⟩
      have H2 : Hid _ := H1.out.later hb2
      clear hb2
      go_wp2_with fail
      go_ret
      exact ⟨rfl, H2.out.bel⟩
    | true =>
      have hgt : (ml : Int) > 100 := by have : ¬ ml ≤ 100 := fun h => hg ⟨rfl, h⟩; omega
      go_wp2_with fail
      refine Calls.mono (HLV.out _ H1.out.bel) ?_
      rintro x w2 ⟨rfl, hb2⟩
      have H2 : Hid _ := H1.out.later hb2
      clear hb2
      go_wp2_with fail
      go_ret
      exact ⟨rfl, H2.out.bel⟩
  obtain ⟨rfl, hml⟩ := hg
  obtain ⟨hfair, h70⟩ := small_fair HQ.out
  rw [HN.out] at h70
  have HFA : Hid _ := hfair
  have z1 := (Dg.cell_row H1.out.box 0).trans rfl
  have hgt : ¬ (ml : Int) > 100 := by omega
  have HPF : Hid (∀ W lv' l', Below w.heap.size w W → RF W lv' l' → l'.length ≤ 1000 → PF its l' (.slice ia n icap) lv' W) := fun W lv' l' hb hr h3 => ⟨HIt.out W hb, HFA.out, HT.out W hb, hr, by rw [HN.out]; omega, by omega⟩
  have HPL : Hid (∀ W, Below w.heap.size w W → PF its l (.slice ia n icap) (.slice la ml lcap) W) := fun W hb => HPF.out W _ _ hb (HL.out W hb) (by rw [HML.out]; omega)
  clear hfair
  go_upto_if 27 with fail
  go_cut [11] from 27 (fun s wx => RB wx s (if made then some Bo.z else none) ∧ Hid (ChS w (.slice ia n icap) wx))
  case first =>
    cases made with
    | true =>
      go_wp2_with fail
      go_meet
      exact ⟨RB.zero (Dg.row_new w1 _ 55), H1.out.later (bl1 _ _)⟩
    | false =>
      go_wp2_with fail
      go_meet
      exact ⟨rfl, H1⟩
  case rest =>
  obtain ⟨hrb, H2⟩ := hcut
  obtain ⟨ob, HOB⟩ : ∃ ob, Hid ((if made then some Bo.z else none) = ob) := ⟨_, rfl⟩
  rw [HOB.out] at hrb
  have hob : ob.getD Bo.z = Bo.z := by rw [← HOB.out]; cases made <;> rfl
  have HN1 : Hid (Calls Tryz.prog 15 #[u11] wc fun e w' => (∃ a c, e = .returned (.slice a 0 c)) ∧ Below wc.heap.size wc w') := Calls.mono (bAll_any hrb) (by rintro e w' ⟨hb, a, c, rfl, _⟩; rw [hob]; exact ⟨⟨a, c, rfl⟩, hb⟩)
  have HN2 : Hid (∀ W, Below wc.heap.size wc W → Calls Tryz.prog 16 #[u11] W fun e w' => e = .returned (.int .i64 0) ∧ Below W.heap.size W w') := fun W hb => Calls.mono (bVerdict_any (hrb.later hb)) (by rintro e w' ⟨rfl, hb⟩; rw [hob]; exact ⟨rfl, hb⟩)
  have HN3 : Hid (∀ W, Below wc.heap.size wc W → Calls Tryz.prog 17 #[u11, .int .i64 i] W fun e w' => e = .returned (.int .i64 0) ∧ Below W.heap.size W w') := fun W hb => Calls.mono (bAt_any (hrb.later hb) i) (by rintro e w' ⟨rfl, hb⟩; rw [hob]; exact ⟨rfl, hb⟩)
  have HN4 : Hid (∀ W, Below wc.heap.size wc W → Calls Tryz.prog 18 #[u11, .int .i64 i, .int .i64 alt] W fun e w' => e = .returned (.bool false) ∧ Below W.heap.size W w') := fun W hb => Calls.mono (bFalling_any (hrb.later hb) i alt) (by rintro e w' ⟨rfl, hb⟩; rw [hob, z_fal]; exact ⟨rfl, hb⟩)
  have HN5 : Hid (∀ W, Below wc.heap.size wc W → Calls Tryz.prog 19 #[u11, .int .i64 i] W fun e w' => e = .returned (.bool false) ∧ Below W.heap.size W w') := fun W hb => Calls.mono (bClean_any (hrb.later hb) i) (by rintro e w' ⟨rfl, hb⟩; rw [hob, z_cle]; exact ⟨rfl, hb⟩)
  clear hrb hob HOB H1 z1
  go_wp2_with fail
  refine Calls.mono HN1.out ?_
  rintro x wa ⟨⟨a1, c1, rfl⟩, hb1⟩
  have HBa : Hid (Below wc.heap.size wc wa) := hb1
  clear hb1 HN1
  go_wp2_with fail
  refine Calls.mono (HN2.out _ HBa.out) ?_
  rintro x wb ⟨rfl, hb1⟩
  have HBb : Hid (Below wc.heap.size wc wb) := HBa.out.trans (hb1.mono HBa.out.size)
  clear hb1 HN2 HBa
  go_wp2_with fail
  refine Calls.mono (HN3.out _ HBb.out) ?_
  rintro x wd ⟨rfl, hb1⟩
  have HBd : Hid (Below wc.heap.size wc wd) := HBb.out.trans (hb1.mono HBb.out.size)
  clear hb1 HN3 HBb
  go_wp2_with fail
  refine Calls.mono (HN4.out _ HBd.out) ?_
  rintro x we ⟨rfl, hb1⟩
  have HBe : Hid (Below wc.heap.size wc we) := HBd.out.trans (hb1.mono HBd.out.size)
  clear hb1 HN4 HBd
  go_wp2_with fail
  refine Calls.mono (HN5.out _ HBe.out) ?_
  rintro x w2 ⟨rfl, hb1⟩
  have H3 : Hid (ChS w (.slice ia n icap) w2) := (H2.out.later HBe.out).later hb1
  clear hb1 HN5 HBe H2
  have HOwn : Hid ((w2.alloc (.cells #[] 65)).ownsRow w2.heap.size 65 4 (.slice (some ⟨w2.heap.size, 0, none⟩) 0 0) 0 []) :=
    ⟨rfl, .inr ⟨w2.heap.size, 0, #[], rfl, Nat.le_refl _, Dg.row_new _ _ _, Nat.le_refl _, Nat.zero_le _, rfl, rfl⟩⟩
  have H4 : Hid (ChS w (.slice ia n icap) (w2.alloc (.cells #[] 65))) := H3.out.later (bl1 _ _)
  have HR4 : Hid _ := HL.out _ H4.out.bel
  have HGLT : Hid (w.heap.size < w2.heap.size) := (Array.getElem?_eq_some_iff.1 H3.out.box).1
  go_wp2_with (at_builtin; refine append_facts rfl _ _ rfl w2.heap.size rfl HOwn.out la ml lcap l rfl HR4.out hla (by omega) (by simp) ?_; intro g cap7 w7 ho7 hg7; have HB7 : Hid (Below w2.heap.size w2 w7) := Below.grown ((Below.refl _ _).alloc (Nat.le_refl _) _) hg7 (by simp) (fun k hk => by cases hk; exact Nat.le_refl _); have H7 : Hid (ChS w (.slice ia n icap) w7) := H3.out.later HB7.out; have z7 := (Dg.cell_row H7.out.box 0).trans rfl)
  have HBg : Hid (w2.heap.size ≤ g ∧ g < w7.heap.size) := (World.ownsRow.lt ho7 g rfl)
  have HO7 : Hid (OF w2.heap.size w7 (.slice (some ⟨g, 0, none⟩) ml cap7) l) := ho7
  clear ho7 hg7 HOwn H4 HR4 HB7
  have HSE : Hid _ := see2_any (HPF.out w7 _ _ H7.out.bel HO7.out.rf (by rw [HML.out]; omega))
  refine Calls.mono HSE.out ?_
  rintro x w8 ⟨hb8, bv, o, rfl, hrb, hso, hfr⟩
  have H8 : Hid (ChS w (.slice ia n icap) w8) := H7.out.later hb8
  have HO8 : Hid (OF w2.heap.size w8 (.slice (some ⟨g, 0, none⟩) ml cap7) l) := HO7.out.later hb8
  have HRB8 : Hid (RB w8 bv o) := hrb
  have HSO : Hid (SeeO its l o) := hso
  have HG8 : Hid (g < w8.heap.size) := by have h1 := HBg.out; have h2 := hb8.size; show _ < _; omega
  have HFR : Hid (∀ d o', bv = .pointer (some ⟨d, o', none⟩) → g + 1 ≤ d) := fun d o' h => by have h1 := hfr d o' h; have h2 := HBg.out; omega
  have z8 := (Dg.cell_row H8.out.box 0).trans rfl
  have HA : Hid _ := All2_any (HPL.out w8 H8.out.bel)
  clear hb8 hrb hso hfr HSE z7 H7 HO7
  go_wp2_with fail
  refine Calls.mono HA.out ?_
  rintro x w9 ⟨hb9, sa, sc, rfl, hrs, hfs⟩
  obtain ⟨nl, HNL⟩ : ∃ nl, Hid ((allS its l).length = nl) := ⟨_, rfl⟩
  rw [HNL.out] at hrs ⊢
  have H9 : Hid (ChS w (.slice ia n icap) w9) := H8.out.later hb9
  have HO9 : Hid (OF w2.heap.size w9 (.slice (some ⟨g, 0, none⟩) ml cap7) l) := HO8.out.later hb9
  have HRB9 : Hid (RB w9 bv o) := HRB8.out.later hb9
  have HRS9 : Hid (RS w9 (.slice sa nl sc) (allS its l)) := hrs
  have HFS : Hid (Frs (g + 1) sa) := fun b o' h => by have h1 := hfs b o' h; have h2 := HG8.out; omega
  obtain ⟨ck, HCK⟩ : ∃ ck, Hid (chkF its l = ck) := ⟨_, rfl⟩
  rw [HCK.out]
  have hckk : (ck != ck) = false := by simp
  clear hb9 hrs hfs HA z8 H8 HO8 HRB8
  go_upto_region 11 with fail
  go_cut [80] from 71 (fun s wx => s = .bool false ∧ w9 = wx)
  case first =>
    rcases seeO_cases HSO.out with ⟨hc, B, ho, _, _⟩ | ⟨hc, ho⟩
    · subst ho
      obtain ⟨d, rfl, _, _⟩ := HRB9.out
      obtain rfl : ck = 0 := HCK.out.symm.trans hc
      go_wp2_with fail
      go_meet
      exact ⟨rfl, rfl⟩
    · subst ho
      obtain rfl : bv = .pointer none := HRB9.out
      have hc2 : chkF its l = 2 := (chk_or its l).resolve_left hc
      obtain rfl : ck = 2 := HCK.out.symm.trans hc2
      go_wp2_with fail
      go_meet
      exact ⟨rfl, rfl⟩
  case rest =>
  obtain ⟨rfl, hwc⟩ := hcut
  subst hwc
  go_wp2_with fail
  go_loopw [17] (fun iv wr => ∃ (k : Nat), k ≤ ml ∧ iv = .int .i64 k ∧ Hid (w9.grownBy wr (some g)) ∧ Hid (∃ L', L'.length = ml ∧ OF w2.heap.size wr (.slice (some ⟨g, 0, none⟩) ml cap7) L')) (fun iv _ => ml - (intOf iv).toNat)
  case atStart => exact ⟨0, Nat.zero_le _, by go_num, ⟨rfl, rfl, rfl, Nat.le_refl _, fun _ _ _ => rfl⟩, l, HML.out, HO9.out⟩
  case round =>
    obtain ⟨k, hk, rfl, HGR, HLL⟩ := hrel
    rename World => wr
    by_cases hlt : k < ml
    · obtain ⟨L', hL1, hL2⟩ := HLL.out
      obtain ⟨f0, hf0⟩ : ∃ f0, L'[k]? = some f0 := ⟨_, List.getElem?_eq_getElem (by omega)⟩
      have hO : wr.ownsRow w2.heap.size 65 4 (.slice (some ⟨g, 0, none⟩) ml cap7) ml (rowsF L') := by
        have h := hL2
        unfold OF at h
        rw [hL1] at h
        exact h
      have HO : Hid _ := hO
      have HL1 : Hid _ := hL1
      have hrf := hL2.rf
      obtain ⟨a9, c9, e9, _, _, hcl⟩ := hrf
      obtain ⟨b9, o9, e8, c0, c1, c2, c3⟩ := hcl k f0 hf0
      have ha9 : some (⟨g, 0, none⟩ : Addr) = a9 := by cases e9; rfl
      subst ha9
      cases e8
      clear e9
      rw [Nat.zero_add] at c0 c1 c2 c3
      have d0 := hO.frozenAt (k * 4)
      have d1 := hO.frozenAt (k * 4 + 1)
      have d2 := hO.frozenAt (k * 4 + 2)
      have d3 := hO.frozenAt (k * 4 + 3)
      have hkc : ml ≤ cap7 := by
        rcases hO.2 with ⟨h, _⟩ | ⟨g', cap', cur', h, _, _, q1, _⟩
        · cases h
        · cases h; exact q1
      have hii : (k : Int) < (ml : Int) := by omega
      clear hO hL1 hL2 hf0 hcl HLL
      go_wp2_with fail
      obtain ⟨p1, p2⟩ := own_set4 HO.out HL1.out hlt ⟨3, 0, 0, false⟩
      go_roundw
      case rel => exact ⟨k + 1, by omega, by go_num, grown_trans HGR.out p2, _, by rw [List.length_set]; exact HL1.out, p1⟩
      case measure => simp [intOf] <;> omega
    · have HB9 : Hid (Below w.heap.size w wr) := Below.grown H9.out.bel HGR.out H9.out.bel.size (fun k hk => by cases hk; have h1 := HBg.out; have h2 := HGLT.out; omega)
      have HSS : Hid (SeS w (.slice ia n icap) bv o sa nl sc (allS its l) wr) := ⟨HB9.out, (HGR.out.block _ (Array.getElem?_eq_some_iff.1 H9.out.box).1 (by intro h; cases h; have h1 := HBg.out; have h2 := HGLT.out; omega)).trans H9.out.box, RB.grown HRB9.out HGR.out HFR.out, RS.grown HRS9.out HGR.out HFS.out⟩
      have HBA : Hid (∀ W, (SeS w (.slice ia n icap) bv o sa nl sc (allS its l) W) → Calls Tryz.prog 15 #[bv] W fun e w' => ∃ z : Option Addr × Nat, e = .returned (.slice z.1 nl z.2) ∧ (SeS w (.slice ia n icap) bv o sa nl sc (allS its l) w') ∧ RS w' (.slice z.1 nl z.2) (allS its l)) := fun W h => Calls.mono (bAll_any h.brd) (by
        rintro e w' ⟨hb, a, c, rfl, hr⟩
        have e1 := see_all HSO.out
        have e2 : (o.getD Bo.z).c = nl := by rw [← HNL.out, ← e1]; unfold Bo.all; rw [List.length_map, List.length_range]
        rw [e1, e2] at hr
        rw [e2]
        exact ⟨(a, c), rfl, h.later hb, hr⟩)
      have hnl : (allS its l).length ≤ 1000000 := by
        unfold allS
        split
        · rw [List.length_map, List.length_range, HN.out]; omega
        · simp
      have HIS : Hid (∀ W (z : Option Addr × Nat), (SeS w (.slice ia n icap) bv o sa nl sc (allS its l) W) → RS W (.slice z.1 nl z.2) (allS its l) → Calls Tryz.prog 21 #[.slice z.1 nl z.2, .slice sa nl sc] W fun e w' => e = .returned (.bool true) ∧ (SeS w (.slice ia n icap) bv o sa nl sc (allS its l) w')) := fun W z h hr => Calls.mono (is_any _ _ _ W hr h.rs hnl hnl) (by rintro e w' ⟨rfl, hb⟩; rw [decide_eq_true rfl]; exact ⟨rfl, h.later hb⟩)
      have HV1 : Hid (∀ W, (SeS w (.slice ia n icap) bv o sa nl sc (allS its l) W) → Calls Tryz.prog 16 #[bv] W fun e w' => e = .returned (.int .i64 (verS its l)) ∧ (SeS w (.slice ia n icap) bv o sa nl sc (allS its l) w')) := fun W h => Calls.mono (bVerdict_any h.brd) (by rintro e w' ⟨rfl, hb⟩; rw [see_ver HSO.out]; exact ⟨rfl, h.later hb⟩)
      have HV2 : Hid (∀ W, (SeS w (.slice ia n icap) bv o sa nl sc (allS its l) W) → Calls Tryz.prog 10 #[.agg #[.slice ia n icap], .slice la ml lcap] W fun e w' => e = .returned (.int .i64 (verS its l)) ∧ (SeS w (.slice ia n icap) bv o sa nl sc (allS its l) w')) := fun W h => Calls.mono (Verdict_any (HPL.out W h.bel)) (by rintro e w' ⟨rfl, hb⟩; exact ⟨rfl, h.later hb⟩)
      have HA1 : Hid (∀ W, (SeS w (.slice ia n icap) bv o sa nl sc (allS its l) W) → Calls Tryz.prog 17 #[bv, .int .i64 i] W fun e w' => e = .returned (.int .i64 (atS its l i)) ∧ (SeS w (.slice ia n icap) bv o sa nl sc (allS its l) w')) := fun W h => Calls.mono (bAt_any h.brd i) (by rintro e w' ⟨rfl, hb⟩; rw [see_at HSO.out]; exact ⟨rfl, h.later hb⟩)
      have HA2 : Hid (∀ W, (SeS w (.slice ia n icap) bv o sa nl sc (allS its l) W) → Calls Tryz.prog 12 #[.agg #[.slice ia n icap], .slice la ml lcap, .int .i64 i] W fun e w' => e = .returned (.int .i64 (atS its l i)) ∧ (SeS w (.slice ia n icap) bv o sa nl sc (allS its l) w')) := fun W h => Calls.mono (At_any (HPL.out W h.bel) i) (by rintro e w' ⟨rfl, hb⟩; exact ⟨rfl, h.later hb⟩)
      have HF1 : Hid (∀ W, (SeS w (.slice ia n icap) bv o sa nl sc (allS its l) W) → Calls Tryz.prog 18 #[bv, .int .i64 i, .int .i64 alt] W fun e w' => e = .returned (.bool (falS its l i alt)) ∧ (SeS w (.slice ia n icap) bv o sa nl sc (allS its l) w')) := fun W h => Calls.mono (bFalling_any h.brd i alt) (by rintro e w' ⟨rfl, hb⟩; rw [see_fal HSO.out]; exact ⟨rfl, h.later hb⟩)
      have HF2 : Hid (∀ W, (SeS w (.slice ia n icap) bv o sa nl sc (allS its l) W) → Calls Tryz.prog 14 #[.agg #[.slice ia n icap], .slice la ml lcap, .int .i64 i, .int .i64 alt] W fun e w' => e = .returned (.bool (falS its l i alt)) ∧ (SeS w (.slice ia n icap) bv o sa nl sc (allS its l) w')) := fun W h => Calls.mono (Falling_any (HPL.out W h.bel) i alt) (by rintro e w' ⟨rfl, hb⟩; exact ⟨rfl, h.later hb⟩)
      have HC1 : Hid (∀ W, (SeS w (.slice ia n icap) bv o sa nl sc (allS its l) W) → Calls Tryz.prog 19 #[bv, .int .i64 i] W fun e w' => e = .returned (.bool (cleS its l i)) ∧ (SeS w (.slice ia n icap) bv o sa nl sc (allS its l) w')) := fun W h => Calls.mono (bClean_any h.brd i) (by rintro e w' ⟨rfl, hb⟩; rw [see_cle HSO.out]; exact ⟨rfl, h.later hb⟩)
      have HC2 : Hid (∀ W, (SeS w (.slice ia n icap) bv o sa nl sc (allS its l) W) → Calls Tryz.prog 11 #[.agg #[.slice ia n icap], .slice la ml lcap, .int .i64 i] W fun e w' => e = .returned (.bool (cleS its l i)) ∧ (SeS w (.slice ia n icap) bv o sa nl sc (allS its l) w')) := fun W h => Calls.mono (Clean_any (HPL.out W h.bel) i) (by rintro e w' ⟨rfl, hb⟩; exact ⟨rfl, h.later hb⟩)
      have HLL2 : Hid (∀ W, (SeS w (.slice ia n icap) bv o sa nl sc (allS its l) W) → Calls Tryz.prog 8 #[] W fun e w' => e = .returned (.bool true) ∧ (SeS w (.slice ia n icap) bv o sa nl sc (allS its l) w')) := fun W h => Calls.mono (HLV.out W h.bel) (by rintro e w' ⟨rfl, hb⟩; exact ⟨rfl, h.later hb⟩)
      have hvv : (verS its l == verS its l) = true := by simp
      have haa : (atS its l i == atS its l i) = true := by simp
      have hff : (falS its l i alt == falS its l i alt) = true := by simp
      have hcc : (cleS its l i == cleS its l i) = true := by simp
      clear HGR HLL HB9 hnl HRB9 HRS9 HO9 H9
      generalize verS its l = vv at *
      generalize atS its l i = av at *
      generalize falS its l i alt = fq at *
      generalize cleS its l i = cq at *
      go_wp2_with fail
      have hCUR : SeS w (.slice ia n icap) bv o sa nl sc (allS its l) wr.drew := HSS.out.later (Below.refl _ _).drew
      have hS0 := hCUR
      refine region_thenG (β := Option Addr × Nat) (fun z => [(91, bv), (92, .slice z.1 nl z.2), (93, .slice sa nl sc), (94, .bool true), (95, .bool true), (96, bv), (97, .int .i64 vv), (98, .agg #[.slice ia n icap]), (99, .slice la ml lcap), (100, .int .i64 vv), (101, .bool true), (102, .bool true), (103, .bool true), (104, bv), (105, .int .i64 i), (106, .int .i64 av), (107, .agg #[.slice ia n icap]), (108, .slice la ml lcap), (109, .int .i64 i), (110, .int .i64 av), (111, .bool true), (112, .bool true), (113, .bool true), (114, bv), (115, .int .i64 i), (116, .int .i64 alt), (117, .bool fq), (118, .agg #[.slice ia n icap]), (119, .slice la ml lcap), (120, .int .i64 i), (121, .int .i64 alt), (122, .bool fq), (123, .bool true), (124, .bool true), (125, .bool true), (126, bv), (127, .int .i64 i), (128, .bool cq), (129, .agg #[.slice ia n icap]), (130, .slice la ml lcap), (131, .int .i64 i), (132, .bool cq), (133, .bool true), (134, .bool true), (135, .bool true), (136, .bool true), (137, .bool true), (10, .bool true)]) (fun z w' => SeS w (.slice ia n icap) bv o sa nl sc (allS its l) w') ?_ ?_
      · refine wp_region_held (S := fun w' => SeS w (.slice ia n icap) bv o sa nl sc (allS its l) w') (by kernel_rfl) ?_
        simp only [List.size_toArray, List.length_cons, List.length_nil, Nat.reduceAdd, Array.replicate_succ, Array.replicate_zero, List.push_toArray, List.nil_append, List.cons_append]
        refine takeD (i := 0) (d := 91) (v := bv) (fuel := 47) rfl rfl (by kernel_rfl) (by kernel_rfl) (by kernel_rfl) (fun _ _ _ h => by cases h.1) (.inl ⟨by kernel_rfl, fun _ _ => by kernel_rfl⟩) hS0 ?_
        simp only [List.setIfInBounds_toArray, List.set_cons_succ, List.set_cons_zero]
        refine takeD (i := 2) (d := 93) (v := .slice sa nl sc) (fuel := 46) rfl rfl (by kernel_rfl) (by kernel_rfl) (by kernel_rfl) (fun _ _ _ h => by cases h.1) (.inl ⟨by kernel_rfl, fun _ _ => by kernel_rfl⟩) hS0 ?_
        simp only [List.setIfInBounds_toArray, List.set_cons_succ, List.set_cons_zero]
        refine oneX (β := Option Addr × Nat) (V := fun z => .slice z.1 nl z.2) (R := fun z w' => (SeS w (.slice ia n icap) bv o sa nl sc (allS its l) w') ∧ RS w' (.slice z.1 nl z.2) (allS its l)) (i := 1) (d := 92) (f := 15) (args := #[bv]) (fuel := 45) rfl rfl (by kernel_rfl) (by kernel_rfl) (fun _ => by kernel_rfl) (HBA.out _ hCUR) (fun z w' h => h.1) (fun z wz1 hR1 => ?_)
        simp only [List.setIfInBounds_toArray, List.set_cons_succ, List.set_cons_zero]
        refine oneW (R := fun w' => SeS w (.slice ia n icap) bv o sa nl sc (allS its l) w') (i := 3) (d := 94) (f := 21) (args := #[.slice z.1 nl z.2, .slice sa nl sc]) (v := .bool true) (fuel := 44) rfl rfl (by kernel_rfl) (by kernel_rfl) (fun _ => by kernel_rfl) (HIS.out _ z hR1.1 hR1.2) (fun w' h => h) (fun wz hR3 => ?_)
        simp only [List.setIfInBounds_toArray, List.set_cons_succ, List.set_cons_zero]
        refine takeD (i := 4) (d := 95) (v := .bool true) (fuel := 43) rfl rfl (by kernel_rfl) (by kernel_rfl) (by kernel_rfl) (fun _ _ _ h => by cases h.1) (.inl ⟨by kernel_rfl, fun _ _ => by kernel_rfl⟩) (hR3) ?_
        simp only [List.setIfInBounds_toArray, List.set_cons_succ, List.set_cons_zero]
        refine takeD (i := 5) (d := 96) (v := bv) (fuel := 42) rfl rfl (by kernel_rfl) (by kernel_rfl) (by kernel_rfl) (fun _ _ _ h => by cases h.1) (.inl ⟨by kernel_rfl, fun _ _ => by kernel_rfl⟩) (hR3) ?_
        simp only [List.setIfInBounds_toArray, List.set_cons_succ, List.set_cons_zero]
        refine takeD (i := 7) (d := 98) (v := .agg #[.slice ia n icap]) (fuel := 41) rfl rfl (by kernel_rfl) (by kernel_rfl) (by kernel_rfl) (fun _ _ _ h => by cases h.1) (.inl ⟨by kernel_rfl, fun wx h => by have y0 := (Dg.cell_row h.box 0).trans rfl; go_simp⟩) (hR3) ?_
        simp only [List.setIfInBounds_toArray, List.set_cons_succ, List.set_cons_zero]
        refine takeD (i := 8) (d := 99) (v := .slice la ml lcap) (fuel := 40) rfl rfl (by kernel_rfl) (by kernel_rfl) (by kernel_rfl) (fun _ _ _ h => by cases h.1) (.inl ⟨by kernel_rfl, fun _ _ => by kernel_rfl⟩) (hR3) ?_
        simp only [List.setIfInBounds_toArray, List.set_cons_succ, List.set_cons_zero]
        refine oneW (R := fun w' => SeS w (.slice ia n icap) bv o sa nl sc (allS its l) w') (i := 6) (d := 97) (f := 16) (args := #[bv]) (v := .int .i64 vv) (fuel := 39) rfl rfl (by kernel_rfl) (by kernel_rfl) (fun _ => by kernel_rfl) (HV1.out _ hR3) (fun w' h => h) (fun wz hR6 => ?_)
        simp only [List.setIfInBounds_toArray, List.set_cons_succ, List.set_cons_zero]
        refine oneW (R := fun w' => SeS w (.slice ia n icap) bv o sa nl sc (allS its l) w') (i := 9) (d := 100) (f := 10) (args := #[.agg #[.slice ia n icap], .slice la ml lcap]) (v := .int .i64 vv) (fuel := 38) rfl rfl (by kernel_rfl) (by kernel_rfl) (fun _ => by kernel_rfl) (HV2.out _ hR6) (fun w' h => h) (fun wz hR9 => ?_)
        simp only [List.setIfInBounds_toArray, List.set_cons_succ, List.set_cons_zero]
        refine takeD (i := 10) (d := 101) (v := .bool true) (fuel := 37) rfl rfl (by kernel_rfl) (by kernel_rfl) (by kernel_rfl) (fun _ _ _ h => by cases h.1) (.inl ⟨by kernel_rfl, fun wx h => by go_simp⟩) (hR9) ?_
        simp only [List.setIfInBounds_toArray, List.set_cons_succ, List.set_cons_zero]
        refine takeD (i := 11) (d := 102) (v := .bool true) (fuel := 36) rfl rfl (by kernel_rfl) (by kernel_rfl) (by kernel_rfl) (fun _ _ _ h => by cases h.1) (.inl ⟨by kernel_rfl, fun _ _ => by kernel_rfl⟩) (hR9) ?_
        simp only [List.setIfInBounds_toArray, List.set_cons_succ, List.set_cons_zero]
        refine takeD (i := 12) (d := 103) (v := .bool true) (fuel := 35) rfl rfl (by kernel_rfl) (by kernel_rfl) (by kernel_rfl) (fun _ _ _ h => by cases h.1) (.inl ⟨by kernel_rfl, fun _ _ => by kernel_rfl⟩) (hR9) ?_
        simp only [List.setIfInBounds_toArray, List.set_cons_succ, List.set_cons_zero]
        refine takeD (i := 13) (d := 104) (v := bv) (fuel := 34) rfl rfl (by kernel_rfl) (by kernel_rfl) (by kernel_rfl) (fun _ _ _ h => by cases h.1) (.inl ⟨by kernel_rfl, fun _ _ => by kernel_rfl⟩) (hR9) ?_
        simp only [List.setIfInBounds_toArray, List.set_cons_succ, List.set_cons_zero]
        refine takeD (i := 14) (d := 105) (v := .int .i64 i) (fuel := 33) rfl rfl (by kernel_rfl) (by kernel_rfl) (by kernel_rfl) (fun _ _ _ h => by cases h.1) (.inl ⟨by kernel_rfl, fun _ _ => by kernel_rfl⟩) (hR9) ?_
        simp only [List.setIfInBounds_toArray, List.set_cons_succ, List.set_cons_zero]
        refine takeD (i := 16) (d := 107) (v := .agg #[.slice ia n icap]) (fuel := 32) rfl rfl (by kernel_rfl) (by kernel_rfl) (by kernel_rfl) (fun _ _ _ h => by cases h.1) (.inl ⟨by kernel_rfl, fun wx h => by have y0 := (Dg.cell_row h.box 0).trans rfl; go_simp⟩) (hR9) ?_
        simp only [List.setIfInBounds_toArray, List.set_cons_succ, List.set_cons_zero]
        refine takeD (i := 17) (d := 108) (v := .slice la ml lcap) (fuel := 31) rfl rfl (by kernel_rfl) (by kernel_rfl) (by kernel_rfl) (fun _ _ _ h => by cases h.1) (.inl ⟨by kernel_rfl, fun _ _ => by kernel_rfl⟩) (hR9) ?_
        simp only [List.setIfInBounds_toArray, List.set_cons_succ, List.set_cons_zero]
        refine takeD (i := 18) (d := 109) (v := .int .i64 i) (fuel := 30) rfl rfl (by kernel_rfl) (by kernel_rfl) (by kernel_rfl) (fun _ _ _ h => by cases h.1) (.inl ⟨by kernel_rfl, fun _ _ => by kernel_rfl⟩) (hR9) ?_
        simp only [List.setIfInBounds_toArray, List.set_cons_succ, List.set_cons_zero]
        refine oneW (R := fun w' => SeS w (.slice ia n icap) bv o sa nl sc (allS its l) w') (i := 15) (d := 106) (f := 17) (args := #[bv, .int .i64 i]) (v := .int .i64 av) (fuel := 29) rfl rfl (by kernel_rfl) (by kernel_rfl) (fun _ => by kernel_rfl) (HA1.out _ hR9) (fun w' h => h) (fun wz hR15 => ?_)
        simp only [List.setIfInBounds_toArray, List.set_cons_succ, List.set_cons_zero]
        refine oneW (R := fun w' => SeS w (.slice ia n icap) bv o sa nl sc (allS its l) w') (i := 19) (d := 110) (f := 12) (args := #[.agg #[.slice ia n icap], .slice la ml lcap, .int .i64 i]) (v := .int .i64 av) (fuel := 28) rfl rfl (by kernel_rfl) (by kernel_rfl) (fun _ => by kernel_rfl) (HA2.out _ hR15) (fun w' h => h) (fun wz hR19 => ?_)
        simp only [List.setIfInBounds_toArray, List.set_cons_succ, List.set_cons_zero]
        refine takeD (i := 20) (d := 111) (v := .bool true) (fuel := 27) rfl rfl (by kernel_rfl) (by kernel_rfl) (by kernel_rfl) (fun _ _ _ h => by cases h.1) (.inl ⟨by kernel_rfl, fun wx h => by go_simp⟩) (hR19) ?_
        simp only [List.setIfInBounds_toArray, List.set_cons_succ, List.set_cons_zero]
        refine takeD (i := 21) (d := 112) (v := .bool true) (fuel := 26) rfl rfl (by kernel_rfl) (by kernel_rfl) (by kernel_rfl) (fun _ _ _ h => by cases h.1) (.inl ⟨by kernel_rfl, fun _ _ => by kernel_rfl⟩) (hR19) ?_
        simp only [List.setIfInBounds_toArray, List.set_cons_succ, List.set_cons_zero]
        refine takeD (i := 22) (d := 113) (v := .bool true) (fuel := 25) rfl rfl (by kernel_rfl) (by kernel_rfl) (by kernel_rfl) (fun _ _ _ h => by cases h.1) (.inl ⟨by kernel_rfl, fun _ _ => by kernel_rfl⟩) (hR19) ?_
        simp only [List.setIfInBounds_toArray, List.set_cons_succ, List.set_cons_zero]
        refine takeD (i := 23) (d := 114) (v := bv) (fuel := 24) rfl rfl (by kernel_rfl) (by kernel_rfl) (by kernel_rfl) (fun _ _ _ h => by cases h.1) (.inl ⟨by kernel_rfl, fun _ _ => by kernel_rfl⟩) (hR19) ?_
        simp only [List.setIfInBounds_toArray, List.set_cons_succ, List.set_cons_zero]
        refine takeD (i := 24) (d := 115) (v := .int .i64 i) (fuel := 23) rfl rfl (by kernel_rfl) (by kernel_rfl) (by kernel_rfl) (fun _ _ _ h => by cases h.1) (.inl ⟨by kernel_rfl, fun _ _ => by kernel_rfl⟩) (hR19) ?_
        simp only [List.setIfInBounds_toArray, List.set_cons_succ, List.set_cons_zero]
        refine takeD (i := 25) (d := 116) (v := .int .i64 alt) (fuel := 22) rfl rfl (by kernel_rfl) (by kernel_rfl) (by kernel_rfl) (fun _ _ _ h => by cases h.1) (.inl ⟨by kernel_rfl, fun _ _ => by kernel_rfl⟩) (hR19) ?_
        simp only [List.setIfInBounds_toArray, List.set_cons_succ, List.set_cons_zero]
        refine takeD (i := 27) (d := 118) (v := .agg #[.slice ia n icap]) (fuel := 21) rfl rfl (by kernel_rfl) (by kernel_rfl) (by kernel_rfl) (fun _ _ _ h => by cases h.1) (.inl ⟨by kernel_rfl, fun wx h => by have y0 := (Dg.cell_row h.box 0).trans rfl; go_simp⟩) (hR19) ?_
        simp only [List.setIfInBounds_toArray, List.set_cons_succ, List.set_cons_zero]
        refine takeD (i := 28) (d := 119) (v := .slice la ml lcap) (fuel := 20) rfl rfl (by kernel_rfl) (by kernel_rfl) (by kernel_rfl) (fun _ _ _ h => by cases h.1) (.inl ⟨by kernel_rfl, fun _ _ => by kernel_rfl⟩) (hR19) ?_
        simp only [List.setIfInBounds_toArray, List.set_cons_succ, List.set_cons_zero]
        refine takeD (i := 29) (d := 120) (v := .int .i64 i) (fuel := 19) rfl rfl (by kernel_rfl) (by kernel_rfl) (by kernel_rfl) (fun _ _ _ h => by cases h.1) (.inl ⟨by kernel_rfl, fun _ _ => by kernel_rfl⟩) (hR19) ?_
        simp only [List.setIfInBounds_toArray, List.set_cons_succ, List.set_cons_zero]
        refine takeD (i := 30) (d := 121) (v := .int .i64 alt) (fuel := 18) rfl rfl (by kernel_rfl) (by kernel_rfl) (by kernel_rfl) (fun _ _ _ h => by cases h.1) (.inl ⟨by kernel_rfl, fun _ _ => by kernel_rfl⟩) (hR19) ?_
        simp only [List.setIfInBounds_toArray, List.set_cons_succ, List.set_cons_zero]
        refine oneW (R := fun w' => SeS w (.slice ia n icap) bv o sa nl sc (allS its l) w') (i := 26) (d := 117) (f := 18) (args := #[bv, .int .i64 i, .int .i64 alt]) (v := .bool fq) (fuel := 17) rfl rfl (by kernel_rfl) (by kernel_rfl) (fun _ => by kernel_rfl) (HF1.out _ hR19) (fun w' h => h) (fun wz hR26 => ?_)
        simp only [List.setIfInBounds_toArray, List.set_cons_succ, List.set_cons_zero]
        refine oneW (R := fun w' => SeS w (.slice ia n icap) bv o sa nl sc (allS its l) w') (i := 31) (d := 122) (f := 14) (args := #[.agg #[.slice ia n icap], .slice la ml lcap, .int .i64 i, .int .i64 alt]) (v := .bool fq) (fuel := 16) rfl rfl (by kernel_rfl) (by kernel_rfl) (fun _ => by kernel_rfl) (HF2.out _ hR26) (fun w' h => h) (fun wz hR31 => ?_)
        simp only [List.setIfInBounds_toArray, List.set_cons_succ, List.set_cons_zero]
        refine takeD (i := 32) (d := 123) (v := .bool true) (fuel := 15) rfl rfl (by kernel_rfl) (by kernel_rfl) (by kernel_rfl) (fun _ _ _ h => by cases h.1) (.inl ⟨by kernel_rfl, fun wx h => by go_simp⟩) (hR31) ?_
        simp only [List.setIfInBounds_toArray, List.set_cons_succ, List.set_cons_zero]
        refine takeD (i := 33) (d := 124) (v := .bool true) (fuel := 14) rfl rfl (by kernel_rfl) (by kernel_rfl) (by kernel_rfl) (fun _ _ _ h => by cases h.1) (.inl ⟨by kernel_rfl, fun _ _ => by kernel_rfl⟩) (hR31) ?_
        simp only [List.setIfInBounds_toArray, List.set_cons_succ, List.set_cons_zero]
        refine takeD (i := 34) (d := 125) (v := .bool true) (fuel := 13) rfl rfl (by kernel_rfl) (by kernel_rfl) (by kernel_rfl) (fun _ _ _ h => by cases h.1) (.inl ⟨by kernel_rfl, fun _ _ => by kernel_rfl⟩) (hR31) ?_
        simp only [List.setIfInBounds_toArray, List.set_cons_succ, List.set_cons_zero]
        refine takeD (i := 35) (d := 126) (v := bv) (fuel := 12) rfl rfl (by kernel_rfl) (by kernel_rfl) (by kernel_rfl) (fun _ _ _ h => by cases h.1) (.inl ⟨by kernel_rfl, fun _ _ => by kernel_rfl⟩) (hR31) ?_
        simp only [List.setIfInBounds_toArray, List.set_cons_succ, List.set_cons_zero]
        refine takeD (i := 36) (d := 127) (v := .int .i64 i) (fuel := 11) rfl rfl (by kernel_rfl) (by kernel_rfl) (by kernel_rfl) (fun _ _ _ h => by cases h.1) (.inl ⟨by kernel_rfl, fun _ _ => by kernel_rfl⟩) (hR31) ?_
        simp only [List.setIfInBounds_toArray, List.set_cons_succ, List.set_cons_zero]
        refine takeD (i := 38) (d := 129) (v := .agg #[.slice ia n icap]) (fuel := 10) rfl rfl (by kernel_rfl) (by kernel_rfl) (by kernel_rfl) (fun _ _ _ h => by cases h.1) (.inl ⟨by kernel_rfl, fun wx h => by have y0 := (Dg.cell_row h.box 0).trans rfl; go_simp⟩) (hR31) ?_
        simp only [List.setIfInBounds_toArray, List.set_cons_succ, List.set_cons_zero]
        refine takeD (i := 39) (d := 130) (v := .slice la ml lcap) (fuel := 9) rfl rfl (by kernel_rfl) (by kernel_rfl) (by kernel_rfl) (fun _ _ _ h => by cases h.1) (.inl ⟨by kernel_rfl, fun _ _ => by kernel_rfl⟩) (hR31) ?_
        simp only [List.setIfInBounds_toArray, List.set_cons_succ, List.set_cons_zero]
        refine takeD (i := 40) (d := 131) (v := .int .i64 i) (fuel := 8) rfl rfl (by kernel_rfl) (by kernel_rfl) (by kernel_rfl) (fun _ _ _ h => by cases h.1) (.inl ⟨by kernel_rfl, fun _ _ => by kernel_rfl⟩) (hR31) ?_
        simp only [List.setIfInBounds_toArray, List.set_cons_succ, List.set_cons_zero]
        refine oneW (R := fun w' => SeS w (.slice ia n icap) bv o sa nl sc (allS its l) w') (i := 37) (d := 128) (f := 19) (args := #[bv, .int .i64 i]) (v := .bool cq) (fuel := 7) rfl rfl (by kernel_rfl) (by kernel_rfl) (fun _ => by kernel_rfl) (HC1.out _ hR31) (fun w' h => h) (fun wz hR37 => ?_)
        simp only [List.setIfInBounds_toArray, List.set_cons_succ, List.set_cons_zero]
        refine oneW (R := fun w' => SeS w (.slice ia n icap) bv o sa nl sc (allS its l) w') (i := 41) (d := 132) (f := 11) (args := #[.agg #[.slice ia n icap], .slice la ml lcap, .int .i64 i]) (v := .bool cq) (fuel := 6) rfl rfl (by kernel_rfl) (by kernel_rfl) (fun _ => by kernel_rfl) (HC2.out _ hR37) (fun w' h => h) (fun wz hR41 => ?_)
        simp only [List.setIfInBounds_toArray, List.set_cons_succ, List.set_cons_zero]
        refine takeD (i := 42) (d := 133) (v := .bool true) (fuel := 5) rfl rfl (by kernel_rfl) (by kernel_rfl) (by kernel_rfl) (fun _ _ _ h => by cases h.1) (.inl ⟨by kernel_rfl, fun wx h => by go_simp⟩) (hR41) ?_
        simp only [List.setIfInBounds_toArray, List.set_cons_succ, List.set_cons_zero]
        refine takeD (i := 43) (d := 134) (v := .bool true) (fuel := 4) rfl rfl (by kernel_rfl) (by kernel_rfl) (by kernel_rfl) (fun _ _ _ h => by cases h.1) (.inl ⟨by kernel_rfl, fun _ _ => by kernel_rfl⟩) (hR41) ?_
        simp only [List.setIfInBounds_toArray, List.set_cons_succ, List.set_cons_zero]
        refine takeD (i := 44) (d := 135) (v := .bool true) (fuel := 3) rfl rfl (by kernel_rfl) (by kernel_rfl) (by kernel_rfl) (fun _ _ _ h => by cases h.1) (.inl ⟨by kernel_rfl, fun _ _ => by kernel_rfl⟩) (hR41) ?_
        simp only [List.setIfInBounds_toArray, List.set_cons_succ, List.set_cons_zero]
        refine oneW (R := fun w' => SeS w (.slice ia n icap) bv o sa nl sc (allS its l) w') (i := 45) (d := 136) (f := 8) (args := #[]) (v := .bool true) (fuel := 2) rfl rfl (by kernel_rfl) (by kernel_rfl) (fun _ => by kernel_rfl) (HLL2.out _ hR41) (fun w' h => h) (fun wz hR45 => ?_)
        simp only [List.setIfInBounds_toArray, List.set_cons_succ, List.set_cons_zero]
        refine takeD (i := 46) (d := 137) (v := .bool true) (fuel := 1) rfl rfl (by kernel_rfl) (by kernel_rfl) (by kernel_rfl) (fun _ _ _ h => by cases h.1) (.inl ⟨by kernel_rfl, fun _ _ => by kernel_rfl⟩) (hR45) ?_
        simp only [List.setIfInBounds_toArray, List.set_cons_succ, List.set_cons_zero]
        refine takeD (i := 47) (d := 10) (v := .bool true) (fuel := 0) rfl rfl (by kernel_rfl) (by kernel_rfl) (by kernel_rfl) (fun _ _ _ h => by cases h.1) (.inl ⟨by kernel_rfl, fun _ _ => by kernel_rfl⟩) (hR45) ?_
        simp only [List.setIfInBounds_toArray, List.set_cons_succ, List.set_cons_zero]
        refine wpAnyH_done (by kernel_rfl) ?_ _
        exact ⟨rfl, z, by kernel_rfl, hR45⟩
      · rintro z w9 hF
        simp only [setAll, List.setIfInBounds_toArray, List.set_cons_succ, List.set_cons_zero]
        have HF9 : Hid _ := hF
        clear hF
        go_wp2_with fail
        go_ret
        exact ⟨rfl, HF9.out.bel⟩
end Go.Proofs.YtgdnlceliiekkaaGreatDoor.Sa

