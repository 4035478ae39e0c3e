/- Texts of the seat, packed: Cm. -/
import Derived.Test.YteghapmlnkhepaaDoorP38
import Derived.Test.YteghapmlnkhepaaDoorP39
import Derived.Test.YteghapmlnkhepaaDoorP29
/- Two trees side by side; TokenOnce's walk. -/
namespace Go.Proofs.YteghapmlnkhepaaDoor.Tk
open Go.RowKit Go.Shelf Go.Proofs.YteghapmlnkhepaaDoor.St Go.Proofs.YteghapmlnkhepaaDoor.Sx
set_option maxRecDepth 1000000
set_option linter.unusedVariables false

variable {n0 : Nat} {w w' : World} {tb : Nat} {sv : Value} {bs : List Nat} {its : List It} {p : Pl} {L : List (Nat × Nat)} {C : Nat → Bool} {S : Nat → Prop}

/-- A tree's blocks lie below. -/
structure Lo1 (n1 tb : Nat) (sv : Value) (bs : List Nat) (S : Nat → Prop) : Prop where
  t : tb < n1
  b : ∀ b ∈ bs, b < n1
  v : ∀ g, sv.ownBlock = some g → g < n1
  s : ∀ k, S k → k < n1

theorem TT.low (h : TT n0 w tb sv bs its p L C S) : Lo1 w.heap.size tb sv bs S :=
  ⟨row_lt h.box, fun b hb => h.lt hb, fun g hg => (own_exists h.own g hg).2, fun k hk => (h.sep k hk).1⟩
theorem Lo1.mono {n1 n2 : Nat} (h : Lo1 n1 tb sv bs S) (hn : n1 ≤ n2) : Lo1 n2 tb sv bs S :=
  ⟨Nat.lt_of_lt_of_le h.t hn, fun b hb => Nat.lt_of_lt_of_le (h.b b hb) hn, fun g hg => Nat.lt_of_lt_of_le (h.v g hg) hn, fun k hk => Nat.lt_of_lt_of_le (h.s k hk) hn⟩
theorem TT.kept_lo {n1 : Nat} {bs' : List Nat} (h : TT n0 w tb sv bs its p L C S) (hl : Lo1 n1 tb sv bs S) (hk : Kp (fun b => b ∈ bs') w w') (hg : ∀ b ∈ bs', n1 ≤ b) : TT n0 w' tb sv bs its p L C S :=
  h.kept hk (fun hm => by have := hg _ hm; have := hl.t; omega) (fun b hb hm => by have := hg _ hm; have := hl.b b hb; omega) (fun g h9 hm => by have := hg _ hm; have := hl.v g h9; omega) (fun k h9 hm => by have := hg _ hm; have := hl.s k h9; omega)
theorem TT.kept_hi {bs' : List Nat} (h : TT n0 w tb sv bs its p L C S) (hS : ∀ k, S k → n0 ≤ k) (hk : Kp (fun b => b ∈ bs') w w') (hl : ∀ b ∈ bs', b < n0) : TT n0 w' tb sv bs its p L C S :=
  h.kept hk (fun hm => by have := hl _ hm; have := h.ge; omega) (fun b hb hm => by have := hl _ hm; have := h.geb b hb; omega) (fun g h9 hm => by have := hl _ hm; have := (own_exists h.own g h9).1; omega) (fun k h9 hm => by have := hl _ hm; have := hS k h9; omega)

/-- Two trees of one plan. -/
structure Bth (w : World) (its : List It) (p : Pl) (CA CB : Nat → Bool) (nA tA : Nat) (vA : Value) (bA : List Nat) (SA : Nat → Prop) (nB tB : Nat) (vB : Value) (bB : List Nat) (SB : Nat → Prop) (W : World) : Prop where
  a : TT nA W tA vA bA its p (toks p) CA SA
  b : TT nB W tB vB bB its p (toks p) CB SB
  lo : Lo1 nB tA vA bA SA
  hs : ∀ k, SB k → nB ≤ k
  bel : Below w.heap.size w W
  wa : w.heap.size ≤ nA
  wb : w.heap.size ≤ nB

variable {CA CB : Nat → Bool} {nA tA nB tB : Nat} {vA vB : Value} {bA bB : List Nat} {SA SB : Nat → Prop} {W W' : World}

theorem Bth.later (h : Bth w its p CA CB nA tA vA bA SA nB tB vB bB SB W) (hb : Below W.heap.size W W') : Bth w its p CA CB nA tA vA bA SA nB tB vB bB SB W' :=
  ⟨h.a.later hb, h.b.later hb, h.lo, h.hs, h.bel.trans (hb.mono h.bel.size), h.wa, h.wb⟩

theorem Bth.cancelA (h : Bth w its p CA CB nA tA vA bA SA nB tB vB bB SB W) (hI : Itm its p) (k : Int) :
    Calls Tryd.prog 9 #[.pointer (some ⟨tA, 0, none⟩), .int .i64 k] W fun e W' => e = .returned (.int .i64 ((liveL p CA (toks p)).length - (liveL p (putZ (toks p).length CA k) (toks p)).length)) ∧ Bth w its p (putZ (toks p).length CA k) CB nA tA vA bA SA nB tB vB bB SB W' ∧ Kp (fun b => b ∈ bA) W W' := by
  refine Calls.mono (Cancel_any h.a (std_of hI) k) ?_
  rintro e W' ⟨he, ht, hk⟩
  exact ⟨he, ⟨ht, h.b.kept_hi h.hs hk h.lo.b, h.lo, h.hs, h.bel.trans ((h.a.kpb hk).mono h.wa), h.wa, h.wb⟩, hk⟩

theorem Bth.cancelB (h : Bth w its p CA CB nA tA vA bA SA nB tB vB bB SB W) (hI : Itm its p) (k : Int) :
    Calls Tryd.prog 9 #[.pointer (some ⟨tB, 0, none⟩), .int .i64 k] W fun e W' => e = .returned (.int .i64 ((liveL p CB (toks p)).length - (liveL p (putZ (toks p).length CB k) (toks p)).length)) ∧ Bth w its p CA (putZ (toks p).length CB k) nA tA vA bA SA nB tB vB bB SB W' := by
  refine Calls.mono (Cancel_any h.b (std_of hI) k) ?_
  rintro e W' ⟨he, ht, hk⟩
  exact ⟨he, h.a.kept_lo h.lo hk (fun b hb => h.b.geb b hb), ht, h.lo, h.hs, h.bel.trans ((h.b.kpb hk).mono h.wb), h.wa, h.wb⟩

theorem liveL_few (hI : Itm its p) (C : Nat → Bool) : (liveL p C (toks p)).length ≤ 1000 := Nat.le_trans (liveL_len p C (toks p)) (toks_few hI)

theorem rev_at {l : List Int} {i : Nat} (h : i < l.length) : l.reverse[i]? = l[l.length - 1 - i]? := by
  rw [List.getElem?_reverse h]

theorem take_snoc {l : List Int} {i : Nat} {x : Int} (h : l[i]? = some x) : l.take (i + 1) = l.take i ++ [x] := by
  rw [List.take_add_one, h]
  rfl

set_option maxHeartbeats 16000000 in
theorem once_walk (x : By) (t : Tr) (a : Option Addr) (ac : Nat) (lv : Value) (l : List Int) (k : Int) (w : World) (hT : Dg.Tab w) (hk : Kd true t) (hM : ∀ wx, Below w.heap.size w wx → Calls Tryd.prog 6 #[.agg #[.string ⟨x.toArray⟩, .slice a t.len ac]] wx fun e w' => MakeC x t wx e w') (hFI : ∀ its, planT x t = some its → FairI its) (hL : RdZ w lv l) (hlm : l.length ≤ maxLen) :
    Calls Tryd.prog 4 #[.agg #[.string ⟨x.toArray⟩, .slice a t.len ac], lv, .int .i64 k] w fun e w' => e = .returned (.bool true) ∧ Below w.heap.size w w' := by
  have hb1 := bl1 w (.cells #[.string ⟨x.toArray⟩, .slice a t.len ac] 24)
  have HB1 : Hid _ := hb1
  have HMK : Hid _ := hM _ hb1
  have HTB : Hid (∀ wx, Below w.heap.size w wx → Dg.Tab wx) := fun wx hb => hT.later hb
  have HPK : Hid (∀ wx, Below w.heap.size w wx → RdZ wx lv l) := fun wx hb => hL.later hb
  have HFX : Hid _ := hFI
  have HKD : Hid _ := hk
  have c0 := (Dg.cell_row (Dg.row_new w #[.string ⟨x.toArray⟩, .slice a t.len ac] 24) 0).trans rfl
  have c1 := (Dg.cell_row (Dg.row_new w #[.string ⟨x.toArray⟩, .slice a t.len ac] 24) 1).trans rfl
  obtain ⟨la, lc, rfl, hlc, _⟩ := hL
  obtain ⟨nL, HNL⟩ : ∃ nL, Hid (l.length = nL) := ⟨_, rfl⟩
  obtain ⟨tl, HTL⟩ : ∃ tl, Hid (t.len = tl) := ⟨_, rfl⟩
  unfold maxLen at hlm
  rw [HNL.out] at hlc HPK hlm ⊢
  rw [HTL.out] at HMK HB1 c0 c1 ⊢
  clear hT hk hM hFI hb1
  go_enter Tryd.func4, Tryd.ntmps4
  go_wp2_with fail
  refine Calls.mono HMK.out ?_
  rintro e w2 ⟨hb2, he⟩
  have HB2 : Hid (Below w.heap.size w w2) := HB1.out.trans (hb2.mono HB1.out.size)
  clear HMK hb2 c0 c1 HB1
  cases hP : planT x t with
  | none =>
    rw [hP] at he
    obtain rfl : e = .returned (.tuple #[.agg #[.slice none 0 0], .int .i64 11]) := he
    have HB3 : Hid (Below w.heap.size w (w2.alloc (.cells #[.slice none 0 0] 28))) := HB2.out.alloc HB2.out.size _
    clear hP
    go_wp2_with fail
    refine Calls.mono (lives_any _ (HTB.out _ HB3.out)) ?_
    rintro e w4 ⟨rfl, hb4⟩
    have HB4 : Hid _ := HB3.out.trans (hb4.mono HB3.out.size)
    clear hb4
    go_wp2_with fail
    first
      | (go_ret; exact ⟨rfl, HB4.out⟩)
      | exact ⟨rfl, HB4.out⟩
  | some its =>
    rw [hP] at he
    obtain ⟨v, rfl, hst⟩ := he
    have HSG : Hid (sagaP its = some (x, t)) := saga_of_plan hP HKD.out
    have HI : Hid (Itm its (plOf its)) := itm_of HSG.out
    have HFI : Hid (FairI its) := HFX.out its hP
    obtain ⟨ia, ic, rfl, _⟩ := hst.rd
    obtain ⟨n, HN⟩ : ∃ n, Hid (its.length = n) := ⟨_, rfl⟩
    have HRD : Hid (RdIt w2 (.slice ia n ic) its) := by have := hst.rd; rwa [HN.out] at this
    rw [HN.out]
    have HB3 : Hid (Below w.heap.size w (w2.alloc (.cells #[.slice ia n ic] 28))) := HB2.out.alloc HB2.out.size _
    have r3 := Dg.row_new w2 #[.slice ia n ic] 28
    have HR3 : Hid _ := r3
    have g0 := (Dg.cell_row r3 0).trans rfl
    have HRD3 : Hid _ := RdIt.later HRD.out (bl1 w2 (.cells #[.slice ia n ic] 28))
    clear hP hst HFX HKD r3 HRD
    by_cases hl : (50 : Int) < (nL : Int)
    · go_wp2_with fail
      refine Calls.mono (lives_any _ (HTB.out _ HB3.out)) ?_
      rintro e w4 ⟨rfl, hb4⟩
      have HB4 : Hid _ := HB3.out.trans (hb4.mono HB3.out.size)
      clear hb4
      go_wp2_with fail
      first
        | (go_ret; exact ⟨rfl, HB4.out⟩)
        | exact ⟨rfl, HB4.out⟩
    · have HN1 : Hid _ := New_any its (.slice ia n ic) _ HRD3.out HFI.out (HTB.out _ HB3.out)
      go_wp2_with fail
      generalize w2.alloc (.cells #[.slice ia n ic] 28) = w3 at *
      obtain ⟨pb, hpb⟩ : ∃ pb, w2.heap.size = pb := ⟨_, rfl⟩
      rw [hpb] at HR3 g0 ⊢
      clear hpb HB2
      refine Calls.mono HN1.out ?_
      rintro e w4 hN
      unfold NewC at hN
      rw [HSG.out] at hN
      obtain ⟨hb4, nA, tA, vA, bA, SA, rfl, hnA, hTA, hSA⟩ := hN
      have HTA : Hid _ := hTA
      have HB4 : Hid (Below w.heap.size w w4) := HB3.out.trans (hb4.mono HB3.out.size)
      have HNA : Hid (w.heap.size ≤ nA) := Nat.le_trans HB3.out.size hnA
      have HR4 : Hid _ := row_later HR3.out hb4
      have g1 := (Dg.cell_row HR4.out 0).trans rfl
      have HRD4 : Hid _ := RdIt.later HRD3.out hb4
      have HN2 : Hid _ := New_any its (.slice ia n ic) _ HRD4.out HFI.out (HTB.out _ HB4.out)
      clear HN1 hb4 hnA hTA hSA HR3 g0 HRD3 HB3
      go_wp2_with fail
      refine Calls.mono HN2.out ?_
      rintro e w5 hN
      unfold NewC at hN
      rw [HSG.out] at hN
      obtain ⟨hb5, nB, tB, vB, bB, SB, rfl, hnB, hTB, hSB⟩ := hN
      have HBT0 : Hid (Bth w its (plOf its) (fun _ => false) (fun _ => false) nA tA vA bA SA nB tB vB bB SB w5) :=
        ⟨TT.later HTA.out hb5, hTB, (TT.low HTA.out).mono hnB, hSB, HB4.out.trans (hb5.mono HB4.out.size), HNA.out, Nat.le_trans HB4.out.size hnB⟩
      obtain ⟨p, HPL⟩ : ∃ p, Hid (plOf its = p) := ⟨_, rfl⟩
      rw [HPL.out] at HBT0 HI
      obtain ⟨N, HNN⟩ : ∃ N, Hid ((toks p).length = N) := ⟨_, rfl⟩
      clear HN2 hb5 hnB hTB hSB HTA HNA HR4 g1 HRD4 HSG HFI HB4 HPL
      go_wp2_with fail
      go_loopw [13] (fun iv wr => ∃ (i : Nat), i ≤ nL ∧ iv = .int .i64 i ∧ Hid (Bth w its p (cz N (fun _ => false) (l.take i)) (cz N (fun _ => false) (l.reverse.take i)) nA tA vA bA SA nB tB vB bB SB wr)) (fun iv _ => nL - (intOf iv).toNat)
      case atStart => exact ⟨0, Nat.zero_le _, by go_num, HBT0.out⟩
      case round =>
        obtain ⟨i, hi, rfl, HB⟩ := hrel
        rename World => w6
        clear HBT0
        by_cases hlt : i < nL
        rotate_left
        · have hni : ¬ (i : Int) < (nL : Int) := by omega
          have HBE : Hid (Bth w its p (cz N (fun _ => false) l) (cz N (fun _ => false) l) nA tA vA bA SA nB tB vB bB SB w6) := by
            have h9 := HB.out
            have hnl := HNL.out
            rw [List.take_of_length_le (show l.length ≤ i by omega), List.take_of_length_le (show l.reverse.length ≤ i by rw [List.length_reverse]; omega), cz_reverse] at h9
            exact h9
          obtain ⟨C, HC⟩ : ∃ C, Hid (cz N (fun _ => false) l = C) := ⟨_, rfl⟩
          rw [HC.out] at HBE
          obtain ⟨G, HG⟩ : ∃ G, Hid (liveL p C (toks p) = G) := ⟨_, rfl⟩
          have hG : G.length ≤ 1000 := by rw [← HG.out]; exact liveL_few HI.out C
          have HL1 : Hid _ := Live_rd HBE.out.a (std_of HI.out)
          rw [HG.out] at HL1
          clear HB HC
          go_wp2_with fail
          refine Calls.mono HL1.out ?_
          rintro e w7 ⟨hb7, u1, rfl, hr1, _⟩
          have HBE7 : Hid _ := HBE.out.later hb7
          have HR1 : Hid (Dg.RdI w7 u1 G) := hr1
          have HL2 : Hid _ := Live_rd HBE7.out.b (std_of HI.out)
          rw [HG.out] at HL2
          clear HL1 hb7 hr1 HBE
          go_wp2_with fail
          refine Calls.mono HL2.out ?_
          rintro e w8 ⟨hb8, u2, rfl, hr2, _⟩
          have HBE8 : Hid _ := HBE7.out.later hb8
          have HSM : Hid _ := Dg.sameI_any G G u1 u2 w8 (Dg.RdI.later HR1.out hb8) hr2 (by omega) (by omega)
          rw [decide_eq_true rfl] at HSM
          clear HL2 hb8 hr2 HBE7 HR1
          go_wp2_with fail
          refine Calls.mono HSM.out ?_
          rintro e w9 ⟨rfl, hb9⟩
          have HBE9 : Hid _ := HBE8.out.later hb9
          have HCA : Hid _ := HBE9.out.cancelA HI.out k
          obtain ⟨D, HD⟩ : ∃ D, Hid (putZ (toks p).length C k = D) := ⟨_, rfl⟩
          have HDD : Hid (putZ (toks p).length D k = D) := by
            show putZ (toks p).length D k = D
            rw [← HD.out]
            exact putZ_putZ _ _ _
          rw [HD.out] at HCA
          obtain ⟨z1, hz1⟩ : ∃ z1, ((liveL p C (toks p)).length : Int) - ((liveL p D (toks p)).length : Int) = z1 := ⟨_, rfl⟩
          rw [hz1] at HCA
          clear HSM hb9 HBE8 hz1
          go_wp2_with fail
          refine Calls.mono HCA.out ?_
          rintro e wa ⟨rfl, hba, _⟩
          have HBA : Hid _ := hba
          obtain ⟨G2, HG2⟩ : ∃ G2, Hid (liveL p D (toks p) = G2) := ⟨_, rfl⟩
          have hG2 : G2.length ≤ 1000 := by rw [← HG2.out]; exact liveL_few HI.out D
          have HL3 : Hid _ := Live_rd HBA.out.a (std_of HI.out)
          rw [HG2.out] at HL3
          clear HCA hba HBE9 HG hG
          go_wp2_with fail
          refine Calls.mono HL3.out ?_
          rintro e wb ⟨hbb, u3, rfl, hr3, hu3⟩
          have HBB : Hid _ := HBA.out.later hbb
          have HR3 : Hid (Dg.RdI wb u3 G2) := hr3
          have HU3 : Hid (∀ g, u3.ownBlock = some g → ¬ g ∈ bA) := fun g hg hm => by
            have := hu3 g hg
            have := HBA.out.a.lt hm
            omega
          have HCB : Hid _ := HBB.out.cancelA HI.out k
          rw [HDD.out, Int.sub_self] at HCB
          clear HL3 hbb hr3 hu3 HBA
          go_wp2_with fail
          refine Calls.mono HCB.out ?_
          rintro e wc ⟨rfl, hbc, hkc⟩
          have HBC : Hid _ := hbc
          have HR3c : Hid _ := RdI.kept HR3.out hkc HU3.out
          have HL4 : Hid _ := Live_rd HBC.out.a (std_of HI.out)
          rw [HG2.out] at HL4
          clear HCB hbc hkc HBB HR3
          go_wp2_with fail
          refine Calls.mono HL4.out ?_
          rintro e wd ⟨hbd, u4, rfl, hr4, _⟩
          have HBD : Hid _ := HBC.out.later hbd
          have HSM2 : Hid _ := Dg.sameI_any G2 G2 u4 u3 wd hr4 (Dg.RdI.later HR3c.out hbd) (by omega) (by omega)
          rw [decide_eq_true rfl] at HSM2
          clear HL4 hbd hr4 HBC HR3c HU3
          go_wp2_with fail
          refine Calls.mono HSM2.out ?_
          rintro e we ⟨rfl, hbe⟩
          have HBEE : Hid _ := HBD.out.later hbe
          clear HSM2 hbe HBD
          have HLV : Hid _ := lives_any we (HTB.out _ HBEE.out.bel)
          go_wp2_with fail
          refine Calls.mono HLV.out ?_
          rintro e wf ⟨rfl, hbf⟩
          have HBF : Hid _ := HBEE.out.bel.trans (hbf.mono HBEE.out.bel.size)
          clear HLV hbf HBEE
          go_wp2_with fail
          first
            | (go_ret; exact ⟨rfl, HBF.out⟩)
            | exact ⟨rfl, HBF.out⟩
        · have hii : (i : Int) < (nL : Int) := by omega
          have hil : i < l.length := by have := HNL.out; omega
          obtain ⟨y1, hy1⟩ : ∃ y, l[i]? = some y := ⟨_, List.getElem?_eq_getElem hil⟩
          obtain ⟨y2, hy2⟩ : ∃ y, l[l.length - 1 - i]? = some y := ⟨_, List.getElem?_eq_getElem (by omega)⟩
          have hy3 : l.reverse[i]? = some y2 := by rw [rev_at hil]; exact hy2
          have HT1 : Hid _ := take_snoc hy1
          have HT2 : Hid _ := take_snoc hy3
          obtain ⟨a9, c9, e9, _, hr9⟩ := HPK.out w6 HB.out.bel
          have e91 := (Value.slice.inj e9).1
          obtain ⟨lb, lo, ha9, k1⟩ := hr9 i y1 hy1
          obtain rfl := e91.trans ha9
          clear e9 e91 ha9 hr9
          have HCA : Hid _ := HB.out.cancelA HI.out y1
          rw [HNN.out, ← cz_snoc, ← HT1.out] at HCA
          clear hy1 hy3
          have HY2 : Hid _ := hy2
          clear hy2
          go_wp2_with fail
          refine Calls.mono HCA.out ?_
          rintro e w7 ⟨rfl, hb7, _⟩
          have HB7 : Hid _ := hb7
          obtain ⟨a9, c9, e9, _, hr9⟩ := HPK.out w7 HB7.out.bel
          have e91 := (Value.slice.inj e9).1
          obtain ⟨lb2, lo2, ha9, k2⟩ := hr9 _ y2 HY2.out
          have e92 := e91.trans ha9
          injection e92 with e93
          injection e93 with e94 e95
          subst e94 e95
          rw [HNL.out] at k2
          clear e9 e91 ha9 hr9 hb7 HCA HB k1
          have HCB : Hid _ := HB7.out.cancelB HI.out y2
          rw [HNN.out, ← cz_snoc, ← HT2.out] at HCB
          obtain ⟨z, hz⟩ : ∃ z, nL - 1 - i = z := ⟨_, rfl⟩
          have hz2 : (nL : Int) - 1 - (i : Int) = (z : Int) := by omega
          have hzl : (z : Int) < (nL : Int) := by omega
          rw [hz] at k2
          clear hz HY2
          go_wp2_with fail
          refine Calls.mono HCB.out ?_
          rintro e w8 ⟨rfl, hb8⟩
          have HB8 : Hid _ := hb8
          clear HCB hb8 HB7 k2
          go_wp2_with fail
          go_roundw
          case rel => exact ⟨i + 1, by omega, by go_num, HB8⟩
          case measure => simp [intOf] <;> omega
end Go.Proofs.YteghapmlnkhepaaDoor.Tk

