/- The walk over EventBack. -/
import Derived.Test.YtcnodkkdhkkicaaDoorLb
namespace Go.Proofs.YtcnodkkdhkkicaaDoor
open Go.RowKit
set_option linter.unusedVariables false

set_option maxRecDepth 1000000 in
set_option maxHeartbeats 16000000 in
theorem back_walk (e : Ev) (sv : Value) (b : List UInt8) (ba : Option Addr) (bl bc : Nat) (m : Int) (w : World) (htab : Tab w.heap.size w) (hv : RI w sv e.s) (hb : RB w (.slice ba bl bc) b) (hm : (Lit.int .u8 m).wf = true) :
    Calls Tryd.prog 5 #[.agg #[.int .i64 e.k, .int .i64 e.i, .int .i64 e.t, sv], .slice ba bl bc, .int .u8 m] w fun x w' => x = .returned (.bool true) ∧ Below w.heap.size w w' := by
  obtain rfl : bl = b.length := by obtain ⟨_, _, he, _⟩ := hb; simp only [Value.slice.injEq] at he; exact he.2.1
  have hm2 : 0 ≤ m ∧ m ≤ 255 := by simpa [Lit.wf, IntKind.min, IntKind.max, IntKind.signed, IntKind.bits] using hm
  have HL : Hid (∀ wx, Below w.heap.size w wx → Calls Tryd.prog 7 #[] wx fun x w' => x = .returned (.bool true) ∧ Below wx.heap.size wx w') := fun wx h => lives_any wx ((htab.later h).up h.size)
  have HZB : Hid (RB w (.slice ba b.length bc) b) := hb
  have HV : Hid (RI w sv e.s) := hv
  have HB0 : Hid (Below w.heap.size w (w.alloc (.cells #[.int .i64 e.k, .int .i64 e.i, .int .i64 e.t, sv] 25))) := (Below.refl _ _).alloc (Nat.le_refl _) _
  have HX0 : Hid (Box (w.alloc (.cells #[.int .i64 e.k, .int .i64 e.i, .int .i64 e.t, sv] 25)) w.heap.size e.k e.i e.t sv) := Box.new w _ _ _ _
  obtain ⟨mc, hmc⟩ : ∃ mc : UInt8, (mc.toNat : Int) = m := ⟨UInt8.ofNat m.toNat, by rw [u8_nat]; omega⟩
  have HMC : Hid ((#[.int .u8 m] : Array Value).toList = bvs [mc]) := by show _ = _; rw [← hmc]; rfl
  obtain ⟨sa, sc, hsv, _, _, _⟩ := hv
  subst hsv
  clear hb hmc hm
  by_cases hsl : 300 < e.s.length
  · clear HV HZB htab
    generalize e.k = k at *
    generalize e.i = i at *
    generalize e.t = t at *
    generalize e.s.length = n at *
    go_enter Tryd.func5, Tryd.ntmps5
    go_wp2_with fail
    refine Calls.mono (HL.out _ HB0.out) ?_
    rintro e w1 ⟨rfl, hb1⟩
    have HB1 : Hid (Below w.heap.size w w1) := HB0.out.trans (hb1.mono HB0.out.size)
    clear hb1 HB0
    go_wp2_with fail
    go_ret
    exact ⟨rfl, HB1.out⟩
  · by_cases hbl : 5000 < b.length
    · clear HV HZB htab
      generalize e.k = k at *
      generalize e.i = i at *
      generalize e.t = t at *
      generalize e.s.length = n at *
      go_enter Tryd.func5, Tryd.ntmps5
      go_wp2_with fail
      refine Calls.mono (HL.out _ HB0.out) ?_
      rintro e w1 ⟨rfl, hb1⟩
      have HB1 : Hid (Below w.heap.size w w1) := HB0.out.trans (hb1.mono HB0.out.size)
      clear hb1 HB0
      go_wp2_with fail
      go_ret
      exact ⟨rfl, HB1.out⟩
    · cases ho : okE e
      · have HBY : Hid (∀ wx, Below w.heap.size w wx → Calls Tryd.prog 8 #[.agg #[.int .i64 e.k, .int .i64 e.i, .int .i64 e.t, .slice sa e.s.length sc]] wx fun x w' => ∃ v c, x = .returned (.tuple #[.slice v 0 c, .int .i64 2]) ∧ RB w' (.slice v 0 c) [] ∧ Below wx.heap.size wx w') := by
          show ∀ wx, _
          intro wx hx
          have h1 := bytes_ev e _ wx (RI.later HV.out hx) (by omega)
          rw [bytE_no ho, show evE e = 2 by unfold evE; rw [ho]; rfl] at h1
          exact h1
        have HTX : Hid (∀ wx, Below w.heap.size w wx → Calls Tryd.prog 12 #[.agg #[.int .i64 e.k, .int .i64 e.i, .int .i64 e.t, .slice sa e.s.length sc]] wx fun x w' => x = .returned (.string ⟨#[]⟩) ∧ Below wx.heap.size wx w') := by
          show ∀ wx, _
          intro wx hx
          have h1 := text_ev e _ wx (RI.later HV.out hx) (by omega) ((htab.later hx).up hx.size)
          rw [show textE e = [] by unfold textE; rw [ho]; rfl] at h1
          exact h1
        clear HV htab ho HMC
        generalize e.k = k at *
        generalize e.i = i at *
        generalize e.t = t at *
        generalize e.s = s at *
        cases hrd : rd b with
        | none =>
          have HRB : Hid (∀ wx, Below w.heap.size w wx → Calls Tryd.prog 18 #[.slice ba b.length bc] wx fun e w' => ∃ sv, e = .returned (.tuple #[.agg #[.int .i64 0, .int .i64 0, .int .i64 0, sv], .int .i64 4]) ∧ RI w' sv [] ∧ Below wx.heap.size wx w') := fun wx hb => read_rd _ b wx (RB.later HZB.out hb) (by omega) none hrd
          have HSZ : Hid (∀ wx va, RI wx va [] → Calls Tryd.prog 20 #[.agg #[.int .i64 0, .int .i64 0, .int .i64 0, va], .agg #[.int .i64 0, .int .i64 0, .int .i64 0, .slice none 0 0]] wx fun x w' => x = .returned (.bool true) ∧ Below wx.heap.size wx w') := fun wx va h => same_ev ⟨0, 0, 0, []⟩ ⟨0, 0, 0, []⟩ va (.slice none 0 0) wx h (RI.nil wx) (by decide) (by decide)
          clear hrd
          go_enter Tryd.func5, Tryd.ntmps5
          go_wp2_with fail
          refine Calls.mono (HBY.out _ HB0.out) ?_
          rintro e w1 ⟨v1, c1, rfl, hr1, hb1⟩
          have HB1 : Hid (Below w.heap.size w w1) := HB0.out.trans (hb1.mono HB0.out.size)
          have HX1 : Hid (Box w1 w.heap.size k i t (.slice sa s.length sc)) := HX0.out.later hb1
          clear hb1 hr1 HB0 HX0
          have p0 := HX1.out.c0
          have p1 := HX1.out.c1
          have p2 := HX1.out.c2
          have p3 := HX1.out.c3
          go_wp2_with fail
          refine Calls.mono (HTX.out _ HB1.out) ?_
          rintro e w9 ⟨rfl, hb9⟩
          have HB9 : Hid (Below w.heap.size w w9) := HB1.out.trans (hb9.mono HB1.out.size)
          clear hb9 HB1 HX1 p0 p1 p2 p3
          go_wp2_with fail
          refine Calls.mono (HRB.out _ HB9.out) ?_
          rintro e wA ⟨svA, rfl, hrA, hbA⟩
          have HBA : Hid (Below w.heap.size w (wA.alloc (.cells #[.int .i64 0, .int .i64 0, .int .i64 0, svA] 25))) := (HB9.out.trans (hbA.mono HB9.out.size)).alloc (HB9.out.trans (hbA.mono HB9.out.size)).size _
          have HRA : Hid (RI (wA.alloc (.cells #[.int .i64 0, .int .i64 0, .int .i64 0, svA] 25)) svA []) := RI.later hrA ((Below.refl _ _).alloc (Nat.le_refl _) _)
          obtain ⟨aA, dA, hsA, _, _, _⟩ := hrA
          obtain rfl : svA = .slice aA 0 dA := hsA
          clear hbA HB9
          go_wp2_with fail
          refine Calls.mono (HSZ.out _ _ HRA.out) ?_
          rintro e wB ⟨rfl, hbB⟩
          have HBB : Hid (Below w.heap.size w wB) := HBA.out.trans (hbB.mono HBA.out.size)
          clear hbB HBA HRA
          go_wp2_with fail
          refine Calls.mono (HL.out _ HBB.out) ?_
          rintro e wC ⟨rfl, hbC⟩
          have HBC : Hid (Below w.heap.size w wC) := HBB.out.trans (hbC.mono HBB.out.size)
          clear hbC HBB
          go_wp2_with fail
          go_ret
          exact ⟨rfl, HBC.out⟩
        | some y =>
          obtain ⟨hyo, hye⟩ := rd_some hrd
          have HRB : Hid (∀ wx, Below w.heap.size w wx → Calls Tryd.prog 18 #[.slice ba b.length bc] wx fun e w' => ∃ sv, e = .returned (.tuple #[.agg #[.int .i64 y.k, .int .i64 y.i, .int .i64 y.t, sv], .int .i64 0]) ∧ RI w' sv y.s ∧ Below wx.heap.size wx w') := fun wx hb => read_rd _ b wx (RB.later HZB.out hb) (by omega) (some y) hrd
          have HYB : Hid (∀ wx va, RI wx va y.s → Calls Tryd.prog 8 #[.agg #[.int .i64 y.k, .int .i64 y.i, .int .i64 y.t, va]] wx fun x w' => ∃ v c, x = .returned (.tuple #[.slice v b.length c, .int .i64 0]) ∧ RB w' (.slice v b.length c) b ∧ Below wx.heap.size wx w') := by
            show ∀ wx va, _
            intro wx va h
            have h1 := bytes_ev y va wx h (by have := okS_len (okE_stamp hyo); omega)
            rw [bytE_yes hyo, hye, show evE y = 0 by unfold evE; rw [if_pos hyo]] at h1
            exact h1
          generalize y.k = yk at *
          generalize y.i = yi at *
          generalize y.t = yt at *
          generalize y.s = ys at *
          clear hrd hyo hye
          go_enter Tryd.func5, Tryd.ntmps5
          go_wp2_with fail
          refine Calls.mono (HBY.out _ HB0.out) ?_
          rintro e w1 ⟨v1, c1, rfl, hr1, hb1⟩
          have HB1 : Hid (Below w.heap.size w w1) := HB0.out.trans (hb1.mono HB0.out.size)
          have HX1 : Hid (Box w1 w.heap.size k i t (.slice sa s.length sc)) := HX0.out.later hb1
          clear hb1 hr1 HB0 HX0
          have p0 := HX1.out.c0
          have p1 := HX1.out.c1
          have p2 := HX1.out.c2
          have p3 := HX1.out.c3
          go_wp2_with fail
          refine Calls.mono (HTX.out _ HB1.out) ?_
          rintro e w9 ⟨rfl, hb9⟩
          have HB9 : Hid (Below w.heap.size w w9) := HB1.out.trans (hb9.mono HB1.out.size)
          clear hb9 HB1 HX1 p0 p1 p2 p3
          go_wp2_with fail
          refine Calls.mono (HRB.out _ HB9.out) ?_
          rintro e wA ⟨svA, rfl, hrA, hbA⟩
          have HBA : Hid (Below w.heap.size w (wA.alloc (.cells #[.int .i64 yk, .int .i64 yi, .int .i64 yt, svA] 25))) := (HB9.out.trans (hbA.mono HB9.out.size)).alloc (HB9.out.trans (hbA.mono HB9.out.size)).size _
          have HRA : Hid (RI (wA.alloc (.cells #[.int .i64 yk, .int .i64 yi, .int .i64 yt, svA] 25)) svA ys) := RI.later hrA ((Below.refl _ _).alloc (Nat.le_refl _) _)
          obtain ⟨aA, dA, rfl, _, _, _⟩ := hrA
          clear hbA HB9
          go_wp2_with fail
          refine Calls.mono (HYB.out _ _ HRA.out) ?_
          rintro e wB ⟨vB, cB, rfl, hrB, hbB⟩
          have HBB : Hid (Below w.heap.size w wB) := HBA.out.trans (hbB.mono HBA.out.size)
          have hcv1 := string_of_RB hrB
          have hcv2 := string_of_RB (RB.later HZB.out HBB.out)
          clear hbB hrB HBA HRA
          go_wp2_with fail
          refine Calls.mono (HL.out _ HBB.out) ?_
          rintro e wC ⟨rfl, hbC⟩
          have HBC : Hid (Below w.heap.size w wC) := HBB.out.trans (hbC.mono HBB.out.size)
          clear hbC HBB hcv1 hcv2
          go_wp2_with fail
          go_ret
          exact ⟨rfl, HBC.out⟩
      · have HBY : Hid (∀ wx, Below w.heap.size w wx → Calls Tryd.prog 8 #[.agg #[.int .i64 e.k, .int .i64 e.i, .int .i64 e.t, .slice sa e.s.length sc]] wx fun x w' => ∃ v c, x = .returned (.tuple #[.slice v (encE e).length c, .int .i64 0]) ∧ RB w' (.slice v (encE e).length c) (encE e) ∧ Below wx.heap.size wx w') := by
          show ∀ wx, _
          intro wx hx
          have h1 := bytes_ev e _ wx (RI.later HV.out hx) (by omega)
          rw [bytE_yes ho, show evE e = 0 by unfold evE; rw [if_pos ho]] at h1
          exact h1
        have HDL : Hid ((encE e).length ≤ 2000) := enc_len ho
        have HDP : Hid (0 < (encE e).length) := enc_pos e
        have HRD : Hid (∀ wx x D, D = encE e → D.length ≤ 100000 → RB wx x D → Calls Tryd.prog 18 #[x] wx fun e' w' => ∃ sv, e' = .returned (.tuple #[.agg #[.int .i64 e.k, .int .i64 e.i, .int .i64 e.t, sv], .int .i64 0]) ∧ RI w' sv e.s ∧ Below wx.heap.size wx w') := by
          show ∀ wx x D, _
          rintro wx x D rfl hl hx
          exact read_rd x _ wx hx hl (some e) (rd_enc ho)
        have HLS : Hid (∀ wx x, RB wx x (encE e).dropLast → Calls Tryd.prog 18 #[x] wx fun e' w' => ∃ z, e' = .returned (.tuple #[.agg #[.int .i64 0, .int .i64 0, .int .i64 0, z], .int .i64 4]) ∧ RI w' z [] ∧ Below wx.heap.size wx w') := fun wx x hx => read_rd x _ wx hx (by have := HDL.out; rw [List.length_dropLast]; omega) none (rd_less ho)
        have HMO : Hid (∀ wx x, RB wx x (encE e ++ [mc]) → Calls Tryd.prog 18 #[x] wx fun e' w' => ∃ z, e' = .returned (.tuple #[.agg #[.int .i64 0, .int .i64 0, .int .i64 0, z], .int .i64 4]) ∧ RI w' z [] ∧ Below wx.heap.size wx w') := fun wx x hx => read_rd x _ wx hx (by have := HDL.out; rw [List.length_append]; simp; omega) none (rd_more mc ho)
        have HSA : Hid (∀ wx va, Below w.heap.size w wx → RI wx va e.s → Calls Tryd.prog 20 #[.agg #[.int .i64 e.k, .int .i64 e.i, .int .i64 e.t, va], .agg #[.int .i64 e.k, .int .i64 e.i, .int .i64 e.t, .slice sa e.s.length sc]] wx fun x w' => x = .returned (.bool true) ∧ Below wx.heap.size wx w') := by
          show ∀ wx va, _
          intro wx va hx h
          have h1 := same_ev e e va _ wx h (RI.later HV.out hx) (by omega) (by omega)
          rw [sameB_iff.2 rfl] at h1
          exact h1
        have hD0 : ((((encE e).length : Nat) : Int) == 0) = false := by have := HDP.out; rw [beq_eq_false_iff_ne]; omega
        clear HV htab ho
        generalize encE e = D at *
        generalize e.k = k at *
        generalize e.i = i at *
        generalize e.t = t at *
        generalize e.s = s at *
        cases hrd : rd b with
        | none =>
          have HRB : Hid (∀ wx, Below w.heap.size w wx → Calls Tryd.prog 18 #[.slice ba b.length bc] wx fun e w' => ∃ sv, e = .returned (.tuple #[.agg #[.int .i64 0, .int .i64 0, .int .i64 0, sv], .int .i64 4]) ∧ RI w' sv [] ∧ Below wx.heap.size wx w') := fun wx hb => read_rd _ b wx (RB.later HZB.out hb) (by omega) none hrd
          have HSZ : Hid (∀ wx va, RI wx va [] → Calls Tryd.prog 20 #[.agg #[.int .i64 0, .int .i64 0, .int .i64 0, va], .agg #[.int .i64 0, .int .i64 0, .int .i64 0, .slice none 0 0]] wx fun x w' => x = .returned (.bool true) ∧ Below wx.heap.size wx w') := fun wx va h => same_ev ⟨0, 0, 0, []⟩ ⟨0, 0, 0, []⟩ va (.slice none 0 0) wx h (RI.nil wx) (by decide) (by decide)
          clear hrd
          go_enter Tryd.func5, Tryd.ntmps5
          go_wp2_with fail
          refine Calls.mono (HBY.out _ HB0.out) ?_
          rintro e w1 ⟨v1, c1, rfl, hr1, hb1⟩
          have HB1 : Hid (Below w.heap.size w w1) := HB0.out.trans (hb1.mono HB0.out.size)
          have HX1 : Hid (Box w1 w.heap.size k i t (.slice sa s.length sc)) := HX0.out.later hb1
          have HR1 : Hid (RB w1 (.slice v1 D.length c1) D) := hr1
          clear hb1 hr1 HB0 HX0
          go_wp2_with fail
          refine Calls.mono (HRD.out _ _ D rfl (by have := HDL.out; omega) HR1.out) ?_
          rintro e w2 ⟨sv2, rfl, hr2, hb2⟩
          have HB2 : Hid (Below w.heap.size w (w2.alloc (.cells #[.int .i64 k, .int .i64 i, .int .i64 t, sv2] 25))) := (HB1.out.trans (hb2.mono HB1.out.size)).alloc (HB1.out.trans (hb2.mono HB1.out.size)).size _
          have HR2 : Hid (RB (w2.alloc (.cells #[.int .i64 k, .int .i64 i, .int .i64 t, sv2] 25)) (.slice v1 D.length c1) D) := RB.later (RB.later HR1.out hb2) ((Below.refl _ _).alloc (Nat.le_refl _) _)
          have HX2 : Hid (Box (w2.alloc (.cells #[.int .i64 k, .int .i64 i, .int .i64 t, sv2] 25)) w.heap.size k i t (.slice sa s.length sc)) := (HX1.out.later hb2).alloc _
          have HY2 : Hid (Box (w2.alloc (.cells #[.int .i64 k, .int .i64 i, .int .i64 t, sv2] 25)) w2.heap.size k i t sv2) := Box.new w2 k i t sv2
          have HI2 : Hid (RI (w2.alloc (.cells #[.int .i64 k, .int .i64 i, .int .i64 t, sv2] 25)) sv2 s) := RI.later hr2 ((Below.refl _ _).alloc (Nat.le_refl _) _)
          obtain ⟨V2, hV2, hSV2⟩ := slice_to HR2.out (D.length - 1) (by omega) ((D.length : Int) - 1) (by have := HDP.out; omega)
          have HV2 : Hid (RB (w2.alloc (.cells #[.int .i64 k, .int .i64 i, .int .i64 t, sv2] 25)) V2 D.dropLast) := by
            show RB _ _ _
            rw [List.dropLast_eq_take]
            exact hV2
          have hwr : wrap64 ((D.length : Int) - 1) = (D.length : Int) - 1 := by unfold wrap64; have := HDP.out; have := HDL.out; omega
          obtain ⟨a2, d2, rfl, _, _, _⟩ := hr2
          clear hb2 HB1 HR1 HX1 hV2
          go_wp2_with fail
          refine Calls.mono (HLS.out _ _ HV2.out) ?_
          rintro e w3 ⟨z3, rfl, hz3, hb3⟩
          obtain ⟨az3, cz3, hzz3, _, _, _⟩ := hz3
          obtain rfl : z3 = .slice az3 0 cz3 := hzz3
          have HB3 : Hid (Below w.heap.size w (w3.alloc (.cells #[.int .i64 0, .int .i64 0, .int .i64 0, .slice az3 0 cz3] 25))) := (HB2.out.trans (hb3.mono HB2.out.size)).alloc (HB2.out.trans (hb3.mono HB2.out.size)).size _
          have HR3 : Hid (RB (w3.alloc (.cells #[.int .i64 0, .int .i64 0, .int .i64 0, .slice az3 0 cz3] 25)) (.slice v1 D.length c1) D) := RB.later (RB.later HR2.out hb3) ((Below.refl _ _).alloc (Nat.le_refl _) _)
          have HX3 : Hid (Box (w3.alloc (.cells #[.int .i64 0, .int .i64 0, .int .i64 0, .slice az3 0 cz3] 25)) w.heap.size k i t (.slice sa s.length sc)) := (HX2.out.later hb3).alloc _
          have HY3 : Hid (Box (w3.alloc (.cells #[.int .i64 0, .int .i64 0, .int .i64 0, .slice az3 0 cz3] 25)) w2.heap.size k i t (.slice a2 s.length d2)) := (HY2.out.later hb3).alloc _
          have HI3 : Hid (RI (w3.alloc (.cells #[.int .i64 0, .int .i64 0, .int .i64 0, .slice az3 0 cz3] 25)) (.slice a2 s.length d2) s) := RI.later (RI.later HI2.out hb3) ((Below.refl _ _).alloc (Nat.le_refl _) _)
          clear hb3 HB2 HR2 HX2 HY2 HI2 HV2 hSV2 hwr
          have HE3 : Hid ((w3.alloc (.cells #[.int .i64 0, .int .i64 0, .int .i64 0, .slice az3 0 cz3] 25)).heap.size = w3.heap.size + 1) := by show _ = _; simp
          have HO5 : Hid (OB (w3.heap.size + 1) ((w3.alloc (.cells #[.int .i64 0, .int .i64 0, .int .i64 0, .slice az3 0 cz3] 25)).alloc (.cells #[] 5)) (w3.heap.size + 1) 0 0 []) := by
            have h := OB.made (w3.alloc (.cells #[.int .i64 0, .int .i64 0, .int .i64 0, .slice az3 0 cz3] 25)) 0 #[] (by unfold maxLen; omega) rfl
            rw [HE3.out] at h
            exact h
          have HB5s : Hid (Below (w3.alloc (.cells #[.int .i64 0, .int .i64 0, .int .i64 0, .slice az3 0 cz3] 25)).heap.size (w3.alloc (.cells #[.int .i64 0, .int .i64 0, .int .i64 0, .slice az3 0 cz3] 25)) ((w3.alloc (.cells #[.int .i64 0, .int .i64 0, .int .i64 0, .slice az3 0 cz3] 25)).alloc (.cells #[] 5))) := (Below.refl _ _).alloc (Nat.le_refl _) _
          have HB5 : Hid (Below (w3.heap.size + 1) (w3.alloc (.cells #[.int .i64 0, .int .i64 0, .int .i64 0, .slice az3 0 cz3] 25)) ((w3.alloc (.cells #[.int .i64 0, .int .i64 0, .int .i64 0, .slice az3 0 cz3] 25)).alloc (.cells #[] 5))) := by show Below _ _ _; rw [← HE3.out]; exact HB5s.out
          go_wp2_with (first
            | (at_builtin; refine append_bytes rfl _ _ rfl (w3.heap.size + 1) (w3.heap.size + 1) 0 0 [] rfl HO5.out _ D rfl (RB.later HR3.out HB5s.out) (by omega) (by have := HDL.out; omega) (by simp) D.length D (by omega) rfl ?_; intro g6 c6 w6 ho6 hg6; have HB6 : Hid (Below (w3.heap.size + 1) (w3.alloc (.cells #[.int .i64 0, .int .i64 0, .int .i64 0, .slice az3 0 cz3] 25)) w6) := HB5.out.trans (HO5.out.below (by simp) hg6); have HO6 : Hid (OB (w3.heap.size + 1) w6 g6 D.length c6 D) := ho6; have HZ6 : Hid (OB (w3.heap.size + 1) (w6.alloc (.cells #[.int .u8 m] 5)) g6 D.length c6 D) := HO6.out.later ((Below.refl _ _).alloc (Nat.le_refl _) _); have HN6 : Hid (RB (w6.alloc (.cells #[.int .u8 m] 5)) (.slice (some ⟨w6.heap.size, 0, none⟩) 1 1) [mc]) := RB.new w6 [mc] #[.int .u8 m] 5 HMC.out (by simp); clear ho6 hg6)
            | (at_builtin; refine append_bytes rfl _ _ rfl (w3.heap.size + 1) g6 D.length c6 D rfl HZ6.out _ [mc] rfl HN6.out (by have := HDL.out; omega) (by simp) (by have := HB6.out.size; simp at this ⊢; omega) (D.length + 1) (D ++ [mc]) rfl rfl ?_; intro g7 c7 w7 ho7 hg7; have HB7 : Hid (Below (w3.heap.size + 1) (w3.alloc (.cells #[.int .i64 0, .int .i64 0, .int .i64 0, .slice az3 0 cz3] 25)) w7) := (HB6.out.alloc (by have := HB6.out.size; simp at this; omega) _).trans (HZ6.out.below (by have := HB6.out.size; simp at this ⊢; omega) hg7); have HO7 : Hid (RB w7 (.slice (some ⟨g7, 0, none⟩) (D.length + 1) c7) (D ++ [mc])) := ho7.rb.2; clear ho7 hg7))
          refine Calls.mono (HMO.out _ _ HO7.out) ?_
          rintro e w8 ⟨z8, rfl, hz8, hb8⟩
          obtain ⟨az8, cz8, hzz8, _, _, _⟩ := hz8
          obtain rfl : z8 = .slice az8 0 cz8 := hzz8
          have HC8 : Hid (Below (w3.heap.size + 1) (w3.alloc (.cells #[.int .i64 0, .int .i64 0, .int .i64 0, .slice az3 0 cz3] 25)) (w8.alloc (.cells #[.int .i64 0, .int .i64 0, .int .i64 0, .slice az8 0 cz8] 25))) := (HB7.out.trans (hb8.mono (by have := HB7.out.size; simp at this; omega))).alloc (by have := HB7.out.size; have := hb8.size; simp at *; omega) _
          have HC9 : Hid (Below (w3.alloc (.cells #[.int .i64 0, .int .i64 0, .int .i64 0, .slice az3 0 cz3] 25)).heap.size (w3.alloc (.cells #[.int .i64 0, .int .i64 0, .int .i64 0, .slice az3 0 cz3] 25)) (w8.alloc (.cells #[.int .i64 0, .int .i64 0, .int .i64 0, .slice az8 0 cz8] 25))) := by show Below _ _ _; rw [HE3.out]; exact HC8.out
          have HB8 : Hid (Below w.heap.size w (w8.alloc (.cells #[.int .i64 0, .int .i64 0, .int .i64 0, .slice az8 0 cz8] 25))) := HB3.out.trans (HC9.out.mono HB3.out.size)
          have HX8 : Hid (Box (w8.alloc (.cells #[.int .i64 0, .int .i64 0, .int .i64 0, .slice az8 0 cz8] 25)) w.heap.size k i t (.slice sa s.length sc)) := HX3.out.later HC9.out
          have HY8 : Hid (Box (w8.alloc (.cells #[.int .i64 0, .int .i64 0, .int .i64 0, .slice az8 0 cz8] 25)) w2.heap.size k i t (.slice a2 s.length d2)) := HY3.out.later HC9.out
          have HI8 : Hid (RI (w8.alloc (.cells #[.int .i64 0, .int .i64 0, .int .i64 0, .slice az8 0 cz8] 25)) (.slice a2 s.length d2) s) := RI.later HI3.out HC9.out
          clear hb8 HB3 HR3 HX3 HY3 HI3 HO5 HB5 HB5s HB6 HO6 HZ6 HN6 HB7 HO7 HC8 HC9 HE3
          have p0 := HX8.out.c0
          have p1 := HX8.out.c1
          have p2 := HX8.out.c2
          have p3 := HX8.out.c3
          have y0 := HY8.out.c0
          have y1 := HY8.out.c1
          have y2 := HY8.out.c2
          have y3 := HY8.out.c3
          go_wp2_with fail
          refine Calls.mono (HSA.out _ _ HB8.out HI8.out) ?_
          rintro e w9 ⟨rfl, hb9⟩
          have HB9 : Hid (Below w.heap.size w w9) := HB8.out.trans (hb9.mono HB8.out.size)
          clear hb9 HB8 HX8 HY8 HI8 p0 p1 p2 p3 y0 y1 y2 y3
          go_wp2_with fail
          refine Calls.mono (HRB.out _ HB9.out) ?_
          rintro e wA ⟨svA, rfl, hrA, hbA⟩
          have HBA : Hid (Below w.heap.size w (wA.alloc (.cells #[.int .i64 0, .int .i64 0, .int .i64 0, svA] 25))) := (HB9.out.trans (hbA.mono HB9.out.size)).alloc (HB9.out.trans (hbA.mono HB9.out.size)).size _
          have HRA : Hid (RI (wA.alloc (.cells #[.int .i64 0, .int .i64 0, .int .i64 0, svA] 25)) svA []) := RI.later hrA ((Below.refl _ _).alloc (Nat.le_refl _) _)
          obtain ⟨aA, dA, hsA, _, _, _⟩ := hrA
          obtain rfl : svA = .slice aA 0 dA := hsA
          clear hbA HB9
          go_wp2_with fail
          refine Calls.mono (HSZ.out _ _ HRA.out) ?_
          rintro e wB ⟨rfl, hbB⟩
          have HBB : Hid (Below w.heap.size w wB) := HBA.out.trans (hbB.mono HBA.out.size)
          clear hbB HBA HRA
          go_wp2_with fail
          refine Calls.mono (HL.out _ HBB.out) ?_
          rintro e wC ⟨rfl, hbC⟩
          have HBC : Hid (Below w.heap.size w wC) := HBB.out.trans (hbC.mono HBB.out.size)
          clear hbC HBB
          go_wp2_with fail
          go_ret
          exact ⟨rfl, HBC.out⟩
        | some y =>
          obtain ⟨hyo, hye⟩ := rd_some hrd
          have HRB : Hid (∀ wx, Below w.heap.size w wx → Calls Tryd.prog 18 #[.slice ba b.length bc] wx fun e w' => ∃ sv, e = .returned (.tuple #[.agg #[.int .i64 y.k, .int .i64 y.i, .int .i64 y.t, sv], .int .i64 0]) ∧ RI w' sv y.s ∧ Below wx.heap.size wx w') := fun wx hb => read_rd _ b wx (RB.later HZB.out hb) (by omega) (some y) hrd
          have HYB : Hid (∀ wx va, RI wx va y.s → Calls Tryd.prog 8 #[.agg #[.int .i64 y.k, .int .i64 y.i, .int .i64 y.t, va]] wx fun x w' => ∃ v c, x = .returned (.tuple #[.slice v b.length c, .int .i64 0]) ∧ RB w' (.slice v b.length c) b ∧ Below wx.heap.size wx w') := by
            show ∀ wx va, _
            intro wx va h
            have h1 := bytes_ev y va wx h (by have := okS_len (okE_stamp hyo); omega)
            rw [bytE_yes hyo, hye, show evE y = 0 by unfold evE; rw [if_pos hyo]] at h1
            exact h1
          generalize y.k = yk at *
          generalize y.i = yi at *
          generalize y.t = yt at *
          generalize y.s = ys at *
          clear hrd hyo hye
          go_enter Tryd.func5, Tryd.ntmps5
          go_wp2_with fail
          refine Calls.mono (HBY.out _ HB0.out) ?_
          rintro e w1 ⟨v1, c1, rfl, hr1, hb1⟩
          have HB1 : Hid (Below w.heap.size w w1) := HB0.out.trans (hb1.mono HB0.out.size)
          have HX1 : Hid (Box w1 w.heap.size k i t (.slice sa s.length sc)) := HX0.out.later hb1
          have HR1 : Hid (RB w1 (.slice v1 D.length c1) D) := hr1
          clear hb1 hr1 HB0 HX0
          go_wp2_with fail
          refine Calls.mono (HRD.out _ _ D rfl (by have := HDL.out; omega) HR1.out) ?_
          rintro e w2 ⟨sv2, rfl, hr2, hb2⟩
          have HB2 : Hid (Below w.heap.size w (w2.alloc (.cells #[.int .i64 k, .int .i64 i, .int .i64 t, sv2] 25))) := (HB1.out.trans (hb2.mono HB1.out.size)).alloc (HB1.out.trans (hb2.mono HB1.out.size)).size _
          have HR2 : Hid (RB (w2.alloc (.cells #[.int .i64 k, .int .i64 i, .int .i64 t, sv2] 25)) (.slice v1 D.length c1) D) := RB.later (RB.later HR1.out hb2) ((Below.refl _ _).alloc (Nat.le_refl _) _)
          have HX2 : Hid (Box (w2.alloc (.cells #[.int .i64 k, .int .i64 i, .int .i64 t, sv2] 25)) w.heap.size k i t (.slice sa s.length sc)) := (HX1.out.later hb2).alloc _
          have HY2 : Hid (Box (w2.alloc (.cells #[.int .i64 k, .int .i64 i, .int .i64 t, sv2] 25)) w2.heap.size k i t sv2) := Box.new w2 k i t sv2
          have HI2 : Hid (RI (w2.alloc (.cells #[.int .i64 k, .int .i64 i, .int .i64 t, sv2] 25)) sv2 s) := RI.later hr2 ((Below.refl _ _).alloc (Nat.le_refl _) _)
          obtain ⟨V2, hV2, hSV2⟩ := slice_to HR2.out (D.length - 1) (by omega) ((D.length : Int) - 1) (by have := HDP.out; omega)
          have HV2 : Hid (RB (w2.alloc (.cells #[.int .i64 k, .int .i64 i, .int .i64 t, sv2] 25)) V2 D.dropLast) := by
            show RB _ _ _
            rw [List.dropLast_eq_take]
            exact hV2
          have hwr : wrap64 ((D.length : Int) - 1) = (D.length : Int) - 1 := by unfold wrap64; have := HDP.out; have := HDL.out; omega
          obtain ⟨a2, d2, rfl, _, _, _⟩ := hr2
          clear hb2 HB1 HR1 HX1 hV2
          go_wp2_with fail
          refine Calls.mono (HLS.out _ _ HV2.out) ?_
          rintro e w3 ⟨z3, rfl, hz3, hb3⟩
          obtain ⟨az3, cz3, hzz3, _, _, _⟩ := hz3
          obtain rfl : z3 = .slice az3 0 cz3 := hzz3
          have HB3 : Hid (Below w.heap.size w (w3.alloc (.cells #[.int .i64 0, .int .i64 0, .int .i64 0, .slice az3 0 cz3] 25))) := (HB2.out.trans (hb3.mono HB2.out.size)).alloc (HB2.out.trans (hb3.mono HB2.out.size)).size _
          have HR3 : Hid (RB (w3.alloc (.cells #[.int .i64 0, .int .i64 0, .int .i64 0, .slice az3 0 cz3] 25)) (.slice v1 D.length c1) D) := RB.later (RB.later HR2.out hb3) ((Below.refl _ _).alloc (Nat.le_refl _) _)
          have HX3 : Hid (Box (w3.alloc (.cells #[.int .i64 0, .int .i64 0, .int .i64 0, .slice az3 0 cz3] 25)) w.heap.size k i t (.slice sa s.length sc)) := (HX2.out.later hb3).alloc _
          have HY3 : Hid (Box (w3.alloc (.cells #[.int .i64 0, .int .i64 0, .int .i64 0, .slice az3 0 cz3] 25)) w2.heap.size k i t (.slice a2 s.length d2)) := (HY2.out.later hb3).alloc _
          have HI3 : Hid (RI (w3.alloc (.cells #[.int .i64 0, .int .i64 0, .int .i64 0, .slice az3 0 cz3] 25)) (.slice a2 s.length d2) s) := RI.later (RI.later HI2.out hb3) ((Below.refl _ _).alloc (Nat.le_refl _) _)
          clear hb3 HB2 HR2 HX2 HY2 HI2 HV2 hSV2 hwr
          have HE3 : Hid ((w3.alloc (.cells #[.int .i64 0, .int .i64 0, .int .i64 0, .slice az3 0 cz3] 25)).heap.size = w3.heap.size + 1) := by show _ = _; simp
          have HO5 : Hid (OB (w3.heap.size + 1) ((w3.alloc (.cells #[.int .i64 0, .int .i64 0, .int .i64 0, .slice az3 0 cz3] 25)).alloc (.cells #[] 5)) (w3.heap.size + 1) 0 0 []) := by
            have h := OB.made (w3.alloc (.cells #[.int .i64 0, .int .i64 0, .int .i64 0, .slice az3 0 cz3] 25)) 0 #[] (by unfold maxLen; omega) rfl
            rw [HE3.out] at h
            exact h
          have HB5s : Hid (Below (w3.alloc (.cells #[.int .i64 0, .int .i64 0, .int .i64 0, .slice az3 0 cz3] 25)).heap.size (w3.alloc (.cells #[.int .i64 0, .int .i64 0, .int .i64 0, .slice az3 0 cz3] 25)) ((w3.alloc (.cells #[.int .i64 0, .int .i64 0, .int .i64 0, .slice az3 0 cz3] 25)).alloc (.cells #[] 5))) := (Below.refl _ _).alloc (Nat.le_refl _) _
          have HB5 : Hid (Below (w3.heap.size + 1) (w3.alloc (.cells #[.int .i64 0, .int .i64 0, .int .i64 0, .slice az3 0 cz3] 25)) ((w3.alloc (.cells #[.int .i64 0, .int .i64 0, .int .i64 0, .slice az3 0 cz3] 25)).alloc (.cells #[] 5))) := by show Below _ _ _; rw [← HE3.out]; exact HB5s.out
          go_wp2_with (first
            | (at_builtin; refine append_bytes rfl _ _ rfl (w3.heap.size + 1) (w3.heap.size + 1) 0 0 [] rfl HO5.out _ D rfl (RB.later HR3.out HB5s.out) (by omega) (by have := HDL.out; omega) (by simp) D.length D (by omega) rfl ?_; intro g6 c6 w6 ho6 hg6; have HB6 : Hid (Below (w3.heap.size + 1) (w3.alloc (.cells #[.int .i64 0, .int .i64 0, .int .i64 0, .slice az3 0 cz3] 25)) w6) := HB5.out.trans (HO5.out.below (by simp) hg6); have HO6 : Hid (OB (w3.heap.size + 1) w6 g6 D.length c6 D) := ho6; have HZ6 : Hid (OB (w3.heap.size + 1) (w6.alloc (.cells #[.int .u8 m] 5)) g6 D.length c6 D) := HO6.out.later ((Below.refl _ _).alloc (Nat.le_refl _) _); have HN6 : Hid (RB (w6.alloc (.cells #[.int .u8 m] 5)) (.slice (some ⟨w6.heap.size, 0, none⟩) 1 1) [mc]) := RB.new w6 [mc] #[.int .u8 m] 5 HMC.out (by simp); clear ho6 hg6)
            | (at_builtin; refine append_bytes rfl _ _ rfl (w3.heap.size + 1) g6 D.length c6 D rfl HZ6.out _ [mc] rfl HN6.out (by have := HDL.out; omega) (by simp) (by have := HB6.out.size; simp at this ⊢; omega) (D.length + 1) (D ++ [mc]) rfl rfl ?_; intro g7 c7 w7 ho7 hg7; have HB7 : Hid (Below (w3.heap.size + 1) (w3.alloc (.cells #[.int .i64 0, .int .i64 0, .int .i64 0, .slice az3 0 cz3] 25)) w7) := (HB6.out.alloc (by have := HB6.out.size; simp at this; omega) _).trans (HZ6.out.below (by have := HB6.out.size; simp at this ⊢; omega) hg7); have HO7 : Hid (RB w7 (.slice (some ⟨g7, 0, none⟩) (D.length + 1) c7) (D ++ [mc])) := ho7.rb.2; clear ho7 hg7))
          refine Calls.mono (HMO.out _ _ HO7.out) ?_
          rintro e w8 ⟨z8, rfl, hz8, hb8⟩
          obtain ⟨az8, cz8, hzz8, _, _, _⟩ := hz8
          obtain rfl : z8 = .slice az8 0 cz8 := hzz8
          have HC8 : Hid (Below (w3.heap.size + 1) (w3.alloc (.cells #[.int .i64 0, .int .i64 0, .int .i64 0, .slice az3 0 cz3] 25)) (w8.alloc (.cells #[.int .i64 0, .int .i64 0, .int .i64 0, .slice az8 0 cz8] 25))) := (HB7.out.trans (hb8.mono (by have := HB7.out.size; simp at this; omega))).alloc (by have := HB7.out.size; have := hb8.size; simp at *; omega) _
          have HC9 : Hid (Below (w3.alloc (.cells #[.int .i64 0, .int .i64 0, .int .i64 0, .slice az3 0 cz3] 25)).heap.size (w3.alloc (.cells #[.int .i64 0, .int .i64 0, .int .i64 0, .slice az3 0 cz3] 25)) (w8.alloc (.cells #[.int .i64 0, .int .i64 0, .int .i64 0, .slice az8 0 cz8] 25))) := by show Below _ _ _; rw [HE3.out]; exact HC8.out
          have HB8 : Hid (Below w.heap.size w (w8.alloc (.cells #[.int .i64 0, .int .i64 0, .int .i64 0, .slice az8 0 cz8] 25))) := HB3.out.trans (HC9.out.mono HB3.out.size)
          have HX8 : Hid (Box (w8.alloc (.cells #[.int .i64 0, .int .i64 0, .int .i64 0, .slice az8 0 cz8] 25)) w.heap.size k i t (.slice sa s.length sc)) := HX3.out.later HC9.out
          have HY8 : Hid (Box (w8.alloc (.cells #[.int .i64 0, .int .i64 0, .int .i64 0, .slice az8 0 cz8] 25)) w2.heap.size k i t (.slice a2 s.length d2)) := HY3.out.later HC9.out
          have HI8 : Hid (RI (w8.alloc (.cells #[.int .i64 0, .int .i64 0, .int .i64 0, .slice az8 0 cz8] 25)) (.slice a2 s.length d2) s) := RI.later HI3.out HC9.out
          clear hb8 HB3 HR3 HX3 HY3 HI3 HO5 HB5 HB5s HB6 HO6 HZ6 HN6 HB7 HO7 HC8 HC9 HE3
          have p0 := HX8.out.c0
          have p1 := HX8.out.c1
          have p2 := HX8.out.c2
          have p3 := HX8.out.c3
          have y0 := HY8.out.c0
          have y1 := HY8.out.c1
          have y2 := HY8.out.c2
          have y3 := HY8.out.c3
          go_wp2_with fail
          refine Calls.mono (HSA.out _ _ HB8.out HI8.out) ?_
          rintro e w9 ⟨rfl, hb9⟩
          have HB9 : Hid (Below w.heap.size w w9) := HB8.out.trans (hb9.mono HB8.out.size)
          clear hb9 HB8 HX8 HY8 HI8 p0 p1 p2 p3 y0 y1 y2 y3
          go_wp2_with fail
          refine Calls.mono (HRB.out _ HB9.out) ?_
          rintro e wA ⟨svA, rfl, hrA, hbA⟩
          have HBA : Hid (Below w.heap.size w (wA.alloc (.cells #[.int .i64 yk, .int .i64 yi, .int .i64 yt, svA] 25))) := (HB9.out.trans (hbA.mono HB9.out.size)).alloc (HB9.out.trans (hbA.mono HB9.out.size)).size _
          have HRA : Hid (RI (wA.alloc (.cells #[.int .i64 yk, .int .i64 yi, .int .i64 yt, svA] 25)) svA ys) := RI.later hrA ((Below.refl _ _).alloc (Nat.le_refl _) _)
          obtain ⟨aA, dA, rfl, _, _, _⟩ := hrA
          clear hbA HB9
          go_wp2_with fail
          refine Calls.mono (HYB.out _ _ HRA.out) ?_
          rintro e wB ⟨vB, cB, rfl, hrB, hbB⟩
          have HBB : Hid (Below w.heap.size w wB) := HBA.out.trans (hbB.mono HBA.out.size)
          have hcv1 := string_of_RB hrB
          have hcv2 := string_of_RB (RB.later HZB.out HBB.out)
          clear hbB hrB HBA HRA
          go_wp2_with fail
          refine Calls.mono (HL.out _ HBB.out) ?_
          rintro e wC ⟨rfl, hbC⟩
          have HBC : Hid (Below w.heap.size w wC) := HBB.out.trans (hbC.mono HBB.out.size)
          clear hbC HBB hcv1 hcv2
          go_wp2_with fail
          go_ret
          exact ⟨rfl, HBC.out⟩
end Go.Proofs.YtcnodkkdhkkicaaDoor
