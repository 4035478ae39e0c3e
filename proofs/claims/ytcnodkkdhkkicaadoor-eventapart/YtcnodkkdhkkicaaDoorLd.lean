/- The walk over EventApart. -/
import Derived.Test.YtcnodkkdhkkicaaDoorLb
import Derived.Test.YtcnodkkdhkkicaaDoorLe
namespace Go.Proofs.YtcnodkkdhkkicaaDoor
open Go.RowKit
set_option linter.unusedVariables false

/-- What is known between the operations of EventApart's last line. -/
structure ApS (w : World) (k1 i1 t1 : Int) (x1 : Value) (k2 i2 t2 : Int) (x2 : Value) (s1 : Value) (D1 : List UInt8) (s2 : Value) (D2 : List UInt8) (w' : World) : Prop where
  bel : Below w.heap.size w w'
  b1 : Box w' w.heap.size k1 i1 t1 x1
  b2 : Box w' (w.heap.size + 1) k2 i2 t2 x2
  r1 : RB w' s1 D1
  r2 : RB w' s2 D2

theorem ApS.later {w : World} {k1 i1 t1 : Int} {x1 : Value} {k2 i2 t2 : Int} {x2 s1 : Value} {D1 : List UInt8} {s2 : Value} {D2 : List UInt8} {w' w2 : World} (h : ApS w k1 i1 t1 x1 k2 i2 t2 x2 s1 D1 s2 D2 w') (hb : Below w'.heap.size w' w2) : ApS w k1 i1 t1 x1 k2 i2 t2 x2 s1 D1 s2 D2 w2 :=
  ⟨h.bel.trans (hb.mono h.bel.size), h.b1.later hb, h.b2.later hb, h.r1.later hb, h.r2.later hb⟩

set_option maxRecDepth 1000000 in
set_option maxHeartbeats 16000000 in
theorem apart_walk (a : Ev) (sv : Value) (b : Ev) (su : Value) (w : World) (htab : Tab w.heap.size w) (hv : RI w sv a.s) (hu : RI w su b.s) :
    Calls Tryd.prog 6 #[.agg #[.int .i64 a.k, .int .i64 a.i, .int .i64 a.t, sv], .agg #[.int .i64 b.k, .int .i64 b.i, .int .i64 b.t, su]] w fun x w' => x = .returned (.bool true) ∧ Below w.heap.size w w' := by
  have HL : Hid (∀ wx, Below w.heap.size w wx → Calls Tryd.prog 7 #[] wx fun x w' => x = .returned (.bool true) ∧ Below wx.heap.size wx w') := fun wx h => lives_any wx ((htab.later h).up h.size)
  have HV : Hid (RI w sv a.s) := hv
  have HU : Hid (RI w su b.s) := hu
  have HB0 : Hid (Below w.heap.size w ((w.alloc (.cells #[.int .i64 a.k, .int .i64 a.i, .int .i64 a.t, sv] 25)).alloc (.cells #[.int .i64 b.k, .int .i64 b.i, .int .i64 b.t, su] 25))) := ((Below.refl _ _).alloc (Nat.le_refl _) _).alloc (by simp) _
  have HX0 : Hid (Box ((w.alloc (.cells #[.int .i64 a.k, .int .i64 a.i, .int .i64 a.t, sv] 25)).alloc (.cells #[.int .i64 b.k, .int .i64 b.i, .int .i64 b.t, su] 25)) w.heap.size a.k a.i a.t sv) := (Box.new w _ _ _ _).alloc _
  have HZ0 : Hid (Box ((w.alloc (.cells #[.int .i64 a.k, .int .i64 a.i, .int .i64 a.t, sv] 25)).alloc (.cells #[.int .i64 b.k, .int .i64 b.i, .int .i64 b.t, su] 25)) (w.heap.size + 1) b.k b.i b.t su) := heap_alloc2_new w _ _
  obtain ⟨sa, sc, hsv, _, _, _⟩ := hv
  obtain ⟨sb, sd, hsu, _, _, _⟩ := hu
  subst hsv hsu
  by_cases hl1 : 300 < a.s.length
  · clear HV HU htab HX0 HZ0
    generalize a.s.length = n1 at *
    generalize b.s.length = n2 at *
    generalize a.k = k1 at *
    generalize a.i = i1 at *
    generalize a.t = t1 at *
    generalize b.k = k2 at *
    generalize b.i = i2 at *
    generalize b.t = t2 at *
    go_enter Tryd.func6, Tryd.ntmps6
    go_wp2_with fail
    refine Calls.mono (HL.out _ HB0.out) ?_
    rintro e wL ⟨rfl, hbL⟩
    have HBL : Hid (Below w.heap.size w wL) := HB0.out.trans (hbL.mono HB0.out.size)
    clear hbL
    go_wp2_with fail
    go_ret
    exact ⟨rfl, HBL.out⟩
  · by_cases hl2 : 300 < b.s.length
    · clear HV HU htab HX0 HZ0
      generalize a.s.length = n1 at *
      generalize b.s.length = n2 at *
      generalize a.k = k1 at *
      generalize a.i = i1 at *
      generalize a.t = t1 at *
      generalize b.k = k2 at *
      generalize b.i = i2 at *
      generalize b.t = t2 at *
      go_enter Tryd.func6, Tryd.ntmps6
      go_wp2_with fail
      refine Calls.mono (HL.out _ HB0.out) ?_
      rintro e wL ⟨rfl, hbL⟩
      have HBL : Hid (Below w.heap.size w wL) := HB0.out.trans (hbL.mono HB0.out.size)
      clear hbL
      go_wp2_with fail
      go_ret
      exact ⟨rfl, HBL.out⟩
    · have HY1 : Hid (∀ wx, Below w.heap.size w wx → Calls Tryd.prog 8 #[.agg #[.int .i64 a.k, .int .i64 a.i, .int .i64 a.t, .slice sa a.s.length sc]] wx fun x w' => ∃ v c, x = .returned (.tuple #[.slice v (bytE a).length c, .int .i64 (evE a : Nat)]) ∧ RB w' (.slice v (bytE a).length c) (bytE a) ∧ Below wx.heap.size wx w') := fun wx hx => bytes_ev a _ wx (RI.later HV.out hx) (by omega)
      have HY2 : Hid (∀ wx, Below w.heap.size w wx → Calls Tryd.prog 8 #[.agg #[.int .i64 b.k, .int .i64 b.i, .int .i64 b.t, .slice sb b.s.length sd]] wx fun x w' => ∃ v c, x = .returned (.tuple #[.slice v (bytE b).length c, .int .i64 (evE b : Nat)]) ∧ RB w' (.slice v (bytE b).length c) (bytE b) ∧ Below wx.heap.size wx w') := fun wx hx => bytes_ev b _ wx (RI.later HU.out hx) (by omega)
      cases hoa : okE a
      · have hE : evE a = 2 := by unfold evE; rw [hoa]; rfl
        rw [hE] at HY1
        have hE2 : (((2 : Nat) : Int) != 0) = true := rfl
        clear HV HU htab hoa hE
        generalize bytE a = D1 at *
        generalize bytE b = D2 at *
        generalize evE b = E2 at *
        generalize a.s.length = n1 at *
        generalize b.s.length = n2 at *
        generalize a.k = k1 at *
        generalize a.i = i1 at *
        generalize a.t = t1 at *
        generalize b.k = k2 at *
        generalize b.i = i2 at *
        generalize b.t = t2 at *
        go_enter Tryd.func6, Tryd.ntmps6
        go_wp2_with fail
        refine Calls.mono (HY1.out _ HB0.out) ?_
        rintro e w1 ⟨v1, c1, rfl, hr1, hb1⟩
        have HB1 : Hid (Below w.heap.size w w1) := HB0.out.trans (hb1.mono HB0.out.size)
        have HX1 : Hid (Box w1 w.heap.size k1 i1 t1 (.slice sa n1 sc)) := HX0.out.later hb1
        have HZ1 : Hid (Box w1 (w.heap.size + 1) k2 i2 t2 (.slice sb n2 sd)) := HZ0.out.later hb1
        have HR1 : Hid (RB w1 (.slice v1 D1.length c1) D1) := hr1
        clear hb1 hr1 HB0 HX0 HZ0
        have z0 := HZ1.out.c0
        have z1 := HZ1.out.c1
        have z2 := HZ1.out.c2
        have z3 := HZ1.out.c3
        go_wp2_with fail
        refine Calls.mono (HY2.out _ HB1.out) ?_
        rintro e w2 ⟨v2, c2, rfl, hr2, hb2⟩
        have HB2 : Hid (Below w.heap.size w w2) := HB1.out.trans (hb2.mono HB1.out.size)
        have HX2 : Hid (Box w2 w.heap.size k1 i1 t1 (.slice sa n1 sc)) := HX1.out.later hb2
        have HZ2 : Hid (Box w2 (w.heap.size + 1) k2 i2 t2 (.slice sb n2 sd)) := HZ1.out.later hb2
        have HR2 : Hid (RB w2 (.slice v1 D1.length c1) D1) := RB.later HR1.out hb2
        have HQ2 : Hid (RB w2 (.slice v2 D2.length c2) D2) := hr2
        clear hb2 hr2 HB1 HX1 HZ1 HR1 z0 z1 z2 z3
        have x0 := HX2.out.c0
        have x1 := HX2.out.c1
        have x2 := HX2.out.c2
        have x3 := HX2.out.c3
        have z0 := HZ2.out.c0
        have z1 := HZ2.out.c1
        have z2 := HZ2.out.c2
        have z3 := HZ2.out.c3
        go_wp2_with fail
        refine Calls.mono (HL.out _ HB2.out) ?_
        rintro e wL ⟨rfl, hbL⟩
        have HBL : Hid (Below w.heap.size w wL) := HB2.out.trans (hbL.mono HB2.out.size)
        clear hbL
        go_wp2_with fail
        go_ret
        exact ⟨rfl, HBL.out⟩
      · have hE : evE a = 0 := by unfold evE; rw [hoa]; rfl
        rw [hE] at HY1
        cases hob : okE b
        · have hF : evE b = 2 := by unfold evE; rw [hob]; rfl
          rw [hF] at HY2
          clear HV HU htab hoa hob hE hF
          generalize bytE a = D1 at *
          generalize bytE b = D2 at *
          generalize a.s.length = n1 at *
          generalize b.s.length = n2 at *
          generalize a.k = k1 at *
          generalize a.i = i1 at *
          generalize a.t = t1 at *
          generalize b.k = k2 at *
          generalize b.i = i2 at *
          generalize b.t = t2 at *
          go_enter Tryd.func6, Tryd.ntmps6
          go_wp2_with fail
          refine Calls.mono (HY1.out _ HB0.out) ?_
          rintro e w1 ⟨v1, c1, rfl, hr1, hb1⟩
          have HB1 : Hid (Below w.heap.size w w1) := HB0.out.trans (hb1.mono HB0.out.size)
          have HX1 : Hid (Box w1 w.heap.size k1 i1 t1 (.slice sa n1 sc)) := HX0.out.later hb1
          have HZ1 : Hid (Box w1 (w.heap.size + 1) k2 i2 t2 (.slice sb n2 sd)) := HZ0.out.later hb1
          have HR1 : Hid (RB w1 (.slice v1 D1.length c1) D1) := hr1
          clear hb1 hr1 HB0 HX0 HZ0
          have z0 := HZ1.out.c0
          have z1 := HZ1.out.c1
          have z2 := HZ1.out.c2
          have z3 := HZ1.out.c3
          go_wp2_with fail
          refine Calls.mono (HY2.out _ HB1.out) ?_
          rintro e w2 ⟨v2, c2, rfl, hr2, hb2⟩
          have HB2 : Hid (Below w.heap.size w w2) := HB1.out.trans (hb2.mono HB1.out.size)
          have HX2 : Hid (Box w2 w.heap.size k1 i1 t1 (.slice sa n1 sc)) := HX1.out.later hb2
          have HZ2 : Hid (Box w2 (w.heap.size + 1) k2 i2 t2 (.slice sb n2 sd)) := HZ1.out.later hb2
          have HR2 : Hid (RB w2 (.slice v1 D1.length c1) D1) := RB.later HR1.out hb2
          have HQ2 : Hid (RB w2 (.slice v2 D2.length c2) D2) := hr2
          clear hb2 hr2 HB1 HX1 HZ1 HR1 z0 z1 z2 z3
          have x0 := HX2.out.c0
          have x1 := HX2.out.c1
          have x2 := HX2.out.c2
          have x3 := HX2.out.c3
          have z0 := HZ2.out.c0
          have z1 := HZ2.out.c1
          have z2 := HZ2.out.c2
          have z3 := HZ2.out.c3
          go_wp2_with fail
          refine Calls.mono (HL.out _ HB2.out) ?_
          rintro e wL ⟨rfl, hbL⟩
          have HBL : Hid (Below w.heap.size w wL) := HB2.out.trans (hbL.mono HB2.out.size)
          clear hbL
          go_wp2_with fail
          go_ret
          exact ⟨rfl, HBL.out⟩
        · have hF : evE b = 0 := by unfold evE; rw [hob]; rfl
          rw [hF] at HY2
          have HSA : Hid (∀ wx, Below w.heap.size w wx → Calls Tryd.prog 20 #[.agg #[.int .i64 a.k, .int .i64 a.i, .int .i64 a.t, .slice sa a.s.length sc], .agg #[.int .i64 b.k, .int .i64 b.i, .int .i64 b.t, .slice sb b.s.length sd]] wx fun x w' => x = .returned (.bool (sameB a b)) ∧ Below wx.heap.size wx w') := fun wx hx => same_ev a b _ _ wx (RI.later HV.out hx) (RI.later HU.out hx) (by omega) (by omega)
          have HT1 : Hid (∀ wx, Below w.heap.size w wx → Calls Tryd.prog 12 #[.agg #[.int .i64 a.k, .int .i64 a.i, .int .i64 a.t, .slice sa a.s.length sc]] wx fun x w' => x = .returned (.string ⟨(textE a).toArray⟩) ∧ Below wx.heap.size wx w') := fun wx hx => text_ev a _ wx (RI.later HV.out hx) (by omega) ((htab.later hx).up hx.size)
          have HT2 : Hid (∀ wx, Below w.heap.size w wx → Calls Tryd.prog 12 #[.agg #[.int .i64 b.k, .int .i64 b.i, .int .i64 b.t, .slice sb b.s.length sd]] wx fun x w' => x = .returned (.string ⟨(textE b).toArray⟩) ∧ Below wx.heap.size wx w') := fun wx hx => text_ev b _ wx (RI.later HU.out hx) (by omega) ((htab.later hx).up hx.size)
          have h1 : bytE a = bytE b ↔ sameB a b = true := by
            rw [bytE_yes hoa, bytE_yes hob, sameB_iff]
            exact ⟨fun h => enc_inj hoa hob h, fun h => by rw [h]⟩
          have h2 : textE a = textE b ↔ sameB a b = true := by
            rw [show textE a = texE a by unfold textE; rw [hoa]; rfl, show textE b = texE b by unfold textE; rw [hob]; rfl, sameB_iff]
            exact ⟨fun h => tex_inj hoa hob h, fun h => by rw [h]⟩
          clear HV HU htab hoa hob hE hF
          generalize bytE a = D1 at *
          generalize bytE b = D2 at *
          generalize textE a = T1 at *
          generalize textE b = T2 at *
          generalize a.s.length = n1 at *
          generalize b.s.length = n2 at *
          generalize sameB a b = same at *
          generalize a.k = k1 at *
          generalize a.i = i1 at *
          generalize a.t = t1 at *
          generalize b.k = k2 at *
          generalize b.i = i2 at *
          generalize b.t = t2 at *
          cases same
          · have g1 : ¬ D1 = D2 := fun h => by simpa using h1.1 h
            have g2 : ¬ T1 = T2 := fun h => by simpa using h2.1 h
            clear h1 h2
            go_enter Tryd.func6, Tryd.ntmps6
            go_wp2_with fail
            refine Calls.mono (HY1.out _ HB0.out) ?_
            rintro e w1 ⟨v1, c1, rfl, hr1, hb1⟩
            have HB1 : Hid (Below w.heap.size w w1) := HB0.out.trans (hb1.mono HB0.out.size)
            have HX1 : Hid (Box w1 w.heap.size k1 i1 t1 (.slice sa n1 sc)) := HX0.out.later hb1
            have HZ1 : Hid (Box w1 (w.heap.size + 1) k2 i2 t2 (.slice sb n2 sd)) := HZ0.out.later hb1
            have HR1 : Hid (RB w1 (.slice v1 D1.length c1) D1) := hr1
            clear hb1 hr1 HB0 HX0 HZ0
            have z0 := HZ1.out.c0
            have z1 := HZ1.out.c1
            have z2 := HZ1.out.c2
            have z3 := HZ1.out.c3
            go_wp2_with fail
            refine Calls.mono (HY2.out _ HB1.out) ?_
            rintro e w2 ⟨v2, c2, rfl, hr2, hb2⟩
            have HB2 : Hid (Below w.heap.size w w2) := HB1.out.trans (hb2.mono HB1.out.size)
            have HX2 : Hid (Box w2 w.heap.size k1 i1 t1 (.slice sa n1 sc)) := HX1.out.later hb2
            have HZ2 : Hid (Box w2 (w.heap.size + 1) k2 i2 t2 (.slice sb n2 sd)) := HZ1.out.later hb2
            have HR2 : Hid (RB w2 (.slice v1 D1.length c1) D1) := RB.later HR1.out hb2
            have HQ2 : Hid (RB w2 (.slice v2 D2.length c2) D2) := hr2
            clear hb2 hr2 HB1 HX1 HZ1 HR1 z0 z1 z2 z3
            have x0 := HX2.out.c0
            have x1 := HX2.out.c1
            have x2 := HX2.out.c2
            have x3 := HX2.out.c3
            have z0 := HZ2.out.c0
            have z1 := HZ2.out.c1
            have z2 := HZ2.out.c2
            have z3 := HZ2.out.c3
            go_wp2_with fail
            refine Calls.mono (HSA.out _ HB2.out) ?_
            rintro e w3 ⟨rfl, hb3⟩
            have HB3 : Hid (Below w.heap.size w w3) := HB2.out.trans (hb3.mono HB2.out.size)
            have HX3 : Hid (Box w3 w.heap.size k1 i1 t1 (.slice sa n1 sc)) := HX2.out.later hb3
            have HZ3 : Hid (Box w3 (w.heap.size + 1) k2 i2 t2 (.slice sb n2 sd)) := HZ2.out.later hb3
            have HQ5 : Hid (RB w3.drew (.slice v1 D1.length c1) D1) := RB.later (RB.later HR2.out hb3) ((Below.refl _ _).drew)
            have HQ6 : Hid (RB w3.drew (.slice v2 D2.length c2) D2) := RB.later (RB.later HQ2.out hb3) ((Below.refl _ _).drew)
            clear hb3 HB2 HX2 HZ2 HR2 HQ2 x0 x1 x2 x3 z0 z1 z2 z3
            have hS0 : ApS w k1 i1 t1 (.slice sa n1 sc) k2 i2 t2 (.slice sb n2 sd) (.slice v1 D1.length c1) D1 (.slice v2 D2.length c2) D2 w3.drew := ⟨HB3.out.drew, HX3.out, HZ3.out, HQ5.out, HQ6.out⟩
            go_wp2_with fail
            refine region_thenF [(41, .slice v1 D1.length c1), (42, .string ⟨D1.toArray⟩), (43, .slice v2 D2.length c2), (44, .string ⟨D2.toArray⟩), (45, .bool false), (46, .bool false), (47, .bool true), (48, .bool true), (49, .agg #[.int .i64 k1, .int .i64 i1, .int .i64 t1, .slice sa n1 sc]), (50, .string ⟨T1.toArray⟩), (51, .agg #[.int .i64 k2, .int .i64 i2, .int .i64 t2, .slice sb n2 sd]), (52, .string ⟨T2.toArray⟩), (53, .bool false), (54, .bool false), (55, .bool true), (56, .bool true), (57, .bool true), (58, .bool true), (59, .bool true), (4, .bool true)] (fun w' => Below w.heap.size w w') ?_ ?_
            · refine wp_region_held (S := fun w' => ApS w k1 i1 t1 (.slice sa n1 sc) k2 i2 t2 (.slice sb n2 sd) (.slice v1 D1.length c1) D1 (.slice v2 D2.length c2) D2 w') (by kernel_rfl) ?_
              simp only [List.size_toArray, List.length_cons, List.length_nil, Nat.reduceAdd, Array.replicate_succ, Array.replicate_zero, List.push_toArray, List.nil_append, List.cons_append]
              refine takeD (i := 0) (d := 41) (v := .slice v1 D1.length c1) (fuel := 19) rfl rfl (by kernel_rfl) (by kernel_rfl) (by kernel_rfl) (fun _ _ _ h => by cases h.1) (.inl ⟨by kernel_rfl, fun _ _ => by go_simp⟩) hS0 ?_
              simp only [List.setIfInBounds_toArray, List.set_cons_succ, List.set_cons_zero]
              refine takeD (i := 1) (d := 42) (v := .string ⟨D1.toArray⟩) (fuel := 18) rfl rfl (by kernel_rfl) (by kernel_rfl) (by kernel_rfl) (fun _ _ _ h => by cases h.1) (.inl ⟨by kernel_rfl, fun wx hx => by have z := string_of_RB hx.r1; go_simp⟩) hS0 ?_
              simp only [List.setIfInBounds_toArray, List.set_cons_succ, List.set_cons_zero]
              refine takeD (i := 2) (d := 43) (v := .slice v2 D2.length c2) (fuel := 17) rfl rfl (by kernel_rfl) (by kernel_rfl) (by kernel_rfl) (fun _ _ _ h => by cases h.1) (.inl ⟨by kernel_rfl, fun _ _ => by go_simp⟩) hS0 ?_
              simp only [List.setIfInBounds_toArray, List.set_cons_succ, List.set_cons_zero]
              refine takeD (i := 3) (d := 44) (v := .string ⟨D2.toArray⟩) (fuel := 16) rfl rfl (by kernel_rfl) (by kernel_rfl) (by kernel_rfl) (fun _ _ _ h => by cases h.1) (.inl ⟨by kernel_rfl, fun wx hx => by have z := string_of_RB hx.r2; go_simp⟩) hS0 ?_
              simp only [List.setIfInBounds_toArray, List.set_cons_succ, List.set_cons_zero]
              refine takeD (i := 4) (d := 45) (v := .bool false) (fuel := 15) rfl rfl (by kernel_rfl) (by kernel_rfl) (by kernel_rfl) (fun _ _ _ h => by cases h.1) (.inl ⟨by kernel_rfl, fun _ _ => by go_simp⟩) hS0 ?_
              simp only [List.setIfInBounds_toArray, List.set_cons_succ, List.set_cons_zero]
              refine takeD (i := 5) (d := 46) (v := .bool false) (fuel := 14) rfl rfl (by kernel_rfl) (by kernel_rfl) (by kernel_rfl) (fun _ _ _ h => by cases h.1) (.inl ⟨by kernel_rfl, fun _ _ => by go_simp⟩) hS0 ?_
              simp only [List.setIfInBounds_toArray, List.set_cons_succ, List.set_cons_zero]
              refine takeD (i := 6) (d := 47) (v := .bool true) (fuel := 13) rfl rfl (by kernel_rfl) (by kernel_rfl) (by kernel_rfl) (fun _ _ _ h => by cases h.1) (.inl ⟨by kernel_rfl, fun _ _ => by go_simp⟩) hS0 ?_
              simp only [List.setIfInBounds_toArray, List.set_cons_succ, List.set_cons_zero]
              refine takeD (i := 7) (d := 48) (v := .bool true) (fuel := 12) rfl rfl (by kernel_rfl) (by kernel_rfl) (by kernel_rfl) (fun _ _ _ h => by cases h.1) (.inl ⟨by kernel_rfl, fun _ _ => by go_simp⟩) hS0 ?_
              simp only [List.setIfInBounds_toArray, List.set_cons_succ, List.set_cons_zero]
              refine takeD (i := 8) (d := 49) (v := .agg #[.int .i64 k1, .int .i64 i1, .int .i64 t1, .slice sa n1 sc]) (fuel := 11) rfl rfl (by kernel_rfl) (by kernel_rfl) (by kernel_rfl) (fun _ _ _ h => by cases h.1) (.inl ⟨by kernel_rfl, fun wx hx => by have z0 := hx.b1.c0; have z1 := hx.b1.c1; have z2 := hx.b1.c2; have z3 := hx.b1.c3; go_simp⟩) hS0 ?_
              simp only [List.setIfInBounds_toArray, List.set_cons_succ, List.set_cons_zero]
              refine takeD (i := 10) (d := 51) (v := .agg #[.int .i64 k2, .int .i64 i2, .int .i64 t2, .slice sb n2 sd]) (fuel := 10) rfl rfl (by kernel_rfl) (by kernel_rfl) (by kernel_rfl) (fun _ _ _ h => by cases h.1) (.inl ⟨by kernel_rfl, fun wx hx => by have z0 := hx.b2.c0; have z1 := hx.b2.c1; have z2 := hx.b2.c2; have z3 := hx.b2.c3; go_simp⟩) hS0 ?_
              simp only [List.setIfInBounds_toArray, List.set_cons_succ, List.set_cons_zero]
              refine takeD (i := 13) (d := 54) (v := .bool false) (fuel := 9) rfl rfl (by kernel_rfl) (by kernel_rfl) (by kernel_rfl) (fun _ _ _ h => by cases h.1) (.inl ⟨by kernel_rfl, fun _ _ => by go_simp⟩) hS0 ?_
              simp only [List.setIfInBounds_toArray, List.set_cons_succ, List.set_cons_zero]
              refine oneC (i := 9) (d := 50) (f := 12) (args := #[.agg #[.int .i64 k1, .int .i64 i1, .int .i64 t1, .slice sa n1 sc]]) (v := .string ⟨T1.toArray⟩) (fuel := 8) rfl rfl (by kernel_rfl) (by kernel_rfl) (fun _ => by kernel_rfl) hS0 (fun wx hx => Calls.mono (HT1.out wx hx.bel) (fun e w' h => ⟨h.1, hx.later h.2⟩)) ?_
              intro w5 hS5
              simp only [List.setIfInBounds_toArray, List.set_cons_succ, List.set_cons_zero]
              refine oneC (i := 11) (d := 52) (f := 12) (args := #[.agg #[.int .i64 k2, .int .i64 i2, .int .i64 t2, .slice sb n2 sd]]) (v := .string ⟨T2.toArray⟩) (fuel := 7) rfl rfl (by kernel_rfl) (by kernel_rfl) (fun _ => by kernel_rfl) hS5 (fun wx hx => Calls.mono (HT2.out wx hx.bel) (fun e w' h => ⟨h.1, hx.later h.2⟩)) ?_
              intro w6 hS6
              simp only [List.setIfInBounds_toArray, List.set_cons_succ, List.set_cons_zero]
              refine takeD (i := 12) (d := 53) (v := .bool false) (fuel := 6) rfl rfl (by kernel_rfl) (by kernel_rfl) (by kernel_rfl) (fun _ _ _ h => by cases h.1) (.inl ⟨by kernel_rfl, fun _ _ => by go_simp⟩) hS6 ?_
              simp only [List.setIfInBounds_toArray, List.set_cons_succ, List.set_cons_zero]
              refine takeD (i := 14) (d := 55) (v := .bool true) (fuel := 5) rfl rfl (by kernel_rfl) (by kernel_rfl) (by kernel_rfl) (fun _ _ _ h => by cases h.1) (.inl ⟨by kernel_rfl, fun _ _ => by go_simp⟩) hS6 ?_
              simp only [List.setIfInBounds_toArray, List.set_cons_succ, List.set_cons_zero]
              refine takeD (i := 15) (d := 56) (v := .bool true) (fuel := 4) rfl rfl (by kernel_rfl) (by kernel_rfl) (by kernel_rfl) (fun _ _ _ h => by cases h.1) (.inl ⟨by kernel_rfl, fun _ _ => by go_simp⟩) hS6 ?_
              simp only [List.setIfInBounds_toArray, List.set_cons_succ, List.set_cons_zero]
              refine takeD (i := 16) (d := 57) (v := .bool true) (fuel := 3) rfl rfl (by kernel_rfl) (by kernel_rfl) (by kernel_rfl) (fun _ _ _ h => by cases h.1) (.inl ⟨by kernel_rfl, fun _ _ => by go_simp⟩) hS6 ?_
              simp only [List.setIfInBounds_toArray, List.set_cons_succ, List.set_cons_zero]
              refine oneC (i := 17) (d := 58) (f := 7) (args := #[]) (v := .bool true) (fuel := 2) rfl rfl (by kernel_rfl) (by kernel_rfl) (fun _ => by kernel_rfl) hS6 (fun wx hx => Calls.mono (HL.out wx hx.bel) (fun e w' h => ⟨h.1, hx.later h.2⟩)) ?_
              intro w7 hS7
              simp only [List.setIfInBounds_toArray, List.set_cons_succ, List.set_cons_zero]
              refine takeD (i := 18) (d := 59) (v := .bool true) (fuel := 1) rfl rfl (by kernel_rfl) (by kernel_rfl) (by kernel_rfl) (fun _ _ _ h => by cases h.1) (.inl ⟨by kernel_rfl, fun _ _ => by go_simp⟩) hS7 ?_
              simp only [List.setIfInBounds_toArray, List.set_cons_succ, List.set_cons_zero]
              refine takeD (i := 19) (d := 4) (v := .bool true) (fuel := 0) rfl rfl (by kernel_rfl) (by kernel_rfl) (by kernel_rfl) (fun _ _ _ h => by cases h.1) (.inl ⟨by kernel_rfl, fun _ _ => by go_simp⟩) hS7 ?_
              simp only [List.setIfInBounds_toArray, List.set_cons_succ, List.set_cons_zero]
              refine wpAnyH_done (by kernel_rfl) ?_ _
              exact ⟨rfl, by kernel_rfl, hS7.bel⟩
            · intro w8 hb8
              have HB8 : Hid (Below w.heap.size w w8) := hb8
              clear hb8 hS0 HL HT1 HT2
              simp only [setAll, List.setIfInBounds_toArray, List.set_cons_succ, List.set_cons_zero]
              go_wp2_with fail
              go_ret
              exact ⟨rfl, HB8.out⟩
          · obtain rfl := h1.2 rfl
            obtain rfl := h2.2 rfl
            clear h1 h2
            go_enter Tryd.func6, Tryd.ntmps6
            go_wp2_with fail
            refine Calls.mono (HY1.out _ HB0.out) ?_
            rintro e w1 ⟨v1, c1, rfl, hr1, hb1⟩
            have HB1 : Hid (Below w.heap.size w w1) := HB0.out.trans (hb1.mono HB0.out.size)
            have HX1 : Hid (Box w1 w.heap.size k1 i1 t1 (.slice sa n1 sc)) := HX0.out.later hb1
            have HZ1 : Hid (Box w1 (w.heap.size + 1) k2 i2 t2 (.slice sb n2 sd)) := HZ0.out.later hb1
            have HR1 : Hid (RB w1 (.slice v1 D1.length c1) D1) := hr1
            clear hb1 hr1 HB0 HX0 HZ0
            have z0 := HZ1.out.c0
            have z1 := HZ1.out.c1
            have z2 := HZ1.out.c2
            have z3 := HZ1.out.c3
            go_wp2_with fail
            refine Calls.mono (HY2.out _ HB1.out) ?_
            rintro e w2 ⟨v2, c2, rfl, hr2, hb2⟩
            have HB2 : Hid (Below w.heap.size w w2) := HB1.out.trans (hb2.mono HB1.out.size)
            have HX2 : Hid (Box w2 w.heap.size k1 i1 t1 (.slice sa n1 sc)) := HX1.out.later hb2
            have HZ2 : Hid (Box w2 (w.heap.size + 1) k2 i2 t2 (.slice sb n2 sd)) := HZ1.out.later hb2
            have HR2 : Hid (RB w2 (.slice v1 D1.length c1) D1) := RB.later HR1.out hb2
            have HQ2 : Hid (RB w2 (.slice v2 D1.length c2) D1) := hr2
            clear hb2 hr2 HB1 HX1 HZ1 HR1 z0 z1 z2 z3
            have x0 := HX2.out.c0
            have x1 := HX2.out.c1
            have x2 := HX2.out.c2
            have x3 := HX2.out.c3
            have z0 := HZ2.out.c0
            have z1 := HZ2.out.c1
            have z2 := HZ2.out.c2
            have z3 := HZ2.out.c3
            go_wp2_with fail
            refine Calls.mono (HSA.out _ HB2.out) ?_
            rintro e w3 ⟨rfl, hb3⟩
            have HB3 : Hid (Below w.heap.size w w3) := HB2.out.trans (hb3.mono HB2.out.size)
            have HX3 : Hid (Box w3 w.heap.size k1 i1 t1 (.slice sa n1 sc)) := HX2.out.later hb3
            have HZ3 : Hid (Box w3 (w.heap.size + 1) k2 i2 t2 (.slice sb n2 sd)) := HZ2.out.later hb3
            have HQ5 : Hid (RB w3.drew (.slice v1 D1.length c1) D1) := RB.later (RB.later HR2.out hb3) ((Below.refl _ _).drew)
            have HQ6 : Hid (RB w3.drew (.slice v2 D1.length c2) D1) := RB.later (RB.later HQ2.out hb3) ((Below.refl _ _).drew)
            clear hb3 HB2 HX2 HZ2 HR2 HQ2 x0 x1 x2 x3 z0 z1 z2 z3
            have hS0 : ApS w k1 i1 t1 (.slice sa n1 sc) k2 i2 t2 (.slice sb n2 sd) (.slice v1 D1.length c1) D1 (.slice v2 D1.length c2) D1 w3.drew := ⟨HB3.out.drew, HX3.out, HZ3.out, HQ5.out, HQ6.out⟩
            go_wp2_with fail
            refine region_thenF [(41, .slice v1 D1.length c1), (42, .string ⟨D1.toArray⟩), (43, .slice v2 D1.length c2), (44, .string ⟨D1.toArray⟩), (45, .bool true), (46, .bool true), (47, .bool true), (48, .bool true), (49, .agg #[.int .i64 k1, .int .i64 i1, .int .i64 t1, .slice sa n1 sc]), (50, .string ⟨T1.toArray⟩), (51, .agg #[.int .i64 k2, .int .i64 i2, .int .i64 t2, .slice sb n2 sd]), (52, .string ⟨T1.toArray⟩), (53, .bool true), (54, .bool true), (55, .bool true), (56, .bool true), (57, .bool true), (58, .bool true), (59, .bool true), (4, .bool true)] (fun w' => Below w.heap.size w w') ?_ ?_
            · refine wp_region_held (S := fun w' => ApS w k1 i1 t1 (.slice sa n1 sc) k2 i2 t2 (.slice sb n2 sd) (.slice v1 D1.length c1) D1 (.slice v2 D1.length c2) D1 w') (by kernel_rfl) ?_
              simp only [List.size_toArray, List.length_cons, List.length_nil, Nat.reduceAdd, Array.replicate_succ, Array.replicate_zero, List.push_toArray, List.nil_append, List.cons_append]
              refine takeD (i := 0) (d := 41) (v := .slice v1 D1.length c1) (fuel := 19) rfl rfl (by kernel_rfl) (by kernel_rfl) (by kernel_rfl) (fun _ _ _ h => by cases h.1) (.inl ⟨by kernel_rfl, fun _ _ => by go_simp⟩) hS0 ?_
              simp only [List.setIfInBounds_toArray, List.set_cons_succ, List.set_cons_zero]
              refine takeD (i := 1) (d := 42) (v := .string ⟨D1.toArray⟩) (fuel := 18) rfl rfl (by kernel_rfl) (by kernel_rfl) (by kernel_rfl) (fun _ _ _ h => by cases h.1) (.inl ⟨by kernel_rfl, fun wx hx => by have z := string_of_RB hx.r1; go_simp⟩) hS0 ?_
              simp only [List.setIfInBounds_toArray, List.set_cons_succ, List.set_cons_zero]
              refine takeD (i := 2) (d := 43) (v := .slice v2 D1.length c2) (fuel := 17) rfl rfl (by kernel_rfl) (by kernel_rfl) (by kernel_rfl) (fun _ _ _ h => by cases h.1) (.inl ⟨by kernel_rfl, fun _ _ => by go_simp⟩) hS0 ?_
              simp only [List.setIfInBounds_toArray, List.set_cons_succ, List.set_cons_zero]
              refine takeD (i := 3) (d := 44) (v := .string ⟨D1.toArray⟩) (fuel := 16) rfl rfl (by kernel_rfl) (by kernel_rfl) (by kernel_rfl) (fun _ _ _ h => by cases h.1) (.inl ⟨by kernel_rfl, fun wx hx => by have z := string_of_RB hx.r2; go_simp⟩) hS0 ?_
              simp only [List.setIfInBounds_toArray, List.set_cons_succ, List.set_cons_zero]
              refine takeD (i := 4) (d := 45) (v := .bool true) (fuel := 15) rfl rfl (by kernel_rfl) (by kernel_rfl) (by kernel_rfl) (fun _ _ _ h => by cases h.1) (.inl ⟨by kernel_rfl, fun _ _ => by go_simp⟩) hS0 ?_
              simp only [List.setIfInBounds_toArray, List.set_cons_succ, List.set_cons_zero]
              refine takeD (i := 5) (d := 46) (v := .bool true) (fuel := 14) rfl rfl (by kernel_rfl) (by kernel_rfl) (by kernel_rfl) (fun _ _ _ h => by cases h.1) (.inl ⟨by kernel_rfl, fun _ _ => by go_simp⟩) hS0 ?_
              simp only [List.setIfInBounds_toArray, List.set_cons_succ, List.set_cons_zero]
              refine takeD (i := 6) (d := 47) (v := .bool true) (fuel := 13) rfl rfl (by kernel_rfl) (by kernel_rfl) (by kernel_rfl) (fun _ _ _ h => by cases h.1) (.inl ⟨by kernel_rfl, fun _ _ => by go_simp⟩) hS0 ?_
              simp only [List.setIfInBounds_toArray, List.set_cons_succ, List.set_cons_zero]
              refine takeD (i := 7) (d := 48) (v := .bool true) (fuel := 12) rfl rfl (by kernel_rfl) (by kernel_rfl) (by kernel_rfl) (fun _ _ _ h => by cases h.1) (.inl ⟨by kernel_rfl, fun _ _ => by go_simp⟩) hS0 ?_
              simp only [List.setIfInBounds_toArray, List.set_cons_succ, List.set_cons_zero]
              refine takeD (i := 8) (d := 49) (v := .agg #[.int .i64 k1, .int .i64 i1, .int .i64 t1, .slice sa n1 sc]) (fuel := 11) rfl rfl (by kernel_rfl) (by kernel_rfl) (by kernel_rfl) (fun _ _ _ h => by cases h.1) (.inl ⟨by kernel_rfl, fun wx hx => by have z0 := hx.b1.c0; have z1 := hx.b1.c1; have z2 := hx.b1.c2; have z3 := hx.b1.c3; go_simp⟩) hS0 ?_
              simp only [List.setIfInBounds_toArray, List.set_cons_succ, List.set_cons_zero]
              refine takeD (i := 10) (d := 51) (v := .agg #[.int .i64 k2, .int .i64 i2, .int .i64 t2, .slice sb n2 sd]) (fuel := 10) rfl rfl (by kernel_rfl) (by kernel_rfl) (by kernel_rfl) (fun _ _ _ h => by cases h.1) (.inl ⟨by kernel_rfl, fun wx hx => by have z0 := hx.b2.c0; have z1 := hx.b2.c1; have z2 := hx.b2.c2; have z3 := hx.b2.c3; go_simp⟩) hS0 ?_
              simp only [List.setIfInBounds_toArray, List.set_cons_succ, List.set_cons_zero]
              refine takeD (i := 13) (d := 54) (v := .bool true) (fuel := 9) rfl rfl (by kernel_rfl) (by kernel_rfl) (by kernel_rfl) (fun _ _ _ h => by cases h.1) (.inl ⟨by kernel_rfl, fun _ _ => by go_simp⟩) hS0 ?_
              simp only [List.setIfInBounds_toArray, List.set_cons_succ, List.set_cons_zero]
              refine oneC (i := 9) (d := 50) (f := 12) (args := #[.agg #[.int .i64 k1, .int .i64 i1, .int .i64 t1, .slice sa n1 sc]]) (v := .string ⟨T1.toArray⟩) (fuel := 8) rfl rfl (by kernel_rfl) (by kernel_rfl) (fun _ => by kernel_rfl) hS0 (fun wx hx => Calls.mono (HT1.out wx hx.bel) (fun e w' h => ⟨h.1, hx.later h.2⟩)) ?_
              intro w5 hS5
              simp only [List.setIfInBounds_toArray, List.set_cons_succ, List.set_cons_zero]
              refine oneC (i := 11) (d := 52) (f := 12) (args := #[.agg #[.int .i64 k2, .int .i64 i2, .int .i64 t2, .slice sb n2 sd]]) (v := .string ⟨T1.toArray⟩) (fuel := 7) rfl rfl (by kernel_rfl) (by kernel_rfl) (fun _ => by kernel_rfl) hS5 (fun wx hx => Calls.mono (HT2.out wx hx.bel) (fun e w' h => ⟨h.1, hx.later h.2⟩)) ?_
              intro w6 hS6
              simp only [List.setIfInBounds_toArray, List.set_cons_succ, List.set_cons_zero]
              refine takeD (i := 12) (d := 53) (v := .bool true) (fuel := 6) rfl rfl (by kernel_rfl) (by kernel_rfl) (by kernel_rfl) (fun _ _ _ h => by cases h.1) (.inl ⟨by kernel_rfl, fun _ _ => by go_simp⟩) hS6 ?_
              simp only [List.setIfInBounds_toArray, List.set_cons_succ, List.set_cons_zero]
              refine takeD (i := 14) (d := 55) (v := .bool true) (fuel := 5) rfl rfl (by kernel_rfl) (by kernel_rfl) (by kernel_rfl) (fun _ _ _ h => by cases h.1) (.inl ⟨by kernel_rfl, fun _ _ => by go_simp⟩) hS6 ?_
              simp only [List.setIfInBounds_toArray, List.set_cons_succ, List.set_cons_zero]
              refine takeD (i := 15) (d := 56) (v := .bool true) (fuel := 4) rfl rfl (by kernel_rfl) (by kernel_rfl) (by kernel_rfl) (fun _ _ _ h => by cases h.1) (.inl ⟨by kernel_rfl, fun _ _ => by go_simp⟩) hS6 ?_
              simp only [List.setIfInBounds_toArray, List.set_cons_succ, List.set_cons_zero]
              refine takeD (i := 16) (d := 57) (v := .bool true) (fuel := 3) rfl rfl (by kernel_rfl) (by kernel_rfl) (by kernel_rfl) (fun _ _ _ h => by cases h.1) (.inl ⟨by kernel_rfl, fun _ _ => by go_simp⟩) hS6 ?_
              simp only [List.setIfInBounds_toArray, List.set_cons_succ, List.set_cons_zero]
              refine oneC (i := 17) (d := 58) (f := 7) (args := #[]) (v := .bool true) (fuel := 2) rfl rfl (by kernel_rfl) (by kernel_rfl) (fun _ => by kernel_rfl) hS6 (fun wx hx => Calls.mono (HL.out wx hx.bel) (fun e w' h => ⟨h.1, hx.later h.2⟩)) ?_
              intro w7 hS7
              simp only [List.setIfInBounds_toArray, List.set_cons_succ, List.set_cons_zero]
              refine takeD (i := 18) (d := 59) (v := .bool true) (fuel := 1) rfl rfl (by kernel_rfl) (by kernel_rfl) (by kernel_rfl) (fun _ _ _ h => by cases h.1) (.inl ⟨by kernel_rfl, fun _ _ => by go_simp⟩) hS7 ?_
              simp only [List.setIfInBounds_toArray, List.set_cons_succ, List.set_cons_zero]
              refine takeD (i := 19) (d := 4) (v := .bool true) (fuel := 0) rfl rfl (by kernel_rfl) (by kernel_rfl) (by kernel_rfl) (fun _ _ _ h => by cases h.1) (.inl ⟨by kernel_rfl, fun _ _ => by go_simp⟩) hS7 ?_
              simp only [List.setIfInBounds_toArray, List.set_cons_succ, List.set_cons_zero]
              refine wpAnyH_done (by kernel_rfl) ?_ _
              exact ⟨rfl, by kernel_rfl, hS7.bel⟩
            · intro w8 hb8
              have HB8 : Hid (Below w.heap.size w w8) := hb8
              clear hb8 hS0 HL HT1 HT2
              simp only [setAll, List.setIfInBounds_toArray, List.set_cons_succ, List.set_cons_zero]
              go_wp2_with fail
              go_ret
              exact ⟨rfl, HB8.out⟩
end Go.Proofs.YtcnodkkdhkkicaaDoor
