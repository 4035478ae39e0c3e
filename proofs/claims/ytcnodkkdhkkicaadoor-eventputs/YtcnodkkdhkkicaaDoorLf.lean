/- The walk over EventPuts. -/
import Derived.Test.YtcnodkkdhkkicaaDoorLa
import Derived.Test.YtcnodkkdhkkicaaDoorLe
namespace Go.Proofs.YtcnodkkdhkkicaaDoor
open Go.RowKit
set_option linter.unusedVariables false

/-- What is known between the operations of EventPuts's last line. -/
structure PuS (w : World) (k1 i1 t1 : Int) (x1 : Value) (s1 : Value) (D1 : List UInt8) (w' : World) : Prop where
  bel : Below w.heap.size w w'
  b1 : Box w' w.heap.size k1 i1 t1 x1
  r1 : RB w' s1 D1

theorem PuS.later {w : World} {k1 i1 t1 : Int} {x1 s1 : Value} {D1 : List UInt8} {w' w2 : World} (h : PuS w k1 i1 t1 x1 s1 D1 w') (hb : Below w'.heap.size w' w2) : PuS w k1 i1 t1 x1 s1 D1 w2 :=
  ⟨h.bel.trans (hb.mono h.bel.size), h.b1.later hb, h.r1.later hb⟩

theorem rtext_all (e : Ev) (sv : Value) (w : World) (hv : RI w sv e.s) (hn : e.s.length ≤ 1000000) :
    Calls Tryd.prog 13 #[EvV e sv] w fun x w' => x = .returned (.string ⟨(textE e).toArray⟩) ∧ Below w.heap.size w w' := by
  cases ho : okE e
  · exact rtext_no e sv w hv hn ho
  · exact rtext_ev e sv w hv ho

set_option maxRecDepth 1000000 in
set_option maxHeartbeats 16000000 in
theorem puts_walk (a : Ev) (sv : Value) (kk : Int) (w : World) (htab : Tab w.heap.size w) (hv : RI w sv a.s) :
    Calls Tryd.prog 3 #[.agg #[.int .i64 a.k, .int .i64 a.i, .int .i64 a.t, sv], .int .i64 kk] w fun x w' => x = .returned (.bool true) ∧ Below w.heap.size w w' := by
  have HL : Hid (∀ wx, Below w.heap.size w wx → Calls Tryd.prog 7 #[] wx fun x w' => x = .returned (.bool true) ∧ Below wx.heap.size wx w') := fun wx h => lives_any wx ((htab.later h).up h.size)
  have HV : Hid (RI w sv a.s) := hv
  have HB0 : Hid (Below w.heap.size w (w.alloc (.cells #[.int .i64 a.k, .int .i64 a.i, .int .i64 a.t, sv] 25))) := (Below.refl _ _).alloc (Nat.le_refl _) _
  have HX0 : Hid (Box (w.alloc (.cells #[.int .i64 a.k, .int .i64 a.i, .int .i64 a.t, sv] 25)) w.heap.size a.k a.i a.t sv) := Box.new w _ _ _ _
  obtain ⟨sa, sc, hsv, _, _, _⟩ := hv
  subst hsv
  by_cases hl1 : 300 < a.s.length
  · clear HV htab HX0
    generalize a.s.length = n1 at *
    generalize a.k = k1 at *
    generalize a.i = i1 at *
    generalize a.t = t1 at *
    go_enter Tryd.func3, Tryd.ntmps3
    go_wp2_with fail
    refine Calls.mono (HL.out _ HB0.out) ?_
    rintro e wL ⟨rfl, hbL⟩
    have HBL : Hid (Below w.heap.size w wL) := HB0.out.trans (hbL.mono HB0.out.size)
    clear hbL
    go_wp2_with fail
    go_ret
    exact ⟨rfl, HBL.out⟩
  · have HY : Hid (∀ wx, Below w.heap.size w wx → Calls Tryd.prog 8 #[.agg #[.int .i64 a.k, .int .i64 a.i, .int .i64 a.t, .slice sa a.s.length sc]] wx fun x w' => ∃ v c, x = .returned (.tuple #[.slice v (bytE a).length c, .int .i64 (evE a : Nat)]) ∧ RB w' (.slice v (bytE a).length c) (bytE a) ∧ Below wx.heap.size wx w') := fun wx hx => bytes_ev a _ wx (RI.later HV.out hx) (by omega)
    have HZ : Hid (∀ wx, Below w.heap.size w wx → Calls Tryd.prog 9 #[.agg #[.int .i64 a.k, .int .i64 a.i, .int .i64 a.t, .slice sa a.s.length sc]] wx fun x w' => x = .returned (.tuple #[.string ⟨(bytE a).toArray⟩, .int .i64 (evE a : Nat)]) ∧ Below wx.heap.size wx w') := fun wx hx => rbytes_ev a _ wx (RI.later HV.out hx) (by omega)
    have HC1 : Hid (∀ wx, Below w.heap.size w wx → Calls Tryd.prog 10 #[.agg #[.int .i64 a.k, .int .i64 a.i, .int .i64 a.t, .slice sa a.s.length sc]] wx fun x w' => x = .returned (.int .i64 (evE a : Nat)) ∧ Below wx.heap.size wx w') := fun wx hx => check_ev a _ wx (RI.later HV.out hx) (by omega)
    have HC2 : Hid (∀ wx, Below w.heap.size w wx → Calls Tryd.prog 11 #[.agg #[.int .i64 a.k, .int .i64 a.i, .int .i64 a.t, .slice sa a.s.length sc]] wx fun x w' => x = .returned (.int .i64 (evE a : Nat)) ∧ Below wx.heap.size wx w') := fun wx hx => rcheck_ev a _ wx (RI.later HV.out hx) (by omega)
    have HT1 : Hid (∀ wx, Below w.heap.size w wx → Calls Tryd.prog 12 #[.agg #[.int .i64 a.k, .int .i64 a.i, .int .i64 a.t, .slice sa a.s.length sc]] wx fun x w' => x = .returned (.string ⟨(textE a).toArray⟩) ∧ Below wx.heap.size wx w') := fun wx hx => text_ev a _ wx (RI.later HV.out hx) (by omega) ((htab.later hx).up hx.size)
    have HT2 : Hid (∀ wx, Below w.heap.size w wx → Calls Tryd.prog 13 #[.agg #[.int .i64 a.k, .int .i64 a.i, .int .i64 a.t, .slice sa a.s.length sc]] wx fun x w' => x = .returned (.string ⟨(textE a).toArray⟩) ∧ Below wx.heap.size wx w') := fun wx hx => rtext_all a _ wx (RI.later HV.out hx) (by omega)
    have HK1 : Hid (∀ wx, Below w.heap.size w wx → Calls Tryd.prog 14 #[.agg #[.int .i64 a.k, .int .i64 a.i, .int .i64 a.t, .slice sa a.s.length sc]] wx fun x w' => x = .returned (.agg #[.int .i64 a.i, .bool (decide (3 < a.k)), .int .i64 a.t]) ∧ Below wx.heap.size wx w') := fun wx hx => key_any a _ wx rfl
    have HK2 : Hid (∀ wx, Below w.heap.size w wx → Calls Tryd.prog 15 #[.agg #[.int .i64 a.k, .int .i64 a.i, .int .i64 a.t, .slice sa a.s.length sc]] wx fun x w' => x = .returned (.agg #[.int .i64 a.i, .bool (decide (3 < a.k)), .int .i64 a.t]) ∧ Below wx.heap.size wx w') := fun wx hx => rkey_any a _ wx rfl
    have HO1 : Hid (∀ wx, Below w.heap.size w wx → Calls Tryd.prog 16 #[.int .i64 kk] wx fun x w' => x = .returned (.bool (opens kk)) ∧ Below wx.heap.size wx w') := fun wx hx => Calls.mono (opens_any kk wx) (fun e w' h => ⟨h.1, by rw [h.2]; exact Below.refl _ _⟩)
    have HO2 : Hid (∀ wx, Below w.heap.size w wx → Calls Tryd.prog 17 #[.int .i64 kk] wx fun x w' => x = .returned (.bool (opens kk)) ∧ Below wx.heap.size wx w') := fun wx hx => Calls.mono (ropens_any kk wx) (fun e w' h => ⟨h.1, by rw [h.2]; exact Below.refl _ _⟩)
    clear HV htab
    generalize bytE a = D at *
    generalize textE a = T at *
    generalize evE a = E at *
    generalize opens kk = q at *
    generalize a.s.length = n1 at *
    generalize a.k = k1 at *
    generalize a.i = i1 at *
    generalize a.t = t1 at *
    go_enter Tryd.func3, Tryd.ntmps3
    go_wp2_with fail
    refine Calls.mono (HY.out _ HB0.out) ?_
    rintro e w1 ⟨v1, c1, rfl, hr1, hb1⟩
    have HB1 : Hid (Below w.heap.size w w1) := HB0.out.trans (hb1.mono HB0.out.size)
    have HX1 : Hid (Box w1 w.heap.size k1 i1 t1 (.slice sa n1 sc)) := HX0.out.later hb1
    have HR1 : Hid (RB w1 (.slice v1 D.length c1) D) := hr1
    clear hb1 hr1 HB0 HX0 HY
    have z0 := HX1.out.c0
    have z1 := HX1.out.c1
    have z2 := HX1.out.c2
    have z3 := HX1.out.c3
    go_wp2_with fail
    refine Calls.mono (HZ.out _ HB1.out) ?_
    rintro e w2 ⟨rfl, hb2⟩
    have HB2 : Hid (Below w.heap.size w w2) := HB1.out.trans (hb2.mono HB1.out.size)
    have HX2 : Hid (Box w2 w.heap.size k1 i1 t1 (.slice sa n1 sc)) := HX1.out.later hb2
    have HR2 : Hid (RB w2 (.slice v1 D.length c1) D) := RB.later HR1.out hb2
    clear hb2 HB1 HX1 HR1 z0 z1 z2 z3 HZ
    have hS0 : PuS w k1 i1 t1 (.slice sa n1 sc) (.slice v1 D.length c1) D w2.drew := ⟨HB2.out.drew, HX2.out, RB.later HR2.out ((Below.refl _ _).drew)⟩
    go_wp2_with fail
    refine region_thenF [(24, .slice v1 D.length c1), (25, .string ⟨D.toArray⟩), (26, .string ⟨D.toArray⟩), (27, .bool true), (28, .bool true), (29, .int .i64 (E : Nat)), (30, .int .i64 (E : Nat)), (31, .bool true), (32, .bool true), (33, .bool true), (34, .agg #[.int .i64 k1, .int .i64 i1, .int .i64 t1, .slice sa n1 sc]), (35, .int .i64 (E : Nat)), (36, .agg #[.int .i64 k1, .int .i64 i1, .int .i64 t1, .slice sa n1 sc]), (37, .int .i64 (E : Nat)), (38, .bool true), (39, .bool true), (40, .bool true), (41, .agg #[.int .i64 k1, .int .i64 i1, .int .i64 t1, .slice sa n1 sc]), (42, .string ⟨T.toArray⟩), (43, .agg #[.int .i64 k1, .int .i64 i1, .int .i64 t1, .slice sa n1 sc]), (44, .string ⟨T.toArray⟩), (45, .bool true), (46, .bool true), (47, .bool true), (48, .agg #[.int .i64 k1, .int .i64 i1, .int .i64 t1, .slice sa n1 sc]), (49, .agg #[.int .i64 i1, .bool (decide (3 < k1)), .int .i64 t1]), (50, .agg #[.int .i64 k1, .int .i64 i1, .int .i64 t1, .slice sa n1 sc]), (51, .agg #[.int .i64 i1, .bool (decide (3 < k1)), .int .i64 t1]), (52, .bool true), (53, .bool true), (54, .bool true), (55, .int .i64 kk), (56, .bool q), (57, .int .i64 kk), (58, .bool q), (59, .bool true), (60, .bool true), (61, .bool true), (62, .bool true), (63, .bool true), (4, .bool true)] (fun w' => Below w.heap.size w w') ?_ ?_
    · refine wp_region_held (S := fun w' => PuS w k1 i1 t1 (.slice sa n1 sc) (.slice v1 D.length c1) D w') (by kernel_rfl) ?_
      simp only [List.size_toArray, List.length_cons, List.length_nil, Nat.reduceAdd, Array.replicate_succ, Array.replicate_zero, List.push_toArray, List.nil_append, List.cons_append]
      refine takeD (i := 0) (d := 24) (v := .slice v1 D.length c1) (fuel := 40) rfl rfl (by kernel_rfl) (by kernel_rfl) (by kernel_rfl) (fun _ _ _ h => by cases h.1) (.inl ⟨by kernel_rfl, fun _ _ => by go_simp⟩) hS0 ?_
      simp only [List.setIfInBounds_toArray, List.set_cons_succ, List.set_cons_zero]
      refine takeD (i := 1) (d := 25) (v := .string ⟨D.toArray⟩) (fuel := 39) rfl rfl (by kernel_rfl) (by kernel_rfl) (by kernel_rfl) (fun _ _ _ h => by cases h.1) (.inl ⟨by kernel_rfl, fun wx hx => by have z := string_of_RB hx.r1; go_simp⟩) hS0 ?_
      simp only [List.setIfInBounds_toArray, List.set_cons_succ, List.set_cons_zero]
      refine takeD (i := 2) (d := 26) (v := .string ⟨D.toArray⟩) (fuel := 38) rfl rfl (by kernel_rfl) (by kernel_rfl) (by kernel_rfl) (fun _ _ _ h => by cases h.1) (.inl ⟨by kernel_rfl, fun _ _ => by go_simp⟩) hS0 ?_
      simp only [List.setIfInBounds_toArray, List.set_cons_succ, List.set_cons_zero]
      refine takeD (i := 3) (d := 27) (v := .bool true) (fuel := 37) rfl rfl (by kernel_rfl) (by kernel_rfl) (by kernel_rfl) (fun _ _ _ h => by cases h.1) (.inl ⟨by kernel_rfl, fun _ _ => by go_simp⟩) hS0 ?_
      simp only [List.setIfInBounds_toArray, List.set_cons_succ, List.set_cons_zero]
      refine takeD (i := 4) (d := 28) (v := .bool true) (fuel := 36) rfl rfl (by kernel_rfl) (by kernel_rfl) (by kernel_rfl) (fun _ _ _ h => by cases h.1) (.inl ⟨by kernel_rfl, fun _ _ => by go_simp⟩) hS0 ?_
      simp only [List.setIfInBounds_toArray, List.set_cons_succ, List.set_cons_zero]
      refine takeD (i := 5) (d := 29) (v := .int .i64 (E : Nat)) (fuel := 35) rfl rfl (by kernel_rfl) (by kernel_rfl) (by kernel_rfl) (fun _ _ _ h => by cases h.1) (.inl ⟨by kernel_rfl, fun _ _ => by go_simp⟩) hS0 ?_
      simp only [List.setIfInBounds_toArray, List.set_cons_succ, List.set_cons_zero]
      refine takeD (i := 6) (d := 30) (v := .int .i64 (E : Nat)) (fuel := 34) rfl rfl (by kernel_rfl) (by kernel_rfl) (by kernel_rfl) (fun _ _ _ h => by cases h.1) (.inl ⟨by kernel_rfl, fun _ _ => by go_simp⟩) hS0 ?_
      simp only [List.setIfInBounds_toArray, List.set_cons_succ, List.set_cons_zero]
      refine takeD (i := 7) (d := 31) (v := .bool true) (fuel := 33) rfl rfl (by kernel_rfl) (by kernel_rfl) (by kernel_rfl) (fun _ _ _ h => by cases h.1) (.inl ⟨by kernel_rfl, fun _ _ => by go_simp⟩) hS0 ?_
      simp only [List.setIfInBounds_toArray, List.set_cons_succ, List.set_cons_zero]
      refine takeD (i := 8) (d := 32) (v := .bool true) (fuel := 32) rfl rfl (by kernel_rfl) (by kernel_rfl) (by kernel_rfl) (fun _ _ _ h => by cases h.1) (.inl ⟨by kernel_rfl, fun _ _ => by go_simp⟩) hS0 ?_
      simp only [List.setIfInBounds_toArray, List.set_cons_succ, List.set_cons_zero]
      refine takeD (i := 9) (d := 33) (v := .bool true) (fuel := 31) rfl rfl (by kernel_rfl) (by kernel_rfl) (by kernel_rfl) (fun _ _ _ h => by cases h.1) (.inl ⟨by kernel_rfl, fun _ _ => by go_simp⟩) hS0 ?_
      simp only [List.setIfInBounds_toArray, List.set_cons_succ, List.set_cons_zero]
      refine takeD (i := 10) (d := 34) (v := .agg #[.int .i64 k1, .int .i64 i1, .int .i64 t1, .slice sa n1 sc]) (fuel := 30) rfl rfl (by kernel_rfl) (by kernel_rfl) (by kernel_rfl) (fun _ _ _ h => by cases h.1) (.inl ⟨by kernel_rfl, fun wx hx => by have z0 := hx.b1.c0; have z1 := hx.b1.c1; have z2 := hx.b1.c2; have z3 := hx.b1.c3; go_simp⟩) hS0 ?_
      simp only [List.setIfInBounds_toArray, List.set_cons_succ, List.set_cons_zero]
      refine takeD (i := 12) (d := 36) (v := .agg #[.int .i64 k1, .int .i64 i1, .int .i64 t1, .slice sa n1 sc]) (fuel := 29) rfl rfl (by kernel_rfl) (by kernel_rfl) (by kernel_rfl) (fun _ _ _ h => by cases h.1) (.inl ⟨by kernel_rfl, fun wx hx => by have z0 := hx.b1.c0; have z1 := hx.b1.c1; have z2 := hx.b1.c2; have z3 := hx.b1.c3; go_simp⟩) hS0 ?_
      simp only [List.setIfInBounds_toArray, List.set_cons_succ, List.set_cons_zero]
      refine oneC (i := 11) (d := 35) (f := 10) (args := #[.agg #[.int .i64 k1, .int .i64 i1, .int .i64 t1, .slice sa n1 sc]]) (v := .int .i64 (E : Nat)) (fuel := 28) rfl rfl (by kernel_rfl) (by kernel_rfl) (fun _ => by kernel_rfl) hS0 (fun wx hx => Calls.mono (HC1.out wx hx.bel) (fun e w' h => ⟨h.1, hx.later h.2⟩)) ?_
      intro wa hSa
      simp only [List.setIfInBounds_toArray, List.set_cons_succ, List.set_cons_zero]
      refine oneC (i := 13) (d := 37) (f := 11) (args := #[.agg #[.int .i64 k1, .int .i64 i1, .int .i64 t1, .slice sa n1 sc]]) (v := .int .i64 (E : Nat)) (fuel := 27) rfl rfl (by kernel_rfl) (by kernel_rfl) (fun _ => by kernel_rfl) hSa (fun wx hx => Calls.mono (HC2.out wx hx.bel) (fun e w' h => ⟨h.1, hx.later h.2⟩)) ?_
      intro wb hSb
      simp only [List.setIfInBounds_toArray, List.set_cons_succ, List.set_cons_zero]
      refine takeD (i := 14) (d := 38) (v := .bool true) (fuel := 26) rfl rfl (by kernel_rfl) (by kernel_rfl) (by kernel_rfl) (fun _ _ _ h => by cases h.1) (.inl ⟨by kernel_rfl, fun _ _ => by go_simp⟩) hSb ?_
      simp only [List.setIfInBounds_toArray, List.set_cons_succ, List.set_cons_zero]
      refine takeD (i := 15) (d := 39) (v := .bool true) (fuel := 25) rfl rfl (by kernel_rfl) (by kernel_rfl) (by kernel_rfl) (fun _ _ _ h => by cases h.1) (.inl ⟨by kernel_rfl, fun _ _ => by go_simp⟩) hSb ?_
      simp only [List.setIfInBounds_toArray, List.set_cons_succ, List.set_cons_zero]
      refine takeD (i := 16) (d := 40) (v := .bool true) (fuel := 24) rfl rfl (by kernel_rfl) (by kernel_rfl) (by kernel_rfl) (fun _ _ _ h => by cases h.1) (.inl ⟨by kernel_rfl, fun _ _ => by go_simp⟩) hSb ?_
      simp only [List.setIfInBounds_toArray, List.set_cons_succ, List.set_cons_zero]
      refine takeD (i := 17) (d := 41) (v := .agg #[.int .i64 k1, .int .i64 i1, .int .i64 t1, .slice sa n1 sc]) (fuel := 23) rfl rfl (by kernel_rfl) (by kernel_rfl) (by kernel_rfl) (fun _ _ _ h => by cases h.1) (.inl ⟨by kernel_rfl, fun wx hx => by have z0 := hx.b1.c0; have z1 := hx.b1.c1; have z2 := hx.b1.c2; have z3 := hx.b1.c3; go_simp⟩) hSb ?_
      simp only [List.setIfInBounds_toArray, List.set_cons_succ, List.set_cons_zero]
      refine takeD (i := 19) (d := 43) (v := .agg #[.int .i64 k1, .int .i64 i1, .int .i64 t1, .slice sa n1 sc]) (fuel := 22) rfl rfl (by kernel_rfl) (by kernel_rfl) (by kernel_rfl) (fun _ _ _ h => by cases h.1) (.inl ⟨by kernel_rfl, fun wx hx => by have z0 := hx.b1.c0; have z1 := hx.b1.c1; have z2 := hx.b1.c2; have z3 := hx.b1.c3; go_simp⟩) hSb ?_
      simp only [List.setIfInBounds_toArray, List.set_cons_succ, List.set_cons_zero]
      refine oneC (i := 18) (d := 42) (f := 12) (args := #[.agg #[.int .i64 k1, .int .i64 i1, .int .i64 t1, .slice sa n1 sc]]) (v := .string ⟨T.toArray⟩) (fuel := 21) rfl rfl (by kernel_rfl) (by kernel_rfl) (fun _ => by kernel_rfl) hSb (fun wx hx => Calls.mono (HT1.out wx hx.bel) (fun e w' h => ⟨h.1, hx.later h.2⟩)) ?_
      intro wc hSc
      simp only [List.setIfInBounds_toArray, List.set_cons_succ, List.set_cons_zero]
      refine oneC (i := 20) (d := 44) (f := 13) (args := #[.agg #[.int .i64 k1, .int .i64 i1, .int .i64 t1, .slice sa n1 sc]]) (v := .string ⟨T.toArray⟩) (fuel := 20) rfl rfl (by kernel_rfl) (by kernel_rfl) (fun _ => by kernel_rfl) hSc (fun wx hx => Calls.mono (HT2.out wx hx.bel) (fun e w' h => ⟨h.1, hx.later h.2⟩)) ?_
      intro wd hSd
      simp only [List.setIfInBounds_toArray, List.set_cons_succ, List.set_cons_zero]
      refine takeD (i := 21) (d := 45) (v := .bool true) (fuel := 19) rfl rfl (by kernel_rfl) (by kernel_rfl) (by kernel_rfl) (fun _ _ _ h => by cases h.1) (.inl ⟨by kernel_rfl, fun _ _ => by go_simp⟩) hSd ?_
      simp only [List.setIfInBounds_toArray, List.set_cons_succ, List.set_cons_zero]
      refine takeD (i := 22) (d := 46) (v := .bool true) (fuel := 18) rfl rfl (by kernel_rfl) (by kernel_rfl) (by kernel_rfl) (fun _ _ _ h => by cases h.1) (.inl ⟨by kernel_rfl, fun _ _ => by go_simp⟩) hSd ?_
      simp only [List.setIfInBounds_toArray, List.set_cons_succ, List.set_cons_zero]
      refine takeD (i := 23) (d := 47) (v := .bool true) (fuel := 17) rfl rfl (by kernel_rfl) (by kernel_rfl) (by kernel_rfl) (fun _ _ _ h => by cases h.1) (.inl ⟨by kernel_rfl, fun _ _ => by go_simp⟩) hSd ?_
      simp only [List.setIfInBounds_toArray, List.set_cons_succ, List.set_cons_zero]
      refine takeD (i := 24) (d := 48) (v := .agg #[.int .i64 k1, .int .i64 i1, .int .i64 t1, .slice sa n1 sc]) (fuel := 16) rfl rfl (by kernel_rfl) (by kernel_rfl) (by kernel_rfl) (fun _ _ _ h => by cases h.1) (.inl ⟨by kernel_rfl, fun wx hx => by have z0 := hx.b1.c0; have z1 := hx.b1.c1; have z2 := hx.b1.c2; have z3 := hx.b1.c3; go_simp⟩) hSd ?_
      simp only [List.setIfInBounds_toArray, List.set_cons_succ, List.set_cons_zero]
      refine takeD (i := 26) (d := 50) (v := .agg #[.int .i64 k1, .int .i64 i1, .int .i64 t1, .slice sa n1 sc]) (fuel := 15) rfl rfl (by kernel_rfl) (by kernel_rfl) (by kernel_rfl) (fun _ _ _ h => by cases h.1) (.inl ⟨by kernel_rfl, fun wx hx => by have z0 := hx.b1.c0; have z1 := hx.b1.c1; have z2 := hx.b1.c2; have z3 := hx.b1.c3; go_simp⟩) hSd ?_
      simp only [List.setIfInBounds_toArray, List.set_cons_succ, List.set_cons_zero]
      refine oneC (i := 25) (d := 49) (f := 14) (args := #[.agg #[.int .i64 k1, .int .i64 i1, .int .i64 t1, .slice sa n1 sc]]) (v := .agg #[.int .i64 i1, .bool (decide (3 < k1)), .int .i64 t1]) (fuel := 14) rfl rfl (by kernel_rfl) (by kernel_rfl) (fun _ => by kernel_rfl) hSd (fun wx hx => Calls.mono (HK1.out wx hx.bel) (fun e w' h => ⟨h.1, hx.later h.2⟩)) ?_
      intro we hSe
      simp only [List.setIfInBounds_toArray, List.set_cons_succ, List.set_cons_zero]
      refine oneC (i := 27) (d := 51) (f := 15) (args := #[.agg #[.int .i64 k1, .int .i64 i1, .int .i64 t1, .slice sa n1 sc]]) (v := .agg #[.int .i64 i1, .bool (decide (3 < k1)), .int .i64 t1]) (fuel := 13) rfl rfl (by kernel_rfl) (by kernel_rfl) (fun _ => by kernel_rfl) hSe (fun wx hx => Calls.mono (HK2.out wx hx.bel) (fun e w' h => ⟨h.1, hx.later h.2⟩)) ?_
      intro wf hSf
      simp only [List.setIfInBounds_toArray, List.set_cons_succ, List.set_cons_zero]
      refine takeD (i := 28) (d := 52) (v := .bool true) (fuel := 12) rfl rfl (by kernel_rfl) (by kernel_rfl) (by kernel_rfl) (fun _ _ _ h => by cases h.1) (.inl ⟨by kernel_rfl, fun _ _ => by go_simp⟩) hSf ?_
      simp only [List.setIfInBounds_toArray, List.set_cons_succ, List.set_cons_zero]
      refine takeD (i := 29) (d := 53) (v := .bool true) (fuel := 11) rfl rfl (by kernel_rfl) (by kernel_rfl) (by kernel_rfl) (fun _ _ _ h => by cases h.1) (.inl ⟨by kernel_rfl, fun _ _ => by go_simp⟩) hSf ?_
      simp only [List.setIfInBounds_toArray, List.set_cons_succ, List.set_cons_zero]
      refine takeD (i := 30) (d := 54) (v := .bool true) (fuel := 10) rfl rfl (by kernel_rfl) (by kernel_rfl) (by kernel_rfl) (fun _ _ _ h => by cases h.1) (.inl ⟨by kernel_rfl, fun _ _ => by go_simp⟩) hSf ?_
      simp only [List.setIfInBounds_toArray, List.set_cons_succ, List.set_cons_zero]
      refine takeD (i := 31) (d := 55) (v := .int .i64 kk) (fuel := 9) rfl rfl (by kernel_rfl) (by kernel_rfl) (by kernel_rfl) (fun _ _ _ h => by cases h.1) (.inl ⟨by kernel_rfl, fun _ _ => by go_simp⟩) hSf ?_
      simp only [List.setIfInBounds_toArray, List.set_cons_succ, List.set_cons_zero]
      refine takeD (i := 33) (d := 57) (v := .int .i64 kk) (fuel := 8) rfl rfl (by kernel_rfl) (by kernel_rfl) (by kernel_rfl) (fun _ _ _ h => by cases h.1) (.inl ⟨by kernel_rfl, fun _ _ => by go_simp⟩) hSf ?_
      simp only [List.setIfInBounds_toArray, List.set_cons_succ, List.set_cons_zero]
      refine oneC (i := 32) (d := 56) (f := 16) (args := #[.int .i64 kk]) (v := .bool q) (fuel := 7) rfl rfl (by kernel_rfl) (by kernel_rfl) (fun _ => by kernel_rfl) hSf (fun wx hx => Calls.mono (HO1.out wx hx.bel) (fun e w' h => ⟨h.1, hx.later h.2⟩)) ?_
      intro wg hSg
      simp only [List.setIfInBounds_toArray, List.set_cons_succ, List.set_cons_zero]
      refine oneC (i := 34) (d := 58) (f := 17) (args := #[.int .i64 kk]) (v := .bool q) (fuel := 6) rfl rfl (by kernel_rfl) (by kernel_rfl) (fun _ => by kernel_rfl) hSg (fun wx hx => Calls.mono (HO2.out wx hx.bel) (fun e w' h => ⟨h.1, hx.later h.2⟩)) ?_
      intro wh hSh
      simp only [List.setIfInBounds_toArray, List.set_cons_succ, List.set_cons_zero]
      refine takeD (i := 35) (d := 59) (v := .bool true) (fuel := 5) rfl rfl (by kernel_rfl) (by kernel_rfl) (by kernel_rfl) (fun _ _ _ h => by cases h.1) (.inl ⟨by kernel_rfl, fun _ _ => by go_simp⟩) hSh ?_
      simp only [List.setIfInBounds_toArray, List.set_cons_succ, List.set_cons_zero]
      refine takeD (i := 36) (d := 60) (v := .bool true) (fuel := 4) rfl rfl (by kernel_rfl) (by kernel_rfl) (by kernel_rfl) (fun _ _ _ h => by cases h.1) (.inl ⟨by kernel_rfl, fun _ _ => by go_simp⟩) hSh ?_
      simp only [List.setIfInBounds_toArray, List.set_cons_succ, List.set_cons_zero]
      refine takeD (i := 37) (d := 61) (v := .bool true) (fuel := 3) rfl rfl (by kernel_rfl) (by kernel_rfl) (by kernel_rfl) (fun _ _ _ h => by cases h.1) (.inl ⟨by kernel_rfl, fun _ _ => by go_simp⟩) hSh ?_
      simp only [List.setIfInBounds_toArray, List.set_cons_succ, List.set_cons_zero]
      refine oneC (i := 38) (d := 62) (f := 7) (args := #[]) (v := .bool true) (fuel := 2) rfl rfl (by kernel_rfl) (by kernel_rfl) (fun _ => by kernel_rfl) hSh (fun wx hx => Calls.mono (HL.out wx hx.bel) (fun e w' h => ⟨h.1, hx.later h.2⟩)) ?_
      intro wi hSi
      simp only [List.setIfInBounds_toArray, List.set_cons_succ, List.set_cons_zero]
      refine takeD (i := 39) (d := 63) (v := .bool true) (fuel := 1) rfl rfl (by kernel_rfl) (by kernel_rfl) (by kernel_rfl) (fun _ _ _ h => by cases h.1) (.inl ⟨by kernel_rfl, fun _ _ => by go_simp⟩) hSi ?_
      simp only [List.setIfInBounds_toArray, List.set_cons_succ, List.set_cons_zero]
      refine takeD (i := 40) (d := 4) (v := .bool true) (fuel := 0) rfl rfl (by kernel_rfl) (by kernel_rfl) (by kernel_rfl) (fun _ _ _ h => by cases h.1) (.inl ⟨by kernel_rfl, fun _ _ => by go_simp⟩) hSi ?_
      simp only [List.setIfInBounds_toArray, List.set_cons_succ, List.set_cons_zero]
      refine wpAnyH_done (by kernel_rfl) ?_ _
      exact ⟨rfl, by kernel_rfl, hSi.bel⟩
    · intro w8 hb8
      have HB8 : Hid (Below w.heap.size w w8) := hb8
      clear hb8 hS0 HL HC1 HC2 HT1 HT2 HK1 HK2 HO1 HO2
      simp only [setAll, List.setIfInBounds_toArray, List.set_cons_succ, List.set_cons_zero]
      go_wp2_with fail
      go_ret
      exact ⟨rfl, HB8.out⟩
end Go.Proofs.YtcnodkkdhkkicaaDoor
