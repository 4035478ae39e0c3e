/- Texts of the seat, packed: Ii. -/
import Derived.Test.YtijkgdbabikojaaGreatP37
/- The walk over the laws' alike of layer 11. -/
namespace Go.Proofs.YtijkgdbabikojaaGreat
open Go.RowKit
open Dk (DS DK Okay Small RV RR WR Wid Kp cutP appendP syncP hasB hasB_true)
set_option maxRecDepth 1000000
set_option linter.unusedVariables false

/-- A call that is the one that is ready; what it tells is one of a kind. -/
theorem oneX {P : Program} {ops : Array Oper} {Q : Exit → Act → World → Prop} {md : Region.Mode} {S : World → Prop} {i : Nat} {o : Oper} {d : Tmp} {f : FuncId} {args : Array Value} {β : Type} {V : β → Value} {fuel : Nat} {listed : Array Bool} {a : Act} {w : World} {R : β → World → Prop}
    (hi : ops[i]? = some o) (hd : o.dst = some d) (hr : Region.ready md ops listed = [i]) (hw : Region.wanted o (yielded ops a.tmps) = true) (hrun : ∀ wx, (execOp a.eval o).run P wx = .ok (.enter f args) wx)
    (hc : Calls P f args w fun e w' => ∃ z, e = .returned (V z) ∧ R z w') (hRS : ∀ z w', R z w' → S w')
    (h : ∀ z w', R z w' → wpAnyH P md ops Q S fuel (listed.setIfInBounds i true) { tmps := a.tmps.setIfInBounds d (V z), defers := a.defers } w') : wpAnyH P md ops Q S (fuel + 1) listed a w := by
  refine wpAnyH_all hr (by simp) (List.forall_mem_singleton.2 ?_)
  refine wpOp_calls hi hd hw (hrun w) _ hc ?_ (fun _ _ h => by obtain ⟨_, h1, _⟩ := h; cases h1) (fun _ h => by obtain ⟨_, h1, _⟩ := h; cases h1)
  rintro v' w'' ⟨z, h1, h2⟩
  cases h1
  exact ⟨hRS z w'' h2, h z w'' h2⟩

/-- A region that draws, ended with slots of a kind in all its orders. -/
theorem region_thenG {P : Program} {id : Nat} {ops : Array Oper} {dr : Bool} {Q : Exit → Act → World → Prop} {K : Act → World → Prop} {a : Act} {w : World} {β : Type} (L : β → List (Nat × Value)) (F : β → World → Prop)
    (h : (Code.region id ops dr).wp P (fun e a' w' => e = .normal ∧ ∃ z, a' = { tmps := setAll a.tmps (L z), defers := a.defers } ∧ F z w') a w)
    (h2 : ∀ z w', F z w' → K { tmps := setAll a.tmps (L z), defers := a.defers } w') : (Code.region id ops dr).wp P (Exit.then K Q) a w := by
  refine wp_mono h ?_
  rintro e a' w' ⟨rfl, z, rfl, hF⟩
  exact h2 z w' hF

/-- What Load tells, in the document's words. -/
theorem load_rld {T : Nat → Prop} {w : World} {p : Nat} {S : DS} (h1 : DK T w p S) (hq : QD S) (i : Int) :
    Calls Tryz.prog 10 #[.pointer (some ⟨p, 0, none⟩), .int .i64 i] w fun e w' => ∃ a c, e = .returned (.tuple #[.slice a (rldP S i).1.length c, .int .i64 ((rldP S i).2 : Nat)]) ∧ RE w' (.slice a (rldP S i).1.length c) (rldP S i).1 ∧ Below w.heap.size w w' := by
  refine Calls.mono (load_any _ S.n i _ w (dk_dsk h1 hq.2.1 (Dk.small_mono hq.small (by omega) (by omega)) rfl i)) ?_
  rintro e w' ⟨a, c, q1, q2, q3⟩
  have q4 := q2.re.1
  cases hh : hasN S.n i with
  | false =>
    rw [whE_no hh] at q1 q4
    have e1 : rldP S i = ([], 0) := by unfold rldP; rw [hh]; rfl
    rw [e1]
    exact ⟨a, c, q1, q4, q3⟩
  | true =>
    have e1 : rldP S i = loadL (S.n - 1) i (Dk.readP S i) := by unfold rldP; rw [if_pos hh]
    obtain ⟨w1, w2⟩ := wh_load S.n i (Dk.readP S i) hh
    rw [← e1] at w1 w2
    have hl : (whE S.n i (Dk.readP S i)).length = (rldP S i).1.length := by rw [← w1, evK_len (Nat.le_refl _)]
    rw [w1] at q4
    rw [w2, hl] at q1
    rw [hl] at q4
    exact ⟨a, c, q1, q4, q3⟩

theorem rld_few {S : DS} (hq : QD S) (i : Int) : (rldP S i).1.length ≤ 1000000 ∧ ∀ x ∈ (rldP S i).1, x.s.length ≤ 1000000 := by
  refine ⟨by have := rld_short (i := i) (Dk.small_mono hq.small (L' := 100000) (R' := 10000000000) (by omega) (by omega)); omega, fun x hx => ?_⟩
  have := okS_len (okE_stamp (Good.all (rld_good S i) x hx))
  omega

set_option maxHeartbeats 4000000 in
theorem alike_any (w0 w : World) (p r g : Nat) (S : DS) (h : LP w0 p r g S w) :
    Calls Tryz.prog 8 #[.pointer (some ⟨p, 0, none⟩), .pointer (some ⟨r, 0, none⟩)] w fun e w' => e = .returned (.bool true) ∧ Below w.heap.size w w' := by
  have HL : Hid (∀ wx, Below w.heap.size w wx → LP w0 p r g S wx) := fun wx hb => h.later hb
  have HQ : Hid (QD S) := h.q
  clear h
  go_enter Tryz.func8, Tryz.ntmps8
  go_wp2_with fail
  go_loopw [5] (fun iv wr => ∃ (k : Nat), k ≤ 5 ∧ iv = .int .i64 ((k : Int) - 1) ∧ Hid (Below w.heap.size w wr)) (fun iv _ => 5 - ((intOf iv) + 1).toNat)
  case atStart => exact ⟨0, Nat.zero_le _, rfl, Below.refl _ _⟩
  case round =>
    obtain ⟨k, hk, rfl, HB⟩ := hrel
    by_cases hlt : k < 5
    · have hki : (k : Int) - 1 ≤ 3 := by omega
      obtain ⟨T, t1, _⟩ := (HL.out wr HB.out).dk
      have K1 : Hid _ := load_rld t1 HQ.out ((k : Int) - 1)
      have K2 : Hid (∀ wx, Below w.heap.size w wx → _) := fun wx hb => rload_any r g S ((k : Int) - 1) wx (HL.out wx hb).rv HQ.out.2.1 (Dk.small_mono HQ.out.small (by omega) (by omega))
      obtain ⟨f1, f2⟩ := rld_few HQ.out ((k : Int) - 1)
      have HF1 : Hid _ := f1
      have HF2 : Hid _ := f2
      obtain ⟨R, HR⟩ : ∃ R, Hid (rldP S ((k : Int) - 1) = R) := ⟨_, rfl⟩
      rw [HR.out] at K1 K2 HF1 HF2
      obtain ⟨L, E⟩ := R
      simp only at K1 K2 HF1 HF2
      obtain ⟨ln, HLN⟩ : ∃ ln, Hid (L.length = ln) := ⟨_, rfl⟩
      rw [HLN.out] at K1 K2
      obtain ⟨ii, HII⟩ : ∃ ii, Hid ((k : Int) - 1 = ii) := ⟨_, rfl⟩
      rw [HII.out] at K1 K2 hki ⊢
      have hi2 : -1 ≤ ii := by rw [← HII.out]; omega
      clear f1 f2 t1 HR
      go_wp2_with fail
      refine Calls.mono K1.out ?_
      rintro e w1 ⟨a1, c1, rfl, r1, b1⟩
      have HB1 : Hid (Below w.heap.size w w1) := HB.out.trans (b1.mono HB.out.size)
      have HR1 : Hid _ := r1
      have K3 : Hid _ := K2.out w1 HB1.out
      clear r1 b1 K1 K2
      go_wp2_with fail
      refine Calls.mono K3.out ?_
      rintro e w2 ⟨a2, c2, rfl, r2, b2⟩
      have HB2 : Hid (Below w.heap.size w w2) := HB1.out.trans (b2.mono HB1.out.size)
      have K4 : Hid (Calls Tryz.prog 31 #[.slice a1 ln c1, .slice a2 ln c2] w2 fun e w' => e = .returned (.bool true) ∧ Below w2.heap.size w2 w') := by
        have := sameAll_any L L _ _ w2 (RE.later HR1.out b2) (LogR.re r2).1 HF2.out HF2.out HF1.out HF1.out
        rw [decide_eq_true rfl] at this
        exact this
      clear r2 b2 K3 HR1
      go_wp2_with fail
      refine Calls.mono K4.out ?_
      rintro e w3 ⟨rfl, b3⟩
      have HB3 : Hid (Below w.heap.size w w3) := HB2.out.trans (b3.mono HB2.out.size)
      clear b3 K4
      go_wp2_with fail
      go_roundw
      case rel => exact ⟨k + 1, by omega, by rw [← HII.out]; go_num, HB3⟩
      case measure => rw [← HII.out]; simp [intOf]; omega
    · have hkn : k = 5 := by omega
      subst hkn
      have hLP := HL.out wr HB.out
      obtain ⟨T, t1, _⟩ := hLP.dk
      have hsm := HQ.out.small
      have K1 : Hid _ := told_any T wr p S t1 HQ.out.2.1 (Dk.small_mono hsm (by omega) (by omega)) (by have := HQ.out.last; omega)
      have K2 : Hid (∀ wx, Below w.heap.size w wx → _) := fun wx hb => rtold_any r g S wx (HL.out wx hb).rv HQ.out.2.1 (by have := HQ.out.last; omega)
      rw [← told_eq _ HQ.out.last] at K2
      generalize toldG (lastB S) = o at *
      clear hLP t1 hsm
      go_wp2_with fail
      refine Calls.mono K1.out ?_
      rintro e w1 ⟨rfl, b1⟩
      have HB1 : Hid (Below w.heap.size w w1) := HB.out.trans (b1.mono HB.out.size)
      have K3 : Hid _ := K2.out w1 HB1.out
      clear b1 K1 K2
      go_wp2_with fail
      refine Calls.mono K3.out ?_
      rintro e w2 ⟨rfl, b2⟩
      have HB2 : Hid (Below w.heap.size w w2) := HB1.out.trans (b2.mono HB1.out.size)
      clear b2 K3
      unfold tV
      go_wp2_with fail
      have HSl : Hid (∀ wx, LP w0 p r g S wx → wx.cell? ⟨r, 0, none⟩ = some (.slice (some ⟨g, 0, none⟩) 3 3)) := fun wx h => by have := h.rv.sl; rw [HQ.out.1] at this; exact this
      have HFl0 : Hid (∀ wx, LP w0 p r g S wx → wx.cell? ⟨g, 0, none⟩ = some (.string ⟨(S.fs 0).b.toArray⟩)) := fun wx h => (h.rv.file 0 (by rw [HQ.out.1]; omega)).1
      have HFl1 : Hid (∀ wx, LP w0 p r g S wx → wx.cell? ⟨g, 2, none⟩ = some (.string ⟨(S.fs 1).b.toArray⟩)) := fun wx h => (h.rv.file 1 (by rw [HQ.out.1]; omega)).1
      have HFl2 : Hid (∀ wx, LP w0 p r g S wx → wx.cell? ⟨g, 4, none⟩ = some (.string ⟨(S.fs 2).b.toArray⟩)) := fun wx h => (h.rv.file 2 (by rw [HQ.out.1]; omega)).1
      have HRc : Hid (∀ wx, LP w0 p r g S wx → wx.cell? ⟨r, 1, none⟩ = some (.int .i64 (S.room : Nat))) := fun wx h => h.rv.rm
      have HDc : Hid (∀ wx, LP w0 p r g S wx → wx.cell? ⟨r, 3, none⟩ = some (.bool S.down)) := fun wx h => h.rv.dn
      have HRd : Hid (∀ (j : Nat), j < 3 → ∀ wx, (LP w0 p r g S wx ∧ Below w.heap.size w wx) → Calls Tryz.prog 33 #[.pointer (some ⟨p, 0, none⟩), .int .i64 (j : Nat)] wx fun e w' => ∃ z : Option Addr × Nat, e = .returned (.slice z.1 (S.fs j).b.length z.2) ∧ (LP w0 p r g S w' ∧ Below w.heap.size w w') ∧ RB w' (.slice z.1 (S.fs j).b.length z.2) (S.fs j).b) := fun j hj wx h => by
        obtain ⟨T, t1, _⟩ := h.1.dk
        refine Calls.mono (Dk.read_any T wx p S (j : Int) t1 HQ.out.2.1 (Dk.small_mono HQ.out.small (by omega) (by omega))) ?_
        rintro e w' ⟨⟨v, q1, q2⟩, q3⟩
        rw [readP3 HQ.out.1 hj] at q2
        have q4 : RB w' v (S.fs j).b := q2.1
        obtain ⟨a, c, rfl, _⟩ := id q4
        exact ⟨(a, c), q1, ⟨h.1.later q3, h.2.trans (q3.mono h.2.size)⟩, q4⟩
      have HRd0 : Hid _ := HRd.out 0 (by omega)
      have HRd1 : Hid _ := HRd.out 1 (by omega)
      have HRd2 : Hid _ := HRd.out 2 (by omega)
      have HRm : Hid (∀ wx, (LP w0 p r g S wx ∧ Below w.heap.size w wx) → Calls Tryz.prog 34 #[.pointer (some ⟨p, 0, none⟩)] wx fun e w' => e = .returned (.int .i64 (S.room : Nat)) ∧ (LP w0 p r g S w' ∧ Below w.heap.size w w')) := fun wx h => by
        obtain ⟨T, ⟨V, t1⟩, _⟩ := h.1.dk
        refine Calls.mono (Dk.room_any p S.n S.room wx t1.cnt (by rw [HQ.out.1]; omega) t1.rm) ?_
        rintro e w' ⟨q1, q3⟩
        exact ⟨q1, h.1.later q3, h.2.trans (q3.mono h.2.size)⟩
      have HDn : Hid (∀ wx, (LP w0 p r g S wx ∧ Below w.heap.size w wx) → Calls Tryz.prog 35 #[.pointer (some ⟨p, 0, none⟩)] wx fun e w' => e = .returned (.bool S.down) ∧ (LP w0 p r g S w' ∧ Below w.heap.size w w')) := fun wx h => by
        obtain ⟨T, ⟨V, t1⟩, _⟩ := h.1.dk
        refine Calls.mono (Dk.down_any p S.n S.down wx t1.cnt (by rw [HQ.out.1]; omega) t1.dn) ?_
        rintro e w' ⟨q1, q3⟩
        exact ⟨q1, h.1.later q3, h.2.trans (q3.mono h.2.size)⟩
      have HSS : Hid (LP w0 p r g S w2.drew ∧ Below w.heap.size w w2.drew) := ⟨HL.out _ HB2.out.drew, HB2.out.drew⟩
      clear HRd
      generalize (S.fs 0).b = B0 at *
      generalize (S.fs 1).b = B1 at *
      generalize (S.fs 2).b = B2 at *
      obtain ⟨rm, HRMM⟩ : ∃ z : Int, Hid ((S.room : Int) = z) := ⟨_, rfl⟩
      rw [HRMM.out] at HRm HRc
      generalize S.down = dn at *
      have hS0 := HSS.out
      have hCUR := HSS.out
      refine region_thenG (β := (Option Addr × Nat) × (Option Addr × Nat) × (Option Addr × Nat)) (fun ⟨z0, z1, z2⟩ => [(49, .string ⟨(o.getD []).toArray⟩), (50, .string ⟨(o.getD []).toArray⟩), (51, .bool true), (52, .bool true), (53, .int .i64 (tE o)), (54, .int .i64 (tE o)), (55, .bool true), (56, .bool true), (57, .bool true), (58, .pointer (some ⟨p, 0, none⟩)), (59, .slice z0.1 B0.length z0.2), (60, .string ⟨B0.toArray⟩), (61, .pointer (some ⟨r, 0, none⟩)), (62, .pointer (some ⟨r, 0, none⟩)), (63, .pointer (some ⟨r, 0, none⟩)), (64, .slice (some ⟨g, 0, none⟩) 3 3), (65, .pointer (some ⟨g, 0, none⟩)), (66, .pointer (some ⟨g, 0, none⟩)), (67, .string ⟨B0.toArray⟩), (68, .bool true), (69, .bool true), (70, .bool true), (71, .pointer (some ⟨p, 0, none⟩)), (72, .slice z1.1 B1.length z1.2), (73, .string ⟨B1.toArray⟩), (74, .pointer (some ⟨r, 0, none⟩)), (75, .pointer (some ⟨r, 0, none⟩)), (76, .pointer (some ⟨r, 0, none⟩)), (77, .slice (some ⟨g, 0, none⟩) 3 3), (78, .pointer (some ⟨g, 2, none⟩)), (79, .pointer (some ⟨g, 2, none⟩)), (80, .string ⟨B1.toArray⟩), (81, .bool true), (82, .bool true), (83, .bool true), (84, .pointer (some ⟨p, 0, none⟩)), (85, .slice z2.1 B2.length z2.2), (86, .string ⟨B2.toArray⟩), (87, .pointer (some ⟨r, 0, none⟩)), (88, .pointer (some ⟨r, 0, none⟩)), (89, .pointer (some ⟨r, 0, none⟩)), (90, .slice (some ⟨g, 0, none⟩) 3 3), (91, .pointer (some ⟨g, 4, none⟩)), (92, .pointer (some ⟨g, 4, none⟩)), (93, .string ⟨B2.toArray⟩), (94, .bool true), (95, .bool true), (96, .bool true), (97, .pointer (some ⟨p, 0, none⟩)), (98, .int .i64 rm), (99, .pointer (some ⟨r, 0, none⟩)), (100, .pointer (some ⟨r, 0, none⟩)), (101, .pointer (some ⟨r, 1, none⟩)), (102, .int .i64 rm), (103, .bool true), (104, .bool true), (105, .bool true), (106, .pointer (some ⟨p, 0, none⟩)), (107, .bool dn), (108, .pointer (some ⟨r, 0, none⟩)), (109, .pointer (some ⟨r, 0, none⟩)), (110, .pointer (some ⟨r, 3, none⟩)), (111, .bool dn), (112, .bool true), (113, .bool true), (4, .bool true)]) (fun ⟨z0, z1, z2⟩ w' => LP w0 p r g S w' ∧ Below w.heap.size w w') ?_ ?_
      · refine wp_region_held (S := fun w' => LP w0 p r g S w' ∧ Below w.heap.size w w') (by kernel_rfl) ?_
        simp only [List.size_toArray]
        refine takeD (i := 0) (d := 49) (v := .string ⟨(o.getD []).toArray⟩) (fuel := 65) rfl rfl (by kernel_rfl) (by kernel_rfl) (by kernel_rfl) (fun _ _ _ h => by cases h.1) (.inl ⟨by kernel_rfl, fun _ _ => by kernel_rfl⟩) hS0 ?_
        simp only [List.setIfInBounds_toArray, List.set_cons_succ, List.set_cons_zero]
        refine takeD (i := 1) (d := 50) (v := .string ⟨(o.getD []).toArray⟩) (fuel := 64) rfl rfl (by kernel_rfl) (by kernel_rfl) (by kernel_rfl) (fun _ _ _ h => by cases h.1) (.inl ⟨by kernel_rfl, fun _ _ => by kernel_rfl⟩) hS0 ?_
        simp only [List.setIfInBounds_toArray, List.set_cons_succ, List.set_cons_zero]
        refine takeD (i := 2) (d := 51) (v := .bool true) (fuel := 63) rfl rfl (by kernel_rfl) (by kernel_rfl) (by kernel_rfl) (fun _ _ _ h => by cases h.1) (.inl ⟨by kernel_rfl, fun _ _ => by go_simp⟩) hS0 ?_
        simp only [List.setIfInBounds_toArray, List.set_cons_succ, List.set_cons_zero]
        refine takeD (i := 3) (d := 52) (v := .bool true) (fuel := 62) rfl rfl (by kernel_rfl) (by kernel_rfl) (by kernel_rfl) (fun _ _ _ h => by cases h.1) (.inl ⟨by kernel_rfl, fun _ _ => by kernel_rfl⟩) hS0 ?_
        simp only [List.setIfInBounds_toArray, List.set_cons_succ, List.set_cons_zero]
        refine takeD (i := 4) (d := 53) (v := .int .i64 (tE o)) (fuel := 61) rfl rfl (by kernel_rfl) (by kernel_rfl) (by kernel_rfl) (fun _ _ _ h => by cases h.1) (.inl ⟨by kernel_rfl, fun _ _ => by kernel_rfl⟩) hS0 ?_
        simp only [List.setIfInBounds_toArray, List.set_cons_succ, List.set_cons_zero]
        refine takeD (i := 5) (d := 54) (v := .int .i64 (tE o)) (fuel := 60) rfl rfl (by kernel_rfl) (by kernel_rfl) (by kernel_rfl) (fun _ _ _ h => by cases h.1) (.inl ⟨by kernel_rfl, fun _ _ => by kernel_rfl⟩) hS0 ?_
        simp only [List.setIfInBounds_toArray, List.set_cons_succ, List.set_cons_zero]
        refine takeD (i := 6) (d := 55) (v := .bool true) (fuel := 59) rfl rfl (by kernel_rfl) (by kernel_rfl) (by kernel_rfl) (fun _ _ _ h => by cases h.1) (.inl ⟨by kernel_rfl, fun _ _ => by go_simp⟩) hS0 ?_
        simp only [List.setIfInBounds_toArray, List.set_cons_succ, List.set_cons_zero]
        refine takeD (i := 7) (d := 56) (v := .bool true) (fuel := 58) rfl rfl (by kernel_rfl) (by kernel_rfl) (by kernel_rfl) (fun _ _ _ h => by cases h.1) (.inl ⟨by kernel_rfl, fun _ _ => by kernel_rfl⟩) hS0 ?_
        simp only [List.setIfInBounds_toArray, List.set_cons_succ, List.set_cons_zero]
        refine takeD (i := 8) (d := 57) (v := .bool true) (fuel := 57) rfl rfl (by kernel_rfl) (by kernel_rfl) (by kernel_rfl) (fun _ _ _ h => by cases h.1) (.inl ⟨by kernel_rfl, fun _ _ => by kernel_rfl⟩) hS0 ?_
        simp only [List.setIfInBounds_toArray, List.set_cons_succ, List.set_cons_zero]
        refine takeD (i := 9) (d := 58) (v := .pointer (some ⟨p, 0, none⟩)) (fuel := 56) rfl rfl (by kernel_rfl) (by kernel_rfl) (by kernel_rfl) (fun _ _ _ h => by cases h.1) (.inl ⟨by kernel_rfl, fun _ _ => by kernel_rfl⟩) hS0 ?_
        simp only [List.setIfInBounds_toArray, List.set_cons_succ, List.set_cons_zero]
        refine takeD (i := 12) (d := 61) (v := .pointer (some ⟨r, 0, none⟩)) (fuel := 55) rfl rfl (by kernel_rfl) (by kernel_rfl) (by kernel_rfl) (fun _ _ _ h => by cases h.1) (.inl ⟨by kernel_rfl, fun _ _ => by kernel_rfl⟩) hS0 ?_
        simp only [List.setIfInBounds_toArray, List.set_cons_succ, List.set_cons_zero]
        refine takeD (i := 13) (d := 62) (v := .pointer (some ⟨r, 0, none⟩)) (fuel := 54) rfl rfl (by kernel_rfl) (by kernel_rfl) (by kernel_rfl) (fun _ _ _ h => by cases h.1) (.inl ⟨by kernel_rfl, fun _ _ => by go_simp⟩) hS0 ?_
        simp only [List.setIfInBounds_toArray, List.set_cons_succ, List.set_cons_zero]
        refine takeD (i := 14) (d := 63) (v := .pointer (some ⟨r, 0, none⟩)) (fuel := 53) rfl rfl (by kernel_rfl) (by kernel_rfl) (by kernel_rfl) (fun _ _ _ h => by cases h.1) (.inl ⟨by kernel_rfl, fun _ _ => by go_simp⟩) hS0 ?_
        simp only [List.setIfInBounds_toArray, List.set_cons_succ, List.set_cons_zero]
        refine takeD (i := 15) (d := 64) (v := .slice (some ⟨g, 0, none⟩) 3 3) (fuel := 52) rfl rfl (by kernel_rfl) (by kernel_rfl) (by kernel_rfl) (fun _ _ _ h => by cases h.1) (.inl ⟨by kernel_rfl, fun wx h => by have z9 := HSl.out wx h.1; go_simp⟩) hS0 ?_
        simp only [List.setIfInBounds_toArray, List.set_cons_succ, List.set_cons_zero]
        refine takeD (i := 16) (d := 65) (v := .pointer (some ⟨g, 0, none⟩)) (fuel := 51) rfl rfl (by kernel_rfl) (by kernel_rfl) (by kernel_rfl) (fun _ _ _ h => by cases h.1) (.inl ⟨by kernel_rfl, fun _ _ => by go_simp⟩) hS0 ?_
        simp only [List.setIfInBounds_toArray, List.set_cons_succ, List.set_cons_zero]
        refine takeD (i := 17) (d := 66) (v := .pointer (some ⟨g, 0, none⟩)) (fuel := 50) rfl rfl (by kernel_rfl) (by kernel_rfl) (by kernel_rfl) (fun _ _ _ h => by cases h.1) (.inl ⟨by kernel_rfl, fun _ _ => by go_simp⟩) hS0 ?_
        simp only [List.setIfInBounds_toArray, List.set_cons_succ, List.set_cons_zero]
        refine takeD (i := 18) (d := 67) (v := .string ⟨B0.toArray⟩) (fuel := 49) rfl rfl (by kernel_rfl) (by kernel_rfl) (by kernel_rfl) (fun _ _ _ h => by cases h.1) (.inl ⟨by kernel_rfl, fun wx h => by have z9 := HFl0.out wx h.1; go_simp⟩) hS0 ?_
        simp only [List.setIfInBounds_toArray, List.set_cons_succ, List.set_cons_zero]
        refine oneX (β := (Option Addr × Nat)) (V := fun z0 => .slice z0.1 B0.length z0.2) (R := fun z0 w' => (LP w0 p r g S w' ∧ Below w.heap.size w w') ∧ RB w' (.slice z0.1 B0.length z0.2) B0) (i := 10) (d := 59) (f := 33) (args := #[.pointer (some ⟨p, 0, none⟩), .int .i64 0]) (fuel := 48) rfl rfl (by kernel_rfl) (by kernel_rfl) (fun _ => by kernel_rfl) (HRd0.out _ hCUR) (fun z0 w' h => h.1) (fun z0 wz hR10 => ?_)
        simp only [List.setIfInBounds_toArray, List.set_cons_succ, List.set_cons_zero]
        refine wpAnyH_all (fuel := 47) (rs := [11]) (by kernel_rfl) (by decide) (List.forall_mem_singleton.2 ?_)
        refine wpOp_value (i := 11) (d := 60) (v := .string ⟨B0.toArray⟩) rfl rfl (by kernel_rfl) (by have z9 := string_of_RB hR10.2; go_simp) ⟨(hR10.1), ?_⟩
        simp only [List.setIfInBounds_toArray, List.set_cons_succ, List.set_cons_zero]
        refine takeD (i := 19) (d := 68) (v := .bool true) (fuel := 46) rfl rfl (by kernel_rfl) (by kernel_rfl) (by kernel_rfl) (fun _ _ _ h => by cases h.1) (.inl ⟨by kernel_rfl, fun _ _ => by go_simp⟩) (hR10.1) ?_
        simp only [List.setIfInBounds_toArray, List.set_cons_succ, List.set_cons_zero]
        refine takeD (i := 20) (d := 69) (v := .bool true) (fuel := 45) rfl rfl (by kernel_rfl) (by kernel_rfl) (by kernel_rfl) (fun _ _ _ h => by cases h.1) (.inl ⟨by kernel_rfl, fun _ _ => by kernel_rfl⟩) (hR10.1) ?_
        simp only [List.setIfInBounds_toArray, List.set_cons_succ, List.set_cons_zero]
        refine takeD (i := 21) (d := 70) (v := .bool true) (fuel := 44) rfl rfl (by kernel_rfl) (by kernel_rfl) (by kernel_rfl) (fun _ _ _ h => by cases h.1) (.inl ⟨by kernel_rfl, fun _ _ => by kernel_rfl⟩) (hR10.1) ?_
        simp only [List.setIfInBounds_toArray, List.set_cons_succ, List.set_cons_zero]
        refine takeD (i := 22) (d := 71) (v := .pointer (some ⟨p, 0, none⟩)) (fuel := 43) rfl rfl (by kernel_rfl) (by kernel_rfl) (by kernel_rfl) (fun _ _ _ h => by cases h.1) (.inl ⟨by kernel_rfl, fun _ _ => by kernel_rfl⟩) (hR10.1) ?_
        simp only [List.setIfInBounds_toArray, List.set_cons_succ, List.set_cons_zero]
        refine takeD (i := 25) (d := 74) (v := .pointer (some ⟨r, 0, none⟩)) (fuel := 42) rfl rfl (by kernel_rfl) (by kernel_rfl) (by kernel_rfl) (fun _ _ _ h => by cases h.1) (.inl ⟨by kernel_rfl, fun _ _ => by kernel_rfl⟩) (hR10.1) ?_
        simp only [List.setIfInBounds_toArray, List.set_cons_succ, List.set_cons_zero]
        refine takeD (i := 26) (d := 75) (v := .pointer (some ⟨r, 0, none⟩)) (fuel := 41) rfl rfl (by kernel_rfl) (by kernel_rfl) (by kernel_rfl) (fun _ _ _ h => by cases h.1) (.inl ⟨by kernel_rfl, fun _ _ => by go_simp⟩) (hR10.1) ?_
        simp only [List.setIfInBounds_toArray, List.set_cons_succ, List.set_cons_zero]
        refine takeD (i := 27) (d := 76) (v := .pointer (some ⟨r, 0, none⟩)) (fuel := 40) rfl rfl (by kernel_rfl) (by kernel_rfl) (by kernel_rfl) (fun _ _ _ h => by cases h.1) (.inl ⟨by kernel_rfl, fun _ _ => by go_simp⟩) (hR10.1) ?_
        simp only [List.setIfInBounds_toArray, List.set_cons_succ, List.set_cons_zero]
        refine takeD (i := 28) (d := 77) (v := .slice (some ⟨g, 0, none⟩) 3 3) (fuel := 39) rfl rfl (by kernel_rfl) (by kernel_rfl) (by kernel_rfl) (fun _ _ _ h => by cases h.1) (.inl ⟨by kernel_rfl, fun wx h => by have z9 := HSl.out wx h.1; go_simp⟩) (hR10.1) ?_
        simp only [List.setIfInBounds_toArray, List.set_cons_succ, List.set_cons_zero]
        refine takeD (i := 29) (d := 78) (v := .pointer (some ⟨g, 2, none⟩)) (fuel := 38) rfl rfl (by kernel_rfl) (by kernel_rfl) (by kernel_rfl) (fun _ _ _ h => by cases h.1) (.inl ⟨by kernel_rfl, fun _ _ => by go_simp⟩) (hR10.1) ?_
        simp only [List.setIfInBounds_toArray, List.set_cons_succ, List.set_cons_zero]
        refine takeD (i := 30) (d := 79) (v := .pointer (some ⟨g, 2, none⟩)) (fuel := 37) rfl rfl (by kernel_rfl) (by kernel_rfl) (by kernel_rfl) (fun _ _ _ h => by cases h.1) (.inl ⟨by kernel_rfl, fun _ _ => by go_simp⟩) (hR10.1) ?_
        simp only [List.setIfInBounds_toArray, List.set_cons_succ, List.set_cons_zero]
        refine takeD (i := 31) (d := 80) (v := .string ⟨B1.toArray⟩) (fuel := 36) rfl rfl (by kernel_rfl) (by kernel_rfl) (by kernel_rfl) (fun _ _ _ h => by cases h.1) (.inl ⟨by kernel_rfl, fun wx h => by have z9 := HFl1.out wx h.1; go_simp⟩) (hR10.1) ?_
        simp only [List.setIfInBounds_toArray, List.set_cons_succ, List.set_cons_zero]
        refine oneX (β := (Option Addr × Nat)) (V := fun z1 => .slice z1.1 B1.length z1.2) (R := fun z1 w' => (LP w0 p r g S w' ∧ Below w.heap.size w w') ∧ RB w' (.slice z1.1 B1.length z1.2) B1) (i := 23) (d := 72) (f := 33) (args := #[.pointer (some ⟨p, 0, none⟩), .int .i64 1]) (fuel := 35) rfl rfl (by kernel_rfl) (by kernel_rfl) (fun _ => by kernel_rfl) (HRd1.out _ hR10.1) (fun z1 w' h => h.1) (fun z1 wz hR23 => ?_)
        simp only [List.setIfInBounds_toArray, List.set_cons_succ, List.set_cons_zero]
        refine wpAnyH_all (fuel := 34) (rs := [24]) (by kernel_rfl) (by decide) (List.forall_mem_singleton.2 ?_)
        refine wpOp_value (i := 24) (d := 73) (v := .string ⟨B1.toArray⟩) rfl rfl (by kernel_rfl) (by have z9 := string_of_RB hR23.2; go_simp) ⟨(hR23.1), ?_⟩
        simp only [List.setIfInBounds_toArray, List.set_cons_succ, List.set_cons_zero]
        refine takeD (i := 32) (d := 81) (v := .bool true) (fuel := 33) rfl rfl (by kernel_rfl) (by kernel_rfl) (by kernel_rfl) (fun _ _ _ h => by cases h.1) (.inl ⟨by kernel_rfl, fun _ _ => by go_simp⟩) (hR23.1) ?_
        simp only [List.setIfInBounds_toArray, List.set_cons_succ, List.set_cons_zero]
        refine takeD (i := 33) (d := 82) (v := .bool true) (fuel := 32) rfl rfl (by kernel_rfl) (by kernel_rfl) (by kernel_rfl) (fun _ _ _ h => by cases h.1) (.inl ⟨by kernel_rfl, fun _ _ => by kernel_rfl⟩) (hR23.1) ?_
        simp only [List.setIfInBounds_toArray, List.set_cons_succ, List.set_cons_zero]
        refine takeD (i := 34) (d := 83) (v := .bool true) (fuel := 31) rfl rfl (by kernel_rfl) (by kernel_rfl) (by kernel_rfl) (fun _ _ _ h => by cases h.1) (.inl ⟨by kernel_rfl, fun _ _ => by kernel_rfl⟩) (hR23.1) ?_
        simp only [List.setIfInBounds_toArray, List.set_cons_succ, List.set_cons_zero]
        refine takeD (i := 35) (d := 84) (v := .pointer (some ⟨p, 0, none⟩)) (fuel := 30) rfl rfl (by kernel_rfl) (by kernel_rfl) (by kernel_rfl) (fun _ _ _ h => by cases h.1) (.inl ⟨by kernel_rfl, fun _ _ => by kernel_rfl⟩) (hR23.1) ?_
        simp only [List.setIfInBounds_toArray, List.set_cons_succ, List.set_cons_zero]
        refine takeD (i := 38) (d := 87) (v := .pointer (some ⟨r, 0, none⟩)) (fuel := 29) rfl rfl (by kernel_rfl) (by kernel_rfl) (by kernel_rfl) (fun _ _ _ h => by cases h.1) (.inl ⟨by kernel_rfl, fun _ _ => by kernel_rfl⟩) (hR23.1) ?_
        simp only [List.setIfInBounds_toArray, List.set_cons_succ, List.set_cons_zero]
        refine takeD (i := 39) (d := 88) (v := .pointer (some ⟨r, 0, none⟩)) (fuel := 28) rfl rfl (by kernel_rfl) (by kernel_rfl) (by kernel_rfl) (fun _ _ _ h => by cases h.1) (.inl ⟨by kernel_rfl, fun _ _ => by go_simp⟩) (hR23.1) ?_
        simp only [List.setIfInBounds_toArray, List.set_cons_succ, List.set_cons_zero]
        refine takeD (i := 40) (d := 89) (v := .pointer (some ⟨r, 0, none⟩)) (fuel := 27) rfl rfl (by kernel_rfl) (by kernel_rfl) (by kernel_rfl) (fun _ _ _ h => by cases h.1) (.inl ⟨by kernel_rfl, fun _ _ => by go_simp⟩) (hR23.1) ?_
        simp only [List.setIfInBounds_toArray, List.set_cons_succ, List.set_cons_zero]
        refine takeD (i := 41) (d := 90) (v := .slice (some ⟨g, 0, none⟩) 3 3) (fuel := 26) rfl rfl (by kernel_rfl) (by kernel_rfl) (by kernel_rfl) (fun _ _ _ h => by cases h.1) (.inl ⟨by kernel_rfl, fun wx h => by have z9 := HSl.out wx h.1; go_simp⟩) (hR23.1) ?_
        simp only [List.setIfInBounds_toArray, List.set_cons_succ, List.set_cons_zero]
        refine takeD (i := 42) (d := 91) (v := .pointer (some ⟨g, 4, none⟩)) (fuel := 25) rfl rfl (by kernel_rfl) (by kernel_rfl) (by kernel_rfl) (fun _ _ _ h => by cases h.1) (.inl ⟨by kernel_rfl, fun _ _ => by go_simp⟩) (hR23.1) ?_
        simp only [List.setIfInBounds_toArray, List.set_cons_succ, List.set_cons_zero]
        refine takeD (i := 43) (d := 92) (v := .pointer (some ⟨g, 4, none⟩)) (fuel := 24) rfl rfl (by kernel_rfl) (by kernel_rfl) (by kernel_rfl) (fun _ _ _ h => by cases h.1) (.inl ⟨by kernel_rfl, fun _ _ => by go_simp⟩) (hR23.1) ?_
        simp only [List.setIfInBounds_toArray, List.set_cons_succ, List.set_cons_zero]
        refine takeD (i := 44) (d := 93) (v := .string ⟨B2.toArray⟩) (fuel := 23) rfl rfl (by kernel_rfl) (by kernel_rfl) (by kernel_rfl) (fun _ _ _ h => by cases h.1) (.inl ⟨by kernel_rfl, fun wx h => by have z9 := HFl2.out wx h.1; go_simp⟩) (hR23.1) ?_
        simp only [List.setIfInBounds_toArray, List.set_cons_succ, List.set_cons_zero]
        refine oneX (β := (Option Addr × Nat)) (V := fun z2 => .slice z2.1 B2.length z2.2) (R := fun z2 w' => (LP w0 p r g S w' ∧ Below w.heap.size w w') ∧ RB w' (.slice z2.1 B2.length z2.2) B2) (i := 36) (d := 85) (f := 33) (args := #[.pointer (some ⟨p, 0, none⟩), .int .i64 2]) (fuel := 22) rfl rfl (by kernel_rfl) (by kernel_rfl) (fun _ => by kernel_rfl) (HRd2.out _ hR23.1) (fun z2 w' h => h.1) (fun z2 wz hR36 => ?_)
        simp only [List.setIfInBounds_toArray, List.set_cons_succ, List.set_cons_zero]
        refine wpAnyH_all (fuel := 21) (rs := [37]) (by kernel_rfl) (by decide) (List.forall_mem_singleton.2 ?_)
        refine wpOp_value (i := 37) (d := 86) (v := .string ⟨B2.toArray⟩) rfl rfl (by kernel_rfl) (by have z9 := string_of_RB hR36.2; go_simp) ⟨(hR36.1), ?_⟩
        simp only [List.setIfInBounds_toArray, List.set_cons_succ, List.set_cons_zero]
        refine takeD (i := 45) (d := 94) (v := .bool true) (fuel := 20) rfl rfl (by kernel_rfl) (by kernel_rfl) (by kernel_rfl) (fun _ _ _ h => by cases h.1) (.inl ⟨by kernel_rfl, fun _ _ => by go_simp⟩) (hR36.1) ?_
        simp only [List.setIfInBounds_toArray, List.set_cons_succ, List.set_cons_zero]
        refine takeD (i := 46) (d := 95) (v := .bool true) (fuel := 19) rfl rfl (by kernel_rfl) (by kernel_rfl) (by kernel_rfl) (fun _ _ _ h => by cases h.1) (.inl ⟨by kernel_rfl, fun _ _ => by kernel_rfl⟩) (hR36.1) ?_
        simp only [List.setIfInBounds_toArray, List.set_cons_succ, List.set_cons_zero]
        refine takeD (i := 47) (d := 96) (v := .bool true) (fuel := 18) rfl rfl (by kernel_rfl) (by kernel_rfl) (by kernel_rfl) (fun _ _ _ h => by cases h.1) (.inl ⟨by kernel_rfl, fun _ _ => by kernel_rfl⟩) (hR36.1) ?_
        simp only [List.setIfInBounds_toArray, List.set_cons_succ, List.set_cons_zero]
        refine takeD (i := 48) (d := 97) (v := .pointer (some ⟨p, 0, none⟩)) (fuel := 17) rfl rfl (by kernel_rfl) (by kernel_rfl) (by kernel_rfl) (fun _ _ _ h => by cases h.1) (.inl ⟨by kernel_rfl, fun _ _ => by kernel_rfl⟩) (hR36.1) ?_
        simp only [List.setIfInBounds_toArray, List.set_cons_succ, List.set_cons_zero]
        refine takeD (i := 50) (d := 99) (v := .pointer (some ⟨r, 0, none⟩)) (fuel := 16) rfl rfl (by kernel_rfl) (by kernel_rfl) (by kernel_rfl) (fun _ _ _ h => by cases h.1) (.inl ⟨by kernel_rfl, fun _ _ => by kernel_rfl⟩) (hR36.1) ?_
        simp only [List.setIfInBounds_toArray, List.set_cons_succ, List.set_cons_zero]
        refine takeD (i := 51) (d := 100) (v := .pointer (some ⟨r, 0, none⟩)) (fuel := 15) rfl rfl (by kernel_rfl) (by kernel_rfl) (by kernel_rfl) (fun _ _ _ h => by cases h.1) (.inl ⟨by kernel_rfl, fun _ _ => by go_simp⟩) (hR36.1) ?_
        simp only [List.setIfInBounds_toArray, List.set_cons_succ, List.set_cons_zero]
        refine takeD (i := 52) (d := 101) (v := .pointer (some ⟨r, 1, none⟩)) (fuel := 14) rfl rfl (by kernel_rfl) (by kernel_rfl) (by kernel_rfl) (fun _ _ _ h => by cases h.1) (.inl ⟨by kernel_rfl, fun _ _ => by go_simp⟩) (hR36.1) ?_
        simp only [List.setIfInBounds_toArray, List.set_cons_succ, List.set_cons_zero]
        refine takeD (i := 53) (d := 102) (v := .int .i64 rm) (fuel := 13) rfl rfl (by kernel_rfl) (by kernel_rfl) (by kernel_rfl) (fun _ _ _ h => by cases h.1) (.inl ⟨by kernel_rfl, fun wx h => by have z9 := HRc.out wx h.1; go_simp⟩) (hR36.1) ?_
        simp only [List.setIfInBounds_toArray, List.set_cons_succ, List.set_cons_zero]
        refine oneW (R := fun w' => LP w0 p r g S w' ∧ Below w.heap.size w w') (i := 49) (d := 98) (f := 34) (args := #[.pointer (some ⟨p, 0, none⟩)]) (v := .int .i64 rm) (fuel := 12) rfl rfl (by kernel_rfl) (by kernel_rfl) (fun _ => by kernel_rfl) (HRm.out _ hR36.1) (fun w' h => h) (fun wz hR49 => ?_)
        simp only [List.setIfInBounds_toArray, List.set_cons_succ, List.set_cons_zero]
        refine takeD (i := 54) (d := 103) (v := .bool true) (fuel := 11) rfl rfl (by kernel_rfl) (by kernel_rfl) (by kernel_rfl) (fun _ _ _ h => by cases h.1) (.inl ⟨by kernel_rfl, fun _ _ => by go_simp⟩) (hR49) ?_
        simp only [List.setIfInBounds_toArray, List.set_cons_succ, List.set_cons_zero]
        refine takeD (i := 55) (d := 104) (v := .bool true) (fuel := 10) rfl rfl (by kernel_rfl) (by kernel_rfl) (by kernel_rfl) (fun _ _ _ h => by cases h.1) (.inl ⟨by kernel_rfl, fun _ _ => by kernel_rfl⟩) (hR49) ?_
        simp only [List.setIfInBounds_toArray, List.set_cons_succ, List.set_cons_zero]
        refine takeD (i := 56) (d := 105) (v := .bool true) (fuel := 9) rfl rfl (by kernel_rfl) (by kernel_rfl) (by kernel_rfl) (fun _ _ _ h => by cases h.1) (.inl ⟨by kernel_rfl, fun _ _ => by kernel_rfl⟩) (hR49) ?_
        simp only [List.setIfInBounds_toArray, List.set_cons_succ, List.set_cons_zero]
        refine takeD (i := 57) (d := 106) (v := .pointer (some ⟨p, 0, none⟩)) (fuel := 8) rfl rfl (by kernel_rfl) (by kernel_rfl) (by kernel_rfl) (fun _ _ _ h => by cases h.1) (.inl ⟨by kernel_rfl, fun _ _ => by kernel_rfl⟩) (hR49) ?_
        simp only [List.setIfInBounds_toArray, List.set_cons_succ, List.set_cons_zero]
        refine takeD (i := 59) (d := 108) (v := .pointer (some ⟨r, 0, none⟩)) (fuel := 7) rfl rfl (by kernel_rfl) (by kernel_rfl) (by kernel_rfl) (fun _ _ _ h => by cases h.1) (.inl ⟨by kernel_rfl, fun _ _ => by kernel_rfl⟩) (hR49) ?_
        simp only [List.setIfInBounds_toArray, List.set_cons_succ, List.set_cons_zero]
        refine takeD (i := 60) (d := 109) (v := .pointer (some ⟨r, 0, none⟩)) (fuel := 6) rfl rfl (by kernel_rfl) (by kernel_rfl) (by kernel_rfl) (fun _ _ _ h => by cases h.1) (.inl ⟨by kernel_rfl, fun _ _ => by go_simp⟩) (hR49) ?_
        simp only [List.setIfInBounds_toArray, List.set_cons_succ, List.set_cons_zero]
        refine takeD (i := 61) (d := 110) (v := .pointer (some ⟨r, 3, none⟩)) (fuel := 5) rfl rfl (by kernel_rfl) (by kernel_rfl) (by kernel_rfl) (fun _ _ _ h => by cases h.1) (.inl ⟨by kernel_rfl, fun _ _ => by go_simp⟩) (hR49) ?_
        simp only [List.setIfInBounds_toArray, List.set_cons_succ, List.set_cons_zero]
        refine takeD (i := 62) (d := 111) (v := .bool dn) (fuel := 4) rfl rfl (by kernel_rfl) (by kernel_rfl) (by kernel_rfl) (fun _ _ _ h => by cases h.1) (.inl ⟨by kernel_rfl, fun wx h => by have z9 := HDc.out wx h.1; go_simp⟩) (hR49) ?_
        simp only [List.setIfInBounds_toArray, List.set_cons_succ, List.set_cons_zero]
        refine oneW (R := fun w' => LP w0 p r g S w' ∧ Below w.heap.size w w') (i := 58) (d := 107) (f := 35) (args := #[.pointer (some ⟨p, 0, none⟩)]) (v := .bool dn) (fuel := 3) rfl rfl (by kernel_rfl) (by kernel_rfl) (fun _ => by kernel_rfl) (HDn.out _ hR49) (fun w' h => h) (fun wz hR58 => ?_)
        simp only [List.setIfInBounds_toArray, List.set_cons_succ, List.set_cons_zero]
        refine takeD (i := 63) (d := 112) (v := .bool true) (fuel := 2) rfl rfl (by kernel_rfl) (by kernel_rfl) (by kernel_rfl) (fun _ _ _ h => by cases h.1) (.inl ⟨by kernel_rfl, fun _ _ => by go_simp⟩) (hR58) ?_
        simp only [List.setIfInBounds_toArray, List.set_cons_succ, List.set_cons_zero]
        refine takeD (i := 64) (d := 113) (v := .bool true) (fuel := 1) rfl rfl (by kernel_rfl) (by kernel_rfl) (by kernel_rfl) (fun _ _ _ h => by cases h.1) (.inl ⟨by kernel_rfl, fun _ _ => by kernel_rfl⟩) (hR58) ?_
        simp only [List.setIfInBounds_toArray, List.set_cons_succ, List.set_cons_zero]
        refine takeD (i := 65) (d := 4) (v := .bool true) (fuel := 0) rfl rfl (by kernel_rfl) (by kernel_rfl) (by kernel_rfl) (fun _ _ _ h => by cases h.1) (.inl ⟨by kernel_rfl, fun _ _ => by kernel_rfl⟩) (hR58) ?_
        simp only [List.setIfInBounds_toArray, List.set_cons_succ, List.set_cons_zero]
        refine wpAnyH_done (by kernel_rfl) ?_ _
        exact ⟨rfl, (z0, z1, z2), by kernel_rfl, hR58⟩
      · rintro ⟨z0, z1, z2⟩ w9 hF
        simp only [setAll, List.setIfInBounds_toArray, List.set_cons_succ, List.set_cons_zero]
        have HF : Hid _ := hF.2
        clear hF
        go_wp2_with fail
        go_ret
        exact ⟨rfl, HF.out⟩
end Go.Proofs.YtijkgdbabikojaaGreat

