/- WireOnce: at any place of any bytes: what is taken, a number or a list, has just these bytes; where none is, nothing is told; proved in full, nothing is asked of the input. -/
import Derived.Test.YtbhebnhjnpfhgaaRows
import Derived.Test.YtbhebnhjnpfhgaaWl
import Derived.Deep.RegionHeldLaw
import Derived.ProofKit
import Derived.OpenShut
import Derived.ShutString
import Derived.ChangeOld
namespace Go.Proofs.Ytbhebnhjnpfhgaa.wireOnce
open Go.RowKit
set_option linter.unusedVariables false

theorem put_of (n : Nat) (hn : n ≤ 1099511627776) (wx : World) : Calls Try.prog 9 #[.slice none 0 0, .int .i64 n] wx fun e w' => ∃ v c, e = .returned (.tuple #[.slice v (oneP n).length c, .int .i64 0]) ∧ RB w' (.slice v (oneP n).length c) (oneP n) ∧ Below wx.heap.size wx w' := by
  have h := put_any _ [] (n : Int) wx (RB.nil wx) (by simp)
  have hi : isN (n : Int) = true := decide_eq_true (by omega)
  unfold putR putE at h
  rw [if_pos hi, if_pos hi, Int.toNat_natCast, List.nil_append] at h
  exact h

theorem nat_int (ns : List Nat) : natL (intL ns) = ns := by
  unfold natL intL
  rw [List.map_map]
  conv => rhs; rw [← List.map_id ns]
  apply List.map_congr_left
  intro x _
  rfl

theorem all_int {ns : List Nat} (h : ∀ n ∈ ns, n ≤ 1099511627776) : allN (intL ns) = true := by
  unfold allN
  rw [List.all_eq_true]
  intro x hx
  obtain ⟨n, hn, rfl⟩ := List.mem_map.1 hx
  have := h n hn
  exact decide_eq_true (by show 0 ≤ (n : Int) ∧ (n : Int) ≤ _; omega)

theorem puts_of (ns : List Nat) (hl : ns.length ≤ 255) (hn : ∀ n ∈ ns, n ≤ 1099511627776) (y : Value) (wx : World) (hy : RI wx y (intL ns)) : Calls Try.prog 11 #[.slice none 0 0, y] wx fun e w' => ∃ v c, e = .returned (.tuple #[.slice v (putsP ns).length c, .int .i64 0]) ∧ RB w' (.slice v (putsP ns).length c) (putsP ns) ∧ Below wx.heap.size wx w' := by
  have h := puts_any _ y [] (intL ns) wx (RB.nil wx) hy (by simp) (by rw [intL_len]; omega)
  have hi := all_int hn
  unfold putsR putsE at h
  rw [if_pos (by rw [intL_len]; exact hl), if_pos hi, if_pos (by rw [intL_len]; exact hl), if_pos hi, nat_int, List.nil_append] at h
  exact h

theorem listI_err {l : List UInt8} {p : Int} (h : (takeI l p).2.2 ≠ 0) : ∃ E, E ≠ 0 ∧ listI l p = ([], 0, E) := by
  unfold takeI at h
  unfold listI
  by_cases hp : 0 ≤ p ∧ p ≤ (l.length : Int)
  · rw [if_pos hp] at h ⊢
    unfold listP
    rw [if_neg h]
    exact ⟨_, h, rfl⟩
  · rw [if_neg hp]
    exact ⟨2, by decide, rfl⟩

theorem takeI_err {l : List UInt8} {p : Int} (h : (takeI l p).2.2 ≠ 0) : ∃ E, E ≠ 0 ∧ takeI l p = (0, 0, E) := by
  unfold takeI at h ⊢
  by_cases hp : 0 ≤ p ∧ p ≤ (l.length : Int)
  · rw [if_pos hp] at h ⊢
    obtain ⟨h1, h2, _⟩ := take_err h
    exact ⟨(takeP l p.toNat).2.2, h, Prod.ext h1 (Prod.ext h2 rfl)⟩
  · rw [if_neg hp]
    exact ⟨2, by decide, rfl⟩

set_option maxRecDepth 1000000 in
set_option maxHeartbeats 4000000 in
theorem walk (x : Value) (l : List UInt8) (p : Int) (w : World) (hx : RB w x l) (_w1 : (Lit.int .i64 p).wf = true) :
    Calls Try.prog 6 #[x, .int .i64 p] w fun e w' => e = .returned (.bool true) ∧ Below w.heap.size w w' := by
  clear _w1
  have HX : Hid (RB w x l) := hx
  obtain ⟨xa, xc, rfl, _⟩ := hx
  by_cases h5 : l.length ≤ 5000
  · have HT : Hid _ := takei_any _ l p w HX.out (by omega)
    by_cases he : (takeI l p).2.2 = 0
    · have hp : 0 ≤ p ∧ p ≤ (l.length : Int) := by
        by_cases hp : 0 ≤ p ∧ p ≤ (l.length : Int)
        · exact hp
        · unfold takeI at he
          rw [if_neg hp] at he
          simp at he
      obtain ⟨q, rfl⟩ : ∃ q : Nat, p = (q : Int) := ⟨p.toNat, by omega⟩
      have e1 : takeI l (q : Int) = takeP l q := by unfold takeI; rw [if_pos hp, Int.toNat_natCast]
      have e2 : listI l (q : Int) = listP l q := by unfold listI; rw [if_pos hp, Int.toNat_natCast]
      have HTS : Hid (∀ wx, RB wx (.slice xa l.length xc) l → Calls Try.prog 15 #[.slice xa l.length xc, .int .i64 (q : Int)] wx fun e w' => ListC (listP l q) wx.heap.size wx e w') := by
        show ∀ wx, _
        intro wx h
        have := takes_any _ l (q : Int) wx h (by omega)
        rw [e2] at this
        exact this
      rw [e1] at HT he
      obtain ⟨a1, a2, a3, a4⟩ := take_ok (l := l) (p := q) (by omega) he
      obtain ⟨V, hV, hSV⟩ := slice_part HX.out q (takeP l q).2.1 (by omega) a3
      rw [← a4] at hV
      have HV : Hid (RB w V (oneP (takeP l q).1)) := hV
      unfold firstV at HT
      rw [he] at HT
      have HPT : Hid _ := put_of (takeP l q).1 a1
      clear e1 e2 hp he a4 hV
      generalize (takeP l q).1 = n at *
      generalize (takeP l q).2.1 = i at *
      have hol := one_six a1
      generalize oneP n = X at *
      go_enter Try.func6, Try.ntmps6
      go_wp2_with fail
      refine Calls.mono HT.out ?_
      rintro e w1 ⟨rfl, rfl⟩
      go_wp2_with fail
      refine Calls.mono (HPT.out _) ?_
      rintro e w2 ⟨v2, c2, rfl, hr2, hb2⟩
      have HB2 : Hid (Below w1.heap.size w1 w2) := hb2
      have hc1 := string_of_RB (hr2.later ((Below.refl _ _).drew))
      have hc2 := string_of_RB ((HV.out.later hb2).later ((Below.refl _ _).drew))
      clear hr2 hb2 HT HPT
      have hd1 : decide ((i : Int) < (q : Int)) = false := decide_eq_false (by omega)
      have hd2 : decide (i < q) = false := decide_eq_false (by omega)
      have hd3 : decide ((l.length : Int) < (i : Int)) = false := decide_eq_false (by omega)
      have hd4 : decide (l.length < i) = false := decide_eq_false (by omega)
      go_wp2_with fail
      go_region_held_law (fun w' => w' = w2.drew) (first | rfl | assumption) (fail)
      all_goals
        clear hc1 hc2 hSV hd1 hd2 hd3 hd4
        have HBd : Hid (Below w1.heap.size w1 w2.drew) := HB2.out.drew
        go_wp2_with fail
        refine Calls.mono (HTS.out _ (HX.out.later HBd.out)) ?_
        by_cases hle : (listP l q).2.2 = 0
        · obtain ⟨b1, b2, b3, b4, b5⟩ := list_ok (l := l) (p := q) (by omega) hle
          obtain ⟨V3, hV3, hSV3⟩ := slice_part HX.out q (listP l q).2.1 (by omega) b4
          rw [← b5] at hV3
          have HV3 : Hid (RB w1 V3 (putsP (listP l q).1)) := hV3
          have hpl := puts_len (listP l q).1 b1 b2
          have HPO : Hid _ := puts_of (listP l q).1 b1 b2
          unfold ListC
          rw [hle]
          clear hle b5 hV3 b2
          generalize (listP l q).1 = ns at *
          generalize (listP l q).2.1 = j at *
          generalize putsP ns = S at *
          rintro e w4 ⟨v4, c4, rfl, hr4, hb4⟩
          have HB4 : Hid (Below w1.heap.size w1 w4) := HBd.out.trans (hb4.mono HBd.out.size)
          have HR4 : Hid (RI w4 (.slice v4 ns.length c4) (intL ns)) := hr4
          clear hb4 hr4
          go_wp2_with fail
          refine Calls.mono (HPO.out _ _ HR4.out) ?_
          rintro e w5 ⟨v5, c5, rfl, hr5, hb5⟩
          have HB5 : Hid (Below w1.heap.size w1 w5) := HB4.out.trans (hb5.mono HB4.out.size)
          have hc3 := string_of_RB (hr5.later ((Below.refl _ _).drew))
          have hc4 := string_of_RB ((HV3.out.later HB5.out).later ((Below.refl _ _).drew))
          clear hr5 hb5 HPO
          have hd1 : decide ((q : Int) ≤ (j : Int)) = true := decide_eq_true (by omega)
          have hd2 : decide (q ≤ j) = true := decide_eq_true (by omega)
          have hd3 : decide ((j : Int) ≤ (l.length : Int)) = true := decide_eq_true (by omega)
          have hd4 : decide (j ≤ l.length) = true := decide_eq_true (by omega)
          go_wp2_with fail
          go_region_held_law (fun w' => w' = w5.drew ∨ Below w5.drew.heap.size w5.drew w') (first | exact .inl rfl | assumption | exact .inr hb6) (first
            | (go_simp; go_at_call 8; refine (lives_any _).mono ?_; rintro e w6 ⟨rfl, hb6⟩))
          all_goals
            have HB6 : Hid (Below w1.heap.size w1 w6) := HB5.out.trans ((((Below.refl _ _).drew).trans hb6).mono HB5.out.size)
            clear hb6 hc3 hc4 hSV3 hd1 hd2 hd3 hd4
            go_wp2_with fail
            go_ret
            exact ⟨rfl, HB6.out⟩
        · obtain ⟨b1, b2⟩ := list_err hle
          unfold ListC
          rw [b1, b2]
          clear b1 b2
          generalize (listP l q).2.2 = E at *
          rintro e w4 ⟨v4, c4, rfl, _, hb4⟩
          have HB4 : Hid (Below w1.heap.size w1 w4) := HBd.out.trans (hb4.mono HBd.out.size)
          clear hb4
          go_wp2_with fail
          refine (lives_any _).mono ?_
          rintro e w5 ⟨rfl, hb5⟩
          have HB5 : Hid (Below w1.heap.size w1 w5) := HB4.out.trans (hb5.mono HB4.out.size)
          clear hb5
          go_wp2_with fail
          go_ret
          exact ⟨rfl, HB5.out⟩
    · obtain ⟨E, hE, e1⟩ := takeI_err he
      obtain ⟨F, hF, e2⟩ := listI_err he
      have HTS : Hid (∀ wx, RB wx (.slice xa l.length xc) l → Calls Try.prog 15 #[.slice xa l.length xc, .int .i64 p] wx fun e w' => ListC ([], 0, F) wx.heap.size wx e w') := by
        show ∀ wx, _
        intro wx h
        have := takes_any _ l p wx h (by omega)
        rw [e2] at this
        exact this
      rw [e1] at HT
      unfold firstV at HT
      clear e1 e2 he
      go_enter Try.func6, Try.ntmps6
      go_wp2_with fail
      refine Calls.mono HT.out ?_
      rintro e w1 ⟨rfl, rfl⟩
      go_wp2_with fail
      refine Calls.mono (HTS.out _ HX.out) ?_
      rintro e w4 ⟨v4, c4, rfl, _, hb4⟩
      have HB4 : Hid (Below w1.heap.size w1 w4) := hb4
      clear hb4
      go_wp2_with fail
      refine (lives_any _).mono ?_
      rintro e w5 ⟨rfl, hb5⟩
      have HB5 : Hid (Below w1.heap.size w1 w5) := HB4.out.trans (hb5.mono HB4.out.size)
      clear hb5
      go_wp2_with fail
      go_ret
      exact ⟨rfl, HB5.out⟩
  · have h6 : 5000 < l.length := by omega
    clear h5
    generalize l.length = k at *
    go_enter Try.func6, Try.ntmps6
    go_wp2_with fail
    refine (lives_any _).mono ?_
    rintro e w1 ⟨rfl, hb1⟩
    go_wp2
    go_ret
    exact ⟨rfl, hb1⟩

open Go.ChangeShapes Go.WideShapes Go.ChangeAt

theorem own : ownKnob Try.prog.godebug = none := by kernel_rfl
theorem laidOut : laidOutB Try.prog = true := by kernel_rfl

set_option maxRecDepth 100000 in
theorem lifted (os : Os) (started : os.Started) (H : Type) (enc : TypeId × Value → H) :
    ReturnsInHanded {} Try.checked os 6 .any (Rows.wireOnceSpec.pre6 enc Try.prog Try.f6 Rows.wireOnceRow.domain false) (Rows.wireOnceSpec.post enc Try.prog Try.f6 false true false false) := by
  refine returnsInHanded_of_change (C := Try.checked) own started (by kernel_rfl) Try.func6
    (ChangeSpec.witness6 (enc := enc) (C := Try.checked) false ⟨#[], #[.slice none 0 0, .int .i64 0], []⟩ 8 (by kernel_rfl) (by kernel_rfl) (by kernel_rfl) (by kernel_rfl)) ?_
  intro W base args ds gs before hval0 hW hcnd _
  have hval : ∀ (j : Nat) t v, Try.f6.params[j]? = some t → args[j]? = some v → Value.okWide Try.prog W .any base t v := hval0
  have hW' := hW
  obtain ⟨p, q, hA0, hV, rfl, hfz, hnd⟩ := hW
  have hA : DataW.TrodAll enc Try.prog W 0 (fun _ => true) true Try.f6.params.toList args.toList ds p := hA0
  rw [Try.params6] at hA hval
  obtain ⟨v0, vs0, d0, ds0, p0, q0, hargs, rfl, rfl, h0, r0⟩ := trodAll_cons hA
  obtain ⟨v1, vs1, d1, ds1, p1, q1, rfl, rfl, rfl, h1, r1⟩ := trodAll_cons r0
  obtain ⟨rfl, rfl, rfl⟩ := trodAll_nil r1
  obtain rfl : args = #[v0, v1] := by cases args; simp_all
  obtain ⟨rfl, rfl⟩ := trodVars_none hV
  obtain ⟨a1, rfl, rfl, rfl, w1⟩ := open_int Try.underlying3 (hval 1 3 v1 rfl rfl) h1
  obtain ⟨a0, len0, cap0, rfl⟩ := okWide_slice Try.underlying22 (hval 0 22 v0 rfl rfl)
  have k0 := h0
  have lt0 : ∀ x ∈ p0, x.block < W.heap.size := by obtain ⟨m, hm⟩ := k0; exact DataW.trod_lt m _ _ _ hm
  obtain ⟨z0, w0⟩ : ∃ L, RB W (.slice a0 len0 cap0) L := by
    obtain ⟨fuel, hf⟩ := h0
    obtain ⟨v, l, hv, hl⟩ := open_u8s hf
    simp [Value.cells] at hv
    subst hv
    exact ⟨l, hl⟩
  clear hA0 hval0
  refine (walk (.slice a0 len0 cap0) z0 a1 W w0 w1).mono fun e W' ⟨he, bel⟩ => ?_
  subst he
  exact ⟨_, rfl, _, _, _, [], _, [], hW', trodAll_mk1 (shut_bool Try.underlying4 _), (trodAll_cons_mk (Below.trod laidOut (by kernel_rfl) (of_decide_eq_true (by kernel_rfl)) k0 bel lt0) (trodAll_cons_mk (shut_int Try.underlying3 w1) trodAll_mk0)), rfl, bel.frame _, fun h => by cases h⟩

theorem over : Rows.wireOnceRow.holds Try.pinned (OpenSpec.ofChange Rows.wireOnceSpec) :=
  OpenClaim.holds_of_wide 6 Try.f6 rfl rfl rfl rfl rfl rfl rfl ⟨rfl, rfl, rfl, rfl, rfl⟩ rfl rfl rfl rfl rfl (by kernel_rfl) Try.func6 (by kernel_rfl)
    (of_decide_eq_true (by kernel_rfl)) (by unfold Func.isWrapper; first | (rw [if_pos (by decide +kernel)]; kernel_rfl) | (rw [if_neg (by decide +kernel)]; exact ⟨rfl, rfl⟩))
    (fun os started H enc _ => lifted os started H enc)
end Go.Proofs.Ytbhebnhjnpfhgaa.wireOnce
namespace Go.Proofs.Ytbhebnhjnpfhgaa

theorem wireOnce_holds : Rows.WireOnceSaid := wireOnce.over
#print axioms wireOnce_holds
end Go.Proofs.Ytbhebnhjnpfhgaa
