/- WireTakes: at any place of any bytes stands the number, and the list, that the document says, or its error; proved in full, nothing is asked of the input. -/
import Derived.Test.YtbhebnhjnpfhgaaRows
import Derived.Test.YtbhebnhjnpfhgaaWl
import Derived.Test.YtbhebnhjnpfhgaaWj
import Derived.ProofKit
import Derived.OpenShut
import Derived.ShutString
import Derived.ChangeOld
namespace Go.Proofs.Ytbhebnhjnpfhgaa.wireTakes
open Go.RowKit
set_option linter.unusedVariables false

set_option maxRecDepth 1000000 in
set_option maxHeartbeats 1000000 in
theorem walk (x : Value) (l : List UInt8) (p : Int) (w : World) (hx : RB w x l) (_w1 : (Lit.int .i64 p).wf = true) :
    Calls Try.prog 4 #[x, .int .i64 p] w fun e w' => e = .returned (.bool true) ∧ Below w.heap.size w w' := by
  clear _w1
  have HX : Hid (RB w x l) := hx
  obtain ⟨xa, xc, rfl, _⟩ := hx
  by_cases h5 : l.length ≤ 5000
  · obtain ⟨r, HR⟩ : ∃ r, Hid (r = takeI l p) := ⟨_, rfl⟩
    obtain ⟨s, HS⟩ : ∃ s, Hid (s = listI l p) := ⟨_, rfl⟩
    have hsl : s.1.length ≤ 255 := by
      rw [HS.out]
      unfold listI
      by_cases hp : 0 ≤ p ∧ p ≤ (l.length : Int)
      · rw [if_pos hp]
        by_cases he : (listP l p.toNat).2.2 = 0
        · exact (list_ok (by omega) he).1
        · rw [(list_err he).1]; simp
      · rw [if_neg hp]; simp
    have HT1 : Hid (∀ wx, RB wx (.slice xa l.length xc) l → Calls Try.prog 13 #[.slice xa l.length xc, .int .i64 p] wx fun e w' => e = .returned (firstV r) ∧ w' = wx) := by
      show ∀ wx, _
      intro wx h
      have := takei_any _ l p wx h (by omega)
      rw [← HR.out] at this
      exact this
    have HT2 : Hid (∀ wx, Calls Try.prog 14 #[.string ⟨l.toArray⟩, .int .i64 p] wx fun e w' => e = .returned (firstV r) ∧ Below wx.heap.size wx w') := by
      show ∀ wx, _
      intro wx
      have := rtakei_any l p wx (by omega)
      rw [← HR.out] at this
      exact this
    have HT3 : Hid (∀ wx, RB wx (.slice xa l.length xc) l → Calls Try.prog 15 #[.slice xa l.length xc, .int .i64 p] wx fun e w' => ListC s wx.heap.size wx e w') := by
      show ∀ wx, _
      intro wx h
      have := takes_any _ l p wx h (by omega)
      rw [← HS.out] at this
      exact this
    have HT4 : Hid (∀ wx, Calls Try.prog 16 #[.string ⟨l.toArray⟩, .int .i64 p] wx fun e w' => ListC s wx.heap.size wx e w') := by
      show ∀ wx, _
      intro wx
      have := rtakes_any l p wx (by omega)
      rw [← HS.out] at this
      exact this
    unfold firstV at HT1 HT2
    unfold ListC at HT3 HT4
    have hc0 := string_of_RB HX.out
    clear HR HS
    go_enter Try.func4, Try.ntmps4
    go_wp2_with fail
    refine Calls.mono (HT1.out _ HX.out) ?_
    rintro e w1 ⟨rfl, rfl⟩
    go_wp2_with fail
    refine Calls.mono (HT2.out _) ?_
    rintro e w2 ⟨rfl, hb2⟩
    have HB2 : Hid (Below w1.heap.size w1 w2) := hb2
    clear hb2 hc0
    go_wp2_with fail
    refine Calls.mono (HT3.out _ (HX.out.later HB2.out)) ?_
    rintro e w3 ⟨v3, c3, rfl, hr3, hb3⟩
    have HB3 : Hid (Below w1.heap.size w1 w3) := HB2.out.trans (hb3.mono HB2.out.size)
    have HR3 : Hid (RI w3 (.slice v3 s.1.length c3) (intL s.1)) := hr3
    have hc3 := string_of_RB (HX.out.later HB3.out)
    clear hb3 hr3
    go_wp2_with fail
    refine Calls.mono (HT4.out _) ?_
    rintro e w4 ⟨v4, c4, rfl, hr4, hb4⟩
    have HB4 : Hid (Below w1.heap.size w1 w4) := HB3.out.trans (hb4.mono HB3.out.size)
    have HSM : Hid (Calls Try.prog 17 #[.slice v3 s.1.length c3, .slice v4 s.1.length c4] w4 fun e w' => e = .returned (.bool true) ∧ Below w4.heap.size w4 w') := by
      have := same_any (intL s.1) (intL s.1) _ _ w4 (HR3.out.later hb4) hr4 (by rw [intL_len]; omega) (by rw [intL_len]; omega)
      rw [show decide (intL s.1 = intL s.1) = true from decide_eq_true rfl] at this
      exact this
    clear hb4 hr4 HR3 hc3
    go_wp2_with fail
    refine Calls.mono HSM.out ?_
    rintro e w5 ⟨rfl, hb5⟩
    have HB5 : Hid (Below w1.heap.size w1 w5) := HB4.out.trans (hb5.mono HB4.out.size)
    clear hb5 HSM
    go_wp2_with fail
    refine (lives_any _).mono ?_
    rintro e w6 ⟨rfl, hb6⟩
    have HB6 : Hid (Below w1.heap.size w1 w6) := HB5.out.trans (hb6.mono HB5.out.size)
    clear hb6
    go_wp2_with fail
    go_ret
    exact ⟨rfl, HB6.out⟩
  · have h6 : 5000 < l.length := by omega
    clear h5
    generalize l.length = k at *
    go_enter Try.func4, Try.ntmps4
    go_wp2_with fail
    refine (lives_any _).mono ?_
    rintro e w1 ⟨rfl, hb1⟩
    go_wp2
    go_ret
    exact ⟨rfl, hb1⟩

open Go.ChangeShapes Go.WideShapes Go.ChangeAt

theorem own : ownKnob Try.prog.godebug = none := by kernel_rfl
theorem laidOut : laidOutB Try.prog = true := by kernel_rfl

set_option maxRecDepth 100000 in
theorem lifted (os : Os) (started : os.Started) (H : Type) (enc : TypeId × Value → H) :
    ReturnsInHanded {} Try.checked os 4 .any (Rows.wireTakesSpec.pre6 enc Try.prog Try.f4 Rows.wireTakesRow.domain false) (Rows.wireTakesSpec.post enc Try.prog Try.f4 false true false false) := by
  refine returnsInHanded_of_change (C := Try.checked) own started (by kernel_rfl) Try.func4
    (ChangeSpec.witness6 (enc := enc) (C := Try.checked) false ⟨#[], #[.slice none 0 0, .int .i64 0], []⟩ 8 (by kernel_rfl) (by kernel_rfl) (by kernel_rfl) (by kernel_rfl)) ?_
  intro W base args ds gs before hval0 hW hcnd _
  have hval : ∀ (j : Nat) t v, Try.f4.params[j]? = some t → args[j]? = some v → Value.okWide Try.prog W .any base t v := hval0
  have hW' := hW
  obtain ⟨p, q, hA0, hV, rfl, hfz, hnd⟩ := hW
  have hA : DataW.TrodAll enc Try.prog W 0 (fun _ => true) true Try.f4.params.toList args.toList ds p := hA0
  rw [Try.params4] at hA hval
  obtain ⟨v0, vs0, d0, ds0, p0, q0, hargs, rfl, rfl, h0, r0⟩ := trodAll_cons hA
  obtain ⟨v1, vs1, d1, ds1, p1, q1, rfl, rfl, rfl, h1, r1⟩ := trodAll_cons r0
  obtain ⟨rfl, rfl, rfl⟩ := trodAll_nil r1
  obtain rfl : args = #[v0, v1] := by cases args; simp_all
  obtain ⟨rfl, rfl⟩ := trodVars_none hV
  obtain ⟨a1, rfl, rfl, rfl, w1⟩ := open_int Try.underlying3 (hval 1 3 v1 rfl rfl) h1
  obtain ⟨a0, len0, cap0, rfl⟩ := okWide_slice Try.underlying22 (hval 0 22 v0 rfl rfl)
  have k0 := h0
  have lt0 : ∀ x ∈ p0, x.block < W.heap.size := by obtain ⟨m, hm⟩ := k0; exact DataW.trod_lt m _ _ _ hm
  obtain ⟨z0, w0⟩ : ∃ L, RB W (.slice a0 len0 cap0) L := by
    obtain ⟨fuel, hf⟩ := h0
    obtain ⟨v, l, hv, hl⟩ := open_u8s hf
    simp [Value.cells] at hv
    subst hv
    exact ⟨l, hl⟩
  clear hA0 hval0
  refine (walk (.slice a0 len0 cap0) z0 a1 W w0 w1).mono fun e W' ⟨he, bel⟩ => ?_
  subst he
  exact ⟨_, rfl, _, _, _, [], _, [], hW', trodAll_mk1 (shut_bool Try.underlying4 _), (trodAll_cons_mk (Below.trod laidOut (by kernel_rfl) (of_decide_eq_true (by kernel_rfl)) k0 bel lt0) (trodAll_cons_mk (shut_int Try.underlying3 w1) trodAll_mk0)), rfl, bel.frame _, fun h => by cases h⟩

theorem over : Rows.wireTakesRow.holds Try.pinned (OpenSpec.ofChange Rows.wireTakesSpec) :=
  OpenClaim.holds_of_wide 4 Try.f4 rfl rfl rfl rfl rfl rfl rfl ⟨rfl, rfl, rfl, rfl, rfl⟩ rfl rfl rfl rfl rfl (by kernel_rfl) Try.func4 (by kernel_rfl)
    (of_decide_eq_true (by kernel_rfl)) (by unfold Func.isWrapper; first | (rw [if_pos (by decide +kernel)]; kernel_rfl) | (rw [if_neg (by decide +kernel)]; exact ⟨rfl, rfl⟩))
    (fun os started H enc _ => lifted os started H enc)
end Go.Proofs.Ytbhebnhjnpfhgaa.wireTakes
namespace Go.Proofs.Ytbhebnhjnpfhgaa

theorem wireTakes_holds : Rows.WireTakesSaid := wireTakes.over
#print axioms wireTakes_holds
end Go.Proofs.Ytbhebnhjnpfhgaa
