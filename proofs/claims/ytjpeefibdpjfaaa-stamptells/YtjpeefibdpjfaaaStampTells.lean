/- StampTells: for all counts a and b and every branch i: Check, At, Rank and Join answer as the document says, and its examples hold; proved in full, nothing is asked of the input. -/
import Derived.Test.YtjpeefibdpjfaaaRows
import Derived.Test.YtjpeefibdpjfaaaSj
import Derived.ProofKit
import Derived.OpenShut
import Derived.ShutString
import Derived.ChangeOld
namespace Go.Proofs.Ytjpeefibdpjfaaa.stampTells
open Go.RowKit
set_option linter.unusedVariables false

set_option maxRecDepth 1000000 in
set_option maxHeartbeats 4000000 in
theorem walk_big (v u : Value) (a b : List Int) (i : Int) (w : World) (hv : RI w v a) (hu : RI w u b) (h : ¬ (a.length ≤ 300 ∧ b.length ≤ 300)) :
    Calls Try.prog 3 #[v, u, .int .i64 i] w fun e w' => e = .returned (.bool true) ∧ Below w.heap.size w w' := by
  obtain ⟨xa, xc, rfl, _⟩ := hv
  obtain ⟨ya, yc, rfl, _⟩ := hu
  generalize a.length = na at *
  generalize b.length = nb at *
  by_cases h0 : na ≤ 300
  · have h1 : 300 < nb := by omega
    clear h
    go_enter Try.func3, Try.ntmps3
    go_wp2_with fail
    refine Calls.mono (few_yes _ _ _ _ h0) ?_
    rintro e w1 ⟨rfl, hw1⟩
    obtain rfl := hw1.symm
    go_wp2_with fail
    refine Calls.mono (few_no _ _ _ _ h1) ?_
    rintro e w2 ⟨rfl, hw2⟩
    obtain rfl := hw2.symm
    go_wp2_with fail
    refine Calls.mono (lives_any _) ?_
    rintro e wz ⟨rfl, hbz⟩
    go_wp2_with fail
    go_ret
    exact ⟨rfl, hbz⟩
  · have h0 : 300 < na := by omega
    clear h
    go_enter Try.func3, Try.ntmps3
    go_wp2_with fail
    refine Calls.mono (few_no _ _ _ _ h0) ?_
    rintro e w1 ⟨rfl, hw1⟩
    obtain rfl := hw1.symm
    go_wp2_with fail
    refine Calls.mono (lives_any _) ?_
    rintro e wz ⟨rfl, hbz⟩
    go_wp2_with fail
    go_ret
    exact ⟨rfl, hbz⟩

set_option maxRecDepth 1000000 in
set_option maxHeartbeats 4000000 in
theorem walk_small (v u : Value) (a b : List Int) (i : Int) (w : World) (hv : RI w v a) (hu : RI w u b) (h0 : a.length ≤ 300) (h1 : b.length ≤ 300) :
    Calls Try.prog 3 #[v, u, .int .i64 i] w fun e w' => e = .returned (.bool true) ∧ Below w.heap.size w w' := by
  have HA : Hid (∀ wx, Below w.heap.size w wx → RI wx v a) := fun wx h => hv.later h
  have HB : Hid (∀ wx, Below w.heap.size w wx → RI wx u b) := fun wx h => hu.later h
  have HC1 : Hid _ := check_any v a w hv (by omega)
  have HC2 : Hid _ := rcheck_any v a w hv (by omega)
  have HC3 : Hid _ := at_any v a i w hv (by omega)
  have HC4 : Hid _ := rat_any v a i w hv (by omega)
  have HC5 : Hid _ := rank_any v u a b w hv hu (by omega) (by omega)
  have HC6 : Hid (∀ wx, Below w.heap.size w wx → _) := fun wx h => rrank_any v u a b wx (hv.later h) (hu.later h) (by omega) (by omega)
  have HC7 : Hid (∀ wx, Below w.heap.size w wx → _) := fun wx h => join_any v u a b wx (hv.later h) (hu.later h) (by omega) (by omega)
  have HC8 : Hid (∀ wx, Below w.heap.size w wx → _) := fun wx h => rjoin_any v u a b wx (hv.later h) (hu.later h) (by omega) (by omega)
  have hjl : (joinL a b).length ≤ 1000000 := by rw [join_len]; omega
  obtain ⟨xa, xc, rfl, _⟩ := hv
  obtain ⟨ya, yc, rfl, _⟩ := hu
  generalize chkE a = E at *
  generalize atZ a i = z at *
  generalize rankZ a b = r at *
  generalize joinL a b = j at *
  generalize a.length = na at *
  generalize b.length = nb at *
  go_enter Try.func3, Try.ntmps3
  go_wp2_with fail
  refine Calls.mono (few_yes _ _ _ _ h0) ?_
  rintro e w1 ⟨rfl, hw1⟩
  obtain rfl := hw1.symm
  go_wp2_with fail
  refine Calls.mono (few_yes _ _ _ _ h1) ?_
  rintro e w2 ⟨rfl, hw2⟩
  obtain rfl := hw2.symm
  go_wp2_with fail
  refine Calls.mono (HC1.out) ?_
  rintro e w3 ⟨rfl, hw3⟩
  obtain rfl := hw3.symm
  go_wp2_with fail
  refine Calls.mono (HC2.out) ?_
  rintro e w4 ⟨rfl, hw4⟩
  obtain rfl := hw4.symm
  go_wp2_with fail
  refine Calls.mono (HC3.out) ?_
  rintro e w5 ⟨rfl, hw5⟩
  obtain rfl := hw5.symm
  go_wp2_with fail
  refine Calls.mono (HC4.out) ?_
  rintro e w6 ⟨rfl, hw6⟩
  obtain rfl := hw6.symm
  go_wp2_with fail
  refine Calls.mono (HC5.out) ?_
  rintro e w7 ⟨rfl, hb7⟩
  have HB7 : Hid (Below w.heap.size w w7) := hb7
  clear hb7
  go_wp2_with fail
  refine Calls.mono (HC6.out _ HB7.out) ?_
  rintro e w8 ⟨rfl, hw8⟩
  obtain rfl := hw8.symm
  go_wp2_with fail
  refine Calls.mono (HC7.out _ HB7.out) ?_
  rintro e w9 ⟨v9, c9, rfl, hr9, hb9⟩
  have HB9 : Hid (Below w.heap.size w w9) := HB7.out.trans (hb9.mono HB7.out.size)
  have HR9 : Hid (RI w9 (.slice v9 j.length c9) j) := hr9
  clear hr9
  clear hb9
  go_wp2_with fail
  refine Calls.mono (HC8.out _ HB9.out) ?_
  rintro e w10 ⟨v10, c10, rfl, hr10, hb10⟩
  have HB10 : Hid (Below w.heap.size w w10) := HB9.out.trans (hb10.mono HB9.out.size)
  have HR10 : Hid (RI w10 (.slice v10 j.length c10) j) := hr10
  have HQ10 : Hid (RI w10 (.slice v9 j.length c9) j) := HR9.out.later hb10
  clear hr10
  clear hb10
  have HSM : Hid _ := same_any j j _ _ w10 HQ10.out HR10.out hjl hjl
  rw [show decide (j = j) = true from decide_eq_true rfl] at HSM
  go_wp2_with fail
  refine Calls.mono (HSM.out) ?_
  rintro e w11 ⟨rfl, hb11⟩
  have HB11 : Hid (Below w.heap.size w w11) := HB10.out.trans (hb11.mono HB10.out.size)
  clear hb11
  go_wp2_with fail
  refine Calls.mono (lives_any _) ?_
  rintro e w12 ⟨rfl, hb12⟩
  have HB12 : Hid (Below w.heap.size w w12) := HB11.out.trans (hb12.mono HB11.out.size)
  clear hb12
  go_wp2_with fail
  go_ret
  exact ⟨rfl, HB12.out⟩

theorem walk (v : Value) (a : List Int) (u : Value) (b : List Int) (i : Int) (w : World) (hv : RI w v a) (hu : RI w u b) (hi : (Lit.int .i64 i).wf = true) :
    Calls Try.prog 3 #[v, u, .int .i64 i] w fun e w' => e = .returned (.bool true) ∧ Below w.heap.size w w' := by
  by_cases h : a.length ≤ 300 ∧ b.length ≤ 300
  · exact walk_small v u a b i w hv hu h.1 h.2
  · exact walk_big v u a b i w hv hu h

open Go.ChangeShapes Go.WideShapes Go.ChangeAt

theorem own : ownKnob Try.prog.godebug = none := by kernel_rfl
theorem laidOut : laidOutB Try.prog = true := by kernel_rfl

set_option maxRecDepth 100000 in
theorem lifted (os : Os) (started : os.Started) (H : Type) (enc : TypeId × Value → H) :
    ReturnsInHanded {} Try.checked os 3 .any (Rows.stampTellsSpec.pre6 enc Try.prog Try.f3 Rows.stampTellsRow.domain false) (Rows.stampTellsSpec.post enc Try.prog Try.f3 false true false false) := by
  refine returnsInHanded_of_change (C := Try.checked) own started (by kernel_rfl) Try.func3
    (ChangeSpec.witness6 (enc := enc) (C := Try.checked) false ⟨#[], #[.slice none 0 0, .slice none 0 0, .int .i64 0], []⟩ 8 (by kernel_rfl) (by kernel_rfl) (by kernel_rfl) (by kernel_rfl)) ?_
  intro W base args ds gs before hval0 hW hcnd _
  have hval : ∀ (j : Nat) t v, Try.f3.params[j]? = some t → args[j]? = some v → Value.okWide Try.prog W .any base t v := hval0
  have hW' := hW
  obtain ⟨p, q, hA0, hV, rfl, hfz, hnd⟩ := hW
  have hA : DataW.TrodAll enc Try.prog W 0 (fun _ => true) true Try.f3.params.toList args.toList ds p := hA0
  rw [Try.params3] at hA hval
  obtain ⟨v0, vs0, d0, ds0, p0, q0, hargs, rfl, rfl, h0, r0⟩ := trodAll_cons hA
  obtain ⟨v1, vs1, d1, ds1, p1, q1, rfl, rfl, rfl, h1, r1⟩ := trodAll_cons r0
  obtain ⟨v2, vs2, d2, ds2, p2, q2, rfl, rfl, rfl, h2, r2⟩ := trodAll_cons r1
  obtain ⟨rfl, rfl, rfl⟩ := trodAll_nil r2
  obtain rfl : args = #[v0, v1, v2] := by cases args; simp_all
  obtain ⟨rfl, rfl⟩ := trodVars_none hV
  obtain ⟨a2, rfl, rfl, rfl, w2⟩ := open_int Try.underlying3 (hval 2 3 v2 rfl rfl) h2
  obtain ⟨a0, len0, cap0, rfl⟩ := okWide_slice Try.underlying22 (hval 0 22 v0 rfl rfl)
  have k0 := h0
  have lt0 : ∀ x ∈ p0, x.block < W.heap.size := by obtain ⟨m, hm⟩ := k0; exact DataW.trod_lt m _ _ _ hm
  obtain ⟨z0, w0⟩ : ∃ L, RI W (.slice a0 len0 cap0) L := by
    obtain ⟨fuel, hf⟩ := h0
    obtain ⟨v, l, hv, hl⟩ := open_i64s hf
    simp [Value.cells] at hv
    subst hv
    exact ⟨l, hl⟩
  obtain ⟨a1, len1, cap1, rfl⟩ := okWide_slice Try.underlying22 (hval 1 22 v1 rfl rfl)
  have k1 := h1
  have lt1 : ∀ x ∈ p1, x.block < W.heap.size := by obtain ⟨m, hm⟩ := k1; exact DataW.trod_lt m _ _ _ hm
  obtain ⟨z1, w1⟩ : ∃ L, RI W (.slice a1 len1 cap1) L := by
    obtain ⟨fuel, hf⟩ := h1
    obtain ⟨v, l, hv, hl⟩ := open_i64s hf
    simp [Value.cells] at hv
    subst hv
    exact ⟨l, hl⟩
  clear hA0 hval0
  refine (walk (.slice a0 len0 cap0) z0 (.slice a1 len1 cap1) z1 a2 W w0 w1 w2).mono fun e W' ⟨he, bel⟩ => ?_
  subst he
  exact ⟨_, rfl, _, _, _, [], _, [], hW', trodAll_mk1 (shut_bool Try.underlying4 _), (trodAll_cons_mk (Below.trod laidOut (by kernel_rfl) (of_decide_eq_true (by kernel_rfl)) k0 bel lt0) (trodAll_cons_mk (Below.trod laidOut (by kernel_rfl) (of_decide_eq_true (by kernel_rfl)) k1 bel lt1) (trodAll_cons_mk (shut_int Try.underlying3 w2) trodAll_mk0))), rfl, bel.frame _, fun h => by cases h⟩

theorem over : Rows.stampTellsRow.holds Try.pinned (OpenSpec.ofChange Rows.stampTellsSpec) :=
  OpenClaim.holds_of_wide 3 Try.f3 rfl rfl rfl rfl rfl rfl rfl ⟨rfl, rfl, rfl, rfl, rfl⟩ rfl rfl rfl rfl rfl (by kernel_rfl) Try.func3 (by kernel_rfl)
    (of_decide_eq_true (by kernel_rfl)) (by unfold Func.isWrapper; first | (rw [if_pos (by decide +kernel)]; kernel_rfl) | (rw [if_neg (by decide +kernel)]; exact ⟨rfl, rfl⟩))
    (fun os started H enc _ => lifted os started H enc)
end Go.Proofs.Ytjpeefibdpjfaaa.stampTells
namespace Go.Proofs.Ytjpeefibdpjfaaa

theorem stampTells_holds : Rows.StampTellsSaid := stampTells.over
#print axioms stampTells_holds
end Go.Proofs.Ytjpeefibdpjfaaa
