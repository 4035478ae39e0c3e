/- StampTicks: for all counts had and s and every branch i: Tick and Next answer as the document says, and what is handed in stays; proved in full, nothing is asked of the input. -/
import Derived.Test.YtjpeefibdpjfaaaRows
import Derived.Test.YtjpeefibdpjfaaaSj
import Derived.ProofKit
import Derived.OpenShut
import Derived.ShutString
import Derived.ChangeOld
namespace Go.Proofs.Ytjpeefibdpjfaaa.stampTicks
open Go.RowKit
set_option linter.unusedVariables false

set_option maxRecDepth 1000000 in
set_option maxHeartbeats 4000000 in
theorem walk_big (v u : Value) (a b : List Int) (i : Int) (w : World) (hv : RI w v a) (hu : RI w u b) (h : ¬ (a.length ≤ 300 ∧ b.length ≤ 300)) :
    Calls Try.prog 4 #[v, u, .int .i64 i] w fun e w' => e = .returned (.bool true) ∧ Below w.heap.size w w' := by
  obtain ⟨xa, xc, rfl, _⟩ := hv
  obtain ⟨ya, yc, rfl, _⟩ := hu
  generalize a.length = na at *
  generalize b.length = nb at *
  by_cases h0 : na ≤ 300
  · have h1 : 300 < nb := by omega
    clear h
    go_enter Try.func4, Try.ntmps4
    go_wp2_with fail
    refine Calls.mono (few_yes _ _ _ _ h0) ?_
    rintro e w1 ⟨rfl, hw1⟩
    obtain rfl := hw1.symm
    go_wp2_with fail
    refine Calls.mono (few_no _ _ _ _ h1) ?_
    rintro e w2 ⟨rfl, hw2⟩
    obtain rfl := hw2.symm
    go_wp2_with fail
    refine Calls.mono (lives_any _) ?_
    rintro e wz ⟨rfl, hbz⟩
    go_wp2_with fail
    go_ret
    exact ⟨rfl, hbz⟩
  · have h0 : 300 < na := by omega
    clear h
    go_enter Try.func4, Try.ntmps4
    go_wp2_with fail
    refine Calls.mono (few_no _ _ _ _ h0) ?_
    rintro e w1 ⟨rfl, hw1⟩
    obtain rfl := hw1.symm
    go_wp2_with fail
    refine Calls.mono (lives_any _) ?_
    rintro e wz ⟨rfl, hbz⟩
    go_wp2_with fail
    go_ret
    exact ⟨rfl, hbz⟩

set_option maxRecDepth 1000000 in
set_option maxHeartbeats 4000000 in
theorem walk_small (v u : Value) (a b : List Int) (i : Int) (w : World) (hv : RI w v a) (hu : RI w u b) (hnil : ∀ k c, u = .slice none k c → c = 0) (h0 : a.length ≤ 300) (h1 : b.length ≤ 300) :
    Calls Try.prog 4 #[v, u, .int .i64 i] w fun e w' => e = .returned (.bool true) ∧ Below w.heap.size w w' := by
  have HU : Hid (RI w u b) := hu
  have HNL : Hid _ := hnil
  have HT2 : Hid (∀ wx, Below w.heap.size w wx → _) := fun wx h => rtick_any u b i wx (hu.later h) (by omega)
  have HN1 : Hid (∀ wx, Below w.heap.size w wx → _) := fun wx h => next_any v u a b i wx (hv.later h) (hu.later h) (by omega) (by omega)
  have HN2 : Hid (∀ wx, Below w.heap.size w wx → _) := fun wx h => rnext_any v u a b i wx (hv.later h) (hu.later h) (by omega) (by omega)
  have HT1 : Hid (∀ (wx : World) (x : Value), RI wx x b → _) := fun wx x h => tick_any x b i wx h (by omega)
  have hjl : (tickL b i).length ≤ 1000000 := by
    unfold tickL
    split
    · rw [List.length_set]; omega
    · simp
  have HB1 : Hid (Below w.heap.size w (w.alloc (.cells #[] 3))) := (Below.refl _ _).alloc (Nat.le_refl _) _
  have HO1 : Hid (OI w.heap.size (w.alloc (.cells #[] 3)) w.heap.size 0 0 []) := OI.made w
  have HL : Hid (b.length ≤ 1000000) := by show _ ≤ _; omega
  obtain ⟨xa, xc, rfl, _⟩ := hv
  obtain ⟨ya, yc, rfl, _⟩ := hu
  clear hnil
  generalize tickL b i = L at *
  generalize tickE b i = E at *
  generalize nxB a b i = x at *
  generalize a.length = na at *
  go_enter Try.func4, Try.ntmps4
  go_wp2_with fail
  refine Calls.mono (few_yes _ _ _ _ h0) ?_
  rintro e w1 ⟨rfl, hw1⟩
  obtain rfl := hw1.symm
  go_wp2_with fail
  refine Calls.mono (few_yes _ _ _ _ h1) ?_
  rintro e w2 ⟨rfl, hw2⟩
  obtain rfl := hw2.symm
  go_wp2_with (first
    | (at_builtin; refine append_ints rfl _ _ rfl w.heap.size w.heap.size 0 0 [] rfl HO1.out _ b rfl (HU.out.later HB1.out) HNL.out (by omega) HL.out (by simp) b.length b (by omega) rfl ?_; intro g3 c3 w3 ho3 hg3; have HO3 : Hid (OI w.heap.size w3 g3 b.length c3 b) := ho3; have HB3 : Hid (Below w.heap.size w w3) := HB1.out.trans (HO1.out.below (by simp) hg3); clear ho3 hg3))
  have HT3 : Hid _ := HT1.out w3 _ HO3.out.ri.2
  refine Calls.mono HT3.out ?_
  rintro e w4 ⟨v4, c4, rfl, hr4, hb4⟩
  have HB4 : Hid (Below w.heap.size w w4) := HB3.out.trans (hb4.mono HB3.out.size)
  have HR4 : Hid (RI w4 (.slice v4 L.length c4) L) := hr4
  have HW4 : Hid (RI w4 (.slice (some ⟨g3, 0, none⟩) b.length c3) b) := HO3.out.ri.2.later hb4
  clear hr4 hb4 HT3
  go_wp2_with fail
  refine Calls.mono (HT2.out _ HB4.out) ?_
  rintro e w5 ⟨v5, c5, rfl, hr5, hb5⟩
  have HB5 : Hid (Below w.heap.size w w5) := HB4.out.trans (hb5.mono HB4.out.size)
  have HR5 : Hid (RI w5 (.slice v5 L.length c5) L) := hr5
  have HQ5 : Hid (RI w5 (.slice v4 L.length c4) L) := HR4.out.later hb5
  have HW5 : Hid (RI w5 (.slice (some ⟨g3, 0, none⟩) b.length c3) b) := HW4.out.later hb5
  clear hr5
  clear hb5
  have HSM : Hid _ := same_any L L _ _ w5 HQ5.out HR5.out hjl hjl
  rw [show decide (L = L) = true from decide_eq_true rfl] at HSM
  go_wp2_with fail
  refine Calls.mono (HSM.out) ?_
  rintro e w6 ⟨rfl, hb6⟩
  have HB6 : Hid (Below w.heap.size w w6) := HB5.out.trans (hb6.mono HB5.out.size)
  have HW6 : Hid (RI w6 (.slice (some ⟨g3, 0, none⟩) b.length c3) b) := HW5.out.later hb6
  clear hb6
  have HSN : Hid _ := same_any b b _ _ w6 HW6.out (HU.out.later HB6.out) HL.out HL.out
  rw [show decide (b = b) = true from decide_eq_true rfl] at HSN
  go_wp2_with fail
  refine Calls.mono (HSN.out) ?_
  rintro e w7 ⟨rfl, hb7⟩
  have HB7 : Hid (Below w.heap.size w w7) := HB6.out.trans (hb7.mono HB6.out.size)
  clear hb7
  go_wp2_with fail
  refine Calls.mono (HN1.out _ HB7.out) ?_
  rintro e w8 ⟨rfl, hb8⟩
  have HB8 : Hid (Below w.heap.size w w8) := HB7.out.trans (hb8.mono HB7.out.size)
  clear hb8
  go_wp2_with fail
  refine Calls.mono (HN2.out _ HB8.out) ?_
  rintro e w9 ⟨rfl, hb9⟩
  have HB9 : Hid (Below w.heap.size w w9) := HB8.out.trans (hb9.mono HB8.out.size)
  clear hb9
  go_wp2_with fail
  refine Calls.mono (lives_any _) ?_
  rintro e w10 ⟨rfl, hb10⟩
  have HB10 : Hid (Below w.heap.size w w10) := HB9.out.trans (hb10.mono HB9.out.size)
  clear hb10
  go_wp2_with fail
  go_ret
  exact ⟨rfl, HB10.out⟩

theorem walk (v : Value) (a : List Int) (u : Value) (b : List Int) (i : Int) (w : World) (hv : RI w v a) (hu : RI w u b) (hnil : ∀ k c, u = .slice none k c → c = 0) (hi : (Lit.int .i64 i).wf = true) :
    Calls Try.prog 4 #[v, u, .int .i64 i] w fun e w' => e = .returned (.bool true) ∧ Below w.heap.size w w' := by
  by_cases h : a.length ≤ 300 ∧ b.length ≤ 300
  · exact walk_small v u a b i w hv hu hnil h.1 h.2
  · exact walk_big v u a b i w hv hu h

open Go.ChangeShapes Go.WideShapes Go.ChangeAt

theorem own : ownKnob Try.prog.godebug = none := by kernel_rfl
theorem laidOut : laidOutB Try.prog = true := by kernel_rfl

set_option maxRecDepth 100000 in
theorem lifted (os : Os) (started : os.Started) (H : Type) (enc : TypeId × Value → H) :
    ReturnsInHanded {} Try.checked os 4 .any (Rows.stampTicksSpec.pre6 enc Try.prog Try.f4 Rows.stampTicksRow.domain false) (Rows.stampTicksSpec.post enc Try.prog Try.f4 false true false false) := by
  refine returnsInHanded_of_change (C := Try.checked) own started (by kernel_rfl) Try.func4
    (ChangeSpec.witness6 (enc := enc) (C := Try.checked) false ⟨#[], #[.slice none 0 0, .slice none 0 0, .int .i64 0], []⟩ 8 (by kernel_rfl) (by kernel_rfl) (by kernel_rfl) (by kernel_rfl)) ?_
  intro W base args ds gs before hval0 hW hcnd _
  have hval : ∀ (j : Nat) t v, Try.f4.params[j]? = some t → args[j]? = some v → Value.okWide Try.prog W .any base t v := hval0
  have hW' := hW
  obtain ⟨p, q, hA0, hV, rfl, hfz, hnd⟩ := hW
  have hA : DataW.TrodAll enc Try.prog W 0 (fun _ => true) true Try.f4.params.toList args.toList ds p := hA0
  rw [Try.params4] at hA hval
  obtain ⟨v0, vs0, d0, ds0, p0, q0, hargs, rfl, rfl, h0, r0⟩ := trodAll_cons hA
  obtain ⟨v1, vs1, d1, ds1, p1, q1, rfl, rfl, rfl, h1, r1⟩ := trodAll_cons r0
  obtain ⟨v2, vs2, d2, ds2, p2, q2, rfl, rfl, rfl, h2, r2⟩ := trodAll_cons r1
  obtain ⟨rfl, rfl, rfl⟩ := trodAll_nil r2
  obtain rfl : args = #[v0, v1, v2] := by cases args; simp_all
  obtain ⟨rfl, rfl⟩ := trodVars_none hV
  obtain ⟨a2, rfl, rfl, rfl, w2⟩ := open_int Try.underlying3 (hval 2 3 v2 rfl rfl) h2
  obtain ⟨a0, len0, cap0, rfl⟩ := okWide_slice Try.underlying22 (hval 0 22 v0 rfl rfl)
  have k0 := h0
  have lt0 : ∀ x ∈ p0, x.block < W.heap.size := by obtain ⟨m, hm⟩ := k0; exact DataW.trod_lt m _ _ _ hm
  obtain ⟨z0, w0⟩ : ∃ L, RI W (.slice a0 len0 cap0) L := by
    obtain ⟨fuel, hf⟩ := h0
    obtain ⟨v, l, hv, hl⟩ := open_i64s hf
    simp [Value.cells] at hv
    subst hv
    exact ⟨l, hl⟩
  obtain ⟨a1, len1, cap1, rfl⟩ := okWide_slice Try.underlying22 (hval 1 22 v1 rfl rfl)
  have k1 := h1
  have lt1 : ∀ x ∈ p1, x.block < W.heap.size := by obtain ⟨m, hm⟩ := k1; exact DataW.trod_lt m _ _ _ hm
  obtain ⟨z1, w1, n1⟩ : ∃ L, RI W (.slice a1 len1 cap1) L ∧ ∀ k c, Value.slice a1 len1 cap1 = .slice none k c → c = 0 := by
    obtain ⟨fuel, hf⟩ := h1
    obtain ⟨v, l, hv, hl, hn⟩ := open_i64n hf
    simp [Value.cells] at hv
    subst hv
    exact ⟨l, hl, hn⟩
  clear hA0 hval0
  refine (walk (.slice a0 len0 cap0) z0 (.slice a1 len1 cap1) z1 a2 W w0 w1 n1 w2).mono fun e W' ⟨he, bel⟩ => ?_
  subst he
  exact ⟨_, rfl, _, _, _, [], _, [], hW', trodAll_mk1 (shut_bool Try.underlying4 _), (trodAll_cons_mk (Below.trod laidOut (by kernel_rfl) (of_decide_eq_true (by kernel_rfl)) k0 bel lt0) (trodAll_cons_mk (Below.trod laidOut (by kernel_rfl) (of_decide_eq_true (by kernel_rfl)) k1 bel lt1) (trodAll_cons_mk (shut_int Try.underlying3 w2) trodAll_mk0))), rfl, bel.frame _, fun h => by cases h⟩

theorem over : Rows.stampTicksRow.holds Try.pinned (OpenSpec.ofChange Rows.stampTicksSpec) :=
  OpenClaim.holds_of_wide 4 Try.f4 rfl rfl rfl rfl rfl rfl rfl ⟨rfl, rfl, rfl, rfl, rfl⟩ rfl rfl rfl rfl rfl (by kernel_rfl) Try.func4 (by kernel_rfl)
    (of_decide_eq_true (by kernel_rfl)) (by unfold Func.isWrapper; first | (rw [if_pos (by decide +kernel)]; kernel_rfl) | (rw [if_neg (by decide +kernel)]; exact ⟨rfl, rfl⟩))
    (fun os started H enc _ => lifted os started H enc)
end Go.Proofs.Ytjpeefibdpjfaaa.stampTicks
namespace Go.Proofs.Ytjpeefibdpjfaaa

theorem stampTicks_holds : Rows.StampTicksSaid := stampTicks.over
#print axioms stampTicks_holds
end Go.Proofs.Ytjpeefibdpjfaaa
