/- StampTicked: for all counts l and branches i and k: a stamp is Before itself ticked, which is next to it of that branch alone; proved in full, nothing is asked of the input. -/
import Derived.Test.YtjpeefibdpjfaaaRows
import Derived.Test.YtjpeefibdpjfaaaSj
import Derived.ProofKit
import Derived.OpenShut
import Derived.ShutString
import Derived.ChangeOld
namespace Go.Proofs.Ytjpeefibdpjfaaa.stampTicked
open Go.RowKit
set_option linter.unusedVariables false

set_option maxRecDepth 1000000 in
set_option maxHeartbeats 4000000 in
theorem walk_big (v : Value) (l : List Int) (i k : Int) (w : World) (hv : RI w v l) (h0 : 300 < l.length) :
    Calls Try.prog 8 #[v, .int .i64 i, .int .i64 k] w fun e w' => e = .returned (.bool true) ∧ Below w.heap.size w w' := by
  obtain ⟨xa, xc, rfl, _⟩ := hv
  generalize l.length = n at *
  go_enter Try.func8, Try.ntmps8
  go_wp2_with fail
  refine Calls.mono (few_no _ _ _ _ h0) ?_
  rintro e w1 ⟨rfl, hw1⟩
  obtain rfl := hw1.symm
  go_wp2_with fail
  refine Calls.mono (lives_any _) ?_
  rintro e wz ⟨rfl, hbz⟩
  go_wp2_with fail
  go_ret
  exact ⟨rfl, hbz⟩

set_option maxRecDepth 1000000 in
set_option maxHeartbeats 4000000 in
theorem walk_no (v : Value) (l : List Int) (i k : Int) (w : World) (hv : RI w v l) (h0 : l.length ≤ 300) (hc : canT l i = false) :
    Calls Try.prog 8 #[v, .int .i64 i, .int .i64 k] w fun e w' => e = .returned (.bool true) ∧ Below w.heap.size w w' := by
  have HT : Hid (Calls Try.prog 20 #[v, .int .i64 i] w fun e w' => TickC [] 2 w.heap.size w e w') := by
    have := tick_any v l i w hv (by omega)
    unfold tickL tickE at this
    rw [hc] at this
    exact this
  clear hc
  obtain ⟨xa, xc, rfl, _⟩ := hv
  generalize l.length = n at *
  go_enter Try.func8, Try.ntmps8
  go_wp2_with fail
  refine Calls.mono (few_yes _ _ _ _ h0) ?_
  rintro e w1 ⟨rfl, hw1⟩
  obtain rfl := hw1.symm
  go_wp2_with fail
  refine Calls.mono (HT.out) ?_
  rintro e w2 ⟨v2, c2, rfl, hr2, hb2⟩
  have HB2 : Hid (Below w.heap.size w w2) := hb2
  clear hr2
  clear hb2
  go_wp2_with fail
  refine Calls.mono (lives_any _) ?_
  rintro e w3 ⟨rfl, hb3⟩
  have HB3 : Hid (Below w.heap.size w w3) := HB2.out.trans (hb3.mono HB2.out.size)
  clear hb3
  go_wp2_with fail
  go_ret
  exact ⟨rfl, HB3.out⟩

set_option maxRecDepth 1000000 in
set_option maxHeartbeats 4000000 in
theorem walk_eq2 (xa : Option Addr) (n xc : Nat) (i k : Int) (L : List Int) (w : World) (h0 : n ≤ 300) (hk : k = i)
    (HT : Hid (Calls Try.prog 20 #[.slice xa n xc, .int .i64 i] w fun e w' => TickC L 0 w.heap.size w e w'))
    (HK : Hid (∀ (wx : World) (u : Value), Below w.heap.size w wx → RI wx u L → Calls Try.prog 15 #[.slice xa n xc, u] wx fun e w' => e = .returned (.int .i64 1) ∧ Below wx.heap.size wx w'))
    (HN : Hid (∀ (wx : World) (u : Value), Below w.heap.size w wx → RI wx u L → Calls Try.prog 22 #[.slice xa n xc, u, .int .i64 i] wx fun e w' => e = .returned (.bool true) ∧ Below wx.heap.size wx w')) :
    Calls Try.prog 8 #[.slice xa n xc, .int .i64 i, .int .i64 k] w fun e w' => e = .returned (.bool true) ∧ Below w.heap.size w w' := by
  subst hk
  go_enter Try.func8, Try.ntmps8
  go_wp2_with fail
  refine Calls.mono (few_yes _ _ _ _ h0) ?_
  rintro e w1 ⟨rfl, hw1⟩
  obtain rfl := hw1.symm
  go_wp2_with fail
  refine Calls.mono (HT.out) ?_
  rintro e w2 ⟨v2, c2, rfl, hr2, hb2⟩
  have HB2 : Hid (Below w.heap.size w w2) := hb2
  have HR2 : Hid (RI w2 (.slice v2 L.length c2) L) := hr2
  clear hr2
  clear hb2
  go_wp2_with fail
  refine Calls.mono (HK.out _ _ HB2.out HR2.out) ?_
  rintro e w3 ⟨rfl, hb3⟩
  have HB3 : Hid (Below w.heap.size w w3) := HB2.out.trans (hb3.mono HB2.out.size)
  have HR3 : Hid (RI w3 (.slice v2 L.length c2) L) := HR2.out.later hb3
  clear hb3
  go_wp2_with fail
  refine Calls.mono (HN.out _ _ HB3.out HR3.out) ?_
  rintro e w4 ⟨rfl, hb4⟩
  have HB4 : Hid (Below w.heap.size w w4) := HB3.out.trans (hb4.mono HB3.out.size)
  have HR4 : Hid (RI w4 (.slice v2 L.length c2) L) := HR3.out.later hb4
  clear hb4
  go_wp2_with fail
  refine Calls.mono (lives_any _) ?_
  rintro e w5 ⟨rfl, hb5⟩
  have HB5 : Hid (Below w.heap.size w w5) := HB4.out.trans (hb5.mono HB4.out.size)
  clear hb5
  go_wp2_with fail
  go_ret
  exact ⟨rfl, HB5.out⟩

set_option maxRecDepth 1000000 in
set_option maxHeartbeats 4000000 in
theorem walk_ne (xa : Option Addr) (n xc : Nat) (i k : Int) (L : List Int) (w : World) (h0 : n ≤ 300) (hk : (k == i) = false)
    (HT : Hid (Calls Try.prog 20 #[.slice xa n xc, .int .i64 i] w fun e w' => TickC L 0 w.heap.size w e w'))
    (HK : Hid (∀ (wx : World) (u : Value), Below w.heap.size w wx → RI wx u L → Calls Try.prog 15 #[.slice xa n xc, u] wx fun e w' => e = .returned (.int .i64 1) ∧ Below wx.heap.size wx w'))
    (HN : Hid (∀ (wx : World) (u : Value), Below w.heap.size w wx → RI wx u L → Calls Try.prog 22 #[.slice xa n xc, u, .int .i64 i] wx fun e w' => e = .returned (.bool true) ∧ Below wx.heap.size wx w'))
    (HO : Hid (∀ (wx : World) (u : Value), Below w.heap.size w wx → RI wx u L → Calls Try.prog 22 #[.slice xa n xc, u, .int .i64 k] wx fun e w' => e = .returned (.bool false) ∧ Below wx.heap.size wx w')) :
    Calls Try.prog 8 #[.slice xa n xc, .int .i64 i, .int .i64 k] w fun e w' => e = .returned (.bool true) ∧ Below w.heap.size w w' := by
  go_enter Try.func8, Try.ntmps8
  go_wp2_with fail
  refine Calls.mono (few_yes _ _ _ _ h0) ?_
  rintro e w1 ⟨rfl, hw1⟩
  obtain rfl := hw1.symm
  go_wp2_with fail
  refine Calls.mono (HT.out) ?_
  rintro e w2 ⟨v2, c2, rfl, hr2, hb2⟩
  have HB2 : Hid (Below w.heap.size w w2) := hb2
  have HR2 : Hid (RI w2 (.slice v2 L.length c2) L) := hr2
  clear hr2
  clear hb2
  go_wp2_with fail
  refine Calls.mono (HK.out _ _ HB2.out HR2.out) ?_
  rintro e w3 ⟨rfl, hb3⟩
  have HB3 : Hid (Below w.heap.size w w3) := HB2.out.trans (hb3.mono HB2.out.size)
  have HR3 : Hid (RI w3 (.slice v2 L.length c2) L) := HR2.out.later hb3
  clear hb3
  go_wp2_with fail
  refine Calls.mono (HN.out _ _ HB3.out HR3.out) ?_
  rintro e w4 ⟨rfl, hb4⟩
  have HB4 : Hid (Below w.heap.size w w4) := HB3.out.trans (hb4.mono HB3.out.size)
  have HR4 : Hid (RI w4 (.slice v2 L.length c2) L) := HR3.out.later hb4
  clear hb4
  go_wp2_with fail
  refine Calls.mono (HO.out _ _ HB4.out HR4.out) ?_
  rintro e w5 ⟨rfl, hb5⟩
  have HB5 : Hid (Below w.heap.size w w5) := HB4.out.trans (hb5.mono HB4.out.size)
  clear hb5
  go_wp2_with fail
  refine Calls.mono (lives_any _) ?_
  rintro e w6 ⟨rfl, hb6⟩
  have HB6 : Hid (Below w.heap.size w w6) := HB5.out.trans (hb6.mono HB5.out.size)
  clear hb6
  go_wp2_with fail
  go_ret
  exact ⟨rfl, HB6.out⟩

theorem walk (v : Value) (l : List Int) (i k : Int) (w : World) (hv : RI w v l) (hi : (Lit.int .i64 i).wf = true) (hk : (Lit.int .i64 k).wf = true) :
    Calls Try.prog 8 #[v, .int .i64 i, .int .i64 k] w fun e w' => e = .returned (.bool true) ∧ Below w.heap.size w w' := by
  by_cases h0 : l.length ≤ 300
  · cases hc : canT l i with
    | false => exact walk_no v l i k w hv h0 hc
    | true =>
      obtain ⟨f1, f2, f3⟩ := tick_facts hc
      have HT : Calls Try.prog 20 #[v, .int .i64 i] w fun e w' => TickC (tickL l i) 0 w.heap.size w e w' := by
        have := tick_any v l i w hv (by omega)
        rw [show tickE l i = 0 by unfold tickE; rw [if_pos hc]] at this
        exact this
      have hLn : (tickL l i).length ≤ 1000000 := by unfold tickL; rw [if_pos hc, List.length_set]; omega
      have HK : ∀ (wx : World) (u : Value), Below w.heap.size w wx → RI wx u (tickL l i) → Calls Try.prog 15 #[v, u] wx fun e w' => e = .returned (.int .i64 1) ∧ Below wx.heap.size wx w' := fun wx u h hu => by
        have := rank_any v u l (tickL l i) wx (hv.later h) hu (by omega) hLn
        rw [f1] at this
        exact this
      have HN : ∀ (wx : World) (u : Value), Below w.heap.size w wx → RI wx u (tickL l i) → Calls Try.prog 22 #[v, u, .int .i64 i] wx fun e w' => e = .returned (.bool true) ∧ Below wx.heap.size wx w' := fun wx u h hu => by
        have := next_any v u l (tickL l i) i wx (hv.later h) hu (by omega) hLn
        rw [f2] at this
        exact this
      have HO : k ≠ i → ∀ (wx : World) (u : Value), Below w.heap.size w wx → RI wx u (tickL l i) → Calls Try.prog 22 #[v, u, .int .i64 k] wx fun e w' => e = .returned (.bool false) ∧ Below wx.heap.size wx w' := fun hki wx u h hu => by
        have := next_any v u l (tickL l i) k wx (hv.later h) hu (by omega) hLn
        rw [f3 k hki] at this
        exact this
      generalize tickL l i = L at *
      obtain ⟨xa, xc, rfl, _⟩ := hv
      generalize l.length = n at *
      by_cases hki : k = i
      · exact walk_eq2 xa n xc i k L w h0 hki HT HK HN
      · exact walk_ne xa n xc i k L w h0 (by simpa using hki) HT HK HN (HO hki)
  · exact walk_big v l i k w hv (by omega)

open Go.ChangeShapes Go.WideShapes Go.ChangeAt

theorem own : ownKnob Try.prog.godebug = none := by kernel_rfl
theorem laidOut : laidOutB Try.prog = true := by kernel_rfl

set_option maxRecDepth 100000 in
theorem lifted (os : Os) (started : os.Started) (H : Type) (enc : TypeId × Value → H) :
    ReturnsInHanded {} Try.checked os 8 .any (Rows.stampTickedSpec.pre6 enc Try.prog Try.f8 Rows.stampTickedRow.domain false) (Rows.stampTickedSpec.post enc Try.prog Try.f8 false true false false) := by
  refine returnsInHanded_of_change (C := Try.checked) own started (by kernel_rfl) Try.func8
    (ChangeSpec.witness6 (enc := enc) (C := Try.checked) false ⟨#[], #[.slice none 0 0, .int .i64 0, .int .i64 0], []⟩ 8 (by kernel_rfl) (by kernel_rfl) (by kernel_rfl) (by kernel_rfl)) ?_
  intro W base args ds gs before hval0 hW hcnd _
  have hval : ∀ (j : Nat) t v, Try.f8.params[j]? = some t → args[j]? = some v → Value.okWide Try.prog W .any base t v := hval0
  have hW' := hW
  obtain ⟨p, q, hA0, hV, rfl, hfz, hnd⟩ := hW
  have hA : DataW.TrodAll enc Try.prog W 0 (fun _ => true) true Try.f8.params.toList args.toList ds p := hA0
  rw [Try.params8] at hA hval
  obtain ⟨v0, vs0, d0, ds0, p0, q0, hargs, rfl, rfl, h0, r0⟩ := trodAll_cons hA
  obtain ⟨v1, vs1, d1, ds1, p1, q1, rfl, rfl, rfl, h1, r1⟩ := trodAll_cons r0
  obtain ⟨v2, vs2, d2, ds2, p2, q2, rfl, rfl, rfl, h2, r2⟩ := trodAll_cons r1
  obtain ⟨rfl, rfl, rfl⟩ := trodAll_nil r2
  obtain rfl : args = #[v0, v1, v2] := by cases args; simp_all
  obtain ⟨rfl, rfl⟩ := trodVars_none hV
  obtain ⟨a1, rfl, rfl, rfl, w1⟩ := open_int Try.underlying3 (hval 1 3 v1 rfl rfl) h1
  obtain ⟨a2, rfl, rfl, rfl, w2⟩ := open_int Try.underlying3 (hval 2 3 v2 rfl rfl) h2
  obtain ⟨a0, len0, cap0, rfl⟩ := okWide_slice Try.underlying22 (hval 0 22 v0 rfl rfl)
  have k0 := h0
  have lt0 : ∀ x ∈ p0, x.block < W.heap.size := by obtain ⟨m, hm⟩ := k0; exact DataW.trod_lt m _ _ _ hm
  obtain ⟨z0, w0⟩ : ∃ L, RI W (.slice a0 len0 cap0) L := by
    obtain ⟨fuel, hf⟩ := h0
    obtain ⟨v, l, hv, hl⟩ := open_i64s hf
    simp [Value.cells] at hv
    subst hv
    exact ⟨l, hl⟩
  clear hA0 hval0
  refine (walk (.slice a0 len0 cap0) z0 a1 a2 W w0 w1 w2).mono fun e W' ⟨he, bel⟩ => ?_
  subst he
  exact ⟨_, rfl, _, _, _, [], _, [], hW', trodAll_mk1 (shut_bool Try.underlying4 _), (trodAll_cons_mk (Below.trod laidOut (by kernel_rfl) (of_decide_eq_true (by kernel_rfl)) k0 bel lt0) (trodAll_cons_mk (shut_int Try.underlying3 w1) (trodAll_cons_mk (shut_int Try.underlying3 w2) trodAll_mk0))), rfl, bel.frame _, fun h => by cases h⟩

theorem over : Rows.stampTickedRow.holds Try.pinned (OpenSpec.ofChange Rows.stampTickedSpec) :=
  OpenClaim.holds_of_wide 8 Try.f8 rfl rfl rfl rfl rfl rfl rfl ⟨rfl, rfl, rfl, rfl, rfl⟩ rfl rfl rfl rfl rfl (by kernel_rfl) Try.func8 (by kernel_rfl)
    (of_decide_eq_true (by kernel_rfl)) (by unfold Func.isWrapper; first | (rw [if_pos (by decide +kernel)]; kernel_rfl) | (rw [if_neg (by decide +kernel)]; exact ⟨rfl, rfl⟩))
    (fun os started H enc _ => lifted os started H enc)
end Go.Proofs.Ytjpeefibdpjfaaa.stampTicked
namespace Go.Proofs.Ytjpeefibdpjfaaa

theorem stampTicked_holds : Rows.StampTickedSaid := stampTicked.over
#print axioms stampTicked_holds
end Go.Proofs.Ytjpeefibdpjfaaa
