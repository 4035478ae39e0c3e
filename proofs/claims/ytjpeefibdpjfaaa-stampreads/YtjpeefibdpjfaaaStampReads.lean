/- StampReads: for all bytes out, counts l, bytes b and every place: Bytes and Read answer as the document says; proved in full, nothing is asked of the input. -/
import Derived.Test.YtjpeefibdpjfaaaRows
import Derived.Test.YtjpeefibdpjfaaaSj
import Derived.Test.YtjpeefibdpjfaaaSg
import Derived.ProofKit
import Derived.OpenShut
import Derived.ShutString
import Derived.ChangeOld
namespace Go.Proofs.Ytjpeefibdpjfaaa.stampReads
open Go.RowKit
set_option linter.unusedVariables false

set_option maxRecDepth 1000000 in
set_option maxHeartbeats 4000000 in
theorem walk_big (x y z : Value) (o : List UInt8) (l : List Int) (b : List UInt8) (p : Int) (w : World) (hx : RB w x o) (hy : RI w y l) (hz : RB w z b) (h : ¬ (o.length ≤ 1000 ∧ l.length ≤ 300 ∧ b.length ≤ 3000)) :
    Calls Try.prog 5 #[x, y, z, .int .i64 p] w fun e w' => e = .returned (.bool true) ∧ Below w.heap.size w w' := by
  obtain ⟨xa, xc, rfl, _⟩ := hx
  obtain ⟨ya, yc, rfl, _⟩ := hy
  obtain ⟨za, zc, rfl, _⟩ := hz
  generalize o.length = no at *
  generalize l.length = nl at *
  generalize b.length = nb at *
  by_cases g0 : no ≤ 1000
  · by_cases h0 : nl ≤ 300
    · have g1 : 3000 < nb := by omega
      clear h
      go_enter Try.func5, Try.ntmps5
      go_wp2_with fail
      refine Calls.mono (few_yes _ _ _ _ h0) ?_
      rintro e w1 ⟨rfl, hw1⟩
      obtain rfl := hw1.symm
      go_wp2_with fail
      refine Calls.mono (lives_any _) ?_
      rintro e wz ⟨rfl, hbz⟩
      go_wp2_with fail
      go_ret
      exact ⟨rfl, hbz⟩
    · have h0 : 300 < nl := by omega
      clear h
      go_enter Try.func5, Try.ntmps5
      go_wp2_with fail
      refine Calls.mono (few_no _ _ _ _ h0) ?_
      rintro e w1 ⟨rfl, hw1⟩
      obtain rfl := hw1.symm
      go_wp2_with fail
      refine Calls.mono (lives_any _) ?_
      rintro e wz ⟨rfl, hbz⟩
      go_wp2_with fail
      go_ret
      exact ⟨rfl, hbz⟩
  · have g0 : 1000 < no := by omega
    clear h
    go_enter Try.func5, Try.ntmps5
    go_wp2_with fail
    refine Calls.mono (lives_any _) ?_
    rintro e wz ⟨rfl, hbz⟩
    go_wp2_with fail
    go_ret
    exact ⟨rfl, hbz⟩

set_option maxRecDepth 1000000 in
set_option maxHeartbeats 4000000 in
theorem walk_small (x y z : Value) (o : List UInt8) (l : List Int) (b : List UInt8) (p : Int) (w : World) (hx : RB w x o) (hy : RI w y l) (hz : RB w z b) (g0 : o.length ≤ 1000) (h0 : l.length ≤ 300) (g1 : b.length ≤ 3000) :
    Calls Try.prog 5 #[x, y, z, .int .i64 p] w fun e w' => e = .returned (.bool true) ∧ Below w.heap.size w w' := by
  have HX : Hid (RB w x o) := hx
  have HZ : Hid (RB w z b) := hz
  have HP1 : Hid _ := bytes_any x y o l w hx hy (by omega) (by omega)
  have HP2 : Hid (∀ wx, Below w.heap.size w wx → _) := fun wx h => rbytes_any o y l wx (hy.later h) (by omega) (by omega)
  have HR1 : Hid (∀ wx, Below w.heap.size w wx → _) := fun wx h => read_any z b p wx (hz.later h) (by omega)
  have HR2 : Hid (∀ wx : World, _) := fun wx => rread_any b p wx (by omega)
  have hrl : (readP b p).1.length ≤ 1000000 := by
    have := list_small b p
    unfold readP
    split
    · split
      · exact this
      · simp
    · simp
  obtain ⟨xa, xc, rfl, _⟩ := hx
  obtain ⟨ya, yc, rfl, _⟩ := hy
  obtain ⟨za, zc, rfl, _⟩ := hz
  unfold ListC at HR1 HR2
  generalize bytR o l = S at *
  generalize chkE l = E at *
  generalize readP b p = r at *
  obtain ⟨ns, m, F⟩ := r
  dsimp only at *
  generalize l.length = nl at *
  go_enter Try.func5, Try.ntmps5
  go_wp2_with fail
  refine Calls.mono (few_yes _ _ _ _ h0) ?_
  rintro e w1 ⟨rfl, hw1⟩
  obtain rfl := hw1.symm
  go_wp2_with fail
  refine Calls.mono (HP1.out) ?_
  rintro e w2 ⟨v2, c2, rfl, hr2, hb2⟩
  have HB2 : Hid (Below w.heap.size w w2) := hb2
  have HS2 : Hid (RB w2 (.slice v2 S.length c2) S) := hr2
  have hcv := string_of_RB (HX.out.later HB2.out)
  clear hr2
  clear hb2
  go_wp2_with fail
  refine Calls.mono (HP2.out _ HB2.out) ?_
  rintro e w3 ⟨rfl, hb3⟩
  have HB3 : Hid (Below w.heap.size w w3) := HB2.out.trans (hb3.mono HB2.out.size)
  have HS3 : Hid (RB w3 (.slice v2 S.length c2) S) := HS2.out.later hb3
  clear hcv
  clear hb3
  go_wp2_with fail
  refine Calls.mono (HR1.out _ HB3.out) ?_
  rintro e w4 ⟨v4, c4, rfl, hr4, hb4⟩
  have HB4 : Hid (Below w.heap.size w w4) := HB3.out.trans (hb4.mono HB3.out.size)
  have HS4 : Hid (RB w4 (.slice v2 S.length c2) S) := HS3.out.later hb4
  have HQ4 : Hid (RI w4 (.slice v4 ns.length c4) (intL ns)) := hr4
  have hcv := string_of_RB (HZ.out.later HB4.out)
  clear hr4
  clear hb4
  go_wp2_with fail
  refine Calls.mono (HR2.out _) ?_
  rintro e w5 ⟨v5, c5, rfl, hr5, hb5⟩
  have HB5 : Hid (Below w.heap.size w w5) := HB4.out.trans (hb5.mono HB4.out.size)
  have HS5 : Hid (RB w5 (.slice v2 S.length c2) S) := HS4.out.later hb5
  have HQ5 : Hid (RI w5 (.slice v4 ns.length c4) (intL ns)) := HQ4.out.later hb5
  have HT5 : Hid (RI w5 (.slice v5 ns.length c5) (intL ns)) := hr5
  clear hr5 hcv
  have hcv := string_of_RB HS5.out
  clear hb5
  have HSM : Hid _ := same_any (intL ns) (intL ns) _ _ w5 HQ5.out HT5.out (by rw [intL_len]; exact hrl) (by rw [intL_len]; exact hrl)
  rw [show decide (intL ns = intL ns) = true from decide_eq_true rfl] at HSM
  go_wp2_with fail
  refine Calls.mono (HSM.out) ?_
  rintro e w6 ⟨rfl, hb6⟩
  have HB6 : Hid (Below w.heap.size w w6) := HB5.out.trans (hb6.mono HB5.out.size)
  clear hcv
  clear hb6
  go_wp2_with fail
  refine Calls.mono (lives_any _) ?_
  rintro e w7 ⟨rfl, hb7⟩
  have HB7 : Hid (Below w.heap.size w w7) := HB6.out.trans (hb7.mono HB6.out.size)
  clear hb7
  go_wp2_with fail
  go_ret
  exact ⟨rfl, HB7.out⟩

theorem walk (x : Value) (o : List UInt8) (y : Value) (l : List Int) (z : Value) (b : List UInt8) (p : Int) (w : World) (hx : RB w x o) (hy : RI w y l) (hz : RB w z b) (hp : (Lit.int .i64 p).wf = true) :
    Calls Try.prog 5 #[x, y, z, .int .i64 p] w fun e w' => e = .returned (.bool true) ∧ Below w.heap.size w w' := by
  by_cases h : o.length ≤ 1000 ∧ l.length ≤ 300 ∧ b.length ≤ 3000
  · exact walk_small x y z o l b p w hx hy hz h.1 h.2.1 h.2.2
  · exact walk_big x y z o l b p w hx hy hz h

open Go.ChangeShapes Go.WideShapes Go.ChangeAt

theorem own : ownKnob Try.prog.godebug = none := by kernel_rfl
theorem laidOut : laidOutB Try.prog = true := by kernel_rfl

set_option maxRecDepth 100000 in
theorem lifted (os : Os) (started : os.Started) (H : Type) (enc : TypeId × Value → H) :
    ReturnsInHanded {} Try.checked os 5 .any (Rows.stampReadsSpec.pre6 enc Try.prog Try.f5 Rows.stampReadsRow.domain false) (Rows.stampReadsSpec.post enc Try.prog Try.f5 false true false false) := by
  refine returnsInHanded_of_change (C := Try.checked) own started (by kernel_rfl) Try.func5
    (ChangeSpec.witness6 (enc := enc) (C := Try.checked) false ⟨#[], #[.slice none 0 0, .slice none 0 0, .slice none 0 0, .int .i64 0], []⟩ 8 (by kernel_rfl) (by kernel_rfl) (by kernel_rfl) (by kernel_rfl)) ?_
  intro W base args ds gs before hval0 hW hcnd _
  have hval : ∀ (j : Nat) t v, Try.f5.params[j]? = some t → args[j]? = some v → Value.okWide Try.prog W .any base t v := hval0
  have hW' := hW
  obtain ⟨p, q, hA0, hV, rfl, hfz, hnd⟩ := hW
  have hA : DataW.TrodAll enc Try.prog W 0 (fun _ => true) true Try.f5.params.toList args.toList ds p := hA0
  rw [Try.params5] at hA hval
  obtain ⟨v0, vs0, d0, ds0, p0, q0, hargs, rfl, rfl, h0, r0⟩ := trodAll_cons hA
  obtain ⟨v1, vs1, d1, ds1, p1, q1, rfl, rfl, rfl, h1, r1⟩ := trodAll_cons r0
  obtain ⟨v2, vs2, d2, ds2, p2, q2, rfl, rfl, rfl, h2, r2⟩ := trodAll_cons r1
  obtain ⟨v3, vs3, d3, ds3, p3, q3, rfl, rfl, rfl, h3, r3⟩ := trodAll_cons r2
  obtain ⟨rfl, rfl, rfl⟩ := trodAll_nil r3
  obtain rfl : args = #[v0, v1, v2, v3] := by cases args; simp_all
  obtain ⟨rfl, rfl⟩ := trodVars_none hV
  obtain ⟨a3, rfl, rfl, rfl, w3⟩ := open_int Try.underlying3 (hval 3 3 v3 rfl rfl) h3
  obtain ⟨a0, len0, cap0, rfl⟩ := okWide_slice Try.underlying39 (hval 0 39 v0 rfl rfl)
  have k0 := h0
  have lt0 : ∀ x ∈ p0, x.block < W.heap.size := by obtain ⟨m, hm⟩ := k0; exact DataW.trod_lt m _ _ _ hm
  obtain ⟨z0, w0⟩ : ∃ L, RB W (.slice a0 len0 cap0) L := by
    obtain ⟨fuel, hf⟩ := h0
    obtain ⟨v, l, hv, hl⟩ := open_u8s hf
    simp [Value.cells] at hv
    subst hv
    exact ⟨l, hl⟩
  obtain ⟨a1, len1, cap1, rfl⟩ := okWide_slice Try.underlying22 (hval 1 22 v1 rfl rfl)
  have k1 := h1
  have lt1 : ∀ x ∈ p1, x.block < W.heap.size := by obtain ⟨m, hm⟩ := k1; exact DataW.trod_lt m _ _ _ hm
  obtain ⟨z1, w1⟩ : ∃ L, RI W (.slice a1 len1 cap1) L := by
    obtain ⟨fuel, hf⟩ := h1
    obtain ⟨v, l, hv, hl⟩ := open_i64s hf
    simp [Value.cells] at hv
    subst hv
    exact ⟨l, hl⟩
  obtain ⟨a2, len2, cap2, rfl⟩ := okWide_slice Try.underlying39 (hval 2 39 v2 rfl rfl)
  have k2 := h2
  have lt2 : ∀ x ∈ p2, x.block < W.heap.size := by obtain ⟨m, hm⟩ := k2; exact DataW.trod_lt m _ _ _ hm
  obtain ⟨z2, w2⟩ : ∃ L, RB W (.slice a2 len2 cap2) L := by
    obtain ⟨fuel, hf⟩ := h2
    obtain ⟨v, l, hv, hl⟩ := open_u8s hf
    simp [Value.cells] at hv
    subst hv
    exact ⟨l, hl⟩
  clear hA0 hval0
  refine (walk (.slice a0 len0 cap0) z0 (.slice a1 len1 cap1) z1 (.slice a2 len2 cap2) z2 a3 W w0 w1 w2 w3).mono fun e W' ⟨he, bel⟩ => ?_
  subst he
  exact ⟨_, rfl, _, _, _, [], _, [], hW', trodAll_mk1 (shut_bool Try.underlying4 _), (trodAll_cons_mk (Below.trod laidOut (by kernel_rfl) (of_decide_eq_true (by kernel_rfl)) k0 bel lt0) (trodAll_cons_mk (Below.trod laidOut (by kernel_rfl) (of_decide_eq_true (by kernel_rfl)) k1 bel lt1) (trodAll_cons_mk (Below.trod laidOut (by kernel_rfl) (of_decide_eq_true (by kernel_rfl)) k2 bel lt2) (trodAll_cons_mk (shut_int Try.underlying3 w3) trodAll_mk0)))), rfl, bel.frame _, fun h => by cases h⟩

theorem over : Rows.stampReadsRow.holds Try.pinned (OpenSpec.ofChange Rows.stampReadsSpec) :=
  OpenClaim.holds_of_wide 5 Try.f5 rfl rfl rfl rfl rfl rfl rfl ⟨rfl, rfl, rfl, rfl, rfl⟩ rfl rfl rfl rfl rfl (by kernel_rfl) Try.func5 (by kernel_rfl)
    (of_decide_eq_true (by kernel_rfl)) (by unfold Func.isWrapper; first | (rw [if_pos (by decide +kernel)]; kernel_rfl) | (rw [if_neg (by decide +kernel)]; exact ⟨rfl, rfl⟩))
    (fun os started H enc _ => lifted os started H enc)
end Go.Proofs.Ytjpeefibdpjfaaa.stampReads
namespace Go.Proofs.Ytjpeefibdpjfaaa

theorem stampReads_holds : Rows.StampReadsSaid := stampReads.over
#print axioms stampReads_holds
end Go.Proofs.Ytjpeefibdpjfaaa
