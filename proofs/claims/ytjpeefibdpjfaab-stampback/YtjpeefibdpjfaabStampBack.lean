/- StampBack: for all bytes out and counts l: the bytes of a stamp are read as the stamp, behind whatever stands ahead of them; proved in full, nothing is asked of the input. -/
import Derived.Test.YtjpeefibdpjfaabRows
import Derived.Test.YtjpeefibdpjfaabSj
import Derived.Test.YtjpeefibdpjfaabSg
import Derived.ProofKit
import Derived.OpenShut
import Derived.ShutString
import Derived.ChangeOld
namespace Go.Proofs.Ytjpeefibdpjfaab.stampBack
open Go.RowKit
set_option linter.unusedVariables false

theorem ints_back {l : List Int} (h : allN l = true) : intL (natL l) = l := by
  unfold intL natL
  rw [List.map_map]
  conv => rhs; rw [← List.map_id l]
  apply List.map_congr_left
  intro x hx
  have := of_decide_eq_true (List.all_eq_true.1 h x hx)
  show Int.ofNat x.toNat = x
  have : (x.toNat : Int) = x := by omega
  exact this

theorem read_back (a : List UInt8) (l : List Int) (h : okS l = true) : readP (a ++ putsP (natL l)) (a.length : Int) = (natL l, a.length + (putsP (natL l)).length, 0) := by
  have h1 := okS_len h
  have h2 := okS_all h
  have e : listI (a ++ putsP (natL l)) (a.length : Int) = (natL l, a.length + (putsP (natL l)).length, 0) := by
    unfold listI
    rw [if_pos (by rw [List.length_append]; omega), Int.toNat_natCast]
    have := list_put a (natL l) [] (by rw [natL_len]; omega) (allN_nat h2)
    rw [List.append_nil] at this
    exact this
  unfold readP
  rw [e]
  simp only [if_true]
  rw [ints_back h2, if_pos h]

set_option maxRecDepth 1000000 in
set_option maxHeartbeats 4000000 in
theorem walk_big (x y : Value) (o : List UInt8) (l : List Int) (w : World) (hx : RB w x o) (hy : RI w y l) (h : ¬ (o.length ≤ 1000 ∧ l.length ≤ 300)) :
    Calls Try.prog 3 #[x, y] w fun e w' => e = .returned (.bool true) ∧ Below w.heap.size w w' := by
  obtain ⟨xa, xc, rfl, _⟩ := hx
  obtain ⟨ya, yc, rfl, _⟩ := hy
  generalize o.length = no at *
  generalize l.length = nl at *
  by_cases g0 : no ≤ 1000
  · have h0 : 300 < nl := by omega
    clear h
    go_enter Try.func3, Try.ntmps3
    go_wp2_with fail
    refine Calls.mono (few_no _ _ _ _ h0) ?_
    rintro e w1 ⟨rfl, hw1⟩
    obtain rfl := hw1.symm
    go_wp2_with fail
    refine Calls.mono (lives_any _) ?_
    rintro e wz ⟨rfl, hbz⟩
    go_wp2_with fail
    go_ret
    exact ⟨rfl, hbz⟩
  · have g0 : 1000 < no := by omega
    clear h
    go_enter Try.func3, Try.ntmps3
    go_wp2_with fail
    refine Calls.mono (lives_any _) ?_
    rintro e wz ⟨rfl, hbz⟩
    go_wp2_with fail
    go_ret
    exact ⟨rfl, hbz⟩

set_option maxRecDepth 1000000 in
set_option maxHeartbeats 4000000 in
theorem walk_no (x y : Value) (o : List UInt8) (l : List Int) (w : World) (hx : RB w x o) (hy : RI w y l) (g0 : o.length ≤ 1000) (h0 : l.length ≤ 300) (hok : okS l = false) :
    Calls Try.prog 3 #[x, y] w fun e w' => e = .returned (.bool true) ∧ Below w.heap.size w w' := by
  have HP : Hid _ := bytes_any x y o l w hx hy (by omega) (by omega)
  have HC : Hid (∀ wx, Below w.heap.size w wx → _) := fun wx h => check_any y l wx (hy.later h) (by omega)
  unfold bytR chkE at HP
  unfold chkE at HC
  rw [hok] at HP HC
  have HC2 : Hid (∀ wx, Below w.heap.size w wx → Calls Try.prog 7 #[y] wx fun e w' => e = .returned (.int .i64 2) ∧ w' = wx) := HC
  have HP2 : Hid (Calls Try.prog 6 #[x, y] w fun e w' => ∃ v c, e = .returned (.tuple #[.slice v 0 c, .int .i64 2]) ∧ RB w' (.slice v 0 c) [] ∧ Below w.heap.size w w') := HP
  clear HC HP hok
  obtain ⟨xa, xc, rfl, _⟩ := hx
  obtain ⟨ya, yc, rfl, _⟩ := hy
  generalize o.length = no at *
  generalize l.length = nl at *
  go_enter Try.func3, Try.ntmps3
  go_wp2_with fail
  refine Calls.mono (few_yes _ _ _ _ h0) ?_
  rintro e w1 ⟨rfl, hw1⟩
  obtain rfl := hw1.symm
  go_wp2_with fail
  refine Calls.mono (HP2.out) ?_
  rintro e w2 ⟨v2, c2, rfl, hr2, hb2⟩
  have HB2 : Hid (Below w.heap.size w w2) := hb2
  clear hr2
  clear hb2
  go_wp2_with fail
  refine Calls.mono (HC2.out _ HB2.out) ?_
  rintro e w3 ⟨rfl, hw3⟩
  obtain rfl := hw3.symm
  go_wp2_with fail
  refine Calls.mono (lives_any _) ?_
  rintro e w4 ⟨rfl, hb4⟩
  have HB4 : Hid (Below w.heap.size w w4) := HB2.out.trans (hb4.mono HB2.out.size)
  clear hb4
  go_wp2_with fail
  go_ret
  exact ⟨rfl, HB4.out⟩

set_option maxRecDepth 1000000 in
set_option maxHeartbeats 4000000 in
theorem walk_yes (x y : Value) (o : List UInt8) (l : List Int) (w : World) (hx : RB w x o) (hy : RI w y l) (g0 : o.length ≤ 1000) (h0 : l.length ≤ 300) (hok : okS l = true) :
    Calls Try.prog 3 #[x, y] w fun e w' => e = .returned (.bool true) ∧ Below w.heap.size w w' := by
  have HP : Hid _ := bytes_any x y o l w hx hy (by omega) (by omega)
  unfold bytR chkE at HP
  rw [if_pos hok, if_pos hok, List.length_append] at HP
  have hpl := puts_len (natL l) (by rw [natL_len]; have := okS_len hok; omega) (allN_nat (okS_all hok))
  have HRB : Hid (readP (o ++ putsP (natL l)) (o.length : Int) = (natL l, o.length + (putsP (natL l)).length, 0)) := read_back o l hok
  have HIB : Hid (intL (natL l) = l) := ints_back (okS_all hok)
  have HY : Hid (∀ wx, Below w.heap.size w wx → RI wx y l) := fun wx h => hy.later h
  have HRD : Hid (∀ (wx : World) (z : Value), RB wx z (o ++ putsP (natL l)) → _) := fun wx z h => read_any z (o ++ putsP (natL l)) (o.length : Int) wx h (by rw [List.length_append]; omega)
  rw [HRB.out] at HRD
  unfold ListC at HRD
  clear HRB hok
  have hll : l.length ≤ 1000000 := by omega
  obtain ⟨xa, xc, rfl, _⟩ := hx
  obtain ⟨ya, yc, rfl, _⟩ := hy
  generalize natL l = ns at *
  generalize putsP ns = S at *
  dsimp only at *
  go_enter Try.func3, Try.ntmps3
  go_wp2_with fail
  refine Calls.mono (few_yes _ _ _ _ h0) ?_
  rintro e w1 ⟨rfl, hw1⟩
  obtain rfl := hw1.symm
  go_wp2_with fail
  refine Calls.mono (HP.out) ?_
  rintro e w2 ⟨v2, c2, rfl, hr2, hb2⟩
  have HB2 : Hid (Below w.heap.size w w2) := hb2
  have HS2 : Hid (RB w2 (.slice v2 (o.length + S.length) c2) (o ++ S)) := hr2
  clear hr2
  clear hb2
  go_wp2_with fail
  refine Calls.mono (HRD.out _ _ HS2.out) ?_
  rintro e w3 ⟨v3, c3, rfl, hr3, hb3⟩
  have HB3 : Hid (Below w.heap.size w w3) := HB2.out.trans (hb3.mono HB2.out.size)
  have HSM : Hid (Calls Try.prog 9 #[.slice v3 ns.length c3, .slice ya l.length yc] w3 fun e w' => e = .returned (.bool true) ∧ Below w3.heap.size w3 w') := by
    have h3 : RI w3 (.slice v3 ns.length c3) (intL ns) := hr3
    rw [HIB.out] at h3
    have := same_any l l _ _ w3 h3 (HY.out _ HB3.out) hll hll
    rw [show decide (l = l) = true from decide_eq_true rfl] at this
    exact this
  clear hr3
  clear hb3
  go_wp2_with fail
  refine Calls.mono (HSM.out) ?_
  rintro e w4 ⟨rfl, hb4⟩
  have HB4 : Hid (Below w.heap.size w w4) := HB3.out.trans (hb4.mono HB3.out.size)
  clear hb4
  go_wp2_with fail
  refine Calls.mono (lives_any _) ?_
  rintro e w5 ⟨rfl, hb5⟩
  have HB5 : Hid (Below w.heap.size w w5) := HB4.out.trans (hb5.mono HB4.out.size)
  clear hb5
  go_wp2_with fail
  go_ret
  exact ⟨rfl, HB5.out⟩

theorem walk (x : Value) (o : List UInt8) (y : Value) (l : List Int) (w : World) (hx : RB w x o) (hy : RI w y l) :
    Calls Try.prog 3 #[x, y] w fun e w' => e = .returned (.bool true) ∧ Below w.heap.size w w' := by
  by_cases h : o.length ≤ 1000 ∧ l.length ≤ 300
  · cases hok : okS l with
    | false => exact walk_no x y o l w hx hy h.1 h.2 hok
    | true => exact walk_yes x y o l w hx hy h.1 h.2 hok
  · exact walk_big x y o l w hx hy h

open Go.ChangeShapes Go.WideShapes Go.ChangeAt

theorem own : ownKnob Try.prog.godebug = none := by kernel_rfl
theorem laidOut : laidOutB Try.prog = true := by kernel_rfl

set_option maxRecDepth 100000 in
theorem lifted (os : Os) (started : os.Started) (H : Type) (enc : TypeId × Value → H) :
    ReturnsInHanded {} Try.checked os 3 .any (Rows.stampBackSpec.pre6 enc Try.prog Try.f3 Rows.stampBackRow.domain false) (Rows.stampBackSpec.post enc Try.prog Try.f3 false true false false) := by
  refine returnsInHanded_of_change (C := Try.checked) own started (by kernel_rfl) Try.func3
    (ChangeSpec.witness6 (enc := enc) (C := Try.checked) false ⟨#[], #[.slice none 0 0, .slice none 0 0], []⟩ 8 (by kernel_rfl) (by kernel_rfl) (by kernel_rfl) (by kernel_rfl)) ?_
  intro W base args ds gs before hval0 hW hcnd _
  have hval : ∀ (j : Nat) t v, Try.f3.params[j]? = some t → args[j]? = some v → Value.okWide Try.prog W .any base t v := hval0
  have hW' := hW
  obtain ⟨p, q, hA0, hV, rfl, hfz, hnd⟩ := hW
  have hA : DataW.TrodAll enc Try.prog W 0 (fun _ => true) true Try.f3.params.toList args.toList ds p := hA0
  rw [Try.params3] at hA hval
  obtain ⟨v0, vs0, d0, ds0, p0, q0, hargs, rfl, rfl, h0, r0⟩ := trodAll_cons hA
  obtain ⟨v1, vs1, d1, ds1, p1, q1, rfl, rfl, rfl, h1, r1⟩ := trodAll_cons r0
  obtain ⟨rfl, rfl, rfl⟩ := trodAll_nil r1
  obtain rfl : args = #[v0, v1] := by cases args; simp_all
  obtain ⟨rfl, rfl⟩ := trodVars_none hV
  obtain ⟨a0, len0, cap0, rfl⟩ := okWide_slice Try.underlying22 (hval 0 22 v0 rfl rfl)
  have k0 := h0
  have lt0 : ∀ x ∈ p0, x.block < W.heap.size := by obtain ⟨m, hm⟩ := k0; exact DataW.trod_lt m _ _ _ hm
  obtain ⟨z0, w0⟩ : ∃ L, RB W (.slice a0 len0 cap0) L := by
    obtain ⟨fuel, hf⟩ := h0
    obtain ⟨v, l, hv, hl⟩ := open_u8s hf
    simp [Value.cells] at hv
    subst hv
    exact ⟨l, hl⟩
  obtain ⟨a1, len1, cap1, rfl⟩ := okWide_slice Try.underlying23 (hval 1 23 v1 rfl rfl)
  have k1 := h1
  have lt1 : ∀ x ∈ p1, x.block < W.heap.size := by obtain ⟨m, hm⟩ := k1; exact DataW.trod_lt m _ _ _ hm
  obtain ⟨z1, w1⟩ : ∃ L, RI W (.slice a1 len1 cap1) L := by
    obtain ⟨fuel, hf⟩ := h1
    obtain ⟨v, l, hv, hl⟩ := open_i64s hf
    simp [Value.cells] at hv
    subst hv
    exact ⟨l, hl⟩
  clear hA0 hval0
  refine (walk (.slice a0 len0 cap0) z0 (.slice a1 len1 cap1) z1 W w0 w1).mono fun e W' ⟨he, bel⟩ => ?_
  subst he
  exact ⟨_, rfl, _, _, _, [], _, [], hW', trodAll_mk1 (shut_bool Try.underlying4 _), (trodAll_cons_mk (Below.trod laidOut (by kernel_rfl) (of_decide_eq_true (by kernel_rfl)) k0 bel lt0) (trodAll_cons_mk (Below.trod laidOut (by kernel_rfl) (of_decide_eq_true (by kernel_rfl)) k1 bel lt1) trodAll_mk0)), rfl, bel.frame _, fun h => by cases h⟩

theorem over : Rows.stampBackRow.holds Try.pinned (OpenSpec.ofChange Rows.stampBackSpec) :=
  OpenClaim.holds_of_wide 3 Try.f3 rfl rfl rfl rfl rfl rfl rfl ⟨rfl, rfl, rfl, rfl, rfl⟩ rfl rfl rfl rfl rfl (by kernel_rfl) Try.func3 (by kernel_rfl)
    (of_decide_eq_true (by kernel_rfl)) (by unfold Func.isWrapper; first | (rw [if_pos (by decide +kernel)]; kernel_rfl) | (rw [if_neg (by decide +kernel)]; exact ⟨rfl, rfl⟩))
    (fun os started H enc _ => lifted os started H enc)
end Go.Proofs.Ytjpeefibdpjfaab.stampBack
namespace Go.Proofs.Ytjpeefibdpjfaab

theorem stampBack_holds : Rows.StampBackSaid := stampBack.over
#print axioms stampBack_holds
end Go.Proofs.Ytjpeefibdpjfaab
