/- WireShort: for all two numbers: a smaller number has no more bytes than a greater one, and each has from one to six; proved in full, nothing is asked of the input. -/
import Derived.Test.YtbhebnhjnpfhgaaRows
import Derived.Test.YtbhebnhjnpfhgaaWl
import Derived.ProofKit
import Derived.OpenShut
import Derived.ShutString
import Derived.ChangeOld
namespace Go.Proofs.Ytbhebnhjnpfhgaa.wireShort
open Go.RowKit
set_option linter.unusedVariables false

theorem put_len (n : Nat) (hn : n ≤ 1099511627776) (wx : World) : Calls Try.prog 9 #[.slice none 0 0, .int .i64 n] wx fun e w' => ∃ v c, e = .returned (.tuple #[.slice v (oneP n).length c, .int .i64 0]) ∧ Below wx.heap.size wx w' := by
  have h := put_any _ [] (n : Int) wx (RB.nil wx) (by simp)
  have hi : isN (n : Int) = true := decide_eq_true (by omega)
  unfold putR putE at h
  rw [if_pos hi, if_pos hi, Int.toNat_natCast, List.nil_append] at h
  refine Calls.mono h ?_
  rintro e w' ⟨v, c, h1, _, h3⟩
  exact ⟨v, c, h1, h3⟩

theorem put_not (n : Int) (hn : ¬ (0 ≤ n ∧ n ≤ 1099511627776)) (wx : World) : Calls Try.prog 9 #[.slice none 0 0, .int .i64 n] wx fun e w' => ∃ v c, e = .returned (.tuple #[.slice v 0 c, .int .i64 2]) ∧ Below wx.heap.size wx w' := by
  have h := put_any _ [] n wx (RB.nil wx) (by simp)
  have hi : isN n = false := decide_eq_false hn
  unfold putR putE at h
  rw [hi] at h
  refine Calls.mono h ?_
  rintro e w' ⟨v, c, h1, _, h3⟩
  exact ⟨v, c, h1, h3⟩

set_option maxRecDepth 1000000 in
set_option maxHeartbeats 1000000 in
theorem walk (n m : Int) (w : World) (_w0 : (Lit.int .i64 n).wf = true) (_w1 : (Lit.int .i64 m).wf = true) :
    Calls Try.prog 7 #[.int .i64 n, .int .i64 m] w fun e w' => e = .returned (.bool true) ∧ Below w.heap.size w w' := by
  clear _w0 _w1
  by_cases hn : 0 ≤ n ∧ n ≤ 1099511627776
  · obtain ⟨q, rfl⟩ : ∃ q : Nat, n = (q : Int) := ⟨n.toNat, by omega⟩
    have HN : Hid _ := put_len q (by omega)
    have hq1 := one_pos q
    have hq6 := one_six (n := q) (by omega)
    by_cases hm : 0 ≤ m ∧ m ≤ 1099511627776
    · obtain ⟨r, rfl⟩ : ∃ r : Nat, m = (r : Int) := ⟨m.toNat, by omega⟩
      have HM : Hid _ := put_len r (by omega)
      have hr1 := one_pos r
      have hr6 := one_six (n := r) (by omega)
      have hqr := one_mono r q
      have hrq := one_mono q r
      generalize (oneP q).length = A at *
      generalize (oneP r).length = B at *
      have hab : q ≤ r → A ≤ B := hqr
      have hba : r ≤ q → B ≤ A := hrq
      clear hqr hrq
      by_cases h1 : q < r
      · have h2 := hab (by omega)
        clear hab hba
        go_enter Try.func7, Try.ntmps7
        go_wp2_with fail
        refine Calls.mono (HN.out _) ?_
        rintro e w1 ⟨v1, c1, rfl, hb1⟩
        have HB1 : Hid (Below w.heap.size w w1) := hb1
        clear hb1
        go_wp2_with fail
        refine Calls.mono (HM.out _) ?_
        rintro e w2 ⟨v2, c2, rfl, hb2⟩
        have HB2 : Hid (Below w.heap.size w w2) := HB1.out.trans (hb2.mono HB1.out.size)
        clear hb2
        go_wp2_with fail
        refine Calls.mono (lives_any _) ?_
        rintro e w3 ⟨rfl, hb3⟩
        have HB3 : Hid (Below w.heap.size w w3) := HB2.out.trans (hb3.mono HB2.out.size)
        clear hb3
        go_wp2_with fail
        go_ret
        exact ⟨rfl, HB3.out⟩
      · by_cases h3 : r < q
        · have h2 := hba (by omega)
          clear hab hba
          go_enter Try.func7, Try.ntmps7
          go_wp2_with fail
          refine Calls.mono (HN.out _) ?_
          rintro e w1 ⟨v1, c1, rfl, hb1⟩
          have HB1 : Hid (Below w.heap.size w w1) := hb1
          clear hb1
          go_wp2_with fail
          refine Calls.mono (HM.out _) ?_
          rintro e w2 ⟨v2, c2, rfl, hb2⟩
          have HB2 : Hid (Below w.heap.size w w2) := HB1.out.trans (hb2.mono HB1.out.size)
          clear hb2
          go_wp2_with fail
          refine Calls.mono (lives_any _) ?_
          rintro e w3 ⟨rfl, hb3⟩
          have HB3 : Hid (Below w.heap.size w w3) := HB2.out.trans (hb3.mono HB2.out.size)
          clear hb3
          go_wp2_with fail
          go_ret
          exact ⟨rfl, HB3.out⟩
        · have h4 : q = r := by omega
          have h5 : A = B := by have := hab (by omega); have := hba (by omega); omega
          clear hab hba h1 h3
          subst h4 h5
          go_enter Try.func7, Try.ntmps7
          go_wp2_with fail
          refine Calls.mono (HN.out _) ?_
          rintro e w1 ⟨v1, c1, rfl, hb1⟩
          have HB1 : Hid (Below w.heap.size w w1) := hb1
          clear hb1
          go_wp2_with fail
          refine Calls.mono (HM.out _) ?_
          rintro e w2 ⟨v2, c2, rfl, hb2⟩
          have HB2 : Hid (Below w.heap.size w w2) := HB1.out.trans (hb2.mono HB1.out.size)
          clear hb2
          go_wp2_with fail
          refine Calls.mono (lives_any _) ?_
          rintro e w3 ⟨rfl, hb3⟩
          have HB3 : Hid (Below w.heap.size w w3) := HB2.out.trans (hb3.mono HB2.out.size)
          clear hb3
          go_wp2_with fail
          go_ret
          exact ⟨rfl, HB3.out⟩
    · have HM : Hid _ := put_not m hm
      clear hm
      generalize (oneP q).length = A at *
      go_enter Try.func7, Try.ntmps7
      go_wp2_with fail
      refine Calls.mono (HN.out _) ?_
      rintro e w1 ⟨v1, c1, rfl, hb1⟩
      have HB1 : Hid (Below w.heap.size w w1) := hb1
      clear hb1
      go_wp2_with fail
      refine Calls.mono (HM.out _) ?_
      rintro e w2 ⟨v2, c2, rfl, hb2⟩
      have HB2 : Hid (Below w.heap.size w w2) := HB1.out.trans (hb2.mono HB1.out.size)
      clear hb2
      go_wp2_with fail
      refine Calls.mono (lives_any _) ?_
      rintro e w3 ⟨rfl, hb3⟩
      have HB3 : Hid (Below w.heap.size w w3) := HB2.out.trans (hb3.mono HB2.out.size)
      clear hb3
      go_wp2_with fail
      go_ret
      exact ⟨rfl, HB3.out⟩
  · have HN : Hid _ := put_not n hn
    have HM : Hid _ := put_any (.slice none 0 0) [] m
    clear hn
    obtain ⟨A, HA⟩ : ∃ A, Hid (A = putR [] m) := ⟨_, rfl⟩
    rw [← HA.out] at HM
    generalize putE m = E at *
    go_enter Try.func7, Try.ntmps7
    go_wp2_with fail
    refine Calls.mono (HN.out _) ?_
    rintro e w1 ⟨v1, c1, rfl, hb1⟩
    have HB1 : Hid (Below w.heap.size w w1) := hb1
    clear hb1
    go_wp2_with fail
    refine Calls.mono (HM.out w1 (RB.nil w1) (by simp)) ?_
    rintro e w2 ⟨v2, c2, rfl, _, hb2⟩
    have HB2 : Hid (Below w.heap.size w w2) := HB1.out.trans (hb2.mono HB1.out.size)
    clear hb2
    go_wp2_with fail
    refine Calls.mono (lives_any _) ?_
    rintro e w3 ⟨rfl, hb3⟩
    have HB3 : Hid (Below w.heap.size w w3) := HB2.out.trans (hb3.mono HB2.out.size)
    clear hb3
    go_wp2_with fail
    go_ret
    exact ⟨rfl, HB3.out⟩

open Go.ChangeShapes Go.WideShapes Go.ChangeAt

theorem own : ownKnob Try.prog.godebug = none := by kernel_rfl
theorem laidOut : laidOutB Try.prog = true := by kernel_rfl

set_option maxRecDepth 100000 in
theorem lifted (os : Os) (started : os.Started) (H : Type) (enc : TypeId × Value → H) :
    ReturnsInHanded {} Try.checked os 7 .any (Rows.wireShortSpec.pre6 enc Try.prog Try.f7 Rows.wireShortRow.domain false) (Rows.wireShortSpec.post enc Try.prog Try.f7 false true false false) := by
  refine returnsInHanded_of_change (C := Try.checked) own started (by kernel_rfl) Try.func7
    (ChangeSpec.witness6 (enc := enc) (C := Try.checked) false ⟨#[], #[.int .i64 0, .int .i64 0], []⟩ 8 (by kernel_rfl) (by kernel_rfl) (by kernel_rfl) (by kernel_rfl)) ?_
  intro W base args ds gs before hval0 hW hcnd _
  have hval : ∀ (j : Nat) t v, Try.f7.params[j]? = some t → args[j]? = some v → Value.okWide Try.prog W .any base t v := hval0
  have hW' := hW
  obtain ⟨p, q, hA0, hV, rfl, hfz, hnd⟩ := hW
  have hA : DataW.TrodAll enc Try.prog W 0 (fun _ => true) true Try.f7.params.toList args.toList ds p := hA0
  rw [Try.params7] at hA hval
  obtain ⟨v0, vs0, d0, ds0, p0, q0, hargs, rfl, rfl, h0, r0⟩ := trodAll_cons hA
  obtain ⟨v1, vs1, d1, ds1, p1, q1, rfl, rfl, rfl, h1, r1⟩ := trodAll_cons r0
  obtain ⟨rfl, rfl, rfl⟩ := trodAll_nil r1
  obtain rfl : args = #[v0, v1] := by cases args; simp_all
  obtain ⟨rfl, rfl⟩ := trodVars_none hV
  obtain ⟨a0, rfl, rfl, rfl, w0⟩ := open_int Try.underlying3 (hval 0 3 v0 rfl rfl) h0
  obtain ⟨a1, rfl, rfl, rfl, w1⟩ := open_int Try.underlying3 (hval 1 3 v1 rfl rfl) h1
  clear hA0 hval0
  refine (walk a0 a1 W w0 w1).mono fun e W' ⟨he, bel⟩ => ?_
  subst he
  exact ⟨_, rfl, _, _, _, [], _, [], hW', trodAll_mk1 (shut_bool Try.underlying4 _), (trodAll_cons_mk (shut_int Try.underlying3 w0) (trodAll_cons_mk (shut_int Try.underlying3 w1) trodAll_mk0)), rfl, bel.frame _, fun h => by cases h⟩

theorem over : Rows.wireShortRow.holds Try.pinned (OpenSpec.ofChange Rows.wireShortSpec) :=
  OpenClaim.holds_of_wide 7 Try.f7 rfl rfl rfl rfl rfl rfl rfl ⟨rfl, rfl, rfl, rfl, rfl⟩ rfl rfl rfl rfl rfl (by kernel_rfl) Try.func7 (by kernel_rfl)
    (of_decide_eq_true (by kernel_rfl)) (by unfold Func.isWrapper; first | (rw [if_pos (by decide +kernel)]; kernel_rfl) | (rw [if_neg (by decide +kernel)]; exact ⟨rfl, rfl⟩))
    (fun os started H enc _ => lifted os started H enc)
end Go.Proofs.Ytbhebnhjnpfhgaa.wireShort
namespace Go.Proofs.Ytbhebnhjnpfhgaa

theorem wireShort_holds : Rows.WireShortSaid := wireShort.over
#print axioms wireShort_holds
end Go.Proofs.Ytbhebnhjnpfhgaa
