/- Any text's code points, and its first bad byte, are as the document says; cut anywhere it is as it says: for every string and int, with no condition. -/
import Derived.Test.YtilmgmafhmgddaaRows
import Derived.Test.YtilmgmafhmgddaaWL
import Derived.Test.YtilmgmafhmgddaaWG
import Derived.ProofKit
import Derived.OpenShut
import Derived.ShutString
import Derived.ChangeOld
namespace Go.Proofs.Ytilmgmafhmgddaa.glyphRunes
open Go.ChangeShapes Go.WideShapes Go.ChangeAt Go.RowKit
open Go.ChangeMaps (open_string shut_string)
set_option linter.unusedVariables false

theorem own : ownKnob Try.prog.godebug = none := by kernel_rfl
theorem laidOut : laidOutB Try.prog = true := by kernel_rfl

set_option maxRecDepth 1000000 in
set_option maxHeartbeats 1000000 in
theorem walk_big (s : ByteArray) (n : Int) (w : World) (h : 5000 < s.size) :
    Calls Try.prog 3 #[.string s, .int .i64 n] w fun e w' => e = .returned (.bool true) ∧ Below w.heap.size w w' := by
  go_enter Try.func3, Try.ntmps3
  go_wp2_with fail
  refine (lives_any _).mono ?_
  rintro e w1 ⟨rfl, hb1⟩
  go_wp2
  go_ret
  exact ⟨rfl, hb1⟩

set_option maxRecDepth 1000000 in
set_option maxHeartbeats 2000000 in
theorem walk_good (s : ByteArray) (n : Int) (w : World) (hs : s.size ≤ 5000) (hn1 : -9223372036854775808 ≤ n) (hn2 : n ≤ 9223372036854775807) (cs : List Int) (hp0 : Parts s.data.toList cs []) :
    Calls Try.prog 3 #[.string s, .int .i64 n] w fun e w' => e = .returned (.bool true) ∧ Below w.heap.size w w' := by
  have hbig : ¬ 5000 < s.size := by omega
  have hs1 : s.size ≤ 100000 := by omega
  have HP : Hid (Parts s.data.toList cs []) := hp0
  have hcl : cs.length ≤ 100000 := by
    have h1 := (encAll_len_ge cs hp0.cp).1
    have h2 := size_list s
    rw [hp0.eq] at h2
    simp at h2
    omega
  clear hp0
  go_enter Try.func3, Try.ntmps3
  go_wp2_with fail
  refine (runes_good s cs HP.out _ hs1).mono ?_
  rintro e w1 ⟨v1, rfl, ho1, hb1⟩
  have hz1 := hb1.size
  have hr1 := reads_of_owns ho1 rfl
  clear ho1
  go_wp2_with fail
  refine (rrunes_good s cs HP.out _ hs1).mono ?_
  rintro e w2 ⟨v2, rfl, ho2, hb2⟩
  have hr2 := reads_of_owns ho2 rfl
  have hr12 := hr1.later hb2
  clear ho2 hr1
  have hb02 : Below w.heap.size w w2 := hb1.trans (hb2.mono hz1)
  have hz2 := hb02.size
  clear hb1 hb2
  obtain ⟨A, hA⟩ : ∃ A : ByteArray, s.extract 0 (cutV cs n) = A := ⟨_, rfl⟩
  obtain ⟨B, hB⟩ : ∃ B : ByteArray, s.extract (cutV cs n) s.size = B := ⟨_, rfl⟩
  have hc1 := fun wx => cut_any s cs [] HP.out n wx hs1 hn1 hn2
  have hc2 := fun wx => rcut_any s cs [] HP.out n wx hs1
  rw [hA, hB] at hc1 hc2
  have HC1 : Hid _ := hc1
  have HC2 : Hid _ := hc2
  clear hc1 hc2 hA hB
  go_wp2_with fail
  refine Calls.mono (HC1.out w2) ?_
  rintro e w3 ⟨rfl, hb3⟩
  have hr13 := hr12.later hb3
  have hr23 := hr2.later hb3
  clear hr12 hr2
  have hb03 : Below w.heap.size w w3 := hb02.trans (hb3.mono hz2)
  have hz3 := hb03.size
  clear hb02 hb3 HC1
  go_wp2_with fail
  refine Calls.mono (HC2.out w3) ?_
  rintro e w4 ⟨rfl, hb4⟩
  have hr14 := hr13.later hb4
  have hr24 := hr23.later hb4
  clear hr13 hr23
  have hb04 : Below w.heap.size w w4 := hb03.trans (hb4.mono hz3)
  have hz4 := hb04.size
  clear hb03 hb4 HC2
  go_wp2_with fail
  refine (same_eq _ _ cs _ hr14 hr24 hcl).mono ?_
  rintro e w5 ⟨rfl, n5, rfl⟩
  have hb05 : Below w.heap.size w (w4.drewN n5) := below_drewN hb04 n5
  have hz5 := hb05.size
  clear hr14 hr24
  clear hb04
  generalize w4.drewN n5 = w5 at *
  go_wp2_with fail
  refine (bad_any s cs [] HP.out _ hs1).mono ?_
  rintro e w6 ⟨rfl, hb6⟩
  have hb06 : Below w.heap.size w w6 := hb05.trans (hb6.mono hz5)
  have hz6 := hb06.size
  clear hb05 hb6
  go_wp2_with fail
  refine (rbad_any s cs [] HP.out _ hs1).mono ?_
  rintro e w7 ⟨rfl, hb7⟩
  have hb07 : Below w.heap.size w w7 := hb06.trans (hb7.mono hz6)
  have hz7 := hb07.size
  clear hb06 hb7
  go_wp2_with fail
  refine (lives_any _).mono ?_
  rintro e w8 ⟨rfl, hb8⟩
  go_wp2
  go_ret
  exact ⟨rfl, hb07.trans (hb8.mono hz7)⟩

set_option maxRecDepth 1000000 in
set_option maxHeartbeats 2000000 in
theorem walk_bad (s : ByteArray) (n : Int) (w : World) (hs : s.size ≤ 5000) (hn1 : -9223372036854775808 ≤ n) (hn2 : n ≤ 9223372036854775807) (cs : List Int) (rest : List UInt8) (hp0 : Parts s.data.toList cs rest) (hr : rest ≠ []) :
    Calls Try.prog 3 #[.string s, .int .i64 n] w fun e w' => e = .returned (.bool true) ∧ Below w.heap.size w w' := by
  have hbig : ¬ 5000 < s.size := by omega
  have hs1 : s.size ≤ 100000 := by omega
  have HP : Hid (Parts s.data.toList cs rest) := hp0
  have HNE : Hid (rest ≠ []) := hr
  clear hr
  clear hp0
  go_enter Try.func3, Try.ntmps3
  go_wp2_with fail
  refine (runes_bad s cs rest HP.out HNE.out _ hs1).mono ?_
  rintro e w1 ⟨rfl, hb1⟩
  have hz1 := hb1.size
  go_wp2_with fail
  refine (rrunes_bad s cs rest HP.out HNE.out _ hs1).mono ?_
  rintro e w2 ⟨rfl, hb2⟩
  have hb02 : Below w.heap.size w w2 := hb1.trans (hb2.mono hz1)
  have hz2 := hb02.size
  clear hb1 hb2
  obtain ⟨A, hA⟩ : ∃ A : ByteArray, s.extract 0 (cutV cs n) = A := ⟨_, rfl⟩
  obtain ⟨B, hB⟩ : ∃ B : ByteArray, s.extract (cutV cs n) s.size = B := ⟨_, rfl⟩
  have hc1 := fun wx => cut_any s cs rest HP.out n wx hs1 hn1 hn2
  have hc2 := fun wx => rcut_any s cs rest HP.out n wx hs1
  rw [hA, hB] at hc1 hc2
  have HC1 : Hid _ := hc1
  have HC2 : Hid _ := hc2
  clear hc1 hc2 hA hB
  go_wp2_with fail
  refine Calls.mono (HC1.out w2) ?_
  rintro e w3 ⟨rfl, hb3⟩
  have hb03 : Below w.heap.size w w3 := hb02.trans (hb3.mono hz2)
  have hz3 := hb03.size
  clear hb02 hb3 HC1
  go_wp2_with fail
  refine Calls.mono (HC2.out w3) ?_
  rintro e w4 ⟨rfl, hb4⟩
  have hb04 : Below w.heap.size w w4 := hb03.trans (hb4.mono hz3)
  have hz4 := hb04.size
  clear hb03 hb4 HC2
  go_wp2_with fail
  refine (same_eq _ _ [] _ ⟨none, 0, rfl, fun _ => rfl, by simp⟩ ⟨none, 0, rfl, fun _ => rfl, by simp⟩ (by decide)).mono ?_
  rintro e w5 ⟨rfl, n5, rfl⟩
  have hb05 : Below w.heap.size w (w4.drewN n5) := below_drewN hb04 n5
  have hz5 := hb05.size
  clear hb04
  generalize w4.drewN n5 = w5 at *
  go_wp2_with fail
  refine (bad_any s cs rest HP.out _ hs1).mono ?_
  rintro e w6 ⟨rfl, hb6⟩
  have hb06 : Below w.heap.size w w6 := hb05.trans (hb6.mono hz5)
  have hz6 := hb06.size
  clear hb05 hb6
  go_wp2_with fail
  refine (rbad_any s cs rest HP.out _ hs1).mono ?_
  rintro e w7 ⟨rfl, hb7⟩
  have hb07 : Below w.heap.size w w7 := hb06.trans (hb7.mono hz6)
  have hz7 := hb07.size
  clear hb06 hb7
  go_wp2_with fail
  refine (lives_any _).mono ?_
  rintro e w8 ⟨rfl, hb8⟩
  go_wp2
  go_ret
  exact ⟨rfl, hb07.trans (hb8.mono hz7)⟩

theorem walk (a0 : ByteArray) (a1 : Int) (w : World) (w0 : a0.size ≤ maxLen) (w1 : (Lit.int .i64 a1).wf = true) :
    Calls Try.prog 3 #[.string a0, .int .i64 a1] w fun e w' => e = .returned (.bool true) ∧ Below w.heap.size w w' := by
  by_cases h : 5000 < a0.size
  · exact walk_big a0 a1 w h
  have hb : -9223372036854775808 ≤ a1 ∧ a1 ≤ 9223372036854775807 := by simpa [Lit.wf, IntKind.min, IntKind.max, IntKind.signed, IntKind.bits] using w1
  obtain ⟨cs, rest, hp0⟩ := parts_exists a0.data.toList
  by_cases hr : rest = []
  · subst hr
    exact walk_good a0 a1 w (by omega) hb.1 hb.2 cs hp0
  · exact walk_bad a0 a1 w (by omega) hb.1 hb.2 cs rest hp0 hr

set_option maxRecDepth 100000 in
theorem lifted (os : Os) (started : os.Started) (H : Type) (enc : TypeId × Value → H) :
    ReturnsInHanded {} Try.checked os 3 .any (Rows.glyphRunesSpec.pre6 enc Try.prog Try.f3 Rows.glyphRunesRow.domain false) (Rows.glyphRunesSpec.post enc Try.prog Try.f3 false true false false) := by
  refine returnsInHanded_of_change (C := Try.checked) own started (by kernel_rfl) Try.func3
    (ChangeSpec.witness6 (enc := enc) (C := Try.checked) false ⟨#[], #[.string ByteArray.empty, .int .i64 0], []⟩ 8 (by kernel_rfl) (by kernel_rfl) (by kernel_rfl) (by kernel_rfl)) ?_
  intro W base args ds gs before hval0 hW hcnd _
  have hval : ∀ (j : Nat) t v, Try.f3.params[j]? = some t → args[j]? = some v → Value.okWide Try.prog W .any base t v := hval0
  have hW' := hW
  obtain ⟨p, q, hA0, hV, rfl, hfz, hnd⟩ := hW
  have hA : DataW.TrodAll enc Try.prog W 0 (fun _ => true) true Try.f3.params.toList args.toList ds p := hA0
  rw [Try.params3] at hA hval
  obtain ⟨v0, vs0, d0, ds0, p0, q0, hargs, rfl, rfl, h0, r0⟩ := trodAll_cons hA
  obtain ⟨v1, vs1, d1, ds1, p1, q1, rfl, rfl, rfl, h1, r1⟩ := trodAll_cons r0
  obtain ⟨rfl, rfl, rfl⟩ := trodAll_nil r1
  obtain rfl : args = #[v0, v1] := by cases args; simp_all
  obtain ⟨rfl, rfl⟩ := trodVars_none hV
  obtain ⟨a0, rfl, rfl, rfl, w0⟩ := open_string Try.underlying9 (hval 0 9 v0 rfl rfl) h0
  obtain ⟨a1, rfl, rfl, rfl, w1⟩ := open_int Try.underlying3 (hval 1 3 v1 rfl rfl) h1
  clear hA0 hval0
  simp only [List.append_nil] at hW'
  refine (walk a0 a1 W w0 w1).mono fun e W' ⟨he, bel⟩ => ?_
  subst he
  exact ⟨_, rfl, _, _, _, [], [], [], hW', trodAll_mk1 (shut_bool Try.underlying4 _), (trodAll_cons_mk (shut_string Try.underlying9 w0) (trodAll_cons_mk (shut_int Try.underlying3 w1) trodAll_mk0)), rfl, bel.frame _, fun h => by cases h⟩

theorem over : Rows.glyphRunesRow.holds Try.pinned (OpenSpec.ofChange Rows.glyphRunesSpec) :=
  OpenClaim.holds_of_wide 3 Try.f3 rfl rfl rfl rfl rfl rfl rfl ⟨rfl, rfl, rfl, rfl, rfl⟩ rfl rfl rfl rfl rfl (by kernel_rfl) Try.func3 (by kernel_rfl)
    (of_decide_eq_true (by kernel_rfl)) (by unfold Func.isWrapper; first | (rw [if_pos (by decide +kernel)]; kernel_rfl) | (rw [if_neg (by decide +kernel)]; exact ⟨rfl, rfl⟩))
    (fun os started H enc _ => lifted os started H enc)
end Go.Proofs.Ytilmgmafhmgddaa.glyphRunes
namespace Go.Proofs.Ytilmgmafhmgddaa

theorem glyphRunes_holds : Rows.GlyphRunesSaid := glyphRunes.over
#print axioms glyphRunes_holds
end Go.Proofs.Ytilmgmafhmgddaa
