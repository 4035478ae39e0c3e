/- What is cut, joined, is the text; its first part is right, and has as many code points as were asked for, or all that are right: for every string and int, with no condition. -/
import Derived.Test.YtilmgmafhmgddaaRows
import Derived.Test.YtilmgmafhmgddaaWL
import Derived.Test.YtilmgmafhmgddaaWX
import Derived.ProofKit
import Derived.OpenShut
import Derived.ShutString
import Derived.ChangeOld
namespace Go.Proofs.Ytilmgmafhmgddaa.glyphCuts
open Go.ChangeShapes Go.WideShapes Go.ChangeAt Go.RowKit
open Go.ChangeMaps (open_string shut_string)
set_option linter.unusedVariables false

theorem own : ownKnob Try.prog.godebug = none := by kernel_rfl
theorem laidOut : laidOutB Try.prog = true := by kernel_rfl

set_option maxRecDepth 1000000 in
set_option maxHeartbeats 1000000 in
theorem walk_big (s : ByteArray) (n : Int) (w : World) (h : 5000 < s.size) :
    Calls Try.prog 8 #[.string s, .int .i64 n] w fun e w' => e = .returned (.bool true) ∧ Below w.heap.size w w' := by
  go_enter Try.func8, Try.ntmps8
  go_wp2_with fail
  refine (lives_any _).mono ?_
  rintro e w1 ⟨rfl, hb1⟩
  go_wp2
  go_ret
  exact ⟨rfl, hb1⟩

theorem cut_facts (s : ByteArray) (cs : List Int) (rest : List UInt8) (hp : Parts s.data.toList cs rest) (n : Int) :
    Parts (s.extract 0 (cutV cs n)).data.toList (cs.take n.toNat) [] ∧ s.extract 0 (cutV cs n) ++ s.extract (cutV cs n) s.size = s ∧ (s.extract (cutV cs n) s.size).data.toList = encAll (cs.drop n.toNat) ++ rest := by
  have hz := size_list s
  have hcut : encAll cs = encAll (cs.take n.toNat) ++ encAll (cs.drop n.toNat) := by rw [← encAll_append, List.take_append_drop]
  have hs : s.data.toList = encAll (cs.take n.toNat) ++ (encAll (cs.drop n.toNat) ++ rest) := by rw [hp.eq, hcut, List.append_assoc]
  have hA : (s.extract 0 (cutV cs n)).data.toList = encAll (cs.take n.toNat) := by
    rw [Lib.extract_data, hs]
    simp [cutV]
  have hB : (s.extract (cutV cs n) s.size).data.toList = encAll (cs.drop n.toNat) ++ rest := by
    rw [Lib.extract_data, ← hz, hs]
    simp [cutV]
    rw [List.take_of_length_le (by simp)]
  refine ⟨⟨by rw [hA]; simp, fun c hc => hp.cp c (List.mem_of_mem_take hc), .inl rfl⟩, ?_, hB⟩
  apply ByteArray.ext
  apply Array.ext'
  rw [ba_append, hA, hB, hs]

set_option maxRecDepth 1000000 in
set_option maxHeartbeats 1000000 in
theorem walk_neg (s : ByteArray) (n : Int) (w : World) (hs : s.size ≤ 5000) (hn1 : -9223372036854775808 ≤ n) (hn2 : n ≤ 9223372036854775807) (cs : List Int) (rest : List UInt8) (hp0 : Parts s.data.toList cs rest) (hneg : n < 0) :
    Calls Try.prog 8 #[.string s, .int .i64 n] w fun e w' => e = .returned (.bool true) ∧ Below w.heap.size w w' := by
  have hbig : ¬ 5000 < s.size := by omega
  have hcut := cut_any s cs rest hp0 n w (by omega) hn1 hn2
  obtain ⟨hpA, hAB, hBl⟩ := cut_facts s cs rest hp0 n
  have hAz : (s.extract 0 (cutV cs n)).size ≤ 100000 := by simp; omega
  have hBz : (s.extract (cutV cs n) s.size).size ≤ 100000 := by simp; omega
  have hca : (cs.take n.toNat).length = 0 := by rw [show n.toNat = 0 by omega]; rfl
  generalize s.extract 0 (cutV cs n) = A at *
  generalize s.extract (cutV cs n) s.size = B at *
  generalize cs.take n.toNat = ca at *
  clear hp0
  have HP : Hid (Parts A.data.toList ca []) := hpA
  have HB : Hid _ := hBl
  clear hpA hBl
  have HCUT : Hid _ := hcut
  clear hcut
  have HLZ : Hid (ca.length = 0) := hca
  have hnil : ca = [] := List.eq_nil_of_length_eq_zero hca
  subst hnil
  clear hca HLZ
  go_enter Try.func8, Try.ntmps8
  go_wp2_with fail
  refine Calls.mono HCUT.out ?_
  clear HCUT
  rintro e w1 ⟨rfl, hb1⟩
  have hz1 := hb1.size
  go_wp2_with fail
  refine (runes_good A [] HP.out _ hAz).mono ?_
  rintro e w2 ⟨v, rfl, ho2, hb2⟩
  have hb02 : Below w.heap.size w w2 := hb1.trans (hb2.mono hz1)
  have hz2 := hb02.size
  have hr2 := reads_of_owns ho2 rfl
  obtain ⟨x, c, hv, _, _⟩ := hr2
  subst hv
  clear hb1 hb2 ho2
  go_wp2_with fail
  refine (lives_any _).mono ?_
  rintro e w5 ⟨rfl, hb5⟩
  go_wp2
  go_ret
  exact ⟨rfl, hb02.trans (hb5.mono hz2)⟩

set_option maxRecDepth 1000000 in
set_option maxHeartbeats 1000000 in
theorem walk_full (s : ByteArray) (n : Int) (w : World) (hs : s.size ≤ 5000) (hn1 : -9223372036854775808 ≤ n) (hn2 : n ≤ 9223372036854775807) (cs : List Int) (rest : List UInt8) (hp0 : Parts s.data.toList cs rest) (h0 : 0 ≤ n) (hL : n.toNat ≤ cs.length) :
    Calls Try.prog 8 #[.string s, .int .i64 n] w fun e w' => e = .returned (.bool true) ∧ Below w.heap.size w w' := by
  have hbig : ¬ 5000 < s.size := by omega
  have hcut := cut_any s cs rest hp0 n w (by omega) hn1 hn2
  obtain ⟨hpA, hAB, hBl⟩ := cut_facts s cs rest hp0 n
  have hAz : (s.extract 0 (cutV cs n)).size ≤ 100000 := by simp; omega
  have hBz : (s.extract (cutV cs n) s.size).size ≤ 100000 := by simp; omega
  have hca : ((cs.take n.toNat).length : Int) = n := by simp; omega
  have hcl : (cs.take n.toNat).length ≤ 100000 := by
    have h1 := (encAll_len_ge cs hp0.cp).1
    have h2 := size_list s
    rw [hp0.eq] at h2
    simp at h2
    simp
    omega
  clear hL
  generalize s.extract 0 (cutV cs n) = A at *
  generalize s.extract (cutV cs n) s.size = B at *
  generalize cs.take n.toNat = ca at *
  clear hp0
  have HP : Hid (Parts A.data.toList ca []) := hpA
  have HB : Hid _ := hBl
  clear hpA hBl
  have HCUT : Hid _ := hcut
  clear hcut
  have hq : ((ca.length : Int) == n) = true := by rw [beq_iff_eq]; exact hca
  have hq2 : ¬ n < (ca.length : Int) := by omega
  clear hca
  go_enter Try.func8, Try.ntmps8
  go_wp2_with fail
  refine Calls.mono HCUT.out ?_
  clear HCUT
  rintro e w1 ⟨rfl, hb1⟩
  have hz1 := hb1.size
  go_wp2_with fail
  refine (runes_good A ca HP.out _ hAz).mono ?_
  rintro e w2 ⟨v, rfl, ho2, hb2⟩
  have hb02 : Below w.heap.size w w2 := hb1.trans (hb2.mono hz1)
  have hz2 := hb02.size
  have hr2 := reads_of_owns ho2 rfl
  obtain ⟨x, c, hv, _, _⟩ := hr2
  subst hv
  clear hb1 hb2 ho2
  go_wp2_with fail
  refine (lives_any _).mono ?_
  rintro e w5 ⟨rfl, hb5⟩
  go_wp2
  go_ret
  exact ⟨rfl, hb02.trans (hb5.mono hz2)⟩

set_option maxRecDepth 1000000 in
set_option maxHeartbeats 1000000 in
theorem walk_short (s : ByteArray) (n : Int) (w : World) (hs : s.size ≤ 5000) (hn1 : -9223372036854775808 ≤ n) (hn2 : n ≤ 9223372036854775807) (cs : List Int) (rest : List UInt8) (hp0 : Parts s.data.toList cs rest) (h0 : 0 ≤ n) (hL : cs.length < n.toNat) (hr : rest = []) :
    Calls Try.prog 8 #[.string s, .int .i64 n] w fun e w' => e = .returned (.bool true) ∧ Below w.heap.size w w' := by
  have hbig : ¬ 5000 < s.size := by omega
  have hcut := cut_any s cs rest hp0 n w (by omega) hn1 hn2
  obtain ⟨hpA, hAB, hBl⟩ := cut_facts s cs rest hp0 n
  have hAz : (s.extract 0 (cutV cs n)).size ≤ 100000 := by simp; omega
  have hBz : (s.extract (cutV cs n) s.size).size ≤ 100000 := by simp; omega
  have hca : ((cs.take n.toNat).length : Int) < n := by simp; omega
  have hcl : (cs.take n.toNat).length ≤ 100000 := by
    have h1 := (encAll_len_ge cs hp0.cp).1
    have h2 := size_list s
    rw [hp0.eq] at h2
    simp at h2
    simp
    omega
  have hBe : (s.extract (cutV cs n) s.size).data.toList = [] := by rw [hBl, hr, List.drop_eq_nil_of_le (by omega)]; rfl
  clear hL hr
  generalize s.extract 0 (cutV cs n) = A at *
  generalize s.extract (cutV cs n) s.size = B at *
  generalize cs.take n.toNat = ca at *
  clear hp0
  have HP : Hid (Parts A.data.toList ca []) := hpA
  have HB : Hid _ := hBl
  clear hpA hBl
  have HCUT : Hid _ := hcut
  clear hcut
  have hBn : B = ByteArray.empty := by
    apply ByteArray.ext
    apply Array.ext'
    rw [hBe]
    rfl
  have HBAD : Hid (∀ wx : World, Calls Try.prog 15 #[.string ByteArray.empty] wx fun e w' => e = .returned (.int .i64 (-1)) ∧ Below wx.heap.size wx w') := fun wx => bad_any ByteArray.empty [] [] ⟨rfl, by simp, .inl rfl⟩ wx (by decide)
  have hq : ((ca.length : Int) == n) = false := by rw [beq_eq_false_iff_ne]; omega
  subst hBn
  clear hBe HB
  go_enter Try.func8, Try.ntmps8
  go_wp2_with fail
  refine Calls.mono HCUT.out ?_
  clear HCUT
  rintro e w1 ⟨rfl, hb1⟩
  have hz1 := hb1.size
  go_wp2_with fail
  refine (runes_good A ca HP.out _ hAz).mono ?_
  rintro e w2 ⟨v, rfl, ho2, hb2⟩
  have hb02 : Below w.heap.size w w2 := hb1.trans (hb2.mono hz1)
  have hz2 := hb02.size
  have hr2 := reads_of_owns ho2 rfl
  obtain ⟨x, c, hv, _, _⟩ := hr2
  subst hv
  clear hb1 hb2 ho2
  go_wp2_with fail
  refine Calls.mono (HBAD.out w2) ?_
  rintro e w3 ⟨rfl, hb3⟩
  have hb03 : Below w.heap.size w w3 := hb02.trans (hb3.mono hz2)
  have hz3 := hb03.size
  clear hb02 hb3 HBAD
  go_wp2_with fail
  refine (lives_any _).mono ?_
  rintro e w5 ⟨rfl, hb5⟩
  go_wp2
  go_ret
  exact ⟨rfl, hb03.trans (hb5.mono hz3)⟩

set_option maxRecDepth 1000000 in
set_option maxHeartbeats 1000000 in
theorem walk_bad (s : ByteArray) (n : Int) (w : World) (hs : s.size ≤ 5000) (hn1 : -9223372036854775808 ≤ n) (hn2 : n ≤ 9223372036854775807) (cs : List Int) (rest : List UInt8) (hp0 : Parts s.data.toList cs rest) (h0 : 0 ≤ n) (hL : cs.length < n.toNat) (hr : rest ≠ []) :
    Calls Try.prog 8 #[.string s, .int .i64 n] w fun e w' => e = .returned (.bool true) ∧ Below w.heap.size w w' := by
  have hbig : ¬ 5000 < s.size := by omega
  have hcut := cut_any s cs rest hp0 n w (by omega) hn1 hn2
  obtain ⟨hpA, hAB, hBl⟩ := cut_facts s cs rest hp0 n
  have hAz : (s.extract 0 (cutV cs n)).size ≤ 100000 := by simp; omega
  have hBz : (s.extract (cutV cs n) s.size).size ≤ 100000 := by simp; omega
  have hca : ((cs.take n.toNat).length : Int) < n := by simp; omega
  have hcl : (cs.take n.toNat).length ≤ 100000 := by
    have h1 := (encAll_len_ge cs hp0.cp).1
    have h2 := size_list s
    rw [hp0.eq] at h2
    simp at h2
    simp
    omega
  have hBe : (s.extract (cutV cs n) s.size).data.toList = encAll [] ++ rest := by rw [hBl, List.drop_eq_nil_of_le (by omega)]
  have hPB : Parts (s.extract (cutV cs n) s.size).data.toList [] rest := ⟨hBe, by simp, hp0.stop⟩
  have e0 : badV [] rest = 0 := by simp [badV, hr, encAll]
  clear hL hBe
  generalize s.extract 0 (cutV cs n) = A at *
  generalize s.extract (cutV cs n) s.size = B at *
  generalize cs.take n.toNat = ca at *
  clear hp0
  have HP : Hid (Parts A.data.toList ca []) := hpA
  have HB : Hid _ := hBl
  clear hpA hBl
  have HCUT : Hid _ := hcut
  clear hcut
  have HBAD : Hid (∀ wx : World, Calls Try.prog 15 #[.string B] wx fun e w' => e = .returned (.int .i64 0) ∧ Below wx.heap.size wx w') := by
    intro wx
    have h := bad_any B [] rest hPB wx hBz
    rw [e0] at h
    exact h
  have hq : ((ca.length : Int) == n) = false := by rw [beq_eq_false_iff_ne]; omega
  clear hPB e0 hr HB
  go_enter Try.func8, Try.ntmps8
  go_wp2_with fail
  refine Calls.mono HCUT.out ?_
  clear HCUT
  rintro e w1 ⟨rfl, hb1⟩
  have hz1 := hb1.size
  go_wp2_with fail
  refine (runes_good A ca HP.out _ hAz).mono ?_
  rintro e w2 ⟨v, rfl, ho2, hb2⟩
  have hb02 : Below w.heap.size w w2 := hb1.trans (hb2.mono hz1)
  have hz2 := hb02.size
  have hr2 := reads_of_owns ho2 rfl
  obtain ⟨x, c, hv, _, _⟩ := hr2
  subst hv
  clear hb1 hb2 ho2
  go_wp2_with fail
  refine Calls.mono (HBAD.out w2) ?_
  rintro e w3 ⟨rfl, hb3⟩
  have hb03 : Below w.heap.size w w3 := hb02.trans (hb3.mono hz2)
  have hz3 := hb03.size
  clear hb02 hb3 HBAD
  go_wp2_with fail
  refine (lives_any _).mono ?_
  rintro e w5 ⟨rfl, hb5⟩
  go_wp2
  go_ret
  exact ⟨rfl, hb03.trans (hb5.mono hz3)⟩

theorem walk (a0 : ByteArray) (a1 : Int) (w : World) (w0 : a0.size ≤ maxLen) (w1 : (Lit.int .i64 a1).wf = true) :
    Calls Try.prog 8 #[.string a0, .int .i64 a1] w fun e w' => e = .returned (.bool true) ∧ Below w.heap.size w w' := by
  by_cases h : 5000 < a0.size
  · exact walk_big a0 a1 w h
  have hb : -9223372036854775808 ≤ a1 ∧ a1 ≤ 9223372036854775807 := by simpa [Lit.wf, IntKind.min, IntKind.max, IntKind.signed, IntKind.bits] using w1
  obtain ⟨cs, rest, hp0⟩ := parts_exists a0.data.toList
  by_cases hn : a1 < 0
  · exact walk_neg a0 a1 w (by omega) hb.1 hb.2 cs rest hp0 hn
  by_cases hL : a1.toNat ≤ cs.length
  · exact walk_full a0 a1 w (by omega) hb.1 hb.2 cs rest hp0 (by omega) hL
  by_cases hr : rest = []
  · exact walk_short a0 a1 w (by omega) hb.1 hb.2 cs rest hp0 (by omega) (by omega) hr
  · exact walk_bad a0 a1 w (by omega) hb.1 hb.2 cs rest hp0 (by omega) (by omega) hr

set_option maxRecDepth 100000 in
theorem lifted (os : Os) (started : os.Started) (H : Type) (enc : TypeId × Value → H) :
    ReturnsInHanded {} Try.checked os 8 .any (Rows.glyphCutsSpec.pre6 enc Try.prog Try.f8 Rows.glyphCutsRow.domain false) (Rows.glyphCutsSpec.post enc Try.prog Try.f8 false true false false) := by
  refine returnsInHanded_of_change (C := Try.checked) own started (by kernel_rfl) Try.func8
    (ChangeSpec.witness6 (enc := enc) (C := Try.checked) false ⟨#[], #[.string ByteArray.empty, .int .i64 0], []⟩ 8 (by kernel_rfl) (by kernel_rfl) (by kernel_rfl) (by kernel_rfl)) ?_
  intro W base args ds gs before hval0 hW hcnd _
  have hval : ∀ (j : Nat) t v, Try.f8.params[j]? = some t → args[j]? = some v → Value.okWide Try.prog W .any base t v := hval0
  have hW' := hW
  obtain ⟨p, q, hA0, hV, rfl, hfz, hnd⟩ := hW
  have hA : DataW.TrodAll enc Try.prog W 0 (fun _ => true) true Try.f8.params.toList args.toList ds p := hA0
  rw [Try.params8] at hA hval
  obtain ⟨v0, vs0, d0, ds0, p0, q0, hargs, rfl, rfl, h0, r0⟩ := trodAll_cons hA
  obtain ⟨v1, vs1, d1, ds1, p1, q1, rfl, rfl, rfl, h1, r1⟩ := trodAll_cons r0
  obtain ⟨rfl, rfl, rfl⟩ := trodAll_nil r1
  obtain rfl : args = #[v0, v1] := by cases args; simp_all
  obtain ⟨rfl, rfl⟩ := trodVars_none hV
  obtain ⟨a0, rfl, rfl, rfl, w0⟩ := open_string Try.underlying9 (hval 0 9 v0 rfl rfl) h0
  obtain ⟨a1, rfl, rfl, rfl, w1⟩ := open_int Try.underlying3 (hval 1 3 v1 rfl rfl) h1
  clear hA0 hval0
  simp only [List.append_nil] at hW'
  refine (walk a0 a1 W w0 w1).mono fun e W' ⟨he, bel⟩ => ?_
  subst he
  exact ⟨_, rfl, _, _, _, [], [], [], hW', trodAll_mk1 (shut_bool Try.underlying4 _), (trodAll_cons_mk (shut_string Try.underlying9 w0) (trodAll_cons_mk (shut_int Try.underlying3 w1) trodAll_mk0)), rfl, bel.frame _, fun h => by cases h⟩

theorem over : Rows.glyphCutsRow.holds Try.pinned (OpenSpec.ofChange Rows.glyphCutsSpec) :=
  OpenClaim.holds_of_wide 8 Try.f8 rfl rfl rfl rfl rfl rfl rfl ⟨rfl, rfl, rfl, rfl, rfl⟩ rfl rfl rfl rfl rfl (by kernel_rfl) Try.func8 (by kernel_rfl)
    (of_decide_eq_true (by kernel_rfl)) (by unfold Func.isWrapper; first | (rw [if_pos (by decide +kernel)]; kernel_rfl) | (rw [if_neg (by decide +kernel)]; exact ⟨rfl, rfl⟩))
    (fun os started H enc _ => lifted os started H enc)
end Go.Proofs.Ytilmgmafhmgddaa.glyphCuts
namespace Go.Proofs.Ytilmgmafhmgddaa

theorem glyphCuts_holds : Rows.GlyphCutsSaid := glyphCuts.over
#print axioms glyphCuts_holds
end Go.Proofs.Ytilmgmafhmgddaa
