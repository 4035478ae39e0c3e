/- Two right texts, one behind the other, have the code points of both: for every two strings, with no condition. -/
import Derived.Test.YtilmgmafhmgddaaRows
import Derived.Test.YtilmgmafhmgddaaWL
import Derived.Test.YtilmgmafhmgddaaWX
import Derived.Test.YtilmgmafhmgddaaWY
import Derived.ProofKit
import Derived.OpenShut
import Derived.ShutString
import Derived.ChangeOld
namespace Go.Proofs.Ytilmgmafhmgddaa.glyphJoins
open Go.ChangeShapes Go.WideShapes Go.ChangeAt Go.RowKit
open Go.ChangeMaps (open_string shut_string)
set_option linter.unusedVariables false

theorem own : ownKnob Try.prog.godebug = none := by kernel_rfl
theorem laidOut : laidOutB Try.prog = true := by kernel_rfl

set_option maxRecDepth 1000000 in
set_option maxHeartbeats 1000000 in
theorem walk_big (s t : ByteArray) (w : World) (h : 5000 < s.size ∨ 5000 < t.size) :
    Calls Try.prog 7 #[.string s, .string t] w fun e w' => e = .returned (.bool true) ∧ Below w.heap.size w w' := by
  by_cases h1 : 5000 < s.size
  · clear h
    go_enter Try.func7, Try.ntmps7
    go_wp2_with fail
    refine (lives_any _).mono ?_
    rintro e w1 ⟨rfl, hb1⟩
    go_wp2
    go_ret
    exact ⟨rfl, hb1⟩
  · have h2 : 5000 < t.size := h.resolve_left h1
    clear h
    go_enter Try.func7, Try.ntmps7
    go_wp2_with fail
    refine (lives_any _).mono ?_
    rintro e w1 ⟨rfl, hb1⟩
    go_wp2
    go_ret
    exact ⟨rfl, hb1⟩

set_option maxRecDepth 1000000 in
set_option maxHeartbeats 1000000 in
theorem walk_b (s t : ByteArray) (w : World) (hs : s.size ≤ 5000) (ht : t.size ≤ 5000) (cs : List Int) (rest : List UInt8) (hp0 : Parts s.data.toList cs rest) (hr : rest ≠ [])
    (ct : List Int) (rt : List UInt8) (hp1 : Parts t.data.toList ct rt) :
    Calls Try.prog 7 #[.string s, .string t] w fun e w' => e = .returned (.bool true) ∧ Below w.heap.size w w' := by
  have hn1 : ¬ 5000 < s.size := by omega
  have hn2 : ¬ 5000 < t.size := by omega
  have HR : Hid (rest ≠ []) := hr
  clear hr
  by_cases hq : rt = []
  · subst hq
    go_enter Try.func7, Try.ntmps7
    go_wp2_with fail
    refine (runes_bad s cs rest hp0 HR.out _ (by omega)).mono ?_
    rintro e w1 ⟨rfl, hb1⟩
    have hz1 := hb1.size
    go_wp2_with fail
    refine (runes_good t ct hp1 _ (by omega)).mono ?_
    rintro e w2 ⟨v, rfl, _, hb2⟩
    have hb02 : Below w.heap.size w w2 := hb1.trans (hb2.mono hz1)
    have hz2 := hb02.size
    clear hb1 hb2
    go_wp2_with fail
    refine (lives_any _).mono ?_
    rintro e w3 ⟨rfl, hb3⟩
    go_wp2
    go_ret
    exact ⟨rfl, hb02.trans (hb3.mono hz2)⟩
  · have HQ : Hid (rt ≠ []) := hq
    clear hq
    go_enter Try.func7, Try.ntmps7
    go_wp2_with fail
    refine (runes_bad s cs rest hp0 HR.out _ (by omega)).mono ?_
    rintro e w1 ⟨rfl, hb1⟩
    have hz1 := hb1.size
    go_wp2_with fail
    refine (runes_bad t ct rt hp1 HQ.out _ (by omega)).mono ?_
    rintro e w2 ⟨rfl, hb2⟩
    have hb02 : Below w.heap.size w w2 := hb1.trans (hb2.mono hz1)
    have hz2 := hb02.size
    clear hb1 hb2
    go_wp2_with fail
    refine (lives_any _).mono ?_
    rintro e w3 ⟨rfl, hb3⟩
    go_wp2
    go_ret
    exact ⟨rfl, hb02.trans (hb3.mono hz2)⟩

set_option maxRecDepth 1000000 in
set_option maxHeartbeats 1000000 in
theorem walk_gb (s t : ByteArray) (w : World) (hs : s.size ≤ 5000) (ht : t.size ≤ 5000) (cs : List Int) (hp0 : Parts s.data.toList cs [])
    (ct : List Int) (rt : List UInt8) (hp1 : Parts t.data.toList ct rt) (hq : rt ≠ []) :
    Calls Try.prog 7 #[.string s, .string t] w fun e w' => e = .returned (.bool true) ∧ Below w.heap.size w w' := by
  have hn1 : ¬ 5000 < s.size := by omega
  have hn2 : ¬ 5000 < t.size := by omega
  have HQ : Hid (rt ≠ []) := hq
  clear hq
  go_enter Try.func7, Try.ntmps7
  go_wp2_with fail
  refine (runes_good s cs hp0 _ (by omega)).mono ?_
  rintro e w1 ⟨v, rfl, _, hb1⟩
  have hz1 := hb1.size
  go_wp2_with fail
  refine (runes_bad t ct rt hp1 HQ.out _ (by omega)).mono ?_
  rintro e w2 ⟨rfl, hb2⟩
  have hb02 : Below w.heap.size w w2 := hb1.trans (hb2.mono hz1)
  have hz2 := hb02.size
  clear hb1 hb2
  go_wp2_with fail
  refine (lives_any _).mono ?_
  rintro e w3 ⟨rfl, hb3⟩
  go_wp2
  go_ret
  exact ⟨rfl, hb02.trans (hb3.mono hz2)⟩

theorem cps_le (s : ByteArray) (cs : List Int) (rest : List UInt8) (hp : Parts s.data.toList cs rest) : cs.length ≤ s.size := by
  have h1 := (encAll_len_ge cs hp.cp).1
  have h2 := size_list s
  rw [hp.eq] at h2
  simp at h2
  omega

theorem ivs_append (a b : List Int) : ivs (a ++ b) = ivs a ++ ivs b := by simp [ivs]

set_option maxRecDepth 1000000 in
set_option maxHeartbeats 1000000 in
theorem walk_gg (s t : ByteArray) (w : World) (hs : s.size ≤ 5000) (ht : t.size ≤ 5000) (cs : List Int) (hp0 : Parts s.data.toList cs [])
    (ct : List Int) (hp1 : Parts t.data.toList ct []) :
    Calls Try.prog 7 #[.string s, .string t] w fun e w' => e = .returned (.bool true) ∧ Below w.heap.size w w' := by
  have hn1 : ¬ 5000 < s.size := by omega
  have hn2 : ¬ 5000 < t.size := by omega
  have hc1 := cps_le s cs [] hp0
  have hc2 := cps_le t ct [] hp1
  have HPJ : Hid (Parts (s ++ t).data.toList (cs ++ ct) []) := by
    refine ⟨?_, ?_, .inl rfl⟩
    · rw [ba_append, hp0.eq, hp1.eq, encAll_append]
      simp
    · intro c hc
      rcases List.mem_append.1 hc with h | h
      · exact hp0.cp c h
      · exact hp1.cp c h
  have hj : (s ++ t).size ≤ 100000 := by simp; omega
  go_enter Try.func7, Try.ntmps7
  go_wp2_with fail
  refine (runes_good s cs hp0 _ (by omega)).mono ?_
  rintro e w1 ⟨v1, rfl, ho1, hb1⟩
  have hz1 := hb1.size
  have hr1 := reads_of_owns ho1 rfl
  clear ho1
  obtain ⟨x1, c1, rfl, _⟩ : ∃ x c, v1 = .slice x cs.length c ∧ True := by
    obtain ⟨x, c, h, _⟩ := hr1
    exact ⟨x, c, h, trivial⟩
  go_wp2_with fail
  refine (runes_good t ct hp1 _ (by omega)).mono ?_
  rintro e w2 ⟨v2, rfl, ho2, hb2⟩
  have hr2 := reads_of_owns ho2 rfl
  obtain ⟨x2, c2, rfl, _⟩ : ∃ x c, v2 = .slice x ct.length c ∧ True := by
    obtain ⟨x, c, h, _⟩ := hr2
    exact ⟨x, c, h, trivial⟩
  have hr12 := hr1.later hb2
  have hb02 : Below w.heap.size w w2 := hb1.trans (hb2.mono hz1)
  have hz2 := hb02.size
  clear hb1 hb2 ho2 hr1
  go_wp2_with fail
  refine (runes_good (s ++ t) (cs ++ ct) HPJ.out _ hj).mono ?_
  rintro e w3 ⟨v3, rfl, ho3, hb3⟩
  have hr3 := reads_of_owns ho3 rfl
  have hr13 := hr12.later hb3
  have hr23 := hr2.later hb3
  have hb03 : Below w.heap.size w w3 := hb02.trans (hb3.mono hz2)
  have hz3 := hb03.size
  clear hb02 hb3 ho3 hr12 hr2
  have hcl1 : cs.length ≤ 100000 := by omega
  have hcl2 : ct.length ≤ 100000 := by omega
  have hcl3 : (cs ++ ct).length ≤ 100000 := by simp; omega
  clear hp0 hp1 hc1 hc2
  go_wp2_with (first
    | (at_builtin; refine append_reads rfl _ _ rfl w3.heap.size (.slice (some ⟨w3.heap.size, 0, none⟩) 0 0) 0 [] rfl (World.ownsRow_made _ #[] 0 (Nat.le_refl _) (by decide) rfl) (.slice x1 cs.length c1) cs rfl (hr13.later ((Below.refl _ _).alloc (Nat.le_refl _) _)) (by decide) hcl1 (by simp) ?_; intro v4 w4 ho4 hg4; have X4 : Hid (w4.ownsRow w3.heap.size 3 1 v4 (0 + cs.length) ([] ++ ivs cs) ∧ Below w3.heap.size w3 w4) := ⟨ho4, by
        refine Below.grown ((Below.refl _ _).alloc (Nat.le_refl _) _) hg4 (by simp) ?_
        intro j hj
        simp [Value.ownBlock] at hj
        omega⟩; clear ho4 hg4)
    | (at_builtin; refine append_reads rfl _ _ rfl w3.heap.size v4 (0 + cs.length) ([] ++ ivs cs) rfl X4.out.1 (.slice x2 ct.length c2) ct rfl (hr23.later X4.out.2) (by omega) hcl2 X4.out.2.size ?_; intro v5 w5 ho5 hg5; have X5 : Hid (w5.ownsRow w3.heap.size 3 1 v5 (0 + cs.length + ct.length) ([] ++ ivs cs ++ ivs ct) ∧ Below w3.heap.size w3 w5) := ⟨ho5, Below.grown X4.out.2 hg5 X4.out.2.size (fun j hj => (X4.out.1.lt _ hj).1)⟩; clear ho5 hg5))
  have hr5 : Reads w5 v5 (cs ++ ct) := by
    refine reads_of_owns (B := w3.heap.size) (n := 0 + cs.length + ct.length) ?_ (by simp)
    rw [ivs_append]
    simpa using X5.out.1
  have hb35 := X5.out.2
  have hb05 : Below w.heap.size w w5 := hb03.trans (hb35.mono hz3)
  have hz5 := hb05.size
  have hr35 := hr3.later hb35
  clear X4 X5 hr13 hr23 hr3 hb03
  refine (same_eq v3 v5 (cs ++ ct) _ hr35 hr5 hcl3).mono ?_
  rintro e w6 ⟨rfl, n6, rfl⟩
  have hb6 : Below w.heap.size w (w5.drewN n6) := below_drewN hb05 n6
  have hz6 := hb6.size
  clear hr35 hr5 hb05 hb35
  generalize w5.drewN n6 = w6 at *
  go_wp2_with fail
  refine (lives_any _).mono ?_
  rintro e w7 ⟨rfl, hb7⟩
  go_wp2
  go_ret
  exact ⟨rfl, hb6.trans (hb7.mono hz6)⟩

theorem walk (a0 : ByteArray) (a1 : ByteArray) (w : World) (w0 : a0.size ≤ maxLen) (w1 : a1.size ≤ maxLen) :
    Calls Try.prog 7 #[.string a0, .string a1] w fun e w' => e = .returned (.bool true) ∧ Below w.heap.size w w' := by
  by_cases h : 5000 < a0.size ∨ 5000 < a1.size
  · exact walk_big a0 a1 w h
  obtain ⟨cs, rest, hp0⟩ := parts_exists a0.data.toList
  obtain ⟨ct, rt, hp1⟩ := parts_exists a1.data.toList
  by_cases hr : rest = []
  · subst hr
    by_cases hq : rt = []
    · subst hq
      exact walk_gg a0 a1 w (by omega) (by omega) cs hp0 ct hp1
    · exact walk_gb a0 a1 w (by omega) (by omega) cs hp0 ct rt hp1 hq
  · exact walk_b a0 a1 w (by omega) (by omega) cs rest hp0 hr ct rt hp1

set_option maxRecDepth 100000 in
theorem lifted (os : Os) (started : os.Started) (H : Type) (enc : TypeId × Value → H) :
    ReturnsInHanded {} Try.checked os 7 .any (Rows.glyphJoinsSpec.pre6 enc Try.prog Try.f7 Rows.glyphJoinsRow.domain false) (Rows.glyphJoinsSpec.post enc Try.prog Try.f7 false true false false) := by
  refine returnsInHanded_of_change (C := Try.checked) own started (by kernel_rfl) Try.func7
    (ChangeSpec.witness6 (enc := enc) (C := Try.checked) false ⟨#[], #[.string ByteArray.empty, .string ByteArray.empty], []⟩ 8 (by kernel_rfl) (by kernel_rfl) (by kernel_rfl) (by kernel_rfl)) ?_
  intro W base args ds gs before hval0 hW hcnd _
  have hval : ∀ (j : Nat) t v, Try.f7.params[j]? = some t → args[j]? = some v → Value.okWide Try.prog W .any base t v := hval0
  have hW' := hW
  obtain ⟨p, q, hA0, hV, rfl, hfz, hnd⟩ := hW
  have hA : DataW.TrodAll enc Try.prog W 0 (fun _ => true) true Try.f7.params.toList args.toList ds p := hA0
  rw [Try.params7] at hA hval
  obtain ⟨v0, vs0, d0, ds0, p0, q0, hargs, rfl, rfl, h0, r0⟩ := trodAll_cons hA
  obtain ⟨v1, vs1, d1, ds1, p1, q1, rfl, rfl, rfl, h1, r1⟩ := trodAll_cons r0
  obtain ⟨rfl, rfl, rfl⟩ := trodAll_nil r1
  obtain rfl : args = #[v0, v1] := by cases args; simp_all
  obtain ⟨rfl, rfl⟩ := trodVars_none hV
  obtain ⟨a0, rfl, rfl, rfl, w0⟩ := open_string Try.underlying9 (hval 0 9 v0 rfl rfl) h0
  obtain ⟨a1, rfl, rfl, rfl, w1⟩ := open_string Try.underlying9 (hval 1 9 v1 rfl rfl) h1
  clear hA0 hval0
  simp only [List.append_nil] at hW'
  refine (walk a0 a1 W w0 w1).mono fun e W' ⟨he, bel⟩ => ?_
  subst he
  exact ⟨_, rfl, _, _, _, [], [], [], hW', trodAll_mk1 (shut_bool Try.underlying4 _), (trodAll_cons_mk (shut_string Try.underlying9 w0) (trodAll_cons_mk (shut_string Try.underlying9 w1) trodAll_mk0)), rfl, bel.frame _, fun h => by cases h⟩

theorem over : Rows.glyphJoinsRow.holds Try.pinned (OpenSpec.ofChange Rows.glyphJoinsSpec) :=
  OpenClaim.holds_of_wide 7 Try.f7 rfl rfl rfl rfl rfl rfl rfl ⟨rfl, rfl, rfl, rfl, rfl⟩ rfl rfl rfl rfl rfl (by kernel_rfl) Try.func7 (by kernel_rfl)
    (of_decide_eq_true (by kernel_rfl)) (by unfold Func.isWrapper; first | (rw [if_pos (by decide +kernel)]; kernel_rfl) | (rw [if_neg (by decide +kernel)]; exact ⟨rfl, rfl⟩))
    (fun os started H enc _ => lifted os started H enc)
end Go.Proofs.Ytilmgmafhmgddaa.glyphJoins
namespace Go.Proofs.Ytilmgmafhmgddaa

theorem glyphJoins_holds : Rows.GlyphJoinsSaid := glyphJoins.over
#print axioms glyphJoins_holds
end Go.Proofs.Ytilmgmafhmgddaa
