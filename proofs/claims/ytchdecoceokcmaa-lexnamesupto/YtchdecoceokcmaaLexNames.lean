/- For every text and all tokens, together of bulk at most 1048576, the law LexNames answers true: a text is a name, and a word, or not, as the document says, and the tokens are joined as it says. The condition is the statement's own bound alone. -/
import Derived.Test.YtchdecoceokcmaaRows
import Derived.Test.YtchdecoceokcmaaWL
import Derived.Test.YtchdecoceokcmaaXE
import Derived.Test.YtchdecoceokcmaaXG
import Derived.ProofKit
import Derived.OpenShut
import Derived.ShutString
import Derived.ChangeOld
import Derived.JoinedCond
namespace Go.Proofs.Ytchdecoceokcmaa.lexNames
open Go.ChangeShapes Go.WideShapes Go.ChangeAt Go.RowKit
open Go.ChangeMaps (open_string shut_string)
set_option linter.unusedVariables false

theorem own : ownKnob Try.prog.godebug = none := by kernel_rfl
theorem laidOut : laidOutB Try.prog = true := by kernel_rfl

set_option maxRecDepth 1000000 in
set_option maxHeartbeats 1000000 in
theorem walk_big (s : ByteArray) (x : Value) (l : List (Int × ByteArray × Int)) (w : World) (hx : ReadsL w x l) (h : 5000 < s.size ∨ 500 < l.length) :
    Calls Try.prog 4 #[.string s, x] w fun e w' => e = .returned (.bool true) ∧ Below w.heap.size w w' := by
  obtain ⟨a, ca, rfl, _⟩ := hx
  generalize l.length = n at *
  by_cases h5 : 5000 < s.size
  · clear h
    go_enter Try.func4, Try.ntmps4
    go_wp2_with fail
    refine (lives_any _).mono ?_
    rintro e w1 ⟨rfl, hb1⟩
    go_wp2
    go_ret
    exact ⟨rfl, hb1⟩
  · have h6 : 500 < n := by omega
    clear h
    go_enter Try.func4, Try.ntmps4
    go_wp2_with fail
    refine (lives_any _).mono ?_
    rintro e w1 ⟨rfl, hb1⟩
    go_wp2
    go_ret
    exact ⟨rfl, hb1⟩

theorem empty_own (w : World) : (w.alloc (.cells #[] 38)).ownsRow w.heap.size 38 3 (.slice (some ⟨w.heap.size, 0, none⟩) 0 0) 0 [] :=
  World.ownsRow_made w #[] 0 (Nat.le_refl _) (by decide) rfl

set_option maxRecDepth 1000000 in
set_option maxHeartbeats 1000000 in
theorem walk_small (s : ByteArray) (x : Value) (l : List (Int × ByteArray × Int)) (w : World) (hx : ReadsL w x l) (h1 : s.size ≤ 5000) (h2 : l.length ≤ 500) (hj : (jn (bys (mids l))).length ≤ 1048576) :
    Calls Try.prog 4 #[.string s, x] w fun e w' => e = .returned (.bool true) ∧ Below w.heap.size w w' := by
  have hb5 : ¬ 5000 < s.size := by omega
  have hb6 : ¬ 500 < l.length := by omega
  have HX : Hid (ReadsL w x l) := hx
  have hml : (mids l).length ≤ 100000 := by simp [mids]; omega
  have hj2 : (jn (bys (mids l))).length ≤ 140737488355328 := by omega
  have hll : l.length ≤ 100000 := by omega
  obtain ⟨a, ca, rfl, _⟩ := hx
  generalize hn : l.length = n at *
  go_enter Try.func4, Try.ntmps4
  go_wp2_with fail
  refine (name_is s _).mono ?_
  rintro e w1 ⟨rfl, hb1⟩
  go_wp2_with fail
  refine (rname_any s _ (by omega)).mono ?_
  rintro e w2 ⟨rfl, hb2⟩
  have hb02 := hb1.trans (hb2.mono hb1.size)
  clear hb1 hb2
  generalize isName s.data.toList = q at *
  go_wp2_with fail
  refine (word_any s _).mono ?_
  rintro e w3 ⟨rfl, hw3⟩
  subst hw3
  go_wp2_with fail
  refine (rword_any s _).mono ?_
  rintro e w4 ⟨rfl, hb4⟩
  have hb04 := hb02.trans (hb4.mono hb02.size)
  have HX4 : Hid (ReadsL w4 (.slice a n ca) l) := ReadsL.later HX.out hb04
  clear hb02 hb4 HX
  generalize isWord s.data.toList = q2 at *
  have hXa : ReadsL (w4.alloc (.cells #[] 38)) (.slice a n ca) l := ReadsL.later HX4.out ((Below.refl _ _).alloc (Nat.le_refl _) _)
  have HXA : Hid _ := hXa
  have hb4a : Below w.heap.size w (w4.alloc (.cells #[] 38)) := hb04.alloc hb04.size _
  have HLL : Hid (l.length ≤ 100000) := by show _ ≤ _; rw [hn]; exact hll
  clear hXa hn hll
  go_wp2_with (at_builtin; refine append_copy rfl _ _ rfl w4.heap.size _ rfl (empty_own w4) l _ rfl HXA.out HLL.out (by simp) ?_; intro v' w5 hL5 hb5; have hb05 := hb4a.trans (hb5.mono hb04.size))
  refine (join_any v' (mids l) _ hL5.texts hml hj2).mono ?_
  rintro e w6 ⟨rfl, hb6⟩
  have hb06 := hb05.trans (hb6.mono hb05.size)
  have HX6 : Hid (ReadsX w6 (.slice a n ca) (mids l)) := ReadsL.texts (ReadsL.later HX4.out ((((Below.refl _ _).alloc (Nat.le_refl _) _).trans hb5).trans (hb6.mono (by have := hb5.size; simp at this; omega))))
  clear hb05 hb5 hb6 hL5 hb04 hb4a HXA HX4
  go_wp2_with fail
  refine (rjoin_any _ (mids l) _ HX6.out hml hj2).mono ?_
  rintro e w7 ⟨rfl, hw7⟩
  subst hw7
  clear HX6 hj hj2 hml HLL
  generalize (⟨(jn (bys (mids l))).toArray⟩ : ByteArray) = J at *
  go_wp2_with fail
  refine (lives_any _).mono ?_
  rintro e w8 ⟨rfl, hb8⟩
  go_wp2
  go_ret
  exact ⟨rfl, hb06.trans (hb8.mono hb06.size)⟩

theorem walk (a0 : ByteArray) (x : Value) (l : List (Int × ByteArray × Int)) (w : World) (w1 : ReadsL w x l) (hj : (jn (bys (mids l))).length ≤ 1048576) :
    Calls Try.prog 4 #[.string a0, x] w fun e w' => e = .returned (.bool true) ∧ Below w.heap.size w w' := by
  by_cases h : 5000 < a0.size ∨ 500 < l.length
  · exact walk_big a0 x l w w1 h
  · exact walk_small a0 x l w w1 (by omega) (by omega) hj

/-- What the bound gives: the bulk of the second argument. -/
theorem short {H : Type} {d1 d2 : DataW H} (hk : Rows.uptoSmall H [d1, d2] = true) : Rows.uptoBulk d2 ≤ 1048576 := by
  have h : Rows.uptoBulkAll [d1, d2] ≤ 1048576 := of_decide_eq_true hk
  simp only [Rows.uptoBulkAll] at h
  omega

set_option maxRecDepth 100000 in
theorem lifted (os : Os) (started : os.Started) (H : Type) (enc : TypeId × Value → H) (F : Stop.Interp) :
    ReturnsInHanded {} Try.checked os 4 .any ((Rows.OpenSpec.upto Rows.lexNamesSpec).pre6 enc Try.prog Try.f4 Rows.lexNamesUptoRow.domain false) (((Rows.OpenSpec.upto Rows.lexNamesSpec).at F).post enc Try.prog Try.f4 false true false false) := by
  refine returnsInHanded_of_cond (C := Try.checked) (s := Rows.OpenSpec.upto Rows.lexNamesSpec) (k := Rows.uptoSmall) rfl own started (by kernel_rfl) Try.func4
    (OpenSpec.witness (enc := enc) (C := Try.checked) (s := Rows.OpenSpec.upto Rows.lexNamesSpec) (k := Rows.uptoSmall) rfl false ⟨#[], #[.string .empty, .slice none 0 0], []⟩ 8 (by kernel_rfl) (by kernel_rfl) (by kernel_rfl)
      (x := ([.lit (.string []), .nil], [], [])) (by kernel_rfl) rfl (by kernel_rfl)) ?_
  intro W base args ds gs before hval0 hW _ hk _
  have hval : ∀ (j : Nat) t v, Try.f4.params[j]? = some t → args[j]? = some v → Value.okWide Try.prog W .any base t v := hval0
  have hW' := hW
  obtain ⟨p, q, hA0, hV, rfl, hfz, hnd⟩ := hW
  have hA : DataW.TrodAll enc Try.prog W 0 (fun _ => true) true Try.f4.params.toList args.toList ds p := hA0
  rw [Try.params4] at hA hval
  obtain ⟨v0, vs0, d0, ds0, p0, q0, hargs, rfl, rfl, h0, r0⟩ := trodAll_cons hA
  obtain ⟨v1, vs1, d1, ds1, p1, q1, rfl, rfl, rfl, h1, r1⟩ := trodAll_cons r0
  obtain ⟨rfl, rfl, rfl⟩ := trodAll_nil r1
  obtain rfl : args = #[v0, v1] := by cases args; simp_all
  obtain ⟨rfl, rfl⟩ := trodVars_none hV
  obtain ⟨a0, rfl, rfl, rfl, w0⟩ := open_string Try.underlying9 (hval 0 9 v0 rfl rfl) h0
  obtain ⟨a1, len1, cap1, rfl⟩ := okWide_slice Try.underlying23 (hval 1 23 v1 rfl rfl)
  have k1 := h1
  have lt1 : ∀ x ∈ p1, x.block < W.heap.size := by obtain ⟨m, hm⟩ := k1; exact DataW.trod_lt m _ _ _ hm
  simp only [List.append_nil] at hk
  have hbulk := short hk
  obtain ⟨l, w1, hj⟩ : ∃ l, ReadsL W (.slice a1 len1 cap1) l ∧ (jn (bys (mids l))).length ≤ 1048576 := by
    obtain ⟨fuel, hf⟩ := h1
    obtain ⟨l, h2, h3⟩ := open_toks hf
    exact ⟨l, h2, Nat.le_trans h3 hbulk⟩
  clear hA0 hval0
  refine (walk a0 _ l W w1 hj).mono fun e W' ⟨he, bel⟩ => ?_
  subst he
  exact ⟨_, rfl, _, _, _, [], _, [], hW', trodAll_mk1 (shut_bool Try.underlying4 _), (trodAll_cons_mk (shut_string Try.underlying9 w0) (trodAll_cons_mk (Below.trod laidOut (by kernel_rfl) (of_decide_eq_true (by kernel_rfl)) k1 bel lt1) trodAll_mk0)), rfl, bel.frame _, fun h => by cases h⟩

theorem over : Rows.LexNamesUptoSaid :=
  OpenClaim.holds_of_cond 4 Try.f4 rfl rfl rfl rfl rfl rfl rfl ⟨rfl, rfl, rfl, rfl, rfl⟩ rfl rfl rfl rfl rfl (by kernel_rfl) Try.func4 (by kernel_rfl)
    (of_decide_eq_true (by kernel_rfl)) (by unfold Func.isWrapper; first | (rw [if_pos (by decide +kernel)]; kernel_rfl) | (rw [if_neg (by decide +kernel)]; exact ⟨rfl, rfl⟩))
    (fun os started H enc _ F => lifted os started H enc F)
end Go.Proofs.Ytchdecoceokcmaa.lexNames
namespace Go.Proofs.Ytchdecoceokcmaa

theorem lexNamesUpto_holds : Rows.LexNamesUptoSaid := lexNames.over
#print axioms lexNamesUpto_holds
end Go.Proofs.Ytchdecoceokcmaa
