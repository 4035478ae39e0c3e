/- For every text the law LexStops answers true: what stands ahead of the place of an error is no error, and from there on the text is refused at its beginning by the same error. No condition. -/
import Derived.Test.YtchdecoceokcmaaRows
import Derived.Test.YtchdecoceokcmaaWL
import Derived.Test.YtchdecoceokcmaaMe
import Derived.ProofKit
import Derived.OpenShut
import Derived.ShutString
import Derived.ChangeOld
namespace Go.Proofs.Ytchdecoceokcmaa.lexStops
open Go.ChangeShapes Go.WideShapes Go.ChangeAt Go.RowKit
open Go.ChangeMaps (open_string shut_string)
set_option linter.unusedVariables false

theorem own : ownKnob Try.prog.godebug = none := by kernel_rfl
theorem laidOut : laidOutB Try.prog = true := by kernel_rfl

set_option maxRecDepth 1000000 in
set_option maxHeartbeats 1000000 in
theorem walk_big (s : ByteArray) (w : World) (h : 5000 < s.size) :
    Calls Try.prog 8 #[.string s] w fun e w' => e = .returned (.bool true) ∧ Below w.heap.size w w' := by
  go_enter Try.func8, Try.ntmps8
  go_wp2_with fail
  refine (lives_any _).mono ?_
  rintro e w1 ⟨rfl, hb1⟩
  go_wp2
  go_ret
  exact ⟨rfl, hb1⟩

set_option maxRecDepth 1000000 in
set_option maxHeartbeats 1000000 in
theorem walk_ok (s : ByteArray) (cs : List Int) (rest : List UInt8) (hp0 : Parts s.data.toList cs rest) (w : World) (hs : s.size ≤ 5000) (he : (lexR cs rest).err = 0) :
    Calls Try.prog 8 #[.string s] w fun e w' => e = .returned (.bool true) ∧ Below w.heap.size w w' := by
  have hbig : ¬ 5000 < s.size := by omega
  have HL : Hid _ := lex_any s cs rest hp0 w (by omega)
  have hpl : (lexR cs rest).place = s.size := by
    have hz := size_list s
    unfold lexR at he ⊢
    cases hg : goS sc0 0 cs with
    | ok st =>
      rw [hg] at he
      by_cases hr : rest = []
      · rw [hp0.eq, hr] at hz
        simp [hr]
        simpa using hz
      · simp [hr] at he
    | err p e =>
      rw [hg] at he
      have h := goS_err cs sc0 0 p e hg
      obtain ⟨d, c, todo, st, _, _, h3⟩ := h
      have := step_e h3
      simp only at he
      rw [he] at this
      cases this
  clear hp0
  generalize lexR cs rest = r at *
  obtain ⟨toks, place, err⟩ := r
  simp only at he hpl
  subst he
  subst hpl
  go_enter Try.func8, Try.ntmps8
  go_wp2_with fail
  refine Calls.mono HL.out ?_
  rintro e w1 ⟨v, rfl, hown, hb1⟩
  clear HL hown
  go_wp2_with fail
  refine (lives_any _).mono ?_
  rintro e w2 ⟨rfl, hb2⟩
  go_wp2
  go_ret
  exact ⟨rfl, hb1.trans (hb2.mono hb1.size)⟩

set_option maxRecDepth 1000000 in
set_option maxHeartbeats 1000000 in
theorem walk_err (s : ByteArray) (cs : List Int) (rest : List UInt8) (hp0 : Parts s.data.toList cs rest) (w : World) (hs : s.size ≤ 5000) (he : (lexR cs rest).err ≠ 0) :
    Calls Try.prog 8 #[.string s] w fun e w' => e = .returned (.bool true) ∧ Below w.heap.size w w' := by
  have hbig : ¬ 5000 < s.size := by omega
  have hz := size_list s
  have HL : Hid _ := lex_any s cs rest hp0 w (by omega)
  obtain ⟨ht, d, cs2, hcs, hpl, hd0, hd2, hlt⟩ := lex_stops cs rest hp0.cp he
  have hpz : (encAll d).length < s.size := by rw [← hz, hp0.eq]; exact hlt
  have hA : (s.extract 0 (encAll d).length).data.toList = encAll d := by
    rw [Lib.extract_data, hp0.eq, hcs, encAll_append]
    simp
  have hB : (s.extract (encAll d).length s.size).data.toList = encAll cs2 ++ rest := by
    rw [Lib.extract_data, ← hz, hp0.eq, hcs, encAll_append]
    simp
    rw [List.take_of_length_le (by simp)]
  have hPA : Parts (s.extract 0 (encAll d).length).data.toList d [] := ⟨by rw [hA]; simp, fun c hc => hp0.cp c (by rw [hcs]; simp [hc]), .inl rfl⟩
  have hPB : Parts (s.extract (encAll d).length s.size).data.toList cs2 rest := ⟨hB, fun c hc => hp0.cp c (by rw [hcs]; simp [hc]), hp0.stop⟩
  have HA : Hid _ := fun wx => lex_any _ d [] hPA wx (by simp; omega)
  have HB : Hid _ := fun wx => lex_any _ cs2 rest hPB wx (by simp; omega)
  have HD2 : Hid _ := hd2
  have heb : ((lexR cs rest).err == 0) = false := by rw [beq_eq_false_iff_ne]; exact he
  clear hp0 hA hB hPA hPB hlt hcs he hz
  generalize lexR cs rest = r at *
  obtain ⟨toks, place, err⟩ := r
  simp only at ht hpl heb
  subst ht
  subst hpl
  generalize (encAll d).length = place at *
  generalize lexR d [] = ra at *
  obtain ⟨toksA, placeA, errA⟩ := ra
  simp only at hd0
  subst hd0
  clear hd2
  go_enter Try.func8, Try.ntmps8
  go_wp2_with fail
  refine Calls.mono HL.out ?_
  rintro e w1 ⟨v, rfl, hown, hb1⟩
  clear HL
  obtain ⟨a, cap, rfl, _⟩ := readsT_of_owns hown
  clear hown
  go_wp2_with fail
  refine Calls.mono (HA.out _) ?_
  rintro e w2 ⟨v2, rfl, hown2, hb2⟩
  have hb02 := hb1.trans (hb2.mono hb1.size)
  clear hb1 hb2 HA hown2
  go_wp2_with fail
  refine Calls.mono (HB.out _) ?_
  rw [HD2.out]
  rintro e w3 ⟨v3, rfl, hown3, hb3⟩
  have hb03 := hb02.trans (hb3.mono hb02.size)
  clear hb02 hb3 HB hown3
  go_wp2_with fail
  refine (lives_any _).mono ?_
  rintro e w4 ⟨rfl, hb4⟩
  go_wp2
  go_ret
  exact ⟨rfl, hb03.trans (hb4.mono hb03.size)⟩

theorem walk (s : ByteArray) (w : World) (w0 : s.size ≤ maxLen) :
    Calls Try.prog 8 #[.string s] w fun e w' => e = .returned (.bool true) ∧ Below w.heap.size w w' := by
  by_cases hb : 5000 < s.size
  · exact walk_big s w hb
  · obtain ⟨cs, rest, hp⟩ := parts_exists s.data.toList
    by_cases he : (lexR cs rest).err = 0
    · exact walk_ok s cs rest hp w (by omega) he
    · exact walk_err s cs rest hp w (by omega) he

set_option maxRecDepth 100000 in
theorem lifted (os : Os) (started : os.Started) (H : Type) (enc : TypeId × Value → H) :
    ReturnsInHanded {} Try.checked os 8 .any (Rows.lexStopsSpec.pre6 enc Try.prog Try.f8 Rows.lexStopsRow.domain false) (Rows.lexStopsSpec.post enc Try.prog Try.f8 false true false false) := by
  refine returnsInHanded_of_change (C := Try.checked) own started (by kernel_rfl) Try.func8
    (ChangeSpec.witness6 (enc := enc) (C := Try.checked) false ⟨#[], #[.string ByteArray.empty], []⟩ 8 (by kernel_rfl) (by kernel_rfl) (by kernel_rfl) (by kernel_rfl)) ?_
  intro W base args ds gs before hval0 hW hcnd _
  have hval : ∀ (j : Nat) t v, Try.f8.params[j]? = some t → args[j]? = some v → Value.okWide Try.prog W .any base t v := hval0
  have hW' := hW
  obtain ⟨p, q, hA0, hV, rfl, hfz, hnd⟩ := hW
  have hA : DataW.TrodAll enc Try.prog W 0 (fun _ => true) true Try.f8.params.toList args.toList ds p := hA0
  rw [Try.params8] at hA hval
  obtain ⟨v0, vs0, d0, ds0, p0, q0, hargs, rfl, rfl, h0, r0⟩ := trodAll_cons hA
  obtain ⟨rfl, rfl, rfl⟩ := trodAll_nil r0
  obtain rfl : args = #[v0] := by cases args; simp_all
  obtain ⟨rfl, rfl⟩ := trodVars_none hV
  obtain ⟨a0, rfl, rfl, rfl, w0⟩ := open_string Try.underlying9 (hval 0 9 v0 rfl rfl) h0
  clear hA0 hval0
  simp only [List.append_nil] at hW'
  refine (walk a0 W w0).mono fun e W' ⟨he, bel⟩ => ?_
  subst he
  exact ⟨_, rfl, _, _, _, [], [], [], hW', trodAll_mk1 (shut_bool Try.underlying4 _), (trodAll_cons_mk (shut_string Try.underlying9 w0) trodAll_mk0), rfl, bel.frame _, fun h => by cases h⟩

theorem over : Rows.lexStopsRow.holds Try.pinned (OpenSpec.ofChange Rows.lexStopsSpec) :=
  OpenClaim.holds_of_wide 8 Try.f8 rfl rfl rfl rfl rfl rfl rfl ⟨rfl, rfl, rfl, rfl, rfl⟩ rfl rfl rfl rfl rfl (by kernel_rfl) Try.func8 (by kernel_rfl)
    (of_decide_eq_true (by kernel_rfl)) (by unfold Func.isWrapper; first | (rw [if_pos (by decide +kernel)]; kernel_rfl) | (rw [if_neg (by decide +kernel)]; exact ⟨rfl, rfl⟩))
    (fun os started H enc _ => lifted os started H enc)
end Go.Proofs.Ytchdecoceokcmaa.lexStops
namespace Go.Proofs.Ytchdecoceokcmaa

theorem lexStops_holds : Rows.LexStopsSaid := lexStops.over
#print axioms lexStops_holds
end Go.Proofs.Ytchdecoceokcmaa
