/- For every text and number the law LexCuts answers true: of a text that is cut off where a token ends, and no longer name goes on, the tokens are the first ones. No condition. -/
import Derived.Test.YtchdecoceokcmaaRows
import Derived.Test.YtchdecoceokcmaaWL
import Derived.Test.YtchdecoceokcmaaMe
import Derived.ProofKit
import Derived.OpenShut
import Derived.ShutString
import Derived.ChangeOld
namespace Go.Proofs.Ytchdecoceokcmaa.lexCuts
open Go.ChangeShapes Go.WideShapes Go.ChangeAt Go.RowKit
open Go.ChangeMaps (open_string shut_string)
set_option linter.unusedVariables false

theorem own : ownKnob Try.prog.godebug = none := by kernel_rfl
theorem laidOut : laidOutB Try.prog = true := by kernel_rfl

set_option maxRecDepth 1000000 in
set_option maxHeartbeats 1000000 in
theorem walk_big (s : ByteArray) (k : Int) (w : World) (h : 5000 < s.size) :
    Calls Try.prog 7 #[.string s, .int .i64 k] w fun e w' => e = .returned (.bool true) ∧ Below w.heap.size w w' := by
  go_enter Try.func7, Try.ntmps7
  go_wp2_with fail
  refine (lives_any _).mono ?_
  rintro e w1 ⟨rfl, hb1⟩
  go_wp2
  go_ret
  exact ⟨rfl, hb1⟩

set_option maxRecDepth 1000000 in
set_option maxHeartbeats 1000000 in
theorem walk_err (s : ByteArray) (k : Int) (cs : List Int) (rest : List UInt8) (hp0 : Parts s.data.toList cs rest) (w : World) (hs : s.size ≤ 5000) (he : (lexR cs rest).err ≠ 0) :
    Calls Try.prog 7 #[.string s, .int .i64 k] w fun e w' => e = .returned (.bool true) ∧ Below w.heap.size w w' := by
  have hbig : ¬ 5000 < s.size := by omega
  have HL : Hid _ := lex_any s cs rest hp0 w (by omega)
  have heb : ((lexR cs rest).err == 0) = false := by rw [beq_eq_false_iff_ne]; exact he
  have hec : ((lexR cs rest).err != 0) = true := by rw [bne_iff_ne]; exact he
  clear hp0 he
  generalize lexR cs rest = r at *
  obtain ⟨toks, place, err⟩ := r
  simp only at heb hec
  go_enter Try.func7, Try.ntmps7
  go_wp2_with fail
  refine Calls.mono HL.out ?_
  rintro e w1 ⟨v, rfl, hown, hb1⟩
  clear HL hown
  go_wp2_with fail
  refine (lives_any _).mono ?_
  rintro e w2 ⟨rfl, hb2⟩
  go_wp2
  go_ret
  exact ⟨rfl, hb1.trans (hb2.mono hb1.size)⟩

set_option maxRecDepth 1000000 in
set_option maxHeartbeats 1000000 in
theorem walk_none (s : ByteArray) (k : Int) (cs : List Int) (rest : List UInt8) (hp0 : Parts s.data.toList cs rest) (w : World) (hs : s.size ≤ 5000) (he : (lexR cs rest).err = 0) (ht : (lexR cs rest).toks = []) :
    Calls Try.prog 7 #[.string s, .int .i64 k] w fun e w' => e = .returned (.bool true) ∧ Below w.heap.size w w' := by
  have hbig : ¬ 5000 < s.size := by omega
  have HL : Hid _ := lex_any s cs rest hp0 w (by omega)
  clear hp0
  generalize lexR cs rest = r at *
  obtain ⟨toks, place, err⟩ := r
  simp only at he ht
  subst he
  subst ht
  go_enter Try.func7, Try.ntmps7
  go_wp2_with fail
  refine Calls.mono HL.out ?_
  rintro e w1 ⟨v, rfl, hown, hb1⟩
  obtain ⟨a, cap, rfl, _⟩ := readsT_of_owns hown
  clear HL hown
  go_wp2_with fail
  refine (lives_any _).mono ?_
  rintro e w2 ⟨rfl, hb2⟩
  go_wp2
  go_ret
  exact ⟨rfl, hb1.trans (hb2.mono hb1.size)⟩

theorem wrap_small (x : Int) (h0 : 0 ≤ x) (h1 : x ≤ 1000000) : IntKind.i64.wrap x = x := by
  have h : IntKind.i64.wrap x = (x + 9223372036854775808) % 18446744073709551616 - 9223372036854775808 := by
    simp [IntKind.wrap, IntKind.bits, IntKind.signed]
    split <;> omega
  rw [h]
  omega

theorem pick_index (k : Int) (n : Nat) (h0 : 0 < n) (hn : n ≤ 100000) : ∃ i : Nat, i < n ∧ wrap64 ((IntKind.u64.wrap k).tmod (n : Int)) = (i : Int) := by
  have hu : IntKind.u64.wrap k = k % 18446744073709551616 := by simp [IntKind.wrap, IntKind.bits, IntKind.signed]
  have h1 : 0 ≤ k % 18446744073709551616 := Int.emod_nonneg _ (by decide)
  rw [hu, Int.tmod_eq_emod_of_nonneg h1]
  generalize k % 18446744073709551616 = m at *
  have h2 : 0 ≤ m % (n : Int) := Int.emod_nonneg _ (by omega)
  have h3 : m % (n : Int) < (n : Int) := Int.emod_lt_of_pos _ (by omega)
  generalize m % (n : Int) = q at *
  refine ⟨q.toNat, by omega, ?_⟩
  unfold wrap64
  omega

theorem readsT_take {w : World} {a : Option Addr} {n cap : Nat} {l : List Tok} (h : ReadsT w (.slice a n cap) l) (i : Nat) (hi : i < l.length) : ReadsT w (.slice a (i + 1) cap) (l.take (i + 1)) := by
  obtain ⟨a', cap', hv, hn, hc, hr⟩ := h
  simp only [Value.slice.injEq] at hv
  obtain ⟨rfl, _, rfl⟩ := hv
  have hlen : (l.take (i + 1)).length = i + 1 := by simp; omega
  refine ⟨a, cap, by rw [hlen], hn, by omega, fun j t hj => hr j t ?_⟩
  rw [List.getElem?_take] at hj
  split at hj
  · exact hj
  · cases hj

set_option maxRecDepth 1000000 in
set_option maxHeartbeats 1000000 in
theorem walk_some (s : ByteArray) (k : Int) (cs : List Int) (hp0 : Parts s.data.toList cs []) (w : World) (hs : s.size ≤ 5000) (hk1 : -9223372036854775808 ≤ k) (hk2 : k ≤ 9223372036854775807) (st : Sc) (hg : goS sc0 0 cs = .ok st) (hne : st.toks ≠ []) :
    Calls Try.prog 7 #[.string s, .int .i64 k] w fun e w' => e = .returned (.bool true) ∧ Below w.heap.size w w' := by
  have hbig : ¬ 5000 < s.size := by omega
  have hz := size_list s
  have HL : Hid _ := lex_any s cs [] hp0 w (by omega)
  rw [lexR_ok hg] at HL
  have hpos := List.length_pos_iff.2 hne
  have hlz := toks_len cs hp0.cp st hg
  have hE : (encAll cs).length = s.size := by rw [← hz, hp0.eq]; simp
  rw [hE] at hlz HL
  generalize hn : st.toks.length = n at *
  have HN : Hid (st.toks.length = n) := hn
  have hn0 : ((n : Int) == 0) = false := by rw [beq_eq_false_iff_ne]; omega
  obtain ⟨i, hi, hiw⟩ := pick_index k n hpos (by omega)
  obtain ⟨t, ht⟩ : ∃ t, st.toks[i]? = some t := ⟨_, List.getElem?_eq_getElem (by omega)⟩
  obtain ⟨d1, d2, st1, f1, f2, f3, f4⟩ := lex_cuts cs st hg i t ht
  have hE1 : (encAll d1).length ≤ s.size := by rw [← hE, f1, encAll_append]; simp
  have hA : (s.extract 0 (encAll d1).length).data.toList = encAll d1 := by
    rw [Lib.extract_data, hp0.eq, f1, encAll_append]
    simp
  have hPA : Parts (s.extract 0 (encAll d1).length).data.toList d1 [] := ⟨by rw [hA]; simp, fun c hc => hp0.cp c (by rw [f1]; simp [hc]), .inl rfl⟩
  have hLA := fun wx => lex_any _ d1 [] hPA wx (by simp; omega)
  rw [lexR_ok f2, f3] at hLA
  have HLA : Hid _ := hLA
  have hlt : (st.toks.take (i + 1)).length ≤ 100000 := by simp; omega
  have hil : i < st.toks.length := by omega
  generalize (encAll d1).length = E at *
  clear hp0 hg f1 f2 f3 hA hPA hLA hE hz hne
  go_enter Try.func7, Try.ntmps7
  go_wp2_with fail
  refine Calls.mono HL.out ?_
  rintro e w1 ⟨v, rfl, hown, hb1⟩
  simp only at hown
  have hR := readsT_of_owns hown
  obtain ⟨a, cap, rfl, hR2⟩ : ∃ a cap, v = .slice a st.toks.length cap ∧ ReadsT w1 v st.toks := by
    have hR' := hR
    obtain ⟨a, cap, hv, _⟩ := hR
    exact ⟨a, cap, hv, hR'⟩
  have HT : Hid _ := readsT_take hR2 i hil
  obtain ⟨a', cap', hv', _, hcap, hrd⟩ := hR2
  simp only [Value.slice.injEq] at hv'
  obtain ⟨rfl, _, rfl⟩ := hv'
  obtain ⟨b, off, rfl, c0, c1, c2⟩ := hrd i t ht
  have hus : (⟨t.text.toArray⟩ : ByteArray).size = t.text.length := by show t.text.toArray.size = _; simp
  generalize (⟨t.text.toArray⟩ : ByteArray) = u at *
  generalize t.text.length = tl at *
  generalize t.at_ = ta at *
  rw [hn] at hcap ⊢
  have hwr : IntKind.i64.wrap ((ta : Int) + (tl : Int)) = (E : Int) := by rw [wrap_small _ (by omega) (by omega)]; omega
  clear HL hown hrd c0 ht hR hn f4 hil
  go_wp2_with fail
  go_quiet (fail)
  have hb1q := below_drewN hb1 nq
  have HTq : Hid (ReadsT (w1.drewN nq) _ _) := HT
  clear hb1 HT
  generalize World.drewN _ nq = w1q at *
  go_wp2_with fail
  refine Calls.mono (HLA.out _) ?_
  rintro e w2 ⟨v2, rfl, hown2, hb2⟩
  have HR2 : Hid _ := readsT_of_owns hown2
  have HT2 : Hid _ := HTq.out.later hb2
  have hb02 := hb1q.trans (hb2.mono hb1q.size)
  clear HLA hown2 HTq hb1q hb2
  go_wp2_with fail
  refine (same_tok _ _ _ _ HR2.out HT2.out hlt).mono ?_
  rintro e w3 ⟨rfl, m, rfl⟩
  have hb03 := below_drewN hb02 m
  clear HR2 HT2 hb02
  generalize World.drewN _ m = w3 at *
  go_wp2_with fail
  refine (lives_any _).mono ?_
  rintro e w4 ⟨rfl, hb4⟩
  go_wp2
  go_ret
  exact ⟨rfl, hb03.trans (hb4.mono hb03.size)⟩

theorem walk (a0 : ByteArray) (a1 : Int) (w : World) (w0 : a0.size ≤ maxLen) (w1 : (Lit.int .i64 a1).wf = true) :
    Calls Try.prog 7 #[.string a0, .int .i64 a1] w fun e w' => e = .returned (.bool true) ∧ Below w.heap.size w w' := by
  by_cases h : 5000 < a0.size
  · exact walk_big a0 a1 w h
  have hb : -9223372036854775808 ≤ a1 ∧ a1 ≤ 9223372036854775807 := by simpa [Lit.wf, IntKind.min, IntKind.max, IntKind.signed, IntKind.bits] using w1
  obtain ⟨cs, rest, hp⟩ := parts_exists a0.data.toList
  by_cases he : (lexR cs rest).err = 0
  · by_cases ht : (lexR cs rest).toks = []
    · exact walk_none a0 a1 cs rest hp w (by omega) he ht
    · cases hg : goS sc0 0 cs with
      | err p e =>
        have hh : lexR cs rest = ⟨[], p, e⟩ := by unfold lexR; rw [hg]
        rw [hh] at ht
        exact absurd rfl ht
      | ok st =>
        by_cases hr : rest = []
        · subst hr
          rw [lexR_ok hg] at ht
          exact walk_some a0 a1 cs hp w (by omega) hb.1 hb.2 st hg ht
        · have hh : lexR cs rest = ⟨[], (encAll cs).length, 4⟩ := by unfold lexR; rw [hg]; simp [hr]
          rw [hh] at ht
          exact absurd rfl ht
  · exact walk_err a0 a1 cs rest hp w (by omega) he

set_option maxRecDepth 100000 in
theorem lifted (os : Os) (started : os.Started) (H : Type) (enc : TypeId × Value → H) :
    ReturnsInHanded {} Try.checked os 7 .any (Rows.lexCutsSpec.pre6 enc Try.prog Try.f7 Rows.lexCutsRow.domain false) (Rows.lexCutsSpec.post enc Try.prog Try.f7 false true false false) := by
  refine returnsInHanded_of_change (C := Try.checked) own started (by kernel_rfl) Try.func7
    (ChangeSpec.witness6 (enc := enc) (C := Try.checked) false ⟨#[], #[.string ByteArray.empty, .int .i64 0], []⟩ 8 (by kernel_rfl) (by kernel_rfl) (by kernel_rfl) (by kernel_rfl)) ?_
  intro W base args ds gs before hval0 hW hcnd _
  have hval : ∀ (j : Nat) t v, Try.f7.params[j]? = some t → args[j]? = some v → Value.okWide Try.prog W .any base t v := hval0
  have hW' := hW
  obtain ⟨p, q, hA0, hV, rfl, hfz, hnd⟩ := hW
  have hA : DataW.TrodAll enc Try.prog W 0 (fun _ => true) true Try.f7.params.toList args.toList ds p := hA0
  rw [Try.params7] at hA hval
  obtain ⟨v0, vs0, d0, ds0, p0, q0, hargs, rfl, rfl, h0, r0⟩ := trodAll_cons hA
  obtain ⟨v1, vs1, d1, ds1, p1, q1, rfl, rfl, rfl, h1, r1⟩ := trodAll_cons r0
  obtain ⟨rfl, rfl, rfl⟩ := trodAll_nil r1
  obtain rfl : args = #[v0, v1] := by cases args; simp_all
  obtain ⟨rfl, rfl⟩ := trodVars_none hV
  obtain ⟨a0, rfl, rfl, rfl, w0⟩ := open_string Try.underlying9 (hval 0 9 v0 rfl rfl) h0
  obtain ⟨a1, rfl, rfl, rfl, w1⟩ := open_int Try.underlying3 (hval 1 3 v1 rfl rfl) h1
  clear hA0 hval0
  simp only [List.append_nil] at hW'
  refine (walk a0 a1 W w0 w1).mono fun e W' ⟨he, bel⟩ => ?_
  subst he
  exact ⟨_, rfl, _, _, _, [], [], [], hW', trodAll_mk1 (shut_bool Try.underlying4 _), (trodAll_cons_mk (shut_string Try.underlying9 w0) (trodAll_cons_mk (shut_int Try.underlying3 w1) trodAll_mk0)), rfl, bel.frame _, fun h => by cases h⟩

theorem over : Rows.lexCutsRow.holds Try.pinned (OpenSpec.ofChange Rows.lexCutsSpec) :=
  OpenClaim.holds_of_wide 7 Try.f7 rfl rfl rfl rfl rfl rfl rfl ⟨rfl, rfl, rfl, rfl, rfl⟩ rfl rfl rfl rfl rfl (by kernel_rfl) Try.func7 (by kernel_rfl)
    (of_decide_eq_true (by kernel_rfl)) (by unfold Func.isWrapper; first | (rw [if_pos (by decide +kernel)]; kernel_rfl) | (rw [if_neg (by decide +kernel)]; exact ⟨rfl, rfl⟩))
    (fun os started H enc _ => lifted os started H enc)
end Go.Proofs.Ytchdecoceokcmaa.lexCuts
namespace Go.Proofs.Ytchdecoceokcmaa

theorem lexCuts_holds : Rows.LexCutsSaid := lexCuts.over
#print axioms lexCuts_holds
end Go.Proofs.Ytchdecoceokcmaa
