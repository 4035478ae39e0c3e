/- For every list of texts the law LexBack answers true: of names and marks the joined text has just these, each where it stands. No condition. -/
import Derived.Test.YtchdecoceokcmaaRows
import Derived.Test.YtchdecoceokcmaaWL
import Derived.Test.YtchdecoceokcmaaMh
import Derived.ProofKit
import Derived.OpenShut
import Derived.ShutString
import Derived.ChangeOld
import Derived.Deep.Strs
namespace Go.Proofs.Ytchdecoceokcmaa.lexBack
open Go.ChangeShapes Go.WideShapes Go.ChangeAt Go.RowKit
open Go.ChangeMaps (open_string shut_string)
set_option linter.unusedVariables false

theorem own : ownKnob Try.prog.godebug = none := by kernel_rfl
theorem laidOut : laidOutB Try.prog = true := by kernel_rfl

theorem reads_strs {w : World} {a : Addr} {len cap m : Nat} {Sx : Nat → ByteArray} (h : ∀ i, i < m → w.cell? (a.add i) = some (.string (Sx i)) ∧ (Sx i).size ≤ maxLen) (hm : len ≤ m) : ReadsS w (.slice (some a) len cap) ((List.range len).map Sx) := by
  refine ⟨some a, cap, by simp, fun i x hi => ?_⟩
  have hil : i < len := by have := (List.getElem?_eq_some_iff.1 hi).1; simpa using this
  have hx : x = Sx i := by simp [hil] at hi; exact hi.symm
  subst hx
  obtain ⟨b, off, spot⟩ := a
  have hspot : spot = none := by simpa [Addr.add] using World.cell?_spot (h 0 (by omega)).1
  subst hspot
  exact ⟨b, off, rfl, by rw [← Go.WideShapes.add_plain]; exact (h i (by omega)).1⟩

theorem wrap_small (x : Int) (h0 : 0 ≤ x) (h1 : x ≤ 1000000) : IntKind.i64.wrap x = x := by
  have h : IntKind.i64.wrap x = (x + 9223372036854775808) % 18446744073709551616 - 9223372036854775808 := by
    simp [IntKind.wrap, IntKind.bits, IntKind.signed]
    split <;> omega
  rw [h]
  omega

set_option maxRecDepth 1000000 in
set_option maxHeartbeats 1000000 in
theorem walk_big (x : Value) (xs : List ByteArray) (w : World) (hx : ReadsS w x xs) (h : 300 < xs.length) :
    Calls Try.prog 5 #[x] w fun e w' => e = .returned (.bool true) ∧ Below w.heap.size w w' := by
  obtain ⟨a, ca, rfl, _⟩ := hx
  generalize xs.length = n at *
  go_enter Try.func5, Try.ntmps5
  go_wp2_with fail
  refine (lives_any _).mono ?_
  rintro e w1 ⟨rfl, hb1⟩
  go_wp2
  go_ret
  exact ⟨rfl, hb1⟩

set_option maxRecDepth 1000000 in
set_option maxHeartbeats 1000000 in
theorem walk_bad (x : Value) (xs : List ByteArray) (w : World) (hx : ReadsS w x xs) (h : xs.length ≤ 300) (hbad : ∃ y ∈ xs, good y = false) :
    Calls Try.prog 5 #[x] w fun e w' => e = .returned (.bool true) ∧ Below w.heap.size w w' := by
  have HT : Hid _ := texts_any x xs w hx h
  obtain ⟨a, ca, rfl, _⟩ := hx
  have hng : ¬ ∀ y ∈ xs, good y = true := by
    obtain ⟨y, hy, hb⟩ := hbad
    intro hall
    rw [hall y hy] at hb
    cases hb
  have HN : Hid _ := hng
  clear hng hbad
  generalize hn : xs.length = n at *
  clear hn
  go_enter Try.func5, Try.ntmps5
  go_wp2_with fail
  refine Calls.mono HT.out ?_
  rintro e w1 ⟨hb1, ⟨hall, _⟩ | ⟨_, rfl⟩⟩
  · exact absurd hall HN.out
  clear HT
  go_wp2_with fail
  refine (lives_any _).mono ?_
  rintro e w2 ⟨rfl, hb2⟩
  go_wp2
  go_ret
  exact ⟨rfl, hb1.trans (hb2.mono hb1.size)⟩

theorem tok_facts (s : ByteArray) (cs : List Int) (hp : s.data.toList = encAll cs) (st : Sc) (hg : goS sc0 0 cs = .ok st) (i : Nat) (t : Tok) (ht : st.toks[i]? = some t) :
    t.at_ + t.text.length ≤ s.size ∧ s.extract t.at_ (t.at_ + t.text.length) = ⟨t.text.toArray⟩ := by
  obtain ⟨a, b, h1, h2⟩ := tok_at cs st hg t (List.mem_of_getElem? ht)
  have hz := size_list s
  rw [hp, h1] at hz
  simp only [List.length_append] at hz
  exact ⟨by omega, extract_mid s a t.text b (by rw [hp, h1]) _ _ h2 (by rw [h2])⟩

set_option maxRecDepth 1000000 in
set_option maxHeartbeats 2000000 in
theorem walk_good (x : Value) (xs : List ByteArray) (w : World) (hx : ReadsS w x xs) (h : xs.length ≤ 300) (hgood : ∀ y ∈ xs, good y = true) :
    Calls Try.prog 5 #[x] w fun e w' => e = .returned (.bool true) ∧ Below w.heap.size w w' := by
  have HT : Hid _ := texts_any x xs w hx h
  obtain ⟨a, ca, rfl, _⟩ := hx
  obtain ⟨rk, hr1, hr2, hr3⟩ := good_toks xs hgood
  have hrl : rk.length ≤ 300 := by
    have := congrArg List.length hr2
    simp at this
    omega
  obtain ⟨hcp, hlen, st, hg, hst⟩ := join_lex rk hr3 hrl
  have hbt : bys (txts (xs.map mkTok)) = bys xs := by
    have e1 : bys (txts (xs.map mkTok)) = xs.map fun y => (mkTok y).text := by simp [bys, txts]
    have e2 : ∀ y : ByteArray, (mkTok y).text = y.data.toList := by intro y; unfold mkTok; split <;> rfl
    rw [e1]
    simp only [e2]
    rfl
  have hjn : jn (bys (txts (xs.map mkTok))) = encAll (jcs rk) := by rw [hbt, hr1, jcs_enc]
  obtain ⟨s, hsd⟩ : ∃ s : ByteArray, s = ⟨(encAll (jcs rk)).toArray⟩ := ⟨_, rfl⟩
  have hsl : s.data.toList = encAll (jcs rk) := by rw [hsd]
  have hss : s.size = (encAll (jcs rk)).length := by rw [← size_list, hsl]
  have hP : Parts s.data.toList (jcs rk) [] := ⟨by rw [hsl]; simp, hcp, .inl rfl⟩
  have HLEX : Hid (∀ wx, Calls Try.prog 10 #[.string s] wx fun e w' => Lexed wx ⟨st.toks, s.size, 0⟩ e w') := by
    intro wx
    have h := lex_any s _ _ hP wx (by omega)
    rw [lexR_ok hg, ← hss] at h
    exact h
  have hstrip : (xs.map mkTok).map strip = st.toks.map strip := by rw [hst, hr2]; simp [strip]
  obtain ⟨hsl1, hsl2⟩ := strip_same hstrip
  have HS1 : Hid _ := hsl1
  have HS2 : Hid _ := hsl2
  have HJ : Hid (∀ v wx, ReadsT wx v (xs.map mkTok) → Calls Try.prog 17 #[v] wx fun e w' => e = .returned (.string s) ∧ Below wx.heap.size wx w') := by
    intro v wx hv
    have h := join_any v _ wx (readsX_of_readsT hv) (by simp [txts]; omega) (by rw [hjn]; omega)
    rw [hjn, ← hsd] at h
    exact h
  have HTF : Hid _ := fun i t ht => tok_facts s (jcs rk) hsl st hg i t ht
  have HG : Hid _ := hgood
  have hml : (xs.map mkTok).length ≤ 100000 := by simp; omega
  have hnl : st.toks.length ≤ 100000 := by rw [← hsl1]; exact hml
  have hs2 : s.size ≤ 20000 := by omega
  clear hgood hr1 hr2 hr3 hrl hcp hlen hg hst hbt hjn hsd hsl hss hP hstrip hsl1 hsl2
  generalize hn : xs.length = n at *
  clear hn
  generalize xs.map mkTok = T at *
  generalize st.toks = U at *
  clear rk st
  go_enter Try.func5, Try.ntmps5
  go_wp2_with fail
  refine Calls.mono HT.out ?_
  rintro e w1 ⟨hb1, hcase⟩
  have hcase2 : ∃ v, e = .returned (.tuple #[v, .bool true]) ∧ w1.ownsRow w.heap.size 38 3 v T.length (tvs T) := by
    rcases hcase with ⟨_, hv⟩ | ⟨⟨y, hy, hb⟩, _⟩
    · exact hv
    · rw [HG.out y hy] at hb
      cases hb
  obtain ⟨v, rfl, hown1⟩ := hcase2
  clear hcase
  have HR1 : Hid (ReadsT w1 v T) := readsT_of_owns hown1
  have hvs : ∃ a n c, v = .slice a n c := by
    obtain ⟨a, c, hv, _⟩ := readsT_of_owns hown1
    exact ⟨a, _, c, hv⟩
  obtain ⟨va, vn, vc, rfl⟩ := hvs
  clear HT HG hown1
  go_wp2_with fail
  refine Calls.mono (HJ.out _ _ HR1.out) ?_
  rintro e w2 ⟨rfl, hb2⟩
  have HR2 : Hid (ReadsT w2 (.slice va vn vc) T) := ReadsT.later HR1.out hb2
  have hb02 := hb1.trans (hb2.mono hb1.size)
  clear HJ HR1 hb1 hb2
  go_wp2_with fail
  refine Calls.mono (HLEX.out _) ?_
  rintro e w3 ⟨u, rfl, hown3, hb3⟩
  have HR3 : Hid (ReadsT w3 (.slice va vn vc) T) := ReadsT.later HR2.out hb3
  have HU : ReadsT w3 u U := readsT_of_owns hown3
  have hb03 := hb02.trans (hb3.mono hb02.size)
  clear HLEX HR2 hb02 hb3 hown3
  have HU2 : Hid (ReadsT w3 u U) := HU
  obtain ⟨ua, uc, rfl, _, huc, hur⟩ := HU
  go_wp2_with fail
  refine (same_txt _ _ T U _ HR3.out HU2.out hml HS1.out HS2.out).mono ?_
  rintro e w4 ⟨rfl, m, rfl⟩
  have hb04 := below_drewN hb03 m
  have hur4 : ∀ (i : Nat) (t : Tok), U[i]? = some t → ∃ b off, ua = some ⟨b, off, none⟩ ∧ (w3.drewN m).cell? ⟨b, off + i * 3, none⟩ = some (.int .i64 t.kind) ∧ (w3.drewN m).cell? ⟨b, off + i * 3 + 1, none⟩ = some (.string ⟨t.text.toArray⟩) ∧ (w3.drewN m).cell? ⟨b, off + i * 3 + 2, none⟩ = some (.int .i64 (t.at_ : Int)) := hur
  clear HR3 HU2 hb03 HS1 HS2 hur
  generalize World.drewN _ m = w4 at *
  have HUR : Hid _ := hur4
  clear hur4
  have hbl4 := Below.refl w4.heap.size w4
  go_wp2
  go_loopw [9, 10] (fun iv _ wr => ∃ (k : Nat), k ≤ U.length ∧ iv = .int .i64 k ∧ Below w4.heap.size w4 wr) (fun iv _ _ => U.length - (intOf iv).toNat)
  case atStart => exact ⟨0, Nat.zero_le _, rfl, hbl4⟩
  case round =>
    obtain ⟨k, hk, rfl, hbw⟩ := hrel
    have hzw := hbw.size
    by_cases hlt : k < U.length
    · obtain ⟨t, ht⟩ : ∃ t, U[k]? = some t := ⟨_, List.getElem?_eq_getElem hlt⟩
      obtain ⟨b1, o1, rfl, a0, a1, a2⟩ := HUR.out k t ht
      obtain ⟨hle, hex⟩ := HTF.out k t ht
      have d0 := cell_later hbw a0
      have d1 := cell_later hbw a1
      have d2 := cell_later hbw a2
      have hus : (⟨t.text.toArray⟩ : ByteArray).size = t.text.length := by show t.text.toArray.size = _; simp
      generalize (⟨t.text.toArray⟩ : ByteArray) = u at *
      generalize t.text.length = tl at *
      generalize t.at_ = ta at *
      generalize t.kind = tk at *
      clear a0 a1 a2 ht
      have g1 : decide ((ta : Int) < 0) = false := by rw [decide_eq_false_iff_not]; omega
      have hsub : IntKind.i64.wrap ((s.size : Int) - (tl : Int)) = (s.size : Int) - (tl : Int) := wrap_small _ (by omega) (by omega)
      have g2 : decide ((s.size : Int) - (tl : Int) < (ta : Int)) = false := by rw [decide_eq_false_iff_not]; omega
      have hadd : IntKind.i64.wrap ((ta : Int) + (tl : Int)) = ((ta + tl : Nat) : Int) := by rw [wrap_small _ (by omega) (by omega)]; omega
      have hbw1 : Below w4.heap.size w4 (wr.alloc (.cells #[.int .i64 tk, .string u, .int .i64 ta] 38)) := hbw.alloc hzw _
      clear hbw
      go_wp2
      go_quiet (fail)
      go_wp2
      go_roundw
      case rel => exact ⟨k + 1, by omega, by go_num, below_drewN hbw1 _⟩
      case measure => simp [intOf]; omega
    · clear HUR HTF
      go_wp2_with fail
      refine (lives_any _).mono ?_
      rintro e w5 ⟨rfl, hb5⟩
      have hb05 := hb04.trans (hbw.mono hb04.size)
      go_wp2
      go_ret
      exact ⟨rfl, hb05.trans (hb5.mono hb05.size)⟩

theorem walk (a0 : Option Addr) (len0 cap0 : Nat) (z0 : List ByteArray) (w : World) (w0 : ReadsS w (.slice a0 len0 cap0) z0) :
    Calls Try.prog 5 #[.slice a0 len0 cap0] w fun e w' => e = .returned (.bool true) ∧ Below w.heap.size w w' := by
  by_cases hb : 300 < z0.length
  · exact walk_big _ z0 w w0 hb
  · by_cases hg : ∀ y ∈ z0, good y = true
    · exact walk_good _ z0 w w0 (by omega) hg
    · refine walk_bad _ z0 w w0 (by omega) ?_
      apply Classical.byContradiction
      intro hn
      apply hg
      intro y hy
      cases hgy : good y with
      | true => rfl
      | false => exact absurd ⟨y, hy, hgy⟩ hn

set_option maxRecDepth 100000 in
theorem lifted (os : Os) (started : os.Started) (H : Type) (enc : TypeId × Value → H) :
    ReturnsInHanded {} Try.checked os 5 .any (Rows.lexBackSpec.pre6 enc Try.prog Try.f5 Rows.lexBackRow.domain false) (Rows.lexBackSpec.post enc Try.prog Try.f5 false true false false) := by
  refine returnsInHanded_of_change (C := Try.checked) own started (by kernel_rfl) Try.func5
    (ChangeSpec.witness6 (enc := enc) (C := Try.checked) false ⟨#[], #[.slice none 0 0], []⟩ 8 (by kernel_rfl) (by kernel_rfl) (by kernel_rfl) (by kernel_rfl)) ?_
  intro W base args ds gs before hval0 hW hcnd _
  have hval : ∀ (j : Nat) t v, Try.f5.params[j]? = some t → args[j]? = some v → Value.okWide Try.prog W .any base t v := hval0
  have hW' := hW
  obtain ⟨p, q, hA0, hV, rfl, hfz, hnd⟩ := hW
  have hA : DataW.TrodAll enc Try.prog W 0 (fun _ => true) true Try.f5.params.toList args.toList ds p := hA0
  rw [Try.params5] at hA hval
  obtain ⟨v0, vs0, d0, ds0, p0, q0, hargs, rfl, rfl, h0, r0⟩ := trodAll_cons hA
  obtain ⟨rfl, rfl, rfl⟩ := trodAll_nil r0
  obtain rfl : args = #[v0] := by cases args; simp_all
  obtain ⟨rfl, rfl⟩ := trodVars_none hV
  obtain ⟨a0, len0, cap0, rfl⟩ := okWide_slice Try.underlying33 (hval 0 33 v0 rfl rfl)
  have k0 := h0
  have lt0 : ∀ x ∈ p0, x.block < W.heap.size := by obtain ⟨m, hm⟩ := k0; exact DataW.trod_lt m _ _ _ hm
  obtain ⟨z0, w0⟩ : ∃ xs, ReadsS W (.slice a0 len0 cap0) xs := by
    obtain ⟨fuel, hf⟩ := h0
    rcases Go.Deep.open_strs Try.underlying33 Try.underlying9 (by kernel_rfl) hf with ⟨hcs, _⟩ | ⟨x, l, c, m, Sx, hcs, _, hl, hm, hmm, _, hcell⟩
    · simp [Value.cells] at hcs
      obtain ⟨rfl, rfl, rfl⟩ := hcs
      exact ⟨[], none, 0, rfl, by simp⟩
    · simp [Value.cells] at hcs
      obtain ⟨rfl, rfl, rfl⟩ := hcs
      exact ⟨_, reads_strs hcell (by rw [hmm]; split <;> omega)⟩
  clear hA0 hval0
  refine (walk a0 len0 cap0 z0 W w0).mono fun e W' ⟨he, bel⟩ => ?_
  subst he
  exact ⟨_, rfl, _, _, _, [], _, [], hW', trodAll_mk1 (shut_bool Try.underlying4 _), (trodAll_cons_mk (Below.trod laidOut (by kernel_rfl) (of_decide_eq_true (by kernel_rfl)) k0 bel lt0) trodAll_mk0), rfl, bel.frame _, fun h => by cases h⟩

theorem over : Rows.lexBackRow.holds Try.pinned (OpenSpec.ofChange Rows.lexBackSpec) :=
  OpenClaim.holds_of_wide 5 Try.f5 rfl rfl rfl rfl rfl rfl rfl ⟨rfl, rfl, rfl, rfl, rfl⟩ rfl rfl rfl rfl rfl (by kernel_rfl) Try.func5 (by kernel_rfl)
    (of_decide_eq_true (by kernel_rfl)) (by unfold Func.isWrapper; first | (rw [if_pos (by decide +kernel)]; kernel_rfl) | (rw [if_neg (by decide +kernel)]; exact ⟨rfl, rfl⟩))
    (fun os started H enc _ => lifted os started H enc)
end Go.Proofs.Ytchdecoceokcmaa.lexBack
namespace Go.Proofs.Ytchdecoceokcmaa

theorem lexBack_holds : Rows.LexBackSaid := lexBack.over
#print axioms lexBack_holds
end Go.Proofs.Ytchdecoceokcmaa
