/- For every saga and number the law SyntaxStops answers true: a right saga's text that is cut off behind one of its tokens but the last is refused at its end. No condition. -/
import Derived.Test.YtlmfmgpamhhncaaRows
import Derived.Test.YtlmfmgpamhhncaaPP
import Derived.ProofKit
import Derived.OpenShut
import Derived.ShutString
import Derived.ChangeOld
import Derived.Deep.Strs
namespace Go.Proofs.Ytlmfmgpamhhncaa.syntaxStops
open Go.ChangeShapes Go.WideShapes Go.ChangeAt Go.RowKit
open Go.ChangeMaps (open_string shut_string)
set_option linter.unusedVariables false

theorem own : ownKnob Try.prog.godebug = none := by kernel_rfl
theorem laidOut : laidOutB Try.prog = true := by kernel_rfl

theorem tat_lt {P : Nat → Prop} {w : World} {k : Bool} {t : Tr} {a : Option Addr} {i n : Nat} (h : TAt P w k t a i n) : TAt (· < w.heap.size) w k t a i n := h.keep (fun _ _ _ => rfl) (fun _ _ h => h) _ _ _ _ _

theorem wrap_small (x : Int) (h0 : 0 ≤ x) (h1 : x ≤ 1000000) : IntKind.i64.wrap x = x := by
  have h : IntKind.i64.wrap x = (x + 9223372036854775808) % 18446744073709551616 - 9223372036854775808 := by
    simp [IntKind.wrap, IntKind.bits, IntKind.signed]
    split <;> omega
  rw [h]
  omega

theorem pick_index (k : Int) (n : Nat) (h0 : 0 < n) (hn : n ≤ 100000) : ∃ i : Nat, i < n ∧ wrap64 ((IntKind.u64.wrap k).tmod (n : Int)) = (i : Int) := by
  have hu : IntKind.u64.wrap k = k % 18446744073709551616 := by simp [IntKind.wrap, IntKind.bits, IntKind.signed]
  have h1 : 0 ≤ k % 18446744073709551616 := Int.emod_nonneg _ (by decide)
  rw [hu, Int.tmod_eq_emod_of_nonneg h1]
  generalize k % 18446744073709551616 = m at *
  have h2 : 0 ≤ m % (n : Int) := Int.emod_nonneg _ (by omega)
  have h3 : m % (n : Int) < (n : Int) := Int.emod_lt_of_pos _ (by omega)
  generalize m % (n : Int) = q at *
  refine ⟨q.toNat, by omega, ?_⟩
  unfold wrap64
  omega

set_option maxRecDepth 1000000 in
set_option maxHeartbeats 4000000 in
theorem walk (x : By) (a : Option Addr) (n c : Nat) (t : Tr) (k : Int) (w : World) (h : TAt (· < w.heap.size) w true t a 0 n ∧ n ≤ maxLen ∧ t.bnd ∧ x.length ≤ maxLen) (w1 : (Lit.int .i64 k).wf = true) :
    Calls Try.prog 7 #[.agg #[.string ⟨x.toArray⟩, .slice a n c], .int .i64 k] w fun e w' => e = .returned (.bool true) ∧ Below w.heap.size w w' := by
  obtain ⟨ht, hn, hb, hx⟩ := h
  have hk : -9223372036854775808 ≤ k ∧ k ≤ 9223372036854775807 := by simpa [Lit.wf, IntKind.min, IntKind.max, IntKind.signed, IntKind.bits] using w1
  obtain ⟨hk1, hk2⟩ := hk
  obtain rfl : n = t.len := by have := ht.len; omega
  have hok := ht.ok
  have hA0 : Below w.heap.size w (w.alloc (.cells #[.string ⟨x.toArray⟩, .slice a t.len c] 25)) := (Below.refl _ w).alloc (Nat.le_refl _) _
  have n0 := row_new w #[.string ⟨x.toArray⟩, .slice a t.len c] 25
  have ht0 := ht.below hA0
  have M1 : Hid _ := few_any x t _ (w.alloc (.cells #[.string ⟨x.toArray⟩, .slice a t.len c] 25)) a c ht0 hn hb hx
  have hz0 : (w.alloc (.cells #[.string ⟨x.toArray⟩, .slice a t.len c] 25)).heap.size = w.heap.size + 1 := by simp
  clear hn hb hx ht w1
  go_enter Try.func7, Try.ntmps7
  go_wp2_with fail
  refine Calls.mono M1.out ?_
  rintro e w1 ⟨q, rfl, hb1, hq⟩
  have n1 := (hb1.block w.heap.size (by omega)).trans n0
  have hB1 : Below w.heap.size w w1 := hA0.trans (hb1.mono (by omega))
  have ht1 := ht0.below hb1
  have HB1 : Hid _ := hB1
  have d0 := (cell_row n1 0).trans rfl
  have d1 := (cell_row n1 1).trans rfl
  clear M1 n0 ht0 hA0 hb1 hB1 hz0
  cases q with
  | false =>
    clear hq
    go_wp2_with fail
    refine (lives_any _).mono ?_
    rintro e w2 ⟨rfl, hb2⟩
    go_wp2_with fail
    go_ret
    exact ⟨rfl, HB1.out.trans (hb2.mono HB1.out.size)⟩
  | true =>
    obtain ⟨hx2, hpc, hsh⟩ := hq rfl
    obtain ⟨hbn, hpr, htxl⟩ := few_bounds hx2 hpc hsh
    have M2 : Hid _ := print_any w1 x t a t.len c (tat_lt ht1) hbn hpr htxl
    have htk : (pSaga x t).length = (pr true t).length + 4 := by simp [pSaga]
    have htk2 : (pSaga x t).length ≤ 100000 := by omega
    clear hq hx2 hpc hsh hbn ht1
    cases hr : rightS x t with
    | false =>
      have hcode : codeS x t = 2 := by simp [codeS, hr]
      rw [hr, hcode] at M2
      simp only [Bool.false_eq_true, if_false] at M2
      go_wp2_with fail
      refine Calls.mono M2.out ?_
      rintro e w2 ⟨rfl, hb2⟩
      have HB2 : Hid _ := HB1.out.trans (hb2.mono HB1.out.size)
      clear M2 hb2 HB1
      go_wp2_with fail
      refine (lives_any _).mono ?_
      rintro e w4 ⟨rfl, hb4⟩
      go_wp2_with fail
      go_ret
      exact ⟨rfl, HB2.out.trans (hb4.mono HB2.out.size)⟩
    | true =>
      have hcode : codeS x t = 0 := by simp [codeS, hr]
      rw [hr, hcode] at M2
      simp only [if_true] at M2
      have hsz : (⟨(textS x t).toArray⟩ : ByteArray).size = (textS x t).length := by show (textS x t).toArray.size = _; simp
      by_cases hl : 65536 < (textS x t).length
      · have hli : (65536 : Int) < ((⟨(textS x t).toArray⟩ : ByteArray).size : Int) := by rw [hsz]; omega
        generalize (textS x t) = TX at *
        go_wp2_with fail
        refine Calls.mono M2.out ?_
        rintro e w2 ⟨rfl, hb2⟩
        have HB2 : Hid _ := HB1.out.trans (hb2.mono HB1.out.size)
        clear M2 hb2 HB1
        go_wp2_with fail
        refine (lives_any _).mono ?_
        rintro e w4 ⟨rfl, hb4⟩
        go_wp2_with fail
        go_ret
        exact ⟨rfl, HB2.out.trans (hb4.mono HB2.out.size)⟩
      · have hli : ¬ (65536 : Int) < ((⟨(textS x t).toArray⟩ : ByteArray).size : Int) := by rw [hsz]; omega
        obtain ⟨cs, st, b1, b2, b3, b4, b5, b6⟩ := back_ans hr hok (by omega)
        have HLx : Hid (∀ wx, Calls Try.prog 21 #[.string ⟨(textS x t).toArray⟩] wx fun e w' => Lexed wx ⟨st, (textS x t).length, 0⟩ e w') := fun wx => by
          have := lex_all ⟨(textS x t).toArray⟩ cs [] b1 wx
          rwa [b2] at this
        obtain ⟨M, hM⟩ : ∃ M, st.length = M + 1 := ⟨st.length - 1, by omega⟩
        have hM1 : 1 ≤ M ∧ M ≤ 100000 := by omega
        obtain ⟨i, hi, hiw⟩ := pick_index k M (by omega) (by omega)
        obtain ⟨tk, htki⟩ : ∃ tk, st[i]? = some tk := ⟨_, List.getElem?_eq_getElem (by omega)⟩
        have hend := b6 i tk htki
        obtain ⟨R, hR⟩ := jn_prefix (tx (pSaga x t)) (i + 1) (by omega)
        have hTX : textS x t = jn (tx (pSaga x t)) := rfl
        rw [← hTX] at hR
        obtain ⟨cs2, g1, g2⟩ := cut_ans hr hok (i + 1) (by omega) (by
          have := congrArg List.length hR
          simp at this
          omega)
        obtain ⟨E, hE⟩ : ∃ E, E = (jn ((tx (pSaga x t)).take (i + 1))).length := ⟨_, rfl⟩
        have hEs : E ≤ (⟨(textS x t).toArray⟩ : ByteArray).size := by
          rw [hsz, hR, hE]
          simp
        have hX : (⟨(textS x t).toArray⟩ : ByteArray).extract 0 E = ⟨(jn ((tx (pSaga x t)).take (i + 1))).toArray⟩ := by
          apply ByteArray.ext
          apply Array.toList_inj.1
          rw [Lib.extract_data]
          show ((textS x t).take E).drop 0 = _
          rw [hR, hE]
          simp
        have HRd : Hid (∀ wx, Calls Try.prog 9 #[.string ((⟨(textS x t).toArray⟩ : ByteArray).extract 0 E)] wx fun e w' => ReadC E (.bad E 10) wx e w') := fun wx => by
          have := syn_read ⟨(jn ((tx (pSaga x t)).take (i + 1))).toArray⟩ cs2 [] g1 wx
          rw [hX]
          have hszE : (⟨(jn ((tx (pSaga x t)).take (i + 1))).toArray⟩ : ByteArray).size = E := by rw [hE]; show (jn ((tx (pSaga x t)).take (i + 1))).toArray.size = _; simp
          rw [hszE] at this
          rw [← hE] at g2
          rwa [g2] at this
        have hus : (⟨tk.text.toArray⟩ : ByteArray).size = tk.text.length := by show tk.text.toArray.size = _; simp
        rw [← hE] at hend
        clear b1 b2 b3 b4 b5 b6 hr hcode htxl htk htk2 hX hR hTX g1 g2 hE hpr cs cs2
        generalize (textS x t) = TX at *
        generalize (⟨TX.toArray⟩ : ByteArray) = S at *
        go_wp2_with fail
        refine Calls.mono M2.out ?_
        rintro e w2 ⟨rfl, hb2⟩
        have HB2 : Hid _ := HB1.out.trans (hb2.mono HB1.out.size)
        clear M2 hb2 HB1 n1 d0 d1
        go_wp2_with fail
        refine Calls.mono (HLx.out _) ?_
        rintro e w3 ⟨v3, rfl, ho3, hb3⟩
        have hR3 := readsT_of_owns ho3
        have HB3 : Hid _ := HB2.out.trans (hb3.mono HB2.out.size)
        dsimp only at ho3
        obtain ⟨va, vc, rfl, _, hcap, hrd⟩ := hR3
        dsimp only at hrd hcap ⊢
        obtain ⟨b, off, rfl, _, c1, c2⟩ := hrd i tk htki
        generalize (⟨tk.text.toArray⟩ : ByteArray) = u at *
        generalize tk.text.length = tl at *
        generalize tk.at_ = ta at *
        rw [hM] at hcap ⊢
        have hwr : IntKind.i64.wrap ((ta : Int) + (tl : Int)) = (E : Int) := by rw [wrap_small _ (by omega) (by omega)]; omega
        clear HLx ho3 hb3 HB2 hrd htki hM
        go_upto_region 10 with fail
        rw [hiw]
        have hii : (i : Int) < ((M + 1 : Nat) : Int) := by omega
        have hii2 : (i : Int) < (M : Int) + 1 := by omega
        have hE0 : ¬ ((E : Int) < 0) := by omega
        have hE1 : ¬ ((S.size : Int) < (E : Int)) := by omega
        have hE0d : decide ((E : Int) < 0) = false := by simp
        have hE1d : decide ((S.size : Int) < (E : Int)) = false := by simpa using hE1
        have hsum : (ta : Int) + (tl : Int) = (E : Int) := by omega
        have HTE : Hid (ta + tl = E) := hend
        clear hend hiw
        go_quiet (fail)
        have HB3q : Hid _ := bl_drawn HB3.out nq
        generalize World.drewN _ nq = w4 at *
        clear c1 c2 HB3
        have M5 : Hid _ := HRd.out w4
        have M6 : Hid (∀ wx, Calls Try.prog 11 #[.agg #[.string ⟨#[]⟩, .slice none 0 0], .agg #[.string ⟨#[]⟩, .slice none 0 0]] wx fun e w' => e = .returned (.bool true) ∧ Below wx.heap.size wx w') := fun wx => same_saga [] .e (fun _ => True) (fun _ => True) wx none none 0 0 rfl rfl (by decide) trivial
        clear HRd
        go_wp2_with fail
        refine Calls.mono M5.out ?_
        rintro e w5 ⟨hb5, rfl⟩
        have HB5 : Hid _ := HB3q.out.trans (hb5.mono HB3q.out.size)
        have HB6 : Hid (Below w.heap.size w (w5.alloc (.cells #[.string ⟨#[]⟩, .slice none 0 0] 25))) := HB5.out.alloc HB5.out.size _
        clear M5 hb5 HB5 HB3q
        go_wp2_with fail
        refine Calls.mono (M6.out _) ?_
        rintro e w6 ⟨rfl, hb6⟩
        have HB7 : Hid _ := HB6.out.trans (hb6.mono HB6.out.size)
        clear hb6 HB6 M6
        go_wp2_with fail
        refine (lives_any _).mono ?_
        rintro e w7 ⟨rfl, hb7⟩
        go_wp2_with fail
        go_ret
        exact ⟨rfl, HB7.out.trans (hb7.mono HB7.out.size)⟩

set_option maxRecDepth 100000 in
theorem lifted (os : Os) (started : os.Started) (H : Type) (enc : TypeId × Value → H) :
    ReturnsInHanded {} Try.checked os 7 .any (Rows.syntaxStopsSpec.pre6 enc Try.prog Try.f7 Rows.syntaxStopsRow.domain false) (Rows.syntaxStopsSpec.post enc Try.prog Try.f7 false true false false) := by
  refine returnsInHanded_of_change (C := Try.checked) own started (by kernel_rfl) Try.func7
    (ChangeSpec.witness6 (enc := enc) (C := Try.checked) false ⟨#[], #[.agg #[.string ByteArray.empty, .slice none 0 0], .int .i64 0], []⟩ 8 (by kernel_rfl) (by kernel_rfl) (by kernel_rfl) (by kernel_rfl)) ?_
  intro W base args ds gs before hval0 hW hcnd _
  have hval : ∀ (j : Nat) t v, Try.f7.params[j]? = some t → args[j]? = some v → Value.okWide Try.prog W .any base t v := hval0
  have hW' := hW
  obtain ⟨p, q, hA0, hV, rfl, hfz, hnd⟩ := hW
  have hA : DataW.TrodAll enc Try.prog W 0 (fun _ => true) true Try.f7.params.toList args.toList ds p := hA0
  rw [Try.params7] at hA hval
  obtain ⟨v0, vs0, d0, ds0, p0, q0, hargs, rfl, rfl, h0, r0⟩ := trodAll_cons hA
  obtain ⟨v1, vs1, d1, ds1, p1, q1, rfl, rfl, rfl, h1, r1⟩ := trodAll_cons r0
  obtain ⟨rfl, rfl, rfl⟩ := trodAll_nil r1
  obtain rfl : args = #[v0, v1] := by cases args; simp_all
  obtain ⟨rfl, rfl⟩ := trodVars_none hV
  obtain ⟨a1, rfl, rfl, rfl, w1⟩ := open_int Try.underlying3 (hval 1 3 v1 rfl rfl) h1
  obtain ⟨c0, rfl, _⟩ := okWide_struct Try.underlying25 (hval 0 25 v0 rfl rfl)
  have k0 := h0
  have lt0 : ∀ x ∈ p0, x.block < W.heap.size := by obtain ⟨m, hm⟩ := k0; exact DataW.trod_lt m _ _ _ hm
  obtain ⟨n0, a0, len0, cap0, z0, rfl, w0⟩ : ∃ (nm : By) (a : Option Addr) (n c : Nat) (t : Tr), c0 = #[.string ⟨nm.toArray⟩, .slice a n c] ∧ TAt (· < W.heap.size) W true t a 0 n ∧ n ≤ maxLen ∧ t.bnd ∧ nm.length ≤ maxLen := by
    obtain ⟨fuel, hf⟩ := h0
    obtain ⟨nm, a, n, c, t, hcs, hr⟩ := open_saga hf
    exact ⟨nm, a, n, c, t, by simp [Value.cells] at hcs; have := congrArg List.toArray hcs; simpa using this, hr⟩
  clear hA0 hval0
  refine (walk n0 a0 len0 cap0 z0 a1 W w0 w1).mono fun e W' ⟨he, bel⟩ => ?_
  subst he
  exact ⟨_, rfl, _, _, _, [], _, [], hW', trodAll_mk1 (shut_bool Try.underlying4 _), (trodAll_cons_mk (Below.trod laidOut (by kernel_rfl) (of_decide_eq_true (by kernel_rfl)) k0 bel lt0) (trodAll_cons_mk (shut_int Try.underlying3 w1) trodAll_mk0)), rfl, bel.frame _, fun h => by cases h⟩

theorem over : Rows.syntaxStopsRow.holds Try.pinned (OpenSpec.ofChange Rows.syntaxStopsSpec) :=
  OpenClaim.holds_of_wide 7 Try.f7 rfl rfl rfl rfl rfl rfl rfl ⟨rfl, rfl, rfl, rfl, rfl⟩ rfl rfl rfl rfl rfl (by kernel_rfl) Try.func7 (by kernel_rfl)
    (of_decide_eq_true (by kernel_rfl)) (by unfold Func.isWrapper; first | (rw [if_pos (by decide +kernel)]; kernel_rfl) | (rw [if_neg (by decide +kernel)]; exact ⟨rfl, rfl⟩))
    (fun os started H enc _ => lifted os started H enc)
end Go.Proofs.Ytlmfmgpamhhncaa.syntaxStops
namespace Go.Proofs.Ytlmfmgpamhhncaa

theorem syntaxStops_holds : Rows.SyntaxStopsSaid := syntaxStops.over
#print axioms syntaxStops_holds
end Go.Proofs.Ytlmfmgpamhhncaa
