/- For every saga the law SyntaxBack answers true: a right saga's text is read as the saga, and is of its tokens' texts, joined. No condition. -/
import Derived.Test.YtlmfmgpamhhncaaRows
import Derived.Test.YtlmfmgpamhhncaaPP
import Derived.ProofKit
import Derived.OpenShut
import Derived.ShutString
import Derived.ChangeOld
import Derived.Deep.Strs
namespace Go.Proofs.Ytlmfmgpamhhncaa.syntaxBack
open Go.ChangeShapes Go.WideShapes Go.ChangeAt Go.RowKit
open Go.ChangeMaps (open_string shut_string)
set_option linter.unusedVariables false

theorem own : ownKnob Try.prog.godebug = none := by kernel_rfl
theorem laidOut : laidOutB Try.prog = true := by kernel_rfl

theorem tat_lt {P : Nat → Prop} {w : World} {k : Bool} {t : Tr} {a : Option Addr} {i n : Nat} (h : TAt P w k t a i n) : TAt (· < w.heap.size) w k t a i n := h.keep (fun _ _ _ => rfl) (fun _ _ h => h) _ _ _ _ _

set_option maxRecDepth 1000000 in
set_option maxHeartbeats 4000000 in
theorem walk (x : By) (a : Option Addr) (n c : Nat) (t : Tr) (w : World) (h : TAt (· < w.heap.size) w true t a 0 n ∧ n ≤ maxLen ∧ t.bnd ∧ x.length ≤ maxLen) :
    Calls Try.prog 5 #[.agg #[.string ⟨x.toArray⟩, .slice a n c]] w fun e w' => e = .returned (.bool true) ∧ Below w.heap.size w w' := by
  obtain ⟨ht, hn, hb, hx⟩ := h
  obtain rfl : n = t.len := by have := ht.len; omega
  have hok := ht.ok
  have hA0 : Below w.heap.size w (w.alloc (.cells #[.string ⟨x.toArray⟩, .slice a t.len c] 25)) := (Below.refl _ w).alloc (Nat.le_refl _) _
  have n0 := row_new w #[.string ⟨x.toArray⟩, .slice a t.len c] 25
  have ht0 := ht.below hA0
  have M1 : Hid _ := few_any x t _ (w.alloc (.cells #[.string ⟨x.toArray⟩, .slice a t.len c] 25)) a c ht0 hn hb hx
  have hz0 : (w.alloc (.cells #[.string ⟨x.toArray⟩, .slice a t.len c] 25)).heap.size = w.heap.size + 1 := by simp
  clear hn hb hx ht
  go_enter Try.func5, Try.ntmps5
  go_wp2_with fail
  refine Calls.mono M1.out ?_
  rintro e w1 ⟨q, rfl, hb1, hq⟩
  have n1 := (hb1.block w.heap.size (by omega)).trans n0
  have hB1 : Below w.heap.size w w1 := hA0.trans (hb1.mono (by omega))
  have ht1 := ht0.below hb1
  have HB1 : Hid _ := hB1
  have d0 := (cell_row n1 0).trans rfl
  have d1 := (cell_row n1 1).trans rfl
  clear M1 n0 ht0 hA0 hb1 hB1 hz0
  cases q with
  | false =>
    clear hq
    go_wp2_with fail
    refine (lives_any _).mono ?_
    rintro e w2 ⟨rfl, hb2⟩
    go_wp2_with fail
    go_ret
    exact ⟨rfl, HB1.out.trans (hb2.mono HB1.out.size)⟩
  | true =>
    obtain ⟨hx2, hpc, hsh⟩ := hq rfl
    obtain ⟨hbn, hpr, htxl⟩ := few_bounds hx2 hpc hsh
    have hZ : t.sz ≤ 1000000000 ∧ t.afs := hbn.sz
    have M2 : Hid _ := print_any w1 x t a t.len c (tat_lt ht1) hbn hpr htxl
    have HC : Hid (∀ wx, TAt (· < wx.heap.size) wx true t a 0 t.len → Calls Try.prog 15 #[.agg #[.string ⟨x.toArray⟩, .slice a t.len c]] wx fun e w' => e = .returned (.int .i64 (codeS x t)) ∧ Below wx.heap.size wx w') := fun wx h => check_any wx x t a t.len c h hbn
    have htk : (pSaga x t).length ≤ 100000 := by simp [pSaga]; omega
    clear hq hx2 hpc hsh hbn hpr
    cases hr : rightS x t with
    | false =>
      have hcode : codeS x t = 2 := by simp [codeS, hr]
      rw [hr, hcode] at M2
      rw [hcode] at HC
      simp only [Bool.false_eq_true, if_false] at M2
      have H1 : Hid (n1 = n1) := rfl
      go_wp2_with fail
      refine Calls.mono M2.out ?_
      rintro e w2 ⟨rfl, hb2⟩
      have n2 := (hb2.block w.heap.size (Array.getElem?_eq_some_iff.1 n1).1).trans n1
      have HB2 : Hid _ := HB1.out.trans (hb2.mono HB1.out.size)
      have ht2 := ht1.below hb2
      have e0 := (cell_row n2 0).trans rfl
      have e1 := (cell_row n2 1).trans rfl
      have M3 : Hid _ := HC.out w2 (tat_lt ht2)
      clear M2 hb2 n1 ht1 HB1 d0 d1 HC
      go_wp2_with fail
      refine Calls.mono M3.out ?_
      rintro e w3 ⟨rfl, hb3⟩
      have HB3 : Hid _ := HB2.out.trans (hb3.mono HB2.out.size)
      clear M3 hb3 HB2
      go_wp2_with fail
      refine (lives_any _).mono ?_
      rintro e w4 ⟨rfl, hb4⟩
      go_wp2_with fail
      go_ret
      exact ⟨rfl, HB3.out.trans (hb4.mono HB3.out.size)⟩
    | true =>
      have hcode : codeS x t = 0 := by simp [codeS, hr]
      rw [hr, hcode] at M2
      simp only [if_true] at M2
      have hsz : (⟨(textS x t).toArray⟩ : ByteArray).size = (textS x t).length := by show (textS x t).toArray.size = _; simp
      by_cases hl : 65536 < (textS x t).length
      · have hli : (65536 : Int) < ((⟨(textS x t).toArray⟩ : ByteArray).size : Int) := by rw [hsz]; omega
        generalize (textS x t) = TX at *
        go_wp2_with fail
        refine Calls.mono M2.out ?_
        rintro e w2 ⟨rfl, hb2⟩
        have HB2 : Hid _ := HB1.out.trans (hb2.mono HB1.out.size)
        clear M2 hb2 HB1
        go_wp2_with fail
        refine (lives_any _).mono ?_
        rintro e w4 ⟨rfl, hb4⟩
        go_wp2_with fail
        go_ret
        exact ⟨rfl, HB2.out.trans (hb4.mono HB2.out.size)⟩
      · have hli : ¬ (65536 : Int) < ((⟨(textS x t).toArray⟩ : ByteArray).size : Int) := by rw [hsz]; omega
        obtain ⟨cs, st, b1, b2, b3, b4, b5, b6⟩ := back_ans hr hok (by omega)
        have HR : Hid (∀ wx, Calls Try.prog 9 #[.string ⟨(textS x t).toArray⟩] wx fun e w' => ReadC (⟨(textS x t).toArray⟩ : ByteArray).size (.good x t) wx e w') := fun wx => by
          have := syn_read ⟨(textS x t).toArray⟩ cs [] b1 wx
          rwa [b2, b3] at this
        have HLx : Hid (∀ wx, Calls Try.prog 21 #[.string ⟨(textS x t).toArray⟩] wx fun e w' => Lexed wx ⟨st, (textS x t).length, 0⟩ e w') := fun wx => by
          have := lex_all ⟨(textS x t).toArray⟩ cs [] b1 wx
          rwa [b2] at this
        have hjn : jn (bys (txts st)) = textS x t := by rw [bys_txts]; show jn (tx st) = _; rw [b4]; rfl
        have HJ : Hid (∀ wx v, ReadsT wx v st → Calls Try.prog 22 #[v] wx fun e w' => e = .returned (.string ⟨(textS x t).toArray⟩) ∧ Below wx.heap.size wx w') := fun wx v hv => by
          have := join_any v (txts st) wx (readsX_of_readsT hv) (by simp [txts]; omega) (by rw [hjn]; omega)
          rwa [hjn] at this
        clear b1 b2 b3 b4 b5 b6 hjn hr hcode htxl htk
        generalize (textS x t) = TX at *
        go_wp2_with fail
        refine Calls.mono M2.out ?_
        rintro e w2 ⟨rfl, hb2⟩
        have n2 := (hb2.block w.heap.size (Array.getElem?_eq_some_iff.1 n1).1).trans n1
        have hB2 := HB1.out.trans (hb2.mono HB1.out.size)
        have ht2 := ht1.below hb2
        clear M2 hb2 n1 ht1 HB1 d0 d1 HC
        go_wp2_with fail
        refine Calls.mono (HR.out _) ?_
        rintro e w3 ⟨hb3, v3, rfl, p3, c3, rfl, ht3⟩
        have n3 := (hb3.block w.heap.size (Array.getElem?_eq_some_iff.1 n2).1).trans n2
        have hB3 := hB2.trans (hb3.mono hB2.size)
        have ht23 := ht2.below hb3
        have hA4 : Below w3.heap.size w3 (w3.alloc (.cells #[.string ⟨x.toArray⟩, .slice p3 t.len c3] 25)) := (Below.refl _ _).alloc (Nat.le_refl _) _
        have m4 := row_new w3 #[.string ⟨x.toArray⟩, .slice p3 t.len c3] 25
        have n4 := row_alloc n3 (.cells #[.string ⟨x.toArray⟩, .slice p3 t.len c3] 25)
        have ht4 := ht3.below hA4
        have ht24 := ht23.below hA4
        have hB4 := hB3.trans (hA4.mono hB3.size)
        clear HR hb3 n2 ht2 hB2 n3 ht3 ht23 hA4 hB3
        go_wp2_with fail
        generalize w3.alloc (.cells #[.string ⟨x.toArray⟩, .slice p3 t.len c3] 25) = w4 at *
        generalize w3.heap.size = G3 at *
        refine Calls.mono (HLx.out _) ?_
        rintro e w5 ⟨v5, rfl, ho5, hb5⟩
        have HR5 : Hid (ReadsT w5 v5 st) := readsT_of_owns ho5
        have n5 := (hb5.block w.heap.size (Array.getElem?_eq_some_iff.1 n4).1).trans n4
        have m5 := (hb5.block G3 (Array.getElem?_eq_some_iff.1 m4).1).trans m4
        have M5 : Hid _ := same_saga x t _ _ w5 p3 a c3 c (ht4.below hb5) (ht24.below hb5) hZ.1 hZ.2
        have HB5 : Hid _ := hB4.trans (hb5.mono hB4.size)
        have e0 := (cell_row n5 0).trans rfl
        have e1 := (cell_row n5 1).trans rfl
        have g0 := (cell_row m5 0).trans rfl
        have g1 := (cell_row m5 1).trans rfl
        clear HLx ho5 hb5 n4 m4 ht4 ht24 hB4
        go_wp2_with fail
        refine Calls.mono M5.out ?_
        rintro e w6 ⟨rfl, hb6⟩
        have HB6 : Hid _ := HB5.out.trans (hb6.mono HB5.out.size)
        have M6 : Hid _ := HJ.out w6 v5 (HR5.out.later hb6)
        clear M5 hb6 HB5 HJ HR5
        go_wp2_with fail
        refine Calls.mono M6.out ?_
        rintro e w7 ⟨rfl, hb7⟩
        have HB7 : Hid _ := HB6.out.trans (hb7.mono HB6.out.size)
        clear M6 hb7 HB6
        go_wp2_with fail
        refine (lives_any _).mono ?_
        rintro e w8 ⟨rfl, hb8⟩
        go_wp2_with fail
        go_ret
        exact ⟨rfl, HB7.out.trans (hb8.mono HB7.out.size)⟩

set_option maxRecDepth 100000 in
theorem lifted (os : Os) (started : os.Started) (H : Type) (enc : TypeId × Value → H) :
    ReturnsInHanded {} Try.checked os 5 .any (Rows.syntaxBackSpec.pre6 enc Try.prog Try.f5 Rows.syntaxBackRow.domain false) (Rows.syntaxBackSpec.post enc Try.prog Try.f5 false true false false) := by
  refine returnsInHanded_of_change (C := Try.checked) own started (by kernel_rfl) Try.func5
    (ChangeSpec.witness6 (enc := enc) (C := Try.checked) false ⟨#[], #[.agg #[.string ByteArray.empty, .slice none 0 0]], []⟩ 8 (by kernel_rfl) (by kernel_rfl) (by kernel_rfl) (by kernel_rfl)) ?_
  intro W base args ds gs before hval0 hW hcnd _
  have hval : ∀ (j : Nat) t v, Try.f5.params[j]? = some t → args[j]? = some v → Value.okWide Try.prog W .any base t v := hval0
  have hW' := hW
  obtain ⟨p, q, hA0, hV, rfl, hfz, hnd⟩ := hW
  have hA : DataW.TrodAll enc Try.prog W 0 (fun _ => true) true Try.f5.params.toList args.toList ds p := hA0
  rw [Try.params5] at hA hval
  obtain ⟨v0, vs0, d0, ds0, p0, q0, hargs, rfl, rfl, h0, r0⟩ := trodAll_cons hA
  obtain ⟨rfl, rfl, rfl⟩ := trodAll_nil r0
  obtain rfl : args = #[v0] := by cases args; simp_all
  obtain ⟨rfl, rfl⟩ := trodVars_none hV
  obtain ⟨c0, rfl, _⟩ := okWide_struct Try.underlying25 (hval 0 25 v0 rfl rfl)
  have k0 := h0
  have lt0 : ∀ x ∈ p0, x.block < W.heap.size := by obtain ⟨m, hm⟩ := k0; exact DataW.trod_lt m _ _ _ hm
  obtain ⟨n0, a0, len0, cap0, z0, rfl, w0⟩ : ∃ (nm : By) (a : Option Addr) (n c : Nat) (t : Tr), c0 = #[.string ⟨nm.toArray⟩, .slice a n c] ∧ TAt (· < W.heap.size) W true t a 0 n ∧ n ≤ maxLen ∧ t.bnd ∧ nm.length ≤ maxLen := by
    obtain ⟨fuel, hf⟩ := h0
    obtain ⟨nm, a, n, c, t, hcs, hr⟩ := open_saga hf
    exact ⟨nm, a, n, c, t, by simp [Value.cells] at hcs; have := congrArg List.toArray hcs; simpa using this, hr⟩
  clear hA0 hval0
  refine (walk n0 a0 len0 cap0 z0 W w0).mono fun e W' ⟨he, bel⟩ => ?_
  subst he
  exact ⟨_, rfl, _, _, _, [], _, [], hW', trodAll_mk1 (shut_bool Try.underlying4 _), (trodAll_cons_mk (Below.trod laidOut (by kernel_rfl) (of_decide_eq_true (by kernel_rfl)) k0 bel lt0) trodAll_mk0), rfl, bel.frame _, fun h => by cases h⟩

theorem over : Rows.syntaxBackRow.holds Try.pinned (OpenSpec.ofChange Rows.syntaxBackSpec) :=
  OpenClaim.holds_of_wide 5 Try.f5 rfl rfl rfl rfl rfl rfl rfl ⟨rfl, rfl, rfl, rfl, rfl⟩ rfl rfl rfl rfl rfl (by kernel_rfl) Try.func5 (by kernel_rfl)
    (of_decide_eq_true (by kernel_rfl)) (by unfold Func.isWrapper; first | (rw [if_pos (by decide +kernel)]; kernel_rfl) | (rw [if_neg (by decide +kernel)]; exact ⟨rfl, rfl⟩))
    (fun os started H enc _ => lifted os started H enc)
end Go.Proofs.Ytlmfmgpamhhncaa.syntaxBack
namespace Go.Proofs.Ytlmfmgpamhhncaa

theorem syntaxBack_holds : Rows.SyntaxBackSaid := syntaxBack.over
#print axioms syntaxBack_holds
end Go.Proofs.Ytlmfmgpamhhncaa
