/- WirePuts: for all bytes, numbers and lists: what is put is as the document says, and nothing behind what came in is written; proved in full, nothing is asked of the input. -/
import Derived.Test.YtbhebnhjnpfhgaaRows
import Derived.Test.YtbhebnhjnpfhgaaWl
import Derived.Test.YtbhebnhjnpfhgaaWg
import Derived.ProofKit
import Derived.OpenShut
import Derived.ShutString
import Derived.ChangeOld
namespace Go.Proofs.Ytbhebnhjnpfhgaa.wirePuts
open Go.RowKit
set_option linter.unusedVariables false

set_option maxRecDepth 1000000 in
set_option maxHeartbeats 1000000 in
theorem walk_big (x : Value) (a : List UInt8) (n : Int) (y : Value) (l : List Int) (w : World) (hx : RB w x a) (hy : RI w y l) (h : 2000 < a.length ∨ 1000 < l.length) :
    Calls Try.prog 3 #[x, .int .i64 n, y] w fun e w' => e = .returned (.bool true) ∧ Below w.heap.size w w' := by
  obtain ⟨xa, xc, rfl, _⟩ := hx
  obtain ⟨ya, yc, rfl, _⟩ := hy
  generalize a.length = i at *
  generalize l.length = k at *
  by_cases h0 : 2000 < i
  · clear h
    go_enter Try.func3, Try.ntmps3
    go_wp2_with fail
    refine (lives_any _).mono ?_
    rintro e w1 ⟨rfl, hb1⟩
    go_wp2
    go_ret
    exact ⟨rfl, hb1⟩
  · have h1 : 1000 < k := by omega
    clear h
    go_enter Try.func3, Try.ntmps3
    go_wp2_with fail
    refine (lives_any _).mono ?_
    rintro e w1 ⟨rfl, hb1⟩
    go_wp2
    go_ret
    exact ⟨rfl, hb1⟩

set_option maxRecDepth 1000000 in
set_option maxHeartbeats 1000000 in
theorem walk_small (x : Value) (a : List UInt8) (n : Int) (y : Value) (l : List Int) (w : World) (hx : RB w x a) (hy : RI w y l) (h1 : a.length ≤ 2000) (h2 : l.length ≤ 1000) :
    Calls Try.prog 3 #[x, .int .i64 n, y] w fun e w' => e = .returned (.bool true) ∧ Below w.heap.size w w' := by
  have HX : Hid (RB w x a) := hx
  have HY : Hid (RI w y l) := hy
  obtain ⟨xa, xc, rfl, _⟩ := hx
  obtain ⟨ya, yc, rfl, _⟩ := hy
  have HB3 : Hid (Below w.heap.size w (w.alloc (.cells #[] 5))) := (Below.refl _ _).alloc (Nat.le_refl _) _
  have HO3 : Hid (OB w.heap.size (w.alloc (.cells #[] 5)) w.heap.size 0 0 []) := OB.made w 0 #[] (Nat.zero_le _) rfl
  go_enter Try.func3, Try.ntmps3
  go_wp2_with (first
    | (at_builtin; refine append_bytes rfl _ _ rfl w.heap.size w.heap.size 0 0 [] rfl HO3.out _ a rfl (HX.out.later HB3.out) (by omega) (by omega) (by simp) a.length a (by omega) rfl ?_; intro g4 c4 w4 ho4 hg4; have HB4 : Hid (Below w.heap.size w w4) := HB3.out.trans (HO3.out.below (by simp) hg4); have HO4 : Hid (OB w.heap.size w4 g4 a.length c4 a) := ho4; clear ho4 hg4)
    | (at_builtin; refine append_bytes rfl _ _ rfl w.heap.size g4 a.length c4 a rfl (HO4.out.later ((Below.refl _ _).alloc (Nat.le_refl _) _)) _ [120] rfl (RB.new w4 [120] #[.int .u8 120] 5 rfl (by decide)) (by omega) (by decide) (by have := HB4.out.size; simp; omega) (a.length + 1) (a ++ [120]) rfl rfl ?_; intro g5 c5 w5 ho5 hg5; have HB5 : Hid (Below w.heap.size w w5) := (HB4.out.alloc HB4.out.size _).trans ((HO4.out.later ((Below.refl _ _).alloc (Nat.le_refl _) _)).below (by have := HB4.out.size; simp; omega) hg5); have HO5 : Hid (OB w.heap.size w5 g5 (a.length + 1) c5 (a ++ [120])) := ho5; obtain ⟨V, hV, hSV⟩ := slice_to HO5.out.rb.2 a.length (by simp) a.length rfl; rw [List.take_left] at hV; have HV : Hid (RB w5 V a) := hV; clear ho5 hg5 hV HO4 HB4 HO3 HB3))
  refine Calls.mono (put_any V a n w5 HV.out (by omega)) ?_
  rintro e w6 ⟨v6, c6, rfl, hr6, hb6⟩
  have HB56 : Hid (Below w5.heap.size w5 w6) := hb6
  have HB6 : Hid (Below w.heap.size w w6) := HB5.out.trans (hb6.mono HB5.out.size)
  have hcx := string_of_RB (HX.out.later HB6.out)
  obtain ⟨R, HR⟩ : ∃ R, Hid (R = putR a n) := ⟨_, rfl⟩
  rw [← HR.out] at hr6 ⊢
  have HR6 : Hid (RB w6 (.slice v6 R.length c6) R) := hr6
  clear hb6 hr6
  go_wp2_with fail
  refine Calls.mono (rput_any a n w6 (by omega)) ?_
  rintro e w7 ⟨rfl, hb7⟩
  have HB57 : Hid (Below w5.heap.size w5 w7) := HB56.out.trans (hb7.mono HB56.out.size)
  have HB7 : Hid (Below w.heap.size w w7) := HB6.out.trans (hb7.mono HB6.out.size)
  have HR7 : Hid (RB w7 (.slice v6 R.length c6) R) := HR6.out.later hb7
  clear hb7 HR6 hcx HB6 HB56
  rw [← HR.out]
  go_wp2_with fail
  refine Calls.mono (puts_any V _ a l w7 (HV.out.later HB57.out) (HY.out.later HB7.out) (by omega) (by omega)) ?_
  rintro e w8 ⟨v8, c8, rfl, hr8, hb8⟩
  have HB58 : Hid (Below w5.heap.size w5 w8) := HB57.out.trans (hb8.mono HB57.out.size)
  have HB8 : Hid (Below w.heap.size w w8) := HB7.out.trans (hb8.mono HB7.out.size)
  have HR8 : Hid (RB w8 (.slice v6 R.length c6) R) := HR7.out.later hb8
  have hcx := string_of_RB (HX.out.later HB8.out)
  obtain ⟨S, HS⟩ : ∃ S, Hid (S = putsR a l) := ⟨_, rfl⟩
  rw [← HS.out] at hr8 ⊢
  have HS8 : Hid (RB w8 (.slice v8 S.length c8) S) := hr8
  clear hb8 hr8 HR7 HB57 HB7 hSV
  go_wp2_with fail
  refine Calls.mono (rputs_any a _ l w8 (HY.out.later HB8.out) (by omega) (by omega)) ?_
  rintro e w9 ⟨rfl, hb9⟩
  have HB59 : Hid (Below w5.heap.size w5 w9) := HB58.out.trans (hb9.mono HB58.out.size)
  have HB9 : Hid (Below w.heap.size w w9) := HB8.out.trans (hb9.mono HB8.out.size)
  have hcr := string_of_RB (HR8.out.later hb9)
  have hcs := string_of_RB (HS8.out.later hb9)
  have HO9 : Hid (OB w.heap.size w9 g5 (a.length + 1) c5 (a ++ [120])) := HO5.out.later HB59.out
  clear hcx hb9 HR8 HS8 HB58 HB8
  rw [← HS.out]
  clear HR HS
  generalize putE n = E at *
  generalize putsE l = F at *
  have hcw : w9.cell? ⟨g5, a.length, none⟩ = some (.int .u8 120) := by
    have := (RB.cells HO9.out.rb.2).2 a.length (.int .u8 120) (by simp [bvs])
    rw [Go.WideShapes.add_plain, Nat.zero_add] at this
    exact this
  clear HO9 HO5 HV
  go_wp2_with fail
  refine (lives_any _).mono ?_
  rintro e w10 ⟨rfl, hb10⟩
  have HB10 : Hid (Below w.heap.size w w10) := HB9.out.trans (hb10.mono HB9.out.size)
  clear hb10 hcw hcr hcs
  go_wp2_with fail
  go_ret
  exact ⟨rfl, HB10.out⟩

theorem walk (x : Value) (a : List UInt8) (n : Int) (y : Value) (l : List Int) (w : World) (hx : RB w x a) (_w1 : (Lit.int .i64 n).wf = true) (hy : RI w y l) :
    Calls Try.prog 3 #[x, .int .i64 n, y] w fun e w' => e = .returned (.bool true) ∧ Below w.heap.size w w' := by
  by_cases h : 2000 < a.length ∨ 1000 < l.length
  · exact walk_big x a n y l w hx hy h
  · exact walk_small x a n y l w hx hy (by omega) (by omega)

open Go.ChangeShapes Go.WideShapes Go.ChangeAt

theorem own : ownKnob Try.prog.godebug = none := by kernel_rfl
theorem laidOut : laidOutB Try.prog = true := by kernel_rfl

set_option maxRecDepth 100000 in
theorem lifted (os : Os) (started : os.Started) (H : Type) (enc : TypeId × Value → H) :
    ReturnsInHanded {} Try.checked os 3 .any (Rows.wirePutsSpec.pre6 enc Try.prog Try.f3 Rows.wirePutsRow.domain false) (Rows.wirePutsSpec.post enc Try.prog Try.f3 false true false false) := by
  refine returnsInHanded_of_change (C := Try.checked) own started (by kernel_rfl) Try.func3
    (ChangeSpec.witness6 (enc := enc) (C := Try.checked) false ⟨#[], #[.slice none 0 0, .int .i64 0, .slice none 0 0], []⟩ 8 (by kernel_rfl) (by kernel_rfl) (by kernel_rfl) (by kernel_rfl)) ?_
  intro W base args ds gs before hval0 hW hcnd _
  have hval : ∀ (j : Nat) t v, Try.f3.params[j]? = some t → args[j]? = some v → Value.okWide Try.prog W .any base t v := hval0
  have hW' := hW
  obtain ⟨p, q, hA0, hV, rfl, hfz, hnd⟩ := hW
  have hA : DataW.TrodAll enc Try.prog W 0 (fun _ => true) true Try.f3.params.toList args.toList ds p := hA0
  rw [Try.params3] at hA hval
  obtain ⟨v0, vs0, d0, ds0, p0, q0, hargs, rfl, rfl, h0, r0⟩ := trodAll_cons hA
  obtain ⟨v1, vs1, d1, ds1, p1, q1, rfl, rfl, rfl, h1, r1⟩ := trodAll_cons r0
  obtain ⟨v2, vs2, d2, ds2, p2, q2, rfl, rfl, rfl, h2, r2⟩ := trodAll_cons r1
  obtain ⟨rfl, rfl, rfl⟩ := trodAll_nil r2
  obtain rfl : args = #[v0, v1, v2] := by cases args; simp_all
  obtain ⟨rfl, rfl⟩ := trodVars_none hV
  obtain ⟨a1, rfl, rfl, rfl, w1⟩ := open_int Try.underlying3 (hval 1 3 v1 rfl rfl) h1
  obtain ⟨a0, len0, cap0, rfl⟩ := okWide_slice Try.underlying22 (hval 0 22 v0 rfl rfl)
  have k0 := h0
  have lt0 : ∀ x ∈ p0, x.block < W.heap.size := by obtain ⟨m, hm⟩ := k0; exact DataW.trod_lt m _ _ _ hm
  obtain ⟨z0, w0⟩ : ∃ L, RB W (.slice a0 len0 cap0) L := by
    obtain ⟨fuel, hf⟩ := h0
    obtain ⟨v, l, hv, hl⟩ := open_u8s hf
    simp [Value.cells] at hv
    subst hv
    exact ⟨l, hl⟩
  obtain ⟨a2, len2, cap2, rfl⟩ := okWide_slice Try.underlying23 (hval 2 23 v2 rfl rfl)
  have k2 := h2
  have lt2 : ∀ x ∈ p2, x.block < W.heap.size := by obtain ⟨m, hm⟩ := k2; exact DataW.trod_lt m _ _ _ hm
  obtain ⟨z2, w2⟩ : ∃ L, RI W (.slice a2 len2 cap2) L := by
    obtain ⟨fuel, hf⟩ := h2
    obtain ⟨v, l, hv, hl⟩ := open_i64s hf
    simp [Value.cells] at hv
    subst hv
    exact ⟨l, hl⟩
  clear hA0 hval0
  refine (walk (.slice a0 len0 cap0) z0 a1 (.slice a2 len2 cap2) z2 W w0 w1 w2).mono fun e W' ⟨he, bel⟩ => ?_
  subst he
  exact ⟨_, rfl, _, _, _, [], _, [], hW', trodAll_mk1 (shut_bool Try.underlying4 _), (trodAll_cons_mk (Below.trod laidOut (by kernel_rfl) (of_decide_eq_true (by kernel_rfl)) k0 bel lt0) (trodAll_cons_mk (shut_int Try.underlying3 w1) (trodAll_cons_mk (Below.trod laidOut (by kernel_rfl) (of_decide_eq_true (by kernel_rfl)) k2 bel lt2) trodAll_mk0))), rfl, bel.frame _, fun h => by cases h⟩

theorem over : Rows.wirePutsRow.holds Try.pinned (OpenSpec.ofChange Rows.wirePutsSpec) :=
  OpenClaim.holds_of_wide 3 Try.f3 rfl rfl rfl rfl rfl rfl rfl ⟨rfl, rfl, rfl, rfl, rfl⟩ rfl rfl rfl rfl rfl (by kernel_rfl) Try.func3 (by kernel_rfl)
    (of_decide_eq_true (by kernel_rfl)) (by unfold Func.isWrapper; first | (rw [if_pos (by decide +kernel)]; kernel_rfl) | (rw [if_neg (by decide +kernel)]; exact ⟨rfl, rfl⟩))
    (fun os started H enc _ => lifted os started H enc)
end Go.Proofs.Ytbhebnhjnpfhgaa.wirePuts
namespace Go.Proofs.Ytbhebnhjnpfhgaa

theorem wirePuts_holds : Rows.WirePutsSaid := wirePuts.over
#print axioms wirePuts_holds
end Go.Proofs.Ytbhebnhjnpfhgaa
