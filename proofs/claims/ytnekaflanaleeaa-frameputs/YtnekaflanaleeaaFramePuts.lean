/- FramePuts: for all bytes: their sum, and the frame that is put, are as the document says, and nothing behind what came in is written; proved in full, nothing is asked of the input. -/
import Derived.Test.YtnekaflanaleeaaRows
import Derived.Test.YtnekaflanaleeaaWo
import Derived.ProofKit
import Derived.OpenShut
import Derived.ShutString
import Derived.ChangeOld
import Derived.Deep.Strs
namespace Go.Proofs.Ytnekaflanaleeaa.framePuts
open Go.RowKit
set_option linter.unusedVariables false

/-- What Put answers, in plain words. -/
def putR (a b : List UInt8) : List UInt8 := if b.length ≤ 1024 then a ++ frameP b else []
def putE (b : List UInt8) : Nat := if b.length ≤ 1024 then 0 else 5

theorem putc_any (x y : Value) (a b : List UInt8) (w : World) (hx : RB w x a) (hy : RB w y b) (ha : a.length ≤ 5000) (hb : b.length ≤ 5000) :
    Calls Try.prog 9 #[x, y] w fun e w' => ∃ v n c, e = .returned (.tuple #[.slice v n c, .int .i64 (putE b : Nat)]) ∧ RB w' (.slice v n c) (putR a b) ∧ Below w.heap.size w w' := by
  unfold putR putE
  by_cases h : b.length ≤ 1024
  · rw [if_pos h, if_pos h]
    refine Calls.mono (put_any x y a b w hx hy (by omega) h) ?_
    rintro e w' ⟨g, cap, h1, h2, h3⟩
    exact ⟨_, _, _, h1, h2.rb.2, h3⟩
  · rw [if_neg h, if_neg h]
    refine Calls.mono (put_big x y b w hy (by omega) (by omega)) ?_
    rintro e w' ⟨h1, rfl⟩
    exact ⟨_, _, _, h1, RB.nil _, Below.refl _ _⟩

theorem rputc_any (a b : List UInt8) (w : World) (ha : a.length ≤ 5000) (hb : b.length ≤ 5000) :
    Calls Try.prog 10 #[.string ⟨a.toArray⟩, .string ⟨b.toArray⟩] w fun e w' => e = .returned (.tuple #[.string ⟨(putR a b).toArray⟩, .int .i64 (putE b : Nat)]) ∧ Below w.heap.size w w' := by
  unfold putR putE
  by_cases h : b.length ≤ 1024
  · rw [if_pos h, if_pos h]
    exact rput_any a b w (by omega) h
  · rw [if_neg h, if_neg h]
    refine Calls.mono (rput_big a b w (by omega) (by omega)) ?_
    rintro e w' ⟨h1, rfl⟩
    exact ⟨h1, Below.refl _ _⟩

set_option maxRecDepth 1000000 in
set_option maxHeartbeats 1000000 in
theorem walk_big (x : Value) (a : List UInt8) (y : Value) (b : List UInt8) (w : World) (hx : RB w x a) (hy : RB w y b) (h : 5000 < a.length ∨ 5000 < b.length) :
    Calls Try.prog 3 #[x, y] w fun e w' => e = .returned (.bool true) ∧ Below w.heap.size w w' := by
  obtain ⟨xa, xc, rfl, _⟩ := hx
  obtain ⟨ya, yc, rfl, _⟩ := hy
  generalize a.length = n at *
  generalize b.length = k at *
  by_cases h0 : 5000 < n
  · clear h
    go_enter Try.func3, Try.ntmps3
    go_wp2_with fail
    refine (lives_any _).mono ?_
    rintro e w1 ⟨rfl, hb1⟩
    go_wp2
    go_ret
    exact ⟨rfl, hb1⟩
  · have h1 : 5000 < k := by omega
    clear h
    go_enter Try.func3, Try.ntmps3
    go_wp2_with fail
    refine (lives_any _).mono ?_
    rintro e w1 ⟨rfl, hb1⟩
    go_wp2
    go_ret
    exact ⟨rfl, hb1⟩

set_option maxRecDepth 1000000 in
set_option maxHeartbeats 1000000 in
theorem walk_small (x : Value) (a : List UInt8) (y : Value) (b : List UInt8) (w : World) (hx : RB w x a) (hy : RB w y b) (h1 : a.length ≤ 5000) (h2 : b.length ≤ 5000) :
    Calls Try.prog 3 #[x, y] w fun e w' => e = .returned (.bool true) ∧ Below w.heap.size w w' := by
  have HX : Hid (RB w x a) := hx
  have HY : Hid (RB w y b) := hy
  obtain ⟨xa, xc, rfl, _⟩ := hx
  obtain ⟨ya, yc, rfl, _⟩ := hy
  have HB3 : Hid (Below w.heap.size w (w.alloc (.cells #[] 5))) := (Below.refl _ _).alloc (Nat.le_refl _) _
  have HO3 : Hid (OB w.heap.size (w.alloc (.cells #[] 5)) w.heap.size 0 0 []) := OB.made w 0 #[] (Nat.zero_le _) rfl
  go_enter Try.func3, Try.ntmps3
  go_wp2_with (first
    | (at_builtin; refine append_bytes rfl _ _ rfl w.heap.size w.heap.size 0 0 [] rfl HO3.out _ a rfl (HX.out.later HB3.out) (by omega) (by omega) (by simp) a.length a (by omega) rfl ?_; intro g4 c4 w4 ho4 hg4; have HB4 : Hid (Below w.heap.size w w4) := HB3.out.trans (HO3.out.below (by simp) hg4); have HO4 : Hid (OB w.heap.size w4 g4 a.length c4 a) := ho4; clear ho4 hg4)
    | (at_builtin; refine append_bytes rfl _ _ rfl w.heap.size g4 a.length c4 a rfl (HO4.out.later ((Below.refl _ _).alloc (Nat.le_refl _) _)) _ [120] rfl (RB.new w4 [120] #[.int .u8 120] 5 rfl (by decide)) (by omega) (by decide) (by have := HB4.out.size; simp; omega) (a.length + 1) (a ++ [120]) rfl rfl ?_; intro g5 c5 w5 ho5 hg5; have HB5 : Hid (Below w.heap.size w w5) := (HB4.out.alloc HB4.out.size _).trans ((HO4.out.later ((Below.refl _ _).alloc (Nat.le_refl _) _)).below (by have := HB4.out.size; simp; omega) hg5); have HO5 : Hid (OB w.heap.size w5 g5 (a.length + 1) c5 (a ++ [120])) := ho5; obtain ⟨V, hV, hSV⟩ := slice_to HO5.out.rb.2 a.length (by simp) a.length rfl; rw [List.take_left] at hV; have HV : Hid (RB w5 V a) := hV; clear ho5 hg5 hV HO4 HB4 HO3 HB3))
  refine Calls.mono (putc_any V _ a b w5 HV.out (HY.out.later HB5.out) h1 h2) ?_
  rintro e w6 ⟨v6, n6, c6, rfl, hr6, hb6⟩
  have HB6 : Hid (Below w.heap.size w w6) := HB5.out.trans (hb6.mono HB5.out.size)
  have hcx := string_of_RB (HX.out.later HB6.out)
  have hcy := string_of_RB (HY.out.later HB6.out)
  have HR6 : Hid (RB w6 (.slice v6 n6 c6) (putR a b)) := hr6
  have HO6 : Hid (OB w.heap.size w6 g5 (a.length + 1) c5 (a ++ [120])) := HO5.out.later hb6
  clear hSV hb6 hr6 HO5 HV
  go_wp2_with fail
  refine Calls.mono (rputc_any a b w6 h1 h2) ?_
  rintro e w7 ⟨rfl, hb7⟩
  have HB7 : Hid (Below w.heap.size w w7) := HB6.out.trans (hb7.mono HB6.out.size)
  have HR7 : Hid (RB w7 (.slice v6 n6 c6) (putR a b)) := HR6.out.later hb7
  have HO7 : Hid (OB w.heap.size w7 g5 (a.length + 1) c5 (a ++ [120])) := HO6.out.later hb7
  clear hcx hcy hb7 HR6 HO6
  generalize putR a b = R at *
  generalize putE b = E at *
  have hcw : w7.cell? ⟨g5, a.length, none⟩ = some (.int .u8 120) := by
    have := (RB.cells HO7.out.rb.2).2 a.length (.int .u8 120) (by simp [bvs])
    rw [Go.WideShapes.add_plain, Nat.zero_add] at this
    exact this
  have HS0 : Hid (Below w7.heap.size w7 w7.drew ∧ w7.drew.cell? ⟨g5, a.length, none⟩ = some (.int .u8 120)) := ⟨(Below.refl _ _).drew, hcw⟩
  have HK : Hid (∀ w1 w2 : World, (Below w7.heap.size w7 w1 ∧ w1.cell? ⟨g5, a.length, none⟩ = some (.int .u8 120)) → Below w1.heap.size w1 w2 → (Below w7.heap.size w7 w2 ∧ w2.cell? ⟨g5, a.length, none⟩ = some (.int .u8 120))) := by
    show ∀ w1 w2, _
    rintro w1 w2 ⟨k1, k2⟩ hb
    exact ⟨k1.trans (hb.mono k1.size), cell_later hb k2⟩
  have hcy := string_of_RB ((HY.out.later HB7.out).later HS0.out.1)
  have hcr := string_of_RB (HR7.out.later HS0.out.1)
  have HSU : Hid (∀ wx, Below w7.heap.size w7 wx → Calls Try.prog 11 #[.slice ya b.length yc] wx fun e w' => e = .returned (.int .u32 (sumP b : Nat)) ∧ w' = wx) := fun wx hb => sum_any _ b wx ((HY.out.later HB7.out).later hb) (by omega)
  have HSR : Hid (∀ wx, Calls Try.prog 12 #[.string ⟨b.toArray⟩] wx fun e w' => e = .returned (.int .u32 (sumP b : Nat)) ∧ w' = wx) := fun wx => rsum_any _ b rfl wx (by omega)
  generalize sumP b = Q at *
  clear hcw HR7 HO7
  go_wp2_with fail
  go_region_held (fun w' => Below w7.heap.size w7 w' ∧ w'.cell? ⟨g5, a.length, none⟩ = some (.int .u8 120))
    (first | exact HS0.out | exact HK.out _ _ ‹_› hb9)
    (first
      | (go_at_call 11; refine Calls.mono (HSU.out _ HS0.out.1) ?_; rintro e w8 ⟨rfl, rfl⟩)
      | (go_at_call 12; refine Calls.mono (HSR.out _) ?_; rintro e w8 ⟨rfl, rfl⟩)
      | (go_at_call 8; refine (lives_any _).mono ?_; rintro e w9 ⟨rfl, hb9⟩))
  all_goals
    have hb10 := (HK.out _ _ HS0.out hb9).1
    have HB10 : Hid (Below w.heap.size w w9) := HB7.out.trans (hb10.mono HB7.out.size)
    clear hb9 hb10 HK HS0 HSU HSR hcy hcr
    go_wp2_with fail
    go_ret
    exact ⟨rfl, HB10.out⟩

theorem walk (x : Value) (a : List UInt8) (y : Value) (b : List UInt8) (w : World) (hx : RB w x a) (hy : RB w y b) :
    Calls Try.prog 3 #[x, y] w fun e w' => e = .returned (.bool true) ∧ Below w.heap.size w w' := by
  by_cases h : 5000 < a.length ∨ 5000 < b.length
  · exact walk_big x a y b w hx hy h
  · exact walk_small x a y b w hx hy (by omega) (by omega)

open Go.ChangeShapes Go.WideShapes Go.ChangeAt
open Go.ChangeMaps (open_string shut_string)

theorem own : ownKnob Try.prog.godebug = none := by kernel_rfl
theorem laidOut : laidOutB Try.prog = true := by kernel_rfl

theorem reads_u8s {w : World} {a : Addr} {len cap : Nat} {zs : List Int} (h : ∀ i, i < zs.length → w.cell? (a.add i) = some (.int .u8 (zs.getD i 0))) (hw : ∀ n ∈ zs, (Lit.int .u8 n).wf = true) (hl : len ≤ zs.length) (hc : len ≤ cap) (hm : cap ≤ maxLen) : RB w (.slice (some a) len cap) ((zs.take len).map fun z => UInt8.ofNat z.toNat) := by
  have hlen : ((zs.take len).map fun z => UInt8.ofNat z.toNat).length = len := by simp; omega
  refine ⟨some a, cap, by rw [hlen], by rw [hlen]; exact hc, hm, (fun h => by cases h), fun i hi => ?_⟩
  rw [hlen] at hi
  have hz : i < zs.length := by omega
  have hwf := hw zs[i] (List.getElem_mem hz)
  have hwf2 : 0 ≤ zs[i] ∧ zs[i] ≤ 255 := by simpa [Lit.wf, IntKind.min, IntKind.max, IntKind.signed, IntKind.bits] using hwf
  obtain ⟨b, off, rfl, hcc⟩ := ints_at h (by omega)
  refine ⟨b, off, rfl, ?_⟩
  rw [hcc i (by omega)]
  have e1 : zs.getD i 0 = zs[i] := by simp [hz]
  have e2 : ((zs.take len).map fun z => UInt8.ofNat z.toNat).getD i 0 = UInt8.ofNat zs[i].toNat := by simp [hz, hi]
  rw [e1, e2, u8_nat, Nat.mod_eq_of_lt (by omega)]
  congr 2
  omega

set_option maxRecDepth 100000 in
theorem lifted (os : Os) (started : os.Started) (H : Type) (enc : TypeId × Value → H) :
    ReturnsInHanded {} Try.checked os 3 .any (Rows.framePutsSpec.pre6 enc Try.prog Try.f3 Rows.framePutsRow.domain false) (Rows.framePutsSpec.post enc Try.prog Try.f3 false true false false) := by
  refine returnsInHanded_of_change (C := Try.checked) own started (by kernel_rfl) Try.func3
    (ChangeSpec.witness6 (enc := enc) (C := Try.checked) false ⟨#[], #[.slice none 0 0, .slice none 0 0], []⟩ 8 (by kernel_rfl) (by kernel_rfl) (by kernel_rfl) (by kernel_rfl)) ?_
  intro W base args ds gs before hval0 hW hcnd _
  have hval : ∀ (j : Nat) t v, Try.f3.params[j]? = some t → args[j]? = some v → Value.okWide Try.prog W .any base t v := hval0
  have hW' := hW
  obtain ⟨p, q, hA0, hV, rfl, hfz, hnd⟩ := hW
  have hA : DataW.TrodAll enc Try.prog W 0 (fun _ => true) true Try.f3.params.toList args.toList ds p := hA0
  rw [Try.params3] at hA hval
  obtain ⟨v0, vs0, d0, ds0, p0, q0, hargs, rfl, rfl, h0, r0⟩ := trodAll_cons hA
  obtain ⟨v1, vs1, d1, ds1, p1, q1, rfl, rfl, rfl, h1, r1⟩ := trodAll_cons r0
  obtain ⟨rfl, rfl, rfl⟩ := trodAll_nil r1
  obtain rfl : args = #[v0, v1] := by cases args; simp_all
  obtain ⟨rfl, rfl⟩ := trodVars_none hV
  obtain ⟨a0, len0, cap0, rfl⟩ := okWide_slice Try.underlying22 (hval 0 22 v0 rfl rfl)
  have k0 := h0
  have lt0 : ∀ x ∈ p0, x.block < W.heap.size := by obtain ⟨m, hm⟩ := k0; exact DataW.trod_lt m _ _ _ hm
  obtain ⟨z0, w0⟩ : ∃ zs, RB W (.slice a0 len0 cap0) zs := by
    obtain ⟨fuel, hf⟩ := h0
    rcases open_ints Try.underlying22 Try.underlying5 (by kernel_rfl) hf with ⟨hcs, _⟩ | ⟨x, l, c, zs, hcs, _, hl, hm, hz, _, hcell, hwz⟩
    · simp [Value.cells] at hcs
      obtain ⟨rfl, rfl, rfl⟩ := hcs
      exact ⟨[], RB.nil W⟩
    · simp [Value.cells] at hcs
      obtain ⟨rfl, rfl, rfl⟩ := hcs
      exact ⟨_, reads_u8s hcell hwz (by rw [hz]; split <;> omega) hl hm⟩
  obtain ⟨a1, len1, cap1, rfl⟩ := okWide_slice Try.underlying22 (hval 1 22 v1 rfl rfl)
  have k1 := h1
  have lt1 : ∀ x ∈ p1, x.block < W.heap.size := by obtain ⟨m, hm⟩ := k1; exact DataW.trod_lt m _ _ _ hm
  obtain ⟨z1, w1⟩ : ∃ zs, RB W (.slice a1 len1 cap1) zs := by
    obtain ⟨fuel, hf⟩ := h1
    rcases open_ints Try.underlying22 Try.underlying5 (by kernel_rfl) hf with ⟨hcs, _⟩ | ⟨x, l, c, zs, hcs, _, hl, hm, hz, _, hcell, hwz⟩
    · simp [Value.cells] at hcs
      obtain ⟨rfl, rfl, rfl⟩ := hcs
      exact ⟨[], RB.nil W⟩
    · simp [Value.cells] at hcs
      obtain ⟨rfl, rfl, rfl⟩ := hcs
      exact ⟨_, reads_u8s hcell hwz (by rw [hz]; split <;> omega) hl hm⟩
  clear hA0 hval0
  refine (walk (.slice a0 len0 cap0) z0 (.slice a1 len1 cap1) z1 W w0 w1).mono fun e W' ⟨he, bel⟩ => ?_
  subst he
  exact ⟨_, rfl, _, _, _, [], _, [], hW', trodAll_mk1 (shut_bool Try.underlying4 _), (trodAll_cons_mk (Below.trod laidOut (by kernel_rfl) (of_decide_eq_true (by kernel_rfl)) k0 bel lt0) (trodAll_cons_mk (Below.trod laidOut (by kernel_rfl) (of_decide_eq_true (by kernel_rfl)) k1 bel lt1) trodAll_mk0)), rfl, bel.frame _, fun h => by cases h⟩

theorem over : Rows.framePutsRow.holds Try.pinned (OpenSpec.ofChange Rows.framePutsSpec) :=
  OpenClaim.holds_of_wide 3 Try.f3 rfl rfl rfl rfl rfl rfl rfl ⟨rfl, rfl, rfl, rfl, rfl⟩ rfl rfl rfl rfl rfl (by kernel_rfl) Try.func3 (by kernel_rfl)
    (of_decide_eq_true (by kernel_rfl)) (by unfold Func.isWrapper; first | (rw [if_pos (by decide +kernel)]; kernel_rfl) | (rw [if_neg (by decide +kernel)]; exact ⟨rfl, rfl⟩))
    (fun os started H enc _ => lifted os started H enc)
end Go.Proofs.Ytnekaflanaleeaa.framePuts
namespace Go.Proofs.Ytnekaflanaleeaa

theorem framePuts_holds : Rows.FramePutsSaid := framePuts.over
#print axioms framePuts_holds
end Go.Proofs.Ytnekaflanaleeaa
