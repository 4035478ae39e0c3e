/- FrameTakes: for all bytes and every place: the frame there, and all frames from the front on, are as the document says; proved in full, nothing is asked of the input. -/
import Derived.Test.YtnekaflanaleeaaRows
import Derived.Test.YtnekaflanaleeaaWo
import Derived.ProofKit
import Derived.OpenShut
import Derived.ShutString
import Derived.ChangeOld
import Derived.Deep.Strs
namespace Go.Proofs.Ytnekaflanaleeaa.frameTakes
open Go.RowKit
set_option linter.unusedVariables false

theorem count_from (l : List UInt8) : ∀ (f p : Nat), p ≤ l.length → 6 * (allP l f p).1.length ≤ l.length - p
  | 0, p, _ => by simp [allP]
  | f + 1, p, hp => by
    by_cases h : (takeP l p).2.2 = 0
    · obtain ⟨n1, n2, n3, n4⟩ := takeP_next h
      have ih := count_from l f (takeP l p).2.1 n2
      rw [allP_step h]
      simp only [List.length_cons]
      omega
    · rw [allP_stop h]
      simp

theorem all_count (l : List UInt8) : 6 * (allP l (l.length + 1) 0).1.length ≤ l.length := by
  have := count_from l (l.length + 1) 0 (Nat.zero_le _)
  omega

set_option maxRecDepth 1000000 in
set_option maxHeartbeats 1000000 in
theorem walk_big (x : Value) (l : List UInt8) (p : Int) (w : World) (hx : RB w x l) (h : 20000 < l.length) :
    Calls Try.prog 4 #[x, .int .i64 p] w fun e w' => e = .returned (.bool true) ∧ Below w.heap.size w w' := by
  obtain ⟨a, ca, rfl, _⟩ := hx
  go_enter Try.func4, Try.ntmps4
  go_wp2_with fail
  refine (lives_any _).mono ?_
  rintro e w1 ⟨rfl, hb1⟩
  go_wp2
  go_ret
  exact ⟨rfl, hb1⟩

/-- Take at any place, in plain words. -/
def takeZ (l : List UInt8) (p : Int) : List UInt8 × Nat × Nat := if p < 0 ∨ (l.length : Int) < p then ([], 0, 2) else takeP l p.toNat

theorem takeZ_any (x : Value) (l : List UInt8) (p : Int) (w : World) (hx : RB w x l) (hl : l.length ≤ 100000) :
    Calls Try.prog 13 #[x, .int .i64 p] w fun e w' => Below w.heap.size w w' ∧ ∃ a n c, e = .returned (.tuple #[.slice a n c, .int .i64 ((takeZ l p).2.1 : Nat), .int .i64 ((takeZ l p).2.2 : Nat)]) ∧ RB w' (.slice a n c) (takeZ l p).1 := by
  by_cases h : p < 0 ∨ (l.length : Int) < p
  · refine Calls.mono (take_out x l p w hx h hl) ?_
    rintro e w' ⟨h1, rfl⟩
    unfold takeZ
    rw [if_pos h]
    exact ⟨Below.refl _ _, _, _, _, h1, RB.nil _⟩
  · obtain ⟨q, rfl⟩ : ∃ q : Nat, p = q := ⟨p.toNat, by omega⟩
    refine Calls.mono (take_any x l q w hx (by omega) hl) ?_
    rintro e w' ⟨h1, v, h2, h3⟩
    obtain ⟨a3, c3, rfl⟩ := owns_slice h3
    unfold takeZ
    rw [if_neg h, Int.toNat_natCast]
    exact ⟨h1, _, _, _, h2, RB.of_owns h3 rfl⟩

theorem rtakeZ_any (l : List UInt8) (p : Int) (w : World) (hl : l.length ≤ 100000) :
    Calls Try.prog 14 #[.string ⟨l.toArray⟩, .int .i64 p] w fun e w' => Below w.heap.size w w' ∧ e = .returned (.tuple #[.string ⟨(takeZ l p).1.toArray⟩, .int .i64 ((takeZ l p).2.1 : Nat), .int .i64 ((takeZ l p).2.2 : Nat)]) := by
  by_cases h : p < 0 ∨ (l.length : Int) < p
  · refine Calls.mono (rtake_out l p w h hl) ?_
    rintro e w' ⟨h1, rfl⟩
    unfold takeZ
    rw [if_pos h]
    exact ⟨Below.refl _ _, h1⟩
  · obtain ⟨q, rfl⟩ : ∃ q : Nat, p = q := ⟨p.toNat, by omega⟩
    refine Calls.mono (rtake_any l q w (by omega) hl) ?_
    rintro e w' ⟨h1, h2⟩
    unfold takeZ
    rw [if_neg h, Int.toNat_natCast]
    exact ⟨h1, h2⟩

set_option maxRecDepth 1000000 in
set_option maxHeartbeats 1000000 in
theorem walk_small (x : Value) (l : List UInt8) (p : Int) (w : World) (hx : RB w x l) (h : l.length ≤ 20000) :
    Calls Try.prog 4 #[x, .int .i64 p] w fun e w' => e = .returned (.bool true) ∧ Below w.heap.size w w' := by
  have HT : Hid _ := takeZ_any x l p w hx (by omega)
  have HX : Hid (RB w x l) := hx
  obtain ⟨a, ca, rfl, _⟩ := hx
  go_enter Try.func4, Try.ntmps4
  go_wp2_with fail
  refine Calls.mono HT.out ?_
  rintro e w1 ⟨hb1, a1, n1, c1, rfl, hr1⟩
  clear HT
  have hs1 := string_of_RB (HX.out.later hb1)
  have HB1 : Hid (Below w.heap.size w w1) := hb1
  have HR1 : Hid (RB w1 (.slice a1 n1 c1) (takeZ l p).1) := hr1
  clear hb1 hr1
  go_wp2_with fail
  refine Calls.mono (rtakeZ_any l p _ (by omega)) ?_
  rintro e w2 ⟨hb2, rfl⟩
  have HB2 : Hid (Below w.heap.size w w2) := HB1.out.trans (hb2.mono HB1.out.size)
  have HR2 : Hid (RB w2 (.slice a1 n1 c1) (takeZ l p).1) := HR1.out.later hb2
  generalize takeZ l p = T at *
  clear hs1 hb2 HB1 HR1
  have HB3 : Hid (Below w2.heap.size w2 (w2.alloc (.cells #[] 5))) := (Below.refl _ _).alloc (Nat.le_refl _) _
  have HO3 : Hid (OB w2.heap.size (w2.alloc (.cells #[] 5)) w2.heap.size 0 0 []) := OB.made w2 0 #[] (Nat.zero_le _) rfl
  go_wp2_with (at_builtin; refine append_bytes rfl _ _ rfl w2.heap.size w2.heap.size 0 0 [] rfl HO3.out _ l rfl ((HX.out.later HB2.out).later HB3.out) (by omega) (by omega) (by simp) l.length l (by omega) rfl ?_; intro g4 c4 w4 ho4 hg4; have HB4 : Hid (Below w2.heap.size w2 w4) := HB3.out.trans (HO3.out.below (by simp) hg4); have HR4 : Hid (RB w4 (.slice (some ⟨g4, 0, none⟩) l.length c4) l) := ho4.rb.2; clear ho4 hg4)
  refine Calls.mono (all_any _ l w4 HR4.out (by omega)) ?_
  rintro e w5 ⟨hb5, v5, rfl, hr5⟩
  have hb25 : Below w2.heap.size w2 w5 := HB4.out.trans (hb5.mono HB4.out.size)
  have HB5 : Hid (Below w.heap.size w w5) := HB2.out.trans (hb25.mono HB2.out.size)
  have HR5 : Hid (RBB w4.heap.size w5 v5 (allP l (l.length + 1) 0).1) := hr5
  have HT5 : Hid (RB w5 (.slice a1 n1 c1) T.1) := HR2.out.later hb25
  have hs5 := string_of_RB (HX.out.later HB5.out)
  clear hb5 hr5 hb25 HR2 HB2 HB3 HO3 HB4 HR4
  go_wp2_with fail
  refine Calls.mono (rall_any l w5 (by omega)) ?_
  rintro e w6 ⟨hb6, v6, rfl, hr6⟩
  have HB6 : Hid (Below w.heap.size w w6) := HB5.out.trans (hb6.mono HB5.out.size)
  have HR6 : Hid (RSB w6 v5 (allP l (l.length + 1) 0).1) := HR5.out.reads.later hb6
  have HS6 : Hid (RS w6 v6 (allP l (l.length + 1) 0).1) := RS.of_owns hr6 rfl
  have hs6 := string_of_RB (HT5.out.later hb6)
  have hcl := all_count l
  clear hs5 hb6 hr6 HT5 HR5
  generalize allP l (l.length + 1) 0 = R at *
  have HSE : Hid _ := same_eq v6 v5 R.1 w6 HS6.out HR6.out (by omega)
  go_wp2_with (first
    | (go_at_call 17; refine Calls.mono HSE.out ?_; rintro e w7 ⟨rfl, n7, rfl⟩)
    | (go_at_call 8; refine (lives_any _).mono ?_; rintro e w8 ⟨rfl, hb8⟩))
  go_ret
  have hb7 := below_drewN HB6.out n7
  exact ⟨rfl, hb7.trans (hb8.mono hb7.size)⟩

theorem walk (x : Value) (l : List UInt8) (p : Int) (w : World) (hx : RB w x l) (hp : (Lit.int .i64 p).wf = true) :
    Calls Try.prog 4 #[x, .int .i64 p] w fun e w' => e = .returned (.bool true) ∧ Below w.heap.size w w' := by
  by_cases h : l.length ≤ 20000
  · exact walk_small x l p w hx h
  · exact walk_big x l p w hx (by omega)

open Go.ChangeShapes Go.WideShapes Go.ChangeAt
open Go.ChangeMaps (open_string shut_string)

theorem own : ownKnob Try.prog.godebug = none := by kernel_rfl
theorem laidOut : laidOutB Try.prog = true := by kernel_rfl

theorem reads_u8s {w : World} {a : Addr} {len cap : Nat} {zs : List Int} (h : ∀ i, i < zs.length → w.cell? (a.add i) = some (.int .u8 (zs.getD i 0))) (hw : ∀ n ∈ zs, (Lit.int .u8 n).wf = true) (hl : len ≤ zs.length) (hc : len ≤ cap) (hm : cap ≤ maxLen) : RB w (.slice (some a) len cap) ((zs.take len).map fun z => UInt8.ofNat z.toNat) := by
  have hlen : ((zs.take len).map fun z => UInt8.ofNat z.toNat).length = len := by simp; omega
  refine ⟨some a, cap, by rw [hlen], by rw [hlen]; exact hc, hm, (fun h => by cases h), fun i hi => ?_⟩
  rw [hlen] at hi
  have hz : i < zs.length := by omega
  have hwf := hw zs[i] (List.getElem_mem hz)
  have hwf2 : 0 ≤ zs[i] ∧ zs[i] ≤ 255 := by simpa [Lit.wf, IntKind.min, IntKind.max, IntKind.signed, IntKind.bits] using hwf
  obtain ⟨b, off, rfl, hcc⟩ := ints_at h (by omega)
  refine ⟨b, off, rfl, ?_⟩
  rw [hcc i (by omega)]
  have e1 : zs.getD i 0 = zs[i] := by simp [hz]
  have e2 : ((zs.take len).map fun z => UInt8.ofNat z.toNat).getD i 0 = UInt8.ofNat zs[i].toNat := by simp [hz, hi]
  rw [e1, e2, u8_nat, Nat.mod_eq_of_lt (by omega)]
  congr 2
  omega

set_option maxRecDepth 100000 in
theorem lifted (os : Os) (started : os.Started) (H : Type) (enc : TypeId × Value → H) :
    ReturnsInHanded {} Try.checked os 4 .any (Rows.frameTakesSpec.pre6 enc Try.prog Try.f4 Rows.frameTakesRow.domain false) (Rows.frameTakesSpec.post enc Try.prog Try.f4 false true false false) := by
  refine returnsInHanded_of_change (C := Try.checked) own started (by kernel_rfl) Try.func4
    (ChangeSpec.witness6 (enc := enc) (C := Try.checked) false ⟨#[], #[.slice none 0 0, .int .i64 0], []⟩ 8 (by kernel_rfl) (by kernel_rfl) (by kernel_rfl) (by kernel_rfl)) ?_
  intro W base args ds gs before hval0 hW hcnd _
  have hval : ∀ (j : Nat) t v, Try.f4.params[j]? = some t → args[j]? = some v → Value.okWide Try.prog W .any base t v := hval0
  have hW' := hW
  obtain ⟨p, q, hA0, hV, rfl, hfz, hnd⟩ := hW
  have hA : DataW.TrodAll enc Try.prog W 0 (fun _ => true) true Try.f4.params.toList args.toList ds p := hA0
  rw [Try.params4] at hA hval
  obtain ⟨v0, vs0, d0, ds0, p0, q0, hargs, rfl, rfl, h0, r0⟩ := trodAll_cons hA
  obtain ⟨v1, vs1, d1, ds1, p1, q1, rfl, rfl, rfl, h1, r1⟩ := trodAll_cons r0
  obtain ⟨rfl, rfl, rfl⟩ := trodAll_nil r1
  obtain rfl : args = #[v0, v1] := by cases args; simp_all
  obtain ⟨rfl, rfl⟩ := trodVars_none hV
  obtain ⟨a1, rfl, rfl, rfl, w1⟩ := open_int Try.underlying3 (hval 1 3 v1 rfl rfl) h1
  obtain ⟨a0, len0, cap0, rfl⟩ := okWide_slice Try.underlying22 (hval 0 22 v0 rfl rfl)
  have k0 := h0
  have lt0 : ∀ x ∈ p0, x.block < W.heap.size := by obtain ⟨m, hm⟩ := k0; exact DataW.trod_lt m _ _ _ hm
  obtain ⟨z0, w0⟩ : ∃ zs, RB W (.slice a0 len0 cap0) zs := by
    obtain ⟨fuel, hf⟩ := h0
    rcases open_ints Try.underlying22 Try.underlying5 (by kernel_rfl) hf with ⟨hcs, _⟩ | ⟨x, l, c, zs, hcs, _, hl, hm, hz, _, hcell, hwz⟩
    · simp [Value.cells] at hcs
      obtain ⟨rfl, rfl, rfl⟩ := hcs
      exact ⟨[], RB.nil W⟩
    · simp [Value.cells] at hcs
      obtain ⟨rfl, rfl, rfl⟩ := hcs
      exact ⟨_, reads_u8s hcell hwz (by rw [hz]; split <;> omega) hl hm⟩
  clear hA0 hval0
  refine (walk (.slice a0 len0 cap0) z0 a1 W w0 w1).mono fun e W' ⟨he, bel⟩ => ?_
  subst he
  exact ⟨_, rfl, _, _, _, [], _, [], hW', trodAll_mk1 (shut_bool Try.underlying4 _), (trodAll_cons_mk (Below.trod laidOut (by kernel_rfl) (of_decide_eq_true (by kernel_rfl)) k0 bel lt0) (trodAll_cons_mk (shut_int Try.underlying3 w1) trodAll_mk0)), rfl, bel.frame _, fun h => by cases h⟩

theorem over : Rows.frameTakesRow.holds Try.pinned (OpenSpec.ofChange Rows.frameTakesSpec) :=
  OpenClaim.holds_of_wide 4 Try.f4 rfl rfl rfl rfl rfl rfl rfl ⟨rfl, rfl, rfl, rfl, rfl⟩ rfl rfl rfl rfl rfl (by kernel_rfl) Try.func4 (by kernel_rfl)
    (of_decide_eq_true (by kernel_rfl)) (by unfold Func.isWrapper; first | (rw [if_pos (by decide +kernel)]; kernel_rfl) | (rw [if_neg (by decide +kernel)]; exact ⟨rfl, rfl⟩))
    (fun os started H enc _ => lifted os started H enc)
end Go.Proofs.Ytnekaflanaleeaa.frameTakes
namespace Go.Proofs.Ytnekaflanaleeaa

theorem frameTakes_holds : Rows.FrameTakesSaid := frameTakes.over
#print axioms frameTakes_holds
end Go.Proofs.Ytnekaflanaleeaa
