/- Whatever is done to a disk of any number of files, and any room, each call is answered, and all files, the room and the power are, as the document says. -/
import Derived.Test.YtbbmbjlpccdclaaRows
import Derived.Test.YtbbmbjlpccdclaaXl
import Derived.Test.YtbbmbjlpccdclaaXm
import Derived.Test.YtbbmbjlpccdclaaMc
import Derived.ProofKit
import Derived.OpenShut
import Derived.ShutString
import Derived.ChangeOld
namespace Go.Proofs.Ytbbmbjlpccdclaa.diskPlays
open Go.RowKit
set_option linter.unusedVariables false

theorem p_alike {B : Nat} {w : World} {p r g : Nat} {S : DS} {k : Nat} (h : LP B w p r g S k) : Calls Try.prog 13 #[.pointer (some ⟨p, 0, none⟩), .pointer (some ⟨r, 0, none⟩)] w fun e w' => e = .returned (.bool true) ∧ LP B w' p r g S k ∧ Below w.heap.size w w' := by
  have hb := h.bnd
  obtain ⟨T, q1, _⟩ := h.dk
  refine Calls.mono (alike_any T w p r g S q1 h.rv h.ok (small_mono h.sm (by omega) (by omega))) ?_
  rintro e w' ⟨h1, h2⟩
  exact ⟨h1, h.later h2, h2⟩

set_option maxRecDepth 1000000 in
set_option maxHeartbeats 4000000 in
theorem walk (files room : Int) (a : Option Addr) (n c : Nat) (L : List Ac) (w : World) (_w0 : (Lit.int .i64 files).wf = true) (_w1 : (Lit.int .i64 room).wf = true) (hx : RAs w (.slice a n c) L) (hn : FitN L) :
    Calls Try.prog 3 #[.int .i64 files, .int .i64 room, .slice a n c] w fun e w' => e = .returned (.bool true) ∧ Below w.heap.size w w' := by
  have HF : Hid _ := few_any _ L w hx
  obtain ⟨q, HQ⟩ : ∃ q, Hid (fewP L = q) := ⟨_, rfl⟩
  rw [HQ.out] at HF
  cases q with
  | false =>
    have HL : Hid _ := lives_any w
    obtain ⟨a', cap, he, _, _, _⟩ := hx
    cases he
    go_enter Try.func3, Try.ntmps3
    go_wp2_with fail
    refine Calls.mono HF.out ?_
    rintro e w1 ⟨rfl, rfl⟩
    go_wp2_with fail
    refine Calls.mono HL.out ?_
    rintro e w2 ⟨rfl, hb⟩
    go_wp2_with fail
    go_ret
    exact ⟨rfl, hb⟩
  | true =>
    have HI : Hid (Ins w.heap.size w L a) := hx.ins
    obtain ⟨hl, ho⟩ := few_len HQ.out
    have HO : Hid (∀ x ∈ L, okA x = true) := ho
    have HFN : Hid (FitN L) := hn
    obtain ⟨a', cap, he, _, _, _⟩ := hx
    cases he
    clear ho hn
    by_cases hv : 1 ≤ files ∧ files ≤ 65 ∧ 0 ≤ room ∧ room ≤ 1048576
    · obtain ⟨f, rfl⟩ : ∃ f : Nat, files = f := ⟨files.toNat, by omega⟩
      obtain ⟨m, rfl⟩ : ∃ m : Nat, room = m := ⟨room.toNat, by omega⟩
      have HN : Hid _ := new_lp f m w (by omega) (by omega) (by omega)
      go_enter Try.func3, Try.ntmps3
      go_wp2_with fail
      refine Calls.mono HF.out ?_
      rintro e w0 ⟨rfl, rfl⟩
      go_wp2_with fail
      refine Calls.mono HN.out ?_
      rintro e w1 ⟨rfl, hd1, hb1⟩
      have HR : Hid _ := rnew_lp f m w0 w1 (by omega) (by omega) (by omega) hd1 hb1
      clear hd1 hb1 HN HF HQ
      go_wp2_with fail
      refine Calls.mono HR.out ?_
      rintro e w2 ⟨r, g, rfl, hlp, hb2⟩
      have HLP : Hid _ := hlp
      have HB2 : Hid _ := hb2
      clear hlp hb2 HR
      go_wp2_with fail
      go_loopw [11] (fun i wr => ∃ k : Nat, k ≤ L.length ∧ i = .int .i64 k ∧ Hid (LP w0.heap.size wr w0.heap.size r g (playP (newP f m) (L.take k)) k) ∧ Hid (Below w0.heap.size w0 wr)) (fun i _ => L.length - (intOf i).toNat)
      case atStart => exact ⟨0, Nat.zero_le _, rfl, HLP, HB2⟩
      case round =>
        obtain ⟨k, hk, rfl, HP, HB⟩ := hrel
        by_cases hlt : k < L.length
        · obtain ⟨blk, off, bv, kv, rfl, ⟨c0, c1, c2, c3, c4, hbb, hkk⟩, lb, lk⟩ := HI.out wr HB.out k L[k] (List.getElem?_eq_getElem hlt)
          have HS : Hid _ := lp_step HP.out (by omega) L[k] bv kv hbb hkk (HO.out _ (List.getElem_mem hlt)) (HFN.out _ (List.getElem_mem hlt)) lb lk
          rw [← play_take _ _ _ hlt] at HS
          obtain ⟨ba, bc, rfl, _, _, _, _⟩ := hbb
          obtain ⟨ka, kc, rfl, _, _, _⟩ := hkk
          generalize L[k] = x at *
          clear HI HO HFN lb lk
          by_cases h7 : k % 8 = 7
          · have h7a : (k : Int) % 8 = 7 := by omega
            have h7b : ((k : Int).tmod 8 == 7) = true := by rw [Int.tmod_eq_emod_of_nonneg (by omega), h7a]; rfl
            go_wp2_with fail
            refine Calls.mono HS.out ?_
            rintro e w3 ⟨rfl, hp3, hb3⟩
            have HA : Hid _ := p_alike hp3
            have HB3 : Hid _ := HB.out.trans hb3
            clear hp3 hb3 HS c0 c1 c2 c3 c4
            go_wp2_with fail
            refine Calls.mono HA.out ?_
            rintro e w4 ⟨rfl, hp4, hb4⟩
            have HP4 : Hid _ := hp4
            have HB4 : Hid _ := HB3.out.trans (hb4.mono HB3.out.size)
            clear hp4 hb4 HA
            go_wp2_with fail
            go_roundw
            case rel => exact ⟨k + 1, by omega, by go_num, HP4, HB4⟩
            case measure => simp [intOf]; omega
          · have h7a : ¬ (k : Int) % 8 = 7 := by omega
            have h7b : ((k : Int).tmod 8 == 7) = false := by rw [Int.tmod_eq_emod_of_nonneg (by omega)]; simpa using h7a
            go_wp2_with fail
            refine Calls.mono HS.out ?_
            rintro e w3 ⟨rfl, hp3, hb3⟩
            have HP3 : Hid _ := hp3
            have HB3 : Hid _ := HB.out.trans hb3
            clear hp3 hb3 HS c0 c1 c2 c3 c4
            go_wp2_with fail
            go_roundw
            case rel => exact ⟨k + 1, by omega, by go_num, HP3, HB3⟩
            case measure => simp [intOf]; omega
        · have hkk : k = L.length := by omega
          have HA : Hid _ := p_alike HP.out
          clear hkk HI HO HFN
          go_wp2_with fail
          refine Calls.mono HA.out ?_
          rintro e w4 ⟨rfl, hp4, hb4⟩
          have HB4 : Hid _ := HB.out.trans (hb4.mono HB.out.size)
          have HL : Hid _ := lives_any w4
          clear hp4 hb4 HA
          go_wp2_with fail
          refine Calls.mono HL.out ?_
          rintro e w5 ⟨rfl, hb5⟩
          go_wp2_with fail
          go_ret
          exact ⟨rfl, HB4.out.trans (hb5.mono HB4.out.size)⟩
    · have HN : Hid _ := new_no files room w hv
      have HR : Hid _ := rnew_no files room w hv
      have HL : Hid _ := lives_any w
      clear hv
      go_enter Try.func3, Try.ntmps3
      go_wp2_with fail
      refine Calls.mono HF.out ?_
      rintro e w0 ⟨rfl, rfl⟩
      go_wp2_with fail
      refine Calls.mono HN.out ?_
      rintro e w1 ⟨rfl, rfl⟩
      go_wp2_with fail
      refine Calls.mono HR.out ?_
      rintro e w2 ⟨rfl, rfl⟩
      go_wp2_with fail
      refine Calls.mono HL.out ?_
      rintro e w5 ⟨rfl, hb5⟩
      go_wp2_with fail
      go_ret
      exact ⟨rfl, hb5⟩

open Go.ChangeShapes Go.WideShapes Go.ChangeAt

theorem own : ownKnob Try.prog.godebug = none := by kernel_rfl
theorem laidOut : laidOutB Try.prog = true := by kernel_rfl

set_option maxRecDepth 100000 in
theorem lifted (os : Os) (started : os.Started) (H : Type) (enc : TypeId × Value → H) :
    ReturnsInHanded {} Try.checked os 3 .any (Rows.diskPlaysSpec.pre6 enc Try.prog Try.f3 Rows.diskPlaysRow.domain false) (Rows.diskPlaysSpec.post enc Try.prog Try.f3 false true false false) := by
  refine returnsInHanded_of_change (C := Try.checked) own started (by kernel_rfl) Try.func3
    (ChangeSpec.witness6 (enc := enc) (C := Try.checked) false ⟨#[], #[.int .i64 0, .int .i64 0, .slice none 0 0], []⟩ 8 (by kernel_rfl) (by kernel_rfl) (by kernel_rfl) (by kernel_rfl)) ?_
  intro W base args ds gs before hval0 hW hcnd _
  have hval : ∀ (j : Nat) t v, Try.f3.params[j]? = some t → args[j]? = some v → Value.okWide Try.prog W .any base t v := hval0
  have hW' := hW
  obtain ⟨p, q, hA0, hV, rfl, hfz, hnd⟩ := hW
  have hA : DataW.TrodAll enc Try.prog W 0 (fun _ => true) true Try.f3.params.toList args.toList ds p := hA0
  rw [Try.params3] at hA hval
  obtain ⟨v0, vs0, d0, ds0, p0, q0, hargs, rfl, rfl, h0, r0⟩ := trodAll_cons hA
  obtain ⟨v1, vs1, d1, ds1, p1, q1, rfl, rfl, rfl, h1, r1⟩ := trodAll_cons r0
  obtain ⟨v2, vs2, d2, ds2, p2, q2, rfl, rfl, rfl, h2, r2⟩ := trodAll_cons r1
  obtain ⟨rfl, rfl, rfl⟩ := trodAll_nil r2
  obtain rfl : args = #[v0, v1, v2] := by cases args; simp_all
  obtain ⟨rfl, rfl⟩ := trodVars_none hV
  obtain ⟨a0, rfl, rfl, rfl, w0⟩ := open_int Try.underlying3 (hval 0 3 v0 rfl rfl) h0
  obtain ⟨a1, rfl, rfl, rfl, w1⟩ := open_int Try.underlying3 (hval 1 3 v1 rfl rfl) h1
  obtain ⟨a2, len2, cap2, rfl⟩ := okWide_slice Try.underlying22 (hval 2 22 v2 rfl rfl)
  have k2 := h2
  have lt2 : ∀ x ∈ p2, x.block < W.heap.size := by obtain ⟨m, hm⟩ := k2; exact DataW.trod_lt m _ _ _ hm
  obtain ⟨z2, w2, u2⟩ : ∃ L, RAs W (.slice a2 len2 cap2) L ∧ FitN L := by
    obtain ⟨fuel, hf⟩ := h2
    exact open_acts hf
  clear hA0 hval0
  refine (walk a0 a1 a2 len2 cap2 z2 W w0 w1 w2 u2).mono fun e W' ⟨he, bel⟩ => ?_
  subst he
  exact ⟨_, rfl, _, _, _, [], _, [], hW', trodAll_mk1 (shut_bool Try.underlying4 _), (trodAll_cons_mk (shut_int Try.underlying3 w0) (trodAll_cons_mk (shut_int Try.underlying3 w1) (trodAll_cons_mk (Below.trod laidOut (by kernel_rfl) (of_decide_eq_true (by kernel_rfl)) k2 bel lt2) trodAll_mk0))), rfl, bel.frame _, fun h => by cases h⟩

theorem over : Rows.diskPlaysRow.holds Try.pinned (OpenSpec.ofChange Rows.diskPlaysSpec) :=
  OpenClaim.holds_of_wide 3 Try.f3 rfl rfl rfl rfl rfl rfl rfl ⟨rfl, rfl, rfl, rfl, rfl⟩ rfl rfl rfl rfl rfl (by kernel_rfl) Try.func3 (by kernel_rfl)
    (of_decide_eq_true (by kernel_rfl)) (by unfold Func.isWrapper; first | (rw [if_pos (by decide +kernel)]; kernel_rfl) | (rw [if_neg (by decide +kernel)]; exact ⟨rfl, rfl⟩))
    (fun os started H enc _ => lifted os started H enc)
end Go.Proofs.Ytbbmbjlpccdclaa.diskPlays
namespace Go.Proofs.Ytbbmbjlpccdclaa

theorem diskPlays_holds : Rows.DiskPlaysSaid := diskPlays.over
#print axioms diskPlays_holds
end Go.Proofs.Ytbbmbjlpccdclaa
