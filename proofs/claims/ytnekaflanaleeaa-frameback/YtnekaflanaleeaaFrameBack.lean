/- FrameBack: for every list of texts: frames that were put are taken as they were put, and the end is found; proved in full, nothing is asked of the input. -/
import Derived.Test.YtnekaflanaleeaaRows
import Derived.Test.YtnekaflanaleeaaWn
import Derived.ProofKit
import Derived.OpenShut
import Derived.ShutString
import Derived.ChangeOld
import Derived.Deep.Strs
namespace Go.Proofs.Ytnekaflanaleeaa.frameBack
open Go.RowKit
set_option linter.unusedVariables false

theorem small_out {L : List (List UInt8)} (h : smallP L = true) : L.length ≤ 20 ∧ ∀ b ∈ L, b.length ≤ 1024 := by
  unfold smallP at h
  rw [Bool.and_eq_true, List.all_eq_true] at h
  exact ⟨by simpa using h.1, fun b hb => by simpa using h.2 b hb⟩

set_option maxRecDepth 1000000 in
set_option maxHeartbeats 1000000 in
theorem walk_big (x : Value) (L : List (List UInt8)) (w : World) (hx : RS w x L) (h : smallP L = false) :
    Calls Try.prog 5 #[x] w fun e w' => e = .returned (.bool true) ∧ Below w.heap.size w w' := by
  have HS := small_any x L w hx
  rw [h] at HS
  have HS2 : Hid _ := HS
  clear HS hx h
  go_enter Try.func5, Try.ntmps5
  go_wp2_with fail
  refine Calls.mono HS2.out ?_
  rintro e w ⟨rfl, rfl⟩
  clear HS2
  go_wp2_with fail
  refine (lives_any _).mono ?_
  rintro e w1 ⟨rfl, hb1⟩
  go_wp2
  go_ret
  exact ⟨rfl, hb1⟩

set_option maxRecDepth 1000000 in
set_option maxHeartbeats 1000000 in
theorem walk_small (x : Value) (L : List (List UInt8)) (w : World) (hx : RS w x L) (h : smallP L = true) :
    Calls Try.prog 5 #[x] w fun e w' => e = .returned (.bool true) ∧ Below w.heap.size w w' := by
  obtain ⟨h20, hsm⟩ := small_out h
  have HS := small_any x L w hx
  rw [h] at HS
  have HS2 : Hid _ := HS
  have HP : Hid _ := putl_any x L w hx h20 hsm
  have HX : Hid (RS w x L) := hx
  have hpl := putP_len L hsm
  have HA : Hid (allP (putP L) ((putP L).length + 1) 0 = (L, (putP L).length, 16)) := all_put L hsm
  clear HS hx h hsm
  go_enter Try.func5, Try.ntmps5
  go_wp2_with fail
  refine Calls.mono HS2.out ?_
  rintro e w ⟨rfl, rfl⟩
  clear HS2
  go_wp2_with fail
  refine Calls.mono HP.out ?_
  rintro e w1 ⟨v1, rfl, hr1, hb1⟩
  clear HP
  have HC := all_any v1 (putP L) w1 hr1 (by omega)
  rw [HA.out] at HC
  have HC2 : Hid _ := HC
  obtain ⟨a1, c1, rfl, _⟩ := hr1
  clear HC
  go_wp2_with fail
  refine Calls.mono HC2.out ?_
  rintro e w2 ⟨hb2, v2, rfl, hr2⟩
  clear HC2
  have HB2 : Hid (Below w.heap.size w w2) := hb1.trans (hb2.mono hb1.size)
  have HSM : Hid _ := same_eq x v2 L w2 (HX.out.later HB2.out) hr2.reads (by omega)
  clear hb1 hb2 hr2
  go_wp2_with (first
    | (go_at_call 17; refine Calls.mono HSM.out ?_; rintro e w3 ⟨rfl, n3, rfl⟩)
    | (go_at_call 8; refine (lives_any _).mono ?_; rintro e w4 ⟨rfl, hb4⟩))
  go_ret
  have hb3 := below_drewN HB2.out n3
  exact ⟨rfl, hb3.trans (hb4.mono hb3.size)⟩

theorem walk (x : Value) (L : List (List UInt8)) (w : World) (hx : RS w x L) :
    Calls Try.prog 5 #[x] w fun e w' => e = .returned (.bool true) ∧ Below w.heap.size w w' := by
  cases h : smallP L with
  | true => exact walk_small x L w hx h
  | false => exact walk_big x L w hx h

open Go.ChangeShapes Go.WideShapes Go.ChangeAt
open Go.ChangeMaps (open_string shut_string)

theorem own : ownKnob Try.prog.godebug = none := by kernel_rfl
theorem laidOut : laidOutB Try.prog = true := by kernel_rfl

theorem reads_strs {w : World} {a : Addr} {len cap m : Nat} {Sx : Nat → ByteArray} (h : ∀ i, i < m → w.cell? (a.add i) = some (.string (Sx i)) ∧ (Sx i).size ≤ maxLen) (hm : len ≤ m) (hc : len ≤ cap) (hcm : cap ≤ maxLen) : RS w (.slice (some a) len cap) ((List.range len).map fun i => (Sx i).data.toList) := by
  refine ⟨some a, cap, by simp, by simpa using hc, hcm, fun i x hi => ?_⟩
  have hil : i < len := by have := (List.getElem?_eq_some_iff.1 hi).1; simpa using this
  have hx : x = (Sx i).data.toList := by simp [hil] at hi; exact hi.symm
  subst hx
  obtain ⟨b, off, spot⟩ := a
  have hspot : spot = none := by simpa [Addr.add] using World.cell?_spot (h 0 (by omega)).1
  subst hspot
  refine ⟨b, off, rfl, ?_⟩
  rw [← Go.WideShapes.add_plain, (h i (by omega)).1]

set_option maxRecDepth 100000 in
theorem lifted (os : Os) (started : os.Started) (H : Type) (enc : TypeId × Value → H) :
    ReturnsInHanded {} Try.checked os 5 .any (Rows.frameBackSpec.pre6 enc Try.prog Try.f5 Rows.frameBackRow.domain false) (Rows.frameBackSpec.post enc Try.prog Try.f5 false true false false) := by
  refine returnsInHanded_of_change (C := Try.checked) own started (by kernel_rfl) Try.func5
    (ChangeSpec.witness6 (enc := enc) (C := Try.checked) false ⟨#[], #[.slice none 0 0], []⟩ 8 (by kernel_rfl) (by kernel_rfl) (by kernel_rfl) (by kernel_rfl)) ?_
  intro W base args ds gs before hval0 hW hcnd _
  have hval : ∀ (j : Nat) t v, Try.f5.params[j]? = some t → args[j]? = some v → Value.okWide Try.prog W .any base t v := hval0
  have hW' := hW
  obtain ⟨p, q, hA0, hV, rfl, hfz, hnd⟩ := hW
  have hA : DataW.TrodAll enc Try.prog W 0 (fun _ => true) true Try.f5.params.toList args.toList ds p := hA0
  rw [Try.params5] at hA hval
  obtain ⟨v0, vs0, d0, ds0, p0, q0, hargs, rfl, rfl, h0, r0⟩ := trodAll_cons hA
  obtain ⟨rfl, rfl, rfl⟩ := trodAll_nil r0
  obtain rfl : args = #[v0] := by cases args; simp_all
  obtain ⟨rfl, rfl⟩ := trodVars_none hV
  obtain ⟨a0, len0, cap0, rfl⟩ := okWide_slice Try.underlying40 (hval 0 40 v0 rfl rfl)
  have k0 := h0
  have lt0 : ∀ x ∈ p0, x.block < W.heap.size := by obtain ⟨m, hm⟩ := k0; exact DataW.trod_lt m _ _ _ hm
  obtain ⟨z0, w0⟩ : ∃ xs, RS W (.slice a0 len0 cap0) xs := by
    obtain ⟨fuel, hf⟩ := h0
    rcases Go.Deep.open_strs Try.underlying40 Try.underlying9 (by kernel_rfl) hf with ⟨hcs, _⟩ | ⟨x, l, c, m, Sx, hcs, _, hl, hm, hmm, _, hcell⟩
    · simp [Value.cells] at hcs
      obtain ⟨rfl, rfl, rfl⟩ := hcs
      exact ⟨[], none, 0, rfl, by simp, by unfold maxLen; omega, fun i b hi => by simp at hi⟩
    · simp [Value.cells] at hcs
      obtain ⟨rfl, rfl, rfl⟩ := hcs
      exact ⟨_, reads_strs hcell (by rw [hmm]; split <;> omega) hl hm⟩
  clear hA0 hval0
  refine (walk (.slice a0 len0 cap0) z0 W w0).mono fun e W' ⟨he, bel⟩ => ?_
  subst he
  exact ⟨_, rfl, _, _, _, [], _, [], hW', trodAll_mk1 (shut_bool Try.underlying4 _), (trodAll_cons_mk (Below.trod laidOut (by kernel_rfl) (of_decide_eq_true (by kernel_rfl)) k0 bel lt0) trodAll_mk0), rfl, bel.frame _, fun h => by cases h⟩

theorem over : Rows.frameBackRow.holds Try.pinned (OpenSpec.ofChange Rows.frameBackSpec) :=
  OpenClaim.holds_of_wide 5 Try.f5 rfl rfl rfl rfl rfl rfl rfl ⟨rfl, rfl, rfl, rfl, rfl⟩ rfl rfl rfl rfl rfl (by kernel_rfl) Try.func5 (by kernel_rfl)
    (of_decide_eq_true (by kernel_rfl)) (by unfold Func.isWrapper; first | (rw [if_pos (by decide +kernel)]; kernel_rfl) | (rw [if_neg (by decide +kernel)]; exact ⟨rfl, rfl⟩))
    (fun os started H enc _ => lifted os started H enc)
end Go.Proofs.Ytnekaflanaleeaa.frameBack
namespace Go.Proofs.Ytnekaflanaleeaa

theorem frameBack_holds : Rows.FrameBackSaid := frameBack.over
#print axioms frameBack_holds
end Go.Proofs.Ytnekaflanaleeaa
