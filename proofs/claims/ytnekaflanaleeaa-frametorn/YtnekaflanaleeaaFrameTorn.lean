/- FrameTorn: for every list of texts and every cut: just the frames that are whole are told; proved in full, nothing is asked of the input. -/
import Derived.Test.YtnekaflanaleeaaRows
import Derived.Test.YtnekaflanaleeaaWo
import Derived.ProofKit
import Derived.OpenShut
import Derived.ShutString
import Derived.ChangeOld
import Derived.Deep.Strs
namespace Go.Proofs.Ytnekaflanaleeaa.frameTorn
open Go.RowKit
set_option linter.unusedVariables false

set_option maxRecDepth 1000000 in
set_option maxHeartbeats 1000000 in
theorem walk_big (x : Value) (L : List (List UInt8)) (c : Int) (w : World) (hx : RS w x L) (h : smallP L = false) :
    Calls Try.prog 6 #[x, .int .i64 c] w fun e w' => e = .returned (.bool true) ∧ Below w.heap.size w w' := by
  have HS := small_any x L w hx
  rw [h] at HS
  have HS2 : Hid _ := HS
  clear HS hx h
  go_enter Try.func6, Try.ntmps6
  go_wp2_with fail
  refine Calls.mono HS2.out ?_
  rintro e w ⟨rfl, rfl⟩
  clear HS2
  go_wp2_with fail
  refine (lives_any _).mono ?_
  rintro e w1 ⟨rfl, hb1⟩
  go_wp2
  go_ret
  exact ⟨rfl, hb1⟩

set_option maxRecDepth 1000000 in
set_option maxHeartbeats 1000000 in
theorem walk_small (x : Value) (L : List (List UInt8)) (c : Int) (w : World) (hx : RS w x L) (h : smallP L = true) (hc1 : -9223372036854775808 ≤ c) (hc2 : c ≤ 9223372036854775807) :
    Calls Try.prog 6 #[x, .int .i64 c] w fun e w' => e = .returned (.bool true) ∧ Below w.heap.size w w' := by
  obtain ⟨h20, hsm⟩ := small_out h
  have HS := small_any x L w hx
  rw [h] at HS
  have HS2 : Hid _ := HS
  have HP : Hid _ := putl_any x L w hx h20 hsm
  have HX : Hid (RS w x L) := hx
  have hpl := putP_len L hsm
  have HSM : Hid (∀ b ∈ L, b.length ≤ 1024) := hsm
  obtain ⟨ax, cx, rfl, _, _, hcx⟩ := hx
  obtain ⟨n, hn, hmod⟩ : ∃ n : Nat, n ≤ (putP L).length ∧ (IntKind.u64.wrap c).tmod (((putP L).length : Int) + 1) = (n : Int) := by
    have h0 : 0 ≤ (IntKind.u64.wrap c) := by rw [IntKind.wrap_u64]; omega
    have h1 : (IntKind.u64.wrap c).tmod (((putP L).length : Int) + 1) = (IntKind.u64.wrap c) % (((putP L).length : Int) + 1) := Int.tmod_eq_emod_of_nonneg h0
    have h2 : 0 ≤ (IntKind.u64.wrap c) % (((putP L).length : Int) + 1) := Int.emod_nonneg _ (by omega)
    have h3 : (IntKind.u64.wrap c) % (((putP L).length : Int) + 1) < ((putP L).length : Int) + 1 := Int.emod_lt_of_pos _ (by omega)
    exact ⟨((IntKind.u64.wrap c) % (((putP L).length : Int) + 1)).toNat, by omega, by rw [h1]; omega⟩
  have hwn : wrap64 (n : Int) = (n : Int) := by unfold wrap64; omega
  clear HS h hsm
  go_enter Try.func6, Try.ntmps6
  go_wp2_with fail
  refine Calls.mono HS2.out ?_
  rintro e w ⟨rfl, rfl⟩
  clear HS2
  go_wp2_with fail
  refine Calls.mono HP.out ?_
  rintro e w1 ⟨v1, rfl, hr1, hb1⟩
  clear HP
  have HR1 : Hid (RB w1 v1 (putP L)) := hr1
  have HB1 : Hid (Below w.heap.size w w1) := hb1
  obtain ⟨a1, c1, rfl, _⟩ := hr1
  clear hb1
  obtain ⟨V, hV, hSV⟩ := slice_to HR1.out n hn n rfl
  have HC := all_any V ((putP L).take n) w1 hV (by rw [List.length_take]; omega)
  have hln : ((putP L).take n).length = n := by rw [List.length_take]; omega
  rw [hln] at HC
  have HC2 : Hid _ := HC
  clear HC hV hln
  go_wp2_with fail
  refine Calls.mono HC2.out ?_
  rintro e w2 ⟨hb2, v2, rfl, hr2⟩
  clear HC2 hSV
  have HB2 : Hid (Below w.heap.size w w2) := HB1.out.trans (hb2.mono HB1.out.size)
  have HR2 : Hid (RBB w1.heap.size w2 v2 (allP ((putP L).take n) (n + 1) 0).1) := hr2
  obtain ⟨R, HRR⟩ : ∃ R, Hid (allP ((putP L).take n) (n + 1) 0 = R) := ⟨_, rfl⟩
  rw [HRR.out] at HR2 ⊢
  clear hb2 hr2
  have hcx2 : ∀ (i : Nat) (b : List UInt8), L[i]? = some b → ∃ g off, ax = some ⟨g, off, none⟩ ∧ w2.cell? ⟨g, off + i, none⟩ = some (.string ⟨b.toArray⟩) := by
    intro i b hb
    obtain ⟨g, off, h1, h2⟩ := hcx i b hb
    exact ⟨g, off, h1, cell_later HB2.out h2⟩
  have hn2 : n ≤ 100000 := by omega
  have HHN : Hid (n ≤ (putP L).length) := hn
  clear hn hpl
  go_wp2_with fail
  go_loopw [11, 12] (fun kv sv wr => ∃ (k sz : Nat), k ≤ L.length ∧ kv = .int .i64 k ∧ sv = .int .i64 sz ∧ Hid ((putP (L.take k)).length = sz) ∧ sz ≤ n ∧ wr = w2) (fun kv _ _ => L.length - (intOf kv).toNat)
  case atStart => exact ⟨0, 0, Nat.zero_le _, rfl, rfl, by show _ = _; simp [putP], Nat.zero_le _, rfl⟩
  case round =>
    obtain ⟨k, sz, hk, rfl, rfl, HK, hsz, rfl⟩ := hrel
    by_cases hlt : k < L.length
    · obtain ⟨b1, o1, rfl, hc1⟩ := hcx2 k L[k] (List.getElem?_eq_getElem hlt)
      have hbl := HSM.out L[k] (List.getElem_mem hlt)
      by_cases hgo : sz + L[k].length + 6 ≤ n
      · have HK2 : Hid ((putP (L.take (k + 1))).length = sz + L[k].length + 6) := by
          show _ = _
          rw [List.take_succ_eq_append_getElem hlt, putP_append, List.length_append, HK.out, putP_cons, List.length_append, frameP_len]
          simp [putP]
          omega
        generalize L[k] = bb at *
        go_wp2_with fail
        go_roundw
        case rel => exact ⟨k + 1, sz + bb.length + 6, by omega, by go_num, by go_num, HK2, hgo, by trivial⟩
        case measure => simp [intOf]; omega
      · have hR : R = (L.take k, sz, if sz = n then 16 else 3) := by
          rw [← HRR.out, torn L HSM.out n k hk (by rw [HK.out]; exact hsz) HHN.out (by
            intro b hb
            rw [List.getElem?_eq_getElem hlt] at hb
            cases hb
            rw [HK.out]
            omega), HK.out]
        subst hR
        generalize L[k] = bb at *
        by_cases heq : sz = n
        · rw [if_pos heq] at HR2 ⊢
          obtain ⟨VT, hVT, hST⟩ := texts_to (HX.out.later HB2.out) k hk k rfl
          have HSE : Hid _ := same_eq VT v2 (L.take k) wr hVT (HR2.out.reads) (by rw [List.length_take]; omega)
          clear hVT hcx hcx2
          go_wp2_with (first
            | (go_at_call 17; refine Calls.mono HSE.out ?_; rintro e w3 ⟨rfl, n3, rfl⟩)
            | (go_at_call 8; refine (lives_any _).mono ?_; rintro e w4 ⟨rfl, hb4⟩))
          go_ret
          have hb3 := below_drewN HB2.out n3
          exact ⟨rfl, hb3.trans (hb4.mono hb3.size)⟩
        · rw [if_neg heq] at HR2 ⊢
          obtain ⟨VT, hVT, hST⟩ := texts_to (HX.out.later HB2.out) k hk k rfl
          have HSE : Hid _ := same_eq VT v2 (L.take k) wr hVT (HR2.out.reads) (by rw [List.length_take]; omega)
          clear hVT hcx hcx2
          go_wp2_with (first
            | (go_at_call 17; refine Calls.mono HSE.out ?_; rintro e w3 ⟨rfl, n3, rfl⟩)
            | (go_at_call 8; refine (lives_any _).mono ?_; rintro e w4 ⟨rfl, hb4⟩))
          go_ret
          have hb3 := below_drewN HB2.out n3
          exact ⟨rfl, hb3.trans (hb4.mono hb3.size)⟩
    · have hkk : k = L.length := by omega
      have hszn : sz = n := by
        have h1 := HK.out
        rw [hkk, List.take_length] at h1
        have := HHN.out
        omega
      have hR : R = (L.take k, sz, 16) := by
        rw [← HRR.out, torn L HSM.out n k hk (by rw [HK.out]; exact hsz) HHN.out (by
          intro b hb
          rw [List.getElem?_eq_none (by omega)] at hb
          cases hb), HK.out, if_pos hszn]
      subst hR
      clear hkk
      obtain ⟨VT, hVT, hST⟩ := texts_to (HX.out.later HB2.out) k hk k rfl
      have HSE : Hid _ := same_eq VT v2 (L.take k) wr hVT (HR2.out.reads) (by rw [List.length_take]; omega)
      clear hVT hcx hcx2
      go_wp2_with (first
        | (go_at_call 17; refine Calls.mono HSE.out ?_; rintro e w3 ⟨rfl, n3, rfl⟩)
        | (go_at_call 8; refine (lives_any _).mono ?_; rintro e w4 ⟨rfl, hb4⟩))
      go_ret
      have hb3 := below_drewN HB2.out n3
      exact ⟨rfl, hb3.trans (hb4.mono hb3.size)⟩

theorem walk (x : Value) (L : List (List UInt8)) (c : Int) (w : World) (hx : RS w x L) (hc : (Lit.int .i64 c).wf = true) :
    Calls Try.prog 6 #[x, .int .i64 c] w fun e w' => e = .returned (.bool true) ∧ Below w.heap.size w w' := by
  have hc2 : -9223372036854775808 ≤ c ∧ c ≤ 9223372036854775807 := by simpa [Lit.wf, IntKind.min, IntKind.max, IntKind.signed, IntKind.bits] using hc
  cases h : smallP L with
  | true => exact walk_small x L c w hx h hc2.1 hc2.2
  | false => exact walk_big x L c w hx h

open Go.ChangeShapes Go.WideShapes Go.ChangeAt
open Go.ChangeMaps (open_string shut_string)

theorem own : ownKnob Try.prog.godebug = none := by kernel_rfl
theorem laidOut : laidOutB Try.prog = true := by kernel_rfl

theorem reads_strs {w : World} {a : Addr} {len cap m : Nat} {Sx : Nat → ByteArray} (h : ∀ i, i < m → w.cell? (a.add i) = some (.string (Sx i)) ∧ (Sx i).size ≤ maxLen) (hm : len ≤ m) (hc : len ≤ cap) (hcm : cap ≤ maxLen) : RS w (.slice (some a) len cap) ((List.range len).map fun i => (Sx i).data.toList) := by
  refine ⟨some a, cap, by simp, by simpa using hc, hcm, fun i x hi => ?_⟩
  have hil : i < len := by have := (List.getElem?_eq_some_iff.1 hi).1; simpa using this
  have hx : x = (Sx i).data.toList := by simp [hil] at hi; exact hi.symm
  subst hx
  obtain ⟨b, off, spot⟩ := a
  have hspot : spot = none := by simpa [Addr.add] using World.cell?_spot (h 0 (by omega)).1
  subst hspot
  refine ⟨b, off, rfl, ?_⟩
  rw [← Go.WideShapes.add_plain, (h i (by omega)).1]

set_option maxRecDepth 100000 in
theorem lifted (os : Os) (started : os.Started) (H : Type) (enc : TypeId × Value → H) :
    ReturnsInHanded {} Try.checked os 6 .any (Rows.frameTornSpec.pre6 enc Try.prog Try.f6 Rows.frameTornRow.domain false) (Rows.frameTornSpec.post enc Try.prog Try.f6 false true false false) := by
  refine returnsInHanded_of_change (C := Try.checked) own started (by kernel_rfl) Try.func6
    (ChangeSpec.witness6 (enc := enc) (C := Try.checked) false ⟨#[], #[.slice none 0 0, .int .i64 0], []⟩ 8 (by kernel_rfl) (by kernel_rfl) (by kernel_rfl) (by kernel_rfl)) ?_
  intro W base args ds gs before hval0 hW hcnd _
  have hval : ∀ (j : Nat) t v, Try.f6.params[j]? = some t → args[j]? = some v → Value.okWide Try.prog W .any base t v := hval0
  have hW' := hW
  obtain ⟨p, q, hA0, hV, rfl, hfz, hnd⟩ := hW
  have hA : DataW.TrodAll enc Try.prog W 0 (fun _ => true) true Try.f6.params.toList args.toList ds p := hA0
  rw [Try.params6] at hA hval
  obtain ⟨v0, vs0, d0, ds0, p0, q0, hargs, rfl, rfl, h0, r0⟩ := trodAll_cons hA
  obtain ⟨v1, vs1, d1, ds1, p1, q1, rfl, rfl, rfl, h1, r1⟩ := trodAll_cons r0
  obtain ⟨rfl, rfl, rfl⟩ := trodAll_nil r1
  obtain rfl : args = #[v0, v1] := by cases args; simp_all
  obtain ⟨rfl, rfl⟩ := trodVars_none hV
  obtain ⟨a1, rfl, rfl, rfl, w1⟩ := open_int Try.underlying3 (hval 1 3 v1 rfl rfl) h1
  obtain ⟨a0, len0, cap0, rfl⟩ := okWide_slice Try.underlying40 (hval 0 40 v0 rfl rfl)
  have k0 := h0
  have lt0 : ∀ x ∈ p0, x.block < W.heap.size := by obtain ⟨m, hm⟩ := k0; exact DataW.trod_lt m _ _ _ hm
  obtain ⟨z0, w0⟩ : ∃ xs, RS W (.slice a0 len0 cap0) xs := by
    obtain ⟨fuel, hf⟩ := h0
    rcases Go.Deep.open_strs Try.underlying40 Try.underlying9 (by kernel_rfl) hf with ⟨hcs, _⟩ | ⟨x, l, c, m, Sx, hcs, _, hl, hm, hmm, _, hcell⟩
    · simp [Value.cells] at hcs
      obtain ⟨rfl, rfl, rfl⟩ := hcs
      exact ⟨[], none, 0, rfl, by simp, by unfold maxLen; omega, fun i b hi => by simp at hi⟩
    · simp [Value.cells] at hcs
      obtain ⟨rfl, rfl, rfl⟩ := hcs
      exact ⟨_, reads_strs hcell (by rw [hmm]; split <;> omega) hl hm⟩
  clear hA0 hval0
  refine (walk (.slice a0 len0 cap0) z0 a1 W w0 w1).mono fun e W' ⟨he, bel⟩ => ?_
  subst he
  exact ⟨_, rfl, _, _, _, [], _, [], hW', trodAll_mk1 (shut_bool Try.underlying4 _), (trodAll_cons_mk (Below.trod laidOut (by kernel_rfl) (of_decide_eq_true (by kernel_rfl)) k0 bel lt0) (trodAll_cons_mk (shut_int Try.underlying3 w1) trodAll_mk0)), rfl, bel.frame _, fun h => by cases h⟩

theorem over : Rows.frameTornRow.holds Try.pinned (OpenSpec.ofChange Rows.frameTornSpec) :=
  OpenClaim.holds_of_wide 6 Try.f6 rfl rfl rfl rfl rfl rfl rfl ⟨rfl, rfl, rfl, rfl, rfl⟩ rfl rfl rfl rfl rfl (by kernel_rfl) Try.func6 (by kernel_rfl)
    (of_decide_eq_true (by kernel_rfl)) (by unfold Func.isWrapper; first | (rw [if_pos (by decide +kernel)]; kernel_rfl) | (rw [if_neg (by decide +kernel)]; exact ⟨rfl, rfl⟩))
    (fun os started H enc _ => lifted os started H enc)
end Go.Proofs.Ytnekaflanaleeaa.frameTorn
namespace Go.Proofs.Ytnekaflanaleeaa

theorem frameTorn_holds : Rows.FrameTornSaid := frameTorn.over
#print axioms frameTorn_holds
end Go.Proofs.Ytnekaflanaleeaa
