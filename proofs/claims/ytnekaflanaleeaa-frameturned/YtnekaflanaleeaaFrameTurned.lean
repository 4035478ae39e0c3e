/- FrameTurned: for every text, place and mask: a frame of which bits within 32 bits of its body were turned is not taken; proved in full, nothing is asked of the input. -/
import Derived.Test.YtnekaflanaleeaaRows
import Derived.Test.YtnekaflanaleeaaWp
import Derived.ProofKit
import Derived.OpenShut
import Derived.ShutString
import Derived.ChangeOld
import Derived.Deep.Strs
namespace Go.Proofs.Ytnekaflanaleeaa.frameTurned
open Go.RowKit
set_option linter.unusedVariables false

set_option maxRecDepth 1000000 in
set_option maxHeartbeats 1000000 in
theorem walk_big (s : List UInt8) (p m : Int) (w : World) (h : 1024 < s.length ∨ s.length = 0) :
    Calls Try.prog 7 #[.string ⟨s.toArray⟩, .int .i64 p, .int .u32 m] w fun e w' => e = .returned (.bool true) ∧ Below w.heap.size w w' := by
  have hsz := bsize s
  by_cases h0 : s.length = 0
  · go_enter Try.func7, Try.ntmps7
    go_wp2_with fail
    refine (lives_any _).mono ?_
    rintro e w1 ⟨rfl, hb1⟩
    go_wp2
    go_ret
    exact ⟨rfl, hb1⟩
  · have h1 : 1024 < s.length := by omega
    clear h
    go_enter Try.func7, Try.ntmps7
    go_wp2_with fail
    refine (lives_any _).mono ?_
    rintro e w1 ⟨rfl, hb1⟩
    go_wp2
    go_ret
    exact ⟨rfl, hb1⟩

set_option maxRecDepth 1000000 in
set_option maxHeartbeats 1000000 in
theorem walk_small (s : List UInt8) (p : Int) (m : Nat) (w : World) (h : s.length ≤ 1024) (h0 : 0 < s.length) (hp1 : -9223372036854775808 ≤ p) (hp2 : p ≤ 9223372036854775807) (hm : m < 4294967296) :
    Calls Try.prog 7 #[.string ⟨s.toArray⟩, .int .i64 p, .int .u32 m] w fun e w' => e = .returned (.bool true) ∧ Below w.heap.size w w' := by
  obtain ⟨n, HN⟩ : ∃ n, Hid (s.length = n) := ⟨_, rfl⟩
  have hsz := bsize s
  rw [HN.out] at h h0 hsz
  obtain ⟨f, hf, hmod⟩ : ∃ f : Nat, f < 8 * n ∧ (IntKind.u64.wrap p).tmod (8 * (n : Int)) = (f : Int) := by
    have e0 : 0 ≤ (IntKind.u64.wrap p) := by rw [IntKind.wrap_u64]; omega
    have e1 : (IntKind.u64.wrap p).tmod (8 * (n : Int)) = (IntKind.u64.wrap p) % (8 * (n : Int)) := Int.tmod_eq_emod_of_nonneg e0
    have e2 : 0 ≤ (IntKind.u64.wrap p) % (8 * (n : Int)) := Int.emod_nonneg _ (by omega)
    have e3 : (IntKind.u64.wrap p) % (8 * (n : Int)) < 8 * (n : Int) := Int.emod_lt_of_pos _ (by omega)
    exact ⟨((IntKind.u64.wrap p) % (8 * (n : Int))).toNat, by omega, by rw [e1]; omega⟩
  have hwf : wrap64 (f : Int) = (f : Int) := by unfold wrap64; omega
  have hz1 : ((n : Int) == 0) = false := by rw [beq_eq_false_iff_ne]; omega
  have hz2 : decide ((1024 : Int) < (n : Int)) = false := by rw [decide_eq_false_iff_not]; omega
  obtain ⟨V, w1, hcv, hV, hb1⟩ := bytes_of s (by rw [HN.out]; omega) w
  have HC := put_any (.slice none 0 0) V [] s w1 (RB.nil _) hV (by simp) (by rw [HN.out]; exact h)
  rw [List.nil_append, ← bent_self, show ([] : List UInt8).length + (s.length + 6) = s.length + 6 by simp, HN.out] at HC
  have HC2 : Hid _ := HC
  have HB1 : Hid (Below w.heap.size w w1) := hb1
  obtain ⟨S, HS⟩ : ∃ S : ByteArray, Hid ((⟨s.toArray⟩ : ByteArray) = S) := ⟨_, rfl⟩
  rw [HS.out] at hcv hsz ⊢
  clear HC hV hb1
  go_enter Try.func7, Try.ntmps7
  go_wp2_with fail
  refine Calls.mono HC2.out ?_
  rintro e w2 ⟨g, cap, rfl, ho2, hb2⟩
  have HB2 : Hid (Below w.heap.size w w2) := HB1.out.trans (hb2.mono HB1.out.size)
  have HO2 : Hid (OB w.heap.size w2 g (n + 6) cap (bent s s)) := owns_low ho2 HB1.out.size
  clear HC2 ho2 hb2 HB1 hcv
  go_wp2_with fail
  go_loopw [10, 11] (fun tv iv wr => ∃ (i : Nat) (t : Bool), i ≤ 32 ∧ f + i ≤ 8 * n ∧ iv = .int .i64 i ∧ tv = .bool t ∧ Hid (t = decide (¬ m % 2 ^ i = 0)) ∧ Hid (OB w.heap.size wr g (n + 6) cap (bent s (flips s f m i))) ∧ Hid (Below w.heap.size w wr)) (fun _ iv _ => 32 - (intOf iv).toNat)
  case atStart => exact ⟨0, false, by omega, by omega, rfl, rfl, by show _ = _; rw [Nat.pow_zero, Nat.mod_one]; rfl, HO2, HB2⟩
  case round =>
    obtain ⟨i, t, hi, hfi, rfl, rfl, HT, HO, HB⟩ := hrel
    by_cases hgo : i < 32 ∧ f + i < 8 * n
    · obtain ⟨hg1, hg2⟩ := hgo
      have hcast : (m : Int) / 2 ^ i = ((m / 2 ^ i : Nat) : Int) := by push_cast; rfl
      have hlt : m / 2 ^ i < 4294967296 := Nat.lt_of_le_of_lt (Nat.div_le_self _ _) hm
      have hand := and_one (m / 2 ^ i) hlt
      rw [← hcast] at hand
      by_cases hb : m / 2 ^ i % 2 = 1
      · have hbit : (bits .and .u32 ((m : Int) / 2 ^ i) 1 == 1) = true := by rw [hand, hb]; rfl
        obtain ⟨j, r, hk, hr8⟩ : ∃ j r : Nat, f + i = 8 * j + r ∧ r < 8 := ⟨(f + i) / 8, (f + i) % 8, by omega, by omega⟩
        have hj : ((f : Int) + (i : Int)) / 8 = (j : Int) := by omega
        have hr : ((f : Int) + (i : Int)) % 8 = (r : Int) := by omega
        have hjn : j < n := by omega
        have hfl : (flips s f m i).length = s.length := flips_len _ _ _ _
        have hcell := HO.out.cell (2 + j) (by omega)
        rw [bent_get s _ j (by rw [hfl, HN.out]; exact hjn)] at hcell
        have hfro := HO.out.frozen (2 + j)
        clear hand hcast hlt
        generalize hcc : ((flips s f m i).getD j 0) = cc at *
        have hp8 : 2 ^ r < 256 := pow8_lt hr8
        have hx8 := u8_xor_nat cc.toNat (2 ^ r) (byte_lt cc) hp8
        have hpc : ((2 : Int) ^ r % 256) = ((2 ^ r : Nat) : Int) := by push_cast; exact Int.emod_eq_of_lt (by exact_mod_cast Nat.zero_le _) (by exact_mod_cast hp8)
        have HV : Hid (bits .xor .u8 ((cc.toNat : Nat) : Int) ((2 : Int) ^ r % 256) = (((cc ^^^ UInt8.ofNat (2 ^ r)).toNat : Nat) : Int)) := by
          show _ = _
          rw [hpc, hx8, flip_byte cc hr8]
        clear hp8 hx8 hpc
        have HT2 : Hid (true = decide (¬ m % 2 ^ (i + 1) = 0)) := by
          show _ = _
          symm
          rw [decide_eq_true_eq, mod_bit m i, if_pos hb]
          intro h1
          have h3 : m % 2 ^ i < 2 ^ i := Nat.mod_lt _ (Nat.two_pow_pos i)
          have h4 : m % 2 ^ i = 2 ^ i := by
            have := congrArg (· ^^^ 2 ^ i) h1
            simpa [Nat.xor_assoc] using this
          omega
        have HFL : Hid (flips s f m (i + 1) = (flips s f m i).set j (cc ^^^ UInt8.ofNat (2 ^ r))) := by
          show _ = _
          rw [flips, if_pos hb, flip_set _ _ (by rw [hfl, HN.out]; omega), show (f + i) / 8 = j by omega, show (f + i) % 8 = r by omega, hcc]
        have HJ : Hid (j < (flips s f m i).length) := by show _ < _; rw [hfl, HN.out]; exact hjn
        clear hcc hfl
        go_wp2_with fail
        go_region
        rw [HV.out]
        have HO3 : Hid (OB w.heap.size (wr.setCell ⟨g, 2 + j, none⟩ (.int .u8 (((cc ^^^ UInt8.ofNat (2 ^ r)).toNat : Nat) : Int))).drew g (n + 6) cap (bent s (flips s f m (i + 1)))) := by
          show OB _ _ _ _ _ _
          rw [HFL.out, ← bent_set s _ j _ HJ.out]
          exact (HO.out.set (2 + j) _).later ((Below.refl _ _).drew)
        have HB3 : Hid (Below w.heap.size w (wr.setCell ⟨g, 2 + j, none⟩ (.int .u8 (((cc ^^^ UInt8.ofNat (2 ^ r)).toNat : Nat) : Int))).drew) := (HB.out.setCell (HO.out.lt.1) _).drew
        generalize (wr.setCell ⟨g, 2 + j, none⟩ (.int .u8 (((cc ^^^ UInt8.ofNat (2 ^ r)).toNat : Nat) : Int))).drew = w5 at *
        clear hcell hfro
        go_wp2_with fail
        go_roundw
        case rel => exact ⟨i + 1, true, by omega, by omega, by go_num, rfl, HT2, HO3, HB3⟩
        case measure => simp [intOf]; omega
      · have hbit : (bits .and .u32 ((m : Int) / 2 ^ i) 1 == 1) = false := by
          rw [hand, beq_eq_false_iff_ne]
          omega
        have HT2 : Hid (t = decide (¬ m % 2 ^ (i + 1) = 0)) := by
          show _ = _
          rw [HT.out, mod_bit m i, if_neg hb, Nat.xor_zero]
        have HO3 : Hid (OB w.heap.size wr g (n + 6) cap (bent s (flips s f m (i + 1)))) := by
          have : flips s f m (i + 1) = flips s f m i := by rw [flips, if_neg hb]
          show OB _ _ _ _ _ _
          rw [this]
          exact HO.out
        clear hand hcast hlt
        go_wp2_with fail
        go_roundw
        case rel => exact ⟨i + 1, t, by omega, by omega, by go_num, rfl, HT2, HO3, HB⟩
        case measure => simp [intOf]; omega
    · have HTK := take_turned s (by rw [HN.out]; exact h) f m i (by rw [HN.out]; exact hfi) hi
      have HTA : Calls Try.prog 13 #[.slice (some ⟨g, 0, none⟩) (n + 6) cap, .int .i64 0] wr fun e w' => Below wr.heap.size wr w' ∧ ∃ v, e = .returned (.tuple #[v, .int .i64 ((takeP (bent s (flips s f m i)) 0).2.1 : Nat), .int .i64 ((takeP (bent s (flips s f m i)) 0).2.2 : Nat)]) ∧ w'.ownsRow wr.heap.size 5 1 v (takeP (bent s (flips s f m i)) 0).1.length (bvs (takeP (bent s (flips s f m i)) 0).1) := take_any _ _ 0 wr HO.out.rb.2 (Nat.zero_le _) (by rw [bent_len _ _ (flips_len _ _ _ _), HN.out]; omega)
      have hsx : ∀ wx v, RB wx v s → (convert 22 9 v).run Try.prog wx = .ok (.string S) wx := fun wx v hv => by rw [← HS.out]; exact string_of_RB hv
      by_cases hm0 : m % 2 ^ i = 0
      · have ht : t = false := by rw [HT.out]; simp [hm0]
        subst ht
        rw [HTK, if_pos hm0] at HTA
        simp only [HN.out] at HTA
        have HTA2 : Hid _ := HTA
        clear HTK HTA hm0 HT
        by_cases hi32 : i < 32
        · have hend : ¬ f + i < 8 * n := fun h9 => hgo ⟨hi32, h9⟩
          clear hgo
          go_wp2_with (first
            | (go_at_call 13; refine Calls.mono HTA2.out ?_; rintro e w6 ⟨hb6, v6, rfl, ho6⟩; obtain ⟨a6, c6, rfl⟩ := owns_slice ho6; have hcv6 := hsx w6 _ (RB.of_owns ho6 HN.out.symm); have HB6 : Hid (Below wr.heap.size wr w6) := hb6; clear ho6 hb6 hsx)
            | (go_at_call 8; refine (lives_any _).mono ?_; rintro e w7 ⟨rfl, hb7⟩))
          go_ret
          have hb6 := HB.out.trans (HB6.out.mono HB.out.size)
          exact ⟨rfl, hb6.trans (hb7.mono hb6.size)⟩
        · clear hgo
          go_wp2_with (first
            | (go_at_call 13; refine Calls.mono HTA2.out ?_; rintro e w6 ⟨hb6, v6, rfl, ho6⟩; obtain ⟨a6, c6, rfl⟩ := owns_slice ho6; have hcv6 := hsx w6 _ (RB.of_owns ho6 HN.out.symm); have HB6 : Hid (Below wr.heap.size wr w6) := hb6; clear ho6 hb6 hsx)
            | (go_at_call 8; refine (lives_any _).mono ?_; rintro e w7 ⟨rfl, hb7⟩))
          go_ret
          have hb6 := HB.out.trans (HB6.out.mono HB.out.size)
          exact ⟨rfl, hb6.trans (hb7.mono hb6.size)⟩
      · have ht : t = true := by rw [HT.out]; simp [hm0]
        subst ht
        rw [HTK, if_neg hm0] at HTA
        have HTA2 : Hid _ := HTA
        clear HTK HTA hm0 HT hsx
        by_cases hi32 : i < 32
        · have hend : ¬ f + i < 8 * n := fun h9 => hgo ⟨hi32, h9⟩
          clear hgo
          go_wp2_with (first
            | (go_at_call 13; refine Calls.mono HTA2.out ?_; rintro e w6 ⟨hb6, v6, rfl, ho6⟩; obtain ⟨a6, c6, rfl⟩ := owns_slice ho6; have HB6 : Hid (Below wr.heap.size wr w6) := hb6; clear ho6 hb6)
            | (go_at_call 8; refine (lives_any _).mono ?_; rintro e w7 ⟨rfl, hb7⟩))
          go_ret
          have hb6 := HB.out.trans (HB6.out.mono HB.out.size)
          exact ⟨rfl, hb6.trans (hb7.mono hb6.size)⟩
        · clear hgo
          go_wp2_with (first
            | (go_at_call 13; refine Calls.mono HTA2.out ?_; rintro e w6 ⟨hb6, v6, rfl, ho6⟩; obtain ⟨a6, c6, rfl⟩ := owns_slice ho6; have HB6 : Hid (Below wr.heap.size wr w6) := hb6; clear ho6 hb6)
            | (go_at_call 8; refine (lives_any _).mono ?_; rintro e w7 ⟨rfl, hb7⟩))
          go_ret
          have hb6 := HB.out.trans (HB6.out.mono HB.out.size)
          exact ⟨rfl, hb6.trans (hb7.mono hb6.size)⟩

theorem walk (s : ByteArray) (p m : Int) (w : World) (hs : s.size ≤ maxLen) (hp : (Lit.int .i64 p).wf = true) (hm : (Lit.int .u32 m).wf = true) :
    Calls Try.prog 7 #[.string s, .int .i64 p, .int .u32 m] w fun e w' => e = .returned (.bool true) ∧ Below w.heap.size w w' := by
  have hp2 : -9223372036854775808 ≤ p ∧ p ≤ 9223372036854775807 := by simpa [Lit.wf, IntKind.min, IntKind.max, IntKind.signed, IntKind.bits] using hp
  have hm2 : 0 ≤ m ∧ m ≤ 4294967295 := by simpa [Lit.wf, IntKind.min, IntKind.max, IntKind.signed, IntKind.bits] using hm
  obtain ⟨l, rfl⟩ : ∃ l : List UInt8, s = ⟨l.toArray⟩ := ⟨s.data.toList, by simp⟩
  obtain ⟨m, rfl⟩ : ∃ q : Nat, m = q := ⟨m.toNat, by omega⟩
  by_cases h : 1024 < l.length ∨ l.length = 0
  · exact walk_big l p m w h
  · exact walk_small l p m w (by omega) (by omega) hp2.1 hp2.2 (by omega)

open Go.ChangeShapes Go.WideShapes Go.ChangeAt
open Go.ChangeMaps (open_string shut_string)

theorem own : ownKnob Try.prog.godebug = none := by kernel_rfl
theorem laidOut : laidOutB Try.prog = true := by kernel_rfl

set_option maxRecDepth 100000 in
theorem lifted (os : Os) (started : os.Started) (H : Type) (enc : TypeId × Value → H) :
    ReturnsInHanded {} Try.checked os 7 .any (Rows.frameTurnedSpec.pre6 enc Try.prog Try.f7 Rows.frameTurnedRow.domain false) (Rows.frameTurnedSpec.post enc Try.prog Try.f7 false true false false) := by
  refine returnsInHanded_of_change (C := Try.checked) own started (by kernel_rfl) Try.func7
    (ChangeSpec.witness6 (enc := enc) (C := Try.checked) false ⟨#[], #[.string ByteArray.empty, .int .i64 0, .int .u32 0], []⟩ 8 (by kernel_rfl) (by kernel_rfl) (by kernel_rfl) (by kernel_rfl)) ?_
  intro W base args ds gs before hval0 hW hcnd _
  have hval : ∀ (j : Nat) t v, Try.f7.params[j]? = some t → args[j]? = some v → Value.okWide Try.prog W .any base t v := hval0
  have hW' := hW
  obtain ⟨p, q, hA0, hV, rfl, hfz, hnd⟩ := hW
  have hA : DataW.TrodAll enc Try.prog W 0 (fun _ => true) true Try.f7.params.toList args.toList ds p := hA0
  rw [Try.params7] at hA hval
  obtain ⟨v0, vs0, d0, ds0, p0, q0, hargs, rfl, rfl, h0, r0⟩ := trodAll_cons hA
  obtain ⟨v1, vs1, d1, ds1, p1, q1, rfl, rfl, rfl, h1, r1⟩ := trodAll_cons r0
  obtain ⟨v2, vs2, d2, ds2, p2, q2, rfl, rfl, rfl, h2, r2⟩ := trodAll_cons r1
  obtain ⟨rfl, rfl, rfl⟩ := trodAll_nil r2
  obtain rfl : args = #[v0, v1, v2] := by cases args; simp_all
  obtain ⟨rfl, rfl⟩ := trodVars_none hV
  obtain ⟨a0, rfl, rfl, rfl, w0⟩ := open_string Try.underlying9 (hval 0 9 v0 rfl rfl) h0
  obtain ⟨a1, rfl, rfl, rfl, w1⟩ := open_int Try.underlying3 (hval 1 3 v1 rfl rfl) h1
  obtain ⟨a2, rfl, rfl, rfl, w2⟩ := open_int Try.underlying29 (hval 2 29 v2 rfl rfl) h2
  clear hA0 hval0
  simp only [List.append_nil] at hW'
  refine (walk a0 a1 a2 W w0 w1 w2).mono fun e W' ⟨he, bel⟩ => ?_
  subst he
  exact ⟨_, rfl, _, _, _, [], [], [], hW', trodAll_mk1 (shut_bool Try.underlying4 _), (trodAll_cons_mk (shut_string Try.underlying9 w0) (trodAll_cons_mk (shut_int Try.underlying3 w1) (trodAll_cons_mk (shut_int Try.underlying29 w2) trodAll_mk0))), rfl, bel.frame _, fun h => by cases h⟩

theorem over : Rows.frameTurnedRow.holds Try.pinned (OpenSpec.ofChange Rows.frameTurnedSpec) :=
  OpenClaim.holds_of_wide 7 Try.f7 rfl rfl rfl rfl rfl rfl rfl ⟨rfl, rfl, rfl, rfl, rfl⟩ rfl rfl rfl rfl rfl (by kernel_rfl) Try.func7 (by kernel_rfl)
    (of_decide_eq_true (by kernel_rfl)) (by unfold Func.isWrapper; first | (rw [if_pos (by decide +kernel)]; kernel_rfl) | (rw [if_neg (by decide +kernel)]; exact ⟨rfl, rfl⟩))
    (fun os started H enc _ => lifted os started H enc)
end Go.Proofs.Ytnekaflanaleeaa.frameTurned
namespace Go.Proofs.Ytnekaflanaleeaa

theorem frameTurned_holds : Rows.FrameTurnedSaid := frameTurned.over
#print axioms frameTurned_holds
end Go.Proofs.Ytnekaflanaleeaa
