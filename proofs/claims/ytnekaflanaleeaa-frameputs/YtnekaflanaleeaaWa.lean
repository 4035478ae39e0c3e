/- Walks over frame.shift, frame.Sum and the document's Sum: each tells the plain sum. -/
import Derived.Test.YtnekaflanaleeaaRows
import Derived.Test.YtnekaflanaleeaaMa
import Derived.WalkKit
import Derived.WalkSpells
import Derived.WalkLawsBesides
import Derived.BigQuiet
import Derived.Deep.QuietTactic
import Derived.Laws.BitsAllLaws
namespace Go.Proofs.Ytnekaflanaleeaa
open Go.RowKit

theorem ret_i {k : IntKind} {a b : Int} (h : a = b) : Ending.returned (.int k a) = .returned (.int k b) := by rw [h]

theorem and_one (q : Nat) (hq : q < 4294967296) : bits .and .u32 (q : Int) 1 = ((q % 2 : Nat) : Int) := by
  have h := u32_and_nat q 1 hq (by decide)
  rw [Nat.and_one_is_mod] at h
  exact h

theorem step_bits (q : Nat) (hq : q < 4294967296) :
    bits .xor .u32 ((q : Int) / 2) (bits .and .u32 2197175160 (-bits .and .u32 (q : Int) 1 % 4294967296)) = ((sh q : Nat) : Int) := by
  rw [and_one q hq]
  unfold sh
  by_cases h : q % 2 = 1
  · rw [h, if_pos rfl]
    have e1 : (-((1 : Nat) : Int) % 4294967296) = ((4294967295 : Nat) : Int) := by decide
    have e2 := u32_and_nat 2197175160 4294967295 (by decide) (by decide)
    have e3 : (2197175160 &&& 4294967295 : Nat) = 2197175160 := by decide
    rw [e3] at e2
    rw [e1]
    have e4 := u32_xor_nat (q / 2) 2197175160 (by omega) (by decide)
    rw [show ((2197175160 : Nat) : Int) = (2197175160 : Int) from rfl] at e2
    rw [e2]
    rw [show ((q : Int) / 2) = ((q / 2 : Nat) : Int) by omega]
    exact e4
  · have h0 : q % 2 = 0 := by omega
    rw [h0, if_neg (by decide)]
    have e1 : (-((0 : Nat) : Int) % 4294967296) = ((0 : Nat) : Int) := by decide
    have e2 := u32_and_nat 2197175160 0 (by decide) (by decide)
    rw [Nat.and_zero, show ((2197175160 : Nat) : Int) = (2197175160 : Int) from rfl] at e2
    rw [e1, e2]
    have e4 := u32_xor_nat (q / 2) 0 (by omega) (by decide)
    rw [show ((q : Int) / 2) = ((q / 2 : Nat) : Int) by omega]
    exact e4

set_option maxRecDepth 1000000 in
set_option maxHeartbeats 1000000 in
theorem shift_any (r : Nat) (hr : r < 4294967296) (w : World) :
    Calls Try.prog 22 #[.int .u32 r] w fun e w' => e = .returned (.int .u32 (shN 8 r : Nat)) ∧ w' = w := by
  go_enter Try.func22, Try.ntmps22
  go_wp2
  go_loopw [0, 3] (fun rv i wr => ∃ (k q : Nat), k ≤ 8 ∧ i = .int .i64 k ∧ rv = .int .u32 q ∧ q < 4294967296 ∧ Hid (shN (8 - k) q = shN 8 r) ∧ wr = w) (fun _ i _ => 8 - (intOf i).toNat)
  case atStart => exact ⟨0, r, by omega, rfl, rfl, hr, rfl, rfl⟩
  case round =>
    obtain ⟨k, q, hk, rfl, rfl, hq, HQ, rfl⟩ := hrel
    by_cases hlt : k < 8
    · go_wp2
      go_roundw
      case rel =>
        rw [step_bits q hq]
        refine ⟨k + 1, sh q, by omega, by go_num, rfl, sh_lt hq, ?_, trivial⟩
        show shN (8 - (k + 1)) (sh q) = _
        rw [← HQ.out, show 8 - k = (8 - (k + 1)) + 1 by omega]
        rfl
      case measure => simp [intOf]; omega
    · have hk8 : k = 8 := by omega
      subst hk8
      have HE : Hid (q = shN 8 r) := HQ.out
      clear HQ
      go_wp2
      go_ret
      exact ⟨by rw [HE.out]; rfl, rfl⟩

/-- A slice of bytes that reads as a list. -/
def RB (w : World) (v : Value) (l : List UInt8) : Prop :=
  ∃ a cap, v = .slice a l.length cap ∧ l.length ≤ cap ∧ cap ≤ maxLen ∧ (a = none → cap = 0) ∧ ∀ i, i < l.length → ∃ b off, a = some ⟨b, off, none⟩ ∧ w.cell? ⟨b, off + i, none⟩ = some (.int .u8 ((l.getD i 0).toNat : Nat))

theorem reg_take (r : Nat) (l : List UInt8) (k : Nat) (h : k < l.length) : reg r (l.take (k + 1)) = shN 8 (reg r (l.take k) ^^^ (l.getD k 0).toNat) := by
  rw [List.take_succ_eq_append_getElem h, reg_append, reg_cons, reg_nil]
  simp [h]

set_option maxRecDepth 1000000 in
set_option maxHeartbeats 1000000 in
theorem sum_any (x : Value) (l : List UInt8) (w : World) (hx : RB w x l) (hl : l.length ≤ 1000000) :
    Calls Try.prog 11 #[x] w fun e w' => e = .returned (.int .u32 (sumP l : Nat)) ∧ w' = w := by
  obtain ⟨a, ca, rfl, _, _, _, hca⟩ := hx
  go_enter Try.func11, Try.ntmps11
  go_wp2
  go_loopw [3, 8] (fun rv i wr => ∃ (k q : Nat), k ≤ l.length ∧ i = .int .i64 k ∧ rv = .int .u32 q ∧ q < 4294967296 ∧ Hid (q = reg 4294967295 (l.take k)) ∧ wr = w) (fun _ i _ => l.length - (intOf i).toNat)
  case atStart => exact ⟨0, 4294967295, Nat.zero_le _, rfl, rfl, by decide, rfl, rfl⟩
  case round =>
    obtain ⟨k, q, hk, rfl, rfl, hq, HQ, rfl⟩ := hrel
    by_cases hlt : k < l.length
    · obtain ⟨b1, o1, rfl, hc1⟩ := hca k hlt
      have HT : Hid (reg 4294967295 (l.take (k + 1)) = shN 8 (q ^^^ (l.getD k 0).toNat)) := by show _ = _; rw [reg_take _ _ _ hlt, HQ.out]
      have hbl := byte_lt (l.getD k 0)
      generalize (l.getD k 0).toNat = c at *
      have hx2 := u32_xor_nat q c hq (by omega)
      have hx3 := xor32 hq (show c < 4294967296 by omega)
      have hS := fun w => shift_any (q ^^^ c) hx3 w
      have hS2 := shN_lt 8 hx3
      have HS : Hid (∀ w, Calls Try.prog 22 #[.int .u32 ((q ^^^ c : Nat) : Int)] w fun e w' => e = .returned (.int .u32 (shN 8 (q ^^^ c) : Nat)) ∧ w' = w) := hS
      clear hS hca
      go_wp2_with (first | (go_at_call 22; refine Calls.mono (HS.out _) ?_; rintro e w' ⟨rfl, rfl⟩))
      go_roundw
      case rel => exact ⟨k + 1, _, by omega, by go_num, rfl, hS2, HT.out.symm, trivial⟩
      case measure => simp [intOf]; omega
    · have hkk : k = l.length := by omega
      have HE : Hid (q = reg 4294967295 l) := by show _ = _; rw [HQ.out, hkk, List.take_length]
      clear HQ hkk
      have hsg : IntKind.u32.signed = false := rfl
      have hmx : IntKind.u32.max = 4294967295 := rfl
      have hx := u32_xor_nat 4294967295 q (by decide) hq
      rw [show ((4294967295 : Nat) : Int) = (4294967295 : Int) from rfl] at hx
      go_wp2
      go_ret
      refine ⟨ret_i ?_, rfl⟩
      unfold sumP
      rw [HE.out, Nat.xor_comm]

theorem size_list (s : ByteArray) : s.data.toList.length = s.size := by rw [Array.length_toList]; rfl

set_option maxRecDepth 1000000 in
set_option maxHeartbeats 1000000 in
theorem rsum_any (s : ByteArray) (l : List UInt8) (hs : s.data.toList = l) (w : World) (hl : l.length ≤ 1000000) :
    Calls Try.prog 12 #[.string s] w fun e w' => e = .returned (.int .u32 (sumP l : Nat)) ∧ w' = w := by
  have hsz : s.size = l.length := by rw [← hs, size_list]
  have HG : Hid (∀ k (h : k < s.size), s[k].toNat = (l.getD k 0).toNat) := by
    intro k hk
    subst hs
    have hk2 : k < s.data.size := hk
    rw [List.getD_eq_getElem?_getD, Array.getElem?_toList, Array.getElem?_eq_getElem hk2]
    rfl
  have hs1 : s.size ≤ 1000000 := by omega
  have HZ : Hid (s.size = l.length) := hsz
  clear hsz hs
  go_enter Try.func12, Try.ntmps12
  go_wp2
  go_loopw [3, 4] (fun rv i wr => ∃ (k q : Nat), k ≤ l.length ∧ i = .int .i64 k ∧ rv = .int .u32 q ∧ q < 4294967296 ∧ Hid (q = reg 4294967295 (l.take k)) ∧ wr = w) (fun _ i _ => l.length - (intOf i).toNat)
  case atStart => exact ⟨0, 4294967295, Nat.zero_le _, rfl, rfl, by decide, rfl, rfl⟩
  case round =>
    obtain ⟨k, q, hk, rfl, rfl, hq, HQ, rfl⟩ := hrel
    by_cases hlt : k < l.length
    · have HT : Hid (reg 4294967295 (l.take (k + 1)) = shN 8 (q ^^^ (l.getD k 0).toNat)) := by show _ = _; rw [reg_take _ _ _ hlt, HQ.out]
      have hbl := byte_lt (l.getD k 0)
      have hlt2 : k < s.size := by rw [HZ.out]; exact hlt
      have hgk := HG.out k hlt2
      generalize (l.getD k 0).toNat = c at *
      have hx2 := u32_xor_nat q c hq (by omega)
      have hx3 := xor32 hq (show c < 4294967296 by omega)
      have hcm : (c : Int) % 4294967296 = (c : Int) := by omega
      go_wp2
      go_loopw [3, 5] (fun rv i wx => ∃ (j p : Nat), j ≤ 8 ∧ i = .int .i64 j ∧ rv = .int .u32 p ∧ p < 4294967296 ∧ Hid (shN (8 - j) p = shN 8 (q ^^^ c)) ∧ wx = wr) (fun _ i _ => 8 - (intOf i).toNat)
      case atStart => exact ⟨0, q ^^^ c, by omega, rfl, rfl, hx3, rfl, rfl⟩
      case round =>
        obtain ⟨j, p, hj, rfl, rfl, hp, HP, rfl⟩ := hrel
        by_cases hjl : j < 8
        · have HSH : Hid (shN (8 - (j + 1)) (sh p) = shN 8 (q ^^^ c)) := by
            show _ = _
            rw [← HP.out, show 8 - j = (8 - (j + 1)) + 1 by omega]
            rfl
          have hp4 := u32_xor_nat (p / 2) 2197175160 (by omega) (by decide)
          rw [show ((2197175160 : Nat) : Int) = (2197175160 : Int) from rfl, show ((p / 2 : Nat) : Int) = (p : Int) / 2 by omega] at hp4
          have hsl := sh_lt hp
          by_cases hodd : p % 2 = 1
          · have HO : Hid (sh p = p / 2 ^^^ 2197175160) := by show _ = _; unfold sh; rw [if_pos hodd]; rfl
            have ho2 : (p : Int) % 2 = 1 := by omega
            go_wp2
            go_roundw
            case rel => exact ⟨j + 1, _, by omega, by go_num, rfl, by rw [← HO.out]; exact hsl, by show _ = _; rw [← HO.out]; exact HSH.out, trivial⟩
            case measure => simp [intOf]; omega
          · have HO : Hid (sh p = p / 2) := by show _ = _; unfold sh; rw [if_neg hodd, Nat.xor_zero]
            have ho2 : ¬ (p : Int) % 2 = 1 := by omega
            go_wp2
            go_roundw
            case rel => exact ⟨j + 1, p / 2, by omega, by go_num, by go_num, by omega, by show _ = _; rw [← HO.out]; exact HSH.out, trivial⟩
            case measure => simp [intOf]; omega
        · have hj8 : j = 8 := by omega
          subst hj8
          have HPE : Hid (p = shN 8 (q ^^^ c)) := HP.out
          clear HP
          go_wp2
          go_roundw
          case rel => exact ⟨k + 1, p, by omega, by go_num, rfl, hp, by show _ = _; rw [HT.out, HPE.out], trivial⟩
          case measure => simp [intOf]; omega
    · have hkk : k = l.length := by omega
      have HE : Hid (q = reg 4294967295 l) := by show _ = _; rw [HQ.out, hkk, List.take_length]
      clear HQ
      have hlt2 : ¬ k < s.size := by rw [HZ.out]; exact hlt
      clear hkk
      have hsg : IntKind.u32.signed = false := rfl
      have hmx : IntKind.u32.max = 4294967295 := rfl
      have hx := u32_xor_nat q 4294967295 hq (by decide)
      rw [show ((4294967295 : Nat) : Int) = (4294967295 : Int) from rfl] at hx
      go_wp2
      go_ret
      refine ⟨ret_i ?_, rfl⟩
      unfold sumP
      rw [HE.out]
end Go.Proofs.Ytnekaflanaleeaa
