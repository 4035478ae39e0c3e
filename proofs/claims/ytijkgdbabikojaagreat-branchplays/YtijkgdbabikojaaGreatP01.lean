/- Texts of the seat, packed: FMa FWa FMb FWb. -/
import Derived.Test.YtijkgdbabikojaaGreatRows
import Derived.WalkKit
import Derived.WalkSpells
import Derived.WalkLawsBesides
import Derived.BigQuiet
import Derived.Deep.QuietTactic
import Derived.Laws.BitsAllLaws
import Derived.Laws.Rows
import Derived.Laws.IdiomStrings
import Derived.Laws.BytesArg
import Derived.Laws.StructEq
import Derived.Laws.AppendOwnNone
import Derived.Lib.SliceRun
/- Plain facts: the sum of bytes, one bit at a time; it is linear, and no bit that is turned alone, or with others within 32, leaves it as it was. -/
namespace Go.Proofs.YtijkgdbabikojaaGreat.Fr
set_option maxRecDepth 1000000

def poly : Nat := 2197175160

/-- The register one place down. -/
def sh (r : Nat) : Nat := r / 2 ^^^ (if r % 2 = 1 then poly else 0)

/-- The register so many places down. -/
def shN : Nat → Nat → Nat
  | 0, r => r
  | k + 1, r => shN k (sh r)

/-- The register behind bytes. -/
def reg (r : Nat) (l : List UInt8) : Nat := l.foldl (fun r c => shN 8 (r ^^^ c.toNat)) r

/-- The sum. -/
def sumP (l : List UInt8) : Nat := reg 4294967295 l ^^^ 4294967295

theorem sh_lt {r : Nat} (h : r < 4294967296) : sh r < 4294967296 := by
  have h1 : r / 2 < 2 ^ 32 := by omega
  have h2 : (if r % 2 = 1 then poly else 0) < 2 ^ 32 := by split <;> decide
  exact Nat.xor_lt_two_pow h1 h2

theorem shN_lt : ∀ (k : Nat) {r : Nat}, r < 4294967296 → shN k r < 4294967296
  | 0, _, h => h
  | k + 1, _, h => shN_lt k (sh_lt h)

theorem byte_lt (c : UInt8) : c.toNat < 256 := UInt8.toNat_lt c

theorem xor32 {a b : Nat} (ha : a < 4294967296) (hb : b < 4294967296) : a ^^^ b < 4294967296 :=
  Nat.xor_lt_two_pow (n := 32) ha hb

theorem reg_nil (r : Nat) : reg r [] = r := rfl
theorem reg_cons (r : Nat) (c : UInt8) (l : List UInt8) : reg r (c :: l) = reg (shN 8 (r ^^^ c.toNat)) l := rfl
theorem reg_append (r : Nat) (a b : List UInt8) : reg r (a ++ b) = reg (reg r a) b := by simp [reg]

theorem reg_lt : ∀ (l : List UInt8) {r : Nat}, r < 4294967296 → reg r l < 4294967296
  | [], _, h => h
  | c :: l, _, h => by
    rw [reg_cons]
    exact reg_lt l (shN_lt 8 (xor32 h (by have := byte_lt c; omega)))

theorem sumP_lt (l : List UInt8) : sumP l < 4294967296 := xor32 (reg_lt l (by decide)) (by decide)

theorem half_xor (a b : Nat) : (a ^^^ b) / 2 = a / 2 ^^^ b / 2 := by
  have := Nat.shiftRight_xor_distrib (a := a) (b := b) (i := 1)
  simpa [Nat.shiftRight_eq_div_pow] using this

theorem odd_bit (a : Nat) : (a % 2 = 1) ↔ a.testBit 0 = true := by simp [Nat.testBit_zero]

theorem sh_xor (a b : Nat) : sh (a ^^^ b) = sh a ^^^ sh b := by
  have ho : ((a ^^^ b) % 2 = 1) ↔ ¬ ((a % 2 = 1) ↔ (b % 2 = 1)) := by
    rw [odd_bit, odd_bit, odd_bit, Nat.testBit_xor]
    cases a.testBit 0 <;> cases b.testBit 0 <;> simp
  unfold sh
  rw [half_xor]
  by_cases h1 : a % 2 = 1 <;> by_cases h2 : b % 2 = 1
  · have : ¬ (a ^^^ b) % 2 = 1 := by rw [ho]; simp [h1, h2]
    rw [if_neg this, if_pos h1, if_pos h2]
    have e : (a / 2 ^^^ poly) ^^^ (b / 2 ^^^ poly) = (a / 2 ^^^ b / 2) ^^^ (poly ^^^ poly) := by ac_rfl
    rw [e, Nat.xor_self]
  · have : (a ^^^ b) % 2 = 1 := by rw [ho]; simp [h1, h2]
    rw [if_pos this, if_pos h1, if_neg h2]
    simp only [Nat.xor_zero]
    ac_rfl
  · have : (a ^^^ b) % 2 = 1 := by rw [ho]; simp [h1, h2]
    rw [if_pos this, if_neg h1, if_pos h2]
    simp only [Nat.xor_zero]
    ac_rfl
  · have : ¬ (a ^^^ b) % 2 = 1 := by rw [ho]; simp [h1, h2]
    rw [if_neg this, if_neg h1, if_neg h2]
    simp only [Nat.xor_zero]

theorem shN_xor : ∀ (k a b : Nat), shN k (a ^^^ b) = shN k a ^^^ shN k b
  | 0, _, _ => rfl
  | k + 1, a, b => by
    show shN k (sh (a ^^^ b)) = _
    rw [sh_xor, shN_xor k]
    rfl

theorem sh_zero : sh 0 = 0 := rfl

theorem shN_zero : ∀ k, shN k 0 = 0
  | 0 => rfl
  | k + 1 => by show shN k (sh 0) = 0; rw [sh_zero, shN_zero k]

theorem shN_add : ∀ (j k r : Nat), shN (j + k) r = shN k (shN j r)
  | 0, k, r => by rw [Nat.zero_add]; rfl
  | j + 1, k, r => by
    rw [show j + 1 + k = (j + k) + 1 by omega]
    show shN (j + k) (sh r) = shN k (shN j (sh r))
    exact shN_add j k (sh r)

theorem sh_ne {a : Nat} (h : a < 4294967296) (h0 : a ≠ 0) : sh a ≠ 0 := by
  intro he
  unfold sh at he
  by_cases h1 : a % 2 = 1
  · rw [if_pos h1] at he
    have e2 : a / 2 = poly := by
      have h3 : (a / 2 ^^^ poly) ^^^ poly = 0 ^^^ poly := by rw [he]
      rw [Nat.xor_assoc, Nat.xor_self, Nat.xor_zero, Nat.zero_xor] at h3
      exact h3
    unfold poly at e2
    omega
  · rw [if_neg h1, Nat.xor_zero] at he
    omega

theorem shN_ne : ∀ (k : Nat) {a : Nat}, a < 4294967296 → a ≠ 0 → shN k a ≠ 0
  | 0, _, _, h0 => h0
  | k + 1, _, h, h0 => shN_ne k (sh_lt h) (sh_ne h h0)

theorem shN_pow : ∀ (i : Nat), shN i (2 ^ i) = 1
  | 0 => rfl
  | i + 1 => by
    show shN i (sh (2 ^ (i + 1))) = 1
    have h : sh (2 ^ (i + 1)) = 2 ^ i := by
      unfold sh
      rw [if_neg (by rw [Nat.pow_succ]; omega), Nat.xor_zero, Nat.pow_succ, Nat.mul_div_cancel _ (by decide)]
    rw [h, shN_pow i]

theorem reg_xor (b : Nat) : ∀ (l : List UInt8) (a : Nat), reg (a ^^^ b) l = reg a l ^^^ shN (8 * l.length) b
  | [], _ => rfl
  | c :: l, a => by
    rw [reg_cons, reg_cons]
    have e : a ^^^ b ^^^ c.toNat = (a ^^^ c.toNat) ^^^ b := by ac_rfl
    rw [e, shN_xor, reg_xor _ l, ← shN_add]
    rw [show 8 + 8 * l.length = 8 * (c :: l).length by simp; omega]

/-- Of bytes one bit turned. -/
def flip (l : List UInt8) (k : Nat) : List UInt8 := l.modify (k / 8) fun c => c ^^^ UInt8.ofNat (2 ^ (k % 8))

theorem flip_len (l : List UInt8) (k : Nat) : (flip l k).length = l.length := by simp [flip]

theorem pow8_lt {t : Nat} (h : t < 8) : 2 ^ t < 256 := by
  have : 2 ^ t < 2 ^ 8 := Nat.pow_lt_pow_right (by decide) h
  simpa using this

theorem flip_byte (c : UInt8) {t : Nat} (h : t < 8) : (c ^^^ UInt8.ofNat (2 ^ t)).toNat = c.toNat ^^^ 2 ^ t := by
  rw [UInt8.toNat_xor, UInt8.toNat_ofNat']
  rw [Nat.mod_eq_of_lt (by simpa using pow8_lt h)]

theorem reg_flip : ∀ (l : List UInt8) (r k : Nat), k < 8 * l.length → reg r (flip l k) = reg r l ^^^ shN (8 * l.length - k) 1
  | [], _, _, h => by simp at h
  | c :: l, r, k, h => by
    by_cases hk : k < 8
    · have h0 : k / 8 = 0 := by omega
      have e1 : flip (c :: l) k = (c ^^^ UInt8.ofNat (2 ^ (k % 8))) :: l := by simp [flip, h0]
      rw [e1, reg_cons, reg_cons, flip_byte c (by omega), Nat.mod_eq_of_lt hk, ← Nat.xor_assoc, shN_xor, reg_xor, ← shN_add]
      rw [show 8 + 8 * l.length = k + (8 * (c :: l).length - k) by simp; omega, shN_add, shN_pow]
    · have h0 : k / 8 = (k - 8) / 8 + 1 := by omega
      have h1 : k % 8 = (k - 8) % 8 := by omega
      have e1 : flip (c :: l) k = c :: flip l (k - 8) := by simp [flip, h0, h1]
      simp only [List.length_cons] at h
      rw [e1, reg_cons, reg_cons, reg_flip l _ (k - 8) (by omega)]
      rw [show 8 * l.length - (k - 8) = 8 * (c :: l).length - k by simp; omega]

theorem mod_bit (m i : Nat) : m % 2 ^ (i + 1) = m % 2 ^ i ^^^ (if m / 2 ^ i % 2 = 1 then 2 ^ i else 0) := by
  apply Nat.eq_of_testBit_eq
  intro j
  rw [Nat.testBit_xor, Nat.testBit_mod_two_pow, Nat.testBit_mod_two_pow]
  have hb : (m / 2 ^ i % 2 = 1) ↔ m.testBit i = true := by
    rw [Nat.testBit_eq_decide_div_mod_eq]
    simp
  by_cases h : m / 2 ^ i % 2 = 1
  · rw [if_pos h, Nat.testBit_two_pow]
    have h2 := hb.1 h
    by_cases hj : i = j
    · subst hj; simp [h2]
    · by_cases h3 : j < i
      · have h4 : j < i + 1 := by omega
        simp [h3, h4, hj]
      · have h4 : ¬ j < i + 1 := by omega
        simp [h3, h4, hj]
  · rw [if_neg h, Nat.zero_testBit]
    have h2 : m.testBit i = false := by
      cases hm : m.testBit i with
      | false => rfl
      | true => exact absurd (hb.2 hm) h
    by_cases hj : i = j
    · subst hj; simp [h2]
    · by_cases h3 : j < i
      · have h4 : j < i + 1 := by omega
        simp [h3, h4]
      · have h4 : ¬ j < i + 1 := by omega
        simp [h3, h4]

/-- Bytes of which the bits of a mask, from a place on, were turned: the first i of them. -/
def flips (l : List UInt8) (first mask : Nat) : Nat → List UInt8
  | 0 => l
  | i + 1 => if mask / 2 ^ i % 2 = 1 then flip (flips l first mask i) (first + i) else flips l first mask i

theorem flips_len (l : List UInt8) (first mask : Nat) : ∀ i, (flips l first mask i).length = l.length
  | 0 => rfl
  | i + 1 => by
    unfold flips
    split
    · rw [flip_len, flips_len l first mask i]
    · exact flips_len l first mask i

theorem reg_flips (l : List UInt8) (first mask r : Nat) : ∀ i, first + i ≤ 8 * l.length → reg r (flips l first mask i) = reg r l ^^^ shN (8 * l.length - first) (mask % 2 ^ i)
  | 0, _ => by
    show reg r l = _
    rw [Nat.pow_zero, Nat.mod_one, shN_zero, Nat.xor_zero]
  | i + 1, h => by
    have ih := reg_flips l first mask r i (by omega)
    rw [mod_bit mask i, shN_xor]
    unfold flips
    split
    · rw [reg_flip _ r _ (by rw [flips_len]; omega), flips_len, ih, Nat.xor_assoc]
      rw [show 8 * l.length - first = i + (8 * l.length - (first + i)) by omega, shN_add i _ (2 ^ i), shN_pow]
    · rw [ih, shN_zero, Nat.xor_zero]

/-- A sum of which bits within 32 bits were turned is another one. -/
theorem sum_turned (h l : List UInt8) (first mask i : Nat) (hi : first + i ≤ 8 * l.length) (h32 : i ≤ 32) (hm : mask % 2 ^ i ≠ 0) : sumP (h ++ flips l first mask i) ≠ sumP (h ++ l) := by
  intro he
  unfold sumP at he
  rw [reg_append, reg_append] at he
  rw [reg_flips l first mask _ i hi] at he
  have hx : ∀ a b c : Nat, (a ^^^ b) ^^^ c = a ^^^ c → b = 0 := by
    intro a b c hh
    have h1 : a ^^^ ((a ^^^ b) ^^^ c) ^^^ c = a ^^^ (a ^^^ c) ^^^ c := by rw [hh]
    have e1 : a ^^^ ((a ^^^ b) ^^^ c) ^^^ c = (a ^^^ a) ^^^ (c ^^^ c) ^^^ b := by ac_rfl
    have e2 : a ^^^ (a ^^^ c) ^^^ c = (a ^^^ a) ^^^ (c ^^^ c) := by ac_rfl
    rw [e1, e2] at h1
    simpa [Nat.xor_self] using h1
  have h0 := hx _ _ _ he
  refine shN_ne _ ?_ hm h0
  have h1 : mask % 2 ^ i < 2 ^ i := Nat.mod_lt _ (Nat.two_pow_pos i)
  have h2 : 2 ^ i ≤ 2 ^ 32 := Nat.pow_le_pow_right (by decide) h32
  have h3 : (2 : Nat) ^ 32 = 4294967296 := by decide
  omega
end Go.Proofs.YtijkgdbabikojaaGreat.Fr

/- Walks over frame.shift, frame.Sum and the document's Sum: each tells the plain sum. -/
namespace Go.Proofs.YtijkgdbabikojaaGreat.Fr
set_option maxRecDepth 1000000
open Go.RowKit

theorem ret_i {k : IntKind} {a b : Int} (h : a = b) : Ending.returned (.int k a) = .returned (.int k b) := by rw [h]

theorem and_one (q : Nat) (hq : q < 4294967296) : bits .and .u32 (q : Int) 1 = ((q % 2 : Nat) : Int) := by
  have h := u32_and_nat q 1 hq (by decide)
  rw [Nat.and_one_is_mod] at h
  exact h

theorem step_bits (q : Nat) (hq : q < 4294967296) :
    bits .xor .u32 ((q : Int) / 2) (bits .and .u32 2197175160 (-bits .and .u32 (q : Int) 1 % 4294967296)) = ((sh q : Nat) : Int) := by
  rw [and_one q hq]
  unfold sh
  by_cases h : q % 2 = 1
  · rw [h, if_pos rfl]
    have e1 : (-((1 : Nat) : Int) % 4294967296) = ((4294967295 : Nat) : Int) := by decide
    have e2 := u32_and_nat 2197175160 4294967295 (by decide) (by decide)
    have e3 : (2197175160 &&& 4294967295 : Nat) = 2197175160 := by decide
    rw [e3] at e2
    rw [e1]
    have e4 := u32_xor_nat (q / 2) 2197175160 (by omega) (by decide)
    rw [show ((2197175160 : Nat) : Int) = (2197175160 : Int) from rfl] at e2
    rw [e2]
    rw [show ((q : Int) / 2) = ((q / 2 : Nat) : Int) by omega]
    exact e4
  · have h0 : q % 2 = 0 := by omega
    rw [h0, if_neg (by decide)]
    have e1 : (-((0 : Nat) : Int) % 4294967296) = ((0 : Nat) : Int) := by decide
    have e2 := u32_and_nat 2197175160 0 (by decide) (by decide)
    rw [Nat.and_zero, show ((2197175160 : Nat) : Int) = (2197175160 : Int) from rfl] at e2
    rw [e1, e2]
    have e4 := u32_xor_nat (q / 2) 0 (by omega) (by decide)
    rw [show ((q : Int) / 2) = ((q / 2 : Nat) : Int) by omega]
    exact e4

set_option maxRecDepth 1000000 in
set_option maxHeartbeats 1000000 in
theorem shift_any (r : Nat) (hr : r < 4294967296) (w : World) :
    Calls Tryz.prog 120 #[.int .u32 r] w fun e w' => e = .returned (.int .u32 (shN 8 r : Nat)) ∧ w' = w := by
  go_enter Tryz.func120, Tryz.ntmps120
  go_wp2
  go_loopw [0, 3] (fun rv i wr => ∃ (k q : Nat), k ≤ 8 ∧ i = .int .i64 k ∧ rv = .int .u32 q ∧ q < 4294967296 ∧ Hid (shN (8 - k) q = shN 8 r) ∧ wr = w) (fun _ i _ => 8 - (intOf i).toNat)
  case atStart => exact ⟨0, r, by omega, rfl, rfl, hr, rfl, rfl⟩
  case round =>
    obtain ⟨k, q, hk, rfl, rfl, hq, HQ, rfl⟩ := hrel
    by_cases hlt : k < 8
    · go_wp2
      go_roundw
      case rel =>
        rw [step_bits q hq]
        refine ⟨k + 1, sh q, by omega, by go_num, rfl, sh_lt hq, ?_, trivial⟩
        show shN (8 - (k + 1)) (sh q) = _
        rw [← HQ.out, show 8 - k = (8 - (k + 1)) + 1 by omega]
        rfl
      case measure => simp [intOf]; omega
    · have hk8 : k = 8 := by omega
      subst hk8
      have HE : Hid (q = shN 8 r) := HQ.out
      clear HQ
      go_wp2
      go_ret
      exact ⟨by rw [HE.out]; rfl, rfl⟩

/-- A slice of bytes that reads as a list. -/
def RB (w : World) (v : Value) (l : List UInt8) : Prop :=
  ∃ a cap, v = .slice a l.length cap ∧ l.length ≤ cap ∧ cap ≤ maxLen ∧ (a = none → cap = 0) ∧ ∀ i, i < l.length → ∃ b off, a = some ⟨b, off, none⟩ ∧ w.cell? ⟨b, off + i, none⟩ = some (.int .u8 ((l.getD i 0).toNat : Nat))

theorem reg_take (r : Nat) (l : List UInt8) (k : Nat) (h : k < l.length) : reg r (l.take (k + 1)) = shN 8 (reg r (l.take k) ^^^ (l.getD k 0).toNat) := by
  rw [List.take_succ_eq_append_getElem h, reg_append, reg_cons, reg_nil]
  simp [h]

set_option maxRecDepth 1000000 in
set_option maxHeartbeats 1000000 in
theorem sum_any (x : Value) (l : List UInt8) (w : World) (hx : RB w x l) (hl : l.length ≤ 1000000) :
    Calls Tryz.prog 105 #[x] w fun e w' => e = .returned (.int .u32 (sumP l : Nat)) ∧ w' = w := by
  obtain ⟨a, ca, rfl, _, _, _, hca⟩ := hx
  go_enter Tryz.func105, Tryz.ntmps105
  go_wp2
  go_loopw [3, 8] (fun rv i wr => ∃ (k q : Nat), k ≤ l.length ∧ i = .int .i64 k ∧ rv = .int .u32 q ∧ q < 4294967296 ∧ Hid (q = reg 4294967295 (l.take k)) ∧ wr = w) (fun _ i _ => l.length - (intOf i).toNat)
  case atStart => exact ⟨0, 4294967295, Nat.zero_le _, rfl, rfl, by decide, rfl, rfl⟩
  case round =>
    obtain ⟨k, q, hk, rfl, rfl, hq, HQ, rfl⟩ := hrel
    by_cases hlt : k < l.length
    · obtain ⟨b1, o1, rfl, hc1⟩ := hca k hlt
      have HT : Hid (reg 4294967295 (l.take (k + 1)) = shN 8 (q ^^^ (l.getD k 0).toNat)) := by show _ = _; rw [reg_take _ _ _ hlt, HQ.out]
      have hbl := byte_lt (l.getD k 0)
      generalize (l.getD k 0).toNat = c at *
      have hx2 := u32_xor_nat q c hq (by omega)
      have hx3 := xor32 hq (show c < 4294967296 by omega)
      have hS := fun w => shift_any (q ^^^ c) hx3 w
      have hS2 := shN_lt 8 hx3
      have HS : Hid (∀ w, Calls Tryz.prog 120 #[.int .u32 ((q ^^^ c : Nat) : Int)] w fun e w' => e = .returned (.int .u32 (shN 8 (q ^^^ c) : Nat)) ∧ w' = w) := hS
      clear hS hca
      go_wp2_with (first | (go_at_call 120; refine Calls.mono (HS.out _) ?_; rintro e w' ⟨rfl, rfl⟩))
      go_roundw
      case rel => exact ⟨k + 1, _, by omega, by go_num, rfl, hS2, HT.out.symm, trivial⟩
      case measure => simp [intOf]; omega
    · have hkk : k = l.length := by omega
      have HE : Hid (q = reg 4294967295 l) := by show _ = _; rw [HQ.out, hkk, List.take_length]
      clear HQ hkk
      have hsg : IntKind.u32.signed = false := rfl
      have hmx : IntKind.u32.max = 4294967295 := rfl
      have hx := u32_xor_nat 4294967295 q (by decide) hq
      rw [show ((4294967295 : Nat) : Int) = (4294967295 : Int) from rfl] at hx
      go_wp2
      go_ret
      refine ⟨ret_i ?_, rfl⟩
      unfold sumP
      rw [HE.out, Nat.xor_comm]

theorem size_list (s : ByteArray) : s.data.toList.length = s.size := by rw [Array.length_toList]; rfl

set_option maxRecDepth 1000000 in
set_option maxHeartbeats 1000000 in
theorem rsum_any (s : ByteArray) (l : List UInt8) (hs : s.data.toList = l) (w : World) (hl : l.length ≤ 1000000) :
    Calls Tryz.prog 93 #[.string s] w fun e w' => e = .returned (.int .u32 (sumP l : Nat)) ∧ w' = w := by
  have hsz : s.size = l.length := by rw [← hs, size_list]
  have HG : Hid (∀ k (h : k < s.size), s[k].toNat = (l.getD k 0).toNat) := by
    intro k hk
    subst hs
    have hk2 : k < s.data.size := hk
    rw [List.getD_eq_getElem?_getD, Array.getElem?_toList, Array.getElem?_eq_getElem hk2]
    rfl
  have hs1 : s.size ≤ 1000000 := by omega
  have HZ : Hid (s.size = l.length) := hsz
  clear hsz hs
  go_enter Tryz.func93, Tryz.ntmps93
  go_wp2
  go_loopw [3, 4] (fun rv i wr => ∃ (k q : Nat), k ≤ l.length ∧ i = .int .i64 k ∧ rv = .int .u32 q ∧ q < 4294967296 ∧ Hid (q = reg 4294967295 (l.take k)) ∧ wr = w) (fun _ i _ => l.length - (intOf i).toNat)
  case atStart => exact ⟨0, 4294967295, Nat.zero_le _, rfl, rfl, by decide, rfl, rfl⟩
  case round =>
    obtain ⟨k, q, hk, rfl, rfl, hq, HQ, rfl⟩ := hrel
    by_cases hlt : k < l.length
    · have HT : Hid (reg 4294967295 (l.take (k + 1)) = shN 8 (q ^^^ (l.getD k 0).toNat)) := by show _ = _; rw [reg_take _ _ _ hlt, HQ.out]
      have hbl := byte_lt (l.getD k 0)
      have hlt2 : k < s.size := by rw [HZ.out]; exact hlt
      have hgk := HG.out k hlt2
      generalize (l.getD k 0).toNat = c at *
      have hx2 := u32_xor_nat q c hq (by omega)
      have hx3 := xor32 hq (show c < 4294967296 by omega)
      have hcm : (c : Int) % 4294967296 = (c : Int) := by omega
      go_wp2
      go_loopw [3, 5] (fun rv i wx => ∃ (j p : Nat), j ≤ 8 ∧ i = .int .i64 j ∧ rv = .int .u32 p ∧ p < 4294967296 ∧ Hid (shN (8 - j) p = shN 8 (q ^^^ c)) ∧ wx = wr) (fun _ i _ => 8 - (intOf i).toNat)
      case atStart => exact ⟨0, q ^^^ c, by omega, rfl, rfl, hx3, rfl, rfl⟩
      case round =>
        obtain ⟨j, p, hj, rfl, rfl, hp, HP, rfl⟩ := hrel
        by_cases hjl : j < 8
        · have HSH : Hid (shN (8 - (j + 1)) (sh p) = shN 8 (q ^^^ c)) := by
            show _ = _
            rw [← HP.out, show 8 - j = (8 - (j + 1)) + 1 by omega]
            rfl
          have hp4 := u32_xor_nat (p / 2) 2197175160 (by omega) (by decide)
          rw [show ((2197175160 : Nat) : Int) = (2197175160 : Int) from rfl, show ((p / 2 : Nat) : Int) = (p : Int) / 2 by omega] at hp4
          have hsl := sh_lt hp
          by_cases hodd : p % 2 = 1
          · have HO : Hid (sh p = p / 2 ^^^ 2197175160) := by show _ = _; unfold sh; rw [if_pos hodd]; rfl
            have ho2 : (p : Int) % 2 = 1 := by omega
            go_wp2
            go_roundw
            case rel => exact ⟨j + 1, _, by omega, by go_num, rfl, by rw [← HO.out]; exact hsl, by show _ = _; rw [← HO.out]; exact HSH.out, trivial⟩
            case measure => simp [intOf]; omega
          · have HO : Hid (sh p = p / 2) := by show _ = _; unfold sh; rw [if_neg hodd, Nat.xor_zero]
            have ho2 : ¬ (p : Int) % 2 = 1 := by omega
            go_wp2
            go_roundw
            case rel => exact ⟨j + 1, p / 2, by omega, by go_num, by go_num, by omega, by show _ = _; rw [← HO.out]; exact HSH.out, trivial⟩
            case measure => simp [intOf]; omega
        · have hj8 : j = 8 := by omega
          subst hj8
          have HPE : Hid (p = shN 8 (q ^^^ c)) := HP.out
          clear HP
          go_wp2
          go_roundw
          case rel => exact ⟨k + 1, p, by omega, by go_num, rfl, hp, by show _ = _; rw [HT.out, HPE.out], trivial⟩
          case measure => simp [intOf]; omega
    · have hkk : k = l.length := by omega
      have HE : Hid (q = reg 4294967295 l) := by show _ = _; rw [HQ.out, hkk, List.take_length]
      clear HQ
      have hlt2 : ¬ k < s.size := by rw [HZ.out]; exact hlt
      clear hkk
      have hsg : IntKind.u32.signed = false := rfl
      have hmx : IntKind.u32.max = 4294967295 := rfl
      have hx := u32_xor_nat q 4294967295 hq (by decide)
      rw [show ((4294967295 : Nat) : Int) = (4294967295 : Int) from rfl] at hx
      go_wp2
      go_ret
      refine ⟨ret_i ?_, rfl⟩
      unfold sumP
      rw [HE.out]
end Go.Proofs.YtijkgdbabikojaaGreat.Fr

/- Plain facts: frames, how one is measured, opened and taken, and all of them. -/
namespace Go.Proofs.YtijkgdbabikojaaGreat.Fr
set_option maxRecDepth 1000000

/-- Four bytes, the lowest first. -/
def le4 (n : Nat) : List UInt8 := [UInt8.ofNat n, UInt8.ofNat (n / 256), UInt8.ofNat (n / 65536), UInt8.ofNat (n / 16777216)]

/-- Two bytes, the highest first. -/
def hd2 (n : Nat) : List UInt8 := [UInt8.ofNat (n / 256), UInt8.ofNat n]

/-- A body's frame. -/
def frameP (s : List UInt8) : List UInt8 := hd2 s.length ++ s ++ le4 (sumP (hd2 s.length ++ s))

/-- What the first two bytes say. -/
def num2 (l : List UInt8) : Nat := 256 * (l.getD 0 0).toNat + (l.getD 1 0).toNat

/-- How many bytes the frame has that bytes begin with, and the error. -/
def measureP (l : List UInt8) : Nat × Nat :=
  if l.length = 0 then (0, 16) else if l.length < 2 then (0, 3) else if 1024 < num2 l then (0, 5) else if l.length < num2 l + 6 then (0, 3) else (num2 l + 6, 0)

/-- Is the sum right? -/
def openP (f : List UInt8) : Bool := le4 (sumP (f.take (f.length - 4))) == f.drop (f.length - 4)

/-- The frame at a place: its body, the place behind it, the error. -/
def takeP (l : List UInt8) (p : Nat) : List UInt8 × Nat × Nat :=
  if (measureP (l.drop p)).2 = 0 then
    if openP ((l.drop p).take (measureP (l.drop p)).1) then (((l.drop p).drop 2).take ((measureP (l.drop p)).1 - 6), p + (measureP (l.drop p)).1, 0) else ([], 0, 12)
  else ([], 0, (measureP (l.drop p)).2)

/-- All frames from a place on (fuel): the bodies, where they end, and why. -/
def allP (l : List UInt8) : Nat → Nat → List (List UInt8) × Nat × Nat
  | 0, p => ([], p, 0)
  | f + 1, p => if (takeP l p).2.2 = 0 then ((takeP l p).1 :: (allP l f (takeP l p).2.1).1, (allP l f (takeP l p).2.1).2) else ([], p, (takeP l p).2.2)

theorem le4_len (n : Nat) : (le4 n).length = 4 := rfl
theorem hd2_len (n : Nat) : (hd2 n).length = 2 := rfl
theorem frameP_len (s : List UInt8) : (frameP s).length = s.length + 6 := by simp [frameP, le4_len, hd2_len]; omega

theorem u8_nat (n : Nat) : (UInt8.ofNat n).toNat = n % 256 := by rw [UInt8.toNat_ofNat']

theorem le4_inj {a b : Nat} (ha : a < 4294967296) (hb : b < 4294967296) (h : le4 a = le4 b) : a = b := by
  unfold le4 at h
  simp only [List.cons.injEq, and_true] at h
  obtain ⟨h0, h1, h2, h3⟩ := h
  have g0 := congrArg UInt8.toNat h0
  have g1 := congrArg UInt8.toNat h1
  have g2 := congrArg UInt8.toNat h2
  have g3 := congrArg UInt8.toNat h3
  simp only [u8_nat] at g0 g1 g2 g3
  omega

theorem num2_hd (n : Nat) (h : n ≤ 1024) (t : List UInt8) : num2 (hd2 n ++ t) = n := by
  simp only [num2, hd2, List.cons_append, List.nil_append, List.getD_cons_zero, List.getD_cons_succ, u8_nat]
  omega

theorem measureP_frame (s t : List UInt8) (h : s.length ≤ 1024) : measureP (frameP s ++ t) = (s.length + 6, 0) := by
  have hn : num2 (frameP s ++ t) = s.length := by
    unfold frameP
    rw [List.append_assoc, List.append_assoc]
    exact num2_hd _ h _
  have hl : (frameP s ++ t).length = s.length + 6 + t.length := by rw [List.length_append, frameP_len]
  unfold measureP
  rw [hn, hl, if_neg (by omega), if_neg (by omega), if_neg (by omega), if_neg (by omega)]

theorem openP_frame (s : List UInt8) : openP (frameP s) = true := by
  unfold openP
  have hl : (frameP s).length - 4 = (hd2 s.length ++ s).length := by rw [frameP_len]; simp [hd2_len]; omega
  rw [hl]
  unfold frameP
  rw [List.take_left, List.drop_left]
  simp

/-- A frame that stands at a place is taken. -/
theorem takeP_frame (a s t : List UInt8) (h : s.length ≤ 1024) : takeP (a ++ (frameP s ++ t)) a.length = (s, a.length + (s.length + 6), 0) := by
  unfold takeP
  rw [List.drop_left, measureP_frame s t h]
  have ht : (frameP s ++ t).take (s.length + 6) = frameP s := by rw [← frameP_len s, List.take_left]
  rw [if_pos rfl, ht, openP_frame, if_pos rfl]
  have hb : ((frameP s ++ t).drop 2).take (s.length + 6 - 6) = s := by
    rw [show s.length + 6 - 6 = s.length by omega]
    unfold frameP
    rw [List.append_assoc, List.append_assoc, show (2 : Nat) = (hd2 s.length).length from rfl, List.drop_left, List.take_left]
  rw [hb]

theorem takeP_end (l : List UInt8) (p : Nat) (h : l.length ≤ p) : takeP l p = ([], 0, 16) := by
  unfold takeP
  rw [List.drop_eq_nil_of_le h]
  rfl

theorem takeP_next {l : List UInt8} {p : Nat} (h : (takeP l p).2.2 = 0) : p + 6 ≤ (takeP l p).2.1 ∧ (takeP l p).2.1 ≤ l.length ∧ (takeP l p).1.length + 6 + p = (takeP l p).2.1 ∧ (takeP l p).1.length ≤ 1024 := by
  unfold takeP at h ⊢
  by_cases h1 : (measureP (l.drop p)).2 = 0
  · rw [if_pos h1] at h ⊢
    by_cases h2 : openP ((l.drop p).take (measureP (l.drop p)).1) = true
    · rw [if_pos h2] at h ⊢
      have hm : measureP (l.drop p) = (num2 (l.drop p) + 6, 0) ∧ num2 (l.drop p) + 6 ≤ (l.drop p).length ∧ num2 (l.drop p) ≤ 1024 := by
        unfold measureP at h1 ⊢
        by_cases g0 : (l.drop p).length = 0
        · rw [if_pos g0] at h1; simp at h1
        · rw [if_neg g0] at h1 ⊢
          by_cases g1 : (l.drop p).length < 2
          · rw [if_pos g1] at h1; simp at h1
          · rw [if_neg g1] at h1 ⊢
            by_cases g2 : 1024 < num2 (l.drop p)
            · rw [if_pos g2] at h1; simp at h1
            · rw [if_neg g2] at h1 ⊢
              by_cases g3 : (l.drop p).length < num2 (l.drop p) + 6
              · rw [if_pos g3] at h1; simp at h1
              · rw [if_neg g3]; exact ⟨rfl, by omega, by omega⟩
      obtain ⟨e1, e2, e3⟩ := hm
      simp only [e1]
      rw [List.length_drop] at e2
      rw [List.length_take, List.length_drop, List.length_drop]
      omega
    · rw [if_neg h2] at h; simp at h
  · rw [if_neg h1] at h; exact absurd h h1
end Go.Proofs.YtijkgdbabikojaaGreat.Fr

/- What is known of bytes in memory; two arrays of four bytes held against each other; the walk over frame.seal. -/
namespace Go.Proofs.YtijkgdbabikojaaGreat.Fr
set_option maxRecDepth 1000000
open Go.RowKit

theorem Tryz.info5 : (Tryz.prog.info? 5).map (fun i => (i.zero, i.size, i.bytes)) = some (some (.int .u8 0), 1, 1) := by kernel_rfl

/-- Bytes as they lie in memory. -/
def bvs (l : List UInt8) : List Value := l.map fun b => Value.int .u8 (b.toNat : Int)

theorem bvs_append (a b : List UInt8) : bvs (a ++ b) = bvs a ++ bvs b := by simp [bvs]
theorem bvs_len (a : List UInt8) : (bvs a).length = a.length := by simp [bvs]

theorem below_drewN {B : Nat} {a w : World} (h : Below B a w) (n : Nat) : Below B a (w.drewN n) := h.trans ⟨rfl, rfl, rfl, Nat.le_refl _, fun _ _ => rfl⟩

theorem cell_later {w wx : World} (hb : Below w.heap.size w wx) {a : Addr} {v : Value} (h : w.cell? a = some v) : wx.cell? a = some v := by
  rw [hb.cell (World.block_lt_of_cell? w a h)]
  exact h

theorem RB.later {w wx : World} {v : Value} {l : List UInt8} (h : RB w v l) (hb : Below w.heap.size w wx) : RB wx v l := by
  obtain ⟨a, cap, hv, h1, h2, h3, hc⟩ := h
  refine ⟨a, cap, hv, h1, h2, h3, fun i hi => ?_⟩
  obtain ⟨b, off, ha, hcell⟩ := hc i hi
  exact ⟨b, off, ha, cell_later hb hcell⟩

theorem RB.of_owns {w : World} {B : Nat} {v : Value} {n : Nat} {l : List UInt8} (hown : w.ownsRow B 5 1 v n (bvs l)) (hn : n = l.length) : RB w v l := by
  subst hn
  rcases hown.2 with ⟨rfl, h0⟩ | ⟨g, cap, cur, rfl, _, _, h1, h2, _⟩
  · have h1 : l = [] := List.eq_nil_of_length_eq_zero h0
    subst h1
    exact ⟨none, 0, rfl, by simp, by unfold maxLen; omega, fun _ => rfl, by simp⟩
  · refine ⟨_, cap, rfl, h1, h2, (fun h => by cases h), fun i hi => ⟨g, 0, rfl, ?_⟩⟩
    have h := hown.cellAt i (by omega)
    rw [Nat.zero_add, h]
    simp [bvs, hi]

theorem RB.nil (w : World) : RB w (.slice none 0 0) [] := ⟨none, 0, rfl, by simp, by unfold maxLen; omega, fun _ => rfl, by simp⟩

/-- A part of a slice. -/
theorem RB.sub {w : World} {a : Option Addr} {len cap : Nat} {l : List UInt8} (h : RB w (.slice a len cap) l) (lo hi m : Nat) (h1 : lo ≤ hi) (h2 : hi ≤ l.length) (h3 : hi ≤ m) (h4 : m ≤ cap) :
    RB w (sliced a lo hi m 1) ((l.take hi).drop lo) := by
  obtain ⟨a', cap', he, g1, g2, g3, hc⟩ := h
  simp only [Value.slice.injEq] at he
  obtain ⟨rfl, rfl, rfl⟩ := he
  have hl : ((l.take hi).drop lo).length = hi - lo := by simp; omega
  unfold sliced
  by_cases hm : m = lo
  · rw [if_pos hm]
    refine ⟨a, m - lo, by rw [hl], by rw [hl]; omega, by omega, fun hn => by have := g3 hn; omega, fun i hi2 => ?_⟩
    rw [hl] at hi2
    omega
  · rw [if_neg hm]
    refine ⟨_, m - lo, by rw [hl], by rw [hl]; omega, by omega, fun hn => ?_, fun i hi2 => ?_⟩
    · cases a with
      | none => have := g3 rfl; omega
      | some a => simp at hn
    · rw [hl] at hi2
      obtain ⟨b, off, rfl, hcell⟩ := hc (lo + i) (by omega)
      refine ⟨b, off + lo, ?_, ?_⟩
      · simp [Go.WideShapes.add_plain]
      · rw [Nat.add_assoc, hcell]
        congr 3
        simp only [List.getD_eq_getElem?_getD, List.getElem?_drop, List.getElem?_take]
        rw [if_pos (by omega)]

theorem string_of_RB {w : World} {v : Value} {l : List UInt8} (h : RB w v l) : (convert 34 9 v).run Tryz.prog w = .ok (.string ⟨l.toArray⟩) w := by
  obtain ⟨a, cap, rfl, _, _, h3, hc⟩ := h
  cases a with
  | none =>
    have hl : l = [] := by
      cases l with
      | nil => rfl
      | cons y l =>
        obtain ⟨b, off, hb, _⟩ := hc 0 (by simp)
        cases hb
    subst hl
    exact run_convert_bytes_nil w 34 5 Tryz.underlying34 Tryz.underlying5 _ _ 9 Tryz.underlying9
  | some a =>
    refine run_convert_bytes_back w 34 9 5 _ cap l Tryz.underlying34 Tryz.underlying5 Tryz.underlying9 ?_
    intro j hj
    obtain ⟨b, off, hb, hcell⟩ := hc j hj
    simp only [Option.some.injEq] at hb
    subst hb
    rw [Go.WideShapes.add_plain, hcell]
    simp [hj]

theorem part5 (w : World) (cs : Array Value) (k : Nat) (v : Value) (h : cs[k]? = some v) : (part 5 cs k).run Tryz.prog w = .ok v w := by
  have hi : (isAgg 5).run Tryz.prog w = .ok false w := by kernel_rfl
  simp [part, hi, h]

theorem size5 (w : World) : (sizeOf 5).run Tryz.prog w = .ok 1 w := by kernel_rfl

theorem arr_eq (w : World) (a0 a1 a2 a3 b0 b1 b2 b3 : Int) :
    (Op.equalIn 10000 121 (.agg #[.int .u8 a0, .int .u8 a1, .int .u8 a2, .int .u8 a3]) (.agg #[.int .u8 b0, .int .u8 b1, .int .u8 b2, .int .u8 b3])).run Tryz.prog w = .ok (decide (a0 = b0 ∧ a1 = b1 ∧ a2 = b2 ∧ a3 = b3)) w := by
  have p0 := fun w => part5 w #[.int .u8 a0, .int .u8 a1, .int .u8 a2, .int .u8 a3] 0 _ rfl
  have p1 := fun w => part5 w #[.int .u8 a0, .int .u8 a1, .int .u8 a2, .int .u8 a3] 1 _ rfl
  have p2 := fun w => part5 w #[.int .u8 a0, .int .u8 a1, .int .u8 a2, .int .u8 a3] 2 _ rfl
  have p3 := fun w => part5 w #[.int .u8 a0, .int .u8 a1, .int .u8 a2, .int .u8 a3] 3 _ rfl
  have q0 := fun w => part5 w #[.int .u8 b0, .int .u8 b1, .int .u8 b2, .int .u8 b3] 0 _ rfl
  have q1 := fun w => part5 w #[.int .u8 b0, .int .u8 b1, .int .u8 b2, .int .u8 b3] 1 _ rfl
  have q2 := fun w => part5 w #[.int .u8 b0, .int .u8 b1, .int .u8 b2, .int .u8 b3] 2 _ rfl
  have q3 := fun w => part5 w #[.int .u8 b0, .int .u8 b1, .int .u8 b2, .int .u8 b3] 3 _ rfl
  have hE := fun w a b => run_equalIn_int (P := Tryz.prog) w 9998 5 .u8 .u8 a b Tryz.underlying5
  show (Op.equalIn (9999 + 1) 121 _ _).run Tryz.prog w = _
  unfold Op.equalIn
  simp only [Sem.run_bind, run_underlying Tryz.underlying121, Result.andThen_ok, size5, Nat.mul_one]
  simp only [Std.Legacy.Range.forIn_eq_forIn_range', Std.Legacy.Range.size, Nat.sub_zero, Nat.add_sub_cancel, Nat.div_one, List.range']
  simp [List.forIn_cons, p0, q0, p1, q1, p2, q2, p3, q3, hE]
  clear p0 p1 p2 p3 q0 q1 q2 q3 hE
  by_cases e0 : a0 = b0 <;> by_cases e1 : a1 = b1 <;> by_cases e2 : a2 = b2 <;> by_cases e3 : a3 = b3 <;> simp [e0, e1, e2, e3]

theorem arr_neq (w : World) (a0 a1 a2 a3 b0 b1 b2 b3 : Int) :
    (binOp .neq 121 (.agg #[.int .u8 a0, .int .u8 a1, .int .u8 a2, .int .u8 a3]) (.agg #[.int .u8 b0, .int .u8 b1, .int .u8 b2, .int .u8 b3])).run Tryz.prog w = .ok (.bool (!decide (a0 = b0 ∧ a1 = b1 ∧ a2 = b2 ∧ a3 = b3))) w := by
  rw [run_neq_struct, arr_eq]
  rfl

theorem ret_agg {a b : Value} (h : a = b) : Ending.returned a = .returned b := by rw [h]

/-- The sum as an array of four bytes. -/
def sealV (n : Nat) : Value := .agg #[.int .u8 ((n % 256 : Nat) : Int), .int .u8 ((n / 256 % 256 : Nat) : Int), .int .u8 ((n / 65536 % 256 : Nat) : Int), .int .u8 ((n / 16777216 % 256 : Nat) : Int)]

set_option maxRecDepth 1000000 in
set_option maxHeartbeats 1000000 in
theorem seal_any (x : Value) (l : List UInt8) (w : World) (hx : RB w x l) (hl : l.length ≤ 1000000) :
    Calls Tryz.prog 80 #[x] w fun e w' => e = .returned (sealV (sumP l)) ∧ Below w.heap.size w w' := by
  have HS : Hid (∀ wx, RB wx x l → Calls Tryz.prog 105 #[x] wx fun e w' => e = .returned (.int .u32 (sumP l : Nat)) ∧ w' = wx) := fun wx h => sum_any x l wx h hl
  have hlt := sumP_lt l
  have HX : Hid (RB w x l) := hx
  clear hx
  obtain ⟨n, HN⟩ : ∃ n, Hid (n = sumP l) := ⟨_, rfl⟩
  rw [← HN.out] at hlt HS ⊢
  go_enter Tryz.func80, Tryz.ntmps80
  go_wp2_with (first | (go_at_call 105; refine Calls.mono (HS.out _ (HX.out.later ((Below.refl _ _).alloc (Nat.le_refl _) _))) ?_; rintro e w' ⟨rfl, rfl⟩))
  refine bodyPost_ret_by (results_cell_row rfl _ _ w.heap.size 121 _ (0, 0) _ rfl (heap_alloc_new _ _) Tryz.underlying121 rfl (by kernel_rfl)) rfl ⟨ret_agg ?_, (Below.refl _ _).alloc (Nat.le_refl _) _⟩
  unfold sealV
  have e3 : (n : Int) / 16777216 = ((n / 16777216 % 256 : Nat) : Int) := by omega
  rw [e3]
  rfl

theorem bvs_get {l : List UInt8} {j : Nat} {u : Value} (h : (bvs l)[j]? = some u) : j < l.length ∧ u = .int .u8 ((l.getD j 0).toNat : Nat) := by
  have hj : j < l.length := by
    have := (List.getElem?_eq_some_iff.1 h).1
    simpa [bvs] using this
  refine ⟨hj, ?_⟩
  simp [bvs, hj] at h
  rw [← h]
  simp [hj]

theorem RB.cells {w : World} {x : Addr} {n cap : Nat} {l : List UInt8} (h : RB w (.slice (some x) n cap) l) : n = l.length ∧ ∀ j u, (bvs l)[j]? = some u → w.cell? (x.add j) = some u := by
  obtain ⟨a, ca, he, _, _, _, hc⟩ := h
  simp only [Value.slice.injEq] at he
  obtain ⟨rfl, rfl, rfl⟩ := he
  refine ⟨rfl, fun j u hj => ?_⟩
  obtain ⟨hj2, rfl⟩ := bvs_get hj
  obtain ⟨b, off, hb, hcell⟩ := hc j hj2
  simp only [Option.some.injEq] at hb
  subst hb
  rw [Go.WideShapes.add_plain, hcell]

theorem bvs_one {l : List UInt8} : ∀ u ∈ bvs l, u.oneCell' = true := by
  intro u hu
  obtain ⟨x, _, rfl⟩ := List.mem_map.1 hu
  rfl

/-- Bytes of the call's own, in a block of their own. -/
def OB (B : Nat) (w : World) (g n cap : Nat) (bs : List UInt8) : Prop := w.ownsRow B 5 1 (.slice (some ⟨g, 0, none⟩) n cap) n (bvs bs)

theorem OB.rb {B : Nat} {w : World} {g n cap : Nat} {bs : List UInt8} (h : OB B w g n cap bs) : n = bs.length ∧ RB w (.slice (some ⟨g, 0, none⟩) n cap) bs := by
  have h0 : n = bs.length := by have := h.1; rw [bvs_len] at this; omega
  exact ⟨h0, RB.of_owns h h0⟩

theorem OB.lt {B : Nat} {w : World} {g n cap : Nat} {bs : List UInt8} (h : OB B w g n cap bs) : B ≤ g ∧ g < w.heap.size := World.ownsRow.lt h g rfl

theorem OB.later {B : Nat} {w w' : World} {g n cap : Nat} {bs : List UInt8} (h : OB B w g n cap bs) (hb : Below w.heap.size w w') : OB B w' g n cap bs := by
  refine ⟨h.1, ?_⟩
  rcases h.2 with hn | ⟨g', cap', cur, e1, e2, e3, rest⟩
  · exact .inl hn
  · refine .inr ⟨g', cap', cur, e1, e2, ?_, rest⟩
    rw [hb.block g' (Array.getElem?_eq_some_iff.1 e3).1]
    exact e3

theorem OB.below {B : Nat} {w w' : World} {g n cap : Nat} {bs : List UInt8} (h : OB B w g n cap bs) (hB : B ≤ w.heap.size) (hg : w.grownBy w' (some g)) : Below B w w' :=
  Below.grown (Below.refl _ _) hg hB (fun k hk => by cases hk; exact h.lt.1)

theorem append_bytes {w : World} {ops : Array Oper} {rest : List Oper} {o : Oper} {a : Act} {Q : Exit → Act → World → Prop} (hgd : o.guard = none) (s x : Operand)
    (ho : o.op = .call { callee := .builtin .append, args := #[s, x], argTypes := #[34, 34] }) (base g n cap : Nat) (bs : List UInt8)
    (hs : a.eval s = .slice (some ⟨g, 0, none⟩) n cap) (hown : OB base w g n cap bs) (xv : Value) (l : List UInt8) (hx : a.eval x = xv) (hr : RB w xv l)
    (hn : n ≤ 10000000) (hl : l.length ≤ 1000000) (hbase : base ≤ w.heap.size) (n2 : Nat) (bs2 : List UInt8) (hn2 : n2 = n + l.length) (hbs2 : bs2 = bs ++ l)
    (h : ∀ g' cap' w', OB base w' g' n2 cap' bs2 → w.grownBy w' (some g) → wpList Tryz.prog ops Q rest (a.put o.dst (.slice (some ⟨g', 0, none⟩) n2 cap')) w') : wpList Tryz.prog ops Q (o :: rest) a w := by
  subst hn2 hbs2
  obtain ⟨i0, hi, hz0, hz1, hz2⟩ := info_parts Tryz.info5
  have hr2 := hr
  obtain ⟨ad, cp, rfl, _, _, hnone, hc⟩ := hr
  cases ad with
  | none =>
    have h0 := hnone rfl
    subst h0
    have hl0 : l = [] := by
      cases l with
      | nil => rfl
      | cons y l =>
        obtain ⟨b, off, hb, _⟩ := hc 0 (by simp)
        cases hb
    subst hl0
    refine wpList_append_own_none hgd s x 34 ho base 5 i0 1 Tryz.underlying34 hi _ n _ hs hown hx ?_
    have := h g cap w (by rw [List.append_nil]; exact hown) ⟨rfl, rfl, rfl, Nat.le_refl _, fun _ _ _ => rfl⟩
    simpa using this
  | some ad =>
    refine wpList_append_own _ hgd s x 34 ho base 5 i0 (.int .u8 0) 1 1 Tryz.underlying34 hi hz0 hz1 hz2 rfl (by decide) _ n _ hs hown ad l.length cp (bvs l) hx (by rw [bvs_len]; omega) hr2.cells.2 bvs_one (by unfold maxLen; omega) (by omega) hbase ?_
    intro v' w' h1 h2 h3
    rcases h1.2 with ⟨rfl, h5⟩ | ⟨g', cap', cur, rfl, hrest⟩
    · have h6 := h3.1 rfl
      simp at h6
    · exact h g' cap' w' (by unfold OB; rw [bvs_append]; exact h1) h2

/-- A slice of no bytes, made anew. -/
theorem OB.made (w : World) (cap : Nat) (cur : Array Value) (hm : cap ≤ maxLen) (hs : cur.size = cap) : OB w.heap.size (w.alloc (.cells cur 5)) w.heap.size 0 cap [] :=
  World.ownsRow_made w cur cap (Nat.le_refl _) hm (by rw [hs, Nat.mul_one])

set_option maxRecDepth 1000000 in
set_option maxHeartbeats 1000000 in
theorem clone_any (x : Value) (l : List UInt8) (w : World) (hx : RB w x l) (hl : l.length ≤ 1000000) :
    Calls Tryz.prog 72 #[x] w fun e w' => ∃ v, e = .returned v ∧ w'.ownsRow w.heap.size 5 1 v l.length (bvs l) ∧ Below w.heap.size w w' := by
  have HX : Hid (RB w x l) := hx
  obtain ⟨a, cap, rfl, _, _, h3, hr⟩ := hx
  cases a with
  | none =>
    have hl0 : l = [] := by
      cases l with
      | nil => rfl
      | cons x l =>
        obtain ⟨b, off, h9, _⟩ := hr 0 (by simp)
        cases h9
    subst hl0
    have h0 := h3 rfl
    subst h0
    have hE : ∀ w, (binOp .eql 34 (.slice none 0 0) (.slice none 0 0)).run Tryz.prog w = .ok (.bool true) w := fun w => Lib.run_eql_slice_nil w 34 5 none 0 0 0 0 Tryz.underlying34
    have HO : Hid (w.ownsRow w.heap.size 5 1 (.slice none 0 0) 0 []) := World.ownsRow_nil _ _ _ _
    clear HX hr h3
    go_enter Tryz.func72, Tryz.ntmps72
    go_wp2_with fail
    go_ret
    exact ⟨_, rfl, HO.out, Below.refl _ _⟩
  | some ad =>
    have hE : ∀ w, (binOp .eql 34 (.slice (some ad) l.length cap) (.slice none 0 0)).run Tryz.prog w = .ok (.bool false) w := fun w => Lib.run_eql_slice_nil w 34 5 (some ad) l.length cap 0 0 Tryz.underlying34
    have HB : Hid (Below w.heap.size w (w.alloc (.cells #[] 5))) := (Below.refl _ _).alloc (Nat.le_refl _) _
    have HOwn : Hid (OB w.heap.size (w.alloc (.cells #[] 5)) w.heap.size 0 0 []) := OB.made w 0 #[] (Nat.zero_le _) rfl
    have HR : Hid (RB (w.alloc (.cells #[] 5)) (.slice (some ad) l.length cap) l) := HX.out.later HB.out
    clear HX hr h3
    go_enter Tryz.func72, Tryz.ntmps72
    go_wp2_with (at_builtin; refine append_bytes rfl _ _ rfl w.heap.size w.heap.size 0 0 [] rfl HOwn.out _ l rfl HR.out (by omega) hl (by simp) l.length l (by omega) rfl ?_; intro g7 c7 w7 ho7 hg7)
    go_ret
    have hb7 : Below w.heap.size w w7 := HB.out.trans (HOwn.out.below (by simp) hg7)
    exact ⟨_, rfl, ho7, hb7⟩
end Go.Proofs.YtijkgdbabikojaaGreat.Fr

