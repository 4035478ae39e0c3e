/- Plain facts: the sum of bytes, one bit at a time; it is linear, and no bit that is turned alone, or with others within 32, leaves it as it was. -/
namespace Go.Proofs.Ytnekaflanaleeaa

def poly : Nat := 2197175160

/-- The register one place down. -/
def sh (r : Nat) : Nat := r / 2 ^^^ (if r % 2 = 1 then poly else 0)

/-- The register so many places down. -/
def shN : Nat → Nat → Nat
  | 0, r => r
  | k + 1, r => shN k (sh r)

/-- The register behind bytes. -/
def reg (r : Nat) (l : List UInt8) : Nat := l.foldl (fun r c => shN 8 (r ^^^ c.toNat)) r

/-- The sum. -/
def sumP (l : List UInt8) : Nat := reg 4294967295 l ^^^ 4294967295

theorem sh_lt {r : Nat} (h : r < 4294967296) : sh r < 4294967296 := by
  have h1 : r / 2 < 2 ^ 32 := by omega
  have h2 : (if r % 2 = 1 then poly else 0) < 2 ^ 32 := by split <;> decide
  exact Nat.xor_lt_two_pow h1 h2

theorem shN_lt : ∀ (k : Nat) {r : Nat}, r < 4294967296 → shN k r < 4294967296
  | 0, _, h => h
  | k + 1, _, h => shN_lt k (sh_lt h)

theorem byte_lt (c : UInt8) : c.toNat < 256 := UInt8.toNat_lt c

theorem xor32 {a b : Nat} (ha : a < 4294967296) (hb : b < 4294967296) : a ^^^ b < 4294967296 :=
  Nat.xor_lt_two_pow (n := 32) ha hb

theorem reg_nil (r : Nat) : reg r [] = r := rfl
theorem reg_cons (r : Nat) (c : UInt8) (l : List UInt8) : reg r (c :: l) = reg (shN 8 (r ^^^ c.toNat)) l := rfl
theorem reg_append (r : Nat) (a b : List UInt8) : reg r (a ++ b) = reg (reg r a) b := by simp [reg]

theorem reg_lt : ∀ (l : List UInt8) {r : Nat}, r < 4294967296 → reg r l < 4294967296
  | [], _, h => h
  | c :: l, _, h => by
    rw [reg_cons]
    exact reg_lt l (shN_lt 8 (xor32 h (by have := byte_lt c; omega)))

theorem sumP_lt (l : List UInt8) : sumP l < 4294967296 := xor32 (reg_lt l (by decide)) (by decide)

theorem half_xor (a b : Nat) : (a ^^^ b) / 2 = a / 2 ^^^ b / 2 := by
  have := Nat.shiftRight_xor_distrib (a := a) (b := b) (i := 1)
  simpa [Nat.shiftRight_eq_div_pow] using this

theorem odd_bit (a : Nat) : (a % 2 = 1) ↔ a.testBit 0 = true := by simp [Nat.testBit_zero]

theorem sh_xor (a b : Nat) : sh (a ^^^ b) = sh a ^^^ sh b := by
  have ho : ((a ^^^ b) % 2 = 1) ↔ ¬ ((a % 2 = 1) ↔ (b % 2 = 1)) := by
    rw [odd_bit, odd_bit, odd_bit, Nat.testBit_xor]
    cases a.testBit 0 <;> cases b.testBit 0 <;> simp
  unfold sh
  rw [half_xor]
  by_cases h1 : a % 2 = 1 <;> by_cases h2 : b % 2 = 1
  · have : ¬ (a ^^^ b) % 2 = 1 := by rw [ho]; simp [h1, h2]
    rw [if_neg this, if_pos h1, if_pos h2]
    have e : (a / 2 ^^^ poly) ^^^ (b / 2 ^^^ poly) = (a / 2 ^^^ b / 2) ^^^ (poly ^^^ poly) := by ac_rfl
    rw [e, Nat.xor_self]
  · have : (a ^^^ b) % 2 = 1 := by rw [ho]; simp [h1, h2]
    rw [if_pos this, if_pos h1, if_neg h2]
    simp only [Nat.xor_zero]
    ac_rfl
  · have : (a ^^^ b) % 2 = 1 := by rw [ho]; simp [h1, h2]
    rw [if_pos this, if_neg h1, if_pos h2]
    simp only [Nat.xor_zero]
    ac_rfl
  · have : ¬ (a ^^^ b) % 2 = 1 := by rw [ho]; simp [h1, h2]
    rw [if_neg this, if_neg h1, if_neg h2]
    simp only [Nat.xor_zero]

theorem shN_xor : ∀ (k a b : Nat), shN k (a ^^^ b) = shN k a ^^^ shN k b
  | 0, _, _ => rfl
  | k + 1, a, b => by
    show shN k (sh (a ^^^ b)) = _
    rw [sh_xor, shN_xor k]
    rfl

theorem sh_zero : sh 0 = 0 := rfl

theorem shN_zero : ∀ k, shN k 0 = 0
  | 0 => rfl
  | k + 1 => by show shN k (sh 0) = 0; rw [sh_zero, shN_zero k]

theorem shN_add : ∀ (j k r : Nat), shN (j + k) r = shN k (shN j r)
  | 0, k, r => by rw [Nat.zero_add]; rfl
  | j + 1, k, r => by
    rw [show j + 1 + k = (j + k) + 1 by omega]
    show shN (j + k) (sh r) = shN k (shN j (sh r))
    exact shN_add j k (sh r)

theorem sh_ne {a : Nat} (h : a < 4294967296) (h0 : a ≠ 0) : sh a ≠ 0 := by
  intro he
  unfold sh at he
  by_cases h1 : a % 2 = 1
  · rw [if_pos h1] at he
    have e2 : a / 2 = poly := by
      have h3 : (a / 2 ^^^ poly) ^^^ poly = 0 ^^^ poly := by rw [he]
      rw [Nat.xor_assoc, Nat.xor_self, Nat.xor_zero, Nat.zero_xor] at h3
      exact h3
    unfold poly at e2
    omega
  · rw [if_neg h1, Nat.xor_zero] at he
    omega

theorem shN_ne : ∀ (k : Nat) {a : Nat}, a < 4294967296 → a ≠ 0 → shN k a ≠ 0
  | 0, _, _, h0 => h0
  | k + 1, _, h, h0 => shN_ne k (sh_lt h) (sh_ne h h0)

theorem shN_pow : ∀ (i : Nat), shN i (2 ^ i) = 1
  | 0 => rfl
  | i + 1 => by
    show shN i (sh (2 ^ (i + 1))) = 1
    have h : sh (2 ^ (i + 1)) = 2 ^ i := by
      unfold sh
      rw [if_neg (by rw [Nat.pow_succ]; omega), Nat.xor_zero, Nat.pow_succ, Nat.mul_div_cancel _ (by decide)]
    rw [h, shN_pow i]

theorem reg_xor (b : Nat) : ∀ (l : List UInt8) (a : Nat), reg (a ^^^ b) l = reg a l ^^^ shN (8 * l.length) b
  | [], _ => rfl
  | c :: l, a => by
    rw [reg_cons, reg_cons]
    have e : a ^^^ b ^^^ c.toNat = (a ^^^ c.toNat) ^^^ b := by ac_rfl
    rw [e, shN_xor, reg_xor _ l, ← shN_add]
    rw [show 8 + 8 * l.length = 8 * (c :: l).length by simp; omega]

/-- Of bytes one bit turned. -/
def flip (l : List UInt8) (k : Nat) : List UInt8 := l.modify (k / 8) fun c => c ^^^ UInt8.ofNat (2 ^ (k % 8))

theorem flip_len (l : List UInt8) (k : Nat) : (flip l k).length = l.length := by simp [flip]

theorem pow8_lt {t : Nat} (h : t < 8) : 2 ^ t < 256 := by
  have : 2 ^ t < 2 ^ 8 := Nat.pow_lt_pow_right (by decide) h
  simpa using this

theorem flip_byte (c : UInt8) {t : Nat} (h : t < 8) : (c ^^^ UInt8.ofNat (2 ^ t)).toNat = c.toNat ^^^ 2 ^ t := by
  rw [UInt8.toNat_xor, UInt8.toNat_ofNat']
  rw [Nat.mod_eq_of_lt (by simpa using pow8_lt h)]

theorem reg_flip : ∀ (l : List UInt8) (r k : Nat), k < 8 * l.length → reg r (flip l k) = reg r l ^^^ shN (8 * l.length - k) 1
  | [], _, _, h => by simp at h
  | c :: l, r, k, h => by
    by_cases hk : k < 8
    · have h0 : k / 8 = 0 := by omega
      have e1 : flip (c :: l) k = (c ^^^ UInt8.ofNat (2 ^ (k % 8))) :: l := by simp [flip, h0]
      rw [e1, reg_cons, reg_cons, flip_byte c (by omega), Nat.mod_eq_of_lt hk, ← Nat.xor_assoc, shN_xor, reg_xor, ← shN_add]
      rw [show 8 + 8 * l.length = k + (8 * (c :: l).length - k) by simp; omega, shN_add, shN_pow]
    · have h0 : k / 8 = (k - 8) / 8 + 1 := by omega
      have h1 : k % 8 = (k - 8) % 8 := by omega
      have e1 : flip (c :: l) k = c :: flip l (k - 8) := by simp [flip, h0, h1]
      simp only [List.length_cons] at h
      rw [e1, reg_cons, reg_cons, reg_flip l _ (k - 8) (by omega)]
      rw [show 8 * l.length - (k - 8) = 8 * (c :: l).length - k by simp; omega]

theorem mod_bit (m i : Nat) : m % 2 ^ (i + 1) = m % 2 ^ i ^^^ (if m / 2 ^ i % 2 = 1 then 2 ^ i else 0) := by
  apply Nat.eq_of_testBit_eq
  intro j
  rw [Nat.testBit_xor, Nat.testBit_mod_two_pow, Nat.testBit_mod_two_pow]
  have hb : (m / 2 ^ i % 2 = 1) ↔ m.testBit i = true := by
    rw [Nat.testBit_eq_decide_div_mod_eq]
    simp
  by_cases h : m / 2 ^ i % 2 = 1
  · rw [if_pos h, Nat.testBit_two_pow]
    have h2 := hb.1 h
    by_cases hj : i = j
    · subst hj; simp [h2]
    · by_cases h3 : j < i
      · have h4 : j < i + 1 := by omega
        simp [h3, h4, hj]
      · have h4 : ¬ j < i + 1 := by omega
        simp [h3, h4, hj]
  · rw [if_neg h, Nat.zero_testBit]
    have h2 : m.testBit i = false := by
      cases hm : m.testBit i with
      | false => rfl
      | true => exact absurd (hb.2 hm) h
    by_cases hj : i = j
    · subst hj; simp [h2]
    · by_cases h3 : j < i
      · have h4 : j < i + 1 := by omega
        simp [h3, h4]
      · have h4 : ¬ j < i + 1 := by omega
        simp [h3, h4]

/-- Bytes of which the bits of a mask, from a place on, were turned: the first i of them. -/
def flips (l : List UInt8) (first mask : Nat) : Nat → List UInt8
  | 0 => l
  | i + 1 => if mask / 2 ^ i % 2 = 1 then flip (flips l first mask i) (first + i) else flips l first mask i

theorem flips_len (l : List UInt8) (first mask : Nat) : ∀ i, (flips l first mask i).length = l.length
  | 0 => rfl
  | i + 1 => by
    unfold flips
    split
    · rw [flip_len, flips_len l first mask i]
    · exact flips_len l first mask i

theorem reg_flips (l : List UInt8) (first mask r : Nat) : ∀ i, first + i ≤ 8 * l.length → reg r (flips l first mask i) = reg r l ^^^ shN (8 * l.length - first) (mask % 2 ^ i)
  | 0, _ => by
    show reg r l = _
    rw [Nat.pow_zero, Nat.mod_one, shN_zero, Nat.xor_zero]
  | i + 1, h => by
    have ih := reg_flips l first mask r i (by omega)
    rw [mod_bit mask i, shN_xor]
    unfold flips
    split
    · rw [reg_flip _ r _ (by rw [flips_len]; omega), flips_len, ih, Nat.xor_assoc]
      rw [show 8 * l.length - first = i + (8 * l.length - (first + i)) by omega, shN_add i _ (2 ^ i), shN_pow]
    · rw [ih, shN_zero, Nat.xor_zero]

/-- A sum of which bits within 32 bits were turned is another one. -/
theorem sum_turned (h l : List UInt8) (first mask i : Nat) (hi : first + i ≤ 8 * l.length) (h32 : i ≤ 32) (hm : mask % 2 ^ i ≠ 0) : sumP (h ++ flips l first mask i) ≠ sumP (h ++ l) := by
  intro he
  unfold sumP at he
  rw [reg_append, reg_append] at he
  rw [reg_flips l first mask _ i hi] at he
  have hx : ∀ a b c : Nat, (a ^^^ b) ^^^ c = a ^^^ c → b = 0 := by
    intro a b c hh
    have h1 : a ^^^ ((a ^^^ b) ^^^ c) ^^^ c = a ^^^ (a ^^^ c) ^^^ c := by rw [hh]
    have e1 : a ^^^ ((a ^^^ b) ^^^ c) ^^^ c = (a ^^^ a) ^^^ (c ^^^ c) ^^^ b := by ac_rfl
    have e2 : a ^^^ (a ^^^ c) ^^^ c = (a ^^^ a) ^^^ (c ^^^ c) := by ac_rfl
    rw [e1, e2] at h1
    simpa [Nat.xor_self] using h1
  have h0 := hx _ _ _ he
  refine shN_ne _ ?_ hm h0
  have h1 : mask % 2 ^ i < 2 ^ i := Nat.mod_lt _ (Nat.two_pow_pos i)
  have h2 : 2 ^ i ≤ 2 ^ 32 := Nat.pow_le_pow_right (by decide) h32
  have h3 : (2 : Nat) ^ 32 = 4294967296 := by decide
  omega
end Go.Proofs.Ytnekaflanaleeaa
