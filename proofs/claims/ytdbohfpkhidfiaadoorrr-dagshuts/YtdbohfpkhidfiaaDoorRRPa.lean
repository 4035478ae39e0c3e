/- Sets of nodes as bits of one number (plain words; no program is named). -/
import Derived.Laws.Bits64b
import Derived.Lib.TrailingZeros
namespace Go.Proofs.YtdbohfpkhidfiaaDoorRR

/-- Those of a that are not in b. -/
def dif (a b : Nat) : Nat := a ^^^ (a &&& b)

theorem dif_bit (a b i : Nat) : (dif a b).testBit i = (a.testBit i && !b.testBit i) := by
  simp only [dif, Nat.testBit_xor, Nat.testBit_and]
  cases a.testBit i <;> cases b.testBit i <;> rfl

theorem eq_zero {a : Nat} (h : ∀ i, a.testBit i = false) : a = 0 := Nat.eq_of_testBit_eq (fun i => by rw [h i, Nat.zero_testBit])

theorem dif_zero {a b : Nat} : dif a b = 0 ↔ ∀ i, a.testBit i = true → b.testBit i = true := by
  constructor
  · intro h i ha
    have := dif_bit a b i
    rw [h, Nat.zero_testBit, ha] at this
    cases hb : b.testBit i with
    | true => rfl
    | false => rw [hb] at this; cases this
  · intro h
    refine eq_zero fun i => ?_
    rw [dif_bit]
    cases ha : a.testBit i with
    | false => rfl
    | true => rw [h i ha]; rfl

theorem bit_lt {a i : Nat} (ha : a < 18446744073709551616) (h : a.testBit i = true) : i < 64 := by
  rcases Nat.lt_or_ge i 64 with h1 | h1
  · exact h1
  · have h3 : 2 ^ 64 ≤ 2 ^ i := Nat.pow_le_pow_right (by decide) h1
    have : a.testBit i = false := Nat.testBit_lt_two_pow (by omega)
    rw [this] at h
    cases h

theorem dif_lt {a b : Nat} (ha : a < 18446744073709551616) : dif a b < 18446744073709551616 := by
  have : dif a b < 2 ^ 64 := by
    refine Nat.lt_pow_two_of_testBit _ fun i hi => ?_
    rw [dif_bit]
    have h3 : 2 ^ 64 ≤ 2 ^ i := Nat.pow_le_pow_right (by decide) hi
    rw [Nat.testBit_lt_two_pow (show a < 2 ^ i by omega)]
    rfl
  omega

theorem bits_andNot_u64_nat (a b : Nat) (ha : a < 18446744073709551616) (hb : b < 18446744073709551616) :
    bits .andNot .u64 (a : Int) (b : Int) = ((dif a b : Nat) : Int) := by
  have h1 : (BitVec.ofInt 64 (a : Int)).toNat = a := by
    rw [BitVec.ofInt_natCast, BitVec.toNat_ofNat]; exact Nat.mod_eq_of_lt (by omega)
  have h2 : (BitVec.ofInt 64 (b : Int)).toNat = b := by
    rw [BitVec.ofInt_natCast, BitVec.toNat_ofNat]; exact Nat.mod_eq_of_lt (by omega)
  have h3 : a &&& (2 ^ 64 - 1 - b) = dif a b := by
    apply Nat.eq_of_testBit_eq
    intro i
    rw [Nat.testBit_and, dif_bit, show 2 ^ 64 - 1 - b = 2 ^ 64 - (b + 1) by omega, Nat.testBit_two_pow_sub_succ (by omega)]
    cases hi : a.testBit i with
    | false => rfl
    | true => simp [bit_lt ha hi]
  have h4 := dif_lt (b := b) ha
  show IntKind.u64.wrap ((BitVec.ofInt 64 (a : Int) &&& ~~~ BitVec.ofInt 64 (b : Int)).toNat : Int) = _
  rw [BitVec.toNat_and, BitVec.toNat_not, h1, h2, h3, IntKind.wrap_u64]
  omega

/-- The least one. -/
def low (x : Nat) : Nat := Lib.ctz 64 x

theorem low_form {x : Nat} (h0 : x ≠ 0) (hx : x < 18446744073709551616) : ∃ m, x = 2 ^ low x * (2 * m + 1) ∧ low x < 64 := by
  unfold low Lib.ctz
  rw [if_neg h0]
  exact Lib.ctzFrom_spec 64 x (by omega) (by omega)

theorem low_bit {x : Nat} (h0 : x ≠ 0) (hx : x < 18446744073709551616) : x.testBit (low x) = true ∧ (∀ i, i < low x → x.testBit i = false) ∧ low x < 64 := by
  obtain ⟨m, hm, hk⟩ := low_form h0 hx
  generalize low x = k at *
  refine ⟨?_, fun i hi => ?_, hk⟩
  · rw [hm, Nat.mul_comm, Nat.testBit_mul_two_pow]
    simp
  · rw [hm, Nat.mul_comm, Nat.testBit_mul_two_pow]
    simp
    omega

/-- Without the least one. -/
theorem drop_low {x : Nat} (h0 : x ≠ 0) (hx : x < 18446744073709551616) (i : Nat) : (x &&& (x - 1)).testBit i = (x.testBit i && decide (i ≠ low x)) := by
  obtain ⟨h1, h2, h3⟩ := low_bit h0 hx
  obtain ⟨m, hm, _⟩ := low_form h0 hx
  rw [Nat.testBit_and]
  generalize low x = k at *
  rcases Nat.lt_trichotomy i k with hi | hi | hi
  · rw [h2 i hi]; rfl
  · subst hi
    have hp : 0 < 2 ^ i := Nat.two_pow_pos i
    have e : x - 1 = 2 * m * 2 ^ i + (2 ^ i - 1) := by rw [hm, Nat.mul_add, Nat.mul_comm (2 ^ i) (2 * m)]; omega
    have : (x - 1).testBit i = false := by
      rw [Nat.testBit_eq_decide_div_mod_eq, e]
      have : (2 * m * 2 ^ i + (2 ^ i - 1)) / 2 ^ i = 2 * m := by
        rw [Nat.mul_comm, Nat.mul_add_div hp, Nat.div_eq_of_lt (by omega), Nat.add_zero]
      rw [this]
      simp
    rw [this]
    simp
  · have hp : 0 < 2 ^ (k + 1) := Nat.two_pow_pos _
    have e1 : x / 2 ^ (k + 1) = m := by
      rw [hm, show 2 ^ k * (2 * m + 1) = 2 ^ (k + 1) * m + 2 ^ k by rw [Nat.pow_succ, Nat.mul_add, Nat.mul_assoc]; omega, Nat.mul_add_div hp, Nat.div_eq_of_lt (by rw [Nat.pow_succ]; have := Nat.two_pow_pos k; omega), Nat.add_zero]
    have e2 : (x - 1) / 2 ^ (k + 1) = m := by
      have hk : 0 < 2 ^ k := Nat.two_pow_pos k
      rw [hm, show 2 ^ k * (2 * m + 1) - 1 = 2 ^ (k + 1) * m + (2 ^ k - 1) by rw [Nat.pow_succ, Nat.mul_add, Nat.mul_assoc]; omega, Nat.mul_add_div hp, Nat.div_eq_of_lt (by rw [Nat.pow_succ]; omega), Nat.add_zero]
    have e3 : (x - 1).testBit i = x.testBit i := by
      obtain ⟨j, rfl⟩ : ∃ j, i = (k + 1) + j := ⟨i - (k + 1), by omega⟩
      rw [Nat.testBit_eq_decide_div_mod_eq, Nat.testBit_eq_decide_div_mod_eq, Nat.pow_add, ← Nat.div_div_eq_div_mul, ← Nat.div_div_eq_div_mul, e1, e2]
    rw [e3]
    have : decide (i ≠ k) = true := by simp; omega
    rw [this]
    cases x.testBit i <;> rfl

/-- The nodes of a set, rising. -/
def bitsOf (s : Nat) : List Nat := (List.range 64).filter fun i => s.testBit i

theorem mem_bitsOf {s i : Nat} (hs : s < 18446744073709551616) : i ∈ bitsOf s ↔ s.testBit i = true := by
  unfold bitsOf
  rw [List.mem_filter, List.mem_range]
  exact ⟨fun h => h.2, fun h => ⟨bit_lt hs h, h⟩⟩

theorem bitsOf_zero : bitsOf 0 = [] := by simp [bitsOf]

theorem bitsOf_len (s : Nat) : (bitsOf s).length ≤ 64 := by
  have := List.length_filter_le (fun i => s.testBit i) (List.range 64)
  simpa [bitsOf] using this

theorem range_at (k : Nat) (h : k < 64) : List.range 64 = List.range k ++ (k :: List.range' (k + 1) (63 - k)) := by
  rw [List.range_eq_range', List.range_eq_range']
  have h1 : List.range' 0 64 = List.range' 0 k ++ List.range' (0 + k) (64 - k) := by
    rw [List.range'_append_1]
    congr 1
    omega
  rw [h1, Nat.zero_add, show 64 - k = (63 - k) + 1 by omega, List.range'_succ]

theorem bitsOf_step {s : Nat} (h0 : s ≠ 0) (hs : s < 18446744073709551616) : bitsOf s = low s :: bitsOf (s &&& (s - 1)) := by
  obtain ⟨h1, h2, h3⟩ := low_bit h0 hs
  have hd := drop_low h0 hs
  unfold bitsOf
  generalize low s = k at *
  rw [range_at k h3, List.filter_append, List.filter_append, List.filter_cons, List.filter_cons]
  have e1 : (List.range k).filter (fun i => s.testBit i) = [] := by
    rw [List.filter_eq_nil_iff]
    intro i hi
    rw [h2 i (List.mem_range.1 hi)]
    decide
  have e2 : (List.range k).filter (fun i => (s &&& (s - 1)).testBit i) = [] := by
    rw [List.filter_eq_nil_iff]
    intro i hi
    rw [hd, h2 i (List.mem_range.1 hi)]
    simp
  have e3 : (List.range' (k + 1) (63 - k)).filter (fun i => (s &&& (s - 1)).testBit i) = (List.range' (k + 1) (63 - k)).filter (fun i => s.testBit i) := by
    apply List.filter_congr
    intro i hi
    rw [List.mem_range'_1] at hi
    rw [hd]
    have : decide (i ≠ k) = true := by simp; omega
    rw [this, Bool.and_true]
  have e4 : (s &&& (s - 1)).testBit k = false := by rw [hd]; simp
  rw [e1, e2, e3, h1, e4]
  simp

theorem sub_lt64 {s : Nat} (hs : s < 18446744073709551616) : s &&& (s - 1) < 18446744073709551616 := by
  have : s &&& (s - 1) < 2 ^ 64 := Nat.and_lt_two_pow _ (by omega)
  omega

theorem or_bit (a k i : Nat) : (a ||| 2 ^ k).testBit i = (a.testBit i || decide (i = k)) := by
  rw [Nat.testBit_or, Nat.testBit_two_pow]
  congr 1
  exact decide_eq_decide.2 ⟨fun h => h.symm, fun h => h.symm⟩

theorem or_lt {a b : Nat} (ha : a < 18446744073709551616) (hb : b < 18446744073709551616) : a ||| b < 18446744073709551616 := by
  have : a ||| b < 2 ^ 64 := Nat.or_lt_two_pow (by omega) (by omega)
  omega

theorem two_lt {k : Nat} (h : k < 64) : 2 ^ k < 18446744073709551616 := by
  have : 2 ^ k < 2 ^ 64 := Nat.pow_lt_pow_right (by decide) h
  omega

/-- Of the first k nodes those that lean on none but those. -/
def freeTo (W : List Nat) (those : Nat) : Nat → Nat
  | 0 => 0
  | k + 1 => if dif (W.getD k 0) those = 0 then freeTo W those k ||| 2 ^ k else freeTo W those k

theorem freeTo_bit (W : List Nat) (those : Nat) : ∀ k i, (freeTo W those k).testBit i = (decide (i < k) && decide (dif (W.getD i 0) those = 0)) := by
  intro k
  induction k with
  | zero => intro i; simp [freeTo]
  | succ k ih =>
    intro i
    unfold freeTo
    split
    · rename_i h
      rw [or_bit, ih]
      by_cases hi : i = k
      · subst hi
        rw [decide_eq_true h]
        simp
      · have : decide (i < k + 1) = decide (i < k) := by simp; omega
        rw [this]
        simp [hi]
    · rename_i h
      rw [ih]
      by_cases hi : i = k
      · subst hi
        rw [decide_eq_false h]
        simp
      · have : decide (i < k + 1) = decide (i < k) := by simp; omega
        rw [this]

theorem freeTo_lt (W : List Nat) (those : Nat) (k : Nat) (hk : k ≤ 64) : freeTo W those k < 18446744073709551616 := by
  have : freeTo W those k < 2 ^ 64 := by
    refine Nat.lt_pow_two_of_testBit _ fun i hi => ?_
    rw [freeTo_bit]
    have : decide (i < k) = false := by simp; omega
    rw [this]
    rfl
  omega
end Go.Proofs.YtdbohfpkhidfiaaDoorRR
