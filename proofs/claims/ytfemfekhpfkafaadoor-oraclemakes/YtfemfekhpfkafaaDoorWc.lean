/- The walk over wire.first: the number at the front of bytes. -/
import Derived.Test.YtfemfekhpfkafaaDoorWa
import Derived.WalkMore
namespace Go.Proofs.YtfemfekhpfkafaaDoor

open Go.RowKit

set_option linter.unusedVariables false

theorem longs_stop : ∀ (l : List UInt8) (k : Nat), k ≤ longs l → k < l.length → (l.getD k 0).toNat < 128 → longs l = k
  | [], k, _, h, _ => by simp at h
  | c :: l, 0, _, _, h => by
    have h1 : ¬ 128 ≤ c.toNat := by have : c.toNat < 128 := h; omega
    rw [longs, if_neg h1]
  | c :: l, k + 1, hk, hl, h => by
    by_cases h1 : 128 ≤ c.toNat
    · rw [longs, if_pos h1] at hk ⊢
      rw [List.getD_cons_succ] at h
      have := longs_stop l k (by omega) (by simpa using hl) h
      omega
    · rw [longs, if_neg h1] at hk; omega

theorem val_take : ∀ (l : List UInt8) (k : Nat), k < l.length → val (l.take (k + 1)) = val (l.take k) + (l.getD k 0).toNat % 128 * 128 ^ k
  | [], k, h => by simp at h
  | c :: l, 0, _ => by
    show c.toNat % 128 + 128 * val (l.take 0) = 0 + c.toNat % 128 * 128 ^ 0
    rw [List.take_zero]
    show c.toNat % 128 + 128 * 0 = _
    omega
  | c :: l, k + 1, h => by
    have ih := val_take l k (by simpa using h)
    rw [List.getD_cons_succ, List.take_succ_cons, List.take_succ_cons]
    show c.toNat % 128 + 128 * val (l.take (k + 1)) = c.toNat % 128 + 128 * val (l.take k) + _
    rw [ih, Nat.pow_succ, ← Nat.mul_assoc, Nat.mul_add]
    omega

theorem val_lt : ∀ (l : List UInt8), val l < 128 ^ l.length
  | [] => by simp [val]
  | c :: l => by
    have := val_lt l
    rw [List.length_cons, Nat.pow_succ]
    show c.toNat % 128 + 128 * val l < _
    omega

/-- Six bytes at most: what the loop knows. -/
def Fi (l : List UInt8) (k q : Nat) : Prop := k ≤ longs l ∧ q = val (l.take k) ∧ q < 128 ^ k

theorem Fi.zero (l : List UInt8) : Fi l 0 0 := ⟨Nat.zero_le _, by simp [val], by simp⟩

theorem Fi.last {l : List UInt8} {k q c : Nat} (h : Fi l k q) (h6 : k < 6) (hk : k < l.length) (hc : c = (l.getD k 0).toNat) (h8 : c < 128) :
    q + c * 128 ^ k < 128 ^ (k + 1) ∧ numP l = if (c = 0 ∧ 0 < k) ∨ 1099511627776 < q + c * 128 ^ k then (0, 0, 4) else (q + c * 128 ^ k, k + 1, 0) := by
  obtain ⟨h1, h2, h3⟩ := h
  subst hc
  have hL := longs_stop l k h1 hk h8
  have hv := val_take l k hk
  rw [Nat.mod_eq_of_lt h8, ← h2] at hv
  refine ⟨?_, ?_⟩
  · rw [← hv]
    have := val_lt (l.take (k + 1))
    rw [List.length_take, Nat.min_eq_left (by omega)] at this
    exact this
  · unfold numP
    rw [hL, if_neg (by omega), if_neg (by omega), hv]

end Go.Proofs.YtfemfekhpfkafaaDoor
