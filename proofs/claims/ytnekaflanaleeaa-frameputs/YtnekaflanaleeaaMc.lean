/- Plain facts: a frame held against its body's frame is opened or not as its sum says. -/
import Derived.Test.YtnekaflanaleeaaMb
namespace Go.Proofs.Ytnekaflanaleeaa

theorem ofNat_byte (c : UInt8) (n : Nat) (h : n % 256 = c.toNat) : UInt8.ofNat n = c := by
  apply UInt8.toNat_inj.1
  rw [u8_nat, h]

theorem hd2_of (d : List UInt8) (hd : 2 ≤ d.length) : hd2 (num2 d) = d.take 2 := by
  match d, hd with
  | c0 :: c1 :: t, _ =>
    have h0 := byte_lt c0
    have h1 := byte_lt c1
    simp only [num2, List.getD_cons_zero, List.getD_cons_succ, hd2, List.take_succ_cons, List.take_zero]
    rw [ofNat_byte c0 _ (by omega), ofNat_byte c1 _ (by omega)]

theorem frame_is (d : List UInt8) (n : Nat) (hn : num2 d = n) (hd : n + 6 ≤ d.length) : (frameP ((d.take (n + 2)).drop 2) == d.take (n + 6)) = openP (d.take (n + 6)) := by
  have hsl : ((d.take (n + 2)).drop 2).length = n := by rw [List.length_drop, List.length_take]; omega
  have hhd : hd2 n ++ (d.take (n + 2)).drop 2 = d.take (n + 2) := by
    rw [← hn, hd2_of d (by omega), hn]
    have := List.take_append_drop 2 (d.take (n + 2))
    rw [List.take_take, Nat.min_eq_left (by omega)] at this
    exact this
  have hfl : (d.take (n + 6)).length = n + 6 := by rw [List.length_take]; omega
  unfold openP frameP
  rw [hsl, hhd, hfl, show n + 6 - 4 = n + 2 by omega, List.take_take, Nat.min_eq_left (by omega)]
  have e : d.take (n + 6) = d.take (n + 2) ++ (d.take (n + 6)).drop (n + 2) := by
    have := List.take_append_drop (n + 2) (d.take (n + 6))
    rw [List.take_take, Nat.min_eq_left (by omega)] at this
    exact this.symm
  rw [Bool.eq_iff_iff, beq_iff_eq, beq_iff_eq]
  constructor
  · intro h
    rw [e] at h
    rw [List.append_cancel_left_eq] at h
    exact h
  · intro h
    rw [e, List.append_cancel_left_eq]
    exact h
end Go.Proofs.Ytnekaflanaleeaa
