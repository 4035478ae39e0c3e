/- Plain facts: a number's bytes, what is read at a place of bytes, and lists. -/
namespace Go.Proofs.YtfemfekhpfkafaaDoor

/-- What bytes are worth. -/
def val : List UInt8 → Nat
  | [] => 0
  | c :: l => c.toNat % 128 + 128 * val l

/-- How many bytes from the front on are not a last one. -/
def longs : List UInt8 → Nat
  | [] => 0
  | c :: l => if 128 ≤ c.toNat then longs l + 1 else 0

/-- The number at the front of bytes: it, how many bytes it has, the error. -/
def numP (l : List UInt8) : Nat × Nat × Nat :=
  if 6 ≤ longs l then (0, 0, 4) else if longs l = l.length then (0, 0, 3)
  else if ((l.getD (longs l) 0).toNat = 0 ∧ 0 < longs l) ∨ 1099511627776 < val (l.take (longs l + 1)) then (0, 0, 4)
  else (val (l.take (longs l + 1)), longs l + 1, 0)

theorem u8_nat (n : Nat) : (UInt8.ofNat n).toNat = n % 256 := by simp

end Go.Proofs.YtfemfekhpfkafaaDoor
