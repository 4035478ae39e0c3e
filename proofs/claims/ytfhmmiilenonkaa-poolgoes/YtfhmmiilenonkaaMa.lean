/- Plain facts: a number's bytes, what is read at a place of bytes, and lists. -/
namespace Go.Proofs.Ytfhmmiilenonkaa

set_option maxRecDepth 1000000

theorem u8_nat (n : Nat) : (UInt8.ofNat n).toNat = n % 256 := by simp

end Go.Proofs.Ytfhmmiilenonkaa
