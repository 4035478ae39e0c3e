/- Plain facts: a frame of which bits within 32 bits of its body were turned is not taken. -/
import Derived.Test.YtnekaflanaleeaaMe
namespace Go.Proofs.Ytnekaflanaleeaa

/-- A body's frame with another body in it. -/
def bent (s t : List UInt8) : List UInt8 := hd2 s.length ++ t ++ le4 (sumP (hd2 s.length ++ s))

theorem bent_self (s : List UInt8) : bent s s = frameP s := rfl
theorem bent_len (s t : List UInt8) (h : t.length = s.length) : (bent s t).length = s.length + 6 := by
  unfold bent
  simp only [List.length_append, le4_len, hd2_len, h]
  omega

theorem bent_get (s t : List UInt8) (j : Nat) (hj : j < t.length) : (bent s t).getD (2 + j) 0 = t.getD j 0 := by
  unfold bent
  simp only [List.getD_eq_getElem?_getD]
  rw [List.append_assoc, List.getElem?_append_right (by rw [hd2_len]; omega), hd2_len, show 2 + j - 2 = j by omega, List.getElem?_append_left hj]

theorem bent_set (s t : List UInt8) (j : Nat) (c : UInt8) (hj : j < t.length) : (bent s t).set (2 + j) c = bent s (t.set j c) := by
  unfold bent
  rw [List.append_assoc, List.set_append_right _ _ (by rw [hd2_len]; omega), hd2_len, show 2 + j - 2 = j by omega, List.set_append_left _ _ hj, List.append_assoc]

theorem flip_set (t : List UInt8) (k : Nat) (h : k / 8 < t.length) : flip t k = t.set (k / 8) (t.getD (k / 8) 0 ^^^ UInt8.ofNat (2 ^ (k % 8))) := by
  unfold flip
  apply List.ext_getElem?
  intro i
  rw [List.getElem?_modify, List.getElem?_set]
  by_cases hi : k / 8 = i
  · subst hi
    simp [h]
  · simp [hi]

theorem take_bent (s t : List UInt8) (hs : s.length ≤ 1024) (h : t.length = s.length) : takeP (bent s t) 0 = if sumP (hd2 s.length ++ t) = sumP (hd2 s.length ++ s) then (t, s.length + 6, 0) else ([], 0, 12) := by
  have hm : measureP (bent s t) = (s.length + 6, 0) := by
    have hn : num2 (bent s t) = s.length := by
      unfold bent
      rw [List.append_assoc]
      exact num2_hd _ hs _
    unfold measureP
    rw [hn, bent_len s t h, if_neg (by omega), if_neg (by omega), if_neg (by omega), if_neg (by omega)]
  have ht : (bent s t).take (s.length + 6) = bent s t := List.take_of_length_le (by rw [bent_len s t h]; exact Nat.le_refl _)
  have ho : openP (bent s t) = decide (sumP (hd2 s.length ++ t) = sumP (hd2 s.length ++ s)) := by
    have hl : (bent s t).length - 4 = (hd2 s.length ++ t).length := by rw [bent_len s t h]; simp [hd2_len, h]; omega
    unfold openP
    rw [hl]
    unfold bent
    rw [List.take_left, List.drop_left, Bool.eq_iff_iff, beq_iff_eq, decide_eq_true_eq]
    exact ⟨fun e => le4_inj (sumP_lt _) (sumP_lt _) e, fun e => by rw [e]⟩
  have hb : ((bent s t).drop 2).take (s.length + 6 - 6) = t := by
    unfold bent
    rw [List.append_assoc, show (2 : Nat) = (hd2 s.length).length from rfl, List.drop_left, show s.length + 6 - 6 = t.length by omega, List.take_left]
  unfold takeP
  rw [List.drop_zero, hm, if_pos rfl, ht, ho, hb, Nat.zero_add]
  by_cases he : sumP (hd2 s.length ++ t) = sumP (hd2 s.length ++ s)
  · rw [if_pos (by simpa using he), if_pos he]
  · rw [if_neg (by simpa using he), if_neg he]

/-- A frame of which bits within 32 bits were turned. -/
theorem take_turned (s : List UInt8) (hs : s.length ≤ 1024) (first mask i : Nat) (hi : first + i ≤ 8 * s.length) (h32 : i ≤ 32) :
    takeP (bent s (flips s first mask i)) 0 = if mask % 2 ^ i = 0 then (s, s.length + 6, 0) else ([], 0, 12) := by
  rw [take_bent s _ hs (flips_len _ _ _ _)]
  by_cases hm : mask % 2 ^ i = 0
  · have hf : flips s first mask i = s := by
      have : ∀ j, j ≤ i → flips s first mask j = s := by
        intro j
        induction j with
        | zero => intro _; rfl
        | succ j ih =>
          intro hj
          unfold flips
          rw [if_neg, ih (by omega)]
          intro hb
          have h1 : mask % 2 ^ (j + 1) = 0 := by
            have h2 := Nat.mod_mod_of_dvd mask (Nat.pow_dvd_pow 2 hj)
            rw [hm] at h2
            simpa using h2.symm
          rw [mod_bit, if_pos hb] at h1
          have h3 : mask % 2 ^ j < 2 ^ j := Nat.mod_lt _ (Nat.two_pow_pos j)
          have h4 : mask % 2 ^ j = 2 ^ j := by
            have := congrArg (· ^^^ 2 ^ j) h1
            simpa [Nat.xor_assoc] using this
          omega
      exact this i (Nat.le_refl _)
    rw [if_pos hm, hf, if_pos rfl]
  · rw [if_neg hm, if_neg (sum_turned _ s first mask i hi h32 hm)]
end Go.Proofs.Ytnekaflanaleeaa
