/- Plain facts: frames, how one is measured, opened and taken, and all of them. -/
import Derived.Test.YtnekaflanaleeaaMa
namespace Go.Proofs.Ytnekaflanaleeaa

/-- Four bytes, the lowest first. -/
def le4 (n : Nat) : List UInt8 := [UInt8.ofNat n, UInt8.ofNat (n / 256), UInt8.ofNat (n / 65536), UInt8.ofNat (n / 16777216)]

/-- Two bytes, the highest first. -/
def hd2 (n : Nat) : List UInt8 := [UInt8.ofNat (n / 256), UInt8.ofNat n]

/-- A body's frame. -/
def frameP (s : List UInt8) : List UInt8 := hd2 s.length ++ s ++ le4 (sumP (hd2 s.length ++ s))

/-- What the first two bytes say. -/
def num2 (l : List UInt8) : Nat := 256 * (l.getD 0 0).toNat + (l.getD 1 0).toNat

/-- How many bytes the frame has that bytes begin with, and the error. -/
def measureP (l : List UInt8) : Nat × Nat :=
  if l.length = 0 then (0, 16) else if l.length < 2 then (0, 3) else if 1024 < num2 l then (0, 5) else if l.length < num2 l + 6 then (0, 3) else (num2 l + 6, 0)

/-- Is the sum right? -/
def openP (f : List UInt8) : Bool := le4 (sumP (f.take (f.length - 4))) == f.drop (f.length - 4)

/-- The frame at a place: its body, the place behind it, the error. -/
def takeP (l : List UInt8) (p : Nat) : List UInt8 × Nat × Nat :=
  if (measureP (l.drop p)).2 = 0 then
    if openP ((l.drop p).take (measureP (l.drop p)).1) then (((l.drop p).drop 2).take ((measureP (l.drop p)).1 - 6), p + (measureP (l.drop p)).1, 0) else ([], 0, 12)
  else ([], 0, (measureP (l.drop p)).2)

/-- All frames from a place on (fuel): the bodies, where they end, and why. -/
def allP (l : List UInt8) : Nat → Nat → List (List UInt8) × Nat × Nat
  | 0, p => ([], p, 0)
  | f + 1, p => if (takeP l p).2.2 = 0 then ((takeP l p).1 :: (allP l f (takeP l p).2.1).1, (allP l f (takeP l p).2.1).2) else ([], p, (takeP l p).2.2)

theorem le4_len (n : Nat) : (le4 n).length = 4 := rfl
theorem hd2_len (n : Nat) : (hd2 n).length = 2 := rfl
theorem frameP_len (s : List UInt8) : (frameP s).length = s.length + 6 := by simp [frameP, le4_len, hd2_len]; omega

theorem u8_nat (n : Nat) : (UInt8.ofNat n).toNat = n % 256 := by rw [UInt8.toNat_ofNat']

theorem le4_inj {a b : Nat} (ha : a < 4294967296) (hb : b < 4294967296) (h : le4 a = le4 b) : a = b := by
  unfold le4 at h
  simp only [List.cons.injEq, and_true] at h
  obtain ⟨h0, h1, h2, h3⟩ := h
  have g0 := congrArg UInt8.toNat h0
  have g1 := congrArg UInt8.toNat h1
  have g2 := congrArg UInt8.toNat h2
  have g3 := congrArg UInt8.toNat h3
  simp only [u8_nat] at g0 g1 g2 g3
  omega

theorem num2_hd (n : Nat) (h : n ≤ 1024) (t : List UInt8) : num2 (hd2 n ++ t) = n := by
  simp only [num2, hd2, List.cons_append, List.nil_append, List.getD_cons_zero, List.getD_cons_succ, u8_nat]
  omega

theorem measureP_frame (s t : List UInt8) (h : s.length ≤ 1024) : measureP (frameP s ++ t) = (s.length + 6, 0) := by
  have hn : num2 (frameP s ++ t) = s.length := by
    unfold frameP
    rw [List.append_assoc, List.append_assoc]
    exact num2_hd _ h _
  have hl : (frameP s ++ t).length = s.length + 6 + t.length := by rw [List.length_append, frameP_len]
  unfold measureP
  rw [hn, hl, if_neg (by omega), if_neg (by omega), if_neg (by omega), if_neg (by omega)]

theorem openP_frame (s : List UInt8) : openP (frameP s) = true := by
  unfold openP
  have hl : (frameP s).length - 4 = (hd2 s.length ++ s).length := by rw [frameP_len]; simp [hd2_len]; omega
  rw [hl]
  unfold frameP
  rw [List.take_left, List.drop_left]
  simp

/-- A frame that stands at a place is taken. -/
theorem takeP_frame (a s t : List UInt8) (h : s.length ≤ 1024) : takeP (a ++ (frameP s ++ t)) a.length = (s, a.length + (s.length + 6), 0) := by
  unfold takeP
  rw [List.drop_left, measureP_frame s t h]
  have ht : (frameP s ++ t).take (s.length + 6) = frameP s := by rw [← frameP_len s, List.take_left]
  rw [if_pos rfl, ht, openP_frame, if_pos rfl]
  have hb : ((frameP s ++ t).drop 2).take (s.length + 6 - 6) = s := by
    rw [show s.length + 6 - 6 = s.length by omega]
    unfold frameP
    rw [List.append_assoc, List.append_assoc, show (2 : Nat) = (hd2 s.length).length from rfl, List.drop_left, List.take_left]
  rw [hb]

theorem takeP_end (l : List UInt8) (p : Nat) (h : l.length ≤ p) : takeP l p = ([], 0, 16) := by
  unfold takeP
  rw [List.drop_eq_nil_of_le h]
  rfl

theorem takeP_next {l : List UInt8} {p : Nat} (h : (takeP l p).2.2 = 0) : p + 6 ≤ (takeP l p).2.1 ∧ (takeP l p).2.1 ≤ l.length ∧ (takeP l p).1.length + 6 + p = (takeP l p).2.1 ∧ (takeP l p).1.length ≤ 1024 := by
  unfold takeP at h ⊢
  by_cases h1 : (measureP (l.drop p)).2 = 0
  · rw [if_pos h1] at h ⊢
    by_cases h2 : openP ((l.drop p).take (measureP (l.drop p)).1) = true
    · rw [if_pos h2] at h ⊢
      have hm : measureP (l.drop p) = (num2 (l.drop p) + 6, 0) ∧ num2 (l.drop p) + 6 ≤ (l.drop p).length ∧ num2 (l.drop p) ≤ 1024 := by
        unfold measureP at h1 ⊢
        by_cases g0 : (l.drop p).length = 0
        · rw [if_pos g0] at h1; simp at h1
        · rw [if_neg g0] at h1 ⊢
          by_cases g1 : (l.drop p).length < 2
          · rw [if_pos g1] at h1; simp at h1
          · rw [if_neg g1] at h1 ⊢
            by_cases g2 : 1024 < num2 (l.drop p)
            · rw [if_pos g2] at h1; simp at h1
            · rw [if_neg g2] at h1 ⊢
              by_cases g3 : (l.drop p).length < num2 (l.drop p) + 6
              · rw [if_pos g3] at h1; simp at h1
              · rw [if_neg g3]; exact ⟨rfl, by omega, by omega⟩
      obtain ⟨e1, e2, e3⟩ := hm
      simp only [e1]
      rw [List.length_drop] at e2
      rw [List.length_take, List.length_drop, List.length_drop]
      omega
    · rw [if_neg h2] at h; simp at h
  · rw [if_neg h1] at h; exact absurd h h1
end Go.Proofs.Ytnekaflanaleeaa
