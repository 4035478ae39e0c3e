/- Texts of the seat, packed: Ma Wa. -/
import Derived.Test.YtijkgdbabikojaaGreatRows
import Derived.WalkKit
import Derived.WalkSpells
import Derived.WalkLawsBesides
import Derived.BigQuiet
import Derived.Deep.QuietTactic
import Derived.Laws.Rows
import Derived.Laws.IdiomStrings
import Derived.Laws.BytesArg
import Derived.Laws.AppendOwnNone
import Derived.Laws.MakeOwn
import Derived.Lib.SliceRun
import Derived.Deep.RegionHeld
/- Plain facts: a number's bytes, what is read at a place of bytes, and lists. -/
namespace Go.Proofs.YtijkgdbabikojaaGreat
set_option maxRecDepth 1000000

/-- A number's bytes. -/
def oneP (n : Nat) : List UInt8 := if n < 128 then [UInt8.ofNat n] else UInt8.ofNat (128 + n % 128) :: oneP (n / 128)
termination_by n
decreasing_by omega

/-- What bytes are worth. -/
def val : List UInt8 → Nat
  | [] => 0
  | c :: l => c.toNat % 128 + 128 * val l

/-- How many bytes from the front on are not a last one. -/
def longs : List UInt8 → Nat
  | [] => 0
  | c :: l => if 128 ≤ c.toNat then longs l + 1 else 0

/-- The number at the front of bytes: it, how many bytes it has, the error. -/
def numP (l : List UInt8) : Nat × Nat × Nat :=
  if 6 ≤ longs l then (0, 0, 4) else if longs l = l.length then (0, 0, 3)
  else if ((l.getD (longs l) 0).toNat = 0 ∧ 0 < longs l) ∨ 1099511627776 < val (l.take (longs l + 1)) then (0, 0, 4)
  else (val (l.take (longs l + 1)), longs l + 1, 0)

theorem b_lt (c : UInt8) : c.toNat < 256 := UInt8.toNat_lt c
theorem u8_nat (n : Nat) : (UInt8.ofNat n).toNat = n % 256 := by simp

theorem one_lt {n : Nat} (h : n < 128) : oneP n = [UInt8.ofNat n] := by rw [oneP, if_pos h]
theorem one_ge {n : Nat} (h : ¬ n < 128) : oneP n = UInt8.ofNat (128 + n % 128) :: oneP (n / 128) := by rw [oneP, if_neg h]

theorem one_pos (n : Nat) : 0 < (oneP n).length := by
  by_cases h : n < 128
  · rw [one_lt h]; simp
  · rw [one_ge h]; simp

theorem one_ne (n : Nat) : oneP n ≠ [] := fun h => by have := one_pos n; rw [h] at this; simp at this

theorem one_len_ge {n : Nat} (h : ¬ n < 128) : (oneP n).length = (oneP (n / 128)).length + 1 := by rw [one_ge h, List.length_cons]

theorem one_len_lt {n : Nat} (h : n < 128) : (oneP n).length = 1 := by rw [one_lt h]; rfl

theorem one_len_le : ∀ (k n : Nat), n < 128 ^ (k + 1) → (oneP n).length ≤ k + 1
  | 0, n, h => by rw [one_len_lt (by simpa using h)]; omega
  | k + 1, n, h => by
    by_cases h1 : n < 128
    · rw [one_len_lt h1]; omega
    · rw [one_len_ge h1]
      have h2 : n / 128 < 128 ^ (k + 1) := by
        rw [Nat.div_lt_iff_lt_mul (by decide), ← Nat.pow_succ]
        exact h
      have := one_len_le k (n / 128) h2
      omega

theorem one_six {n : Nat} (h : n ≤ 1099511627776) : (oneP n).length ≤ 6 := one_len_le 5 n (by omega)

theorem one_mono : ∀ (m n : Nat), n ≤ m → (oneP n).length ≤ (oneP m).length := by
  intro m
  induction m using Nat.strongRecOn with
  | _ m ih =>
    intro n hn
    by_cases h1 : n < 128
    · rw [one_len_lt h1]; exact one_pos m
    · rw [one_len_ge h1, one_len_ge (show ¬ m < 128 by omega)]
      have := ih (m / 128) (by omega) (n / 128) (by omega)
      omega

theorem val_one (n : Nat) : val (oneP n) = n := by
  induction n using Nat.strongRecOn with
  | _ n ih =>
    by_cases h : n < 128
    · rw [one_lt h]
      show (UInt8.ofNat n).toNat % 128 + 128 * 0 = n
      rw [u8_nat]; omega
    · rw [one_ge h]
      show (UInt8.ofNat (128 + n % 128)).toNat % 128 + 128 * val (oneP (n / 128)) = n
      rw [ih (n / 128) (by omega), u8_nat]
      omega

theorem longs_one (r : List UInt8) (n : Nat) : longs (oneP n ++ r) + 1 = (oneP n).length := by
  induction n using Nat.strongRecOn with
  | _ n ih =>
    by_cases h : n < 128
    · rw [one_lt h]
      show (if 128 ≤ (UInt8.ofNat n).toNat then _ else 0) + 1 = 1
      rw [if_neg (by rw [u8_nat]; omega)]
    · rw [one_ge h]
      show (if 128 ≤ (UInt8.ofNat (128 + n % 128)).toNat then longs (oneP (n / 128) ++ r) + 1 else 0) + 1 = _
      rw [if_pos (by rw [u8_nat]; omega), ih (n / 128) (by omega), List.length_cons]

theorem longs_short (n : Nat) : longs (oneP n).dropLast = (oneP n).dropLast.length ∧ (oneP n).dropLast.length + 1 = (oneP n).length := by
  refine ⟨?_, by rw [List.length_dropLast]; have := one_pos n; omega⟩
  induction n using Nat.strongRecOn with
  | _ n ih =>
    by_cases h : n < 128
    · rw [one_lt h]; rfl
    · rw [one_ge h, List.dropLast_cons_of_ne_nil (one_ne _), List.length_cons]
      show (if 128 ≤ (UInt8.ofNat (128 + n % 128)).toNat then longs (oneP (n / 128)).dropLast + 1 else 0) = _
      rw [if_pos (by rw [u8_nat]; omega), ih (n / 128) (by omega)]

theorem last_one (r : List UInt8) : ∀ n : Nat, 0 < n → ((oneP n ++ r).getD ((oneP n).length - 1) 0).toNat ≠ 0 := by
  intro n
  induction n using Nat.strongRecOn with
  | _ n ih =>
    intro hn
    by_cases h : n < 128
    · rw [one_lt h]
      show (UInt8.ofNat n).toNat ≠ 0
      rw [u8_nat]; omega
    · have := ih (n / 128) (by omega) (by omega)
      have hp := one_pos (n / 128)
      rw [one_ge h, List.length_cons, Nat.add_sub_cancel, List.cons_append]
      rw [show (oneP (n / 128)).length = ((oneP (n / 128)).length - 1) + 1 by omega, List.getD_cons_succ]
      exact this

/-- What was put is taken, whatever stands behind it. -/
theorem num_put (n : Nat) (r : List UInt8) (h : n ≤ 1099511627776) : numP (oneP n ++ r) = (n, (oneP n).length, 0) := by
  have h1 := longs_one r n
  have h6 := one_six h
  have hv : val ((oneP n ++ r).take (longs (oneP n ++ r) + 1)) = n := by rw [h1, List.take_left, val_one]
  unfold numP
  rw [if_neg (by omega), if_neg (by rw [List.length_append]; omega), hv, if_neg, h1]
  rintro (⟨h2, h3⟩ | h2)
  · by_cases h0 : n < 128
    · rw [one_len_lt h0] at h1; omega
    · have := last_one r n (by omega)
      rw [show longs (oneP n ++ r) = (oneP n).length - 1 by omega] at h2
      exact this h2
  · omega

theorem num_short (n : Nat) (h : n ≤ 1099511627776) : numP (oneP n).dropLast = (0, 0, 3) := by
  obtain ⟨h1, h2⟩ := longs_short n
  have h6 := one_six h
  unfold numP
  rw [if_neg (by omega), if_pos h1]

theorem one_val : ∀ (s : List UInt8), longs s + 1 = s.length → ((s.getD (s.length - 1) 0).toNat ≠ 0 ∨ s.length = 1) → oneP (val s) = s ∧ (s.length ≠ 1 → 0 < val s)
  | [], h, _ => by simp [longs] at h
  | [c], h, _ => by
    have hc : c.toNat < 128 := by
      simp only [longs, List.length_cons, List.length_nil] at h
      split at h <;> omega
    refine ⟨?_, fun h => absurd rfl h⟩
    have : val [c] = c.toNat := by show c.toNat % 128 + 128 * 0 = _; omega
    rw [this, one_lt hc]
    simp
  | c :: d :: s, h, hl => by
    have hc : 128 ≤ c.toNat := by
      by_cases hc : 128 ≤ c.toNat
      · exact hc
      · unfold longs at h; rw [if_neg hc] at h; simp at h
    have h2 : longs (d :: s) + 1 = (d :: s).length := by
      have h3 : longs (c :: d :: s) = longs (d :: s) + 1 := by rw [longs, if_pos hc]
      rw [h3, List.length_cons] at h; omega
    have hl2 : ((d :: s).getD ((d :: s).length - 1) 0).toNat ≠ 0 := by
      rcases hl with hl | hl
      · have e : (c :: d :: s).length - 1 = ((d :: s).length - 1) + 1 := by simp
        rw [e, List.getD_cons_succ] at hl
        exact hl
      · simp at hl
    obtain ⟨i1, i2⟩ := one_val (d :: s) h2 (.inl hl2)
    have hpos : 0 < val (d :: s) := by
      by_cases h1 : (d :: s).length = 1
      · have hs : s = [] := by simpa using h1
        subst hs
        have h5 : val [d] = d.toNat % 128 + 128 * 0 := rfl
        have hd : d.toNat < 128 := by
          simp only [longs, List.length_cons, List.length_nil] at h2
          split at h2 <;> omega
        have hl3 : d.toNat ≠ 0 := hl2
        omega
      · exact i2 h1
    have hv : val (c :: d :: s) = c.toNat % 128 + 128 * val (d :: s) := rfl
    have hc2 := b_lt c
    refine ⟨?_, fun _ => by omega⟩
    rw [one_ge (by omega), hv, show (c.toNat % 128 + 128 * val (d :: s)) / 128 = val (d :: s) by omega, i1]
    congr 1
    apply UInt8.toNat_inj.1
    rw [u8_nat]
    omega

theorem longs_le : ∀ l : List UInt8, longs l ≤ l.length
  | [] => Nat.le_refl _
  | c :: l => by
    have := longs_le l
    unfold longs
    rw [List.length_cons]
    split <;> omega

theorem longs_take : ∀ l : List UInt8, longs l < l.length → longs (l.take (longs l + 1)) = longs l
  | [], h => by simp at h
  | c :: l, h => by
    by_cases hc : 128 ≤ c.toNat
    · have e : longs (c :: l) = longs l + 1 := by rw [longs, if_pos hc]
      rw [e, List.length_cons] at h
      rw [e, List.take_succ_cons, longs, if_pos hc, longs_take l (by omega)]
    · have e : longs (c :: l) = 0 := by rw [longs, if_neg hc]
      rw [e, List.take_succ_cons, longs, if_neg hc]

/-- What is taken has just these bytes. -/
theorem num_ok {l : List UInt8} (h : (numP l).2.2 = 0) : (numP l).1 ≤ 1099511627776 ∧ 0 < (numP l).2.1 ∧ (numP l).2.1 ≤ l.length ∧ (numP l).2.1 ≤ 6 ∧ oneP (numP l).1 = l.take (numP l).2.1 := by
  unfold numP at h ⊢
  by_cases h1 : 6 ≤ longs l
  · rw [if_pos h1] at h; simp at h
  rw [if_neg h1] at h ⊢
  by_cases h2 : longs l = l.length
  · rw [if_pos h2] at h; simp at h
  rw [if_neg h2] at h ⊢
  by_cases h3 : ((l.getD (longs l) 0).toNat = 0 ∧ 0 < longs l) ∨ 1099511627776 < val (l.take (longs l + 1))
  · rw [if_pos h3] at h; simp at h
  rw [if_neg h3]
  have h4 := longs_le l
  have hlt : longs l < l.length := by omega
  have hlen : (l.take (longs l + 1)).length = longs l + 1 := by rw [List.length_take]; omega
  refine ⟨by simp only []; omega, by simp, by simp only []; omega, by simp only []; omega, ?_⟩
  refine (one_val (l.take (longs l + 1)) (by rw [longs_take l hlt, hlen]) ?_).1
  rw [hlen, Nat.add_sub_cancel]
  by_cases h5 : longs l = 0
  · right; omega
  · left
    intro h6
    apply h3
    left
    refine ⟨?_, by omega⟩
    rw [List.getD_eq_getElem?_getD, List.getElem?_take, if_pos (by omega)] at h6
    rw [List.getD_eq_getElem?_getD]
    exact h6

theorem num_err {l : List UInt8} (h : (numP l).2.2 ≠ 0) : (numP l).1 = 0 ∧ (numP l).2.1 = 0 ∧ ((numP l).2.2 = 3 ∨ (numP l).2.2 = 4) := by
  unfold numP at h ⊢
  split
  · simp
  · split
    · simp
    · split
      · simp
      · rename_i h1 h2 h3
        rw [if_neg h1, if_neg h2, if_neg h3] at h
        simp at h

/-- The number at a place: it, the place behind it, the error. -/
def takeP (l : List UInt8) (p : Nat) : Nat × Nat × Nat := ((numP (l.drop p)).1, (if (numP (l.drop p)).2.2 = 0 then p + (numP (l.drop p)).2.1 else 0), (numP (l.drop p)).2.2)

theorem take_ok {l : List UInt8} {p : Nat} (hp : p ≤ l.length) (h : (takeP l p).2.2 = 0) : (takeP l p).1 ≤ 1099511627776 ∧ p < (takeP l p).2.1 ∧ (takeP l p).2.1 ≤ l.length ∧ oneP (takeP l p).1 = (l.take (takeP l p).2.1).drop p := by
  have h0 : (numP (l.drop p)).2.2 = 0 := h
  obtain ⟨h1, h2, h3, _, h4⟩ := num_ok h0
  have e : (takeP l p).2.1 = p + (numP (l.drop p)).2.1 := by unfold takeP; rw [if_pos h0]
  rw [List.length_drop] at h3
  rw [e]
  refine ⟨h1, by omega, by omega, ?_⟩
  show oneP (numP (l.drop p)).1 = _
  rw [h4, List.drop_take, Nat.add_sub_cancel_left]

theorem take_err {l : List UInt8} {p : Nat} (h : (takeP l p).2.2 ≠ 0) : (takeP l p).1 = 0 ∧ (takeP l p).2.1 = 0 ∧ ((takeP l p).2.2 = 3 ∨ (takeP l p).2.2 = 4) := by
  have h0 : (numP (l.drop p)).2.2 ≠ 0 := h
  obtain ⟨h1, h2, h3⟩ := num_err h0
  exact ⟨h1, by unfold takeP; rw [if_neg h0], h3⟩

theorem take_put (a : List UInt8) (n : Nat) (r : List UInt8) (h : n ≤ 1099511627776) : takeP (a ++ (oneP n ++ r)) a.length = (n, a.length + (oneP n).length, 0) := by
  unfold takeP
  rw [List.drop_left, num_put n r h]
  rfl

theorem take_short (a : List UInt8) (n : Nat) (h : n ≤ 1099511627776) : takeP (a ++ (oneP n).dropLast) a.length = (0, 0, 3) := by
  unfold takeP
  rw [List.drop_left, num_short n h]
  rfl

/-- So many numbers from a place on. -/
def takesP (l : List UInt8) : Nat → Nat → List Nat × Nat × Nat
  | 0, p => ([], p, 0)
  | c + 1, p =>
    if (takeP l p).2.2 = 0 then
      (if (takesP l c (takeP l p).2.1).2.2 = 0 then ((takeP l p).1 :: (takesP l c (takeP l p).2.1).1, (takesP l c (takeP l p).2.1).2.1, 0) else ([], 0, (takesP l c (takeP l p).2.1).2.2))
    else ([], 0, (takeP l p).2.2)

/-- The list at a place. -/
def listP (l : List UInt8) (p : Nat) : List Nat × Nat × Nat :=
  if (takeP l p).2.2 = 0 then (if 255 < (takeP l p).1 then ([], 0, 5) else takesP l (takeP l p).1 (takeP l p).2.1) else ([], 0, (takeP l p).2.2)

/-- A list's bytes. -/
def manyP (ns : List Nat) : List UInt8 := ns.flatMap oneP
def putsP (ns : List Nat) : List UInt8 := oneP ns.length ++ manyP ns

theorem many_cons (n : Nat) (ns : List Nat) : manyP (n :: ns) = oneP n ++ manyP ns := by simp [manyP]
theorem many_snoc (n : Nat) (ns : List Nat) : manyP (ns ++ [n]) = manyP ns ++ oneP n := by simp [manyP]
theorem many_len : ∀ (ns : List Nat), (∀ n ∈ ns, n ≤ 1099511627776) → (manyP ns).length ≤ 6 * ns.length
  | [], _ => by simp [manyP]
  | n :: ns, h => by
    have h1 := many_len ns (fun m hm => h m (List.mem_cons_of_mem _ hm))
    have h2 := one_six (h n (List.mem_cons_self ..))
    rw [many_cons, List.length_append, List.length_cons]
    omega

theorem many_ne {n : Nat} {ns : List Nat} : manyP (n :: ns) ≠ [] := by
  rw [many_cons]
  intro h
  exact one_ne n (List.append_eq_nil_iff.1 h).1

theorem takes_put : ∀ (ns : List Nat) (a r : List UInt8), (∀ n ∈ ns, n ≤ 1099511627776) → takesP (a ++ (manyP ns ++ r)) ns.length a.length = (ns, a.length + (manyP ns).length, 0)
  | [], a, r, _ => by simp [takesP, manyP]
  | n :: ns, a, r, h => by
    have h1 := take_put a n (manyP ns ++ r) (h n (List.mem_cons_self ..))
    have h2 := takes_put ns (a ++ oneP n) r (fun m hm => h m (List.mem_cons_of_mem _ hm))
    rw [List.append_assoc, List.length_append] at h2
    rw [many_cons, List.append_assoc, List.length_cons]
    unfold takesP
    rw [h1]
    simp only [if_true, h2, List.length_append]
    rw [Nat.add_assoc]

theorem takes_short : ∀ (ns : List Nat) (a : List UInt8), ns ≠ [] → (∀ n ∈ ns, n ≤ 1099511627776) → takesP (a ++ (manyP ns).dropLast) ns.length a.length = ([], 0, 3)
  | [], _, h, _ => absurd rfl h
  | [n], a, _, h => by
    have e : manyP [n] = oneP n := by simp [manyP]
    have h1 := take_short a n (h n (List.mem_cons_self ..))
    rw [e]
    show takesP _ (0 + 1) _ = _
    unfold takesP
    rw [h1]
    rfl
  | n :: m :: ns, a, _, h => by
    have h2 := takes_short (m :: ns) (a ++ oneP n) (by simp) (fun x hx => h x (List.mem_cons_of_mem _ hx))
    rw [List.append_assoc, List.length_append] at h2
    have h1 := take_put a n (manyP (m :: ns)).dropLast (h n (List.mem_cons_self ..))
    rw [many_cons n (m :: ns), List.dropLast_append_of_ne_nil many_ne]
    show takesP _ ((m :: ns).length + 1) _ = _
    unfold takesP
    rw [h1]
    simp only [if_true, h2]
    rfl

theorem takes_ok {l : List UInt8} : ∀ (c p : Nat), p ≤ l.length → (takesP l c p).2.2 = 0 → (takesP l c p).1.length = c ∧ (∀ n ∈ (takesP l c p).1, n ≤ 1099511627776) ∧ p ≤ (takesP l c p).2.1 ∧ (takesP l c p).2.1 ≤ l.length ∧ manyP (takesP l c p).1 = (l.take (takesP l c p).2.1).drop p
  | 0, p, hp, _ => by
    refine ⟨rfl, by simp [takesP], Nat.le_refl _, hp, ?_⟩
    show manyP [] = (l.take p).drop p
    rw [List.drop_eq_nil_of_le (by rw [List.length_take]; omega)]
    rfl
  | c + 1, p, hp, h => by
    unfold takesP at h ⊢
    by_cases h1 : (takeP l p).2.2 = 0
    · rw [if_pos h1] at h ⊢
      obtain ⟨a1, a2, a3, a4⟩ := take_ok hp h1
      by_cases h2 : (takesP l c (takeP l p).2.1).2.2 = 0
      · rw [if_pos h2]
        obtain ⟨b1, b2, b3, b4, b5⟩ := takes_ok c (takeP l p).2.1 a3 h2
        refine ⟨by simp [b1], ?_, by simp only []; omega, b4, ?_⟩
        · intro n hn
          simp only [List.mem_cons] at hn
          rcases hn with rfl | hn
          · exact a1
          · exact b2 n hn
        · simp only []
          rw [many_cons, a4, b5]
          have e1 : l.take (takeP l p).2.1 = (l.take (takesP l c (takeP l p).2.1).2.1).take (takeP l p).2.1 := by rw [List.take_take, Nat.min_eq_left b3]
          rw [e1]
          generalize l.take (takesP l c (takeP l p).2.1).2.1 = L
          generalize (takeP l p).2.1 = q at *
          rw [List.drop_take]
          conv => rhs; rw [← List.take_append_drop (q - p) (L.drop p)]
          rw [List.drop_drop, show p + (q - p) = q by omega]
      · rw [if_neg h2] at h
        exact absurd h h2
    · rw [if_neg h1] at h
      exact absurd h h1

theorem takes_err {l : List UInt8} : ∀ (c p : Nat), (takesP l c p).2.2 ≠ 0 → (takesP l c p).1 = [] ∧ (takesP l c p).2.1 = 0
  | 0, p, h => absurd rfl h
  | c + 1, p, h => by
    unfold takesP at h ⊢
    by_cases h1 : (takeP l p).2.2 = 0
    · rw [if_pos h1] at h ⊢
      by_cases h2 : (takesP l c (takeP l p).2.1).2.2 = 0
      · rw [if_pos h2] at h
        exact absurd rfl h
      · rw [if_neg h2]
        exact ⟨rfl, rfl⟩
    · rw [if_neg h1]
      exact ⟨rfl, rfl⟩

theorem list_put (a : List UInt8) (ns : List Nat) (r : List UInt8) (hl : ns.length ≤ 255) (h : ∀ n ∈ ns, n ≤ 1099511627776) : listP (a ++ (putsP ns ++ r)) a.length = (ns, a.length + (putsP ns).length, 0) := by
  have h1 := take_put a ns.length (manyP ns ++ r) (by omega)
  have h2 := takes_put ns (a ++ oneP ns.length) r h
  rw [List.append_assoc, List.length_append] at h2
  unfold listP putsP
  rw [List.append_assoc, h1]
  simp only [if_true, List.length_append]
  rw [if_neg (by omega), h2, Nat.add_assoc]

theorem list_short (a : List UInt8) (ns : List Nat) (hl : ns.length ≤ 255) (h : ∀ n ∈ ns, n ≤ 1099511627776) : listP (a ++ (putsP ns).dropLast) a.length = ([], 0, 3) := by
  cases ns with
  | nil =>
    have h1 := take_short a 0 (by omega)
    have e : putsP [] = oneP 0 := by simp [putsP, manyP]
    unfold listP
    rw [e, h1]
    rfl
  | cons n ns =>
    have h1 := take_put a (n :: ns).length (manyP (n :: ns)).dropLast (by omega)
    have h2 := takes_short (n :: ns) (a ++ oneP (n :: ns).length) (by simp) h
    rw [List.append_assoc, List.length_append] at h2
    unfold listP putsP
    rw [List.dropLast_append_of_ne_nil many_ne, h1]
    simp only [if_true]
    rw [if_neg (by omega), h2]

theorem list_ok {l : List UInt8} {p : Nat} (hp : p ≤ l.length) (h : (listP l p).2.2 = 0) : (listP l p).1.length ≤ 255 ∧ (∀ n ∈ (listP l p).1, n ≤ 1099511627776) ∧ p ≤ (listP l p).2.1 ∧ (listP l p).2.1 ≤ l.length ∧ putsP (listP l p).1 = (l.take (listP l p).2.1).drop p := by
  unfold listP at h ⊢
  by_cases h1 : (takeP l p).2.2 = 0
  · rw [if_pos h1] at h ⊢
    obtain ⟨a1, a2, a3, a4⟩ := take_ok hp h1
    by_cases h2 : 255 < (takeP l p).1
    · rw [if_pos h2] at h; simp at h
    · rw [if_neg h2] at h ⊢
      obtain ⟨b1, b2, b3, b4, b5⟩ := takes_ok (takeP l p).1 (takeP l p).2.1 a3 h
      refine ⟨by omega, b2, by omega, b4, ?_⟩
      unfold putsP
      rw [b1, a4, b5]
      generalize hQ : (takesP l (takeP l p).1 (takeP l p).2.1).2.1 = Q at *
      have e1 : l.take (takeP l p).2.1 = (l.take Q).take (takeP l p).2.1 := by rw [List.take_take, Nat.min_eq_left b3]
      rw [e1]
      generalize l.take Q = L
      generalize (takeP l p).2.1 = q at *
      rw [List.drop_take]
      conv => rhs; rw [← List.take_append_drop (q - p) (L.drop p)]
      rw [List.drop_drop, show p + (q - p) = q by omega]
  · rw [if_neg h1] at h
    exact absurd h h1

theorem list_err {l : List UInt8} {p : Nat} (h : (listP l p).2.2 ≠ 0) : (listP l p).1 = [] ∧ (listP l p).2.1 = 0 := by
  unfold listP at h ⊢
  by_cases h1 : (takeP l p).2.2 = 0
  · rw [if_pos h1] at h ⊢
    by_cases h2 : 255 < (takeP l p).1
    · rw [if_pos h2]; exact ⟨rfl, rfl⟩
    · rw [if_neg h2] at h ⊢
      exact takes_err _ _ h
  · rw [if_neg h1]
    exact ⟨rfl, rfl⟩

theorem puts_len (ns : List Nat) (hl : ns.length ≤ 255) (h : ∀ n ∈ ns, n ≤ 1099511627776) : (putsP ns).length ≤ 1600 := by
  have h1 := many_len ns h
  have h2 := one_six (n := ns.length) (by omega)
  unfold putsP
  rw [List.length_append]
  omega

theorem puts_pos (ns : List Nat) : 0 < (putsP ns).length := by
  have := one_pos ns.length
  unfold putsP
  rw [List.length_append]
  omega
end Go.Proofs.YtijkgdbabikojaaGreat

/- What is known of bytes in memory, and of texts (as in the layer of frames). -/
namespace Go.Proofs.YtijkgdbabikojaaGreat
set_option maxRecDepth 1000000
open Go.RowKit
set_option linter.unusedVariables false

theorem ret_i {k : IntKind} {a b : Int} (h : a = b) : Ending.returned (.int k a) = .returned (.int k b) := by rw [h]

/-- A slice of bytes that reads as a list. -/
def RB (w : World) (v : Value) (l : List UInt8) : Prop :=
  ∃ a cap, v = .slice a l.length cap ∧ l.length ≤ cap ∧ cap ≤ maxLen ∧ (a = none → cap = 0) ∧ ∀ i, i < l.length → ∃ b off, a = some ⟨b, off, none⟩ ∧ w.cell? ⟨b, off + i, none⟩ = some (.int .u8 ((l.getD i 0).toNat : Nat))

theorem size_list (s : ByteArray) : s.data.toList.length = s.size := by rw [Array.length_toList]; rfl

theorem Tryz.info5 : (Tryz.prog.info? 5).map (fun i => (i.zero, i.size, i.bytes)) = some (some (.int .u8 0), 1, 1) := by kernel_rfl

/-- Bytes as they lie in memory. -/
def bvs (l : List UInt8) : List Value := l.map fun b => Value.int .u8 (b.toNat : Int)

theorem bvs_append (a b : List UInt8) : bvs (a ++ b) = bvs a ++ bvs b := by simp [bvs]

theorem bvs_len (a : List UInt8) : (bvs a).length = a.length := by simp [bvs]

theorem below_drewN {B : Nat} {a w : World} (h : Below B a w) (n : Nat) : Below B a (w.drewN n) := h.trans ⟨rfl, rfl, rfl, Nat.le_refl _, fun _ _ => rfl⟩

theorem cell_later {w wx : World} (hb : Below w.heap.size w wx) {a : Addr} {v : Value} (h : w.cell? a = some v) : wx.cell? a = some v := by
  rw [hb.cell (World.block_lt_of_cell? w a h)]
  exact h

theorem RB.later {w wx : World} {v : Value} {l : List UInt8} (h : RB w v l) (hb : Below w.heap.size w wx) : RB wx v l := by
  obtain ⟨a, cap, hv, h1, h2, h3, hc⟩ := h
  refine ⟨a, cap, hv, h1, h2, h3, fun i hi => ?_⟩
  obtain ⟨b, off, ha, hcell⟩ := hc i hi
  exact ⟨b, off, ha, cell_later hb hcell⟩

theorem RB.of_owns {w : World} {B : Nat} {v : Value} {n : Nat} {l : List UInt8} (hown : w.ownsRow B 5 1 v n (bvs l)) (hn : n = l.length) : RB w v l := by
  subst hn
  rcases hown.2 with ⟨rfl, h0⟩ | ⟨g, cap, cur, rfl, _, _, h1, h2, _⟩
  · have h1 : l = [] := List.eq_nil_of_length_eq_zero h0
    subst h1
    exact ⟨none, 0, rfl, by simp, by unfold maxLen; omega, fun _ => rfl, by simp⟩
  · refine ⟨_, cap, rfl, h1, h2, (fun h => by cases h), fun i hi => ⟨g, 0, rfl, ?_⟩⟩
    have h := hown.cellAt i (by omega)
    rw [Nat.zero_add, h]
    simp [bvs, hi]

theorem RB.nil (w : World) : RB w (.slice none 0 0) [] := ⟨none, 0, rfl, by simp, by unfold maxLen; omega, fun _ => rfl, by simp⟩

/-- A part of a slice. -/
theorem RB.sub {w : World} {a : Option Addr} {len cap : Nat} {l : List UInt8} (h : RB w (.slice a len cap) l) (lo hi m : Nat) (h1 : lo ≤ hi) (h2 : hi ≤ l.length) (h3 : hi ≤ m) (h4 : m ≤ cap) :
    RB w (sliced a lo hi m 1) ((l.take hi).drop lo) := by
  obtain ⟨a', cap', he, g1, g2, g3, hc⟩ := h
  simp only [Value.slice.injEq] at he
  obtain ⟨rfl, rfl, rfl⟩ := he
  have hl : ((l.take hi).drop lo).length = hi - lo := by simp; omega
  unfold sliced
  by_cases hm : m = lo
  · rw [if_pos hm]
    refine ⟨a, m - lo, by rw [hl], by rw [hl]; omega, by omega, fun hn => by have := g3 hn; omega, fun i hi2 => ?_⟩
    rw [hl] at hi2
    omega
  · rw [if_neg hm]
    refine ⟨_, m - lo, by rw [hl], by rw [hl]; omega, by omega, fun hn => ?_, fun i hi2 => ?_⟩
    · cases a with
      | none => have := g3 rfl; omega
      | some a => simp at hn
    · rw [hl] at hi2
      obtain ⟨b, off, rfl, hcell⟩ := hc (lo + i) (by omega)
      refine ⟨b, off + lo, ?_, ?_⟩
      · simp [Go.WideShapes.add_plain]
      · rw [Nat.add_assoc, hcell]
        congr 3
        simp only [List.getD_eq_getElem?_getD, List.getElem?_drop, List.getElem?_take]
        rw [if_pos (by omega)]

theorem string_of_RB {w : World} {v : Value} {l : List UInt8} (h : RB w v l) : (convert 34 9 v).run Tryz.prog w = .ok (.string ⟨l.toArray⟩) w := by
  obtain ⟨a, cap, rfl, _, _, h3, hc⟩ := h
  cases a with
  | none =>
    have hl : l = [] := by
      cases l with
      | nil => rfl
      | cons y l =>
        obtain ⟨b, off, hb, _⟩ := hc 0 (by simp)
        cases hb
    subst hl
    exact run_convert_bytes_nil w 34 5 Tryz.underlying34 Tryz.underlying5 _ _ 9 Tryz.underlying9
  | some a =>
    refine run_convert_bytes_back w 34 9 5 _ cap l Tryz.underlying34 Tryz.underlying5 Tryz.underlying9 ?_
    intro j hj
    obtain ⟨b, off, hb, hcell⟩ := hc j hj
    simp only [Option.some.injEq] at hb
    subst hb
    rw [Go.WideShapes.add_plain, hcell]
    simp [hj]

theorem ret_agg {a b : Value} (h : a = b) : Ending.returned a = .returned b := by rw [h]

theorem bvs_get {l : List UInt8} {j : Nat} {u : Value} (h : (bvs l)[j]? = some u) : j < l.length ∧ u = .int .u8 ((l.getD j 0).toNat : Nat) := by
  have hj : j < l.length := by
    have := (List.getElem?_eq_some_iff.1 h).1
    simpa [bvs] using this
  refine ⟨hj, ?_⟩
  simp [bvs, hj] at h
  rw [← h]
  simp [hj]

theorem RB.cells {w : World} {x : Addr} {n cap : Nat} {l : List UInt8} (h : RB w (.slice (some x) n cap) l) : n = l.length ∧ ∀ j u, (bvs l)[j]? = some u → w.cell? (x.add j) = some u := by
  obtain ⟨a, ca, he, _, _, _, hc⟩ := h
  simp only [Value.slice.injEq] at he
  obtain ⟨rfl, rfl, rfl⟩ := he
  refine ⟨rfl, fun j u hj => ?_⟩
  obtain ⟨hj2, rfl⟩ := bvs_get hj
  obtain ⟨b, off, hb, hcell⟩ := hc j hj2
  simp only [Option.some.injEq] at hb
  subst hb
  rw [Go.WideShapes.add_plain, hcell]

theorem bvs_one {l : List UInt8} : ∀ u ∈ bvs l, u.oneCell' = true := by
  intro u hu
  obtain ⟨x, _, rfl⟩ := List.mem_map.1 hu
  rfl

/-- Bytes of the call's own, in a block of their own. -/
def OB (B : Nat) (w : World) (g n cap : Nat) (bs : List UInt8) : Prop := w.ownsRow B 5 1 (.slice (some ⟨g, 0, none⟩) n cap) n (bvs bs)

theorem OB.rb {B : Nat} {w : World} {g n cap : Nat} {bs : List UInt8} (h : OB B w g n cap bs) : n = bs.length ∧ RB w (.slice (some ⟨g, 0, none⟩) n cap) bs := by
  have h0 : n = bs.length := by have := h.1; rw [bvs_len] at this; omega
  exact ⟨h0, RB.of_owns h h0⟩

theorem OB.lt {B : Nat} {w : World} {g n cap : Nat} {bs : List UInt8} (h : OB B w g n cap bs) : B ≤ g ∧ g < w.heap.size := World.ownsRow.lt h g rfl

theorem OB.later {B : Nat} {w w' : World} {g n cap : Nat} {bs : List UInt8} (h : OB B w g n cap bs) (hb : Below w.heap.size w w') : OB B w' g n cap bs := by
  refine ⟨h.1, ?_⟩
  rcases h.2 with hn | ⟨g', cap', cur, e1, e2, e3, rest⟩
  · exact .inl hn
  · refine .inr ⟨g', cap', cur, e1, e2, ?_, rest⟩
    rw [hb.block g' (Array.getElem?_eq_some_iff.1 e3).1]
    exact e3

theorem OB.below {B : Nat} {w w' : World} {g n cap : Nat} {bs : List UInt8} (h : OB B w g n cap bs) (hB : B ≤ w.heap.size) (hg : w.grownBy w' (some g)) : Below B w w' :=
  Below.grown (Below.refl _ _) hg hB (fun k hk => by cases hk; exact h.lt.1)

theorem append_bytes {w : World} {ops : Array Oper} {rest : List Oper} {o : Oper} {a : Act} {Q : Exit → Act → World → Prop} (hgd : o.guard = none) (s x : Operand)
    (ho : o.op = .call { callee := .builtin .append, args := #[s, x], argTypes := #[34, 34] }) (base g n cap : Nat) (bs : List UInt8)
    (hs : a.eval s = .slice (some ⟨g, 0, none⟩) n cap) (hown : OB base w g n cap bs) (xv : Value) (l : List UInt8) (hx : a.eval x = xv) (hr : RB w xv l)
    (hn : n ≤ 10000000) (hl : l.length ≤ 1000000) (hbase : base ≤ w.heap.size) (n2 : Nat) (bs2 : List UInt8) (hn2 : n2 = n + l.length) (hbs2 : bs2 = bs ++ l)
    (h : ∀ g' cap' w', OB base w' g' n2 cap' bs2 → w.grownBy w' (some g) → wpList Tryz.prog ops Q rest (a.put o.dst (.slice (some ⟨g', 0, none⟩) n2 cap')) w') : wpList Tryz.prog ops Q (o :: rest) a w := by
  subst hn2 hbs2
  obtain ⟨i0, hi, hz0, hz1, hz2⟩ := info_parts Tryz.info5
  have hr2 := hr
  obtain ⟨ad, cp, rfl, _, _, hnone, hc⟩ := hr
  cases ad with
  | none =>
    have h0 := hnone rfl
    subst h0
    have hl0 : l = [] := by
      cases l with
      | nil => rfl
      | cons y l =>
        obtain ⟨b, off, hb, _⟩ := hc 0 (by simp)
        cases hb
    subst hl0
    refine wpList_append_own_none hgd s x 34 ho base 5 i0 1 Tryz.underlying34 hi _ n _ hs hown hx ?_
    have := h g cap w (by rw [List.append_nil]; exact hown) ⟨rfl, rfl, rfl, Nat.le_refl _, fun _ _ _ => rfl⟩
    simpa using this
  | some ad =>
    refine wpList_append_own _ hgd s x 34 ho base 5 i0 (.int .u8 0) 1 1 Tryz.underlying34 hi hz0 hz1 hz2 rfl (by decide) _ n _ hs hown ad l.length cp (bvs l) hx (by rw [bvs_len]; omega) hr2.cells.2 bvs_one (by unfold maxLen; omega) (by omega) hbase ?_
    intro v' w' h1 h2 h3
    rcases h1.2 with ⟨rfl, h5⟩ | ⟨g', cap', cur, rfl, hrest⟩
    · have h6 := h3.1 rfl
      simp at h6
    · exact h g' cap' w' (by unfold OB; rw [bvs_append]; exact h1) h2

/-- A slice of no bytes, made anew. -/
theorem OB.made (w : World) (cap : Nat) (cur : Array Value) (hm : cap ≤ maxLen) (hs : cur.size = cap) : OB w.heap.size (w.alloc (.cells cur 5)) w.heap.size 0 cap [] :=
  World.ownsRow_made w cur cap (Nat.le_refl _) hm (by rw [hs, Nat.mul_one])

/-- Bytes that lie in a block made anew. -/
theorem RB.new (w : World) (l : List UInt8) (cs : Array Value) (t : TypeId) (h : cs.toList = bvs l) (hl : l.length ≤ 1000000) : RB (w.alloc (.cells cs t)) (.slice (some ⟨w.heap.size, 0, none⟩) l.length l.length) l := by
  refine ⟨_, _, rfl, Nat.le_refl _, by unfold maxLen; omega, (fun h => by cases h), fun i hi => ⟨_, _, rfl, ?_⟩⟩
  rw [Nat.zero_add, cell_of_row _ _ _ cs t (0, 0) (heap_alloc_new _ _), ← Array.getElem?_toList, h]
  simp [bvs, hi]

theorem made_any (M : Nat) (hM : M ≤ 1000000) (e : Int) (he : e = M) : ∃ C : Array Value, C.size = M ∧ ∀ w : World, (Instr.makeSlice 34 (.int .i64 0) (.int .i64 e)).run Tryz.prog w = .ok (.slice (some ⟨w.heap.size, 0, none⟩) 0 M) (w.alloc (.cells C 5)) := by
  subst he
  obtain ⟨i0, hi, hz0, hz1, hz2⟩ := info_parts Tryz.info5
  refine ⟨madeCells (Value.int .u8 0).cells (M * i0.size), by rw [size_madeCells, hz1, Nat.mul_one], fun w => ?_⟩
  have := run_make (P := Tryz.prog) w 34 5 i0 (.int .u8 0) Tryz.underlying34 hi hz0 .i64 .i64 0 M (Int.le_refl _) (by omega) (by rw [hz2]; omega) (by omega)
  simpa using this

theorem OB.cap {B : Nat} {w : World} {g n cap : Nat} {bs : List UInt8} (h : OB B w g n cap bs) : n ≤ cap ∧ cap ≤ maxLen := by
  obtain ⟨a', cap', he, g1, g2, _⟩ := h.rb.2
  simp only [Value.slice.injEq] at he
  obtain ⟨rfl, e1, rfl⟩ := he
  exact ⟨by omega, g2⟩

theorem OB.sub {B : Nat} {w : World} {g n cap : Nat} {bs : List UInt8} (h : OB B w g n cap bs) (lo : Nat) (h1 : lo ≤ n) (h2 : ¬ cap = lo) : RB w (.slice (some ⟨g, lo, none⟩) (n - lo) (cap - lo)) (bs.drop lo) := by
  have hr := h.rb
  have := hr.2.sub lo n cap h1 (by omega) h.cap.1 (Nat.le_refl _)
  unfold sliced at this
  rw [if_neg h2, Option.map_some, Go.WideShapes.add_plain, Nat.mul_one, Nat.zero_add, hr.1, List.take_length] at this
  rw [hr.1]
  exact this

theorem slice_from {w : World} {a : Option Addr} {n ca : Nat} {l : List UInt8} (h : RB w (.slice a n ca) l) (p : Nat) (hp : p ≤ l.length) :
    ∃ V, RB w V (l.drop p) ∧ ∀ wx : World, (Instr.sliceAt 34 (.slice a n ca) (some (.int .i64 p)) none none).run Tryz.prog wx = .ok V wx := by
  have h0 := h
  obtain ⟨a', ca', he, h1, _, _⟩ := h0
  simp only [Value.slice.injEq] at he
  obtain ⟨rfl, rfl, rfl⟩ := he
  have hs := h.sub p l.length ca hp (Nat.le_refl _) h1 (Nat.le_refl _)
  rw [List.take_length] at hs
  refine ⟨_, hs, fun wx => ?_⟩
  rw [run_sliceAt_slice wx 34 _ _ _ _ Tryz.underlying34, run_slice_l wx 34 a l.length ca Tryz.underlying34 .i64 p (by omega) (by omega)]
  have : (sizeOf (Tryz.prog.elem 34)).run Tryz.prog wx = .ok 1 wx := by kernel_rfl
  rw [this]
  simp

theorem slice_to {w : World} {a : Option Addr} {n ca : Nat} {l : List UInt8} (h : RB w (.slice a n ca) l) (hi : Nat) (h2 : hi ≤ l.length) (e : Int) (he : e = hi) :
    ∃ V, RB w V (l.take hi) ∧ ∀ wx : World, (Instr.sliceAt 34 (.slice a n ca) none (some (.int .i64 e)) none).run Tryz.prog wx = .ok V wx := by
  subst he
  have h0 := h
  obtain ⟨a', ca', he, h3, _, _⟩ := h0
  simp only [Value.slice.injEq] at he
  obtain ⟨rfl, rfl, rfl⟩ := he
  have hs := h.sub 0 hi ca (by omega) h2 (by omega) (Nat.le_refl _)
  rw [List.drop_zero] at hs
  refine ⟨_, hs, fun wx => ?_⟩
  rw [run_sliceAt_slice wx 34 _ _ _ _ Tryz.underlying34, run_slice_h wx 34 a l.length ca Tryz.underlying34 .i64 hi (by omega) (by omega)]
  have : (sizeOf (Tryz.prog.elem 34)).run Tryz.prog wx = .ok 1 wx := by kernel_rfl
  rw [this]
  simp

theorem owns_low {w : World} {B B' : Nat} {e : TypeId} {size : Nat} {v : Value} {n : Nat} {xs : List Value} (h : w.ownsRow B e size v n xs) (hB : B' ≤ B) : w.ownsRow B' e size v n xs := by
  obtain ⟨h1, h2⟩ := h
  refine ⟨h1, ?_⟩
  rcases h2 with h2 | ⟨g, cap, cur, a, b, c⟩
  · exact .inl h2
  · exact .inr ⟨g, cap, cur, a, by omega, c⟩

theorem bcat (a b : List UInt8) : (⟨a.toArray⟩ : ByteArray) ++ ⟨b.toArray⟩ = ⟨(a ++ b).toArray⟩ := by
  apply ByteArray.ext
  rw [ByteArray.data_append]
  simp

theorem bsize (a : List UInt8) : (⟨a.toArray⟩ : ByteArray).size = a.length := by simp [ByteArray.size]

theorem bext (l : List UInt8) (i j : Nat) : (⟨l.toArray⟩ : ByteArray).extract i j = ⟨((l.take j).drop i).toArray⟩ := by
  apply ByteArray.ext
  simp [ByteArray.data_extract, List.extract_toArray, List.extract_eq_take_drop, List.drop_take]

theorem str_from (l : List UInt8) (p : Nat) (hp : p ≤ l.length) (wx : World) : (Instr.sliceAt 9 (.string ⟨l.toArray⟩) (some (.int .i64 p)) none none).run Tryz.prog wx = .ok (.string ⟨(l.drop p).toArray⟩) wx := by
  rw [run_sliceAt_string wx 9 _ _ _ _ Tryz.underlying9, run_slice_string_l wx 9 _ Tryz.underlying9 .i64 p (by omega) (by rw [bsize]; omega), bext, bsize, List.take_length, Int.toNat_natCast]

theorem str_to (l : List UInt8) (p : Nat) (e : Int) (he : e = p) (hp : p ≤ l.length) (wx : World) : (Instr.sliceAt 9 (.string ⟨l.toArray⟩) none (some (.int .i64 e)) none).run Tryz.prog wx = .ok (.string ⟨(l.take p).toArray⟩) wx := by
  subst he
  rw [run_sliceAt_string wx 9 _ _ _ _ Tryz.underlying9, run_slice_string_h wx 9 _ Tryz.underlying9 .i64 p (by omega) (by rw [bsize]; omega), bext, List.drop_zero, Int.toNat_natCast]

theorem str_mid (l : List UInt8) (i p : Nat) (e0 e : Int) (he0 : e0 = i) (he : e = p) (hi : i ≤ p) (hp : p ≤ l.length) (wx : World) : (Instr.sliceAt 9 (.string ⟨l.toArray⟩) (some (.int .i64 e0)) (some (.int .i64 e)) none).run Tryz.prog wx = .ok (.string ⟨((l.take p).drop i).toArray⟩) wx := by
  subst he he0
  rw [run_sliceAt_string wx 9 _ _ _ _ Tryz.underlying9, run_slice_string wx 9 _ .i64 .i64 i p Tryz.underlying9 (by omega) (by omega) (by rw [bsize]; omega), bext, Int.toNat_natCast, Int.toNat_natCast]

theorem str_at (l : List UInt8) (i : Nat) (e : Int) (he : e = i) (hi : i < l.length) (wx : World) : (Instr.index 9 (.string ⟨l.toArray⟩) (.int .i64 e)).run Tryz.prog wx = .ok (.int .u8 ((l.getD i 0).toNat : Nat)) wx := by
  subst he
  rw [run_index_string wx 9 _ .i64 i Tryz.underlying9, dif_pos ⟨by omega, by rw [bsize]; omega⟩]
  congr 3
  show ((l.toArray)[(i : Int).toNat]'_).toNat = _
  simp [hi]

theorem ret_b {a b : Bool} (h : a = b) : Ending.returned (.bool a) = .returned (.bool b) := by rw [h]

theorem OB.cell {B : Nat} {w : World} {g n cap : Nat} {bs : List UInt8} (h : OB B w g n cap bs) (j : Nat) (hj : j < n) : w.cell? ⟨g, j, none⟩ = some (.int .u8 ((bs.getD j 0).toNat : Nat)) := by
  have h0 := h.rb.1
  rw [World.ownsRow.cellAt h j (by omega)]
  have hj2 : j < bs.length := by omega
  simp [bvs, hj2]

end Go.Proofs.YtijkgdbabikojaaGreat

