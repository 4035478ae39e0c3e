/- Plain facts: a number's bytes, what is read at a place of bytes, and lists. -/
namespace Go.Proofs.Ytamfpmpooaejkaa
set_option maxRecDepth 1000000

/-- A number's bytes. -/
def oneP (n : Nat) : List UInt8 := if n < 128 then [UInt8.ofNat n] else UInt8.ofNat (128 + n % 128) :: oneP (n / 128)
termination_by n
decreasing_by omega

/-- What bytes are worth. -/
def val : List UInt8 → Nat
  | [] => 0
  | c :: l => c.toNat % 128 + 128 * val l

/-- How many bytes from the front on are not a last one. -/
def longs : List UInt8 → Nat
  | [] => 0
  | c :: l => if 128 ≤ c.toNat then longs l + 1 else 0

/-- The number at the front of bytes: it, how many bytes it has, the error. -/
def numP (l : List UInt8) : Nat × Nat × Nat :=
  if 6 ≤ longs l then (0, 0, 4) else if longs l = l.length then (0, 0, 3)
  else if ((l.getD (longs l) 0).toNat = 0 ∧ 0 < longs l) ∨ 1099511627776 < val (l.take (longs l + 1)) then (0, 0, 4)
  else (val (l.take (longs l + 1)), longs l + 1, 0)

theorem b_lt (c : UInt8) : c.toNat < 256 := UInt8.toNat_lt c
theorem u8_nat (n : Nat) : (UInt8.ofNat n).toNat = n % 256 := by simp

theorem one_lt {n : Nat} (h : n < 128) : oneP n = [UInt8.ofNat n] := by rw [oneP, if_pos h]
theorem one_ge {n : Nat} (h : ¬ n < 128) : oneP n = UInt8.ofNat (128 + n % 128) :: oneP (n / 128) := by rw [oneP, if_neg h]

theorem one_pos (n : Nat) : 0 < (oneP n).length := by
  by_cases h : n < 128
  · rw [one_lt h]; simp
  · rw [one_ge h]; simp

theorem one_ne (n : Nat) : oneP n ≠ [] := fun h => by have := one_pos n; rw [h] at this; simp at this

theorem one_len_ge {n : Nat} (h : ¬ n < 128) : (oneP n).length = (oneP (n / 128)).length + 1 := by rw [one_ge h, List.length_cons]

theorem one_len_lt {n : Nat} (h : n < 128) : (oneP n).length = 1 := by rw [one_lt h]; rfl

theorem one_len_le : ∀ (k n : Nat), n < 128 ^ (k + 1) → (oneP n).length ≤ k + 1
  | 0, n, h => by rw [one_len_lt (by simpa using h)]; omega
  | k + 1, n, h => by
    by_cases h1 : n < 128
    · rw [one_len_lt h1]; omega
    · rw [one_len_ge h1]
      have h2 : n / 128 < 128 ^ (k + 1) := by
        rw [Nat.div_lt_iff_lt_mul (by decide), ← Nat.pow_succ]
        exact h
      have := one_len_le k (n / 128) h2
      omega

theorem one_six {n : Nat} (h : n ≤ 1099511627776) : (oneP n).length ≤ 6 := one_len_le 5 n (by omega)

theorem one_mono : ∀ (m n : Nat), n ≤ m → (oneP n).length ≤ (oneP m).length := by
  intro m
  induction m using Nat.strongRecOn with
  | _ m ih =>
    intro n hn
    by_cases h1 : n < 128
    · rw [one_len_lt h1]; exact one_pos m
    · rw [one_len_ge h1, one_len_ge (show ¬ m < 128 by omega)]
      have := ih (m / 128) (by omega) (n / 128) (by omega)
      omega

theorem val_one (n : Nat) : val (oneP n) = n := by
  induction n using Nat.strongRecOn with
  | _ n ih =>
    by_cases h : n < 128
    · rw [one_lt h]
      show (UInt8.ofNat n).toNat % 128 + 128 * 0 = n
      rw [u8_nat]; omega
    · rw [one_ge h]
      show (UInt8.ofNat (128 + n % 128)).toNat % 128 + 128 * val (oneP (n / 128)) = n
      rw [ih (n / 128) (by omega), u8_nat]
      omega

theorem longs_one (r : List UInt8) (n : Nat) : longs (oneP n ++ r) + 1 = (oneP n).length := by
  induction n using Nat.strongRecOn with
  | _ n ih =>
    by_cases h : n < 128
    · rw [one_lt h]
      show (if 128 ≤ (UInt8.ofNat n).toNat then _ else 0) + 1 = 1
      rw [if_neg (by rw [u8_nat]; omega)]
    · rw [one_ge h]
      show (if 128 ≤ (UInt8.ofNat (128 + n % 128)).toNat then longs (oneP (n / 128) ++ r) + 1 else 0) + 1 = _
      rw [if_pos (by rw [u8_nat]; omega), ih (n / 128) (by omega), List.length_cons]

theorem longs_short (n : Nat) : longs (oneP n).dropLast = (oneP n).dropLast.length ∧ (oneP n).dropLast.length + 1 = (oneP n).length := by
  refine ⟨?_, by rw [List.length_dropLast]; have := one_pos n; omega⟩
  induction n using Nat.strongRecOn with
  | _ n ih =>
    by_cases h : n < 128
    · rw [one_lt h]; rfl
    · rw [one_ge h, List.dropLast_cons_of_ne_nil (one_ne _), List.length_cons]
      show (if 128 ≤ (UInt8.ofNat (128 + n % 128)).toNat then longs (oneP (n / 128)).dropLast + 1 else 0) = _
      rw [if_pos (by rw [u8_nat]; omega), ih (n / 128) (by omega)]

theorem last_one (r : List UInt8) : ∀ n : Nat, 0 < n → ((oneP n ++ r).getD ((oneP n).length - 1) 0).toNat ≠ 0 := by
  intro n
  induction n using Nat.strongRecOn with
  | _ n ih =>
    intro hn
    by_cases h : n < 128
    · rw [one_lt h]
      show (UInt8.ofNat n).toNat ≠ 0
      rw [u8_nat]; omega
    · have := ih (n / 128) (by omega) (by omega)
      have hp := one_pos (n / 128)
      rw [one_ge h, List.length_cons, Nat.add_sub_cancel, List.cons_append]
      rw [show (oneP (n / 128)).length = ((oneP (n / 128)).length - 1) + 1 by omega, List.getD_cons_succ]
      exact this

/-- What was put is taken, whatever stands behind it. -/
theorem num_put (n : Nat) (r : List UInt8) (h : n ≤ 1099511627776) : numP (oneP n ++ r) = (n, (oneP n).length, 0) := by
  have h1 := longs_one r n
  have h6 := one_six h
  have hv : val ((oneP n ++ r).take (longs (oneP n ++ r) + 1)) = n := by rw [h1, List.take_left, val_one]
  unfold numP
  rw [if_neg (by omega), if_neg (by rw [List.length_append]; omega), hv, if_neg, h1]
  rintro (⟨h2, h3⟩ | h2)
  · by_cases h0 : n < 128
    · rw [one_len_lt h0] at h1; omega
    · have := last_one r n (by omega)
      rw [show longs (oneP n ++ r) = (oneP n).length - 1 by omega] at h2
      exact this h2
  · omega

theorem num_short (n : Nat) (h : n ≤ 1099511627776) : numP (oneP n).dropLast = (0, 0, 3) := by
  obtain ⟨h1, h2⟩ := longs_short n
  have h6 := one_six h
  unfold numP
  rw [if_neg (by omega), if_pos h1]

theorem one_val : ∀ (s : List UInt8), longs s + 1 = s.length → ((s.getD (s.length - 1) 0).toNat ≠ 0 ∨ s.length = 1) → oneP (val s) = s ∧ (s.length ≠ 1 → 0 < val s)
  | [], h, _ => by simp [longs] at h
  | [c], h, _ => by
    have hc : c.toNat < 128 := by
      simp only [longs, List.length_cons, List.length_nil] at h
      split at h <;> omega
    refine ⟨?_, fun h => absurd rfl h⟩
    have : val [c] = c.toNat := by show c.toNat % 128 + 128 * 0 = _; omega
    rw [this, one_lt hc]
    simp
  | c :: d :: s, h, hl => by
    have hc : 128 ≤ c.toNat := by
      by_cases hc : 128 ≤ c.toNat
      · exact hc
      · unfold longs at h; rw [if_neg hc] at h; simp at h
    have h2 : longs (d :: s) + 1 = (d :: s).length := by
      have h3 : longs (c :: d :: s) = longs (d :: s) + 1 := by rw [longs, if_pos hc]
      rw [h3, List.length_cons] at h; omega
    have hl2 : ((d :: s).getD ((d :: s).length - 1) 0).toNat ≠ 0 := by
      rcases hl with hl | hl
      · have e : (c :: d :: s).length - 1 = ((d :: s).length - 1) + 1 := by simp
        rw [e, List.getD_cons_succ] at hl
        exact hl
      · simp at hl
    obtain ⟨i1, i2⟩ := one_val (d :: s) h2 (.inl hl2)
    have hpos : 0 < val (d :: s) := by
      by_cases h1 : (d :: s).length = 1
      · have hs : s = [] := by simpa using h1
        subst hs
        have h5 : val [d] = d.toNat % 128 + 128 * 0 := rfl
        have hd : d.toNat < 128 := by
          simp only [longs, List.length_cons, List.length_nil] at h2
          split at h2 <;> omega
        have hl3 : d.toNat ≠ 0 := hl2
        omega
      · exact i2 h1
    have hv : val (c :: d :: s) = c.toNat % 128 + 128 * val (d :: s) := rfl
    have hc2 := b_lt c
    refine ⟨?_, fun _ => by omega⟩
    rw [one_ge (by omega), hv, show (c.toNat % 128 + 128 * val (d :: s)) / 128 = val (d :: s) by omega, i1]
    congr 1
    apply UInt8.toNat_inj.1
    rw [u8_nat]
    omega

theorem longs_le : ∀ l : List UInt8, longs l ≤ l.length
  | [] => Nat.le_refl _
  | c :: l => by
    have := longs_le l
    unfold longs
    rw [List.length_cons]
    split <;> omega

theorem longs_take : ∀ l : List UInt8, longs l < l.length → longs (l.take (longs l + 1)) = longs l
  | [], h => by simp at h
  | c :: l, h => by
    by_cases hc : 128 ≤ c.toNat
    · have e : longs (c :: l) = longs l + 1 := by rw [longs, if_pos hc]
      rw [e, List.length_cons] at h
      rw [e, List.take_succ_cons, longs, if_pos hc, longs_take l (by omega)]
    · have e : longs (c :: l) = 0 := by rw [longs, if_neg hc]
      rw [e, List.take_succ_cons, longs, if_neg hc]

/-- What is taken has just these bytes. -/
theorem num_ok {l : List UInt8} (h : (numP l).2.2 = 0) : (numP l).1 ≤ 1099511627776 ∧ 0 < (numP l).2.1 ∧ (numP l).2.1 ≤ l.length ∧ (numP l).2.1 ≤ 6 ∧ oneP (numP l).1 = l.take (numP l).2.1 := by
  unfold numP at h ⊢
  by_cases h1 : 6 ≤ longs l
  · rw [if_pos h1] at h; simp at h
  rw [if_neg h1] at h ⊢
  by_cases h2 : longs l = l.length
  · rw [if_pos h2] at h; simp at h
  rw [if_neg h2] at h ⊢
  by_cases h3 : ((l.getD (longs l) 0).toNat = 0 ∧ 0 < longs l) ∨ 1099511627776 < val (l.take (longs l + 1))
  · rw [if_pos h3] at h; simp at h
  rw [if_neg h3]
  have h4 := longs_le l
  have hlt : longs l < l.length := by omega
  have hlen : (l.take (longs l + 1)).length = longs l + 1 := by rw [List.length_take]; omega
  refine ⟨by simp only []; omega, by simp, by simp only []; omega, by simp only []; omega, ?_⟩
  refine (one_val (l.take (longs l + 1)) (by rw [longs_take l hlt, hlen]) ?_).1
  rw [hlen, Nat.add_sub_cancel]
  by_cases h5 : longs l = 0
  · right; omega
  · left
    intro h6
    apply h3
    left
    refine ⟨?_, by omega⟩
    rw [List.getD_eq_getElem?_getD, List.getElem?_take, if_pos (by omega)] at h6
    rw [List.getD_eq_getElem?_getD]
    exact h6

theorem num_err {l : List UInt8} (h : (numP l).2.2 ≠ 0) : (numP l).1 = 0 ∧ (numP l).2.1 = 0 ∧ ((numP l).2.2 = 3 ∨ (numP l).2.2 = 4) := by
  unfold numP at h ⊢
  split
  · simp
  · split
    · simp
    · split
      · simp
      · rename_i h1 h2 h3
        rw [if_neg h1, if_neg h2, if_neg h3] at h
        simp at h

/-- The number at a place: it, the place behind it, the error. -/
def takeP (l : List UInt8) (p : Nat) : Nat × Nat × Nat := ((numP (l.drop p)).1, (if (numP (l.drop p)).2.2 = 0 then p + (numP (l.drop p)).2.1 else 0), (numP (l.drop p)).2.2)

theorem take_ok {l : List UInt8} {p : Nat} (hp : p ≤ l.length) (h : (takeP l p).2.2 = 0) : (takeP l p).1 ≤ 1099511627776 ∧ p < (takeP l p).2.1 ∧ (takeP l p).2.1 ≤ l.length ∧ oneP (takeP l p).1 = (l.take (takeP l p).2.1).drop p := by
  have h0 : (numP (l.drop p)).2.2 = 0 := h
  obtain ⟨h1, h2, h3, _, h4⟩ := num_ok h0
  have e : (takeP l p).2.1 = p + (numP (l.drop p)).2.1 := by unfold takeP; rw [if_pos h0]
  rw [List.length_drop] at h3
  rw [e]
  refine ⟨h1, by omega, by omega, ?_⟩
  show oneP (numP (l.drop p)).1 = _
  rw [h4, List.drop_take, Nat.add_sub_cancel_left]

theorem take_err {l : List UInt8} {p : Nat} (h : (takeP l p).2.2 ≠ 0) : (takeP l p).1 = 0 ∧ (takeP l p).2.1 = 0 ∧ ((takeP l p).2.2 = 3 ∨ (takeP l p).2.2 = 4) := by
  have h0 : (numP (l.drop p)).2.2 ≠ 0 := h
  obtain ⟨h1, h2, h3⟩ := num_err h0
  exact ⟨h1, by unfold takeP; rw [if_neg h0], h3⟩

theorem take_put (a : List UInt8) (n : Nat) (r : List UInt8) (h : n ≤ 1099511627776) : takeP (a ++ (oneP n ++ r)) a.length = (n, a.length + (oneP n).length, 0) := by
  unfold takeP
  rw [List.drop_left, num_put n r h]
  rfl

theorem take_short (a : List UInt8) (n : Nat) (h : n ≤ 1099511627776) : takeP (a ++ (oneP n).dropLast) a.length = (0, 0, 3) := by
  unfold takeP
  rw [List.drop_left, num_short n h]
  rfl

/-- So many numbers from a place on. -/
def takesP (l : List UInt8) : Nat → Nat → List Nat × Nat × Nat
  | 0, p => ([], p, 0)
  | c + 1, p =>
    if (takeP l p).2.2 = 0 then
      (if (takesP l c (takeP l p).2.1).2.2 = 0 then ((takeP l p).1 :: (takesP l c (takeP l p).2.1).1, (takesP l c (takeP l p).2.1).2.1, 0) else ([], 0, (takesP l c (takeP l p).2.1).2.2))
    else ([], 0, (takeP l p).2.2)

/-- The list at a place. -/
def listP (l : List UInt8) (p : Nat) : List Nat × Nat × Nat :=
  if (takeP l p).2.2 = 0 then (if 255 < (takeP l p).1 then ([], 0, 5) else takesP l (takeP l p).1 (takeP l p).2.1) else ([], 0, (takeP l p).2.2)

/-- A list's bytes. -/
def manyP (ns : List Nat) : List UInt8 := ns.flatMap oneP
def putsP (ns : List Nat) : List UInt8 := oneP ns.length ++ manyP ns

theorem many_cons (n : Nat) (ns : List Nat) : manyP (n :: ns) = oneP n ++ manyP ns := by simp [manyP]
theorem many_snoc (n : Nat) (ns : List Nat) : manyP (ns ++ [n]) = manyP ns ++ oneP n := by simp [manyP]
theorem many_len : ∀ (ns : List Nat), (∀ n ∈ ns, n ≤ 1099511627776) → (manyP ns).length ≤ 6 * ns.length
  | [], _ => by simp [manyP]
  | n :: ns, h => by
    have h1 := many_len ns (fun m hm => h m (List.mem_cons_of_mem _ hm))
    have h2 := one_six (h n (List.mem_cons_self ..))
    rw [many_cons, List.length_append, List.length_cons]
    omega

theorem many_ne {n : Nat} {ns : List Nat} : manyP (n :: ns) ≠ [] := by
  rw [many_cons]
  intro h
  exact one_ne n (List.append_eq_nil_iff.1 h).1

theorem takes_put : ∀ (ns : List Nat) (a r : List UInt8), (∀ n ∈ ns, n ≤ 1099511627776) → takesP (a ++ (manyP ns ++ r)) ns.length a.length = (ns, a.length + (manyP ns).length, 0)
  | [], a, r, _ => by simp [takesP, manyP]
  | n :: ns, a, r, h => by
    have h1 := take_put a n (manyP ns ++ r) (h n (List.mem_cons_self ..))
    have h2 := takes_put ns (a ++ oneP n) r (fun m hm => h m (List.mem_cons_of_mem _ hm))
    rw [List.append_assoc, List.length_append] at h2
    rw [many_cons, List.append_assoc, List.length_cons]
    unfold takesP
    rw [h1]
    simp only [if_true, h2, List.length_append]
    rw [Nat.add_assoc]

theorem takes_short : ∀ (ns : List Nat) (a : List UInt8), ns ≠ [] → (∀ n ∈ ns, n ≤ 1099511627776) → takesP (a ++ (manyP ns).dropLast) ns.length a.length = ([], 0, 3)
  | [], _, h, _ => absurd rfl h
  | [n], a, _, h => by
    have e : manyP [n] = oneP n := by simp [manyP]
    have h1 := take_short a n (h n (List.mem_cons_self ..))
    rw [e]
    show takesP _ (0 + 1) _ = _
    unfold takesP
    rw [h1]
    rfl
  | n :: m :: ns, a, _, h => by
    have h2 := takes_short (m :: ns) (a ++ oneP n) (by simp) (fun x hx => h x (List.mem_cons_of_mem _ hx))
    rw [List.append_assoc, List.length_append] at h2
    have h1 := take_put a n (manyP (m :: ns)).dropLast (h n (List.mem_cons_self ..))
    rw [many_cons n (m :: ns), List.dropLast_append_of_ne_nil many_ne]
    show takesP _ ((m :: ns).length + 1) _ = _
    unfold takesP
    rw [h1]
    simp only [if_true, h2]
    rfl

theorem takes_ok {l : List UInt8} : ∀ (c p : Nat), p ≤ l.length → (takesP l c p).2.2 = 0 → (takesP l c p).1.length = c ∧ (∀ n ∈ (takesP l c p).1, n ≤ 1099511627776) ∧ p ≤ (takesP l c p).2.1 ∧ (takesP l c p).2.1 ≤ l.length ∧ manyP (takesP l c p).1 = (l.take (takesP l c p).2.1).drop p
  | 0, p, hp, _ => by
    refine ⟨rfl, by simp [takesP], Nat.le_refl _, hp, ?_⟩
    show manyP [] = (l.take p).drop p
    rw [List.drop_eq_nil_of_le (by rw [List.length_take]; omega)]
    rfl
  | c + 1, p, hp, h => by
    unfold takesP at h ⊢
    by_cases h1 : (takeP l p).2.2 = 0
    · rw [if_pos h1] at h ⊢
      obtain ⟨a1, a2, a3, a4⟩ := take_ok hp h1
      by_cases h2 : (takesP l c (takeP l p).2.1).2.2 = 0
      · rw [if_pos h2]
        obtain ⟨b1, b2, b3, b4, b5⟩ := takes_ok c (takeP l p).2.1 a3 h2
        refine ⟨by simp [b1], ?_, by simp only []; omega, b4, ?_⟩
        · intro n hn
          simp only [List.mem_cons] at hn
          rcases hn with rfl | hn
          · exact a1
          · exact b2 n hn
        · simp only []
          rw [many_cons, a4, b5]
          have e1 : l.take (takeP l p).2.1 = (l.take (takesP l c (takeP l p).2.1).2.1).take (takeP l p).2.1 := by rw [List.take_take, Nat.min_eq_left b3]
          rw [e1]
          generalize l.take (takesP l c (takeP l p).2.1).2.1 = L
          generalize (takeP l p).2.1 = q at *
          rw [List.drop_take]
          conv => rhs; rw [← List.take_append_drop (q - p) (L.drop p)]
          rw [List.drop_drop, show p + (q - p) = q by omega]
      · rw [if_neg h2] at h
        exact absurd h h2
    · rw [if_neg h1] at h
      exact absurd h h1

theorem takes_err {l : List UInt8} : ∀ (c p : Nat), (takesP l c p).2.2 ≠ 0 → (takesP l c p).1 = [] ∧ (takesP l c p).2.1 = 0
  | 0, p, h => absurd rfl h
  | c + 1, p, h => by
    unfold takesP at h ⊢
    by_cases h1 : (takeP l p).2.2 = 0
    · rw [if_pos h1] at h ⊢
      by_cases h2 : (takesP l c (takeP l p).2.1).2.2 = 0
      · rw [if_pos h2] at h
        exact absurd rfl h
      · rw [if_neg h2]
        exact ⟨rfl, rfl⟩
    · rw [if_neg h1]
      exact ⟨rfl, rfl⟩

theorem list_put (a : List UInt8) (ns : List Nat) (r : List UInt8) (hl : ns.length ≤ 255) (h : ∀ n ∈ ns, n ≤ 1099511627776) : listP (a ++ (putsP ns ++ r)) a.length = (ns, a.length + (putsP ns).length, 0) := by
  have h1 := take_put a ns.length (manyP ns ++ r) (by omega)
  have h2 := takes_put ns (a ++ oneP ns.length) r h
  rw [List.append_assoc, List.length_append] at h2
  unfold listP putsP
  rw [List.append_assoc, h1]
  simp only [if_true, List.length_append]
  rw [if_neg (by omega), h2, Nat.add_assoc]

theorem list_short (a : List UInt8) (ns : List Nat) (hl : ns.length ≤ 255) (h : ∀ n ∈ ns, n ≤ 1099511627776) : listP (a ++ (putsP ns).dropLast) a.length = ([], 0, 3) := by
  cases ns with
  | nil =>
    have h1 := take_short a 0 (by omega)
    have e : putsP [] = oneP 0 := by simp [putsP, manyP]
    unfold listP
    rw [e, h1]
    rfl
  | cons n ns =>
    have h1 := take_put a (n :: ns).length (manyP (n :: ns)).dropLast (by omega)
    have h2 := takes_short (n :: ns) (a ++ oneP (n :: ns).length) (by simp) h
    rw [List.append_assoc, List.length_append] at h2
    unfold listP putsP
    rw [List.dropLast_append_of_ne_nil many_ne, h1]
    simp only [if_true]
    rw [if_neg (by omega), h2]

theorem list_ok {l : List UInt8} {p : Nat} (hp : p ≤ l.length) (h : (listP l p).2.2 = 0) : (listP l p).1.length ≤ 255 ∧ (∀ n ∈ (listP l p).1, n ≤ 1099511627776) ∧ p ≤ (listP l p).2.1 ∧ (listP l p).2.1 ≤ l.length ∧ putsP (listP l p).1 = (l.take (listP l p).2.1).drop p := by
  unfold listP at h ⊢
  by_cases h1 : (takeP l p).2.2 = 0
  · rw [if_pos h1] at h ⊢
    obtain ⟨a1, a2, a3, a4⟩ := take_ok hp h1
    by_cases h2 : 255 < (takeP l p).1
    · rw [if_pos h2] at h; simp at h
    · rw [if_neg h2] at h ⊢
      obtain ⟨b1, b2, b3, b4, b5⟩ := takes_ok (takeP l p).1 (takeP l p).2.1 a3 h
      refine ⟨by omega, b2, by omega, b4, ?_⟩
      unfold putsP
      rw [b1, a4, b5]
      generalize hQ : (takesP l (takeP l p).1 (takeP l p).2.1).2.1 = Q at *
      have e1 : l.take (takeP l p).2.1 = (l.take Q).take (takeP l p).2.1 := by rw [List.take_take, Nat.min_eq_left b3]
      rw [e1]
      generalize l.take Q = L
      generalize (takeP l p).2.1 = q at *
      rw [List.drop_take]
      conv => rhs; rw [← List.take_append_drop (q - p) (L.drop p)]
      rw [List.drop_drop, show p + (q - p) = q by omega]
  · rw [if_neg h1] at h
    exact absurd h h1

theorem list_err {l : List UInt8} {p : Nat} (h : (listP l p).2.2 ≠ 0) : (listP l p).1 = [] ∧ (listP l p).2.1 = 0 := by
  unfold listP at h ⊢
  by_cases h1 : (takeP l p).2.2 = 0
  · rw [if_pos h1] at h ⊢
    by_cases h2 : 255 < (takeP l p).1
    · rw [if_pos h2]; exact ⟨rfl, rfl⟩
    · rw [if_neg h2] at h ⊢
      exact takes_err _ _ h
  · rw [if_neg h1]
    exact ⟨rfl, rfl⟩

theorem puts_len (ns : List Nat) (hl : ns.length ≤ 255) (h : ∀ n ∈ ns, n ≤ 1099511627776) : (putsP ns).length ≤ 1600 := by
  have h1 := many_len ns h
  have h2 := one_six (n := ns.length) (by omega)
  unfold putsP
  rw [List.length_append]
  omega

theorem puts_pos (ns : List Nat) : 0 < (putsP ns).length := by
  have := one_pos ns.length
  unfold putsP
  rw [List.length_append]
  omega
end Go.Proofs.Ytamfpmpooaejkaa
