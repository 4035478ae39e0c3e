/- Plain facts about code points and their bytes: nothing of the program is named here. -/
import GoSem.Core.Utf8
namespace Go.Proofs.Ytchdecoceokcmaa

/-- Is a number a code point? -/
def isCp (r : Int) : Bool := decide (0 ≤ r ∧ r ≤ 1114111 ∧ (r < 55296 ∨ 57343 < r))

/-- The width of a number as a code point; 0 of what is none. -/
def wid (r : Int) : Int := if r < 0 then 0 else if r < 128 then 1 else if r < 2048 then 2 else if r < 55296 then 3 else if r < 57344 then 0 else if r < 65536 then 3 else if r < 1114112 then 4 else 0

/-- A number's bytes, by how great it is. -/
def encN (n : Nat) : List UInt8 :=
  if n < 128 then [UInt8.ofNat n]
  else if n < 2048 then [UInt8.ofNat (192 + n / 64), UInt8.ofNat (128 + n % 64)]
  else if n < 65536 then [UInt8.ofNat (224 + n / 4096), UInt8.ofNat (128 + n / 64 % 64), UInt8.ofNat (128 + n % 64)]
  else [UInt8.ofNat (240 + n / 262144), UInt8.ofNat (128 + n / 4096 % 64), UInt8.ofNat (128 + n / 64 % 64), UInt8.ofNat (128 + n % 64)]

/-- A code point's bytes. -/
def enc (r : Int) : List UInt8 := encN r.toNat

def encAll : List Int → List UInt8
  | [] => []
  | c :: cs => enc c ++ encAll cs

/-- At the beginning of these bytes stands no code point. -/
def NoCp (l : List UInt8) : Prop := ∀ c, isCp c = true → ¬ (enc c <+: l)

/-- A text's code points, and what is left from the first bad byte on. -/
structure Parts (l : List UInt8) (cs : List Int) (rest : List UInt8) : Prop where
  eq : l = encAll cs ++ rest
  cp : ∀ c ∈ cs, isCp c = true
  stop : rest = [] ∨ NoCp rest

theorem isCp_iff (r : Int) : isCp r = true ↔ (0 ≤ r ∧ r ≤ 1114111 ∧ (r < 55296 ∨ 57343 < r)) := by simp [isCp]

theorem ofNat_toNat (n : Nat) (h : n < 256) : (UInt8.ofNat n).toNat = n := by
  simp [Nat.mod_eq_of_lt h]

theorem valid_of (r : Int) (h : isCp r = true) : Utf8.valid r = true := by
  rw [isCp_iff] at h
  simp [Utf8.valid]
  omega

theorem enc_nat (n : Nat) : enc n = encN n := by
  rw [enc, Int.toNat_natCast]

theorem enc1 (n : Nat) (h : n < 128) : enc n = [UInt8.ofNat n] := by
  rw [enc_nat, encN, if_pos h]
theorem enc2 (n : Nat) (h0 : 128 ≤ n) (h : n < 2048) : enc n = [UInt8.ofNat (192 + n / 64), UInt8.ofNat (128 + n % 64)] := by
  rw [enc_nat, encN, if_neg (by omega), if_pos h]
theorem enc3 (n : Nat) (h0 : 2048 ≤ n) (h : n < 65536) : enc n = [UInt8.ofNat (224 + n / 4096), UInt8.ofNat (128 + n / 64 % 64), UInt8.ofNat (128 + n % 64)] := by
  rw [enc_nat, encN, if_neg (by omega), if_neg (by omega), if_pos h]
theorem enc4 (n : Nat) (h0 : 65536 ≤ n) : enc n = [UInt8.ofNat (240 + n / 262144), UInt8.ofNat (128 + n / 4096 % 64), UInt8.ofNat (128 + n / 64 % 64), UInt8.ofNat (128 + n % 64)] := by
  rw [enc_nat, encN, if_neg (by omega), if_neg (by omega), if_neg (by omega)]

/-- A code point is of one of four kinds. -/
theorem cp_cases (r : Int) (h : isCp r = true) : ∃ n : Nat, r = n ∧ (n < 128 ∨ (128 ≤ n ∧ n < 2048) ∨ (2048 ≤ n ∧ n < 65536 ∧ (n < 55296 ∨ 57343 < n)) ∨ (65536 ≤ n ∧ n < 1114112)) := by
  rw [isCp_iff] at h
  exact ⟨r.toNat, by omega, by omega⟩

theorem get_drop (s : ByteArray) (pos k : Nat) : s.get! (pos + k) = (s.data.toList.drop pos)[k]?.getD 0 := by
  rw [List.getElem?_drop]
  show s.data[pos + k]! = _
  by_cases h : pos + k < s.data.size
  · rw [getElem!_pos s.data (pos + k) h]
    rw [Array.getElem?_toList, Array.getElem?_eq_getElem h]
    rfl
  · rw [getElem!_neg s.data (pos + k) h]
    rw [Array.getElem?_toList, Array.getElem?_eq_none (by omega)]
    rfl

theorem in_drop (s : ByteArray) (pos k : Nat) : decide (pos + k < s.size) = decide (k < (s.data.toList.drop pos).length) := by
  rw [decide_eq_decide, List.length_drop]
  show pos + k < s.data.size ↔ _
  simp
  omega

theorem decode_cp (s : ByteArray) (pos : Nat) (c : Int) (t : List UInt8) (hl : s.data.toList.drop pos = enc c ++ t) (h : isCp c = true) : Utf8.decode s pos = (c.toNat, (enc c).length) := by
  unfold Utf8.decode Utf8.runeError
  simp only [get_drop, in_drop, hl]
  clear hl
  obtain ⟨n, rfl, hn⟩ := cp_cases c h
  rcases hn with hn | ⟨h1, h2⟩ | ⟨h1, h2, h3⟩ | ⟨h1, h2⟩
  · rw [enc1 n hn]
    have e0 := ofNat_toNat n (by omega)
    simp only [List.cons_append, List.nil_append, List.getElem?_cons_zero, Option.getD_some, e0]
    rw [if_pos hn]
    simp
  · rw [enc2 n h1 h2]
    have e0 := ofNat_toNat (192 + n / 64) (by omega)
    have e1 := ofNat_toNat (128 + n % 64) (by omega)
    simp only [List.cons_append, List.nil_append, List.getElem?_cons_zero, List.getElem?_cons_succ, Option.getD_some, e0, e1]
    rw [if_neg (by omega), if_pos (by simp; omega), if_pos (by omega)]
    simp
    omega
  · rw [enc3 n h1 h2]
    have e0 := ofNat_toNat (224 + n / 4096) (by omega)
    have e1 := ofNat_toNat (128 + n / 64 % 64) (by omega)
    have e2 := ofNat_toNat (128 + n % 64) (by omega)
    simp only [List.cons_append, List.nil_append, List.getElem?_cons_zero, List.getElem?_cons_succ, Option.getD_some, e0, e1, e2]
    have ec : (224 + n / 4096) % 16 * 4096 + (128 + n / 64 % 64) % 64 * 64 + (128 + n % 64) % 64 = n := by omega
    rw [ec]
    rw [if_neg (by omega), if_neg (by simp; omega), if_pos (by simp; omega), if_pos (by simp [valid_of _ h]; omega)]
    simp
  · rw [enc4 n h1]
    have e0 := ofNat_toNat (240 + n / 262144) (by omega)
    have e1 := ofNat_toNat (128 + n / 4096 % 64) (by omega)
    have e2 := ofNat_toNat (128 + n / 64 % 64) (by omega)
    have e3 := ofNat_toNat (128 + n % 64) (by omega)
    simp only [List.cons_append, List.nil_append, List.getElem?_cons_zero, List.getElem?_cons_succ, Option.getD_some, e0, e1, e2, e3]
    have ec : (240 + n / 262144) % 8 * 262144 + (128 + n / 4096 % 64) % 64 * 4096 + (128 + n / 64 % 64) % 64 * 64 + (128 + n % 64) % 64 = n := by omega
    rw [ec]
    rw [if_neg (by omega), if_neg (by simp; omega), if_neg (by simp; omega), if_pos (by simp; omega), if_pos (by simp [valid_of _ h]; omega)]
    simp

theorem cp_of_valid (n : Nat) (h : Utf8.valid n = true) : isCp n = true := by
  rw [isCp_iff]
  simp [Utf8.valid] at h
  omega

theorem byte_eq (a : UInt8) (n : Nat) (h : a.toNat = n) : UInt8.ofNat n = a := by
  apply UInt8.toNat_inj.1
  have := a.toNat_lt
  rw [ofNat_toNat n (by omega), h]

theorem pre_two (a b : UInt8) (t : List UInt8) (h1 : a.toNat / 32 = 6) (h2 : b.toNat / 64 = 2) (h3 : 128 ≤ a.toNat % 32 * 64 + b.toNat % 64) :
    ∃ c, isCp c = true ∧ enc c <+: a :: b :: t := by
  have ha := a.toNat_lt
  have hb := b.toNat_lt
  refine ⟨((a.toNat % 32 * 64 + b.toNat % 64 : Nat) : Int), by rw [isCp_iff]; omega, ?_⟩
  rw [enc2 _ (by omega) (by omega), byte_eq a _ (by omega), byte_eq b _ (by omega)]
  exact ⟨t, rfl⟩
theorem pre_three (a b c : UInt8) (t : List UInt8) (h1 : a.toNat / 16 = 14) (h2 : b.toNat / 64 = 2) (h4 : c.toNat / 64 = 2) (h3 : 2048 ≤ a.toNat % 16 * 4096 + b.toNat % 64 * 64 + c.toNat % 64)
    (hv : Utf8.valid ((a.toNat % 16 * 4096 + b.toNat % 64 * 64 + c.toNat % 64 : Nat) : Int) = true) : ∃ r, isCp r = true ∧ enc r <+: a :: b :: c :: t := by
  have ha := a.toNat_lt
  have hb := b.toNat_lt
  have hc := c.toNat_lt
  refine ⟨((a.toNat % 16 * 4096 + b.toNat % 64 * 64 + c.toNat % 64 : Nat) : Int), cp_of_valid _ hv, ?_⟩
  rw [enc3 _ (by omega) (by omega), byte_eq a _ (by omega), byte_eq b _ (by omega), byte_eq c _ (by omega)]
  exact ⟨t, rfl⟩
theorem pre_four (a b c d : UInt8) (t : List UInt8) (h1 : a.toNat / 8 = 30) (h2 : b.toNat / 64 = 2) (h4 : c.toNat / 64 = 2) (h5 : d.toNat / 64 = 2) (h3 : 65536 ≤ a.toNat % 8 * 262144 + b.toNat % 64 * 4096 + c.toNat % 64 * 64 + d.toNat % 64)
    (hv : Utf8.valid ((a.toNat % 8 * 262144 + b.toNat % 64 * 4096 + c.toNat % 64 * 64 + d.toNat % 64 : Nat) : Int) = true) : ∃ r, isCp r = true ∧ enc r <+: a :: b :: c :: d :: t := by
  have ha := a.toNat_lt
  have hb := b.toNat_lt
  have hc := c.toNat_lt
  have hd := d.toNat_lt
  refine ⟨((a.toNat % 8 * 262144 + b.toNat % 64 * 4096 + c.toNat % 64 * 64 + d.toNat % 64 : Nat) : Int), cp_of_valid _ hv, ?_⟩
  rw [enc4 _ (by omega), byte_eq a _ (by omega), byte_eq b _ (by omega), byte_eq c _ (by omega), byte_eq d _ (by omega)]
  exact ⟨t, rfl⟩

/-- Where a range tells another thing than the bad byte's answer, a code point stands. -/
theorem decode_good (s : ByteArray) (pos : Nat) (a : UInt8) (t : List UInt8) (hl : s.data.toList.drop pos = a :: t) (q : Nat) (h : Utf8.decode s pos ≠ (q, 1) ∨ a.toNat < 128) (hq : q = 65533) : ∃ c, isCp c = true ∧ enc c <+: a :: t := by
  by_cases h0 : a.toNat < 128
  · refine ⟨(a.toNat : Int), by rw [isCp_iff]; omega, ?_⟩
    rw [enc1 _ h0, byte_eq a _ rfl]
    exact ⟨t, rfl⟩
  have hd : Utf8.decode s pos ≠ (q, 1) := by
    rcases h with h | h
    · exact h
    · exact absurd h h0
  rw [hq] at hd
  revert hd
  unfold Utf8.decode Utf8.runeError
  simp only [get_drop, in_drop, hl]
  clear hl
  simp only [List.getElem?_cons_zero, Option.getD_some]
  generalize (65533, 1) = z
  rw [if_neg h0]
  split
  · rename_i h1
    split
    · rename_i h2
      intro _
      cases t with
      | nil => simp at h1
      | cons b t =>
        simp only [List.getElem?_cons_succ, List.getElem?_cons_zero, Option.getD_some] at h1 h2
        simp at h1
        exact pre_two a b t h1.1 h1.2 h2
    · intro hx; exact absurd rfl hx
  split
  · rename_i h1 h2
    clear h1
    split
    · rename_i h3
      intro _
      cases t with
      | nil => simp at h2
      | cons b t =>
        cases t with
        | nil => simp at h2
        | cons c t =>
          simp only [List.getElem?_cons_succ, List.getElem?_cons_zero, Option.getD_some] at h2 h3
          simp at h2
          simp only [Bool.and_eq_true, decide_eq_true_eq] at h3
          exact pre_three a b c t h2.1.1 h2.1.2 h2.2 h3.1 h3.2
    · intro hx; exact absurd rfl hx
  split
  · rename_i h1 h2 h3
    clear h1 h2
    split
    · rename_i h4
      intro _
      cases t with
      | nil => simp at h3
      | cons b t =>
        cases t with
        | nil => simp at h3
        | cons c t =>
          cases t with
          | nil => simp at h3
          | cons d t =>
            simp only [List.getElem?_cons_succ, List.getElem?_cons_zero, Option.getD_some] at h3 h4
            simp at h3
            simp only [Bool.and_eq_true, decide_eq_true_eq] at h4
            exact pre_four a b c d t h3.1.1.1 h3.1.1.2 h3.1.2 h3.2 h4.1 h4.2
    · intro hx; exact absurd rfl hx
  · intro hx; exact absurd rfl hx

theorem decode_none (s : ByteArray) (pos : Nat) (l : List UInt8) (hl : s.data.toList.drop pos = l) (h : NoCp l) (hne : l ≠ []) : Utf8.decode s pos = (65533, 1) := by
  cases l with
  | nil => exact absurd rfl hne
  | cons a t =>
    by_cases hd : Utf8.decode s pos = (65533, 1)
    · exact hd
    · obtain ⟨c, hc, hp⟩ := decode_good s pos a t hl 65533 (.inl hd) rfl
      exact absurd hp (h c hc)

end Go.Proofs.Ytchdecoceokcmaa
