/- Texts of the seat, packed: Ma Mb Mc Md Me Mf Mg. -/
import GoSem.Core.Utf8
import Derived.Lib.Strings
/- Plain facts about code points and their bytes: nothing of the program is named here. -/
namespace Go.Proofs.Ytlmfmgpamhhncaa

/-- Is a number a code point? -/
def isCp (r : Int) : Bool := decide (0 ≤ r ∧ r ≤ 1114111 ∧ (r < 55296 ∨ 57343 < r))

/-- The width of a number as a code point; 0 of what is none. -/
def wid (r : Int) : Int := if r < 0 then 0 else if r < 128 then 1 else if r < 2048 then 2 else if r < 55296 then 3 else if r < 57344 then 0 else if r < 65536 then 3 else if r < 1114112 then 4 else 0

/-- A number's bytes, by how great it is. -/
def encN (n : Nat) : List UInt8 :=
  if n < 128 then [UInt8.ofNat n]
  else if n < 2048 then [UInt8.ofNat (192 + n / 64), UInt8.ofNat (128 + n % 64)]
  else if n < 65536 then [UInt8.ofNat (224 + n / 4096), UInt8.ofNat (128 + n / 64 % 64), UInt8.ofNat (128 + n % 64)]
  else [UInt8.ofNat (240 + n / 262144), UInt8.ofNat (128 + n / 4096 % 64), UInt8.ofNat (128 + n / 64 % 64), UInt8.ofNat (128 + n % 64)]

/-- A code point's bytes. -/
def enc (r : Int) : List UInt8 := encN r.toNat

def encAll : List Int → List UInt8
  | [] => []
  | c :: cs => enc c ++ encAll cs

/-- At the beginning of these bytes stands no code point. -/
def NoCp (l : List UInt8) : Prop := ∀ c, isCp c = true → ¬ (enc c <+: l)

/-- A text's code points, and what is left from the first bad byte on. -/
structure Parts (l : List UInt8) (cs : List Int) (rest : List UInt8) : Prop where
  eq : l = encAll cs ++ rest
  cp : ∀ c ∈ cs, isCp c = true
  stop : rest = [] ∨ NoCp rest

theorem isCp_iff (r : Int) : isCp r = true ↔ (0 ≤ r ∧ r ≤ 1114111 ∧ (r < 55296 ∨ 57343 < r)) := by simp [isCp]

theorem ofNat_toNat (n : Nat) (h : n < 256) : (UInt8.ofNat n).toNat = n := by
  simp [Nat.mod_eq_of_lt h]

theorem valid_of (r : Int) (h : isCp r = true) : Utf8.valid r = true := by
  rw [isCp_iff] at h
  simp [Utf8.valid]
  omega

theorem enc_nat (n : Nat) : enc n = encN n := by
  rw [enc, Int.toNat_natCast]

theorem enc1 (n : Nat) (h : n < 128) : enc n = [UInt8.ofNat n] := by
  rw [enc_nat, encN, if_pos h]
theorem enc2 (n : Nat) (h0 : 128 ≤ n) (h : n < 2048) : enc n = [UInt8.ofNat (192 + n / 64), UInt8.ofNat (128 + n % 64)] := by
  rw [enc_nat, encN, if_neg (by omega), if_pos h]
theorem enc3 (n : Nat) (h0 : 2048 ≤ n) (h : n < 65536) : enc n = [UInt8.ofNat (224 + n / 4096), UInt8.ofNat (128 + n / 64 % 64), UInt8.ofNat (128 + n % 64)] := by
  rw [enc_nat, encN, if_neg (by omega), if_neg (by omega), if_pos h]
theorem enc4 (n : Nat) (h0 : 65536 ≤ n) : enc n = [UInt8.ofNat (240 + n / 262144), UInt8.ofNat (128 + n / 4096 % 64), UInt8.ofNat (128 + n / 64 % 64), UInt8.ofNat (128 + n % 64)] := by
  rw [enc_nat, encN, if_neg (by omega), if_neg (by omega), if_neg (by omega)]

/-- A code point is of one of four kinds. -/
theorem cp_cases (r : Int) (h : isCp r = true) : ∃ n : Nat, r = n ∧ (n < 128 ∨ (128 ≤ n ∧ n < 2048) ∨ (2048 ≤ n ∧ n < 65536 ∧ (n < 55296 ∨ 57343 < n)) ∨ (65536 ≤ n ∧ n < 1114112)) := by
  rw [isCp_iff] at h
  exact ⟨r.toNat, by omega, by omega⟩

theorem get_drop (s : ByteArray) (pos k : Nat) : s.get! (pos + k) = (s.data.toList.drop pos)[k]?.getD 0 := by
  rw [List.getElem?_drop]
  show s.data[pos + k]! = _
  by_cases h : pos + k < s.data.size
  · rw [getElem!_pos s.data (pos + k) h]
    rw [Array.getElem?_toList, Array.getElem?_eq_getElem h]
    rfl
  · rw [getElem!_neg s.data (pos + k) h]
    rw [Array.getElem?_toList, Array.getElem?_eq_none (by omega)]
    rfl

theorem in_drop (s : ByteArray) (pos k : Nat) : decide (pos + k < s.size) = decide (k < (s.data.toList.drop pos).length) := by
  rw [decide_eq_decide, List.length_drop]
  show pos + k < s.data.size ↔ _
  simp
  omega

theorem decode_cp (s : ByteArray) (pos : Nat) (c : Int) (t : List UInt8) (hl : s.data.toList.drop pos = enc c ++ t) (h : isCp c = true) : Utf8.decode s pos = (c.toNat, (enc c).length) := by
  unfold Utf8.decode Utf8.runeError
  simp only [get_drop, in_drop, hl]
  clear hl
  obtain ⟨n, rfl, hn⟩ := cp_cases c h
  rcases hn with hn | ⟨h1, h2⟩ | ⟨h1, h2, h3⟩ | ⟨h1, h2⟩
  · rw [enc1 n hn]
    have e0 := ofNat_toNat n (by omega)
    simp only [List.cons_append, List.nil_append, List.getElem?_cons_zero, Option.getD_some, e0]
    rw [if_pos hn]
    simp
  · rw [enc2 n h1 h2]
    have e0 := ofNat_toNat (192 + n / 64) (by omega)
    have e1 := ofNat_toNat (128 + n % 64) (by omega)
    simp only [List.cons_append, List.nil_append, List.getElem?_cons_zero, List.getElem?_cons_succ, Option.getD_some, e0, e1]
    rw [if_neg (by omega), if_pos (by simp; omega), if_pos (by omega)]
    simp
    omega
  · rw [enc3 n h1 h2]
    have e0 := ofNat_toNat (224 + n / 4096) (by omega)
    have e1 := ofNat_toNat (128 + n / 64 % 64) (by omega)
    have e2 := ofNat_toNat (128 + n % 64) (by omega)
    simp only [List.cons_append, List.nil_append, List.getElem?_cons_zero, List.getElem?_cons_succ, Option.getD_some, e0, e1, e2]
    have ec : (224 + n / 4096) % 16 * 4096 + (128 + n / 64 % 64) % 64 * 64 + (128 + n % 64) % 64 = n := by omega
    rw [ec]
    rw [if_neg (by omega), if_neg (by simp; omega), if_pos (by simp; omega), if_pos (by simp [valid_of _ h]; omega)]
    simp
  · rw [enc4 n h1]
    have e0 := ofNat_toNat (240 + n / 262144) (by omega)
    have e1 := ofNat_toNat (128 + n / 4096 % 64) (by omega)
    have e2 := ofNat_toNat (128 + n / 64 % 64) (by omega)
    have e3 := ofNat_toNat (128 + n % 64) (by omega)
    simp only [List.cons_append, List.nil_append, List.getElem?_cons_zero, List.getElem?_cons_succ, Option.getD_some, e0, e1, e2, e3]
    have ec : (240 + n / 262144) % 8 * 262144 + (128 + n / 4096 % 64) % 64 * 4096 + (128 + n / 64 % 64) % 64 * 64 + (128 + n % 64) % 64 = n := by omega
    rw [ec]
    rw [if_neg (by omega), if_neg (by simp; omega), if_neg (by simp; omega), if_pos (by simp; omega), if_pos (by simp [valid_of _ h]; omega)]
    simp

theorem cp_of_valid (n : Nat) (h : Utf8.valid n = true) : isCp n = true := by
  rw [isCp_iff]
  simp [Utf8.valid] at h
  omega

theorem byte_eq (a : UInt8) (n : Nat) (h : a.toNat = n) : UInt8.ofNat n = a := by
  apply UInt8.toNat_inj.1
  have := a.toNat_lt
  rw [ofNat_toNat n (by omega), h]

theorem pre_two (a b : UInt8) (t : List UInt8) (h1 : a.toNat / 32 = 6) (h2 : b.toNat / 64 = 2) (h3 : 128 ≤ a.toNat % 32 * 64 + b.toNat % 64) :
    ∃ c, isCp c = true ∧ enc c <+: a :: b :: t := by
  have ha := a.toNat_lt
  have hb := b.toNat_lt
  refine ⟨((a.toNat % 32 * 64 + b.toNat % 64 : Nat) : Int), by rw [isCp_iff]; omega, ?_⟩
  rw [enc2 _ (by omega) (by omega), byte_eq a _ (by omega), byte_eq b _ (by omega)]
  exact ⟨t, rfl⟩
theorem pre_three (a b c : UInt8) (t : List UInt8) (h1 : a.toNat / 16 = 14) (h2 : b.toNat / 64 = 2) (h4 : c.toNat / 64 = 2) (h3 : 2048 ≤ a.toNat % 16 * 4096 + b.toNat % 64 * 64 + c.toNat % 64)
    (hv : Utf8.valid ((a.toNat % 16 * 4096 + b.toNat % 64 * 64 + c.toNat % 64 : Nat) : Int) = true) : ∃ r, isCp r = true ∧ enc r <+: a :: b :: c :: t := by
  have ha := a.toNat_lt
  have hb := b.toNat_lt
  have hc := c.toNat_lt
  refine ⟨((a.toNat % 16 * 4096 + b.toNat % 64 * 64 + c.toNat % 64 : Nat) : Int), cp_of_valid _ hv, ?_⟩
  rw [enc3 _ (by omega) (by omega), byte_eq a _ (by omega), byte_eq b _ (by omega), byte_eq c _ (by omega)]
  exact ⟨t, rfl⟩
theorem pre_four (a b c d : UInt8) (t : List UInt8) (h1 : a.toNat / 8 = 30) (h2 : b.toNat / 64 = 2) (h4 : c.toNat / 64 = 2) (h5 : d.toNat / 64 = 2) (h3 : 65536 ≤ a.toNat % 8 * 262144 + b.toNat % 64 * 4096 + c.toNat % 64 * 64 + d.toNat % 64)
    (hv : Utf8.valid ((a.toNat % 8 * 262144 + b.toNat % 64 * 4096 + c.toNat % 64 * 64 + d.toNat % 64 : Nat) : Int) = true) : ∃ r, isCp r = true ∧ enc r <+: a :: b :: c :: d :: t := by
  have ha := a.toNat_lt
  have hb := b.toNat_lt
  have hc := c.toNat_lt
  have hd := d.toNat_lt
  refine ⟨((a.toNat % 8 * 262144 + b.toNat % 64 * 4096 + c.toNat % 64 * 64 + d.toNat % 64 : Nat) : Int), cp_of_valid _ hv, ?_⟩
  rw [enc4 _ (by omega), byte_eq a _ (by omega), byte_eq b _ (by omega), byte_eq c _ (by omega), byte_eq d _ (by omega)]
  exact ⟨t, rfl⟩

/-- Where a range tells another thing than the bad byte's answer, a code point stands. -/
theorem decode_good (s : ByteArray) (pos : Nat) (a : UInt8) (t : List UInt8) (hl : s.data.toList.drop pos = a :: t) (q : Nat) (h : Utf8.decode s pos ≠ (q, 1) ∨ a.toNat < 128) (hq : q = 65533) : ∃ c, isCp c = true ∧ enc c <+: a :: t := by
  by_cases h0 : a.toNat < 128
  · refine ⟨(a.toNat : Int), by rw [isCp_iff]; omega, ?_⟩
    rw [enc1 _ h0, byte_eq a _ rfl]
    exact ⟨t, rfl⟩
  have hd : Utf8.decode s pos ≠ (q, 1) := by
    rcases h with h | h
    · exact h
    · exact absurd h h0
  rw [hq] at hd
  revert hd
  unfold Utf8.decode Utf8.runeError
  simp only [get_drop, in_drop, hl]
  clear hl
  simp only [List.getElem?_cons_zero, Option.getD_some]
  generalize (65533, 1) = z
  rw [if_neg h0]
  split
  · rename_i h1
    split
    · rename_i h2
      intro _
      cases t with
      | nil => simp at h1
      | cons b t =>
        simp only [List.getElem?_cons_succ, List.getElem?_cons_zero, Option.getD_some] at h1 h2
        simp at h1
        exact pre_two a b t h1.1 h1.2 h2
    · intro hx; exact absurd rfl hx
  split
  · rename_i h1 h2
    clear h1
    split
    · rename_i h3
      intro _
      cases t with
      | nil => simp at h2
      | cons b t =>
        cases t with
        | nil => simp at h2
        | cons c t =>
          simp only [List.getElem?_cons_succ, List.getElem?_cons_zero, Option.getD_some] at h2 h3
          simp at h2
          simp only [Bool.and_eq_true, decide_eq_true_eq] at h3
          exact pre_three a b c t h2.1.1 h2.1.2 h2.2 h3.1 h3.2
    · intro hx; exact absurd rfl hx
  split
  · rename_i h1 h2 h3
    clear h1 h2
    split
    · rename_i h4
      intro _
      cases t with
      | nil => simp at h3
      | cons b t =>
        cases t with
        | nil => simp at h3
        | cons c t =>
          cases t with
          | nil => simp at h3
          | cons d t =>
            simp only [List.getElem?_cons_succ, List.getElem?_cons_zero, Option.getD_some] at h3 h4
            simp at h3
            simp only [Bool.and_eq_true, decide_eq_true_eq] at h4
            exact pre_four a b c d t h3.1.1.1 h3.1.1.2 h3.1.2 h3.2 h4.1 h4.2
    · intro hx; exact absurd rfl hx
  · intro hx; exact absurd rfl hx

theorem decode_none (s : ByteArray) (pos : Nat) (l : List UInt8) (hl : s.data.toList.drop pos = l) (h : NoCp l) (hne : l ≠ []) : Utf8.decode s pos = (65533, 1) := by
  cases l with
  | nil => exact absurd rfl hne
  | cons a t =>
    by_cases hd : Utf8.decode s pos = (65533, 1)
    · exact hd
    · obtain ⟨c, hc, hp⟩ := decode_good s pos a t hl 65533 (.inl hd) rfl
      exact absurd hp (h c hc)

end Go.Proofs.Ytlmfmgpamhhncaa

/- Plain facts about texts and their code points: nothing of the program is named here. -/
namespace Go.Proofs.Ytlmfmgpamhhncaa

theorem enc_len (c : Int) (h : isCp c = true) : ((enc c).length : Int) = wid c := by
  obtain ⟨n, rfl, hn⟩ := cp_cases c h
  rcases hn with hn | ⟨h1, h2⟩ | ⟨h1, h2, h3⟩ | ⟨h1, h2⟩
  · rw [enc1 n hn]
    unfold wid
    rw [if_neg (by omega), if_pos (by omega)]
    rfl
  · rw [enc2 n h1 h2]
    unfold wid
    rw [if_neg (by omega), if_neg (by omega), if_pos (by omega)]
    rfl
  · rw [enc3 n h1 h2]
    unfold wid
    rw [if_neg (by omega), if_neg (by omega), if_neg (by omega)]
    rcases h3 with h3 | h3
    · rw [if_pos (by omega)]
      rfl
    · rw [if_neg (by omega), if_neg (by omega), if_pos (by omega)]
      rfl
  · rw [enc4 n h1]
    unfold wid
    rw [if_neg (by omega), if_neg (by omega), if_neg (by omega), if_neg (by omega), if_neg (by omega), if_neg (by omega), if_pos (by omega)]
    rfl

theorem wid_bd (c : Int) (h : isCp c = true) : 1 ≤ wid c ∧ wid c ≤ 4 := by
  rw [isCp_iff] at h
  unfold wid
  repeat' split
  all_goals omega

theorem enc_pos (c : Int) (h : isCp c = true) : 1 ≤ (enc c).length ∧ (enc c).length ≤ 4 := by
  have h1 := enc_len c h
  have h2 := wid_bd c h
  omega

theorem cp_toNat (c : Int) (h : isCp c = true) : ((c.toNat : Nat) : Int) = c := by
  rw [isCp_iff] at h
  omega

theorem encAll_append (a b : List Int) : encAll (a ++ b) = encAll a ++ encAll b := by
  induction a with
  | nil => rfl
  | cons c a ih => simp [encAll, ih]

theorem encAll_one (c : Int) : encAll [c] = enc c := by simp [encAll]

theorem encAll_len_ge (cs : List Int) (h : ∀ c ∈ cs, isCp c = true) : cs.length ≤ (encAll cs).length ∧ (encAll cs).length ≤ 4 * cs.length := by
  induction cs with
  | nil => simp [encAll]
  | cons c cs ih =>
    have h1 := enc_pos c (h c (by simp))
    have h2 := ih (fun x hx => h x (by simp [hx]))
    simp [encAll]
    omega

theorem parts_exists_aux (n : Nat) : ∀ l : List UInt8, l.length ≤ n → ∃ cs rest, Parts l cs rest := by
  induction n with
  | zero =>
    intro l hl
    have : l = [] := List.eq_nil_of_length_eq_zero (by omega)
    exact ⟨[], l, by simp [encAll], by simp, .inl this⟩
  | succ n ih =>
    intro l hl
    by_cases h : ∃ c, isCp c = true ∧ enc c <+: l
    · obtain ⟨c, hc, t, ht⟩ := h
      have hp := enc_pos c hc
      have hlen : l.length = (enc c).length + t.length := by rw [← ht]; simp
      obtain ⟨cs, rest, p⟩ := ih t (by omega)
      refine ⟨c :: cs, rest, ?_, ?_, p.stop⟩
      · rw [← ht, p.eq]
        simp [encAll]
      · intro x hx
        rcases List.mem_cons.1 hx with rfl | hx
        · exact hc
        · exact p.cp x hx
    · refine ⟨[], l, by simp [encAll], by simp, .inr ?_⟩
      intro c hc hp
      exact h ⟨c, hc, hp⟩

theorem parts_exists (l : List UInt8) : ∃ cs rest, Parts l cs rest := parts_exists_aux l.length l (Nat.le_refl _)

/-- Two code points at one beginning are one. -/
theorem enc_unique (a b : Int) (l : List UInt8) (ha : isCp a = true) (hb : isCp b = true) (pa : enc a <+: l) (pb : enc b <+: l) : a = b := by
  obtain ⟨t, rfl⟩ := pa
  obtain ⟨u, hu⟩ := pb
  have h1 := decode_cp ⟨(enc a ++ t).toArray⟩ 0 a t (by simp) ha
  have h2 := decode_cp ⟨(enc a ++ t).toArray⟩ 0 b u (by rw [← hu]; simp) hb
  rw [h1] at h2
  have h3 := congrArg Prod.fst h2
  have h4 := cp_toNat a ha
  have h5 := cp_toNat b hb
  simp only at h3
  omega

theorem size_list (s : ByteArray) : s.data.toList.length = s.size := by
  show s.data.toList.length = s.data.size
  simp

theorem decode_at (s : ByteArray) (d todo : List Int) (c : Int) (rest : List UInt8) (h : s.data.toList = encAll (d ++ c :: todo) ++ rest) (hc : isCp c = true) :
    Utf8.decode s (encAll d).length = (c.toNat, (enc c).length) := by
  refine decode_cp s _ c (encAll todo ++ rest) ?_ hc
  rw [h, encAll_append]
  simp only [List.append_assoc, List.drop_left, encAll]

theorem decode_stop (s : ByteArray) (cs : List Int) (rest : List UInt8) (h : s.data.toList = encAll cs ++ rest) (hn : NoCp rest) (hne : rest ≠ []) :
    Utf8.decode s (encAll cs).length = (65533, 1) := by
  refine decode_none s _ rest ?_ hn hne
  rw [h, List.drop_left]

/-- Does a text begin with the bytes of the number fffd? -/
def hp (t : ByteArray) : Bool := decide (t.data.toList.take 3 = [239, 191, 189])

theorem enc_bad : enc 65533 = [239, 191, 189] := by decide +kernel

theorem hp_yes (s : ByteArray) (d todo : List Int) (rest : List UInt8) (h : s.data.toList = encAll (d ++ 65533 :: todo) ++ rest) :
    hp (s.extract (encAll d).length s.size) = true := by
  have hz := size_list s
  unfold hp
  rw [Lib.extract_data, h, encAll_append]
  simp only [List.append_assoc, List.drop_left, encAll, enc_bad]
  rw [h, encAll_append] at hz
  simp [encAll, enc_bad] at hz
  have e : s.size - (encAll d).length = 3 + (encAll todo).length + rest.length := by omega
  rw [e]
  simp [List.take_take]
  rw [show min 3 (3 + (encAll todo).length + rest.length) = 3 by omega]
  simp

theorem hp_no (s : ByteArray) (cs : List Int) (rest : List UInt8) (h : s.data.toList = encAll cs ++ rest) (hn : NoCp rest) :
    hp (s.extract (encAll cs).length s.size) = false := by
  unfold hp
  rw [decide_eq_false_iff_not]
  intro e
  rw [Lib.extract_data, h, List.drop_left, List.take_take] at e
  have h1 : enc 65533 <+: rest := by
    rw [enc_bad, ← e]
    exact List.take_prefix _ _
  exact hn 65533 (by decide) h1

/-- Numbers are all code points, or there is a first one that is none. -/
theorem split_cp (l : List Int) : (∀ c ∈ l, isCp c = true) ∨ ∃ d y t, l = d ++ y :: t ∧ (∀ c ∈ d, isCp c = true) ∧ isCp y = false := by
  induction l with
  | nil => left; simp
  | cons c l ih =>
    cases hc : isCp c with
    | false => right; exact ⟨[], c, l, rfl, by simp, hc⟩
    | true =>
      rcases ih with h | ⟨d, y, t, h1, h2, h3⟩
      · left
        intro x hx
        rcases List.mem_cons.1 hx with rfl | hx
        · exact hc
        · exact h x hx
      · right
        refine ⟨c :: d, y, t, by rw [h1]; rfl, ?_, h3⟩
        intro x hx
        rcases List.mem_cons.1 hx with rfl | hx
        · exact hc
        · exact h2 x hx
end Go.Proofs.Ytlmfmgpamhhncaa

/- Plain facts about the numbers that a text's first bytes may stand for. -/
namespace Go.Proofs.Ytlmfmgpamhhncaa

/-- A text's byte as a number. -/
def bt (s : ByteArray) (i : Nat) : Nat := (s.data.toList.getD i 0).toNat

theorem bt_at (s : ByteArray) (i : Nat) (h : i < s.size) : s[i].toNat = bt s i := by
  have h2 : i < s.data.size := h
  unfold bt
  have e : s.data.toList.getD i 0 = s[i] := by
    rw [List.getD_eq_getElem?_getD, Array.getElem?_toList, Array.getElem?_eq_getElem h2]
    rfl
  rw [e]

theorem bt_lt (s : ByteArray) (i : Nat) : bt s i < 256 := by
  unfold bt
  exact UInt8.toNat_lt _

/-- What stands at a text's beginning: a code point of K bytes; or none: then K is 5. -/
def Target (l : List UInt8) (K : Nat) (c : Int) : Prop := (K = 5 ∧ NoCp l) ∨ (isCp c = true ∧ K = (enc c).length ∧ enc c <+: l)

theorem cp_of_wid (X : Int) (k : Nat) (hk : 1 ≤ k) (h : wid X = k) : isCp X = true := by
  rw [isCp_iff]
  unfold wid at h
  repeat' split at h
  all_goals omega

theorem trip (l : List UInt8) (K : Nat) (c : Int) (hT : Target l K c) (k : Nat) (hk1 : 1 ≤ k) (hk4 : k ≤ 4) (X : Int) (hX : isCp c = true → enc c <+: l → (enc c).length = k → X = c) :
    ((wid X == (k : Int)) = false ∧ K ≠ k) ∨ (isCp X = true ∧ (wid X == (k : Int)) = true ∧ enc X ≠ l.take k ∧ K ≠ k) ∨ (isCp X = true ∧ (wid X == (k : Int)) = true ∧ enc X = l.take k ∧ K = k ∧ X = c) := by
  by_cases hw : wid X = k
  · have hc := cp_of_wid X k hk1 hw
    have hb : (wid X == (k : Int)) = true := by rw [beq_iff_eq]; exact hw
    right
    by_cases he : enc X = l.take k
    · right
      have hp : enc X <+: l := by rw [he]; exact List.take_prefix _ _
      rcases hT with ⟨_, hn⟩ | ⟨h1, h2, h3⟩
      · exact absurd hp (hn X hc)
      · have e := enc_unique X c l hc h1 hp h3
        subst e
        have := enc_len X hc
        exact ⟨hc, hb, he, by omega, rfl⟩
    · left
      refine ⟨hc, hb, he, ?_⟩
      intro hK
      rcases hT with ⟨h5, _⟩ | ⟨h1, h2, h3⟩
      · omega
      · have e := hX h1 h3 (by omega)
        subst e
        obtain ⟨t, ht⟩ := h3
        apply he
        rw [← ht, show k = (enc X).length by omega, List.take_left]
  · left
    refine ⟨by rw [beq_eq_false_iff_ne]; exact hw, ?_⟩
    intro hK
    rcases hT with ⟨h5, _⟩ | ⟨h1, h2, h3⟩
    · omega
    · have e := hX h1 h3 (by omega)
      subst e
      have := enc_len X h1
      omega

theorem enc_kinds (c : Int) (hc : isCp c = true) : ∃ n : Nat, c = n ∧ (((enc c).length = 1 ∧ n < 128) ∨ ((enc c).length = 2 ∧ 128 ≤ n ∧ n < 2048) ∨ ((enc c).length = 3 ∧ 2048 ≤ n ∧ n < 65536) ∨ ((enc c).length = 4 ∧ 65536 ≤ n ∧ n < 1114112)) := by
  obtain ⟨n, rfl, h⟩ := cp_cases c hc
  refine ⟨n, rfl, ?_⟩
  rcases h with h | ⟨h1, h2⟩ | ⟨h1, h2, _⟩ | ⟨h1, h2⟩
  · left; rw [enc1 n h]; exact ⟨rfl, h⟩
  · right; left; rw [enc2 n h1 h2]; exact ⟨rfl, h1, h2⟩
  · right; right; left; rw [enc3 n h1 h2]; exact ⟨rfl, h1, h2⟩
  · right; right; right; rw [enc4 n h1]; exact ⟨rfl, h1, h2⟩

theorem cand1 (s : ByteArray) (c : Int) (hc : isCp c = true) (hp : enc c <+: s.data.toList) (hk : (enc c).length = 1) : ((bt s 0 : Nat) : Int) = c := by
  obtain ⟨n, rfl, h⟩ := enc_kinds c hc
  have h1 : n < 128 := by omega
  obtain ⟨t, ht⟩ := hp
  rw [enc1 n h1] at ht
  unfold bt
  rw [← ht]
  simp only [List.cons_append, List.nil_append, List.getD_cons_zero, ofNat_toNat n (by omega)]

theorem cand2 (s : ByteArray) (c : Int) (hc : isCp c = true) (hp : enc c <+: s.data.toList) (hk : (enc c).length = 2) : 64 * ((bt s 0 : Int) % 32) + (bt s 1 : Int) % 64 = c := by
  obtain ⟨n, rfl, h⟩ := enc_kinds c hc
  have h1 : 128 ≤ n ∧ n < 2048 := by omega
  obtain ⟨t, ht⟩ := hp
  rw [enc2 n h1.1 h1.2] at ht
  unfold bt
  rw [← ht]
  simp only [List.cons_append, List.nil_append, List.getD_cons_zero, List.getD_cons_succ, ofNat_toNat (192 + n / 64) (by omega), ofNat_toNat (128 + n % 64) (by omega)]
  omega

theorem cand3 (s : ByteArray) (c : Int) (hc : isCp c = true) (hp : enc c <+: s.data.toList) (hk : (enc c).length = 3) : 64 * (64 * ((bt s 0 : Int) % 16) + (bt s 1 : Int) % 64) + (bt s 2 : Int) % 64 = c := by
  obtain ⟨n, rfl, h⟩ := enc_kinds c hc
  have h1 : 2048 ≤ n ∧ n < 65536 := by omega
  obtain ⟨t, ht⟩ := hp
  rw [enc3 n h1.1 h1.2] at ht
  unfold bt
  rw [← ht]
  simp only [List.cons_append, List.nil_append, List.getD_cons_zero, List.getD_cons_succ, ofNat_toNat (224 + n / 4096) (by omega), ofNat_toNat (128 + n / 64 % 64) (by omega), ofNat_toNat (128 + n % 64) (by omega)]
  omega

theorem cand4 (s : ByteArray) (c : Int) (hc : isCp c = true) (hp : enc c <+: s.data.toList) (hk : (enc c).length = 4) : 64 * (64 * (64 * ((bt s 0 : Int) % 8) + (bt s 1 : Int) % 64) + (bt s 2 : Int) % 64) + (bt s 3 : Int) % 64 = c := by
  obtain ⟨n, rfl, h⟩ := enc_kinds c hc
  have h1 : 65536 ≤ n ∧ n < 1114112 := by omega
  obtain ⟨t, ht⟩ := hp
  rw [enc4 n h1.1] at ht
  unfold bt
  rw [← ht]
  simp only [List.cons_append, List.nil_append, List.getD_cons_zero, List.getD_cons_succ, ofNat_toNat (240 + n / 262144) (by omega), ofNat_toNat (128 + n / 4096 % 64) (by omega), ofNat_toNat (128 + n / 64 % 64) (by omega), ofNat_toNat (128 + n % 64) (by omega)]
  omega

/-- Bytes that are compared as texts. -/
theorem cmp_eq (s Y : ByteArray) (k : Nat) (l : List UInt8) (hY : Y.data.toList = l) : (Y.toList == (s.extract 0 k).toList) = decide (l = s.data.toList.take k) := by
  rw [Lib.toList_data, Lib.extract_toList, hY, Bool.eq_iff_iff]
  simp
end Go.Proofs.Ytlmfmgpamhhncaa

/- The machine that tells a text's tokens, code point by code point, as plain mathematics: nothing of the program is named here. -/
namespace Go.Proofs.Ytlmfmgpamhhncaa

/-- The class of a number: 0 Other, 1 Letter, 2 Digit, 3 Blank, 4 Mark. -/
def kl (r : Int) : Int :=
  if isCp r = false then 0 else if 128 ≤ r ∨ (97 ≤ r ∧ r ≤ 122) ∨ (65 ≤ r ∧ r ≤ 90) ∨ r = 95 then 1 else if 48 ≤ r ∧ r ≤ 57 then 2
  else if r = 9 ∨ r = 10 ∨ r = 13 ∨ r = 32 then 3 else if 32 < r ∧ r < 127 then 4 else 0

/-- Is a number one of the six marks? -/
def isMark (c : Int) : Bool := decide (c = 123 ∨ c = 125 ∨ c = 40 ∨ c = 41 ∨ c = 59 ∨ c = 44)

/-- A token: what it is, its bytes, its place. -/
structure Tok where
  kind : Int
  text : List UInt8
  at_ : Nat

/-- How far a text has been gone through: the tokens that are done, the name that may go on, whether a remark stands open. -/
structure Sc where
  done : List Tok
  cur : Option (Nat × List UInt8)
  remark : Bool

def curToks : Option (Nat × List UInt8) → List Tok
  | none => []
  | some p => [⟨1, p.2, p.1⟩]

def Sc.toks (s : Sc) : List Tok := s.done ++ curToks s.cur

def sc0 : Sc := ⟨[], none, false⟩

inductive Out where
  | ok (s : Sc)
  | err (p : Nat) (e : Int)

def letterS (s : Sc) (at_ : Nat) (c : Int) : Out :=
  match s.cur with
  | none => .ok ⟨s.done, some (at_, enc c), false⟩
  | some p => if p.1 + 24 < at_ + (enc c).length then .err p.1 5 else .ok ⟨s.done, some (p.1, p.2 ++ enc c), false⟩

def stepS (s : Sc) (at_ : Nat) (c : Int) : Out :=
  if s.remark = true then .ok ⟨s.done, s.cur, decide (c ≠ 10)⟩
  else if c = 35 then .ok ⟨s.toks, none, true⟩
  else if kl c = 3 then .ok ⟨s.toks, none, false⟩
  else if isMark c = true then .ok ⟨s.toks ++ [⟨2, enc c, at_⟩], none, false⟩
  else if kl c = 2 then (match s.cur with | none => .err at_ 10 | some _ => letterS s at_ c)
  else if kl c = 1 then letterS s at_ c
  else .err at_ 10

def goS (s : Sc) (at_ : Nat) : List Int → Out
  | [] => .ok s
  | c :: cs => match stepS s at_ c with
    | .ok s' => goS s' (at_ + (enc c).length) cs
    | .err p e => .err p e

theorem goS_append (a b : List Int) : ∀ (s : Sc) (p : Nat), goS s p (a ++ b) = match goS s p a with
    | .ok s' => goS s' (p + (encAll a).length) b
    | .err q e => .err q e := by
  induction a with
  | nil => intro s p; simp [goS, encAll]
  | cons c a ih =>
    intro s p
    simp only [List.cons_append, goS]
    cases h : stepS s p c with
    | ok s' =>
      simp only
      rw [ih]
      simp [encAll, Nat.add_assoc]
    | err q e => rfl

theorem goS_snoc_ok {s s' : Sc} {p : Nat} {d : List Int} (h : goS s p d = .ok s') (c : Int) : goS s p (d ++ [c]) = stepS s' (p + (encAll d).length) c := by
  rw [goS_append, h]
  simp only [goS]
  cases stepS s' (p + (encAll d).length) c <;> rfl

theorem goS_prefix {s s' : Sc} {p : Nat} {a b : List Int} (h : goS s p (a ++ b) = .ok s') : ∃ s1, goS s p a = .ok s1 ∧ goS s1 (p + (encAll a).length) b = .ok s' := by
  rw [goS_append] at h
  cases h1 : goS s p a with
  | ok s1 => rw [h1] at h; exact ⟨s1, rfl, h⟩
  | err q e => rw [h1] at h; cases h

/-- Induction from behind. -/
theorem snoc_ind {α : Type} {P : List α → Prop} (h0 : P []) (h1 : ∀ d c, P d → P (d ++ [c])) (l : List α) : P l := by
  have h : ∀ n, ∀ l : List α, l.length = n → P l := by
    intro n
    induction n with
    | zero => intro l hl; rw [List.eq_nil_of_length_eq_zero hl]; exact h0
    | succ n ih =>
      intro l hl
      have hne : l ≠ [] := by intro h; rw [h] at hl; cases hl
      rw [← List.dropLast_concat_getLast hne]
      exact h1 _ _ (ih _ (by rw [List.length_dropLast, hl]; rfl))
  exact h _ l rfl

theorem kl_name (c : Int) (h : kl c = 1 ∨ kl c = 2) : c ≠ 35 ∧ kl c ≠ 3 ∧ isMark c = false ∧ c ≠ 10 := by
  have h3 : kl c ≠ 3 := by omega
  unfold kl at h
  refine ⟨?_, h3, ?_, ?_⟩
  · rintro rfl; revert h; decide
  · unfold isMark
    rw [decide_eq_false_iff_not]
    rintro (rfl | rfl | rfl | rfl | rfl | rfl) <;> (revert h; decide)
  · rintro rfl; revert h; decide

theorem kl_mark (c : Int) (h : isMark c = true) : kl c = 4 ∧ c ≠ 35 ∧ enc c = [UInt8.ofNat c.toNat] ∧ isCp c = true ∧ 0 ≤ c ∧ c < 128 := by
  unfold isMark at h
  rw [decide_eq_true_eq] at h
  rcases h with rfl | rfl | rfl | rfl | rfl | rfl <;> decide +kernel

/-- The ways a step goes well. -/
theorem step_ok {s s' : Sc} {p : Nat} {c : Int} (h : stepS s p c = .ok s') :
    (s.remark = true ∧ s' = ⟨s.done, s.cur, decide (c ≠ 10)⟩) ∨
    (s.remark = false ∧ (c = 35 ∨ kl c = 3) ∧ s' = ⟨s.toks, none, decide (c = 35)⟩) ∨
    (s.remark = false ∧ isMark c = true ∧ s' = ⟨s.toks ++ [⟨2, enc c, p⟩], none, false⟩) ∨
    (s.remark = false ∧ s.cur = none ∧ kl c = 1 ∧ s' = ⟨s.done, some (p, enc c), false⟩) ∨
    (∃ q t, s.remark = false ∧ s.cur = some (q, t) ∧ (kl c = 1 ∨ kl c = 2) ∧ p + (enc c).length ≤ q + 24 ∧ s' = ⟨s.done, some (q, t ++ enc c), false⟩) := by
  have fin : s.remark = false → (kl c = 1 ∨ (kl c = 2 ∧ s.cur ≠ none)) → letterS s p c = .ok s' →
      (s.remark = false ∧ s.cur = none ∧ kl c = 1 ∧ s' = ⟨s.done, some (p, enc c), false⟩) ∨
      (∃ q t, s.remark = false ∧ s.cur = some (q, t) ∧ (kl c = 1 ∨ kl c = 2) ∧ p + (enc c).length ≤ q + 24 ∧ s' = ⟨s.done, some (q, t ++ enc c), false⟩) := by
    intro hr hk hl
    unfold letterS at hl
    split at hl
    · rename_i hc
      simp only [Out.ok.injEq] at hl
      rcases hk with hk | ⟨_, hn⟩
      · exact .inl ⟨hr, hc, hk, hl.symm⟩
      · exact absurd hc hn
    · rename_i q hc
      split at hl
      · cases hl
      · rename_i hle
        simp only [Out.ok.injEq] at hl
        exact .inr ⟨q.1, q.2, hr, hc, hk.imp id And.left, by omega, hl.symm⟩
  unfold stepS at h
  split at h
  · rename_i hr
    simp only [Out.ok.injEq] at h
    exact .inl ⟨hr, h.symm⟩
  rename_i hr
  have hr : s.remark = false := by simpa using hr
  split at h
  · rename_i hc
    simp only [Out.ok.injEq] at h
    exact .inr (.inl ⟨hr, .inl hc, by rw [← h]; simp [hc]⟩)
  rename_i hc
  split at h
  · rename_i hk
    simp only [Out.ok.injEq] at h
    exact .inr (.inl ⟨hr, .inr hk, by rw [← h]; simp [hc]⟩)
  split at h
  · rename_i hm
    simp only [Out.ok.injEq] at h
    exact .inr (.inr (.inl ⟨hr, hm, h.symm⟩))
  split at h
  · rename_i hk
    split at h
    · cases h
    · rename_i q hcur
      exact .inr (.inr (.inr (fin hr (.inr ⟨hk, by rw [hcur]; simp⟩) h)))
  split at h
  · rename_i hk
    exact .inr (.inr (.inr (fin hr (.inl hk) h)))
  · cases h

/-- The ways a step goes wrong. -/
theorem step_err {s : Sc} {p : Nat} {c : Int} {q : Nat} {e : Int} (h : stepS s p c = .err q e) :
    s.remark = false ∧ c ≠ 35 ∧ kl c ≠ 3 ∧ isMark c = false ∧
    ((q = p ∧ e = 10 ∧ ((kl c = 2 ∧ s.cur = none) ∨ (kl c ≠ 1 ∧ kl c ≠ 2))) ∨
     (∃ t, e = 5 ∧ s.cur = some (q, t) ∧ (kl c = 1 ∨ kl c = 2) ∧ q + 24 < p + (enc c).length)) := by
  have fin : (kl c = 1 ∨ kl c = 2) → letterS s p c = .err q e → ∃ t, e = 5 ∧ s.cur = some (q, t) ∧ (kl c = 1 ∨ kl c = 2) ∧ q + 24 < p + (enc c).length := by
    intro hk hl
    unfold letterS at hl
    split at hl
    · cases hl
    · rename_i x hc
      split at hl
      · rename_i hle
        simp only [Out.err.injEq] at hl
        obtain ⟨rfl, rfl⟩ := hl
        exact ⟨x.2, rfl, hc, hk, hle⟩
      · cases hl
  unfold stepS at h
  split at h
  · cases h
  rename_i hr
  have hr : s.remark = false := by simpa using hr
  split at h
  · cases h
  rename_i h35
  split at h
  · cases h
  rename_i h3
  split at h
  · cases h
  rename_i hm
  refine ⟨hr, h35, h3, by simpa using hm, ?_⟩
  split at h
  · rename_i hk
    split at h
    · rename_i hcur
      simp only [Out.err.injEq] at h
      exact .inl ⟨h.1.symm, h.2.symm, .inl ⟨hk, hcur⟩⟩
    · exact .inr (fin (.inr hk) h)
  rename_i hk2
  split at h
  · rename_i hk
    exact .inr (fin (.inl hk) h)
  · rename_i hk1
    simp only [Out.err.injEq] at h
    exact .inl ⟨h.1.symm, h.2.symm, .inr ⟨hk1, hk2⟩⟩

/-- A name's code point, where a name goes on. -/
theorem step_more (done : List Tok) (q : Nat) (t : List UInt8) (p : Nat) (c : Int) (hk : kl c = 1 ∨ kl c = 2) :
    stepS ⟨done, some (q, t), false⟩ p c = if q + 24 < p + (enc c).length then .err q 5 else .ok ⟨done, some (q, t ++ enc c), false⟩ := by
  obtain ⟨h1, h2, h3, _⟩ := kl_name c hk
  unfold stepS
  simp only [h1, h2, h3, if_false, Bool.false_eq_true]
  rcases hk with hk | hk
  · rw [if_neg (by omega), if_pos hk]
    rfl
  · rw [if_pos hk]
    rfl

/-- A Letter, where no name goes on. -/
theorem step_new (done : List Tok) (p : Nat) (c : Int) (hk : kl c = 1) : stepS ⟨done, none, false⟩ p c = .ok ⟨done, some (p, enc c), false⟩ := by
  obtain ⟨h1, h2, h3, _⟩ := kl_name c (.inl hk)
  unfold stepS
  simp only [h1, h2, h3, if_false, Bool.false_eq_true]
  rw [if_neg (by omega), if_pos hk]
  rfl

/-- In an open remark no name goes on. -/
theorem remark_cur : ∀ (d : List Int) (s : Sc), goS sc0 0 d = .ok s → s.remark = true → s.cur = none := by
  intro d
  induction d using snoc_ind with
  | h0 => intro s h _; simp only [goS, Out.ok.injEq] at h; rw [← h]; rfl
  | h1 d c ih =>
    intro s h hr
    obtain ⟨s1, h1, h2⟩ := goS_prefix h
    rw [goS_snoc_ok h1] at h
    rcases step_ok h with ⟨a, rfl⟩ | ⟨_, _, rfl⟩ | ⟨_, _, rfl⟩ | ⟨_, _, _, rfl⟩ | ⟨_, _, _, _, _, _, rfl⟩
    · exact ih s1 h1 a
    · rfl
    · rfl
    · cases hr
    · cases hr

/-- The name that goes on: its bytes are the last ones, and from its first byte on alone it is read the same. -/
theorem cur_inv : ∀ (d : List Int) (s : Sc), goS sc0 0 d = .ok s → ∀ p t, s.cur = some (p, t) →
    ∃ d1 d2, d = d1 ++ d2 ∧ t = encAll d2 ∧ p = (encAll d1).length ∧ (∃ s1, goS sc0 0 d1 = .ok s1) ∧ goS sc0 0 d2 = .ok ⟨[], some (0, t), false⟩ ∧ d2 ≠ [] := by
  intro d
  induction d using snoc_ind with
  | h0 => intro s h p t hc; simp only [goS, Out.ok.injEq] at h; rw [← h] at hc; cases hc
  | h1 d c ih =>
    intro s h p t hc
    obtain ⟨s1, h1, h2⟩ := goS_prefix h
    rw [goS_snoc_ok h1, Nat.zero_add] at h
    rcases step_ok h with ⟨a, rfl⟩ | ⟨_, _, rfl⟩ | ⟨_, _, rfl⟩ | ⟨_, _, hk, rfl⟩ | ⟨q, u, _, hcur, hk, hle, rfl⟩
    · rw [show s1.cur = none from remark_cur d s1 h1 a] at hc
      cases hc
    · cases hc
    · cases hc
    · simp only [Option.some.injEq, Prod.mk.injEq] at hc
      obtain ⟨rfl, rfl⟩ := hc
      refine ⟨d, [c], rfl, by simp [encAll], rfl, ⟨s1, h1⟩, ?_, by simp⟩
      simp only [goS, sc0, step_new [] 0 c hk]
    · simp only [Option.some.injEq, Prod.mk.injEq] at hc
      obtain ⟨rfl, rfl⟩ := hc
      obtain ⟨d1, d2, e1, e2, e3, e4, e5, e6⟩ := ih s1 h1 q u hcur
      refine ⟨d1, d2 ++ [c], by rw [e1]; simp, by rw [encAll_append, encAll_one, e2], e3, e4, ?_, by simp⟩
      rw [goS_snoc_ok e5, step_more _ _ _ _ _ hk]
      have hlen : (encAll d).length = (encAll d1).length + (encAll d2).length := by rw [e1, encAll_append, List.length_append]
      rw [if_neg (by omega)]

/-- What a text's tokens are: the answer, by the text's code points and what is left from the first bad byte on. -/
structure Res where
  toks : List Tok
  place : Nat
  err : Int

def lexR (cs : List Int) (rest : List UInt8) : Res :=
  match goS sc0 0 cs with
  | .err p e => ⟨[], p, e⟩
  | .ok s => if rest = [] then ⟨s.toks, (encAll cs).length, 0⟩ else ⟨[], (encAll cs).length, 4⟩

/-- The tokens are not more than the bytes. -/
theorem toks_len : ∀ (d : List Int), (∀ c ∈ d, isCp c = true) → ∀ s, goS sc0 0 d = .ok s → s.toks.length ≤ (encAll d).length := by
  intro d
  induction d using snoc_ind with
  | h0 => intro _ s h; simp only [goS, Out.ok.injEq] at h; rw [← h]; simp [Sc.toks, sc0, curToks]
  | h1 d c ih =>
    intro hcp s h
    obtain ⟨s1, h1, h2⟩ := goS_prefix h
    rw [goS_snoc_ok h1, Nat.zero_add] at h
    have hi := ih (fun x hx => hcp x (by simp [hx])) s1 h1
    have he := (enc_pos c (hcp c (by simp))).1
    rw [encAll_append, encAll_one, List.length_append]
    rcases step_ok h with ⟨a, rfl⟩ | ⟨_, _, rfl⟩ | ⟨_, _, rfl⟩ | ⟨_, hc, hk, rfl⟩ | ⟨q, u, _, hcur, hk, hle, rfl⟩
    · simp [Sc.toks] at hi ⊢; omega
    · simp [Sc.toks, curToks] at hi ⊢; omega
    · simp [Sc.toks, curToks] at hi ⊢; omega
    · simp [Sc.toks, curToks] at hi ⊢; omega
    · simp [Sc.toks, curToks, hcur] at hi ⊢; omega
end Go.Proofs.Ytlmfmgpamhhncaa

/- Plain facts about the machine: where it stops, and what it has told behind a token's last byte. -/
namespace Go.Proofs.Ytlmfmgpamhhncaa

theorem goS_err : ∀ (cs : List Int) (s : Sc) (p q : Nat) (e : Int), goS s p cs = .err q e → ∃ d c todo st, cs = d ++ c :: todo ∧ goS s p d = .ok st ∧ stepS st (p + (encAll d).length) c = .err q e := by
  intro cs
  induction cs with
  | nil => intro s p q e h; simp [goS] at h
  | cons c cs ih =>
    intro s p q e h
    simp only [goS] at h
    cases hs : stepS s p c with
    | ok s' =>
      rw [hs] at h
      simp only at h
      obtain ⟨d, c2, todo, st, h1, h2, h3⟩ := ih s' _ q e h
      refine ⟨c :: d, c2, todo, st, by rw [h1]; rfl, by simp only [goS, hs]; exact h2, ?_⟩
      rw [← h3]
      congr 1
      simp [encAll]
      omega
    | err q2 e2 =>
      rw [hs] at h
      simp only [Out.err.injEq] at h
      obtain ⟨rfl, rfl⟩ := h
      exact ⟨[], c, cs, s, rfl, rfl, by simpa [encAll] using hs⟩

theorem lexR_ok {cs : List Int} {st : Sc} (h : goS sc0 0 cs = .ok st) : lexR cs [] = ⟨st.toks, (encAll cs).length, 0⟩ := by
  unfold lexR
  rw [h]
  rfl

/-- What stands ahead of the place of an error is no error; from there on the text is refused at its beginning, by the same error. -/
theorem lex_stops (cs : List Int) (rest : List UInt8) (hcp : ∀ c ∈ cs, isCp c = true) (he : (lexR cs rest).err ≠ 0) :
    (lexR cs rest).toks = [] ∧ ∃ d cs2, cs = d ++ cs2 ∧ (lexR cs rest).place = (encAll d).length ∧ (lexR d []).err = 0 ∧ lexR cs2 rest = ⟨[], 0, (lexR cs rest).err⟩ ∧ (encAll d).length < (encAll cs ++ rest).length := by
  cases hg : goS sc0 0 cs with
  | ok st =>
    have hr : rest ≠ [] := by
      intro hr
      subst hr
      rw [lexR_ok hg] at he
      exact he rfl
    have e1 : lexR cs rest = ⟨[], (encAll cs).length, 4⟩ := by unfold lexR; rw [hg]; simp [hr]
    have e2 : lexR [] rest = ⟨[], 0, 4⟩ := by unfold lexR; simp [goS, hr, encAll]
    rw [e1]
    refine ⟨rfl, cs, [], by simp, rfl, by rw [lexR_ok hg], e2, ?_⟩
    have := List.length_pos_iff.2 hr
    simp
    omega
  | err p e =>
    have e1 : lexR cs rest = ⟨[], p, e⟩ := by unfold lexR; rw [hg]
    rw [e1]
    obtain ⟨d, c, todo, st, h1, h2, h3⟩ := goS_err cs sc0 0 p e hg
    rw [Nat.zero_add] at h3
    have hc := hcp c (by rw [h1]; simp)
    have hep := enc_pos c hc
    obtain ⟨hrm, h35, hk3, hmk, hw⟩ := step_err h3
    refine ⟨rfl, ?_⟩
    rcases hw with ⟨rfl, rfl, hk⟩ | ⟨t, rfl, hcur, hk, hbig⟩
    · refine ⟨d, c :: todo, h1, rfl, by rw [lexR_ok h2], ?_, ?_⟩
      · have hst : stepS sc0 0 c = .err 0 10 := by
          unfold stepS sc0
          simp only [h35, hk3, hmk, if_false, Bool.false_eq_true]
          rcases hk with ⟨hk2, _⟩ | ⟨hk1, hk2⟩
          · rw [if_pos hk2]
          · rw [if_neg hk2, if_neg hk1]
        unfold lexR
        simp only [goS, hst]
      · rw [h1, encAll_append]
        simp [encAll]
        omega
    · obtain ⟨d1, d2, f1, f2, f3, ⟨s1, f4⟩, f5, f6⟩ := cur_inv d st h2 p t hcur
      have hl : (encAll d).length = (encAll d1).length + (encAll d2).length := by rw [f1, encAll_append, List.length_append]
      refine ⟨d1, d2 ++ c :: todo, by rw [h1, f1]; simp, f3, by rw [lexR_ok f4], ?_, ?_⟩
      · have hgo : goS sc0 0 (d2 ++ c :: todo) = .err 0 5 := by
          rw [goS_append, f5]
          simp only [goS]
          rw [step_more _ _ _ _ _ hk, if_pos (by omega)]
        unfold lexR
        rw [hgo]
      · rw [h1, f1, encAll_append, encAll_append]
        simp [encAll]
        omega

/-- Behind a token's last byte the tokens are the first ones. -/
theorem lex_cuts : ∀ (d : List Int) (st : Sc), goS sc0 0 d = .ok st → ∀ (i : Nat) (t : Tok), st.toks[i]? = some t →
    ∃ d1 d2 st1, d = d1 ++ d2 ∧ goS sc0 0 d1 = .ok st1 ∧ st1.toks = st.toks.take (i + 1) ∧ t.at_ + t.text.length = (encAll d1).length := by
  intro d
  induction d using snoc_ind with
  | h0 => intro st h i t hi; simp only [goS, Out.ok.injEq] at h; rw [← h] at hi; simp [Sc.toks, sc0, curToks] at hi
  | h1 d c ih =>
    intro st h i t hi
    obtain ⟨s1, h1, h2⟩ := goS_prefix h
    have hgo := h
    rw [goS_snoc_ok h1, Nat.zero_add] at h
    have old : ∀ (i : Nat) (t : Tok), s1.toks[i]? = some t → st.toks.take (i + 1) = s1.toks.take (i + 1) → ∃ d1 d2 st1, d ++ [c] = d1 ++ d2 ∧ goS sc0 0 d1 = .ok st1 ∧ st1.toks = st.toks.take (i + 1) ∧ t.at_ + t.text.length = (encAll d1).length := by
      intro i t hi he
      obtain ⟨d1, d2, st1, e1, e2, e3, e4⟩ := ih s1 h1 i t hi
      exact ⟨d1, d2 ++ [c], st1, by rw [e1]; simp, e2, by rw [he]; exact e3, e4⟩
    have new : ∀ (l : List Tok) (x : Tok), st.toks = l ++ [x] → (∀ (i : Nat) (t : Tok), l[i]? = some t → s1.toks[i]? = some t ∧ l.take (i + 1) = s1.toks.take (i + 1)) → x.at_ + x.text.length = (encAll (d ++ [c])).length →
        ∃ d1 d2 st1, d ++ [c] = d1 ++ d2 ∧ goS sc0 0 d1 = .ok st1 ∧ st1.toks = st.toks.take (i + 1) ∧ t.at_ + t.text.length = (encAll d1).length := by
      intro l x hl hold hx
      by_cases hil : i < l.length
      · have hi2 : l[i]? = some t := by rw [hl, List.getElem?_append_left hil] at hi; exact hi
        obtain ⟨a1, a2⟩ := hold i t hi2
        refine old i t a1 ?_
        rw [hl, List.take_append_of_le_length (by omega), a2]
      · have hie : i = l.length := by
          have := (List.getElem?_eq_some_iff.1 hi).1
          rw [hl] at this
          simp at this
          omega
        subst hie
        have ht : x = t := by rw [hl] at hi; simpa using hi
        subst ht
        exact ⟨d ++ [c], [], st, by simp, hgo, by rw [hl, List.take_of_length_le (by simp)], hx⟩
    have hlen : (encAll (d ++ [c])).length = (encAll d).length + (enc c).length := by rw [encAll_append, encAll_one, List.length_append]
    rcases step_ok h with ⟨a, hs⟩ | ⟨_, _, hs⟩ | ⟨_, _, hs⟩ | ⟨_, hc, hk, hs⟩ | ⟨q, u, _, hcur, hk, hle, hs⟩
    · have e : st.toks = s1.toks := by rw [hs]; rfl
      rw [e] at hi
      exact old i t hi (by rw [e])
    · have e : st.toks = s1.toks := by rw [hs]; simp [Sc.toks, curToks]
      rw [e] at hi
      exact old i t hi (by rw [e])
    · exact new s1.toks ⟨2, enc c, (encAll d).length⟩ (by rw [hs]; simp [Sc.toks, curToks]) (fun i t h => ⟨h, rfl⟩) (by rw [hlen])
    · have e : s1.toks = s1.done := by simp [Sc.toks, hc, curToks]
      exact new s1.done ⟨1, enc c, (encAll d).length⟩ (by rw [hs]; simp [Sc.toks, curToks]) (fun i t h => by rw [e]; exact ⟨h, rfl⟩) (by rw [hlen])
    · obtain ⟨d1, d2, f1, f2, f3, _, _, _⟩ := cur_inv d s1 h1 q u hcur
      have e : s1.toks = s1.done ++ [⟨1, u, q⟩] := by simp [Sc.toks, hcur, curToks]
      refine new s1.done ⟨1, u ++ enc c, q⟩ (by rw [hs]; simp [Sc.toks, curToks]) (fun i t h => ?_) ?_
      · have hil := (List.getElem?_eq_some_iff.1 h).1
        rw [e, List.getElem?_append_left hil, List.take_append_of_le_length (by omega)]
        exact ⟨h, rfl⟩
      · have hl : (encAll d).length = (encAll d1).length + (encAll d2).length := by rw [f1, encAll_append, List.length_append]
        rw [hlen, hl]
        simp only [List.length_append]
        rw [f2, f3]
        omega
end Go.Proofs.Ytlmfmgpamhhncaa

/- Plain facts about names: a name goes as far as Letters and Digits stand. -/
namespace Go.Proofs.Ytlmfmgpamhhncaa

/-- Is a number a name's code point? -/
def isNm (c : Int) : Bool := decide (kl c = 1 ∨ kl c = 2)

theorem isNm_iff (c : Int) : isNm c = true ↔ (kl c = 1 ∨ kl c = 2) := by simp [isNm]

/-- A name that goes on. -/
theorem go_more (r : List Int) (hr : ∀ c ∈ r, isNm c = true) (hcp : ∀ c ∈ r, isCp c = true) : ∀ (done : List Tok) (q : Nat) (t : List UInt8) (p : Nat), p = q + t.length → t.length ≤ 24 →
    goS ⟨done, some (q, t), false⟩ p r = if q + 24 < p + (encAll r).length then .err q 5 else .ok ⟨done, some (q, t ++ encAll r), false⟩ := by
  induction r with
  | nil =>
    intro done q t p hp ht
    have h0 : (encAll []).length = 0 := rfl
    rw [if_neg (by omega)]
    simp [goS, encAll]
  | cons c r ih =>
    intro done q t p hp ht
    have hk := (isNm_iff c).1 (hr c (by simp))
    simp only [goS]
    rw [step_more _ _ _ _ _ hk]
    by_cases hb : q + 24 < p + (enc c).length
    · rw [if_pos hb, if_pos (by simp [encAll]; omega)]
    · rw [if_neg hb]
      simp only
      rw [ih (fun x hx => hr x (by simp [hx])) (fun x hx => hcp x (by simp [hx])) done q (t ++ enc c) (p + (enc c).length) (by simp; omega) (by simp; omega)]
      have e : p + (enc c).length + (encAll r).length = p + (encAll (c :: r)).length := by simp [encAll]; omega
      rw [e]
      simp [encAll]

/-- A name from its first code point on. -/
theorem go_name (c : Int) (r : List Int) (hc : kl c = 1) (hr : ∀ x ∈ r, isNm x = true) (hcp : ∀ x ∈ c :: r, isCp x = true) (done : List Tok) (p : Nat) :
    goS ⟨done, none, false⟩ p (c :: r) = if 24 < (encAll (c :: r)).length then .err p 5 else .ok ⟨done, some (p, encAll (c :: r)), false⟩ := by
  have hz := enc_pos c (hcp c (by simp))
  simp only [goS]
  rw [step_new done p c hc]
  simp only
  rw [go_more r hr (fun x hx => hcp x (by simp [hx])) done p (enc c) (p + (enc c).length) rfl (by omega)]
  have e : p + (enc c).length + (encAll r).length = p + (encAll (c :: r)).length := by simp [encAll]; omega
  rw [e]
  by_cases hb : 24 < (encAll (c :: r)).length
  · rw [if_pos hb, if_pos (by omega)]
  · rw [if_neg hb, if_neg (by omega)]
    simp [encAll]

theorem takeWhile_all (p : Int → Bool) (l : List Int) : ∀ x ∈ l.takeWhile p, p x = true := by
  induction l with
  | nil => simp
  | cons a l ih =>
    intro x hx
    rw [List.takeWhile_cons] at hx
    split at hx
    · rename_i h
      rcases List.mem_cons.1 hx with rfl | hx
      · exact h
      · exact ih x hx
    · cases hx

theorem dropWhile_head (p : Int → Bool) (l : List Int) : ∀ x y, l.dropWhile p = x :: y → p x = false := by
  induction l with
  | nil => intro x y h; cases h
  | cons a l ih =>
    intro x y h
    rw [List.dropWhile_cons] at h
    split at h
    · exact ih x y h
    · rename_i hp
      simp only [List.cons.injEq] at h
      rw [← h.1]
      simpa using hp
end Go.Proofs.Ytlmfmgpamhhncaa

/- Plain facts about texts that are made of names and marks, with gaps between them. -/
namespace Go.Proofs.Ytlmfmgpamhhncaa

theorem parts_unique : ∀ (cs cs' : List Int) (l rest rest' : List UInt8), Parts l cs rest → Parts l cs' rest' → cs = cs' ∧ rest = rest' := by
  intro cs
  induction cs with
  | nil =>
    intro cs' l rest rest' h h'
    have e1 : l = rest := by rw [h.eq]; simp [encAll]
    cases cs' with
    | nil =>
      have e2 : l = rest' := by rw [h'.eq]; simp [encAll]
      exact ⟨rfl, by rw [← e1, ← e2]⟩
    | cons c cs' =>
      exfalso
      have hc := h'.cp c (by simp)
      have hpre : enc c <+: l := ⟨encAll cs' ++ rest', by rw [h'.eq]; simp [encAll]⟩
      have hep := enc_pos c hc
      rcases h.stop with h0 | h0
      · rw [e1, h0] at hpre
        have := hpre.length_le
        simp at this
        rw [this] at hep
        simp at hep
      · exact h0 c hc (by rw [← e1]; exact hpre)
  | cons c cs ih =>
    intro cs' l rest rest' h h'
    have hc := h.cp c (by simp)
    have hpre : enc c <+: l := ⟨encAll cs ++ rest, by rw [h.eq]; simp [encAll]⟩
    have hep := enc_pos c hc
    cases cs' with
    | nil =>
      exfalso
      have e2 : l = rest' := by rw [h'.eq]; simp [encAll]
      rcases h'.stop with h0 | h0
      · rw [e2, h0] at hpre
        have := hpre.length_le
        simp at this
        rw [this] at hep
        simp at hep
      · exact h0 c hc (by rw [← e2]; exact hpre)
    | cons c' cs' =>
      have hc' := h'.cp c' (by simp)
      have hpre' : enc c' <+: l := ⟨encAll cs' ++ rest', by rw [h'.eq]; simp [encAll]⟩
      have e := enc_unique c c' l hc hc' hpre hpre'
      subst e
      have hl : encAll cs ++ rest = encAll cs' ++ rest' := by
        have h1 := h.eq
        rw [h'.eq] at h1
        simp only [encAll, List.append_assoc, List.append_cancel_left_eq] at h1
        exact h1.symm
      obtain ⟨a, b⟩ := ih cs' (encAll cs ++ rest) rest rest' ⟨rfl, fun x hx => h.cp x (by simp [hx]), h.stop⟩ ⟨hl, fun x hx => h'.cp x (by simp [hx]), h'.stop⟩
      exact ⟨by rw [a], b⟩

/-- A name's code points. -/
def IsName (r : List Int) : Prop := ∃ c r', r = c :: r' ∧ kl c = 1 ∧ (∀ x ∈ r', isNm x = true) ∧ (∀ x ∈ r, isCp x = true) ∧ (encAll r).length ≤ 24

/-- Is a text a name? -/
def nameP (x : List UInt8) : Prop := ∃ r, x = encAll r ∧ IsName r

theorem name_go {r : List Int} (h : IsName r) (done : List Tok) (p : Nat) : goS ⟨done, none, false⟩ p r = .ok ⟨done, some (p, encAll r), false⟩ := by
  obtain ⟨c, r', rfl, h1, h2, h3, h4⟩ := h
  rw [go_name c r' h1 h2 h3, if_neg (by omega)]

theorem kl_name_cp (c : Int) (h : isNm c = true) : isCp c = true := by
  rw [isNm_iff] at h
  cases hc : isCp c with
  | true => rfl
  | false =>
    unfold kl at h
    rw [if_pos hc] at h
    omega

/-- Each token is a name or a mark; the name that goes on is a name. -/
theorem tok_inv : ∀ (d : List Int), (∀ c ∈ d, isCp c = true) → ∀ s, goS sc0 0 d = .ok s → (∀ q t, s.cur = some (q, t) → ∃ r, t = encAll r ∧ IsName r) ∧ ∀ t ∈ s.toks, (t.kind = 1 ∧ nameP t.text) ∨ (t.kind = 2 ∧ ∃ c, isMark c = true ∧ t.text = enc c) := by
  intro d
  induction d using snoc_ind with
  | h0 =>
    intro _ s h
    simp only [goS, Out.ok.injEq] at h
    rw [← h]
    exact ⟨fun q t h => (by cases h), fun t ht => (by simp [Sc.toks, sc0, curToks] at ht)⟩
  | h1 d c ih =>
    intro hcp s h
    obtain ⟨s1, h1, h2⟩ := goS_prefix h
    rw [goS_snoc_ok h1, Nat.zero_add] at h
    obtain ⟨hcur, htok⟩ := ih (fun x hx => hcp x (by simp [hx])) s1 h1
    have hc := hcp c (by simp)
    have hdone : ∀ t ∈ s1.done, (t.kind = 1 ∧ nameP t.text) ∨ (t.kind = 2 ∧ ∃ c, isMark c = true ∧ t.text = enc c) := fun t ht => htok t (by simp [Sc.toks, ht])
    rcases step_ok h with ⟨a, rfl⟩ | ⟨_, _, rfl⟩ | ⟨_, hm, rfl⟩ | ⟨_, hn, hk, rfl⟩ | ⟨q, u, _, hq, hk, hle, rfl⟩
    · exact ⟨hcur, htok⟩
    · refine ⟨fun q t h => (by cases h), fun t ht => htok t ?_⟩
      simpa [Sc.toks, curToks] using ht
    · refine ⟨fun q t h => (by cases h), fun t ht => ?_⟩
      simp only [Sc.toks, curToks, List.append_nil] at ht
      rcases List.mem_append.1 ht with ht | ht
      · exact htok t ht
      · simp only [List.mem_singleton] at ht
        subst ht
        exact .inr ⟨rfl, c, hm, rfl⟩
    · have hone : IsName [c] := ⟨c, [], rfl, hk, by simp, by simpa using hc, by have := enc_pos c hc; simp [encAll]; omega⟩
      refine ⟨?_, ?_⟩
      · intro q t h
        simp only [Option.some.injEq, Prod.mk.injEq] at h
        exact ⟨[c], by rw [← h.2]; simp [encAll], hone⟩
      · intro t ht
        simp only [Sc.toks, curToks] at ht
        rcases List.mem_append.1 ht with ht | ht
        · exact hdone t ht
        · simp only [List.mem_singleton] at ht
          subst ht
          exact .inl ⟨rfl, [c], by simp [encAll], hone⟩
    · obtain ⟨r, rfl, c0, r', hr, k0, k1, k2, k3⟩ := hcur q u hq
      obtain ⟨d1, d2, f1, f2, f3, _, _, _⟩ := cur_inv d s1 h1 q _ hq
      have hl : (encAll d).length = q + (encAll r).length := by rw [f1, encAll_append, List.length_append, f3, f2]
      have hnew : IsName (r ++ [c]) := by
        refine ⟨c0, r' ++ [c], by rw [hr]; rfl, k0, ?_, ?_, ?_⟩
        · intro x hx
          rcases List.mem_append.1 hx with hx | hx
          · exact k1 x hx
          · simp only [List.mem_singleton] at hx
            subst hx
            exact (isNm_iff x).2 hk
        · intro x hx
          rcases List.mem_append.1 hx with hx | hx
          · exact k2 x hx
          · simp only [List.mem_singleton] at hx
            subst hx
            exact hc
        · rw [encAll_append, encAll_one, List.length_append]
          omega
      have he : encAll r ++ enc c = encAll (r ++ [c]) := by rw [encAll_append, encAll_one]
      refine ⟨?_, ?_⟩
      · intro q' t h
        simp only [Option.some.injEq, Prod.mk.injEq] at h
        exact ⟨r ++ [c], by rw [← h.2, he], hnew⟩
      · intro t ht
        simp only [Sc.toks, curToks] at ht
        rcases List.mem_append.1 ht with ht | ht
        · exact hdone t ht
        · simp only [List.mem_singleton] at ht
          subst ht
          exact .inl ⟨rfl, r ++ [c], he, hnew⟩

/-- Each token's bytes stand at its place. -/
theorem tok_at : ∀ (d : List Int) (s : Sc), goS sc0 0 d = .ok s → ∀ t ∈ s.toks, ∃ a b, encAll d = a ++ t.text ++ b ∧ t.at_ = a.length := by
  intro d
  induction d using snoc_ind with
  | h0 => intro s h t ht; simp only [goS, Out.ok.injEq] at h; rw [← h] at ht; simp [Sc.toks, sc0, curToks] at ht
  | h1 d c ih =>
    intro s h
    obtain ⟨s1, h1, h2⟩ := goS_prefix h
    rw [goS_snoc_ok h1, Nat.zero_add] at h
    have he : encAll (d ++ [c]) = encAll d ++ enc c := by rw [encAll_append, encAll_one]
    have old : ∀ t ∈ s1.toks, ∃ a b, encAll (d ++ [c]) = a ++ t.text ++ b ∧ t.at_ = a.length := by
      intro t ht
      obtain ⟨a, b, e1, e2⟩ := ih s1 h1 t ht
      exact ⟨a, b ++ enc c, by rw [he, e1]; simp, e2⟩
    have hdone : ∀ t ∈ s1.done, ∃ a b, encAll (d ++ [c]) = a ++ t.text ++ b ∧ t.at_ = a.length := fun t ht => old t (by simp [Sc.toks, ht])
    rcases step_ok h with ⟨a, rfl⟩ | ⟨_, _, rfl⟩ | ⟨_, hm, rfl⟩ | ⟨_, hn, hk, rfl⟩ | ⟨q, u, _, hq, hk, hle, rfl⟩
    · exact old
    · intro t ht
      exact old t (by simpa [Sc.toks, curToks] using ht)
    · intro t ht
      simp only [Sc.toks, curToks, List.append_nil] at ht
      rcases List.mem_append.1 ht with ht | ht
      · exact old t ht
      · simp only [List.mem_singleton] at ht
        subst ht
        exact ⟨encAll d, [], by rw [he]; simp, rfl⟩
    · intro t ht
      simp only [Sc.toks, curToks] at ht
      rcases List.mem_append.1 ht with ht | ht
      · exact hdone t ht
      · simp only [List.mem_singleton] at ht
        subst ht
        exact ⟨encAll d, [], by rw [he]; simp, rfl⟩
    · obtain ⟨d1, d2, f1, f2, f3, _, _, _⟩ := cur_inv d s1 h1 q u hq
      intro t ht
      simp only [Sc.toks, curToks] at ht
      rcases List.mem_append.1 ht with ht | ht
      · exact hdone t ht
      · simp only [List.mem_singleton] at ht
        subst ht
        exact ⟨encAll d1, [], by rw [he, f1, f2, encAll_append]; simp, f3⟩

/-- What a token is and its bytes, without its place. -/
def strip (t : Tok) : Int × List UInt8 := (t.kind, t.text)

/-- A token's code points: its kind. -/
def IsTok (r : List Int) (k : Int) : Prop := (k = 1 ∧ IsName r) ∨ (k = 2 ∧ ∃ c, isMark c = true ∧ r = [c])

theorem tok_go {r : List Int} {k : Int} (h : IsTok r k) (st : Sc) (hc : st.cur = none) (hr : st.remark = false) (p : Nat) :
    ∃ st', goS st p r = .ok st' ∧ st'.remark = false ∧ st'.toks = st.toks ++ [⟨k, encAll r, p⟩] := by
  obtain ⟨done, cur, rem⟩ := st
  simp only at hc hr
  subst hc
  subst hr
  have e0 : Sc.toks ⟨done, none, false⟩ = done := by simp [Sc.toks, curToks]
  rcases h with ⟨rfl, h⟩ | ⟨rfl, c, hm, rfl⟩
  · exact ⟨_, name_go h done p, rfl, by simp [Sc.toks, curToks]⟩
  · obtain ⟨hk, h35, _, _, _, _⟩ := kl_mark c hm
    refine ⟨⟨done ++ [⟨2, enc c, p⟩], none, false⟩, ?_, rfl, by simp [Sc.toks, curToks, encAll]⟩
    have hst : stepS ⟨done, none, false⟩ p c = .ok ⟨done ++ [⟨2, enc c, p⟩], none, false⟩ := by
      unfold stepS
      simp only [h35, hm, if_false, if_true, Bool.false_eq_true, e0]
      rw [if_neg (by omega)]
    simp only [goS, hst]

/-- Code points that only part tokens. -/
def Gap (g : List Int) : Prop := ∀ (st : Sc) (p : Nat), st.remark = false → ∃ st', goS st p g = .ok st' ∧ st'.toks = st.toks ∧ st'.cur = none ∧ st'.remark = false

def flat : List (List Int × List Int × Int) → List Int
  | [] => []
  | x :: l => x.1 ++ x.2.1 ++ flat l

theorem lex_pairs : ∀ (ps : List (List Int × List Int × Int)), (∀ x ∈ ps, Gap x.1 ∧ IsTok x.2.1 x.2.2) → ∀ (st : Sc) (p : Nat), st.remark = false →
    ∃ st', goS st p (flat ps) = .ok st' ∧ st'.remark = false ∧ st'.toks.map strip = st.toks.map strip ++ ps.map fun x => (x.2.2, encAll x.2.1) := by
  intro ps
  induction ps with
  | nil => intro _ st p hr; exact ⟨st, rfl, hr, by simp⟩
  | cons x ps ih =>
    intro hx st p hr
    obtain ⟨hg, ht⟩ := hx x (by simp)
    obtain ⟨s1, a1, a2, a3, a4⟩ := hg st p hr
    obtain ⟨s2, b1, b2, b3⟩ := tok_go ht s1 a3 a4 (p + (encAll x.1).length)
    obtain ⟨s3, c1, c2, c3⟩ := ih (fun y hy => hx y (by simp [hy])) s2 (p + (encAll (x.1 ++ x.2.1)).length) b2
    refine ⟨s3, ?_, c2, ?_⟩
    · simp only [flat]
      rw [goS_append, goS_append, a1]
      simp only
      rw [b1]
      exact c1
    · rw [c3, b3, a2]
      simp [strip]
end Go.Proofs.Ytlmfmgpamhhncaa

