/- Plain facts on events' texts: unlike right events have unlike texts. -/
import Derived.Test.YtcnodkkdhkkicaaDoorPa
import Derived.Lib.ItoaNum
namespace Go.Proofs.YtcnodkkdhkkicaaDoor
set_option linter.unusedVariables false

/-- A number's decimal digits. -/
def dgs (n : Nat) : List UInt8 := Lib.decDigits n

theorem dgs_lt {n : Nat} (h : n < 10) : dgs n = [UInt8.ofNat (48 + n)] := by unfold dgs; rw [Lib.decDigits, dif_pos h]
theorem dgs_ge {n : Nat} (h : ¬ n < 10) : dgs n = dgs (n / 10) ++ dgs (n % 10) := by
  rw [dgs_lt (show n % 10 < 10 by omega)]
  unfold dgs
  conv => lhs; rw [Lib.decDigits]
  rw [dif_neg h]

theorem dgs_mem : ∀ (n : Nat) (c : UInt8), c ∈ dgs n → 48 ≤ c.toNat ∧ c.toNat ≤ 57 := by
  intro n
  induction n using Nat.strongRecOn with
  | _ n ih =>
    intro c hc
    by_cases h : n < 10
    · rw [dgs_lt h] at hc
      simp only [List.mem_cons, List.not_mem_nil, or_false] at hc
      subst hc
      rw [u8_nat]
      omega
    · rw [dgs_ge h] at hc
      rcases List.mem_append.1 hc with hc | hc
      · exact ih (n / 10) (by omega) c hc
      · exact ih (n % 10) (by omega) c hc

theorem dgs_pos : ∀ (n : Nat), 0 < (dgs n).length := by
  intro n
  by_cases h : n < 10
  · rw [dgs_lt h]; simp
  · rw [dgs_ge h, List.length_append, dgs_lt (show n % 10 < 10 by omega)]; simp

theorem dgs_len : ∀ (k n : Nat), n < 10 ^ (k + 1) → (dgs n).length ≤ k + 1
  | 0, n, h => by rw [dgs_lt (by simpa using h)]; simp
  | k + 1, n, h => by
    by_cases h1 : n < 10
    · rw [dgs_lt h1]; simp
    · have h2 : n / 10 < 10 ^ (k + 1) := by
        rw [Nat.div_lt_iff_lt_mul (by decide), ← Nat.pow_succ]
        exact h
      have := dgs_len k (n / 10) h2
      rw [dgs_ge h1, List.length_append, dgs_lt (show n % 10 < 10 by omega)]
      simp
      omega

theorem dgs_small {n : Nat} (h : n ≤ 1099511627776) : (dgs n).length ≤ 13 := dgs_len 12 n (by omega)

/-- What digits are worth. -/
def worth (l : List UInt8) : Nat := l.foldl (fun a c => 10 * a + (c.toNat - 48)) 0

theorem worth_dgs (n : Nat) : worth (dgs n) = n := by
  induction n using Nat.strongRecOn with
  | _ n ih =>
    by_cases h : n < 10
    · rw [dgs_lt h]
      show 10 * 0 + ((UInt8.ofNat (48 + n)).toNat - 48) = n
      rw [u8_nat]
      omega
    · have h1 := ih (n / 10) (by omega)
      rw [dgs_ge h, dgs_lt (show n % 10 < 10 by omega)]
      unfold worth at h1 ⊢
      rw [List.foldl_append, h1]
      show 10 * (n / 10) + ((UInt8.ofNat (48 + n % 10)).toNat - 48) = n
      rw [u8_nat]
      omega

theorem dgs_inj {n m : Nat} (h : dgs n = dgs m) : n = m := by rw [← worth_dgs n, ← worth_dgs m, h]

theorem split_at (x : UInt8) : ∀ (a b p q : List UInt8), x ∉ a → x ∉ b → a ++ x :: p = b ++ x :: q → a = b ∧ p = q
  | [], [], p, q, _, _, h => by
    simp only [List.nil_append, List.cons.injEq, true_and] at h
    exact ⟨rfl, h⟩
  | [], c :: b, p, q, _, hb, h => by
    simp only [List.nil_append, List.cons_append, List.cons.injEq] at h
    exact absurd (List.mem_cons.2 (.inl h.1)) hb
  | c :: a, [], p, q, ha, _, h => by
    simp only [List.nil_append, List.cons_append, List.cons.injEq] at h
    exact absurd (List.mem_cons.2 (.inl h.1.symm)) ha
  | c :: a, d :: b, p, q, ha, hb, h => by
    simp only [List.cons_append, List.cons.injEq] at h
    obtain ⟨h1, h2⟩ := split_at x a b p q (fun hh => ha (List.mem_cons_of_mem _ hh)) (fun hh => hb (List.mem_cons_of_mem _ hh)) h.2
    exact ⟨by rw [h.1, h1], h2⟩

theorem split_end {x : UInt8} {a b R S : List UInt8} (ha : x ∉ a) (hb : x ∉ b) (hR : R = [] ∨ ∃ r, R = x :: r) (hS : S = [] ∨ ∃ r, S = x :: r) (h : a ++ R = b ++ S) : a = b ∧ R = S := by
  rcases hR with rfl | ⟨r, rfl⟩
  · rcases hS with rfl | ⟨s, rfl⟩
    · simp only [List.append_nil] at h
      exact ⟨h, rfl⟩
    · rw [List.append_nil] at h
      exact absurd (by rw [h]; simp) ha
  · rcases hS with rfl | ⟨s, rfl⟩
    · rw [List.append_nil] at h
      exact absurd (by rw [← h]; simp) hb
    · obtain ⟨h1, h2⟩ := split_at x a b r s ha hb h
      exact ⟨h1, by rw [h2]⟩

theorem dgs_no {n : Nat} {c : UInt8} (h : c.toNat < 48) : c ∉ dgs n := fun hc => by
  have := (dgs_mem n c hc).1
  omega

/-- A kind's word. -/
def wordP (k : Int) : List UInt8 :=
  if k = 1 then [115, 116, 97, 114, 116] else if k = 2 then [111, 107] else if k = 3 then [102, 97, 105, 108]
  else if k = 4 then [117, 110, 100, 111] else if k = 5 then [117, 110, 100, 111, 110, 101] else if k = 6 then [115, 108, 105, 112] else []

def numT (k i t : Int) : List UInt8 := dgs i.toNat ++ (if 3 < k then 46 :: dgs t.toNat else [])
def headT (k i t : Int) : List UInt8 := wordP k ++ 32 :: numT k i t
def stampT (s : List Int) : List UInt8 := s.flatMap fun n => 32 :: dgs n.toNat
/-- A right event's text. -/
def texE (e : Ev) : List UInt8 := headT e.k e.i e.t ++ stampT e.s
/-- What Text answers. -/
def textE (e : Ev) : List UInt8 := if okE e then texE e else []

theorem stampT_nil : stampT [] = [] := rfl
theorem stampT_cons (n : Int) (s : List Int) : stampT (n :: s) = 32 :: (dgs n.toNat ++ stampT s) := by simp [stampT]
theorem stampT_snoc (n : Int) (s : List Int) : stampT (s ++ [n]) = stampT s ++ 32 :: dgs n.toNat := by simp [stampT]
theorem stampT_or (s : List Int) : stampT s = [] ∨ ∃ r, stampT s = 32 :: r := by
  cases s with
  | nil => exact .inl rfl
  | cons n s => exact .inr ⟨_, stampT_cons n s⟩

theorem stampT_inj : ∀ (s r : List Int), stampT s = stampT r → natL s = natL r
  | [], [], _ => rfl
  | [], n :: r, h => by rw [stampT_cons] at h; cases h
  | n :: s, [], h => by rw [stampT_cons] at h; cases h
  | n :: s, m :: r, h => by
    rw [stampT_cons, stampT_cons, List.cons.injEq] at h
    obtain ⟨h1, h2⟩ := split_end (dgs_no (by decide)) (dgs_no (by decide)) (stampT_or s) (stampT_or r) h.2
    have := stampT_inj s r h2
    unfold natL at this ⊢
    rw [List.map_cons, List.map_cons, dgs_inj h1, this]

theorem word_no (k : Int) : (32 : UInt8) ∉ wordP k := by
  unfold wordP
  repeat' split
  all_goals decide

theorem word_inj {k m : Int} (h1 : 1 ≤ k) (h2 : k ≤ 6) (h3 : 1 ≤ m) (h4 : m ≤ 6) (h : wordP k = wordP m) : k = m := by
  have hk : k = 1 ∨ k = 2 ∨ k = 3 ∨ k = 4 ∨ k = 5 ∨ k = 6 := by omega
  have hm : m = 1 ∨ m = 2 ∨ m = 3 ∨ m = 4 ∨ m = 5 ∨ m = 6 := by omega
  rcases hk with rfl | rfl | rfl | rfl | rfl | rfl <;> rcases hm with rfl | rfl | rfl | rfl | rfl | rfl <;> first | rfl | (exact absurd h (by decide))

theorem num_no (k i t : Int) : (32 : UInt8) ∉ numT k i t := by
  unfold numT
  intro h
  rcases List.mem_append.1 h with h | h
  · exact dgs_no (by decide) h
  · split at h
    · rcases List.mem_cons.1 h with h | h
      · exact absurd h (by decide)
      · exact dgs_no (by decide) h
    · cases h

/-- Unlike right events have unlike texts. -/
theorem tex_inj {e f : Ev} (he : okE e = true) (hf : okE f = true) (h : texE e = texE f) : e = f := by
  obtain ⟨k1, k2, i1, i2, t1, t2, kt⟩ := okE_head he
  obtain ⟨k3, k4, i3, i4, t3, t4, kt2⟩ := okE_head hf
  have se := okE_stamp he
  have sf := okE_stamp hf
  unfold texE headT at h
  rw [List.append_assoc, List.append_assoc, List.cons_append, List.cons_append] at h
  obtain ⟨hw, h⟩ := split_at 32 _ _ _ _ (word_no _) (word_no _) h
  have hk := word_inj k1 k2 k3 k4 hw
  obtain ⟨hn, hs⟩ := split_end (num_no _ _ _) (num_no _ _ _) (stampT_or e.s) (stampT_or f.s) h
  have hs2 : e.s = f.s := by rw [← okS_int se, ← okS_int sf, stampT_inj _ _ hs]
  have hit : e.i = f.i ∧ e.t = f.t := by
    unfold numT at hn
    by_cases h3 : 3 < e.k
    · rw [if_pos h3, if_pos (by omega)] at hn
      obtain ⟨a1, a2⟩ := split_at 46 _ _ _ _ (dgs_no (by decide)) (dgs_no (by decide)) hn
      have b1 := dgs_inj a1
      have b2 := dgs_inj a2
      exact ⟨by omega, by omega⟩
    · rw [if_neg h3, if_neg (by omega), List.append_nil, List.append_nil] at hn
      have b1 := dgs_inj hn
      exact ⟨by omega, by omega⟩
  obtain ⟨hi, ht⟩ := hit
  cases e; cases f
  simp only at hk hi ht hs2
  subst hk hi ht hs2
  rfl

theorem word_len (k : Int) : (wordP k).length ≤ 6 := by
  unfold wordP
  repeat' split
  all_goals decide

theorem head_len {k i t : Int} (h1 : i ≤ 63) (h2 : t ≤ 3) : (headT k i t).length ≤ 50 := by
  have a := word_len k
  have b := dgs_small (n := i.toNat) (by omega)
  have c := dgs_small (n := t.toNat) (by omega)
  unfold headT numT
  simp only [List.length_append, List.length_cons]
  split
  · simp only [List.length_cons]; omega
  · simp only [List.length_nil]; omega

theorem stampT_len : ∀ (s : List Int), (∀ n ∈ s, n ≤ 1099511627776) → (stampT s).length ≤ 14 * s.length
  | [], _ => by simp [stampT]
  | n :: s, h => by
    have h1 := stampT_len s (fun m hm => h m (List.mem_cons_of_mem _ hm))
    have h2 := dgs_small (n := n.toNat) (by have := h n (List.mem_cons_self ..); omega)
    rw [stampT_cons, List.length_cons, List.length_append, List.length_cons]
    omega
end Go.Proofs.YtcnodkkdhkkicaaDoor
