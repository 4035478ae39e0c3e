/- Plain facts: what a script says, the least script, how many tries there are. -/
import Derived.RowKit
namespace Go.Proofs.YtfemfekhpfkafaaDoor.Or

/-- What a script says of an item. -/
def atP (s : List UInt8) (i : Int) : Nat := if i < 0 then 0 else (s.getD i.toNat 0).toNat
def failsP (s : List UInt8) (i : Int) : Bool := decide (atP s i / 4 % 2 = 1)
def slipsP (s : List UInt8) (i : Int) : Nat := atP s i % 4
def okP (s : List UInt8) (i : Int) (u : Bool) (t : Int) : Bool := if u then decide ((slipsP s i : Int) ≤ t) else !failsP s i

def mostN (s : List UInt8) : Nat → Nat
  | 0 => 0
  | n + 1 => mostN s n + 1 + if failsP s n then 0 else slipsP s n + 1
def mostP (s : List UInt8) (n : Int) : Nat := mostN s (min (max n 0) 64).toNat

theorem atP_lt (s : List UInt8) (i : Int) : atP s i < 256 := by
  unfold atP
  split
  · omega
  · exact UInt8.toNat_lt _

theorem slipsP_lt (s : List UInt8) (i : Int) : slipsP s i < 4 := Nat.mod_lt _ (by omega)

theorem atP_out (s : List UInt8) (i : Int) (h : i < 0 ∨ (s.length : Int) ≤ i) : atP s i = 0 := by
  unfold atP
  split
  · rfl
  · have : s.length ≤ i.toNat := by omega
    simp [this]

theorem atP_in (s : List UInt8) (i : Nat) : atP s i = (s.getD i 0).toNat := by
  unfold atP
  rw [if_neg (by omega)]
  rfl

theorem mostN_le (s : List UInt8) (n : Nat) : mostN s n ≤ 5 * n := by
  induction n with
  | zero => exact Nat.le_refl _
  | succ n ih =>
    have := slipsP_lt s n
    unfold mostN
    split <;> omega

theorem and4 (x : Nat) (h : x < 256) : (decide ((x &&& 4) ≠ 0)) = decide (x / 4 % 2 = 1) := by
  have : ∀ x, x < 256 → (decide ((x &&& 4) ≠ 0)) = decide (x / 4 % 2 = 1) := by decide +kernel
  exact this x h
theorem and3 (x : Nat) (h : x < 256) : x &&& 3 = x % 4 := by
  have : ∀ x, x < 256 → x &&& 3 = x % 4 := by decide +kernel
  exact this x h

/-- May these lists be? -/
def okM (F S : List Int) : Bool := decide (S.length ≤ 64) && S.all (fun x => decide (0 ≤ x ∧ x ≤ 3)) && F.all (fun x => decide (0 ≤ x ∧ x < 64))
/-- The byte of an item. -/
def bt (F S : List Int) (i : Nat) : Nat := (S.getD i 0).toNat + if (i : Int) ∈ F then 4 else 0
/-- How many bytes there are up to the last one that is none of 0. -/
def tl (f : Nat → Nat) : Nat → Nat
  | 0 => 0
  | n + 1 => if f n = 0 then tl f n else n + 1
def bytesL (f : Nat → Nat) (n : Nat) : List UInt8 := (List.range n).map fun i => UInt8.ofNat (f i)
/-- The least script. -/
def mk (F S : List Int) : List UInt8 := bytesL (bt F S) (tl (bt F S) 64)

theorem bytesL_len (f : Nat → Nat) (n : Nat) : (bytesL f n).length = n := by simp [bytesL]
theorem bytesL_at (f : Nat → Nat) (n i : Nat) (h : i < n) : (bytesL f n).getD i 0 = UInt8.ofNat (f i) := by simp [bytesL, h]
theorem bytesL_out (f : Nat → Nat) (n i : Nat) (h : n ≤ i) : (bytesL f n).getD i 0 = 0 := by simp [bytesL, h]
theorem bytesL_take (f : Nat → Nat) (n m : Nat) (h : m ≤ n) : (bytesL f n).take m = bytesL f m := by
  simp [bytesL, ← List.map_take, List.take_range, Nat.min_eq_left h]
theorem bytesL_succ (f : Nat → Nat) (n : Nat) : bytesL f (n + 1) = bytesL f n ++ [UInt8.ofNat (f n)] := by
  simp [bytesL, List.range_succ]

theorem tl_le (f : Nat → Nat) (n : Nat) : tl f n ≤ n := by
  induction n with
  | zero => exact Nat.le_refl _
  | succ n ih => unfold tl; split <;> omega
theorem tl_zero (f : Nat → Nat) (n i : Nat) (h : tl f n ≤ i) (hi : i < n) : f i = 0 := by
  induction n with
  | zero => omega
  | succ n ih =>
    unfold tl at h
    split at h
    · rename_i h0
      by_cases e : i = n
      · subst e; exact h0
      · exact ih h (by omega)
    · omega

theorem okM_len {F S : List Int} (h : okM F S = true) : S.length ≤ 64 := by
  simp only [okM, Bool.and_eq_true, decide_eq_true_eq] at h
  exact h.1.1
theorem okM_slip {F S : List Int} (h : okM F S = true) (x : Int) (hx : x ∈ S) : 0 ≤ x ∧ x ≤ 3 := by
  simp only [okM, Bool.and_eq_true, decide_eq_true_eq, List.all_eq_true] at h
  exact h.1.2 x hx
theorem okM_fail {F S : List Int} (h : okM F S = true) (x : Int) (hx : x ∈ F) : 0 ≤ x ∧ x < 64 := by
  simp only [okM, Bool.and_eq_true, decide_eq_true_eq, List.all_eq_true] at h
  exact h.2 x hx
theorem okM_at {F S : List Int} (h : okM F S = true) (i : Nat) : 0 ≤ S.getD i 0 ∧ S.getD i 0 ≤ 3 := by
  by_cases hi : i < S.length
  · have e : S.getD i 0 = S[i] := by simp [hi]
    rw [e]
    exact okM_slip h _ (List.getElem_mem hi)
  · simp at hi
    simp [hi]
theorem bt_lt {F S : List Int} (h : okM F S = true) (i : Nat) : bt F S i < 8 := by
  have := okM_at h i
  unfold bt
  split <;> omega

/-- What was made says what it was made of. -/
theorem mk_at {F S : List Int} (h : okM F S = true) (i : Int) : atP (mk F S) i = (if 0 ≤ i then (S.getD i.toNat 0).toNat else 0) + if i ∈ F then 4 else 0 := by
  by_cases h0 : i < 0
  · rw [atP_out _ _ (.inl h0), if_neg (by omega), if_neg (fun hm => by have := okM_fail h i hm; omega)]
  · obtain ⟨n, rfl⟩ : ∃ n : Nat, i = (n : Int) := ⟨i.toNat, by omega⟩
    rw [if_pos (by omega), Int.toNat_natCast, atP_in]
    show _ = bt F S n
    by_cases h1 : n < tl (bt F S) 64
    · unfold mk
      rw [bytesL_at _ _ _ h1]
      have := bt_lt h n
      simp
      omega
    · unfold mk
      rw [bytesL_out _ _ _ (by omega)]
      by_cases h2 : n < 64
      · rw [tl_zero (bt F S) 64 n (by omega) h2]
        rfl
      · unfold bt
        have hl := okM_len h
        have hs : S.getD n 0 = 0 := by simp [show S.length ≤ n by omega]
        rw [hs, if_neg (fun hm => by have := okM_fail h _ hm; omega)]
        rfl

theorem mk_fails {F S : List Int} (h : okM F S = true) (i : Int) : failsP (mk F S) i = decide (i ∈ F) := by
  have hs : (if 0 ≤ i then (S.getD i.toNat 0).toNat else 0) < 4 := by
    have := okM_at h i.toNat
    split <;> omega
  unfold failsP
  rw [mk_at h]
  by_cases hm : i ∈ F
  · rw [if_pos hm, decide_eq_true hm]
    exact decide_eq_true (by omega)
  · rw [if_neg hm, decide_eq_false hm]
    exact decide_eq_false (by omega)

theorem mk_slips {F S : List Int} (h : okM F S = true) (i : Int) : slipsP (mk F S) i = if 0 ≤ i then (S.getD i.toNat 0).toNat else 0 := by
  have hs : (if 0 ≤ i then (S.getD i.toNat 0).toNat else 0) < 4 := by
    have := okM_at h i.toNat
    split <;> omega
  unfold slipsP
  rw [mk_at h]
  generalize (if 0 ≤ i then (S.getD i.toNat 0).toNat else 0) = q at hs ⊢
  split <;> omega

theorem mk_len (F S : List Int) : (mk F S).length ≤ 64 := by
  unfold mk
  rw [bytesL_len]
  exact tl_le _ _
end Go.Proofs.YtfemfekhpfkafaaDoor.Or
