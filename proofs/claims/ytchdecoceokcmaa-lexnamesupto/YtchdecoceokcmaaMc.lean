/- Plain facts about the numbers that a text's first bytes may stand for. -/
import Derived.Test.YtchdecoceokcmaaMb
namespace Go.Proofs.Ytchdecoceokcmaa

/-- A text's byte as a number. -/
def bt (s : ByteArray) (i : Nat) : Nat := (s.data.toList.getD i 0).toNat

theorem bt_at (s : ByteArray) (i : Nat) (h : i < s.size) : s[i].toNat = bt s i := by
  have h2 : i < s.data.size := h
  unfold bt
  have e : s.data.toList.getD i 0 = s[i] := by
    rw [List.getD_eq_getElem?_getD, Array.getElem?_toList, Array.getElem?_eq_getElem h2]
    rfl
  rw [e]

theorem bt_lt (s : ByteArray) (i : Nat) : bt s i < 256 := by
  unfold bt
  exact UInt8.toNat_lt _

/-- What stands at a text's beginning: a code point of K bytes; or none: then K is 5. -/
def Target (l : List UInt8) (K : Nat) (c : Int) : Prop := (K = 5 ∧ NoCp l) ∨ (isCp c = true ∧ K = (enc c).length ∧ enc c <+: l)

theorem cp_of_wid (X : Int) (k : Nat) (hk : 1 ≤ k) (h : wid X = k) : isCp X = true := by
  rw [isCp_iff]
  unfold wid at h
  repeat' split at h
  all_goals omega

theorem trip (l : List UInt8) (K : Nat) (c : Int) (hT : Target l K c) (k : Nat) (hk1 : 1 ≤ k) (hk4 : k ≤ 4) (X : Int) (hX : isCp c = true → enc c <+: l → (enc c).length = k → X = c) :
    ((wid X == (k : Int)) = false ∧ K ≠ k) ∨ (isCp X = true ∧ (wid X == (k : Int)) = true ∧ enc X ≠ l.take k ∧ K ≠ k) ∨ (isCp X = true ∧ (wid X == (k : Int)) = true ∧ enc X = l.take k ∧ K = k ∧ X = c) := by
  by_cases hw : wid X = k
  · have hc := cp_of_wid X k hk1 hw
    have hb : (wid X == (k : Int)) = true := by rw [beq_iff_eq]; exact hw
    right
    by_cases he : enc X = l.take k
    · right
      have hp : enc X <+: l := by rw [he]; exact List.take_prefix _ _
      rcases hT with ⟨_, hn⟩ | ⟨h1, h2, h3⟩
      · exact absurd hp (hn X hc)
      · have e := enc_unique X c l hc h1 hp h3
        subst e
        have := enc_len X hc
        exact ⟨hc, hb, he, by omega, rfl⟩
    · left
      refine ⟨hc, hb, he, ?_⟩
      intro hK
      rcases hT with ⟨h5, _⟩ | ⟨h1, h2, h3⟩
      · omega
      · have e := hX h1 h3 (by omega)
        subst e
        obtain ⟨t, ht⟩ := h3
        apply he
        rw [← ht, show k = (enc X).length by omega, List.take_left]
  · left
    refine ⟨by rw [beq_eq_false_iff_ne]; exact hw, ?_⟩
    intro hK
    rcases hT with ⟨h5, _⟩ | ⟨h1, h2, h3⟩
    · omega
    · have e := hX h1 h3 (by omega)
      subst e
      have := enc_len X h1
      omega

theorem enc_kinds (c : Int) (hc : isCp c = true) : ∃ n : Nat, c = n ∧ (((enc c).length = 1 ∧ n < 128) ∨ ((enc c).length = 2 ∧ 128 ≤ n ∧ n < 2048) ∨ ((enc c).length = 3 ∧ 2048 ≤ n ∧ n < 65536) ∨ ((enc c).length = 4 ∧ 65536 ≤ n ∧ n < 1114112)) := by
  obtain ⟨n, rfl, h⟩ := cp_cases c hc
  refine ⟨n, rfl, ?_⟩
  rcases h with h | ⟨h1, h2⟩ | ⟨h1, h2, _⟩ | ⟨h1, h2⟩
  · left; rw [enc1 n h]; exact ⟨rfl, h⟩
  · right; left; rw [enc2 n h1 h2]; exact ⟨rfl, h1, h2⟩
  · right; right; left; rw [enc3 n h1 h2]; exact ⟨rfl, h1, h2⟩
  · right; right; right; rw [enc4 n h1]; exact ⟨rfl, h1, h2⟩

theorem cand1 (s : ByteArray) (c : Int) (hc : isCp c = true) (hp : enc c <+: s.data.toList) (hk : (enc c).length = 1) : ((bt s 0 : Nat) : Int) = c := by
  obtain ⟨n, rfl, h⟩ := enc_kinds c hc
  have h1 : n < 128 := by omega
  obtain ⟨t, ht⟩ := hp
  rw [enc1 n h1] at ht
  unfold bt
  rw [← ht]
  simp only [List.cons_append, List.nil_append, List.getD_cons_zero, ofNat_toNat n (by omega)]

theorem cand2 (s : ByteArray) (c : Int) (hc : isCp c = true) (hp : enc c <+: s.data.toList) (hk : (enc c).length = 2) : 64 * ((bt s 0 : Int) % 32) + (bt s 1 : Int) % 64 = c := by
  obtain ⟨n, rfl, h⟩ := enc_kinds c hc
  have h1 : 128 ≤ n ∧ n < 2048 := by omega
  obtain ⟨t, ht⟩ := hp
  rw [enc2 n h1.1 h1.2] at ht
  unfold bt
  rw [← ht]
  simp only [List.cons_append, List.nil_append, List.getD_cons_zero, List.getD_cons_succ, ofNat_toNat (192 + n / 64) (by omega), ofNat_toNat (128 + n % 64) (by omega)]
  omega

theorem cand3 (s : ByteArray) (c : Int) (hc : isCp c = true) (hp : enc c <+: s.data.toList) (hk : (enc c).length = 3) : 64 * (64 * ((bt s 0 : Int) % 16) + (bt s 1 : Int) % 64) + (bt s 2 : Int) % 64 = c := by
  obtain ⟨n, rfl, h⟩ := enc_kinds c hc
  have h1 : 2048 ≤ n ∧ n < 65536 := by omega
  obtain ⟨t, ht⟩ := hp
  rw [enc3 n h1.1 h1.2] at ht
  unfold bt
  rw [← ht]
  simp only [List.cons_append, List.nil_append, List.getD_cons_zero, List.getD_cons_succ, ofNat_toNat (224 + n / 4096) (by omega), ofNat_toNat (128 + n / 64 % 64) (by omega), ofNat_toNat (128 + n % 64) (by omega)]
  omega

theorem cand4 (s : ByteArray) (c : Int) (hc : isCp c = true) (hp : enc c <+: s.data.toList) (hk : (enc c).length = 4) : 64 * (64 * (64 * ((bt s 0 : Int) % 8) + (bt s 1 : Int) % 64) + (bt s 2 : Int) % 64) + (bt s 3 : Int) % 64 = c := by
  obtain ⟨n, rfl, h⟩ := enc_kinds c hc
  have h1 : 65536 ≤ n ∧ n < 1114112 := by omega
  obtain ⟨t, ht⟩ := hp
  rw [enc4 n h1.1] at ht
  unfold bt
  rw [← ht]
  simp only [List.cons_append, List.nil_append, List.getD_cons_zero, List.getD_cons_succ, ofNat_toNat (240 + n / 262144) (by omega), ofNat_toNat (128 + n / 4096 % 64) (by omega), ofNat_toNat (128 + n / 64 % 64) (by omega), ofNat_toNat (128 + n % 64) (by omega)]
  omega

/-- Bytes that are compared as texts. -/
theorem cmp_eq (s Y : ByteArray) (k : Nat) (l : List UInt8) (hY : Y.data.toList = l) : (Y.toList == (s.extract 0 k).toList) = decide (l = s.data.toList.take k) := by
  rw [Lib.toList_data, Lib.extract_toList, hY, Bool.eq_iff_iff]
  simp
end Go.Proofs.Ytchdecoceokcmaa
