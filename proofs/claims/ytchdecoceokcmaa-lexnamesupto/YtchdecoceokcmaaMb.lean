/- Plain facts about texts and their code points: nothing of the program is named here. -/
import Derived.Test.YtchdecoceokcmaaMa
import Derived.Lib.Strings
namespace Go.Proofs.Ytchdecoceokcmaa

theorem enc_len (c : Int) (h : isCp c = true) : ((enc c).length : Int) = wid c := by
  obtain ⟨n, rfl, hn⟩ := cp_cases c h
  rcases hn with hn | ⟨h1, h2⟩ | ⟨h1, h2, h3⟩ | ⟨h1, h2⟩
  · rw [enc1 n hn]
    unfold wid
    rw [if_neg (by omega), if_pos (by omega)]
    rfl
  · rw [enc2 n h1 h2]
    unfold wid
    rw [if_neg (by omega), if_neg (by omega), if_pos (by omega)]
    rfl
  · rw [enc3 n h1 h2]
    unfold wid
    rw [if_neg (by omega), if_neg (by omega), if_neg (by omega)]
    rcases h3 with h3 | h3
    · rw [if_pos (by omega)]
      rfl
    · rw [if_neg (by omega), if_neg (by omega), if_pos (by omega)]
      rfl
  · rw [enc4 n h1]
    unfold wid
    rw [if_neg (by omega), if_neg (by omega), if_neg (by omega), if_neg (by omega), if_neg (by omega), if_neg (by omega), if_pos (by omega)]
    rfl

theorem wid_bd (c : Int) (h : isCp c = true) : 1 ≤ wid c ∧ wid c ≤ 4 := by
  rw [isCp_iff] at h
  unfold wid
  repeat' split
  all_goals omega

theorem enc_pos (c : Int) (h : isCp c = true) : 1 ≤ (enc c).length ∧ (enc c).length ≤ 4 := by
  have h1 := enc_len c h
  have h2 := wid_bd c h
  omega

theorem cp_toNat (c : Int) (h : isCp c = true) : ((c.toNat : Nat) : Int) = c := by
  rw [isCp_iff] at h
  omega

theorem encAll_append (a b : List Int) : encAll (a ++ b) = encAll a ++ encAll b := by
  induction a with
  | nil => rfl
  | cons c a ih => simp [encAll, ih]

theorem encAll_one (c : Int) : encAll [c] = enc c := by simp [encAll]

theorem encAll_len_ge (cs : List Int) (h : ∀ c ∈ cs, isCp c = true) : cs.length ≤ (encAll cs).length ∧ (encAll cs).length ≤ 4 * cs.length := by
  induction cs with
  | nil => simp [encAll]
  | cons c cs ih =>
    have h1 := enc_pos c (h c (by simp))
    have h2 := ih (fun x hx => h x (by simp [hx]))
    simp [encAll]
    omega

theorem parts_exists_aux (n : Nat) : ∀ l : List UInt8, l.length ≤ n → ∃ cs rest, Parts l cs rest := by
  induction n with
  | zero =>
    intro l hl
    have : l = [] := List.eq_nil_of_length_eq_zero (by omega)
    exact ⟨[], l, by simp [encAll], by simp, .inl this⟩
  | succ n ih =>
    intro l hl
    by_cases h : ∃ c, isCp c = true ∧ enc c <+: l
    · obtain ⟨c, hc, t, ht⟩ := h
      have hp := enc_pos c hc
      have hlen : l.length = (enc c).length + t.length := by rw [← ht]; simp
      obtain ⟨cs, rest, p⟩ := ih t (by omega)
      refine ⟨c :: cs, rest, ?_, ?_, p.stop⟩
      · rw [← ht, p.eq]
        simp [encAll]
      · intro x hx
        rcases List.mem_cons.1 hx with rfl | hx
        · exact hc
        · exact p.cp x hx
    · refine ⟨[], l, by simp [encAll], by simp, .inr ?_⟩
      intro c hc hp
      exact h ⟨c, hc, hp⟩

theorem parts_exists (l : List UInt8) : ∃ cs rest, Parts l cs rest := parts_exists_aux l.length l (Nat.le_refl _)

/-- Two code points at one beginning are one. -/
theorem enc_unique (a b : Int) (l : List UInt8) (ha : isCp a = true) (hb : isCp b = true) (pa : enc a <+: l) (pb : enc b <+: l) : a = b := by
  obtain ⟨t, rfl⟩ := pa
  obtain ⟨u, hu⟩ := pb
  have h1 := decode_cp ⟨(enc a ++ t).toArray⟩ 0 a t (by simp) ha
  have h2 := decode_cp ⟨(enc a ++ t).toArray⟩ 0 b u (by rw [← hu]; simp) hb
  rw [h1] at h2
  have h3 := congrArg Prod.fst h2
  have h4 := cp_toNat a ha
  have h5 := cp_toNat b hb
  simp only at h3
  omega

theorem size_list (s : ByteArray) : s.data.toList.length = s.size := by
  show s.data.toList.length = s.data.size
  simp

theorem decode_at (s : ByteArray) (d todo : List Int) (c : Int) (rest : List UInt8) (h : s.data.toList = encAll (d ++ c :: todo) ++ rest) (hc : isCp c = true) :
    Utf8.decode s (encAll d).length = (c.toNat, (enc c).length) := by
  refine decode_cp s _ c (encAll todo ++ rest) ?_ hc
  rw [h, encAll_append]
  simp only [List.append_assoc, List.drop_left, encAll]

theorem decode_stop (s : ByteArray) (cs : List Int) (rest : List UInt8) (h : s.data.toList = encAll cs ++ rest) (hn : NoCp rest) (hne : rest ≠ []) :
    Utf8.decode s (encAll cs).length = (65533, 1) := by
  refine decode_none s _ rest ?_ hn hne
  rw [h, List.drop_left]

/-- Does a text begin with the bytes of the number fffd? -/
def hp (t : ByteArray) : Bool := decide (t.data.toList.take 3 = [239, 191, 189])

theorem enc_bad : enc 65533 = [239, 191, 189] := by decide +kernel

theorem hp_yes (s : ByteArray) (d todo : List Int) (rest : List UInt8) (h : s.data.toList = encAll (d ++ 65533 :: todo) ++ rest) :
    hp (s.extract (encAll d).length s.size) = true := by
  have hz := size_list s
  unfold hp
  rw [Lib.extract_data, h, encAll_append]
  simp only [List.append_assoc, List.drop_left, encAll, enc_bad]
  rw [h, encAll_append] at hz
  simp [encAll, enc_bad] at hz
  have e : s.size - (encAll d).length = 3 + (encAll todo).length + rest.length := by omega
  rw [e]
  simp [List.take_take]
  rw [show min 3 (3 + (encAll todo).length + rest.length) = 3 by omega]
  simp

theorem hp_no (s : ByteArray) (cs : List Int) (rest : List UInt8) (h : s.data.toList = encAll cs ++ rest) (hn : NoCp rest) :
    hp (s.extract (encAll cs).length s.size) = false := by
  unfold hp
  rw [decide_eq_false_iff_not]
  intro e
  rw [Lib.extract_data, h, List.drop_left, List.take_take] at e
  have h1 : enc 65533 <+: rest := by
    rw [enc_bad, ← e]
    exact List.take_prefix _ _
  exact hn 65533 (by decide) h1

/-- Numbers are all code points, or there is a first one that is none. -/
theorem split_cp (l : List Int) : (∀ c ∈ l, isCp c = true) ∨ ∃ d y t, l = d ++ y :: t ∧ (∀ c ∈ d, isCp c = true) ∧ isCp y = false := by
  induction l with
  | nil => left; simp
  | cons c l ih =>
    cases hc : isCp c with
    | false => right; exact ⟨[], c, l, rfl, by simp, hc⟩
    | true =>
      rcases ih with h | ⟨d, y, t, h1, h2, h3⟩
      · left
        intro x hx
        rcases List.mem_cons.1 hx with rfl | hx
        · exact hc
        · exact h x hx
      · right
        refine ⟨c :: d, y, t, by rw [h1]; rfl, ?_, h3⟩
        intro x hx
        rcases List.mem_cons.1 hx with rfl | hx
        · exact hc
        · exact h2 x hx
end Go.Proofs.Ytchdecoceokcmaa
