/- Plain facts about names: a name goes as far as Letters and Digits stand. -/
import Derived.Test.YtchdecoceokcmaaMe
namespace Go.Proofs.Ytchdecoceokcmaa

/-- Is a number a name's code point? -/
def isNm (c : Int) : Bool := decide (kl c = 1 ∨ kl c = 2)

theorem isNm_iff (c : Int) : isNm c = true ↔ (kl c = 1 ∨ kl c = 2) := by simp [isNm]

/-- A name that goes on. -/
theorem go_more (r : List Int) (hr : ∀ c ∈ r, isNm c = true) (hcp : ∀ c ∈ r, isCp c = true) : ∀ (done : List Tok) (q : Nat) (t : List UInt8) (p : Nat), p = q + t.length → t.length ≤ 24 →
    goS ⟨done, some (q, t), false⟩ p r = if q + 24 < p + (encAll r).length then .err q 5 else .ok ⟨done, some (q, t ++ encAll r), false⟩ := by
  induction r with
  | nil =>
    intro done q t p hp ht
    have h0 : (encAll []).length = 0 := rfl
    rw [if_neg (by omega)]
    simp [goS, encAll]
  | cons c r ih =>
    intro done q t p hp ht
    have hk := (isNm_iff c).1 (hr c (by simp))
    simp only [goS]
    rw [step_more _ _ _ _ _ hk]
    by_cases hb : q + 24 < p + (enc c).length
    · rw [if_pos hb, if_pos (by simp [encAll]; omega)]
    · rw [if_neg hb]
      simp only
      rw [ih (fun x hx => hr x (by simp [hx])) (fun x hx => hcp x (by simp [hx])) done q (t ++ enc c) (p + (enc c).length) (by simp; omega) (by simp; omega)]
      have e : p + (enc c).length + (encAll r).length = p + (encAll (c :: r)).length := by simp [encAll]; omega
      rw [e]
      simp [encAll]

/-- A name from its first code point on. -/
theorem go_name (c : Int) (r : List Int) (hc : kl c = 1) (hr : ∀ x ∈ r, isNm x = true) (hcp : ∀ x ∈ c :: r, isCp x = true) (done : List Tok) (p : Nat) :
    goS ⟨done, none, false⟩ p (c :: r) = if 24 < (encAll (c :: r)).length then .err p 5 else .ok ⟨done, some (p, encAll (c :: r)), false⟩ := by
  have hz := enc_pos c (hcp c (by simp))
  simp only [goS]
  rw [step_new done p c hc]
  simp only
  rw [go_more r hr (fun x hx => hcp x (by simp [hx])) done p (enc c) (p + (enc c).length) rfl (by omega)]
  have e : p + (enc c).length + (encAll r).length = p + (encAll (c :: r)).length := by simp [encAll]; omega
  rw [e]
  by_cases hb : 24 < (encAll (c :: r)).length
  · rw [if_pos hb, if_pos (by omega)]
  · rw [if_neg hb, if_neg (by omega)]
    simp [encAll]

theorem takeWhile_all (p : Int → Bool) (l : List Int) : ∀ x ∈ l.takeWhile p, p x = true := by
  induction l with
  | nil => simp
  | cons a l ih =>
    intro x hx
    rw [List.takeWhile_cons] at hx
    split at hx
    · rename_i h
      rcases List.mem_cons.1 hx with rfl | hx
      · exact h
      · exact ih x hx
    · cases hx

theorem dropWhile_head (p : Int → Bool) (l : List Int) : ∀ x y, l.dropWhile p = x :: y → p x = false := by
  induction l with
  | nil => intro x y h; cases h
  | cons a l ih =>
    intro x y h
    rw [List.dropWhile_cons] at h
    split at h
    · exact ih x y h
    · rename_i hp
      simp only [List.cons.injEq] at h
      rw [← h.1]
      simpa using hp
end Go.Proofs.Ytchdecoceokcmaa
