/- Which nodes are ready, while an order is there (plain words). -/
import Derived.Test.YtdbohfpkhidfiaaDoorRRPc
namespace Go.Proofs.YtdbohfpkhidfiaaDoorRR

theorem readyP_mem {W done : List Nat} (hn : W.length ≤ 64) {x : Nat} : x ∈ readyP W done ↔ (x < W.length ∧ ∀ i, (W.getD x 0).testBit i = true → i ∈ done) ∧ x ∉ done := by
  have hb : (dif (freeTo W (overP done) W.length) (overP done)).testBit x = true ↔ (x < W.length ∧ ∀ i, (W.getD x 0).testBit i = true → i ∈ done) ∧ x ∉ done := by
    rw [dif_bit, freeTo_bit]
    simp only [Bool.and_eq_true, decide_eq_true_eq, Bool.not_eq_true']
    constructor
    · rintro ⟨⟨h1, h2⟩, h3⟩
      refine ⟨⟨h1, fun i hi => (overP_bit done i).1 (dif_zero.1 h2 i hi)⟩, fun hm => ?_⟩
      rw [(overP_bit done x).2 hm] at h3
      cases h3
    · rintro ⟨⟨h1, h2⟩, h3⟩
      refine ⟨⟨h1, dif_zero.2 fun i hi => (overP_bit done i).2 (h2 i hi)⟩, ?_⟩
      cases hc : (overP done).testBit x with
      | false => rfl
      | true => exact absurd ((overP_bit done x).1 hc) h3
  rw [← hb]
  unfold readyP
  constructor
  · exact of_bitsOf
  · intro h
    unfold bitsOf
    refine List.mem_filter.2 ⟨List.mem_range.2 ?_, h⟩
    have := (hb.1 h).1.1
    omega

theorem erase_mem {l : List Nat} {x y : Nat} (h : y ∈ l) (hne : y ≠ x) : y ∈ l.filter (fun z => decide (z ≠ x)) := List.mem_filter.2 ⟨h, by simpa using hne⟩

/-- Different ones that all stand in a list are no more than it has. -/
theorem pigeon : ∀ (a b : List Nat), a.Nodup → (∀ x ∈ a, x ∈ b) → a.length ≤ b.length := by
  intro a
  induction a with
  | nil => intro b _ _; simp
  | cons x a ih =>
    intro b hn hs
    rw [List.nodup_cons] at hn
    have h1 := ih (b.filter fun z => decide (z ≠ x)) hn.2 (fun y hy => erase_mem (hs y (by simp [hy])) (fun e => hn.1 (e ▸ hy)))
    have h2 : (b.filter fun z => decide (z ≠ x)).length < b.length := by
      have h3 := (filter_lt (fun _ => true) (fun z => decide (z ≠ x)) x rfl (by simp) b (fun _ _ _ => rfl)).2 (hs x (by simp))
      have h4 : (b.filter fun _ => true).length = b.length := by rw [List.filter_eq_self.2 (by simp)]
      omega
    simp only [List.length_cons]
    omega

/-- While fewer than all are done, one is ready. -/
theorem ready_some {W o done : List Nat} (hn : W.length ≤ 64) (hO : OrdOk W o) (hol : o.length = W.length) (hlt : done.length < W.length) : readyP W done ≠ [] := by
  have hex : ∃ k x, o[k]? = some x ∧ x ∉ done ∧ ∀ y ∈ o.take k, y ∈ done := by
    have key : ∀ i, i ≤ o.length → (∀ y ∈ o.take i, y ∈ done) ∨ ∃ k x, o[k]? = some x ∧ x ∉ done ∧ ∀ y ∈ o.take k, y ∈ done := by
      intro i
      induction i with
      | zero => intro _; exact .inl (by simp)
      | succ i ih =>
        intro hi
        rcases ih (by omega) with h | h
        · have hx : o[i]? = some o[i] := List.getElem?_eq_getElem (by omega)
          by_cases hd : o[i] ∈ done
          · refine .inl fun y hy => ?_
            rw [List.take_add_one, hx] at hy
            rcases List.mem_append.1 hy with h1 | h1
            · exact h y h1
            · simp at h1; rw [h1]; exact hd
          · exact .inr ⟨i, _, hx, hd, h⟩
        · exact .inr h
    rcases key o.length (Nat.le_refl _) with h | h
    · rw [List.take_length] at h
      have := pigeon o done hO.nodup h
      omega
    · exact h
  obtain ⟨k, x, hx, hd, hall⟩ := hex
  have : x ∈ readyP W done := (readyP_mem hn).2 ⟨⟨hO.lt x (List.mem_of_getElem? hx), fun i hi => hall i (hO.ahead k x hx i hi)⟩, hd⟩
  intro he
  rw [he] at this
  cases this

/-- All done: none is ready. -/
theorem ready_none {W done : List Nat} (hn : W.length ≤ 64) (hd : done.Nodup) (hlt : ∀ x ∈ done, x < W.length) (hl : done.length = W.length) : readyP W done = [] := by
  refine List.eq_nil_iff_forall_not_mem.2 fun x hx => ?_
  obtain ⟨⟨h1, _⟩, h2⟩ := (readyP_mem hn).1 hx
  have := pigeon (x :: done) (List.range W.length) (List.nodup_cons.2 ⟨h2, hd⟩) (fun y hy => by
    rcases List.mem_cons.1 hy with rfl | hy
    · exact List.mem_range.2 h1
    · exact List.mem_range.2 (hlt y hy))
  simp at this
  omega
end Go.Proofs.YtdbohfpkhidfiaaDoorRR
