/- What weave tells: the web holds nodes alone; in the order each stands once, behind those on which it leans (plain words). -/
import Derived.Test.YtdbohfpkhidfiaaDoorRRQh
namespace Go.Proofs.YtdbohfpkhidfiaaDoorRR

theorem webOf_len (n : Nat) (l : List (Int × Int)) : (webOf n l).length = n := by
  have : ∀ (l : List (Int × Int)) (W : List Nat), (l.foldl putArc W).length = W.length := by
    intro l
    induction l with
    | nil => intro W; rfl
    | cons p l ih => intro W; rw [List.foldl_cons, ih]; simp [putArc]
  unfold webOf
  rw [this]
  simp

/-- What stands in the web: the arcs. -/
theorem webOf_bit (n : Nat) (l : List (Int × Int)) (h : l.all (endsOk n) = true) (t f : Nat) : ((webOf n l).getD t 0).testBit f = true ↔ (((f : Int), (t : Int)) ∈ l ∧ t < n) := by
  have key : ∀ (l : List (Int × Int)) (W : List Nat), W.length = n → l.all (endsOk n) = true → (((l.foldl putArc W).getD t 0).testBit f = true ↔ (((f : Int), (t : Int)) ∈ l ∧ t < n) ∨ (W.getD t 0).testBit f = true) := by
    intro l
    induction l with
    | nil => intro W _ _; simp
    | cons p l ih =>
      intro W hW hall
      rw [List.all_cons, Bool.and_eq_true] at hall
      have hp := hall.1
      simp only [endsOk, decide_eq_true_eq] at hp
      rw [List.foldl_cons, ih (putArc W p) (by simp [putArc, hW]) hall.2]
      have hput : ((putArc W p).getD t 0).testBit f = true ↔ (p = ((f : Int), (t : Int)) ∧ t < n) ∨ (W.getD t 0).testBit f = true := by
        obtain ⟨p1, p2⟩ := p
        obtain ⟨a, rfl⟩ : ∃ a : Nat, p1 = (a : Int) := ⟨p1.toNat, by omega⟩
        obtain ⟨b, rfl⟩ : ∃ b : Nat, p2 = (b : Int) := ⟨p2.toNat, by omega⟩
        unfold putArc
        simp only [Int.toNat_natCast, Prod.mk.injEq]
        by_cases hb : b = t
        · subst hb
          rw [set_get _ _ _ (by rw [hW]; omega), or_bit, Bool.or_eq_true, decide_eq_true_eq]
          constructor
          · rintro (h1 | h1)
            · exact .inr h1
            · exact .inl ⟨⟨by omega, rfl⟩, by omega⟩
          · rintro (⟨⟨h1, _⟩, _⟩ | h1)
            · exact .inr (by omega)
            · exact .inl h1
        · rw [List.getD_eq_getElem?_getD, List.getElem?_set_ne hb, ← List.getD_eq_getElem?_getD]
          constructor
          · exact fun h1 => .inr h1
          · rintro (⟨⟨_, h1⟩, _⟩ | h1)
            · omega
            · exact h1
      rw [hput, List.mem_cons]
      constructor
      · rintro (⟨h1, h2⟩ | ⟨rfl, h2⟩ | h1)
        · exact .inl ⟨.inr h1, h2⟩
        · exact .inl ⟨.inl rfl, h2⟩
        · exact .inr h1
      · rintro (⟨h1 | h1, h2⟩ | h1)
        · exact .inr (.inl ⟨h1.symm, h2⟩)
        · exact .inl ⟨h1, h2⟩
        · exact .inr (.inr h1)
  unfold webOf
  rw [key l (List.replicate n 0) (by simp) h]
  have h0 : ((List.replicate n 0).getD t 0).testBit f = false := by
    rw [List.getD_eq_getElem?_getD, List.getElem?_replicate]
    split <;> simp
  rw [h0]
  simp

theorem mem_getD {W : List Nat} {x : Nat} (h : x ∈ W) : ∃ t, t < W.length ∧ W.getD t 0 = x := by
  obtain ⟨t, ht⟩ := List.mem_iff_getElem?.1 h
  exact ⟨t, (List.getElem?_eq_some_iff.1 ht).1, by rw [List.getD_eq_getElem?_getD, ht]; rfl⟩

theorem webOf_ok (n : Nat) (l : List (Int × Int)) (h : l.all (endsOk n) = true) : WebOk (webOf n l) := by
  intro x hx i hi
  obtain ⟨t, _, rfl⟩ := mem_getD hx
  have := ((webOf_bit n l h t i).1 hi).1
  have h2 := List.all_eq_true.1 h _ this
  simp only [endsOk, decide_eq_true_eq] at h2
  rw [webOf_len]
  omega

/-- What an order is. -/
structure OrdOk (W acc : List Nat) : Prop where
  nodup : acc.Nodup
  lt : ∀ x ∈ acc, x < W.length
  ahead : ∀ (k x : Nat), acc[k]? = some x → ∀ i, (W.getD x 0).testBit i = true → i ∈ acc.take k

theorem ordGo_ok (W : List Nat) (hn : W.length ≤ 64) : ∀ (k there : Nat) (acc o : List Nat), there < 18446744073709551616 → (∀ i, there.testBit i = true ↔ i ∈ acc) → OrdOk W acc → ordGo W k there acc = some o → OrdOk W o ∧ o.length = acc.length + k := by
  intro k
  induction k with
  | zero =>
    intro there acc o _ _ hok h
    simp only [ordGo, Option.some.injEq] at h
    subst h
    exact ⟨hok, rfl⟩
  | succ k ih =>
    intro there acc o hth hmem hok h
    unfold ordGo at h
    split at h
    · cases h
    · rename_i h0
      have hlt : nextS W there < 18446744073709551616 := dif_lt (freeTo_lt W there _ hn)
      obtain ⟨b1, _, b3⟩ := low_bit h0 hlt
      generalize low (nextS W there) = v at *
      unfold nextS at b1
      rw [dif_bit, freeTo_bit] at b1
      simp only [Bool.and_eq_true, decide_eq_true_eq, Bool.not_eq_true'] at b1
      obtain ⟨⟨hvn, hfree⟩, hnot⟩ := b1
      have hva : v ∉ acc := fun hm => by rw [(hmem v).2 hm] at hnot; cases hnot
      have := ih (there ||| 2 ^ v) (acc ++ [v]) o (or_lt hth (two_lt b3)) (fun i => by
        rw [or_bit, Bool.or_eq_true, decide_eq_true_eq, hmem i]
        simp) ?_ h
      · refine ⟨this.1, ?_⟩
        have h2 := this.2
        simp at h2
        omega
      · refine ⟨?_, ?_, ?_⟩
        · rw [List.nodup_append]
          refine ⟨hok.nodup, by simp, ?_⟩
          intro a ha b hb
          simp at hb
          subst hb
          exact fun he => hva (he ▸ ha)
        · intro x hx
          rcases List.mem_append.1 hx with h1 | h1
          · exact hok.lt x h1
          · simp at h1; omega
        · intro j x hj i hi
          by_cases hjl : j < acc.length
          · rw [List.getElem?_append_left hjl] at hj
            rw [List.take_append_of_le_length (by omega)]
            exact hok.ahead j x hj i hi
          · have hje : j = acc.length := by
              have := (List.getElem?_eq_some_iff.1 hj).1
              simp at this
              omega
            subst hje
            simp at hj
            subst hj
            rw [List.take_left]
            exact (hmem i).1 (dif_zero.1 hfree i hi)

/-- What weave tells, where it tells. -/
theorem weave_facts {n : Int} {l : List (Int × Int)} {W o : List Nat} (h : weaveP n l = .ok W o) : (0 ≤ n ∧ n ≤ 64) ∧ W = webOf n.toNat l ∧ l.all (endsOk n.toNat) = true ∧ WebOk W ∧ W.length = n.toNat ∧ OrdOk W o ∧ o.length = n.toNat := by
  unfold weaveP at h
  split at h
  · cases h
  · rename_i hc
    have hall : l.all (endsOk n.toNat) = true := by
      cases ha : l.all (endsOk n.toNat) with
      | true => rfl
      | false => exact absurd (.inr (.inr (.inr ha))) hc
    split at h
    · cases h
    · rename_i o' ho
      cases h
      have hl := webOf_len n.toNat l
      have hn : 0 ≤ n ∧ n ≤ 64 := by
        constructor
        · apply Int.not_lt.1
          intro h1
          exact hc (.inl h1)
        · apply Int.not_lt.1
          intro h1
          exact hc (.inr (.inl h1))
      obtain ⟨h1, h2⟩ := ordGo_ok (webOf n.toNat l) (by omega) _ 0 [] _ (by omega) (by simp) ⟨by simp, by simp, by simp⟩ ho
      refine ⟨hn, rfl, hall, webOf_ok _ _ hall, hl, h1, ?_⟩
      simp at h2
      omega
end Go.Proofs.YtdbohfpkhidfiaaDoorRR
