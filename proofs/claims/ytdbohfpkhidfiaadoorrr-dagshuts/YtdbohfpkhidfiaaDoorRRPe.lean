/- Chains; arcs that are turned round (plain words). -/
import Derived.Test.YtdbohfpkhidfiaaDoorRRPd
namespace Go.Proofs.YtdbohfpkhidfiaaDoorRR

/-- A chain of arcs leads from one node to another one. -/
inductive Chain (W : List Nat) : Nat → Nat → Prop
  | one {f t : Nat} : (W.getD t 0).testBit f = true → Chain W f t
  | more {f g t : Nat} : Chain W f g → (W.getD t 0).testBit g = true → Chain W f t

theorem Chain.trans {W : List Nat} {f g t : Nat} (h : Chain W f g) (k : Chain W g t) : Chain W f t := by
  induction k with
  | one e => exact .more h e
  | more _ e ih => exact .more ih e

/-- What reach tells of the first i nodes of an order: what they lean on, and what these were told. -/
theorem reach_eq {W o : List Nat} (hn : W.length ≤ 64) (hO : OrdOk W o) : ∀ i, i ≤ o.length → ((o.take i).foldl (reachOne W) (List.replicate W.length 0)).length = W.length ∧ ∀ (j x : Nat), j < i → o[j]? = some x → ∀ y, (((o.take i).foldl (reachOne W) (List.replicate W.length 0)).getD x 0).testBit y = true ↔ (W.getD x 0).testBit y = true ∨ ∃ f, (W.getD x 0).testBit f = true ∧ (((o.take i).foldl (reachOne W) (List.replicate W.length 0)).getD f 0).testBit y = true := by
  intro i
  induction i with
  | zero => intro _; exact ⟨by simp, by omega⟩
  | succ i ih =>
    intro hi
    obtain ⟨hl, ih⟩ := ih (by omega)
    have hv : o[i]? = some o[i] := List.getElem?_eq_getElem (by omega)
    generalize o[i] = v at hv
    rw [List.take_add_one, hv]
    simp only [Option.toList_some, List.foldl_append, List.foldl_cons, List.foldl_nil]
    generalize (o.take i).foldl (reachOne W) (List.replicate W.length 0) = R at *
    have hvn : v < W.length := hO.lt v (List.mem_of_getElem? hv)
    have hnew := nodup_at hO.nodup hv
    have hvf : v ∉ bitsOf (W.getD v 0) := fun hm => hnew (hO.ahead i v hv v (of_bitsOf hm))
    obtain ⟨r1, r2⟩ := reachOne_at W R v (by rw [hl]; exact hvn) hvf
    refine ⟨by rw [reachOne_len]; exact hl, ?_⟩
    intro j x hj hx y
    have hfne : ∀ k, k ≤ i → o[k]? = some x → ∀ f, (W.getD x 0).testBit f = true → f ≠ v := fun k hk hxk f hf e => hnew (take_sub (hO.ahead k x hxk v (e ▸ hf)) hk)
    by_cases hji : j = i
    · subst hji
      have hxv : x = v := Option.some.inj (hx.symm.trans hv)
      subst hxv
      rw [r2 y]
      constructor
      · rintro (h | ⟨f, hf, h⟩)
        · exact .inl h
        · exact .inr ⟨f, of_bitsOf hf, by rw [r1 f (hfne j (by omega) hx f (of_bitsOf hf))]; exact h⟩
      · rintro (h | ⟨f, hf, h⟩)
        · exact .inl h
        · have hf64 : f < 64 := by
            have := hO.lt f (List.mem_of_mem_take (hO.ahead j x hv f hf))
            omega
          refine .inr ⟨f, List.mem_filter.2 ⟨List.mem_range.2 hf64, hf⟩, ?_⟩
          rw [r1 f (hfne j (by omega) hx f hf)] at h
          exact h
    · have hxv : x ≠ v := fun e => hnew (e ▸ at_mem_take hx (by omega))
      rw [r1 x hxv, ih j x (by omega) hx y]
      constructor
      · rintro (h | ⟨f, hf, h⟩)
        · exact .inl h
        · exact .inr ⟨f, hf, by rw [r1 f (hfne j (by omega) hx f hf)]; exact h⟩
      · rintro (h | ⟨f, hf, h⟩)
        · exact .inl h
        · exact .inr ⟨f, hf, by rw [r1 f (hfne j (by omega) hx f hf)] at h; exact h⟩

/-- All nodes stand in an order that is as long. -/
theorem ord_all {W o : List Nat} (hO : OrdOk W o) (hl : o.length = W.length) {x : Nat} (hx : x < W.length) : x ∈ o := by
  apply Classical.byContradiction
  intro hm
  have := pigeon (x :: o) (List.range W.length) (List.nodup_cons.2 ⟨hm, hO.nodup⟩) (fun y hy => by
    rcases List.mem_cons.1 hy with rfl | hy
    · exact List.mem_range.2 hx
    · exact List.mem_range.2 (hO.lt y hy))
  simp at this
  omega

/-- What reach tells: the chains. -/
theorem reach_chain {W o : List Nat} (hn : W.length ≤ 64) (hO : OrdOk W o) (hl : o.length = W.length) {x : Nat} (hx : x < W.length) (y : Nat) : ((reachP W o).getD x 0).testBit y = true ↔ Chain W y x := by
  have heq : ∀ x, x < W.length → ∀ y, ((reachP W o).getD x 0).testBit y = true ↔ (W.getD x 0).testBit y = true ∨ ∃ f, (W.getD x 0).testBit f = true ∧ ((reachP W o).getD f 0).testBit y = true := by
    intro x hx y
    obtain ⟨j, hj⟩ := List.mem_iff_getElem?.1 (ord_all hO hl hx)
    have hjl := (List.getElem?_eq_some_iff.1 hj).1
    have := (reach_eq hn hO o.length (Nat.le_refl _)).2 j x hjl hj y
    rw [List.take_length] at this
    exact this
  have hlt : ∀ t, t ∈ o → ∀ f, (W.getD t 0).testBit f = true → f ∈ o := by
    intro t ht f hf
    obtain ⟨j, hj⟩ := List.mem_iff_getElem?.1 ht
    exact List.mem_of_mem_take (hO.ahead j t hj f hf)
  constructor
  · obtain ⟨i, hi⟩ := List.mem_iff_getElem?.1 (ord_all hO hl hx)
    revert x y
    induction i using Nat.strongRecOn with
    | ind i ih =>
      intro x hx y hi h
      rcases (heq x hx y).1 h with h1 | ⟨f, hf, h1⟩
      · exact .one h1
      · obtain ⟨j, hj, hjf⟩ := mem_take_at (hO.ahead i x hi f hf)
        exact .more (ih j hj (hO.lt f (List.mem_of_getElem? hjf)) y hjf h1) hf
  · intro h
    induction h with
    | one e => exact (heq _ hx _).2 (.inl e)
    | more c e ih =>
      exact (heq _ hx _).2 (.inr ⟨_, e, ih (hO.lt _ (hlt _ (ord_all hO hl hx) _ e))⟩)

/-- Where there is an order, one is told. -/
theorem ordGo_some {W o : List Nat} (hn : W.length ≤ 64) (hO : OrdOk W o) (hl : o.length = W.length) : ∀ (k there : Nat) (acc : List Nat), there = overP acc → there < 18446744073709551616 → acc.length + k = W.length → ∃ r, ordGo W k there acc = some r := by
  intro k
  induction k with
  | zero => intro there acc _ _ _; exact ⟨acc, rfl⟩
  | succ k ih =>
    intro there acc hth hlt hlen
    have hne : nextS W there ≠ 0 := by
      intro h0
      refine ready_some (done := acc) hn hO hl (by omega) ?_
      unfold readyP
      unfold nextS at h0
      rw [← hth, h0, bitsOf_zero]
    have hnl : nextS W there < 18446744073709551616 := dif_lt (freeTo_lt W there _ hn)
    obtain ⟨_, _, b3⟩ := low_bit hne hnl
    obtain ⟨r, hr⟩ := ih (there ||| 2 ^ low (nextS W there)) (acc ++ [low (nextS W there)]) (by rw [overP_snoc, hth]) (or_lt hlt (two_lt b3)) (by rw [List.length_append]; simp; omega)
    refine ⟨r, ?_⟩
    rw [ordGo, if_neg hne]
    exact hr

theorem ordW_some {W o : List Nat} (hn : W.length ≤ 64) (hO : OrdOk W o) (hl : o.length = W.length) : ∃ r, ordW W = some r := ordGo_some hn hO hl W.length 0 [] rfl (by omega) (by simp)
end Go.Proofs.YtdbohfpkhidfiaaDoorRR
