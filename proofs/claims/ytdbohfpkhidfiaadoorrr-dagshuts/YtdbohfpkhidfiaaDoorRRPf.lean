/- Arcs that are turned round (plain words). -/
import Derived.Test.YtdbohfpkhidfiaaDoorRRPe
namespace Go.Proofs.YtdbohfpkhidfiaaDoorRR

def swapA (l : List (Int × Int)) : List (Int × Int) := l.map fun p => (p.2, p.1)

theorem swapA_swapA (l : List (Int × Int)) : swapA (swapA l) = l := by
  unfold swapA
  rw [List.map_map]
  exact (List.map_congr_left (fun p _ => rfl)).trans (List.map_id l)

theorem swapA_len (l : List (Int × Int)) : (swapA l).length = l.length := by simp [swapA]

theorem swapA_mem {l : List (Int × Int)} {a b : Int} : (a, b) ∈ swapA l ↔ (b, a) ∈ l := by
  unfold swapA
  rw [List.mem_map]
  constructor
  · rintro ⟨⟨p, q⟩, h, e⟩
    cases e
    exact h
  · intro h
    exact ⟨(b, a), h, rfl⟩

theorem swapA_ends (n : Nat) (l : List (Int × Int)) : (swapA l).all (endsOk n) = l.all (endsOk n) := by
  unfold swapA
  rw [List.all_map]
  congr 1
  funext p
  simp only [Function.comp, endsOk]
  congr 1
  exact propext ⟨fun h => ⟨h.2, h.1⟩, fun h => ⟨h.2, h.1⟩⟩

theorem web_turn {n : Nat} {l : List (Int × Int)} (h : l.all (endsOk n) = true) (t f : Nat) : ((webOf n (swapA l)).getD t 0).testBit f = true ↔ ((webOf n l).getD f 0).testBit t = true := by
  rw [webOf_bit n (swapA l) (by rw [swapA_ends]; exact h), webOf_bit n l h, swapA_mem]
  constructor
  · rintro ⟨h1, _⟩
    have := List.all_eq_true.1 h _ h1
    simp only [endsOk, decide_eq_true_eq] at this
    exact ⟨h1, by omega⟩
  · rintro ⟨h1, _⟩
    have := List.all_eq_true.1 h _ h1
    simp only [endsOk, decide_eq_true_eq] at this
    exact ⟨h1, by omega⟩

theorem ord_turn {n : Nat} {l : List (Int × Int)} (h : l.all (endsOk n) = true) {o : List Nat} (hO : OrdOk (webOf n l) o) (hl : o.length = n) : OrdOk (webOf n (swapA l)) o.reverse := by
  have hW := webOf_len n l
  have hW' := webOf_len n (swapA l)
  refine ⟨List.pairwise_reverse.2 (List.Pairwise.imp (fun h => fun e => h e.symm) hO.nodup), ?_, ?_⟩
  · intro x hx
    rw [hW', ← hW]
    exact hO.lt x (List.mem_reverse.1 hx)
  · intro k x hk i hi
    rw [web_turn h] at hi
    have hkl : k < o.length := by have := (List.getElem?_eq_some_iff.1 hk).1; simpa using this
    rw [List.getElem?_reverse hkl] at hk
    have hin : i < n := by
      apply Classical.byContradiction
      intro hc
      rw [List.getD_eq_getElem?_getD, List.getElem?_eq_none (by rw [hW]; omega)] at hi
      simp at hi
    obtain ⟨j, hj⟩ := List.mem_iff_getElem?.1 (ord_all hO (by rw [hW]; exact hl) (by rw [hW]; exact hin))
    have hjl := (List.getElem?_eq_some_iff.1 hj).1
    obtain ⟨j', hj', hx'⟩ := mem_take_at (hO.ahead j i hj x hi)
    have he := (List.getElem?_inj (by omega) hO.nodup).1 (hk.trans hx'.symm)
    refine at_mem_take (j := o.length - 1 - j) ?_ (by omega)
    rw [List.getElem?_reverse (by omega), show o.length - 1 - (o.length - 1 - j) = j by omega]
    exact hj

theorem ordW_turn {n : Nat} {l : List (Int × Int)} (hn : n ≤ 64) (h : l.all (endsOk n) = true) {o : List Nat} (ho : ordW (webOf n l) = some o) : ∃ o', ordW (webOf n (swapA l)) = some o' := by
  have hW := webOf_len n l
  have hW' := webOf_len n (swapA l)
  obtain ⟨h1, h2⟩ := ordGo_ok (webOf n l) (by omega) _ 0 [] _ (by omega) (by simp) ⟨by simp, by simp, by simp⟩ ho
  simp only [List.length_nil, Nat.zero_add, hW] at h2
  exact ordW_some (by omega) (ord_turn h h1 h2) (by rw [List.length_reverse, h2, hW'])

/-- The turned arcs have the same error, or none. -/
theorem weave_turn (n : Int) (l : List (Int × Int)) : (∃ c, weaveP n l = .bad c ∧ weaveP n (swapA l) = .bad c) ∨ ∃ o o', weaveP n l = .ok (webOf n.toNat l) o ∧ weaveP n (swapA l) = .ok (webOf n.toNat (swapA l)) o' := by
  unfold weaveP
  rw [swapA_len, swapA_ends]
  by_cases hc : n < 0 ∨ 64 < n ∨ 4096 < l.length ∨ l.all (endsOk n.toNat) = false
  · rw [if_pos hc, if_pos hc]
    exact .inl ⟨2, rfl, rfl⟩
  · rw [if_neg hc, if_neg hc]
    have hall : l.all (endsOk n.toNat) = true := by
      cases ha : l.all (endsOk n.toNat) with
      | true => rfl
      | false => exact absurd (.inr (.inr (.inr ha))) hc
    have hn : n.toNat ≤ 64 := by
      have : ¬ 64 < n := fun h1 => hc (.inr (.inl h1))
      omega
    cases ho : ordW (webOf n.toNat l) with
    | some o =>
      obtain ⟨o', ho'⟩ := ordW_turn hn hall ho
      rw [ho']
      exact .inr ⟨o, o', rfl, rfl⟩
    | none =>
      cases ho' : ordW (webOf n.toNat (swapA l)) with
      | none => exact .inl ⟨13, rfl, rfl⟩
      | some o' =>
        obtain ⟨o'', h3⟩ := ordW_turn hn (by rw [swapA_ends]; exact hall) ho'
        rw [swapA_swapA, ho] at h3
        cases h3

theorem chain_turn {n : Nat} {l : List (Int × Int)} (h : l.all (endsOk n) = true) {x y : Nat} (hc : Chain (webOf n l) x y) : Chain (webOf n (swapA l)) y x := by
  induction hc with
  | one e => exact .one ((web_turn h _ _).2 e)
  | more _ e ih => exact Chain.trans (.one ((web_turn h _ _).2 e)) ih

/-- Of turned arcs a node reaches just those from which it was reached. -/
theorem reach_turn {n : Int} {l : List (Int × Int)} {W o W' o' : List Nat} (h1 : weaveP n l = .ok W o) (h2 : weaveP n (swapA l) = .ok W' o') {x y : Nat} (hx : x < n.toNat) (hy : y < n.toNat) : ((reachP W o).getD x 0).testBit y = ((reachP W' o').getD y 0).testBit x := by
  obtain ⟨⟨_, hn⟩, rfl, ha, _, hl, hO, hol⟩ := weave_facts h1
  obtain ⟨_, rfl, ha', _, hl', hO', hol'⟩ := weave_facts h2
  rw [Bool.eq_iff_iff, reach_chain (by omega) hO (by omega) (by omega), reach_chain (by omega) hO' (by omega) (by omega)]
  constructor
  · exact chain_turn ha
  · intro h
    have := chain_turn ha' h
    rw [swapA_swapA] at this
    exact this
end Go.Proofs.YtdbohfpkhidfiaaDoorRR
