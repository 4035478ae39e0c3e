/- What reach and Levels tell, of each node in the order (plain words). -/
import Derived.Test.YtdbohfpkhidfiaaDoorRRQq
namespace Go.Proofs.YtdbohfpkhidfiaaDoorRR

theorem getD_set (l : List Nat) (v x a : Nat) : (l.set v a).getD x 0 = if x = v ∧ v < l.length then a else l.getD x 0 := by
  rw [List.getD_eq_getElem?_getD, List.getElem?_set]
  by_cases h : v = x
  · subst h
    by_cases hl : v < l.length
    · simp [hl]
    · rw [if_pos rfl, if_neg hl, if_neg (fun h => hl h.2), List.getD_eq_getElem?_getD, List.getElem?_eq_none (by omega)]
  · rw [if_neg h, if_neg (fun h2 => h h2.1.symm), List.getD_eq_getElem?_getD]

/-- Sets put into one node's: no other one's turns; it holds what they hold. -/
theorem orIn_fold (v : Nat) : ∀ (l : List Nat) (R : List Nat), v < R.length → v ∉ l → (∀ x, x ≠ v → (l.foldl (orIn v) R).getD x 0 = R.getD x 0) ∧ ∀ y, ((l.foldl (orIn v) R).getD v 0).testBit y = true ↔ (R.getD v 0).testBit y = true ∨ ∃ f ∈ l, (R.getD f 0).testBit y = true := by
  intro l
  induction l with
  | nil => intro R _ _; exact ⟨fun _ _ => rfl, fun y => by simp⟩
  | cons f l ih =>
    intro R hv hn
    have hfv : f ≠ v := fun h => hn (by simp [h])
    obtain ⟨h1, h2⟩ := ih (orIn v R f) (by simpa [orIn] using hv) (fun h => hn (by simp [h]))
    have hset : ∀ x, (orIn v R f).getD x 0 = if x = v then R.getD v 0 ||| R.getD f 0 else R.getD x 0 := by
      intro x
      unfold orIn
      rw [getD_set]
      by_cases hx : x = v
      · rw [if_pos ⟨hx, hv⟩, if_pos hx]
      · rw [if_neg (fun h => hx h.1), if_neg hx]
    refine ⟨fun x hx => ?_, fun y => ?_⟩
    · rw [List.foldl_cons, h1 x hx, hset, if_neg hx]
    · rw [List.foldl_cons, h2 y, hset, if_pos rfl, Nat.testBit_or, Bool.or_eq_true]
      constructor
      · rintro ((h | h) | ⟨g, hg, h⟩)
        · exact .inl h
        · exact .inr ⟨f, by simp, h⟩
        · have hgv : g ≠ v := fun e => hn (by simp [← e, hg])
          rw [hset, if_neg hgv] at h
          exact .inr ⟨g, by simp [hg], h⟩
      · rintro (h | ⟨g, hg, h⟩)
        · exact .inl (.inl h)
        · rcases List.mem_cons.1 hg with rfl | hg
          · exact .inl (.inr h)
          · have hgv : g ≠ v := fun e => hn (by simp [← e, hg])
            exact .inr ⟨g, hg, by rw [hset, if_neg hgv]; exact h⟩

theorem reachOne_at (W R : List Nat) (v : Nat) (hv : v < R.length) (hn : v ∉ bitsOf (W.getD v 0)) : (∀ x, x ≠ v → (reachOne W R v).getD x 0 = R.getD x 0) ∧ ∀ y, ((reachOne W R v).getD v 0).testBit y = true ↔ (W.getD v 0).testBit y = true ∨ ∃ f ∈ bitsOf (W.getD v 0), (R.getD f 0).testBit y = true := by
  obtain ⟨h1, h2⟩ := orIn_fold v (bitsOf (W.getD v 0)) (R.set v (W.getD v 0)) (by simpa using hv) hn
  refine ⟨fun x hx => ?_, fun y => ?_⟩
  · unfold reachOne
    rw [h1 x hx, getD_set, if_neg (fun h => hx h.1)]
  · unfold reachOne
    rw [h2 y, getD_set, if_pos ⟨rfl, hv⟩]
    constructor
    · rintro (h | ⟨f, hf, h⟩)
      · exact .inl h
      · rw [getD_set, if_neg (fun (e : f = v ∧ _) => hn (e.1 ▸ hf))] at h
        exact .inr ⟨f, hf, h⟩
    · rintro (h | ⟨f, hf, h⟩)
      · exact .inl h
      · exact .inr ⟨f, hf, by rw [getD_set, if_neg (fun (e : f = v ∧ _) => hn (e.1 ▸ hf))]; exact h⟩

theorem levIn_fold (v : Nat) : ∀ (l : List Nat) (H : List Nat), v < H.length → v ∉ l → (∀ x, x ≠ v → (l.foldl (levIn v) H).getD x 0 = H.getD x 0) ∧ (∀ f ∈ l, H.getD f 0 + 1 ≤ (l.foldl (levIn v) H).getD v 0) ∧ H.getD v 0 ≤ (l.foldl (levIn v) H).getD v 0 ∧ ((l.foldl (levIn v) H).getD v 0 = H.getD v 0 ∨ ∃ f ∈ l, (l.foldl (levIn v) H).getD v 0 = H.getD f 0 + 1) := by
  intro l
  induction l with
  | nil => intro R _ _; exact ⟨fun _ _ => rfl, by simp, Nat.le_refl _, .inl rfl⟩
  | cons f l ih =>
    intro R hv hn
    obtain ⟨h1, h2, h3, h4⟩ := ih (levIn v R f) (by simpa [levIn] using hv) (fun h => hn (by simp [h]))
    have hset : ∀ x, (levIn v R f).getD x 0 = if x = v then max (R.getD v 0) (R.getD f 0 + 1) else R.getD x 0 := by
      intro x
      unfold levIn
      rw [getD_set]
      by_cases hx : x = v
      · rw [if_pos ⟨hx, hv⟩, if_pos hx]
      · rw [if_neg (fun h => hx h.1), if_neg hx]
    have hv' : (levIn v R f).getD v 0 = max (R.getD v 0) (R.getD f 0 + 1) := by rw [hset, if_pos rfl]
    rw [hv'] at h3 h4
    rw [List.foldl_cons]
    refine ⟨fun x hx => ?_, ?_, ?_, ?_⟩
    · rw [h1 x hx, hset, if_neg hx]
    · intro g hg
      rcases List.mem_cons.1 hg with rfl | hg
      · omega
      · have hgv : g ≠ v := fun e => hn (by simp [← e, hg])
        have := h2 g hg
        rw [hset, if_neg hgv] at this
        exact this
    · omega
    · rcases h4 with h4 | ⟨g, hg, h4⟩
      · rw [h4]
        by_cases hm : R.getD f 0 + 1 ≤ R.getD v 0
        · exact .inl (Nat.max_eq_left hm)
        · exact .inr ⟨f, by simp, Nat.max_eq_right (by omega)⟩
      · have hgv : g ≠ v := fun e => hn (by simp [← e, hg])
        rw [hset, if_neg hgv] at h4
        exact .inr ⟨g, by simp [hg], h4⟩

theorem filter_lt (p q : Nat → Bool) (f : Nat) (hp : p f = true) (hq : q f = false) : ∀ l : List Nat, (∀ x ∈ l, q x = true → p x = true) → (l.filter q).length ≤ (l.filter p).length ∧ (f ∈ l → (l.filter q).length + 1 ≤ (l.filter p).length) := by
  intro l
  induction l with
  | nil => intro _; simp
  | cons x l ih =>
    intro h
    obtain ⟨h1, h2⟩ := ih (fun y hy => h y (by simp [hy]))
    rw [List.filter_cons, List.filter_cons]
    have hx := h x (by simp)
    by_cases hqx : q x = true
    · rw [if_pos hqx, if_pos (hx hqx)]
      refine ⟨by simp; omega, fun hf => ?_⟩
      rcases List.mem_cons.1 hf with rfl | hf
      · rw [hq] at hqx; cases hqx
      · have := h2 hf
        simp; omega
    · rw [if_neg hqx]
      by_cases hpx : p x = true
      · rw [if_pos hpx]
        refine ⟨by simp; omega, fun _ => by simp; omega⟩
      · rw [if_neg hpx]
        refine ⟨h1, fun hf => ?_⟩
        rcases List.mem_cons.1 hf with rfl | hf
        · exact absurd hp hpx
        · exact h2 hf

theorem bitsOf_grow {s t f : Nat} (hf : f < 64) (hs : s.testBit f = false) (ht : t.testBit f = true) (h : ∀ y, s.testBit y = true → t.testBit y = true) : (bitsOf s).length + 1 ≤ (bitsOf t).length :=
  (filter_lt (fun i => t.testBit i) (fun i => s.testBit i) f ht hs (List.range 64) (fun x _ => h x)).2 (List.mem_range.2 hf)

theorem of_bitsOf {s i : Nat} (h : i ∈ bitsOf s) : s.testBit i = true := by
  unfold bitsOf at h
  exact (List.mem_filter.1 h).2

/-- What is true of the first i nodes of an order, once they are gone through. -/
structure Told (o : List Nat) (i n : Nat) (R H : List Nat) : Prop where
  rl : R.length = n
  hl : H.length = n
  zero : ∀ x, x ∉ o.take i → H.getD x 0 = 0
  ahead : ∀ (j x : Nat), j < i → o[j]? = some x → ∀ y, (R.getD x 0).testBit y = true → y ∈ o.take j
  above : ∀ (j x : Nat), j < i → o[j]? = some x → ∀ y, (R.getD x 0).testBit y = true → H.getD y 0 < H.getD x 0
  few : ∀ (j x : Nat), j < i → o[j]? = some x → H.getD x 0 ≤ (bitsOf (R.getD x 0)).length

theorem mem_take_at {o : List Nat} {i x : Nat} (h : x ∈ o.take i) : ∃ j, j < i ∧ o[j]? = some x := by
  obtain ⟨j, hj⟩ := List.mem_iff_getElem?.1 h
  have hlt := (List.getElem?_eq_some_iff.1 hj).1
  rw [List.length_take] at hlt
  exact ⟨j, by omega, by rw [List.getElem?_take_of_lt (by omega)] at hj; exact hj⟩

theorem at_mem_take {o : List Nat} {i j x : Nat} (h : o[j]? = some x) (hj : j < i) : x ∈ o.take i := by
  refine List.mem_of_getElem? (i := j) ?_
  rw [List.getElem?_take_of_lt hj]
  exact h

theorem take_sub {o : List Nat} {i j x : Nat} (h : x ∈ o.take j) (hj : j ≤ i) : x ∈ o.take i := by
  obtain ⟨k, hk, hx⟩ := mem_take_at h
  exact at_mem_take hx (by omega)

theorem nodup_at {o : List Nat} (h : o.Nodup) {i v : Nat} (hi : o[i]? = some v) : v ∉ o.take i := by
  intro hm
  obtain ⟨j, hj, hx⟩ := mem_take_at hm
  have := (List.getElem?_inj (by have := (List.getElem?_eq_some_iff.1 hx).1; exact this) h).1 (hx.trans hi.symm)
  omega

theorem told_step {W o : List Nat} {i n v : Nat} {R H : List Nat} (hW : W.length = n) (hn : n ≤ 64) (hO : OrdOk W o) (hi : o[i]? = some v) (h : Told o i n R H) : Told o (i + 1) n (reachOne W R v) (levOne W H v) := by
  have hvn : v < n := by rw [← hW]; exact hO.lt v (List.mem_of_getElem? hi)
  have hnew := nodup_at hO.nodup hi
  have hfree : ∀ f ∈ bitsOf (W.getD v 0), f ∈ o.take i := fun f hf => hO.ahead i v hi f (of_bitsOf hf)
  have hvf : v ∉ bitsOf (W.getD v 0) := fun hm => hnew (hfree v hm)
  obtain ⟨r1, r2⟩ := reachOne_at W R v (by rw [h.rl]; exact hvn) hvf
  obtain ⟨l1, l2, l3, l4⟩ := levIn_fold v (bitsOf (W.getD v 0)) H (by rw [h.hl]; exact hvn) hvf
  have htake : o.take (i + 1) = o.take i ++ [v] := by rw [List.take_add_one, hi]; rfl
  have hne : ∀ y, y ∈ o.take i → y ≠ v := fun y hy e => hnew (e ▸ hy)
  -- the new one
  have hin : ∀ y, ((reachOne W R v).getD v 0).testBit y = true → y ∈ o.take i ∧ H.getD y 0 < (levOne W H v).getD v 0 := by
    intro y hy
    rcases (r2 y).1 hy with h1 | ⟨f, hf, h1⟩
    · have hyi := hO.ahead i v hi y h1
      have hyl : y < 64 := by
        have := hO.lt y (List.mem_of_mem_take hyi)
        omega
      have hyb : y ∈ bitsOf (W.getD v 0) := by
        unfold bitsOf
        exact List.mem_filter.2 ⟨List.mem_range.2 hyl, h1⟩
      have := l2 y hyb
      exact ⟨hyi, by unfold levOne; omega⟩
    · obtain ⟨j, hj, hjf⟩ := mem_take_at (hfree f hf)
      have h2 := h.ahead j f hj hjf y h1
      have h3 := h.above j f hj hjf y h1
      have h4 := l2 f hf
      exact ⟨take_sub h2 (by omega), by unfold levOne; omega⟩
  refine ⟨by rw [reachOne_len]; exact h.rl, by unfold levOne; rw [levIn_len]; exact h.hl, ?_, ?_, ?_, ?_⟩
  · intro x hx
    rw [htake] at hx
    have hxv : x ≠ v := fun e => hx (by simp [e])
    show (levOne W H v).getD x 0 = 0
    unfold levOne
    rw [l1 x hxv]
    exact h.zero x (fun hm => hx (by simp [hm]))
  · intro j x hj hx y hy
    by_cases hji : j = i
    · subst hji
      have hxv : x = v := Option.some.inj (hx.symm.trans hi)
      subst hxv
      exact (hin y hy).1
    · have hxv := hne x (at_mem_take hx (by omega))
      rw [r1 x hxv] at hy
      exact h.ahead j x (by omega) hx y hy
  · intro j x hj hx y hy
    by_cases hji : j = i
    · subst hji
      have hxv : x = v := Option.some.inj (hx.symm.trans hi)
      subst hxv
      obtain ⟨h1, h2⟩ := hin y hy
      have : (levOne W H x).getD y 0 = H.getD y 0 := by unfold levOne; exact l1 y (hne y h1)
      rw [this]
      exact h2
    · have hxv := hne x (at_mem_take hx (by omega))
      rw [r1 x hxv] at hy
      have h1 := h.ahead j x (by omega) hx y hy
      have hyv := hne y (take_sub h1 (by omega))
      have e1 : (levOne W H v).getD y 0 = H.getD y 0 := by unfold levOne; exact l1 y hyv
      have e2 : (levOne W H v).getD x 0 = H.getD x 0 := by unfold levOne; exact l1 x hxv
      rw [e1, e2]
      exact h.above j x (by omega) hx y hy
  · intro j x hj hx
    by_cases hji : j = i
    · subst hji
      have hxv : x = v := Option.some.inj (hx.symm.trans hi)
      subst hxv
      rcases l4 with h4 | ⟨f, hf, h4⟩
      · have h0 := h.zero x hnew
        have : (levOne W H x).getD x 0 = 0 := by unfold levOne; rw [h4, h0]
        omega
      · obtain ⟨k, hk, hkf⟩ := mem_take_at (hfree f hf)
        have h5 := h.few k f hk hkf
        have hff : (R.getD f 0).testBit f = false := by
          cases hb : (R.getD f 0).testBit f with
          | false => rfl
          | true =>
            have := h.above k f hk hkf f hb
            omega
        have hf64 : f < 64 := by
          have := hO.lt f (List.mem_of_getElem? hkf)
          omega
        have h6 := bitsOf_grow (s := R.getD f 0) (t := (reachOne W R x).getD x 0) hf64 hff ((r2 f).2 (.inl (of_bitsOf hf))) (fun y hy => (r2 y).2 (.inr ⟨f, hf, hy⟩))
        show (levOne W H x).getD x 0 ≤ _
        unfold levOne
        rw [h4]
        omega
    · have hxv := hne x (at_mem_take hx (by omega))
      have e2 : (levOne W H v).getD x 0 = H.getD x 0 := by unfold levOne; exact l1 x hxv
      rw [e2, r1 x hxv]
      exact h.few j x (by omega) hx

theorem told_all {W o : List Nat} {n : Nat} (hW : W.length = n) (hn : n ≤ 64) (hO : OrdOk W o) : Told o o.length n (reachP W o) (levP W o) := by
  have key : ∀ i, i ≤ o.length → Told o i n ((o.take i).foldl (reachOne W) (List.replicate W.length 0)) ((o.take i).foldl (levOne W) (List.replicate W.length 0)) := by
    intro i
    induction i with
    | zero =>
      intro _
      refine ⟨by simpa using hW, by simpa using hW, ?_, by omega, by omega, by omega⟩
      intro x _
      show (List.replicate W.length 0).getD x 0 = 0
      rw [List.getD_eq_getElem?_getD, List.getElem?_replicate]
      split <;> rfl
    | succ i ih =>
      intro hi
      have h := ih (by omega)
      have hv : o[i]? = some o[i] := List.getElem?_eq_getElem (by omega)
      have := told_step hW hn hO hv h
      rw [List.take_add_one, hv]
      simp only [Option.toList_some, List.foldl_append, List.foldl_cons, List.foldl_nil]
      exact this
  have := key o.length (Nat.le_refl _)
  rw [List.take_length] at this
  exact this
end Go.Proofs.YtdbohfpkhidfiaaDoorRR
