/- The plain side of layer 20, on: how the document's loops go. It names no number of a program. -/
import Derived.Test.YthkndkbffiaknaaTqa
namespace Go.Proofs.Ythkndkbffiaknaa.Tz
set_option linter.unusedVariables false

/-- The document's Again, as far as it has gone. -/
def agnTo (l : List Ef) : Nat → Nat
  | 0 => 0
  | n + 1 => agnTo l n + if (l.getD n default).key ∈ keys (l.take n) then 1 else 0

theorem keys_append (a b : List Ef) : keys (a ++ b) = keys a ++ keys b := by simp [keys]
theorem agn_seen : ∀ {l : List Ef} {s t : List (Int × Bool × Int)}, (∀ k, k ∈ s ↔ k ∈ t) → agn s l = agn t l
  | [], _, _, _ => rfl
  | e :: l, s, t, h => by
    unfold agn
    rw [agn_seen (l := l) (s := e.key :: s) (t := e.key :: t) fun k => by rw [List.mem_cons, List.mem_cons, h]]
    by_cases h1 : e.key ∈ s
    · rw [if_pos h1, if_pos ((h _).1 h1)]
    · rw [if_neg h1, if_neg (fun h2 => h1 ((h _).2 h2))]
theorem agn_from (l : List Ef) : ∀ (n : Nat), n ≤ l.length → agnTo l n + agn (keys (l.take n)) (l.drop n) = agn [] l
  | 0, _ => by simp [agnTo, keys]
  | n + 1, h => by
    have ih := agn_from l n (by omega)
    have hn : n < l.length := by omega
    have e1 : l.drop n = l[n] :: l.drop (n + 1) := List.drop_eq_getElem_cons hn
    have e2 : l.getD n default = l[n] := by simp [hn]
    have e3 : l.take (n + 1) = l.take n ++ [l[n]] := by rw [List.take_append_getElem hn]
    rw [← ih, e1]
    show agnTo l n + (if (l.getD n default).key ∈ keys (l.take n) then 1 else 0) + agn (keys (l.take (n + 1))) (l.drop (n + 1)) = agnTo l n + ((if l[n].key ∈ keys (l.take n) then 1 else 0) + agn (l[n].key :: keys (l.take n)) (l.drop (n + 1)))
    rw [e2, e3, Nat.add_assoc, agn_seen (s := keys (l.take n ++ [l[n]])) (t := l[n].key :: keys (l.take n)) fun k => by rw [keys_append, List.mem_append, List.mem_cons, or_comm]; simp [keys]]
theorem agn_to (l : List Ef) : agnTo l l.length = agn [] l := by
  have h := agn_from l l.length (Nat.le_refl _)
  simpa [agn] using h

/-- The document's Last: what it has, and what is to come. -/
theorem last_step {l : List Ef} {n : Nat} (h : n < l.length) : lastL (l.drop n) = if (l.getD n default).key ∈ keys (l.drop (n + 1)) then lastL (l.drop (n + 1)) else l.getD n default :: lastL (l.drop (n + 1)) := by
  have e1 : l.drop n = l[n] :: l.drop (n + 1) := List.drop_eq_getElem_cons h
  have e2 : l.getD n default = l[n] := by simp [h]
  rw [e1, e2]
  rfl

theorem find_some {k : Int × Bool × Int} {l : List Ef} {i : Nat} (hi : i < l.length) (hk : (l.getD i default).key = k) (hb : ∀ j, j < i → (l.getD j default).key ≠ k) : findE k l = some i := by
  unfold findE
  rw [List.findIdx?_eq_some_iff_getElem]
  refine ⟨hi, ?_, fun j hj => ?_⟩
  · have e : l.getD i default = l[i] := by simp [hi]
    rw [← e, hk]
    simp
  · have hj2 : j < l.length := by omega
    have e : l.getD j default = l[j] := by simp [hj2]
    have := hb j hj
    rw [e] at this
    simpa using this
theorem find_none {k : Int × Bool × Int} {l : List Ef} (hb : ∀ j, j < l.length → (l.getD j default).key ≠ k) : findE k l = none := by
  unfold findE
  rw [List.findIdx?_eq_none_iff]
  intro e he
  obtain ⟨j, hj, rfl⟩ := List.mem_iff_getElem.1 he
  have := hb j hj
  simpa [hj] using this
theorem find_at {k : Int × Bool × Int} {l : List Ef} {i : Nat} (h : findE k l = some i) : i < l.length ∧ (l.getD i default).key = k ∧ ∀ j, j < i → (l.getD j default).key ≠ k := by
  unfold findE at h
  rw [List.findIdx?_eq_some_iff_getElem] at h
  obtain ⟨h1, h2, h3⟩ := h
  have e : l.getD i default = l[i] := by simp [h1]
  refine ⟨h1, by rw [e]; simpa using h2, fun j hj => ?_⟩
  have hj2 : j < l.length := by omega
  have e : l.getD j default = l[j] := by simp [hj2]
  rw [e]
  simpa using h3 j hj
theorem find_mem {k : Int × Bool × Int} {l : List Ef} : findE k l ≠ none ↔ k ∈ keys l := by
  unfold findE
  rw [ne_eq, List.findIdx?_eq_none_iff, mem_keys]
  constructor
  · intro h
    apply Classical.byContradiction
    intro h2
    refine h fun e he => ?_
    have : ¬ e.key = k := fun h9 => h2 ⟨e, he, h9⟩
    simpa using this
  · rintro ⟨e, he, hk⟩ h
    have := h e he
    simp [hk] at this
theorem find_first {l : List Ef} {n : Nat} (h : n < l.length) : ∃ i, findE (l.getD n default).key l = some i ∧ i ≤ n ∧ (i < n ↔ (l.getD n default).key ∈ keys (l.take n)) := by
  have e : l.getD n default = l[n] := by simp [h]
  have hm : (l.getD n default).key ∈ keys l := mem_keys.2 ⟨l[n], List.getElem_mem h, by rw [e]⟩
  cases hf : findE (l.getD n default).key l with
  | none => exact absurd hf (find_mem.2 hm)
  | some i =>
    obtain ⟨h1, h2, h3⟩ := find_at hf
    have hin : i ≤ n := by
      apply Classical.byContradiction
      intro h9
      exact h3 n (by omega) rfl
    refine ⟨i, rfl, hin, fun hlt => ?_, fun hk => ?_⟩
    · rw [mem_keys]
      refine ⟨l[i], ?_, ?_⟩
      · rw [List.mem_take_iff_getElem]
        exact ⟨i, by omega, rfl⟩
      · have e2 : l.getD i default = l[i] := by simp [h1]
        rw [← e2, h2]
    · obtain ⟨x, hx, hxk⟩ := mem_keys.1 hk
      rw [List.mem_take_iff_getElem] at hx
      obtain ⟨j, hj, rfl⟩ := hx
      apply Classical.byContradiction
      intro h9
      have hi : i = n := by omega
      subst hi
      refine h3 j (by omega) ?_
      have e2 : l.getD j default = l[j] := by simp [show j < l.length by omega]
      rw [e2]
      exact hxk

/-- The document's Check. -/
theorem check_all {l : List Ef} (h : ∀ n i, n < l.length → findE (l.getD n default).key l = some i → (l.getD n default).ok = (l.getD i default).ok) : checkE l := by
  intro a ha b hb hk
  obtain ⟨n, hn, rfl⟩ := List.mem_iff_getElem.1 ha
  obtain ⟨m, hm, rfl⟩ := List.mem_iff_getElem.1 hb
  have en : l.getD n default = l[n] := by simp [hn]
  have em : l.getD m default = l[m] := by simp [hm]
  obtain ⟨i, h1, _, _⟩ := find_first hn
  have h2 := h n i hn h1
  have h3 := h m i hm (by rw [em, ← hk, ← en]; exact h1)
  rw [← en, ← em, h2, h3]
theorem check_not {l : List Ef} {n i : Nat} (hn : n < l.length) (hf : findE (l.getD n default).key l = some i) (hu : (l.getD n default).ok ≠ (l.getD i default).ok) : ¬ checkE l := by
  intro hc
  obtain ⟨h1, h2, _⟩ := find_at hf
  have en : l.getD n default = l[n] := by simp [hn]
  have ei : l.getD i default = l[i] := by simp [h1]
  refine hu ?_
  rw [en, ei]
  refine hc _ (List.getElem_mem hn) _ (List.getElem_mem h1) ?_
  rw [← en, ← ei, h2]

/-- The document's first: the place of an item's first effect, of undoing or not, that went well (or any). -/
def firstE (l : List Ef) (i : Int) (u any : Bool) : Option Nat := l.findIdx? fun e => e.i == i && e.u == u && (any || e.ok)
theorem first_iff {l : List Ef} {i : Int} {u any : Bool} : firstE l i u any ≠ none ↔ ∃ e ∈ l, e.i = i ∧ e.u = u ∧ (any = true ∨ e.ok = true) := by
  unfold firstE
  rw [ne_eq, List.findIdx?_eq_none_iff]
  constructor
  · intro h
    apply Classical.byContradiction
    intro h2
    refine h fun e he => ?_
    rw [Bool.eq_false_iff]
    intro h9
    simp only [Bool.and_eq_true, beq_iff_eq, Bool.or_eq_true] at h9
    exact h2 ⟨e, he, h9.1.1, h9.1.2, h9.2⟩
  · rintro ⟨e, he, h1, h2, h3⟩ h
    have := h e he
    rw [Bool.eq_false_iff] at this
    refine this ?_
    simp only [Bool.and_eq_true, beq_iff_eq, Bool.or_eq_true]
    exact ⟨⟨h1, h2⟩, h3⟩
theorem left_iff {l : List Ef} {i : Int} : leftP l i ↔ firstE l i false false ≠ none ∧ firstE l i true false = none := by
  have h1 := @first_iff l i false false
  have h2 := @first_iff l i true false
  unfold leftP
  rw [h1]
  constructor
  · rintro ⟨⟨e, he, q1, q2, q3⟩, q4⟩
    refine ⟨⟨e, he, q1, q2, .inr q3⟩, ?_⟩
    apply Classical.byContradiction
    intro h9
    obtain ⟨x, hx, r1, r2, r3⟩ := h2.1 h9
    exact q4 ⟨x, hx, r1, r2, r3.resolve_left Bool.noConfusion⟩
  · rintro ⟨⟨e, he, q1, q2, q3⟩, q4⟩
    refine ⟨⟨e, he, q1, q2, q3.resolve_left Bool.noConfusion⟩, ?_⟩
    rintro ⟨x, hx, r1, r2, r3⟩
    exact h2.2 ⟨x, hx, r1, r2, .inr r3⟩ q4

/-- What the document's Left has between two rounds. -/
structure LeftR (l : List Ef) (out : List Int) : Prop where
  up : out.Pairwise (· < ·)
  are : ∀ x ∈ out, leftP l x
  low : ∀ y, leftP l y → y ∈ out ∨ ∀ x ∈ out, x < y
theorem left_none (l : List Ef) : LeftR l [] := ⟨List.Pairwise.nil, by simp, fun y _ => .inr (by simp)⟩
theorem LeftR.push {l : List Ef} {out : List Int} {m : Int} (h : LeftR l out) (hm : leftP l m) (hgt : ∀ x ∈ out, x < m) (hmin : ∀ y, leftP l y → (∀ x ∈ out, x < y) → m ≤ y) : LeftR l (out ++ [m]) := by
  refine ⟨List.pairwise_append.2 ⟨h.up, by simp, fun a ha b hb => ?_⟩, fun x hx => ?_, fun y hy => ?_⟩
  · simp at hb
    subst hb
    exact hgt a ha
  · rcases List.mem_append.1 hx with hx | hx
    · exact h.are x hx
    · simp at hx
      subst hx
      exact hm
  · rcases h.low y hy with h1 | h1
    · exact .inl (List.mem_append_left _ h1)
    · have h2 := hmin y hy h1
      by_cases he : y = m
      · subst he
        exact .inl (List.mem_append_right _ (by simp))
      · refine .inr fun x hx => ?_
        rcases List.mem_append.1 hx with hx | hx
        · exact h1 x hx
        · simp at hx
          subst hx
          omega
theorem LeftR.done {l : List Ef} {out : List Int} (h : LeftR l out) (hno : ∀ y, leftP l y → ¬ ∀ x ∈ out, x < y) (x : Int) : x ∈ out ↔ leftP l x :=
  ⟨h.are x, fun hx => (h.low x hx).resolve_right (hno x hx)⟩
theorem rising_nodup {a : List Int} (h : a.Pairwise (· < ·)) : a.Nodup := h.imp fun h1 h2 => by omega
theorem LeftR.len {l : List Ef} {out : List Int} (h : LeftR l out) : out.length ≤ l.length := by
  have hs : out ⊆ l.map Ef.i := fun x hx => by
    obtain ⟨⟨e, he, h1, _⟩, _⟩ := h.are x hx
    exact List.mem_map.2 ⟨e, he, h1⟩
  have := List.Nodup.length_le_of_subset (rising_nodup h.up) hs
  simpa using this
/-- Behind the last of a rising list is behind all of it. -/
theorem behind_last {out : List Int} (h : out.Pairwise (· < ·)) {y z : Int} (hz : out.getLast? = some z) : (∀ x ∈ out, x < y) ↔ z < y := by
  obtain ⟨ys, rfl⟩ := List.getLast?_eq_some_iff.1 hz
  obtain ⟨h1, _, h3⟩ := List.pairwise_append.1 h
  constructor
  · intro h9
    exact h9 z (by simp)
  · intro h9 x hx
    rcases List.mem_append.1 hx with hx | hx
    · have := h3 x hx z (by simp)
      omega
    · simp at hx
      subst hx
      exact h9
end Go.Proofs.Ythkndkbffiaknaa.Tz
