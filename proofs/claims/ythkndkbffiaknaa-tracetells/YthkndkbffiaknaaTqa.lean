/- The plain side of layer 20: effects, each key's last one, what is left. It names no number of a program. -/
import Derived.RowKit
namespace Go.Proofs.Ythkndkbffiaknaa.Tz
set_option linter.unusedVariables false

/-- An effect: its key, and whether it went well. -/
structure Ef where
  i : Int
  u : Bool
  t : Int
  ok : Bool
deriving DecidableEq, Inhabited

abbrev Ef.key (e : Ef) : Int × Bool × Int := (e.i, e.u, e.t)
def keys (l : List Ef) : List (Int × Bool × Int) := l.map Ef.key

theorem Ef.eq_of {a b : Ef} (h : a.key = b.key) (ho : a.ok = b.ok) : a = b := by
  cases a; cases b
  simp_all [Ef.key]

/-- Each key's last effect. -/
def lastL : List Ef → List Ef
  | [] => []
  | e :: l => if e.key ∈ keys l then lastL l else e :: lastL l
/-- How many effects have their key ahead of them, or among those. -/
def agn (seen : List (Int × Bool × Int)) : List Ef → Nat
  | [] => 0
  | e :: l => (if e.key ∈ seen then 1 else 0) + agn (e.key :: seen) l
/-- The place of a key's first effect. -/
def findE (k : Int × Bool × Int) (l : List Ef) : Option Nat := l.findIdx? fun e => e.key == k
/-- No key stands twice with unlike Ok. -/
def checkE (l : List Ef) : Prop := ∀ a ∈ l, ∀ b ∈ l, a.key = b.key → a.ok = b.ok

theorem mem_keys {k : Int × Bool × Int} {l : List Ef} : k ∈ keys l ↔ ∃ e ∈ l, e.key = k := by
  unfold keys
  simp
theorem lastL_sub : ∀ {l : List Ef} {e : Ef}, e ∈ lastL l → e ∈ l
  | x :: l, e, h => by
    unfold lastL at h
    split at h
    · exact List.mem_cons_of_mem _ (lastL_sub h)
    · rcases List.mem_cons.1 h with rfl | h
      · simp
      · exact List.mem_cons_of_mem _ (lastL_sub h)
theorem lastL_keys : ∀ (l : List Ef) (k : Int × Bool × Int), k ∈ keys (lastL l) ↔ k ∈ keys l
  | [], k => Iff.rfl
  | x :: l, k => by
    have ih := lastL_keys l k
    unfold lastL
    split
    · rename_i h
      rw [ih]
      constructor
      · intro h1
        exact List.mem_cons_of_mem _ h1
      · intro h1
        rcases List.mem_cons.1 (show k ∈ x.key :: keys l from h1) with rfl | h1
        · exact h
        · exact h1
    · show k ∈ x.key :: keys (lastL l) ↔ k ∈ x.key :: keys l
      rw [List.mem_cons, List.mem_cons, ih]
theorem lastL_len : ∀ l : List Ef, (lastL l).length ≤ l.length
  | [] => Nat.le_refl _
  | x :: l => by
    have := lastL_len l
    unfold lastL
    split <;> simp <;> omega
/-- Of each key there is one. -/
theorem lastL_nodup : ∀ l : List Ef, (keys (lastL l)).Nodup
  | [] => List.nodup_nil
  | x :: l => by
    have ih := lastL_nodup l
    unfold lastL
    split
    · exact ih
    · rename_i h
      refine List.nodup_cons.2 ⟨fun h1 => h ((lastL_keys l _).1 h1), ih⟩
theorem lastL_of_nodup : ∀ {l : List Ef}, (keys l).Nodup → lastL l = l
  | [], _ => rfl
  | x :: l, h => by
    obtain ⟨h1, h2⟩ := List.nodup_cons.1 (show (x.key :: keys l).Nodup from h)
    unfold lastL
    rw [if_neg h1, lastL_of_nodup h2]
theorem last_last (l : List Ef) : lastL (lastL l) = lastL l := lastL_of_nodup (lastL_nodup l)

theorem agn_nodup : ∀ {l : List Ef} {seen : List (Int × Bool × Int)}, (keys l).Nodup → (∀ k ∈ keys l, k ∉ seen) → agn seen l = 0
  | [], _, _, _ => rfl
  | x :: l, seen, h, hs => by
    obtain ⟨h1, h2⟩ := List.nodup_cons.1 (show (x.key :: keys l).Nodup from h)
    unfold agn
    rw [if_neg (hs x.key (by unfold keys; simp)), agn_nodup h2 (fun k hk hm => ?_)]
    rcases List.mem_cons.1 hm with rfl | hm
    · exact h1 hk
    · exact hs k (List.mem_cons_of_mem _ hk) hm
theorem again_last (l : List Ef) : agn [] (lastL l) = 0 := agn_nodup (lastL_nodup l) (fun k _ h => by cases h)

theorem count_one : ∀ {l : List Ef} {k : Int × Bool × Int}, (keys l).Nodup → k ∈ keys l → (l.filter fun e => e.key == k).length = 1
  | x :: l, k, h, hm => by
    obtain ⟨h1, h2⟩ := List.nodup_cons.1 (show (x.key :: keys l).Nodup from h)
    rcases List.mem_cons.1 (show k ∈ x.key :: keys l from hm) with rfl | hm
    · rw [List.filter_cons_of_pos (by simp)]
      have : (l.filter fun e => e.key == x.key) = [] := by
        rw [List.filter_eq_nil_iff]
        intro e he h9
        refine h1 (mem_keys.2 ⟨e, he, by simpa using h9⟩)
      rw [this]
      rfl
    · have hx : x.key ≠ k := fun e => h1 (e ▸ hm)
      rw [List.filter_cons_of_neg (by simpa using hx)]
      exact count_one h2 hm

theorem agn_len : ∀ (l : List Ef) (seen : List (Int × Bool × Int)), agn seen l + ((lastL l).filter fun e => !decide (e.key ∈ seen)).length = l.length
  | [], _ => rfl
  | x :: l, seen => by
    have ih := agn_len l (x.key :: seen)
    unfold agn
    -- those whose key is not met, parted by x's key
    have part : ((lastL l).filter fun e => !decide (e.key ∈ seen)).length = ((lastL l).filter fun e => !decide (e.key ∈ x.key :: seen)).length + (if x.key ∈ seen then 0 else ((lastL l).filter fun e => e.key == x.key).length) := by
      generalize lastL l = m
      induction m with
      | nil => simp
      | cons y m ihm =>
        simp only [List.filter_cons]
        by_cases h1 : y.key = x.key
        · by_cases h2 : x.key ∈ seen
          · simp [h1, h2] at ihm ⊢
            omega
          · simp [h1, h2] at ihm ⊢
            omega
        · by_cases h2 : y.key ∈ seen
          · by_cases h3 : x.key ∈ seen <;> simp [h1, h2, h3] at ihm ⊢ <;> omega
          · by_cases h3 : x.key ∈ seen <;> simp [h1, h2, h3] at ihm ⊢ <;> omega
    by_cases h : x.key ∈ keys l
    · have e1 : lastL (x :: l) = lastL l := by
        show (if x.key ∈ keys l then lastL l else x :: lastL l) = _
        rw [if_pos h]
      have h1 := count_one (lastL_nodup l) ((lastL_keys l _).2 h)
      rw [e1, part, h1, List.length_cons]
      by_cases h2 : x.key ∈ seen
      · rw [if_pos h2, if_pos h2]; omega
      · rw [if_neg h2, if_neg h2]; omega
    · have e1 : lastL (x :: l) = x :: lastL l := by
        show (if x.key ∈ keys l then lastL l else x :: lastL l) = _
        rw [if_neg h]
      have h1 : ((lastL l).filter fun e => e.key == x.key) = [] := by
        rw [List.filter_eq_nil_iff]
        intro e he h9
        exact h ((lastL_keys l _).1 (mem_keys.2 ⟨e, he, by simpa using h9⟩))
      rw [h1] at part
      rw [e1, List.length_cons]
      by_cases h2 : x.key ∈ seen
      · rw [if_pos h2] at part ⊢
        rw [List.filter_cons_of_neg (by simpa using h2), part]
        simp only [Nat.add_zero] at *
        omega
      · rw [if_neg h2] at part ⊢
        rw [List.filter_cons_of_pos (by simpa using h2), List.length_cons, part]
        simp only [List.length_nil, Nat.add_zero] at *
        omega
/-- The last ones, and those that were done again, are all. -/
theorem last_again (l : List Ef) : (lastL l).length + agn [] l = l.length := by
  have h := agn_len l []
  have : ((lastL l).filter fun e => !decide (e.key ∈ ([] : List (Int × Bool × Int)))) = lastL l := by
    rw [List.filter_eq_self]
    intro e _
    simp
  rw [this] at h
  omega

theorem nodup_eq : ∀ {l : List Ef}, (keys l).Nodup → ∀ {a b : Ef}, a ∈ l → b ∈ l → a.key = b.key → a = b
  | x :: l, h, a, b, ha, hb, e => by
    obtain ⟨h1, h2⟩ := List.nodup_cons.1 (show (x.key :: keys l).Nodup from h)
    rcases List.mem_cons.1 ha with ha1 | ha1
    · rcases List.mem_cons.1 hb with hb1 | hb1
      · rw [ha1, hb1]
      · exact absurd (mem_keys.2 ⟨b, hb1, by rw [← e, ha1]⟩) h1
    · rcases List.mem_cons.1 hb with hb1 | hb1
      · exact absurd (mem_keys.2 ⟨a, ha1, by rw [e, hb1]⟩) h1
      · exact nodup_eq h2 ha1 hb1 e
theorem check_last (l : List Ef) : checkE (lastL l) := fun a ha b hb h => by rw [nodup_eq (lastL_nodup l) ha hb h]

/-- Each key stands among the last ones; where nothing went unlike it is the same effect. -/
theorem find_last {l : List Ef} {e : Ef} (he : e ∈ l) : ∃ (i : Nat) (x : Ef), findE e.key (lastL l) = some i ∧ (lastL l)[i]? = some x ∧ x.key = e.key ∧ (checkE l → x = e) := by
  have hk := (lastL_keys l e.key).2 (mem_keys.2 ⟨e, he, rfl⟩)
  obtain ⟨y, hy, hyk⟩ := mem_keys.1 hk
  unfold findE
  cases hf : (lastL l).findIdx? fun z => z.key == e.key with
  | none =>
    have := List.findIdx?_eq_none_iff.1 hf y hy
    simp [hyk] at this
  | some i =>
    obtain ⟨h1, h2, _⟩ := List.findIdx?_eq_some_iff_getElem.1 hf
    have h3 : (lastL l)[i].key = e.key := by simpa using h2
    refine ⟨i, _, rfl, List.getElem?_eq_getElem h1, h3, fun hc => ?_⟩
    have hm := lastL_sub (List.getElem_mem h1)
    exact Ef.eq_of h3 (hc _ hm _ he h3)

/-- Is an item's step left? -/
def leftP (l : List Ef) (i : Int) : Prop := (∃ e ∈ l, e.i = i ∧ e.u = false ∧ e.ok = true) ∧ ¬ ∃ e ∈ l, e.i = i ∧ e.u = true ∧ e.ok = true
/-- Rising lists of the same numbers are the same. -/
theorem rising_eq : ∀ {a b : List Int}, a.Pairwise (· < ·) → b.Pairwise (· < ·) → (∀ x, x ∈ a ↔ x ∈ b) → a = b
  | [], [], _, _, _ => rfl
  | [], y :: b, _, _, h => absurd ((h y).2 (by simp)) (by simp)
  | x :: a, [], _, _, h => absurd ((h x).1 (by simp)) (by simp)
  | x :: a, y :: b, ha, hb, h => by
    obtain ⟨a1, a2⟩ := List.pairwise_cons.1 ha
    obtain ⟨b1, b2⟩ := List.pairwise_cons.1 hb
    have hxy : x = y := by
      have h1 := (h x).1 (by simp)
      have h2 := (h y).2 (by simp)
      rcases List.mem_cons.1 h1 with h1 | h1
      · exact h1
      · rcases List.mem_cons.1 h2 with h2 | h2
        · exact h2.symm
        · have := b1 x h1
          have := a1 y h2
          omega
    subst hxy
    rw [rising_eq a2 b2 fun z => ?_]
    constructor
    · intro hz
      rcases List.mem_cons.1 ((h z).1 (List.mem_cons_of_mem _ hz)) with rfl | h9
      · have := a1 z hz; omega
      · exact h9
    · intro hz
      rcases List.mem_cons.1 ((h z).2 (List.mem_cons_of_mem _ hz)) with rfl | h9
      · have := b1 z hz; omega
      · exact h9
/-- Undone well behind all, a step is left no more, and all others are. -/
theorem left_more (l : List Ef) (k t : Int) (i : Int) : leftP (l ++ [⟨k, true, t, true⟩]) i ↔ leftP l i ∧ i ≠ k := by
  unfold leftP
  constructor
  · rintro ⟨⟨e, he, h1, h2, h3⟩, h4⟩
    rcases List.mem_append.1 he with he | he
    · refine ⟨⟨⟨e, he, h1, h2, h3⟩, fun ⟨x, hx, q⟩ => h4 ⟨x, List.mem_append_left _ hx, q⟩⟩, fun h9 => h4 ⟨⟨k, true, t, true⟩, List.mem_append_right _ (by simp), h9.symm, rfl, rfl⟩⟩
    · simp at he
      subst he
      cases h2
  · rintro ⟨⟨⟨e, he, h1, h2, h3⟩, h4⟩, hk⟩
    refine ⟨⟨e, List.mem_append_left _ he, h1, h2, h3⟩, fun ⟨x, hx, q1, q2, q3⟩ => ?_⟩
    rcases List.mem_append.1 hx with hx | hx
    · exact h4 ⟨x, hx, q1, q2, q3⟩
    · simp at hx
      subst hx
      exact hk q1.symm
theorem left_now {l : List Ef} {a b : List Int} {k t : Int} (ha : a.Pairwise (· < ·)) (hb : b.Pairwise (· < ·)) (h1 : ∀ x, x ∈ a ↔ leftP l x) (h2 : ∀ x, x ∈ b ↔ leftP (l ++ [⟨k, true, t, true⟩]) x) (hk : k ∈ a) : b.length + 1 = a.length ∧ k ∉ b := by
  have he : b = a.filter fun x => !(x == k) := rising_eq hb (ha.filter _) fun x => by
    rw [h2, left_more, List.mem_filter, h1]
    simp
  refine ⟨?_, fun h => ?_⟩
  · rw [he]
    clear he h1 h2 hb
    induction a with
    | nil => cases hk
    | cons y a ih =>
      obtain ⟨a1, a2⟩ := List.pairwise_cons.1 ha
      rcases List.mem_cons.1 hk with rfl | hk
      · rw [List.filter_cons_of_neg (by simp)]
        have : (a.filter fun x => !(x == k)) = a := by
          rw [List.filter_eq_self]
          intro x hx
          have := a1 x hx
          have h9 : ¬ x = k := by omega
          simpa using h9
        rw [this]
        rfl
      · have hy : ¬ y = k := by have := a1 k hk; omega
        rw [List.filter_cons_of_pos (by simpa using hy), List.length_cons, List.length_cons, ih a2 hk]
  · have := (left_more l k t k).1 ((h2 k).1 h)
    exact this.2 rfl
/-- An item's step, done well; undone, well or not. -/
def didE (i : Int) (e : Ef) : Prop := e.i = i ∧ e.u = false ∧ e.ok = true
def undE (i : Int) (e : Ef) : Prop := e.i = i ∧ e.u = true
def undoneE (i : Int) (e : Ef) : Prop := e.i = i ∧ e.u = true ∧ e.ok = true
/-- Is an item's undoing in order: behind its step, that went well, and behind no undoing of it that went well? -/
def ownP (l : List Ef) (i : Int) : Prop := ∀ (j : Nat) (e : Ef), l[j]? = some e → undE i e → (∃ (m : Nat) (x : Ef), m < j ∧ l[m]? = some x ∧ didE i x) ∧ ¬ ∃ (m : Nat) (x : Ef), m < j ∧ l[m]? = some x ∧ undoneE i x
/-- Is what leans undone ahead of that on which it leans? -/
def pairP (l : List Ef) (a b : Int) : Prop := (∃ x ∈ l, undoneE a x) → (∃ x ∈ l, undoneE b x) → ∀ (j : Nat) (e : Ef), l[j]? = some e → undE a e → ∃ (m : Nat) (x : Ef), m ≤ j ∧ l[m]? = some x ∧ undoneE b x
/-- Was a trace undone in order? -/
def ordP (isStep : Int → Prop) (leans : Int → Int → Prop) (l : List Ef) : Prop := (∀ e ∈ l, isStep e.i ∧ ownP l e.i) ∧ ∀ a b, leans b a → pairP l a b

theorem take_at {l : List Ef} {k j : Nat} {e : Ef} (h : (l.take k)[j]? = some e) : l[j]? = some e ∧ j < k := by
  have h1 := (List.getElem?_eq_some_iff.1 h).1
  rw [List.length_take] at h1
  rw [List.getElem?_take_of_lt (by omega)] at h
  exact ⟨h, by omega⟩
theorem at_take {l : List Ef} {k j : Nat} {e : Ef} (h : l[j]? = some e) (hj : j < k) : (l.take k)[j]? = some e := by
  rw [List.getElem?_take_of_lt hj]
  exact h
/-- TraceParts: each beginning of a trace that was undone in order was. -/
theorem ord_take {isStep : Int → Prop} {leans : Int → Int → Prop} {l : List Ef} (h : ordP isStep leans l) (k : Nat) : ordP isStep leans (l.take k) := by
  refine ⟨fun e he => ?_, fun a b hab ha hb j e hj hu => ?_⟩
  · obtain ⟨h1, h2⟩ := h.1 e (List.mem_of_mem_take he)
    refine ⟨h1, fun j x hj hu => ?_⟩
    obtain ⟨hj1, hj2⟩ := take_at hj
    obtain ⟨⟨m, y, q1, q2, q3⟩, q4⟩ := h2 j x hj1 hu
    exact ⟨⟨m, y, q1, at_take q2 (by omega), q3⟩, fun ⟨m, y, r1, r2, r3⟩ => q4 ⟨m, y, r1, (take_at r2).1, r3⟩⟩
  · obtain ⟨hj1, hj2⟩ := take_at hj
    obtain ⟨x, hx, ux⟩ := ha
    obtain ⟨y, hy, uy⟩ := hb
    obtain ⟨m, z, q1, q2, q3⟩ := h.2 a b hab ⟨x, List.mem_of_mem_take hx, ux⟩ ⟨y, List.mem_of_mem_take hy, uy⟩ j e hj1 hu
    exact ⟨m, z, q1, at_take q2 (by omega), q3⟩
end Go.Proofs.Ythkndkbffiaknaa.Tz
