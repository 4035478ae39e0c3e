/- Texts of the seat, packed: JTqa JTqb. -/
import Derived.RowKit
/- The plain side of layer 20: effects, each key's last one, what is left. It names no number of a program. -/
namespace Go.Proofs.YtlegmmhacnbnlaaGreatDoor.J.Tz
set_option linter.unusedVariables false

/-- An effect: its key, and whether it went well. -/
structure Ef where
  i : Int
  u : Bool
  t : Int
  ok : Bool
deriving DecidableEq, Inhabited

abbrev Ef.key (e : Ef) : Int × Bool × Int := (e.i, e.u, e.t)
def keys (l : List Ef) : List (Int × Bool × Int) := l.map Ef.key

theorem Ef.eq_of {a b : Ef} (h : a.key = b.key) (ho : a.ok = b.ok) : a = b := by
  cases a; cases b
  simp_all [Ef.key]

/-- Each key's last effect. -/
def lastL : List Ef → List Ef
  | [] => []
  | e :: l => if e.key ∈ keys l then lastL l else e :: lastL l
/-- How many effects have their key ahead of them, or among those. -/
def agn (seen : List (Int × Bool × Int)) : List Ef → Nat
  | [] => 0
  | e :: l => (if e.key ∈ seen then 1 else 0) + agn (e.key :: seen) l
/-- The place of a key's first effect. -/
def findE (k : Int × Bool × Int) (l : List Ef) : Option Nat := l.findIdx? fun e => e.key == k
/-- No key stands twice with unlike Ok. -/
def checkE (l : List Ef) : Prop := ∀ a ∈ l, ∀ b ∈ l, a.key = b.key → a.ok = b.ok

theorem mem_keys {k : Int × Bool × Int} {l : List Ef} : k ∈ keys l ↔ ∃ e ∈ l, e.key = k := by
  unfold keys
  simp
theorem lastL_sub : ∀ {l : List Ef} {e : Ef}, e ∈ lastL l → e ∈ l
  | x :: l, e, h => by
    unfold lastL at h
    split at h
    · exact List.mem_cons_of_mem _ (lastL_sub h)
    · rcases List.mem_cons.1 h with rfl | h
      · simp
      · exact List.mem_cons_of_mem _ (lastL_sub h)
theorem lastL_keys : ∀ (l : List Ef) (k : Int × Bool × Int), k ∈ keys (lastL l) ↔ k ∈ keys l
  | [], k => Iff.rfl
  | x :: l, k => by
    have ih := lastL_keys l k
    unfold lastL
    split
    · rename_i h
      rw [ih]
      constructor
      · intro h1
        exact List.mem_cons_of_mem _ h1
      · intro h1
        rcases List.mem_cons.1 (show k ∈ x.key :: keys l from h1) with rfl | h1
        · exact h
        · exact h1
    · show k ∈ x.key :: keys (lastL l) ↔ k ∈ x.key :: keys l
      rw [List.mem_cons, List.mem_cons, ih]
theorem lastL_len : ∀ l : List Ef, (lastL l).length ≤ l.length
  | [] => Nat.le_refl _
  | x :: l => by
    have := lastL_len l
    unfold lastL
    split <;> simp <;> omega
/-- Of each key there is one. -/
theorem lastL_nodup : ∀ l : List Ef, (keys (lastL l)).Nodup
  | [] => List.nodup_nil
  | x :: l => by
    have ih := lastL_nodup l
    unfold lastL
    split
    · exact ih
    · rename_i h
      refine List.nodup_cons.2 ⟨fun h1 => h ((lastL_keys l _).1 h1), ih⟩
theorem lastL_of_nodup : ∀ {l : List Ef}, (keys l).Nodup → lastL l = l
  | [], _ => rfl
  | x :: l, h => by
    obtain ⟨h1, h2⟩ := List.nodup_cons.1 (show (x.key :: keys l).Nodup from h)
    unfold lastL
    rw [if_neg h1, lastL_of_nodup h2]
theorem last_last (l : List Ef) : lastL (lastL l) = lastL l := lastL_of_nodup (lastL_nodup l)

theorem agn_nodup : ∀ {l : List Ef} {seen : List (Int × Bool × Int)}, (keys l).Nodup → (∀ k ∈ keys l, k ∉ seen) → agn seen l = 0
  | [], _, _, _ => rfl
  | x :: l, seen, h, hs => by
    obtain ⟨h1, h2⟩ := List.nodup_cons.1 (show (x.key :: keys l).Nodup from h)
    unfold agn
    rw [if_neg (hs x.key (by unfold keys; simp)), agn_nodup h2 (fun k hk hm => ?_)]
    rcases List.mem_cons.1 hm with rfl | hm
    · exact h1 hk
    · exact hs k (List.mem_cons_of_mem _ hk) hm
theorem again_last (l : List Ef) : agn [] (lastL l) = 0 := agn_nodup (lastL_nodup l) (fun k _ h => by cases h)

theorem count_one : ∀ {l : List Ef} {k : Int × Bool × Int}, (keys l).Nodup → k ∈ keys l → (l.filter fun e => e.key == k).length = 1
  | x :: l, k, h, hm => by
    obtain ⟨h1, h2⟩ := List.nodup_cons.1 (show (x.key :: keys l).Nodup from h)
    rcases List.mem_cons.1 (show k ∈ x.key :: keys l from hm) with rfl | hm
    · rw [List.filter_cons_of_pos (by simp)]
      have : (l.filter fun e => e.key == x.key) = [] := by
        rw [List.filter_eq_nil_iff]
        intro e he h9
        refine h1 (mem_keys.2 ⟨e, he, by simpa using h9⟩)
      rw [this]
      rfl
    · have hx : x.key ≠ k := fun e => h1 (e ▸ hm)
      rw [List.filter_cons_of_neg (by simpa using hx)]
      exact count_one h2 hm

theorem agn_len : ∀ (l : List Ef) (seen : List (Int × Bool × Int)), agn seen l + ((lastL l).filter fun e => !decide (e.key ∈ seen)).length = l.length
  | [], _ => rfl
  | x :: l, seen => by
    have ih := agn_len l (x.key :: seen)
    unfold agn
    -- those whose key is not met, parted by x's key
    have part : ((lastL l).filter fun e => !decide (e.key ∈ seen)).length = ((lastL l).filter fun e => !decide (e.key ∈ x.key :: seen)).length + (if x.key ∈ seen then 0 else ((lastL l).filter fun e => e.key == x.key).length) := by
      generalize lastL l = m
      induction m with
      | nil => simp
      | cons y m ihm =>
        simp only [List.filter_cons]
        by_cases h1 : y.key = x.key
        · by_cases h2 : x.key ∈ seen
          · simp [h1, h2] at ihm ⊢
            omega
          · simp [h1, h2] at ihm ⊢
            omega
        · by_cases h2 : y.key ∈ seen
          · by_cases h3 : x.key ∈ seen <;> simp [h1, h2, h3] at ihm ⊢ <;> omega
          · by_cases h3 : x.key ∈ seen <;> simp [h1, h2, h3] at ihm ⊢ <;> omega
    by_cases h : x.key ∈ keys l
    · have e1 : lastL (x :: l) = lastL l := by
        show (if x.key ∈ keys l then lastL l else x :: lastL l) = _
        rw [if_pos h]
      have h1 := count_one (lastL_nodup l) ((lastL_keys l _).2 h)
      rw [e1, part, h1, List.length_cons]
      by_cases h2 : x.key ∈ seen
      · rw [if_pos h2, if_pos h2]; omega
      · rw [if_neg h2, if_neg h2]; omega
    · have e1 : lastL (x :: l) = x :: lastL l := by
        show (if x.key ∈ keys l then lastL l else x :: lastL l) = _
        rw [if_neg h]
      have h1 : ((lastL l).filter fun e => e.key == x.key) = [] := by
        rw [List.filter_eq_nil_iff]
        intro e he h9
        exact h ((lastL_keys l _).1 (mem_keys.2 ⟨e, he, by simpa using h9⟩))
      rw [h1] at part
      rw [e1, List.length_cons]
      by_cases h2 : x.key ∈ seen
      · rw [if_pos h2] at part ⊢
        rw [List.filter_cons_of_neg (by simpa using h2), part]
        simp only [Nat.add_zero] at *
        omega
      · rw [if_neg h2] at part ⊢
        rw [List.filter_cons_of_pos (by simpa using h2), List.length_cons, part]
        simp only [List.length_nil, Nat.add_zero] at *
        omega
/-- The last ones, and those that were done again, are all. -/
theorem last_again (l : List Ef) : (lastL l).length + agn [] l = l.length := by
  have h := agn_len l []
  have : ((lastL l).filter fun e => !decide (e.key ∈ ([] : List (Int × Bool × Int)))) = lastL l := by
    rw [List.filter_eq_self]
    intro e _
    simp
  rw [this] at h
  omega

theorem nodup_eq : ∀ {l : List Ef}, (keys l).Nodup → ∀ {a b : Ef}, a ∈ l → b ∈ l → a.key = b.key → a = b
  | x :: l, h, a, b, ha, hb, e => by
    obtain ⟨h1, h2⟩ := List.nodup_cons.1 (show (x.key :: keys l).Nodup from h)
    rcases List.mem_cons.1 ha with ha1 | ha1
    · rcases List.mem_cons.1 hb with hb1 | hb1
      · rw [ha1, hb1]
      · exact absurd (mem_keys.2 ⟨b, hb1, by rw [← e, ha1]⟩) h1
    · rcases List.mem_cons.1 hb with hb1 | hb1
      · exact absurd (mem_keys.2 ⟨a, ha1, by rw [e, hb1]⟩) h1
      · exact nodup_eq h2 ha1 hb1 e
theorem check_last (l : List Ef) : checkE (lastL l) := fun a ha b hb h => by rw [nodup_eq (lastL_nodup l) ha hb h]

/-- Each key stands among the last ones; where nothing went unlike it is the same effect. -/
theorem find_last {l : List Ef} {e : Ef} (he : e ∈ l) : ∃ (i : Nat) (x : Ef), findE e.key (lastL l) = some i ∧ (lastL l)[i]? = some x ∧ x.key = e.key ∧ (checkE l → x = e) := by
  have hk := (lastL_keys l e.key).2 (mem_keys.2 ⟨e, he, rfl⟩)
  obtain ⟨y, hy, hyk⟩ := mem_keys.1 hk
  unfold findE
  cases hf : (lastL l).findIdx? fun z => z.key == e.key with
  | none =>
    have := List.findIdx?_eq_none_iff.1 hf y hy
    simp [hyk] at this
  | some i =>
    obtain ⟨h1, h2, _⟩ := List.findIdx?_eq_some_iff_getElem.1 hf
    have h3 : (lastL l)[i].key = e.key := by simpa using h2
    refine ⟨i, _, rfl, List.getElem?_eq_getElem h1, h3, fun hc => ?_⟩
    have hm := lastL_sub (List.getElem_mem h1)
    exact Ef.eq_of h3 (hc _ hm _ he h3)

/-- Is an item's step left? -/
def leftP (l : List Ef) (i : Int) : Prop := (∃ e ∈ l, e.i = i ∧ e.u = false ∧ e.ok = true) ∧ ¬ ∃ e ∈ l, e.i = i ∧ e.u = true ∧ e.ok = true
/-- Rising lists of the same numbers are the same. -/
theorem rising_eq : ∀ {a b : List Int}, a.Pairwise (· < ·) → b.Pairwise (· < ·) → (∀ x, x ∈ a ↔ x ∈ b) → a = b
  | [], [], _, _, _ => rfl
  | [], y :: b, _, _, h => absurd ((h y).2 (by simp)) (by simp)
  | x :: a, [], _, _, h => absurd ((h x).1 (by simp)) (by simp)
  | x :: a, y :: b, ha, hb, h => by
    obtain ⟨a1, a2⟩ := List.pairwise_cons.1 ha
    obtain ⟨b1, b2⟩ := List.pairwise_cons.1 hb
    have hxy : x = y := by
      have h1 := (h x).1 (by simp)
      have h2 := (h y).2 (by simp)
      rcases List.mem_cons.1 h1 with h1 | h1
      · exact h1
      · rcases List.mem_cons.1 h2 with h2 | h2
        · exact h2.symm
        · have := b1 x h1
          have := a1 y h2
          omega
    subst hxy
    rw [rising_eq a2 b2 fun z => ?_]
    constructor
    · intro hz
      rcases List.mem_cons.1 ((h z).1 (List.mem_cons_of_mem _ hz)) with rfl | h9
      · have := a1 z hz; omega
      · exact h9
    · intro hz
      rcases List.mem_cons.1 ((h z).2 (List.mem_cons_of_mem _ hz)) with rfl | h9
      · have := b1 z hz; omega
      · exact h9
/-- Undone well behind all, a step is left no more, and all others are. -/
theorem left_more (l : List Ef) (k t : Int) (i : Int) : leftP (l ++ [⟨k, true, t, true⟩]) i ↔ leftP l i ∧ i ≠ k := by
  unfold leftP
  constructor
  · rintro ⟨⟨e, he, h1, h2, h3⟩, h4⟩
    rcases List.mem_append.1 he with he | he
    · refine ⟨⟨⟨e, he, h1, h2, h3⟩, fun ⟨x, hx, q⟩ => h4 ⟨x, List.mem_append_left _ hx, q⟩⟩, fun h9 => h4 ⟨⟨k, true, t, true⟩, List.mem_append_right _ (by simp), h9.symm, rfl, rfl⟩⟩
    · simp at he
      subst he
      cases h2
  · rintro ⟨⟨⟨e, he, h1, h2, h3⟩, h4⟩, hk⟩
    refine ⟨⟨e, List.mem_append_left _ he, h1, h2, h3⟩, fun ⟨x, hx, q1, q2, q3⟩ => ?_⟩
    rcases List.mem_append.1 hx with hx | hx
    · exact h4 ⟨x, hx, q1, q2, q3⟩
    · simp at hx
      subst hx
      exact hk q1.symm
theorem left_now {l : List Ef} {a b : List Int} {k t : Int} (ha : a.Pairwise (· < ·)) (hb : b.Pairwise (· < ·)) (h1 : ∀ x, x ∈ a ↔ leftP l x) (h2 : ∀ x, x ∈ b ↔ leftP (l ++ [⟨k, true, t, true⟩]) x) (hk : k ∈ a) : b.length + 1 = a.length ∧ k ∉ b := by
  have he : b = a.filter fun x => !(x == k) := rising_eq hb (ha.filter _) fun x => by
    rw [h2, left_more, List.mem_filter, h1]
    simp
  refine ⟨?_, fun h => ?_⟩
  · rw [he]
    clear he h1 h2 hb
    induction a with
    | nil => cases hk
    | cons y a ih =>
      obtain ⟨a1, a2⟩ := List.pairwise_cons.1 ha
      rcases List.mem_cons.1 hk with rfl | hk
      · rw [List.filter_cons_of_neg (by simp)]
        have : (a.filter fun x => !(x == k)) = a := by
          rw [List.filter_eq_self]
          intro x hx
          have := a1 x hx
          have h9 : ¬ x = k := by omega
          simpa using h9
        rw [this]
        rfl
      · have hy : ¬ y = k := by have := a1 k hk; omega
        rw [List.filter_cons_of_pos (by simpa using hy), List.length_cons, List.length_cons, ih a2 hk]
  · have := (left_more l k t k).1 ((h2 k).1 h)
    exact this.2 rfl
/-- An item's step, done well; undone, well or not. -/
def didE (i : Int) (e : Ef) : Prop := e.i = i ∧ e.u = false ∧ e.ok = true
def undE (i : Int) (e : Ef) : Prop := e.i = i ∧ e.u = true
def undoneE (i : Int) (e : Ef) : Prop := e.i = i ∧ e.u = true ∧ e.ok = true
/-- Is an item's undoing in order: behind its step, that went well, and behind no undoing of it that went well? -/
def ownP (l : List Ef) (i : Int) : Prop := ∀ (j : Nat) (e : Ef), l[j]? = some e → undE i e → (∃ (m : Nat) (x : Ef), m < j ∧ l[m]? = some x ∧ didE i x) ∧ ¬ ∃ (m : Nat) (x : Ef), m < j ∧ l[m]? = some x ∧ undoneE i x
/-- Is what leans undone ahead of that on which it leans? -/
def pairP (l : List Ef) (a b : Int) : Prop := (∃ x ∈ l, undoneE a x) → (∃ x ∈ l, undoneE b x) → ∀ (j : Nat) (e : Ef), l[j]? = some e → undE a e → ∃ (m : Nat) (x : Ef), m ≤ j ∧ l[m]? = some x ∧ undoneE b x
/-- Was a trace undone in order? -/
def ordP (isStep : Int → Prop) (leans : Int → Int → Prop) (l : List Ef) : Prop := (∀ e ∈ l, isStep e.i ∧ ownP l e.i) ∧ ∀ a b, leans b a → pairP l a b

theorem take_at {l : List Ef} {k j : Nat} {e : Ef} (h : (l.take k)[j]? = some e) : l[j]? = some e ∧ j < k := by
  have h1 := (List.getElem?_eq_some_iff.1 h).1
  rw [List.length_take] at h1
  rw [List.getElem?_take_of_lt (by omega)] at h
  exact ⟨h, by omega⟩
theorem at_take {l : List Ef} {k j : Nat} {e : Ef} (h : l[j]? = some e) (hj : j < k) : (l.take k)[j]? = some e := by
  rw [List.getElem?_take_of_lt hj]
  exact h
/-- TraceParts: each beginning of a trace that was undone in order was. -/
theorem ord_take {isStep : Int → Prop} {leans : Int → Int → Prop} {l : List Ef} (h : ordP isStep leans l) (k : Nat) : ordP isStep leans (l.take k) := by
  refine ⟨fun e he => ?_, fun a b hab ha hb j e hj hu => ?_⟩
  · obtain ⟨h1, h2⟩ := h.1 e (List.mem_of_mem_take he)
    refine ⟨h1, fun j x hj hu => ?_⟩
    obtain ⟨hj1, hj2⟩ := take_at hj
    obtain ⟨⟨m, y, q1, q2, q3⟩, q4⟩ := h2 j x hj1 hu
    exact ⟨⟨m, y, q1, at_take q2 (by omega), q3⟩, fun ⟨m, y, r1, r2, r3⟩ => q4 ⟨m, y, r1, (take_at r2).1, r3⟩⟩
  · obtain ⟨hj1, hj2⟩ := take_at hj
    obtain ⟨x, hx, ux⟩ := ha
    obtain ⟨y, hy, uy⟩ := hb
    obtain ⟨m, z, q1, q2, q3⟩ := h.2 a b hab ⟨x, List.mem_of_mem_take hx, ux⟩ ⟨y, List.mem_of_mem_take hy, uy⟩ j e hj1 hu
    exact ⟨m, z, q1, at_take q2 (by omega), q3⟩
end Go.Proofs.YtlegmmhacnbnlaaGreatDoor.J.Tz

/- The plain side of layer 20, on: how the document's loops go. It names no number of a program. -/
namespace Go.Proofs.YtlegmmhacnbnlaaGreatDoor.J.Tz
set_option linter.unusedVariables false

/-- The document's Again, as far as it has gone. -/
def agnTo (l : List Ef) : Nat → Nat
  | 0 => 0
  | n + 1 => agnTo l n + if (l.getD n default).key ∈ keys (l.take n) then 1 else 0

theorem keys_append (a b : List Ef) : keys (a ++ b) = keys a ++ keys b := by simp [keys]
theorem agn_seen : ∀ {l : List Ef} {s t : List (Int × Bool × Int)}, (∀ k, k ∈ s ↔ k ∈ t) → agn s l = agn t l
  | [], _, _, _ => rfl
  | e :: l, s, t, h => by
    unfold agn
    rw [agn_seen (l := l) (s := e.key :: s) (t := e.key :: t) fun k => by rw [List.mem_cons, List.mem_cons, h]]
    by_cases h1 : e.key ∈ s
    · rw [if_pos h1, if_pos ((h _).1 h1)]
    · rw [if_neg h1, if_neg (fun h2 => h1 ((h _).2 h2))]
theorem agn_from (l : List Ef) : ∀ (n : Nat), n ≤ l.length → agnTo l n + agn (keys (l.take n)) (l.drop n) = agn [] l
  | 0, _ => by simp [agnTo, keys]
  | n + 1, h => by
    have ih := agn_from l n (by omega)
    have hn : n < l.length := by omega
    have e1 : l.drop n = l[n] :: l.drop (n + 1) := List.drop_eq_getElem_cons hn
    have e2 : l.getD n default = l[n] := by simp [hn]
    have e3 : l.take (n + 1) = l.take n ++ [l[n]] := by rw [List.take_append_getElem hn]
    rw [← ih, e1]
    show agnTo l n + (if (l.getD n default).key ∈ keys (l.take n) then 1 else 0) + agn (keys (l.take (n + 1))) (l.drop (n + 1)) = agnTo l n + ((if l[n].key ∈ keys (l.take n) then 1 else 0) + agn (l[n].key :: keys (l.take n)) (l.drop (n + 1)))
    rw [e2, e3, Nat.add_assoc, agn_seen (s := keys (l.take n ++ [l[n]])) (t := l[n].key :: keys (l.take n)) fun k => by rw [keys_append, List.mem_append, List.mem_cons, or_comm]; simp [keys]]
theorem agn_to (l : List Ef) : agnTo l l.length = agn [] l := by
  have h := agn_from l l.length (Nat.le_refl _)
  simpa [agn] using h

/-- The document's Last: what it has, and what is to come. -/
theorem last_step {l : List Ef} {n : Nat} (h : n < l.length) : lastL (l.drop n) = if (l.getD n default).key ∈ keys (l.drop (n + 1)) then lastL (l.drop (n + 1)) else l.getD n default :: lastL (l.drop (n + 1)) := by
  have e1 : l.drop n = l[n] :: l.drop (n + 1) := List.drop_eq_getElem_cons h
  have e2 : l.getD n default = l[n] := by simp [h]
  rw [e1, e2]
  rfl

theorem find_some {k : Int × Bool × Int} {l : List Ef} {i : Nat} (hi : i < l.length) (hk : (l.getD i default).key = k) (hb : ∀ j, j < i → (l.getD j default).key ≠ k) : findE k l = some i := by
  unfold findE
  rw [List.findIdx?_eq_some_iff_getElem]
  refine ⟨hi, ?_, fun j hj => ?_⟩
  · have e : l.getD i default = l[i] := by simp [hi]
    rw [← e, hk]
    simp
  · have hj2 : j < l.length := by omega
    have e : l.getD j default = l[j] := by simp [hj2]
    have := hb j hj
    rw [e] at this
    simpa using this
theorem find_none {k : Int × Bool × Int} {l : List Ef} (hb : ∀ j, j < l.length → (l.getD j default).key ≠ k) : findE k l = none := by
  unfold findE
  rw [List.findIdx?_eq_none_iff]
  intro e he
  obtain ⟨j, hj, rfl⟩ := List.mem_iff_getElem.1 he
  have := hb j hj
  simpa [hj] using this
theorem find_at {k : Int × Bool × Int} {l : List Ef} {i : Nat} (h : findE k l = some i) : i < l.length ∧ (l.getD i default).key = k ∧ ∀ j, j < i → (l.getD j default).key ≠ k := by
  unfold findE at h
  rw [List.findIdx?_eq_some_iff_getElem] at h
  obtain ⟨h1, h2, h3⟩ := h
  have e : l.getD i default = l[i] := by simp [h1]
  refine ⟨h1, by rw [e]; simpa using h2, fun j hj => ?_⟩
  have hj2 : j < l.length := by omega
  have e : l.getD j default = l[j] := by simp [hj2]
  rw [e]
  simpa using h3 j hj
theorem find_mem {k : Int × Bool × Int} {l : List Ef} : findE k l ≠ none ↔ k ∈ keys l := by
  unfold findE
  rw [ne_eq, List.findIdx?_eq_none_iff, mem_keys]
  constructor
  · intro h
    apply Classical.byContradiction
    intro h2
    refine h fun e he => ?_
    have : ¬ e.key = k := fun h9 => h2 ⟨e, he, h9⟩
    simpa using this
  · rintro ⟨e, he, hk⟩ h
    have := h e he
    simp [hk] at this
theorem find_first {l : List Ef} {n : Nat} (h : n < l.length) : ∃ i, findE (l.getD n default).key l = some i ∧ i ≤ n ∧ (i < n ↔ (l.getD n default).key ∈ keys (l.take n)) := by
  have e : l.getD n default = l[n] := by simp [h]
  have hm : (l.getD n default).key ∈ keys l := mem_keys.2 ⟨l[n], List.getElem_mem h, by rw [e]⟩
  cases hf : findE (l.getD n default).key l with
  | none => exact absurd hf (find_mem.2 hm)
  | some i =>
    obtain ⟨h1, h2, h3⟩ := find_at hf
    have hin : i ≤ n := by
      apply Classical.byContradiction
      intro h9
      exact h3 n (by omega) rfl
    refine ⟨i, rfl, hin, fun hlt => ?_, fun hk => ?_⟩
    · rw [mem_keys]
      refine ⟨l[i], ?_, ?_⟩
      · rw [List.mem_take_iff_getElem]
        exact ⟨i, by omega, rfl⟩
      · have e2 : l.getD i default = l[i] := by simp [h1]
        rw [← e2, h2]
    · obtain ⟨x, hx, hxk⟩ := mem_keys.1 hk
      rw [List.mem_take_iff_getElem] at hx
      obtain ⟨j, hj, rfl⟩ := hx
      apply Classical.byContradiction
      intro h9
      have hi : i = n := by omega
      subst hi
      refine h3 j (by omega) ?_
      have e2 : l.getD j default = l[j] := by simp [show j < l.length by omega]
      rw [e2]
      exact hxk

/-- The document's Check. -/
theorem check_all {l : List Ef} (h : ∀ n i, n < l.length → findE (l.getD n default).key l = some i → (l.getD n default).ok = (l.getD i default).ok) : checkE l := by
  intro a ha b hb hk
  obtain ⟨n, hn, rfl⟩ := List.mem_iff_getElem.1 ha
  obtain ⟨m, hm, rfl⟩ := List.mem_iff_getElem.1 hb
  have en : l.getD n default = l[n] := by simp [hn]
  have em : l.getD m default = l[m] := by simp [hm]
  obtain ⟨i, h1, _, _⟩ := find_first hn
  have h2 := h n i hn h1
  have h3 := h m i hm (by rw [em, ← hk, ← en]; exact h1)
  rw [← en, ← em, h2, h3]
theorem check_not {l : List Ef} {n i : Nat} (hn : n < l.length) (hf : findE (l.getD n default).key l = some i) (hu : (l.getD n default).ok ≠ (l.getD i default).ok) : ¬ checkE l := by
  intro hc
  obtain ⟨h1, h2, _⟩ := find_at hf
  have en : l.getD n default = l[n] := by simp [hn]
  have ei : l.getD i default = l[i] := by simp [h1]
  refine hu ?_
  rw [en, ei]
  refine hc _ (List.getElem_mem hn) _ (List.getElem_mem h1) ?_
  rw [← en, ← ei, h2]

/-- The document's first: the place of an item's first effect, of undoing or not, that went well (or any). -/
def firstE (l : List Ef) (i : Int) (u any : Bool) : Option Nat := l.findIdx? fun e => e.i == i && e.u == u && (any || e.ok)
theorem first_iff {l : List Ef} {i : Int} {u any : Bool} : firstE l i u any ≠ none ↔ ∃ e ∈ l, e.i = i ∧ e.u = u ∧ (any = true ∨ e.ok = true) := by
  unfold firstE
  rw [ne_eq, List.findIdx?_eq_none_iff]
  constructor
  · intro h
    apply Classical.byContradiction
    intro h2
    refine h fun e he => ?_
    rw [Bool.eq_false_iff]
    intro h9
    simp only [Bool.and_eq_true, beq_iff_eq, Bool.or_eq_true] at h9
    exact h2 ⟨e, he, h9.1.1, h9.1.2, h9.2⟩
  · rintro ⟨e, he, h1, h2, h3⟩ h
    have := h e he
    rw [Bool.eq_false_iff] at this
    refine this ?_
    simp only [Bool.and_eq_true, beq_iff_eq, Bool.or_eq_true]
    exact ⟨⟨h1, h2⟩, h3⟩
theorem left_iff {l : List Ef} {i : Int} : leftP l i ↔ firstE l i false false ≠ none ∧ firstE l i true false = none := by
  have h1 := @first_iff l i false false
  have h2 := @first_iff l i true false
  unfold leftP
  rw [h1]
  constructor
  · rintro ⟨⟨e, he, q1, q2, q3⟩, q4⟩
    refine ⟨⟨e, he, q1, q2, .inr q3⟩, ?_⟩
    apply Classical.byContradiction
    intro h9
    obtain ⟨x, hx, r1, r2, r3⟩ := h2.1 h9
    exact q4 ⟨x, hx, r1, r2, r3.resolve_left Bool.noConfusion⟩
  · rintro ⟨⟨e, he, q1, q2, q3⟩, q4⟩
    refine ⟨⟨e, he, q1, q2, q3.resolve_left Bool.noConfusion⟩, ?_⟩
    rintro ⟨x, hx, r1, r2, r3⟩
    exact h2.2 ⟨x, hx, r1, r2, .inr r3⟩ q4

/-- What the document's Left has between two rounds. -/
structure LeftR (l : List Ef) (out : List Int) : Prop where
  up : out.Pairwise (· < ·)
  are : ∀ x ∈ out, leftP l x
  low : ∀ y, leftP l y → y ∈ out ∨ ∀ x ∈ out, x < y
theorem left_none (l : List Ef) : LeftR l [] := ⟨List.Pairwise.nil, by simp, fun y _ => .inr (by simp)⟩
theorem LeftR.push {l : List Ef} {out : List Int} {m : Int} (h : LeftR l out) (hm : leftP l m) (hgt : ∀ x ∈ out, x < m) (hmin : ∀ y, leftP l y → (∀ x ∈ out, x < y) → m ≤ y) : LeftR l (out ++ [m]) := by
  refine ⟨List.pairwise_append.2 ⟨h.up, by simp, fun a ha b hb => ?_⟩, fun x hx => ?_, fun y hy => ?_⟩
  · simp at hb
    subst hb
    exact hgt a ha
  · rcases List.mem_append.1 hx with hx | hx
    · exact h.are x hx
    · simp at hx
      subst hx
      exact hm
  · rcases h.low y hy with h1 | h1
    · exact .inl (List.mem_append_left _ h1)
    · have h2 := hmin y hy h1
      by_cases he : y = m
      · subst he
        exact .inl (List.mem_append_right _ (by simp))
      · refine .inr fun x hx => ?_
        rcases List.mem_append.1 hx with hx | hx
        · exact h1 x hx
        · simp at hx
          subst hx
          omega
theorem LeftR.done {l : List Ef} {out : List Int} (h : LeftR l out) (hno : ∀ y, leftP l y → ¬ ∀ x ∈ out, x < y) (x : Int) : x ∈ out ↔ leftP l x :=
  ⟨h.are x, fun hx => (h.low x hx).resolve_right (hno x hx)⟩
theorem rising_nodup {a : List Int} (h : a.Pairwise (· < ·)) : a.Nodup := h.imp fun h1 h2 => by omega
theorem LeftR.len {l : List Ef} {out : List Int} (h : LeftR l out) : out.length ≤ l.length := by
  have hs : out ⊆ l.map Ef.i := fun x hx => by
    obtain ⟨⟨e, he, h1, _⟩, _⟩ := h.are x hx
    exact List.mem_map.2 ⟨e, he, h1⟩
  have := List.Nodup.length_le_of_subset (rising_nodup h.up) hs
  simpa using this
/-- Behind the last of a rising list is behind all of it. -/
theorem behind_last {out : List Int} (h : out.Pairwise (· < ·)) {y z : Int} (hz : out.getLast? = some z) : (∀ x ∈ out, x < y) ↔ z < y := by
  obtain ⟨ys, rfl⟩ := List.getLast?_eq_some_iff.1 hz
  obtain ⟨h1, _, h3⟩ := List.pairwise_append.1 h
  constructor
  · intro h9
    exact h9 z (by simp)
  · intro h9 x hx
    rcases List.mem_append.1 hx with hx | hx
    · have := h3 x hx z (by simp)
      omega
    · simp at hx
      subst hx
      exact h9
end Go.Proofs.YtlegmmhacnbnlaaGreatDoor.J.Tz

