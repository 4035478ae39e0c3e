/- The plain side of layer 18: a pool's jobs, and what those who take are given. It names no number of a program. -/
import Derived.RowKit
namespace Go.Proofs.Ytfhmmiilenonkaa.Pq
set_option linter.unusedVariables false

/-- A pool: each worker's jobs, from the top down, and what it holds. -/
structure St (α : Type) where
  rows : List (List α)
  hold : List (Option α)

variable {α : Type}

structure St.Ok (s : St α) (n : Nat) : Prop where
  r : s.rows.length = n
  h : s.hold.length = n

def St.row (s : St α) (v : Nat) : List α := s.rows.getD v []
def St.hd (s : St α) (v : Nat) : Option α := s.hold.getD v none
/-- How many jobs there are. -/
def St.cnt (s : St α) : Nat := (s.rows.map List.length).sum + s.hold.countP Option.isSome

/-- The workers in a circle, each once. -/
def circ (n first : Nat) : List Nat := (List.range n).map fun i => (first + i) % n

/-- Take. -/
def takeS (s : St α) (n w first : Nat) : St α × Option (α × Nat) :=
  match s.hd w with
  | some j => (s, some (j, w))
  | none =>
    match (s.row w).getLast? with
    | some j => (⟨s.rows.set w (s.row w).dropLast, s.hold.set w (some j)⟩, some (j, w))
    | none =>
      match (circ n first).find? (fun v => !(s.row v).isEmpty) with
      | some v =>
        match s.row v with
        | j :: r => (⟨s.rows.set v r, s.hold.set w (some j)⟩, some (j, v))
        | [] => (s, none)
      | none =>
        match (circ n first).find? (fun v => (s.hd v).isSome) with
        | some v =>
          match s.hd v with
          | some j => (⟨s.rows, (s.hold.set w (some j)).set v none⟩, some (j, v))
          | none => (s, none)
        | none => (s, none)
def doneS (s : St α) (w : Nat) : St α := ⟨s.rows, s.hold.set w none⟩
def putS (s : St α) (w : Nat) (j : α) : St α := ⟨s.rows, s.hold.set w (some j)⟩

theorem sum_set : ∀ (l : List Nat) (i x : Nat), i < l.length → (l.set i x).sum + l.getD i 0 = l.sum + x
  | [], i, x, h => by simp at h
  | y :: l, 0, x, h => by simp; omega
  | y :: l, i + 1, x, h => by
    have := sum_set l i x (by simpa using h)
    simp at this ⊢
    omega
theorem mem_sum : ∀ {l : List Nat} {x : Nat}, x ∈ l → x ≤ l.sum
  | y :: l, x, h => by
    rcases List.mem_cons.1 h with rfl | h
    · simp
    · have := mem_sum h
      simp
      omega
theorem sum_zero : ∀ {l : List Nat}, (∀ x ∈ l, x = 0) → l.sum = 0
  | [], _ => rfl
  | y :: l, h => by
    have h1 := h y (by simp)
    have h2 := sum_zero fun x hx => h x (List.mem_cons_of_mem y hx)
    simp
    omega
theorem len_set (l : List (List α)) (i : Nat) (x : List α) (h : i < l.length) : ((l.set i x).map List.length).sum + (l.getD i []).length = (l.map List.length).sum + x.length := by
  have h1 := sum_set (l.map List.length) i x.length (by simpa using h)
  rw [List.map_set]
  have h2 : (l.map List.length).getD i 0 = (l.getD i []).length := by
    simp [List.getD_eq_getElem?_getD, List.getElem?_eq_getElem h]
  rw [h2] at h1
  exact h1
theorem cnt_set : ∀ (l : List (Option α)) (i : Nat) (x : Option α), i < l.length → (l.set i x).countP Option.isSome + (if (l.getD i none).isSome then 1 else 0) = l.countP Option.isSome + (if x.isSome then 1 else 0)
  | [], i, x, h => by simp at h
  | y :: l, 0, x, h => by
    simp [List.countP_cons]
    omega
  | y :: l, i + 1, x, h => by
    have := cnt_set l i x (by simpa using h)
    simp [List.countP_cons] at this ⊢
    omega

theorem getD_set {β : Type} (l : List β) (i j : Nat) (x d : β) (h : i < l.length) : (l.set i x).getD j d = if j = i then x else l.getD j d := by
  rw [List.getD_eq_getElem?_getD, List.getD_eq_getElem?_getD]
  by_cases e : j = i
  · subst e
    rw [if_pos rfl, List.getElem?_set_self h]
    rfl
  · rw [if_neg e, List.getElem?_set_ne (fun h => e h.symm)]

theorem mem_circ {n f v : Nat} (hv : v < n) : v ∈ circ n f := by
  have hn : 0 < n := by omega
  unfold circ
  rw [List.mem_map]
  refine ⟨(v + (n - f % n)) % n, List.mem_range.2 (Nat.mod_lt _ hn), ?_⟩
  have h1 : f % n < n := Nat.mod_lt _ hn
  rw [Nat.add_mod_mod]
  have h2 : f + (v + (n - f % n)) = v + n + n * (f / n) := by
    have := Nat.div_add_mod f n
    omega
  rw [h2, Nat.add_mul_mod_self_left, Nat.add_mod_right, Nat.mod_eq_of_lt hv]
theorem circ_lt {n f v : Nat} (h : v ∈ circ n f) : v < n := by
  unfold circ at h
  obtain ⟨i, hi, rfl⟩ := List.mem_map.1 h
  have := List.mem_range.1 hi
  exact Nat.mod_lt _ (by omega)

theorem St.cnt_zero {s : St α} (h : s.cnt = 0) : (∀ v, s.row v = []) ∧ ∀ v, s.hd v = none := by
  unfold St.cnt at h
  have h1 : (s.rows.map List.length).sum = 0 := by omega
  have h2 : s.hold.countP Option.isSome = 0 := by omega
  constructor
  · intro v
    unfold St.row
    rw [List.getD_eq_getElem?_getD]
    cases hv : s.rows[v]? with
    | none => rfl
    | some x =>
      have hm := List.mem_of_getElem? hv
      have := mem_sum (List.mem_map_of_mem (f := List.length) hm)
      simp
      exact List.eq_nil_of_length_eq_zero (by omega)
  · intro v
    unfold St.hd
    rw [List.getD_eq_getElem?_getD]
    cases hv : s.hold[v]? with
    | none => rfl
    | some x =>
      have hm := List.mem_of_getElem? hv
      have := List.countP_eq_zero.1 h2 x hm
      simp
      cases x with
      | none => rfl
      | some j => simp at this

theorem St.cnt_pos {s : St α} {n : Nat} (ho : s.Ok n) (h1 : ∀ v, v < n → s.row v = []) (h2 : ∀ v, v < n → s.hd v = none) : s.cnt = 0 := by
  unfold St.cnt
  have e1 : (s.rows.map List.length).sum = 0 := by
    refine sum_zero fun x hx => ?_
    obtain ⟨y, hy, rfl⟩ := List.mem_map.1 hx
    obtain ⟨i, hi⟩ := List.getElem?_of_mem hy
    have hl := (List.getElem?_eq_some_iff.1 hi).1
    have := h1 i (by rw [← ho.r]; exact hl)
    unfold St.row at this
    rw [List.getD_eq_getElem?_getD, hi] at this
    simp at this
    rw [this]
    rfl
  have e2 : s.hold.countP Option.isSome = 0 := by
    rw [List.countP_eq_zero]
    intro x hx
    obtain ⟨i, hi⟩ := List.getElem?_of_mem hx
    have hl := (List.getElem?_eq_some_iff.1 hi).1
    have := h2 i (by rw [← ho.h]; exact hl)
    unfold St.hd at this
    rw [List.getD_eq_getElem?_getD, hi] at this
    simp at this
    rw [this]
    simp
  omega

/-- What Take does. -/
structure Took (s : St α) (n w : Nat) (r : St α × Option (α × Nat)) : Prop where
  ok : r.1.Ok n
  cnt : r.1.cnt = s.cnt
  some : ∀ j v, r.2 = .some (j, v) → r.1.hd w = .some j ∧ v < n
  none : r.2 = .none → r.1 = s ∧ s.cnt = 0

theorem take_took {s : St α} {n w : Nat} (ho : s.Ok n) (hw : w < n) (f : Nat) : Took s n w (takeS s n w f) := by
  unfold takeS
  split
  · rename_i j hj
    exact ⟨ho, rfl, (fun j' v h => by cases h; exact ⟨hj, hw⟩), fun h => by cases h⟩
  · rename_i hn
    have hh : s.hold.getD w .none = .none := hn
    split
    · rename_i j hj
      have hne : s.row w ≠ [] := fun h => by rw [h] at hj; cases hj
      refine ⟨⟨by simp [ho.r], by simp [ho.h]⟩, ?_, fun j' v h => ?_, fun h => by cases h⟩
      · have h1 := len_set s.rows w (s.row w).dropLast (by rw [ho.r]; exact hw)
        have h2 := cnt_set s.hold w (.some j) (by rw [ho.h]; exact hw)
        rw [hh] at h2
        simp at h2
        have h3 : (s.row w).length = (s.row w).dropLast.length + 1 := by
          have := List.length_pos_iff.2 hne
          rw [List.length_dropLast]
          omega
        show ((s.rows.set w (s.row w).dropLast).map List.length).sum + (s.hold.set w (.some j)).countP Option.isSome = (s.rows.map List.length).sum + s.hold.countP Option.isSome
        have h4 : (s.rows.getD w []).length = (s.row w).length := rfl
        omega
      · cases h
        exact ⟨by show (s.hold.set w _).getD w .none = _; rw [getD_set _ _ _ _ _ (by rw [ho.h]; exact hw), if_pos rfl], hw⟩
    · rename_i he
      split
      · rename_i v hv
        have hvm := List.mem_of_find?_eq_some hv
        have hvn := circ_lt hvm
        split
        · rename_i j r hr
          refine ⟨⟨by simp [ho.r], by simp [ho.h]⟩, ?_, fun j' v' h => ?_, fun h => by cases h⟩
          · have h1 := len_set s.rows v r (by rw [ho.r]; exact hvn)
            have h2 := cnt_set s.hold w (.some j) (by rw [ho.h]; exact hw)
            rw [hh] at h2
            simp at h2
            have h4 : (s.rows.getD v []).length = r.length + 1 := by
              have : s.rows.getD v [] = j :: r := hr
              rw [this]; rfl
            show ((s.rows.set v r).map List.length).sum + (s.hold.set w (.some j)).countP Option.isSome = (s.rows.map List.length).sum + s.hold.countP Option.isSome
            omega
          · cases h
            exact ⟨by show (s.hold.set w _).getD w .none = _; rw [getD_set _ _ _ _ _ (by rw [ho.h]; exact hw), if_pos rfl], hvn⟩
        · rename_i hr
          have := List.find?_some hv
          rw [hr] at this
          cases this
      · rename_i hv
        have hrows : ∀ v, v < n → s.row v = [] := fun v h => by
          have := List.find?_eq_none.1 hv v (mem_circ h)
          simpa using this
        split
        · rename_i v hu
          have hvm := List.mem_of_find?_eq_some hu
          have hvn := circ_lt hvm
          split
          · rename_i j hj
            have hvw : v ≠ w := fun h => by rw [h, hn] at hj; cases hj
            refine ⟨⟨ho.r, by simp [ho.h]⟩, ?_, fun j' v' h => ?_, fun h => by cases h⟩
            · have h2 := cnt_set s.hold w (.some j) (by rw [ho.h]; exact hw)
              have h3 := cnt_set (s.hold.set w (.some j)) v .none (by rw [List.length_set, ho.h]; exact hvn)
              rw [getD_set _ _ _ _ _ (by rw [ho.h]; exact hw), if_neg hvw, show s.hold.getD v .none = .some j from hj] at h3
              rw [hh] at h2
              simp at h2 h3
              show (s.rows.map List.length).sum + ((s.hold.set w (.some j)).set v .none).countP Option.isSome = (s.rows.map List.length).sum + s.hold.countP Option.isSome
              omega
            · cases h
              refine ⟨?_, hvn⟩
              show ((s.hold.set w _).set v .none).getD w .none = _
              rw [getD_set _ _ _ _ _ (by rw [List.length_set, ho.h]; exact hvn), if_neg (Ne.symm hvw), getD_set _ _ _ _ _ (by rw [ho.h]; exact hw), if_pos rfl]
          · rename_i hj
            have := List.find?_some hu
            rw [hj] at this
            cases this
        · rename_i hu
          refine ⟨ho, rfl, (fun j v h => by cases h), fun _ => ⟨rfl, St.cnt_pos ho hrows fun v h => ?_⟩⟩
          have := List.find?_eq_none.1 hu v (mem_circ h)
          simpa using this

/-- Whoever asks is given something, as long as there is a job. -/
theorem take_goes {s : St α} {n w : Nat} (ho : s.Ok n) (hw : w < n) (f : Nat) (h : 0 < s.cnt) : ∃ j v, (takeS s n w f).2 = some (j, v) ∧ (takeS s n w f).1.hd w = some j := by
  have h1 := take_took ho hw f
  cases hr : (takeS s n w f).2 with
  | none => have := (h1.none hr).2; omega
  | some x => exact ⟨x.1, x.2, rfl, (h1.some x.1 x.2 hr).1⟩
theorem take_empty {s : St α} {n w : Nat} (ho : s.Ok n) (hw : w < n) (f : Nat) (h : s.cnt = 0) : takeS s n w f = (s, none) := by
  have h1 := take_took ho hw f
  obtain ⟨_, h3⟩ := St.cnt_zero h
  cases hr : (takeS s n w f).2 with
  | none => exact Prod.ext (h1.none hr).1 hr
  | some x =>
    have h4 := (h1.some x.1 x.2 hr).1
    have h5 := (St.cnt_zero (h1.cnt.trans h)).2 w
    rw [h4] at h5
    cases h5
/-- Who holds a job is told that again. -/
theorem take_again {s : St α} {n w : Nat} {j : α} (f : Nat) (h : s.hd w = some j) : takeS s n w f = (s, some (j, w)) := by
  unfold takeS
  rw [h]
theorem done_cnt {s : St α} {n w : Nat} {j : α} (ho : s.Ok n) (hw : w < n) (h : s.hd w = some j) : (doneS s w).Ok n ∧ (doneS s w).cnt + 1 = s.cnt := by
  refine ⟨⟨ho.r, by unfold doneS; simp [ho.h]⟩, ?_⟩
  have h2 := cnt_set s.hold w none (by rw [ho.h]; exact hw)
  rw [show s.hold.getD w none = some j from h] at h2
  simp at h2
  show (s.rows.map List.length).sum + (s.hold.set w none).countP Option.isSome + 1 = (s.rows.map List.length).sum + s.hold.countP Option.isSome
  omega
end Go.Proofs.Ytfhmmiilenonkaa.Pq
