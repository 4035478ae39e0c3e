/- Plain: a merge of all of a history, of beginnings, its end (layer 12). -/
import Derived.Test.YtamfpmpooaejkaaMm
namespace Go.Proofs.Ytamfpmpooaejkaa.Mg
set_option linter.unusedVariables false

theorem sum_set : ∀ (a : List Nat) (i v : Nat) (h : i < a.length), (a.set i v).sum + a.getD i 0 = a.sum + v
  | x :: a, 0, v, _ => by simp; omega
  | x :: a, i + 1, v, h => by
    have := sum_set a i v (by simpa using h)
    simp only [List.set_cons_succ, List.sum_cons, List.getD_cons_succ]
    omega
theorem bump_sum (had : List Nat) (i : Nat) (h : i < had.length) : (bump had i).sum = had.sum + 1 := by
  have := sum_set had i (had.getD i 0 + 1) h
  unfold bump
  omega
theorem after_sum (bs : List Nat) : ∀ had : List Nat, (∀ b ∈ bs, b < had.length) → (after had bs).sum = had.sum + bs.length := by
  induction bs with
  | nil => intro had _; rfl
  | cons b r ih =>
    intro had hb
    show (after (bump had b) r).sum = _
    rw [ih (bump had b) (fun x hx => by rw [bump_len]; exact hb x (List.mem_cons_of_mem _ hx)), bump_sum _ _ (hb b (List.mem_cons_self ..)), List.length_cons]
    omega
theorem sum_le : ∀ (a c : List Nat), a.length = c.length → (∀ i, i < a.length → a.getD i 0 ≤ c.getD i 0) → a.sum ≤ c.sum
  | [], [], _, _ => Nat.le_refl _
  | x :: a, y :: c, hl, h => by
    have h0 := h 0 (by simp)
    have ih := sum_le a c (by simpa using hl) (fun i hi => by simpa using h (i + 1) (by simpa using hi))
    simp only [List.getD_cons_zero] at h0
    simp only [List.sum_cons]
    omega
theorem sum_lt : ∀ (a c : List Nat), a.length = c.length → (∀ i, i < a.length → a.getD i 0 ≤ c.getD i 0) → ∀ b, b < a.length → a.getD b 0 < c.getD b 0 → a.sum < c.sum
  | [], [], _, _, b, hb, _ => by simp at hb
  | x :: a, y :: c, hl, h, 0, hb, hlt => by
    have ih := sum_le a c (by simpa using hl) (fun i hi => by simpa using h (i + 1) (by simpa using hi))
    simp only [List.getD_cons_zero] at hlt
    simp only [List.sum_cons]
    omega
  | x :: a, y :: c, hl, h, b + 1, hb, hlt => by
    have h0 := h 0 (by simp)
    have ih := sum_lt a c (by simpa using hl) (fun i hi => by simpa using h (i + 1) (by simpa using hi)) b (by simpa using hb) (by simpa using hlt)
    simp only [List.getD_cons_zero] at h0
    simp only [List.sum_cons]
    omega

variable {α : Type}
def tot (l : List (List α)) : Nat := (l.map List.length).sum
theorem lens_get (l : List (List α)) (i : Nat) : (l.map List.length).getD i 0 = (l.getD i []).length := by
  rw [List.getD_eq_getElem?_getD, List.getElem?_map, List.getD_eq_getElem?_getD]
  cases l[i]? <;> rfl
theorem zero_get (n j : Nat) : (List.replicate n 0).getD j 0 = 0 := by
  rw [List.getD_eq_getElem?_getD, List.getElem?_replicate]
  split <;> rfl

variable (st : α → List Int)

/-- The merge of all. -/
def mer (l : List (List α)) : List α × List Nat × List Nat := mrg st l (tot l) (List.replicate l.length 0)

theorem mer_ok (l : List (List α)) : brs st (List.replicate l.length 0) (mer st l).1 = some (mer st l).2.1 ∧ (mer st l).2.2 = after (List.replicate l.length 0) (mer st l).2.1 ∧ (mer st l).2.1.length = (mer st l).1.length ∧ (mer st l).2.2.length = l.length ∧
    (∀ i, i < l.length → (mer st l).2.2.getD i 0 ≤ (l.getD i []).length ∧ part i (mer st l).1 (mer st l).2.1 = (l.getD i []).take ((mer st l).2.2.getD i 0)) ∧ pick st l (mer st l).2.2 = none := by
  obtain ⟨q1, q2, q3, q4, q5⟩ := mrg_ok st l (tot l) (List.replicate l.length 0) (by simp) (fun i _ => by rw [zero_get]; exact Nat.zero_le _)
  have hlen : (mer st l).2.2.length = l.length := by
    show (mrg st l (tot l) (List.replicate l.length 0)).2.2.length = _
    rw [q2, after_len, List.length_replicate]
  refine ⟨q1, q2, q3, hlen, fun i hi => ⟨(q4 i hi).1, ?_⟩, ?_⟩
  · have := (q4 i hi).2
    rw [zero_get, List.drop_zero] at this
    exact this
  · cases hp : pick st l (mer st l).2.2 with
    | none => rfl
    | some b =>
      exfalso
      rcases q5 with q5 | q5
      · obtain ⟨hb, e, he, _⟩ := pick_some st hp
        have hbl := (List.getElem?_eq_some_iff.1 he).1
        have hs := sum_lt (mer st l).2.2 (l.map List.length) (by rw [hlen, List.length_map]) (fun i hi => by rw [lens_get]; exact (q4 i (by rw [← hlen]; exact hi)).1) b (by rw [hlen]; exact hb) (by rw [lens_get]; exact hbl)
        have ht : (mer st l).2.2.sum = (mer st l).1.length := by
          show (mrg st l (tot l) (List.replicate l.length 0)).2.2.sum = (mrg st l (tot l) (List.replicate l.length 0)).1.length
          rw [q2, after_sum _ _ (brs_lt st q1), ← q3]
          simp
        have : (mer st l).1.length = tot l := q5
        unfold tot at this
        omega
      · have : pick st l (mer st l).2.2 = none := q5
        rw [this] at hp
        cases hp

theorem mer_len (l : List (List α)) : (mer st l).1.length = (mer st l).2.2.sum := by
  obtain ⟨q1, q2, q3, _, _, _⟩ := mer_ok st l
  rw [q2, after_sum _ _ (brs_lt st q1), ← q3]
  simp

/-- Of beginnings of branches' events no more is merged. -/
theorem mer_less (l less : List (List α)) (hl : less.length = l.length) (c : Nat → Nat) (hc : ∀ i, i < l.length → less.getD i [] = (l.getD i []).take (c i)) (i : Nat) (hi : i < l.length) :
    (mer st less).2.2.getD i 0 ≤ (mer st l).2.2.getD i 0 := by
  apply Classical.byContradiction
  intro hno
  obtain ⟨q1, q2, q3, q4, q5, q6⟩ := mer_ok st l
  obtain ⟨p1, p2, p3, p4, p5, p6⟩ := mer_ok st less
  rw [hl] at p1
  obtain ⟨b, hb, hcan⟩ := progress st l l.length rfl (mer st less).1 (mer st less).2.1 p1 (fun j => (mer st less).2.2.getD j 0) (fun j hj => by
    obtain ⟨r1, r2⟩ := p5 j (by omega)
    rw [hc j hj] at r1 r2
    rw [List.length_take] at r1
    rw [r2, List.take_take, Nat.min_eq_left (by omega)]
    exact ⟨rfl, by omega⟩) (mer st l).2.2 q4 i hi (by omega)
  exact pick_none st q6 b hb hcan

/-- A history's parts are merged whole. -/
theorem mer_all (l : List (List α)) (h : List α) (bs : List Nat) (hb : brs st (List.replicate l.length 0) h = some bs) (hp : ∀ i, i < l.length → l.getD i [] = part i h bs) :
    (mer st l).1.length = h.length ∧ ∀ i, i < l.length → (mer st l).2.2.getD i 0 = (l.getD i []).length ∧ part i (mer st l).1 (mer st l).2.1 = l.getD i [] := by
  obtain ⟨q1, q2, q3, q4, q5, q6⟩ := mer_ok st l
  have hfull : ∀ i, i < l.length → (mer st l).2.2.getD i 0 = (l.getD i []).length := by
    intro i hi
    apply Classical.byContradiction
    intro hno
    have := (q5 i hi).1
    obtain ⟨b, hb', hcan⟩ := progress st l l.length rfl h bs hb (fun j => (l.getD j []).length) (fun j hj => by
      rw [List.take_length]
      exact ⟨(hp j hj).symm, Nat.le_refl _⟩) (mer st l).2.2 q4 i hi (by omega)
    exact pick_none st q6 b hb' hcan
  refine ⟨?_, fun i hi => ⟨hfull i hi, ?_⟩⟩
  · have hbl := (brs_iff st h _ bs).1 hb |>.1
    have hs := after_sum bs _ (brs_lt st hb)
    have he : after (List.replicate l.length 0) bs = (mer st l).2.2 := by
      apply List.ext_getElem?
      intro i
      have hal : (after (List.replicate l.length 0) bs).length = l.length := by rw [after_len, List.length_replicate]
      by_cases hi : i < l.length
      · have g1 : (after (List.replicate l.length 0) bs).getD i 0 = (mer st l).2.2.getD i 0 := by
          rw [after_get _ _ (brs_lt st hb), zero_get, hfull i hi, hp i hi, part_len i h bs hbl, Nat.zero_add]
        rw [List.getD_eq_getElem?_getD, List.getD_eq_getElem?_getD, List.getElem?_eq_getElem (by omega), List.getElem?_eq_getElem (by omega)] at g1
        rw [List.getElem?_eq_getElem (by omega), List.getElem?_eq_getElem (by omega)]
        exact congrArg some g1
      · rw [List.getElem?_eq_none (by omega), List.getElem?_eq_none (by omega)]
    rw [mer_len, ← he, hs, ← hbl]
    simp
  · rw [(q5 i hi).2, hfull i hi, List.take_length]
end Go.Proofs.Ytamfpmpooaejkaa.Mg
