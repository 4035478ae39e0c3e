/- Texts of the seat, packed: Kf. -/
import Derived.Test.YtkndchbpbaecbaaGreatDoorP14
import Derived.Test.YtkndchbpbaecbaaGreatDoorP32
import Derived.Test.YtkndchbpbaecbaaGreatDoorP33
import Derived.Laws.OwnMore
/- Facts in a row of one's own; what the methods do; the walk over by. -/
namespace Go.Proofs.YtkndchbpbaecbaaGreatDoor.Fc
open Go.RowKit Go.Shelf
set_option maxRecDepth 1000000
set_option linter.unusedVariables false

def rowsF (l : List Fa) : List Value := l.flatMap Fa.cells
theorem rowsF_cons (f : Fa) (l : List Fa) : rowsF (f :: l) = f.cells ++ rowsF l := by simp [rowsF]
theorem rowsF_len (l : List Fa) : (rowsF l).length = l.length * 4 := by
  induction l with
  | nil => rfl
  | cons f l ih => rw [rowsF_cons, List.length_append, ih, List.length_cons]; simp [Fa.cells]; omega
theorem rowsF_get (l : List Fa) (i : Nat) (f : Fa) (h : l[i]? = some f) (j : Nat) (hj : j < 4) : (rowsF l)[i * 4 + j]? = f.cells[j]? := by
  induction l generalizing i with
  | nil => simp at h
  | cons q l ih =>
    have hl : q.cells.length = 4 := rfl
    rw [rowsF_cons]
    cases i with
    | zero =>
      simp at h
      subst h
      rw [Nat.zero_mul, Nat.zero_add, List.getElem?_append_left (by omega)]
    | succ i =>
      rw [List.getElem?_append_right (by omega), ← ih i (by simpa using h)]
      congr 1
      omega
theorem rowsF_set (l : List Fa) (i : Nat) (f : Fa) (h : i < l.length) : rowsF (l.set i f) = ((((rowsF l).set (i * 4) (.int .i64 f.run)).set (i * 4 + 1) (.int .i64 f.tries)).set (i * 4 + 2) (.int .i64 f.slips)).set (i * 4 + 3) (.bool f.un) := by
  induction l generalizing i with
  | nil => simp at h
  | cons q l ih =>
    cases i with
    | zero =>
      simp only [List.set_cons_zero, rowsF_cons]
      rfl
    | succ i =>
      simp only [List.set_cons_succ, rowsF_cons]
      rw [ih i (by simpa using h)]
      have hl : q.cells.length = 4 := rfl
      rw [show (i + 1) * 4 = i * 4 + 4 by omega]
      rw [List.set_append_right _ _ (by omega), List.set_append_right _ _ (by omega), List.set_append_right _ _ (by omega), List.set_append_right _ _ (by omega), hl]
      congr 2 <;> omega

/-- Facts in a row of one's own. -/
def OF (B : Nat) (w : World) (v : Value) (l : List Fa) : Prop := w.ownsRow B 38 4 v l.length (rowsF l)

theorem OF.rf {B : Nat} {w : World} {v : Value} {l : List Fa} (h : OF B w v l) : RF w v l := by
  have hl := h
  unfold OF at h hl
  rcases h.2 with ⟨rfl, h0⟩ | ⟨g, cap, cur, rfl, _, _, q1, q2, _⟩
  · have h1 : l = [] := List.eq_nil_of_length_eq_zero h0
    subst h1
    exact ⟨none, 0, rfl, by simp, by unfold maxLen; omega, by simp⟩
  · refine ⟨_, cap, rfl, q1, q2, fun i f hf => ⟨g, 0, rfl, ?_⟩⟩
    have hi : i < l.length := (List.getElem?_eq_some_iff.1 hf).1
    have cell : ∀ j, j < 4 → w.cell? ⟨g, 0 + i * 4 + j, none⟩ = f.cells[j]? := fun j hj => by
      have := hl.cellAt (i * 4 + j) (by omega)
      rw [← rowsF_get l i f hf j hj, ← this, Nat.zero_add]
    exact ⟨cell 0 (by omega), cell 1 (by omega), cell 2 (by omega), cell 3 (by omega)⟩

/-- What a method tells: the fact then, and whether it fits. -/
def codeF (k t : Int) (f : Fa) : Fa × Bool :=
  if k = 1 then (begunF, decide (f = Fa.z)) else if k = 2 then (untriedF 0, decide (f = begunF)) else if k = 3 then (failedF, decide (f = begunF))
  else if k = 4 then (tryingF t, decide (f = untriedF t)) else if k = 5 then (undoneF t, decide (f = tryingF t)) else if k = 6 then (untriedF (t + 1), decide (f = tryingF t) && decide (t < 3)) else (Fa.z, false)

/-- The method of a kind. -/
def methN (k : Int) : Nat := if k = 1 then 35 else if k = 2 then 36 else if k = 3 then 37 else if k = 4 then 38 else if k = 5 then 39 else if k = 6 then 40 else 41

theorem k_cases (k : Int) : k = 1 ∨ k = 2 ∨ k = 3 ∨ k = 4 ∨ k = 5 ∨ k = 6 ∨ (¬ k = 1 ∧ ¬ k = 2 ∧ ¬ k = 3 ∧ ¬ k = 4 ∧ ¬ k = 5 ∧ ¬ k = 6) := by omega

theorem fit_code {k t : Int} {f : Fa} (hf : okF f) (h0 : 0 ≤ t) : fit k t f = if (codeF k t f).2 = true then some (codeF k t f).1 else none := by
  obtain ⟨r, tr, sl, un⟩ := f
  obtain ⟨a1, a2, a3, a4, a5, a6, a7⟩ := hf
  simp only at a1 a2 a3 a4 a5 a6 a7
  have hc : ∀ (p q : Prop) [Decidable p] [Decidable q] (x y : Fa), (p ↔ q) → (q → x = y) → (if p then some x else none) = if decide q = true then some y else none := by
    intro p q _ _ x y h1 h2
    by_cases hq : q
    · rw [if_pos (h1.2 hq), if_pos (decide_eq_true hq), h2 hq]
    · rw [if_neg (fun h => hq (h1.1 h)), if_neg (by simpa using hq)]
  rcases k_cases k with rfl | rfl | rfl | rfl | rfl | rfl | h
  · simp only [fit, codeF, if_pos]
    refine hc _ _ _ _ ?_ (fun _ => rfl)
    simp only [Fa.z, Fa.mk.injEq]
    constructor
    · intro h; refine ⟨h, by omega, by omega, ?_⟩; cases un; rfl; have := a7 rfl; omega
    · intro h; exact h.1
  · simp only [fit, codeF, show ¬ (2 : Int) = 1 by decide, if_false, if_pos]
    refine hc _ _ _ _ ?_ (fun _ => rfl)
    simp only [begunF, Fa.mk.injEq]
    constructor
    · intro h; refine ⟨h, by omega, by omega, ?_⟩; cases un; rfl; have := a7 rfl; omega
    · intro h; exact h.1
  · simp only [fit, codeF, show ¬ (3 : Int) = 1 by decide, show ¬ (3 : Int) = 2 by decide, if_false, if_pos]
    refine hc _ _ _ _ ?_ (fun _ => rfl)
    simp only [begunF, Fa.mk.injEq]
    constructor
    · intro h; refine ⟨h, by omega, by omega, ?_⟩; cases un; rfl; have := a7 rfl; omega
    · intro h; exact h.1
  · simp only [fit, codeF, show ¬ (4 : Int) = 1 by decide, show ¬ (4 : Int) = 2 by decide, show ¬ (4 : Int) = 3 by decide, if_false, if_pos]
    refine hc _ _ _ _ ?_ ?_
    · simp only [untriedF, Fa.mk.injEq]
      exact ⟨fun h => ⟨h.1, h.2.2.1, h.2.2.2, h.2.1⟩, fun h => ⟨h.1, h.2.2.2, h.2.1, h.2.2.1⟩⟩
    · intro h
      simp only [untriedF, Fa.mk.injEq] at h
      simp only [tryingF, h.2.1, h.2.2.1]
  · simp only [fit, codeF, show ¬ (5 : Int) = 1 by decide, show ¬ (5 : Int) = 2 by decide, show ¬ (5 : Int) = 3 by decide, show ¬ (5 : Int) = 4 by decide, if_false, if_pos]
    refine hc _ _ _ _ ?_ ?_
    · simp only [tryingF, Fa.mk.injEq]
      exact ⟨fun h => ⟨by omega, by omega, h.2.2, h.2.1⟩, fun h => ⟨by omega, h.2.2.2, h.2.2.1⟩⟩
    · intro h
      simp only [tryingF, Fa.mk.injEq] at h
      simp only [undoneF, h.2.1, h.2.2.1]
  · simp only [fit, codeF, show ¬ (6 : Int) = 1 by decide, show ¬ (6 : Int) = 2 by decide, show ¬ (6 : Int) = 3 by decide, show ¬ (6 : Int) = 4 by decide, show ¬ (6 : Int) = 5 by decide, if_false, if_pos, ← Bool.decide_and]
    refine hc _ _ _ _ ?_ ?_
    · simp only [tryingF, Fa.mk.injEq]
      exact ⟨fun h => ⟨⟨by omega, by omega, h.2.2.1, h.2.1⟩, h.2.2.2⟩, fun h => ⟨by omega, h.1.2.2.2, h.1.2.2.1, h.2⟩⟩
    · rintro ⟨h, _⟩
      simp only [tryingF, Fa.mk.injEq] at h
      simp only [untriedF, h.2.1, h.2.2.1]
  · obtain ⟨h1, h2, h3, h4, h5, h6⟩ := h
    simp only [fit, codeF, h1, h2, h3, h4, h5, h6, if_false]
    rfl

theorem meth_any (k : Int) (f : Fa) (t : Int) (w : World) (h0 : 0 ≤ t) (h3 : t ≤ 3) : Calls Tryz.prog (methN k) #[TuV f t] w fun e w' => e = .returned (.tuple #[FaV (codeF k t f).1, .bool (codeF k t f).2]) ∧ Below w.heap.size w w' := by
  rcases k_cases k with rfl | rfl | rfl | rfl | rfl | rfl | h
  · exact start_any f t w h0 h3
  · exact ok_any f t w h0 h3
  · exact fail_any f t w h0 h3
  · exact undo_any f t w h0 h3
  · exact undone_any f t w h0 h3
  · exact slip_any f t w h0 h3
  · obtain ⟨h1, h2, h3, h4, h5, h6⟩ := h
    simp only [methN, codeF, h1, h2, h3, h4, h5, h6, if_false]
    exact none_any f t w

set_option maxHeartbeats 2000000 in
theorem by_any (k : Int) (f : Fa) (t : Int) (w : World) : Calls Tryz.prog 25 #[TuV f t, .int .i64 k] w fun e w' => e = .returned (.func (Fn.func (methN k)) #[TuV f t] #[]) ∧ Below w.heap.size w w' := by
  have HB : Hid _ := bl1 w (.cells #[.int .i64 f.run, .int .i64 f.tries, .int .i64 f.slips, .bool f.un, .int .i64 t] 76)
  unfold TuV
  rcases k_cases k with rfl | rfl | rfl | rfl | rfl | rfl | h
  all_goals first
    | (go_enter Tryz.func25, Tryz.ntmps25
       go_wp2_with fail
       go_ret
       exact ⟨rfl, HB.out⟩)
    | (obtain ⟨h1, h2, h3, h4, h5, h6⟩ := h
       have HM : Hid (methN k = 41) := by show _ = _; simp only [methN, h1, h2, h3, h4, h5, h6, if_false]
       have g1 : (k == 1) = false := by simpa using h1
       have g2 : (k == 2) = false := by simpa using h2
       have g3 : (k == 3) = false := by simpa using h3
       have g4 : (k == 4) = false := by simpa using h4
       have g5 : (k == 5) = false := by simpa using h5
       have g6 : (k == 6) = false := by simpa using h6
       go_enter Tryz.func25, Tryz.ntmps25
       go_wp2_with fail
       go_ret
       rw [HM.out]
       exact ⟨rfl, HB.out⟩)
end Go.Proofs.YtkndchbpbaecbaaGreatDoor.Fc

