/- Plain: next of a branch as the program reckons it; what the iterators tell. -/
import Derived.Test.YtamfpmpooaejkaaSf
import Derived.Test.YtamfpmpooaejkaaMn
import Derived.Test.YtamfpmpooaejkaaEl
namespace Go.Proofs.Ytamfpmpooaejkaa
open Go.RowKit
set_option linter.unusedVariables false

abbrev EvP := Ev × Value
def stE (p : EvP) : List Int := p.1.s
def hadZ (had : List Nat) : List Int := had.map (fun n : Nat => (n : Int))
theorem hadZ_len (had : List Nat) : (hadZ had).length = had.length := by simp [hadZ]
theorem hadZ_get (had : List Nat) (k : Nat) : (hadZ had).getD k 0 = ((had.getD k 0 : Nat) : Int) := by
  unfold hadZ
  rw [List.getD_eq_getElem?_getD, List.getD_eq_getElem?_getD, List.getElem?_map]
  cases had[k]? <;> rfl
theorem hadZ_bump (had : List Nat) (i : Nat) : (hadZ had).set i ((hadZ had).getD i 0 + 1) = hadZ (Mg.bump had i) := by
  rw [hadZ_get]
  unfold hadZ Mg.bump
  rw [List.map_set]
  rfl
theorem hadZ_zero (n : Nat) : hadZ (List.replicate n 0) = List.replicate n 0 := by simp [hadZ]

theorem nx_eq (had : List Nat) (s : List Int) (i : Nat) (hl : s.length = had.length) (hi : i < had.length) (hb : had.getD i 0 ≤ 1000000) : nxB (hadZ had) s (i : Int) = decide (Mg.Nx had s i) := by
  unfold nxB
  rw [atZ_nat, atZ_nat, hadZ_get, show wrap64 (((had.getD i 0 : Nat) : Int) + 1) = ((had.getD i 0 : Nat) : Int) + 1 by unfold wrap64; omega]
  have h1 : (((had.getD i 0 : Nat) : Int) == 9223372036854775807) = false := by
    rw [beq_eq_false_iff_ne]; omega
  rw [h1, Bool.not_false, Bool.true_and]
  rw [Bool.eq_iff_iff, Bool.and_eq_true, beq_iff_eq, decide_eq_true_iff]
  unfold othB
  rw [allB_iff]
  constructor
  · rintro ⟨h2, h3⟩
    refine ⟨hl, hi, h2, fun j hj hne => ?_⟩
    have := h3 j (by rw [hadZ_len]; omega)
    simp only [Bool.or_eq_true, decide_eq_true_eq] at this
    rw [hadZ_get] at this
    rcases this with h | h
    · omega
    · exact h
  · rintro ⟨_, _, h2, h3⟩
    refine ⟨h2, fun j hj => ?_⟩
    simp only [Bool.or_eq_true, decide_eq_true_eq]
    rw [hadZ_get]
    by_cases hji : j = i
    · exact .inl (by omega)
    · exact .inr (h3 j (by rw [hadZ_len] at hj; omega) hji)

theorem nx_len {had : List Nat} {s : List Int} {i : Nat} (hl : ¬ s.length = had.length) : decide (Mg.Nx had s i) = false := decide_eq_false (fun h => hl h.1)

variable {α : Type} (st : α → List Int)

/-- The event behind those that a branch has had. -/
def frx (l : List (List α)) (had : List Nat) (i : Nat) : Option (Nat × α) := ((l.getD i [])[had.getD i 0]?).map (fun p => (i, p))
def frF (l : List (List α)) (had : List Nat) (i m : Nat) : List (Nat × α) := (List.range' i m).filterMap (frx l had)
def fr (l : List (List α)) (had : List Nat) : List (Nat × α) := frF l had 0 l.length

theorem frF_some {l : List (List α)} {had : List Nat} {i m : Nat} {x : Nat × α} (h : frx l had i = some x) : frF l had i (m + 1) = x :: frF l had (i + 1) m := by
  unfold frF
  rw [List.range'_succ, List.filterMap_cons_some h]
theorem frF_none {l : List (List α)} {had : List Nat} {i m : Nat} (h : frx l had i = none) : frF l had i (m + 1) = frF l had (i + 1) m := by
  unfold frF
  rw [List.range'_succ, List.filterMap_cons_none h]
theorem frx_some {l : List (List α)} {had : List Nat} {i : Nat} {x : Nat × α} (h : frx l had i = some x) : x.1 = i ∧ (l.getD i [])[had.getD i 0]? = some x.2 := by
  unfold frx at h
  obtain ⟨p, hp, rfl⟩ := Option.map_eq_some_iff.1 h
  exact ⟨rfl, hp⟩
theorem fr_mem {l : List (List α)} {had : List Nat} {x : Nat × α} (h : x ∈ fr l had) : x.1 < l.length ∧ (l.getD x.1 [])[had.getD x.1 0]? = some x.2 := by
  unfold fr frF at h
  obtain ⟨i, hi, hx⟩ := List.mem_filterMap.1 h
  obtain ⟨h1, h2⟩ := frx_some hx
  rw [h1]
  refine ⟨?_, h2⟩
  have := List.mem_range'_1.1 hi
  omega

def nxq (had : List Nat) (x : Nat × α) : Bool := decide (Mg.Nx had (st x.2) x.1)

theorem pick_fr (l : List (List α)) (had : List Nat) : Mg.pick st l had = ((fr l had).find? (nxq st had)).map Prod.fst := by
  unfold Mg.pick fr frF
  rw [List.find?_filterMap, ← List.range_eq_range']
  have e : (fun a => Option.any (nxq st had) (frx l had a)) = Mg.canB st l had := by
    funext i
    unfold Mg.canB frx nxq
    cases (l.getD i [])[had.getD i 0]? <;> rfl
  rw [e]
  cases h : (List.range l.length).find? (Mg.canB st l had) with
  | none => rfl
  | some i =>
    have := List.find?_some h
    unfold Mg.canB at this
    show _ = Option.map Prod.fst (frx l had i)
    unfold frx
    cases hc : (l.getD i [])[had.getD i 0]? with
    | none => rw [hc] at this; cases this
    | some p => rfl

/-- What a merge tells. -/
def mq (l : List (List α)) : Nat → List Nat → List (Nat × α)
  | 0, _ => []
  | f + 1, had => match (fr l had).find? (nxq st had) with
    | none => []
    | some x => x :: mq l f (Mg.bump had x.1)

theorem mq_mrg (l : List (List α)) : ∀ (f : Nat) (had : List Nat), (Mg.mrg st l f had).1 = (mq st l f had).map Prod.snd ∧ (Mg.mrg st l f had).2.1 = (mq st l f had).map Prod.fst
  | 0, had => ⟨rfl, rfl⟩
  | f + 1, had => by
    rw [Mg.mrg, mq, pick_fr]
    cases h : (fr l had).find? (nxq st had) with
    | none => exact ⟨rfl, rfl⟩
    | some x =>
      have hm := fr_mem (List.mem_of_find?_eq_some h)
      obtain ⟨ih1, ih2⟩ := mq_mrg l f (Mg.bump had x.1)
      simp only [Option.map_some, hm.2, List.map_cons, ih1, ih2]
      exact ⟨trivial, trivial⟩

def mseq (l : List (List α)) : List (Nat × α) := mq st l (Mg.tot l) (List.replicate l.length 0)
theorem mseq_ev (l : List (List α)) : (mseq st l).map Prod.snd = (Mg.mer st l).1 := ((mq_mrg st l _ _).1).symm
theorem mseq_br (l : List (List α)) : (mseq st l).map Prod.fst = (Mg.mer st l).2.1 := ((mq_mrg st l _ _).2).symm

/-- What is had so far, of a merge. -/
structure Hd (l : List (List α)) (f : Nat) (had : List Nat) : Prop where
  len : had.length = l.length
  le : ∀ i, i < l.length → had.getD i 0 ≤ (l.getD i []).length
  sum : f + had.sum = Mg.tot l

theorem Hd.zero (l : List (List α)) : Hd l (Mg.tot l) (List.replicate l.length 0) := ⟨by simp, fun i _ => by rw [Mg.zero_get]; omega, by simp⟩
theorem Hd.next {l : List (List α)} {f : Nat} {had : List Nat} (h : Hd l f had) {x : Nat × α} (hx : x ∈ fr l had) : ∃ f', f = f' + 1 ∧ Hd l f' (Mg.bump had x.1) := by
  obtain ⟨h1, h2⟩ := fr_mem hx
  have h3 := (List.getElem?_eq_some_iff.1 h2).1
  have hlt : had.sum < (l.map List.length).sum := Mg.sum_lt had (l.map List.length) (by rw [h.len, List.length_map]) (fun i hi => by rw [Mg.lens_get]; exact h.le i (by rw [← h.len]; exact hi)) x.1 (by rw [h.len]; exact h1) (by rw [Mg.lens_get]; exact h3)
  have hs := h.sum
  have hb := Mg.bump_sum had x.1 (by rw [h.len]; exact h1)
  unfold Mg.tot at hs
  refine ⟨f - 1, by omega, by rw [Mg.bump_len]; exact h.len, fun i hi => ?_, by unfold Mg.tot; omega⟩
  rw [Mg.bump_get _ _ _ (by rw [h.len]; exact h1)]
  have := h.le i hi
  split
  · rename_i e; subst e; omega
  · omega
theorem Hd.small {l : List (List α)} {f : Nat} {had : List Nat} (h : Hd l f had) (i : Nat) : had.getD i 0 ≤ Mg.tot l := by
  have : ∀ (a : List Nat) (i : Nat), a.getD i 0 ≤ a.sum := by
    intro a
    induction a with
    | nil => intro i; simp
    | cons x a ih =>
      intro i
      cases i with
      | zero => simp
      | succ i => have := ih i; simp only [List.getD_cons_succ, List.sum_cons]; omega
  have h1 := this had i
  have h2 := h.sum
  omega

/-- What a list tells as far as it is a history. -/
def pt : List Nat → List α → List (Nat × α)
  | _, [] => []
  | had, e :: h => match Mg.own had (st e) with
    | none => []
    | some i => (i, e) :: pt (Mg.bump had i) h

theorem pt_len : ∀ (h : List α) (had : List Nat), (pt st had h).length ≤ h.length
  | [], had => Nat.le_refl _
  | e :: h, had => by
    rw [pt]
    cases Mg.own had (st e) with
    | none => simp
    | some i => have := pt_len h (Mg.bump had i); simp only [List.length_cons]; omega
theorem pt_ev : ∀ (h : List α) (had : List Nat), (pt st had h).map Prod.snd = h.take (pt st had h).length
  | [], had => rfl
  | e :: h, had => by
    rw [pt]
    cases Mg.own had (st e) with
    | none => simp
    | some i => simp only [List.map_cons, List.length_cons, List.take_succ_cons]; rw [pt_ev h]
theorem pt_brs : ∀ (h : List α) (had : List Nat), Mg.brs st had h = if (pt st had h).length = h.length then some ((pt st had h).map Prod.fst) else none
  | [], had => rfl
  | e :: h, had => by
    rw [pt, Mg.brs]
    cases Mg.own had (st e) with
    | none => simp
    | some i =>
      simp only [List.length_cons, List.map_cons, Nat.add_right_cancel_iff]
      rw [pt_brs h]
      split <;> rfl
end Go.Proofs.Ytamfpmpooaejkaa
