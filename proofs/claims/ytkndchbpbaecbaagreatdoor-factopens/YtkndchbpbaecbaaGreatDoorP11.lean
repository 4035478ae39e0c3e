/- Texts of the seat, packed: Ka Kb. -/
import Derived.Test.YtkndchbpbaecbaaGreatDoorChecked
import Derived.Test.YtkndchbpbaecbaaGreatDoorP08
import Derived.Laws.Rows
import Derived.BigQuiet
import Derived.Deep.RegionHeld
/- The plain side of layer 13: facts, what an event does to one, what is open. It names no number of a program. -/
namespace Go.Proofs.YtkndchbpbaecbaaGreatDoor.Fc
set_option linter.unusedVariables false

/-- A fact. -/
structure Fa where
  run : Int
  tries : Int
  slips : Int
  un : Bool
deriving DecidableEq

def Fa.z : Fa := ⟨0, 0, 0, false⟩

/-- A fact is right. -/
def okF (f : Fa) : Prop := 0 ≤ f.run ∧ f.run ≤ 3 ∧ 0 ≤ f.slips ∧ f.slips ≤ 3 ∧ (f.tries = f.slips ∨ f.tries = f.slips + 1) ∧ (f.tries = 0 ∨ f.run = 2) ∧ (f.un = true → f.tries = f.slips + 1)
instance (f : Fa) : Decidable (okF f) := by unfold okF; infer_instance

theorem okF_z : okF Fa.z := by decide

/-- What a fact is behind an event of it: the event's kind, and its try. -/
def fit (k t : Int) (f : Fa) : Option Fa :=
  if k = 1 then if f.run = 0 then some ⟨1, 0, 0, false⟩ else none
  else if k = 2 then if f.run = 1 then some ⟨2, 0, 0, false⟩ else none
  else if k = 3 then if f.run = 1 then some ⟨3, 0, 0, false⟩ else none
  else if k = 4 then if f.run = 2 ∧ f.un = false ∧ f.tries = t ∧ f.slips = t then some ⟨2, f.tries + 1, f.slips, false⟩ else none
  else if k = 5 then if f.tries = f.slips + 1 ∧ f.un = false ∧ f.slips = t then some ⟨2, f.tries, f.slips, true⟩ else none
  else if k = 6 then if f.tries = f.slips + 1 ∧ f.un = false ∧ f.slips = t ∧ t < 3 then some ⟨2, f.tries, f.slips + 1, false⟩ else none
  else none

/-- The six ways of an event that fits. -/
theorem fit_some {k t : Int} {f g : Fa} (h : fit k t f = some g) :
    (k = 1 ∧ f.run = 0 ∧ g = ⟨1, 0, 0, false⟩) ∨ (k = 2 ∧ f.run = 1 ∧ g = ⟨2, 0, 0, false⟩) ∨ (k = 3 ∧ f.run = 1 ∧ g = ⟨3, 0, 0, false⟩) ∨
    (k = 4 ∧ (f.run = 2 ∧ f.un = false ∧ f.tries = t ∧ f.slips = t) ∧ g = ⟨2, f.tries + 1, f.slips, false⟩) ∨
    (k = 5 ∧ (f.tries = f.slips + 1 ∧ f.un = false ∧ f.slips = t) ∧ g = ⟨2, f.tries, f.slips, true⟩) ∨
    (k = 6 ∧ (f.tries = f.slips + 1 ∧ f.un = false ∧ f.slips = t ∧ t < 3) ∧ g = ⟨2, f.tries, f.slips + 1, false⟩) := by
  unfold fit at h
  split at h
  · split at h
    · cases h; exact .inl ⟨by assumption, by assumption, rfl⟩
    · cases h
  split at h
  · split at h
    · cases h; exact .inr (.inl ⟨by assumption, by assumption, rfl⟩)
    · cases h
  split at h
  · split at h
    · cases h; exact .inr (.inr (.inl ⟨by assumption, by assumption, rfl⟩))
    · cases h
  split at h
  · split at h
    · cases h; exact .inr (.inr (.inr (.inl ⟨by assumption, by assumption, rfl⟩)))
    · cases h
  split at h
  · split at h
    · cases h; exact .inr (.inr (.inr (.inr (.inl ⟨by assumption, by assumption, rfl⟩))))
    · cases h
  split at h
  · split at h
    · cases h; exact .inr (.inr (.inr (.inr (.inr ⟨by assumption, by assumption, rfl⟩))))
    · cases h
  cases h

/-- A fact behind an event is right. -/
theorem fit_ok {k t : Int} {f g : Fa} (hf : okF f) (h : fit k t f = some g) : okF g := by
  obtain ⟨f1, f2, f3, f4, f5, f6, f7⟩ := hf
  rcases fit_some h with ⟨_, _, rfl⟩ | ⟨_, _, rfl⟩ | ⟨_, _, rfl⟩ | ⟨_, ⟨_, _, _, _⟩, rfl⟩ | ⟨_, ⟨_, _, _⟩, rfl⟩ | ⟨_, ⟨_, _, _, _⟩, rfl⟩
  · unfold okF; decide
  · unfold okF; decide
  · unfold okF; decide
  · refine ⟨(show (0 : Int) ≤ 2 by decide), (show (2 : Int) ≤ 3 by decide), f3, f4, .inr ?_, .inr rfl, fun h => by cases h⟩
    show f.tries + 1 = f.slips + 1
    omega
  · exact ⟨(show (0 : Int) ≤ 2 by decide), (show (2 : Int) ≤ 3 by decide), f3, f4, by omega, .inr rfl, fun _ => by assumption⟩
  · refine ⟨(show (0 : Int) ≤ 2 by decide), (show (2 : Int) ≤ 3 by decide), ?_, ?_, .inl ?_, .inr rfl, fun h => by cases h⟩
    · show 0 ≤ f.slips + 1
      omega
    · show f.slips + 1 ≤ 3
      omega
    · show f.tries = f.slips + 1
      assumption

/-- No event fits twice. -/
theorem fit_once {k t : Int} {f g : Fa} (h : fit k t f = some g) : fit k t g = none := by
  rcases fit_some h with ⟨rfl, _, rfl⟩ | ⟨rfl, _, rfl⟩ | ⟨rfl, _, rfl⟩ | ⟨rfl, ⟨_, _, h3, _⟩, rfl⟩ | ⟨rfl, ⟨_, _, _⟩, rfl⟩ | ⟨rfl, ⟨_, _, h3, _⟩, rfl⟩
  · simp [fit]
  · simp [fit]
  · simp [fit]
  · unfold fit
    rw [if_neg (by decide), if_neg (by decide), if_neg (by decide), if_pos rfl, if_neg (by rintro ⟨_, _, (h : f.tries + 1 = t), _⟩; omega)]
  · simp [fit]
  · unfold fit
    rw [if_neg (by decide), if_neg (by decide), if_neg (by decide), if_neg (by decide), if_neg (by decide), if_pos rfl, if_neg (by rintro ⟨_, _, (h : f.slips + 1 = t), _⟩; omega)]

theorem fit_other {k t : Int} {f g : Fa} (h : fit k t f = some g) : f ≠ g := by
  rintro rfl
  rw [fit_once h] at h
  cases h

/-- Facts are right of a plan (of which items are sub-sagas, the saga among them). -/
def okL (subs : List Bool) (l : List Fa) : Prop := l.length = subs.length ∧ ∀ i, i < l.length → okF (l.getD i Fa.z) ∧ (subs.getD i true = true → l.getD i Fa.z = Fa.z)

/-- The facts behind an event. -/
def does (subs : List Bool) (l : List Fa) (k t : Int) (i : Nat) : Option (List Fa) :=
  if 1 ≤ i ∧ i < l.length ∧ subs.getD i true = false then (fit k t (l.getD i Fa.z)).map (l.set i ·) else none

theorem getD_set {l : List Fa} {i j : Nat} (h : i < l.length) (g : Fa) : (l.set i g).getD j Fa.z = if i = j then g else l.getD j Fa.z := by
  rw [List.getD_eq_getElem?_getD, List.getElem?_set, List.getD_eq_getElem?_getD]
  by_cases e : i = j
  · subst e
    rw [if_pos rfl, if_pos rfl, if_pos h]
    rfl
  · rw [if_neg e, if_neg e]

theorem does_some {subs : List Bool} {l m : List Fa} {k t : Int} {i : Nat} (h : does subs l k t i = some m) :
    (1 ≤ i ∧ i < l.length ∧ subs.getD i true = false) ∧ ∃ g, fit k t (l.getD i Fa.z) = some g ∧ m = l.set i g := by
  unfold does at h
  split at h
  · obtain ⟨g, h1, h2⟩ := Option.map_eq_some_iff.1 h
    exact ⟨by assumption, g, h1, h2.symm⟩
  · cases h

/-- Facts behind an event are right; it does not fit once more; its item's fact alone is another one. -/
theorem does_right {subs : List Bool} {l m : List Fa} {k t : Int} {i : Nat} (hl : okL subs l) (h : does subs l k t i = some m) :
    okL subs m ∧ does subs m k t i = none ∧ m.length = l.length ∧ ∀ j, j < l.length → (l.getD j Fa.z = m.getD j Fa.z ↔ j ≠ i) := by
  obtain ⟨⟨h1, h2, h3⟩, g, hg, rfl⟩ := does_some h
  refine ⟨⟨by rw [List.length_set]; exact hl.1, fun j hj => ?_⟩, ?_, List.length_set, fun j hj => ?_⟩
  · rw [List.length_set] at hj
    rw [getD_set h2]
    by_cases e : i = j
    · subst e
      rw [if_pos rfl]
      exact ⟨fit_ok (hl.2 i hj).1 hg, fun hs => by rw [h3] at hs; cases hs⟩
    · rw [if_neg e]
      exact hl.2 j hj
  · unfold does
    split
    · rw [getD_set h2, if_pos rfl, fit_once hg]
      rfl
    · rfl
  · rw [getD_set h2]
    by_cases e : i = j
    · subst e
      rw [if_pos rfl]
      exact ⟨fun h => absurd h (fit_other hg), fun h => absurd rfl h⟩
    · rw [if_neg e]
      exact ⟨fun _ h => e h.symm, fun _ => rfl⟩

/-- Of two events of unlike items it does not matter which comes first. -/
theorem does_beside {subs : List Bool} {l a b : List Fa} {k t k' t' : Int} {i j : Nat} (hij : i ≠ j) (h : does subs l k t i = some a) (h' : does subs l k' t' j = some b) :
    ∃ x, does subs a k' t' j = some x ∧ does subs b k t i = some x := by
  obtain ⟨⟨h1, h2, h3⟩, g, hg, rfl⟩ := does_some h
  obtain ⟨⟨q1, q2, q3⟩, g', hg', rfl⟩ := does_some h'
  refine ⟨(l.set i g).set j g', ?_, ?_⟩
  · unfold does
    rw [if_pos ⟨q1, by rw [List.length_set]; exact q2, q3⟩, getD_set h2, if_neg hij, hg']
    rfl
  · unfold does
    rw [if_pos ⟨h1, by rw [List.length_set]; exact h2, h3⟩, getD_set q2, if_neg (fun e => hij e.symm), hg, List.set_comm _ _ hij]
    rfl

/-- What began and did not end, of a step. -/
def opF (i : Nat) (f : Fa) : List (Nat × Bool × Int) := (if f.run = 1 then [(i, false, 0)] else []) ++ (if f.tries > f.slips ∧ f.un = false then [(i, true, f.slips)] else [])
/-- .. of steps, from a number on. -/
def opG : Nat → List Fa → List (Nat × Bool × Int)
  | _, [] => []
  | s, f :: r => opF s f ++ opG (s + 1) r

theorem opF_len (i j : Nat) (f : Fa) : (opF i f).length = (opF j f).length := by unfold opF; split <;> split <;> rfl

theorem opG_mem : ∀ {l : List Fa} {s : Nat} {x : Nat × Bool × Int}, x ∈ opG s l → ∃ i f, l[i]? = some f ∧ x ∈ opF (s + i) f
  | f :: r, s, x, h => by
    rw [opG, List.mem_append] at h
    rcases h with h | h
    · exact ⟨0, f, rfl, h⟩
    · obtain ⟨i, g, h1, h2⟩ := opG_mem h
      exact ⟨i + 1, g, by simpa using h1, by rw [show s + (i + 1) = s + 1 + i by omega]; exact h2⟩

theorem opG_set : ∀ {l : List Fa} {s i : Nat} {f : Fa} (g : Fa), l[i]? = some f → (opG s (l.set i g)).length + (opF i f).length = (opG s l).length + (opF i g).length
  | a :: r, s, 0, f, g, h => by
    simp only [List.getElem?_cons_zero, Option.some.injEq] at h
    subst h
    simp only [List.set_cons_zero, opG, List.length_append]
    rw [opF_len s 0 g, opF_len s 0 a]
    omega
  | a :: r, s, i + 1, f, g, h => by
    simp only [List.getElem?_cons_succ] at h
    have := opG_set (s := s + 1) g h
    simp only [List.set_cons_succ, opG, List.length_append]
    rw [opF_len (i + 1) i f, opF_len (i + 1) i g]
    omega

/-- What stands among the open ones, of right facts. -/
theorem open_at {subs : List Bool} {l : List Fa} (hl : okL subs l) (h0 : subs.getD 0 true = true) {x : Nat × Bool × Int} (hx : x ∈ opG 0 l) :
    ∃ i f, x.1 = i ∧ 1 ≤ i ∧ i < l.length ∧ subs.getD i true = false ∧ l.getD i Fa.z = f ∧ l[i]? = some f ∧ okF f ∧ (opF i f).length = 1 ∧
      ((x = (i, false, 0) ∧ f.run = 1 ∧ f.tries = 0) ∨ (x = (i, true, f.slips) ∧ f.run = 2 ∧ f.tries = f.slips + 1 ∧ f.un = false)) := by
  obtain ⟨i, f, hf, hm⟩ := opG_mem hx
  rw [Nat.zero_add] at hm
  have hi := (List.getElem?_eq_some_iff.1 hf).1
  have hg : l.getD i Fa.z = f := by rw [List.getD_eq_getElem?_getD, hf]; rfl
  obtain ⟨ho, hs⟩ := hl.2 i hi
  rw [hg] at ho hs
  have hsub : subs.getD i true = false := by
    cases h : subs.getD i true with
    | false => rfl
    | true =>
      rw [hs h] at hm
      simp [opF, Fa.z] at hm
  have hi1 : 1 ≤ i := by
    cases i with
    | zero => rw [h0] at hsub; cases hsub
    | succ n => omega
  have hmem := hm
  unfold opF at hm
  obtain ⟨o1, o2, o3, o4, o5, o6, o7⟩ := ho
  rcases List.mem_append.1 hm with h | h
  · split at h
    · rename_i hr
      simp at h
      have ht : f.tries = 0 := by omega
      refine ⟨i, f, by rw [h], hi1, hi, hsub, hg, hf, ⟨o1, o2, o3, o4, o5, o6, o7⟩, ?_, .inl ⟨h, hr, ht⟩⟩
      unfold opF
      rw [if_pos hr, if_neg (by omega)]
      rfl
    · cases h
  · split at h
    · rename_i hr
      simp at h
      have ht : f.tries = f.slips + 1 := by omega
      have h2 : f.run = 2 := by omega
      refine ⟨i, f, by rw [h], hi1, hi, hsub, hg, hf, ⟨o1, o2, o3, o4, o5, o6, o7⟩, ?_, .inr ⟨h, h2, ht, hr.2⟩⟩
      unfold opF
      rw [if_neg (by omega), if_pos hr]
      rfl
    · cases h

/-- What is open ends by one event of each of its ends, and is not open then. -/
theorem open_ends {subs : List Bool} {l : List Fa} (hl : okL subs l) (h0 : subs.getD 0 true = true) {i : Nat} {u : Bool} {t : Int} (hx : (i, u, t) ∈ opG 0 l) {k : Int} (hk : k = (if u then 5 else 2) ∨ k = (if u then 6 else 3)) :
    (1 ≤ i ∧ i < l.length) ∧ 0 ≤ t ∧ t ≤ 3 ∧ (u = false → t = 0) ∧
    ((k = 6 ∧ t = 3 ∧ does subs l k t i = none) ∨ ((k = 6 → t < 3) ∧ ∃ m, does subs l k t i = some m ∧ okL subs m ∧ (opG 0 m).length + 1 = (opG 0 l).length)) := by
  obtain ⟨i', f, e1, hi1, hi, hsub, hg, hf, ho, hlen, hc⟩ := open_at hl h0 hx
  obtain rfl : i = i' := e1
  have fin : ∀ g, fit k t f = some g → opF i g = [] → ∃ m, does subs l k t i = some m ∧ okL subs m ∧ (opG 0 m).length + 1 = (opG 0 l).length := fun g hfg hog => by
    have hd : does subs l k t i = some (l.set i g) := by
      unfold does
      rw [if_pos ⟨hi1, hi, hsub⟩, hg, hfg]
      rfl
    refine ⟨_, hd, (does_right hl hd).1, ?_⟩
    have := opG_set (s := 0) g hf
    rw [hlen, hog] at this
    simpa using this
  obtain ⟨o1, o2, o3, o4, o5, o6, o7⟩ := ho
  rcases hc with ⟨e, hr, ht⟩ | ⟨e, hr, ht, hu⟩
  · simp only [Prod.mk.injEq, true_and] at e
    obtain ⟨rfl, rfl⟩ := e
    refine ⟨⟨hi1, hi⟩, by decide, by decide, fun _ => rfl, .inr ?_⟩
    rcases hk with rfl | rfl
    · exact ⟨by decide, fin ⟨2, 0, 0, false⟩ (by simp [fit, hr]) (by simp [opF])⟩
    · exact ⟨by decide, fin ⟨3, 0, 0, false⟩ (by simp [fit, hr]) (by simp [opF])⟩
  · simp only [Prod.mk.injEq, true_and] at e
    obtain ⟨rfl, rfl⟩ := e
    refine ⟨⟨hi1, hi⟩, o3, o4, fun h => (by cases h), ?_⟩
    rcases hk with rfl | rfl
    · exact .inr ⟨fun h => absurd h (by decide), fin ⟨2, f.tries, f.slips, true⟩ (by simp [fit, ht, hu]) (by simp [opF])⟩
    · by_cases h3 : f.slips < 3
      · exact .inr ⟨fun _ => h3, fin ⟨2, f.tries, f.slips + 1, false⟩ (by simp [fit, ht, hu, h3]) (by simp [opF, ht])⟩
      · refine .inl ⟨rfl, by omega, ?_⟩
        unfold does
        rw [if_pos ⟨hi1, hi, hsub⟩, hg]
        simp [fit, h3]

/-- Facts of which all are zero. -/
theorem none_ok (subs : List Bool) : okL subs (List.replicate subs.length Fa.z) := by
  refine ⟨by simp, fun i hi => ?_⟩
  have : (List.replicate subs.length Fa.z).getD i Fa.z = Fa.z := by
    rw [List.getD_eq_getElem?_getD, List.getElem?_replicate]
    split <;> rfl
  rw [this]
  exact ⟨okF_z, fun _ => rfl⟩
end Go.Proofs.YtkndchbpbaecbaaGreatDoor.Fc

/- Facts in memory; the walks over idle, begun, failed, untried, trying, undoneBy, right, rightOf. -/
namespace Go.Proofs.YtkndchbpbaecbaaGreatDoor.Fc
open Go.RowKit Go.Shelf
set_option maxRecDepth 1000000
set_option linter.unusedVariables false

def Fa.cells (f : Fa) : List Value := [.int .i64 f.run, .int .i64 f.tries, .int .i64 f.slips, .bool f.un]
def FaV (f : Fa) : Value := .agg #[.int .i64 f.run, .int .i64 f.tries, .int .i64 f.slips, .bool f.un]
def begunF : Fa := ⟨1, 0, 0, false⟩
def failedF : Fa := ⟨3, 0, 0, false⟩
def untriedF (t : Int) : Fa := ⟨2, t, t, false⟩
def tryingF (t : Int) : Fa := ⟨2, t + 1, t, false⟩
def undoneF (t : Int) : Fa := ⟨2, t + 1, t, true⟩

theorem bl1 (w : World) (o : Obj) : Below w.heap.size w (w.alloc o) := (Below.refl _ w).alloc (Nat.le_refl _) _

set_option maxHeartbeats 1000000 in
theorem idle_any (w : World) : Calls Tryz.prog 27 #[] w fun e w' => e = .returned (FaV Fa.z) ∧ Below w.heap.size w w' := by
  go_enter Tryz.func27, Tryz.ntmps27
  go_wp2_with fail
  refine ⟨rfl, _, results_cell_row (p := 0) (ty := 38) rfl _ _ w.heap.size 38 #[_, _, _, _] (0, 0) _ rfl (Dg.row_new w _ 38) Tryz.underlying38 rfl (by kernel_rfl), rfl, bl1 _ _⟩

set_option maxHeartbeats 1000000 in
theorem begun_any (w : World) : Calls Tryz.prog 20 #[] w fun e w' => e = .returned (FaV begunF) ∧ Below w.heap.size w w' := by
  go_enter Tryz.func20, Tryz.ntmps20
  go_wp2_with fail
  refine ⟨rfl, _, results_cell_row (p := 0) (ty := 38) rfl _ _ w.heap.size 38 #[_, _, _, _] (0, 0) _ rfl (Dg.row_new w _ 38) Tryz.underlying38 rfl (by kernel_rfl), rfl, bl1 _ _⟩

set_option maxHeartbeats 1000000 in
theorem failed_any (w : World) : Calls Tryz.prog 54 #[] w fun e w' => e = .returned (FaV failedF) ∧ Below w.heap.size w w' := by
  go_enter Tryz.func54, Tryz.ntmps54
  go_wp2_with fail
  refine ⟨rfl, _, results_cell_row (p := 0) (ty := 38) rfl _ _ w.heap.size 38 #[_, _, _, _] (0, 0) _ rfl (Dg.row_new w _ 38) Tryz.underlying38 rfl (by kernel_rfl), rfl, bl1 _ _⟩

set_option maxHeartbeats 1000000 in
theorem untried_any (t : Int) (w : World) : Calls Tryz.prog 53 #[.int .i64 t] w fun e w' => e = .returned (FaV (untriedF t)) ∧ Below w.heap.size w w' := by
  go_enter Tryz.func53, Tryz.ntmps53
  go_wp2_with fail
  refine ⟨rfl, _, results_cell_row (p := 2) (ty := 38) rfl _ _ w.heap.size 38 #[_, _, _, _] (0, 0) _ rfl (Dg.row_new w _ 38) Tryz.underlying38 rfl (by kernel_rfl), rfl, bl1 _ _⟩

set_option maxHeartbeats 1000000 in
theorem trying_any (t : Int) (w : World) (h0 : 0 ≤ t) (h3 : t ≤ 3) : Calls Tryz.prog 21 #[.int .i64 t] w fun e w' => e = .returned (FaV (tryingF t)) ∧ Below w.heap.size w w' := by
  go_enter Tryz.func21, Tryz.ntmps21
  go_wp2_with fail
  refine ⟨rfl, _, results_cell_row (p := 2) (ty := 38) rfl _ _ w.heap.size 38 #[_, _, _, _] (0, 0) _ rfl (Dg.row_new w _ 38) Tryz.underlying38 rfl (by kernel_rfl), rfl, bl1 _ _⟩

set_option maxHeartbeats 1000000 in
theorem undoneBy_any (t : Int) (w : World) (h0 : 0 ≤ t) (h3 : t ≤ 3) : Calls Tryz.prog 55 #[.int .i64 t] w fun e w' => e = .returned (FaV (undoneF t)) ∧ Below w.heap.size w w' := by
  go_enter Tryz.func55, Tryz.ntmps55
  go_wp2_with fail
  refine ⟨rfl, _, results_cell_row (p := 2) (ty := 38) rfl _ _ w.heap.size 38 #[_, _, _, _] (0, 0) _ rfl (Dg.row_new w _ 38) Tryz.underlying38 rfl (by kernel_rfl), rfl, bl1 _ _⟩


set_option maxHeartbeats 2000000 in
theorem right_any (f : Fa) (w : World) : Calls Tryz.prog 28 #[FaV f] w fun e w' => e = .returned (.bool (decide (okF f))) ∧ Below w.heap.size w w' := by
  obtain ⟨A, HA⟩ : ∃ A, Hid (A = decide (okF f)) := ⟨_, rfl⟩
  rw [← HA.out]
  obtain ⟨r, t, s, u⟩ := f
  unfold FaV
  dsimp only
  have HB : Hid (Below w.heap.size w (w.alloc (.cells #[.int .i64 r, .int .i64 t, .int .i64 s, .bool u] 38))) := bl1 _ _
  have no : Hid (¬ okF ⟨r, t, s, u⟩ → A = false) := fun h => by rw [HA.out]; exact decide_eq_false h
  have yes : Hid (okF ⟨r, t, s, u⟩ → A = true) := fun h => by rw [HA.out]; exact decide_eq_true h
  clear HA
  by_cases h1 : r < 0
  · have HX : Hid (A = false) := no.out (fun h => by have := h.1; simp only at this; omega)
    clear no yes
    go_enter Tryz.func28, Tryz.ntmps28
    go_wp2_with fail
    go_ret
    exact ⟨by rw [HX.out]; rfl, HB.out⟩
  by_cases h2 : 3 < r
  · have HX : Hid (A = false) := no.out (fun h => by have := h.2.1; simp only at this; omega)
    clear no yes
    go_enter Tryz.func28, Tryz.ntmps28
    go_wp2_with fail
    go_ret
    exact ⟨by rw [HX.out]; rfl, HB.out⟩
  by_cases h3 : s < 0
  · have HX : Hid (A = false) := no.out (fun h => by have := h.2.2.1; simp only at this; omega)
    clear no yes
    go_enter Tryz.func28, Tryz.ntmps28
    go_wp2_with fail
    go_ret
    exact ⟨by rw [HX.out]; rfl, HB.out⟩
  by_cases h4 : 3 < s
  · have HX : Hid (A = false) := no.out (fun h => by have := h.2.2.2.1; simp only at this; omega)
    clear no yes
    go_enter Tryz.func28, Tryz.ntmps28
    go_wp2_with fail
    go_ret
    exact ⟨by rw [HX.out]; rfl, HB.out⟩
  by_cases h5 : r = 2 ∨ t = 0
  · have h56 : ((r != 2) && (t != 0)) = false := by rcases h5 with rfl | rfl <;> simp
    have h57 : (r != 2) = false ∨ ((r != 2) = true ∧ (t != 0) = false) := by
      rcases h5 with rfl | rfl
      · exact .inl (by decide)
      · by_cases h : r = 2
        · exact .inl (by simp [h])
        · exact .inr ⟨by simp [h], by decide⟩
    clear h56
    by_cases h6 : t = s + 1
    · have HX : Hid (A = true) := yes.out ⟨by show 0 ≤ r; omega, by show r ≤ 3; omega, by show 0 ≤ s; omega, by show s ≤ 3; omega, .inr h6, h5.symm, fun _ => h6⟩
      have h7 : (t == s + 1) = true := by simp [h6]
      clear no yes h5 h6
      rcases h57 with h8 | ⟨h8, h9⟩
      · go_enter Tryz.func28, Tryz.ntmps28
        go_wp2_with fail
        go_ret
        exact ⟨by rw [HX.out]; rfl, HB.out⟩
      · go_enter Tryz.func28, Tryz.ntmps28
        go_wp2_with fail
        go_ret
        exact ⟨by rw [HX.out]; rfl, HB.out⟩
    · have h7 : (t == s + 1) = false := by simpa using h6
      by_cases h10 : t = s ∧ u = false
      · obtain ⟨h10, rfl⟩ := h10
        have HX : Hid (A = true) := yes.out ⟨by show 0 ≤ r; omega, by show r ≤ 3; omega, by show 0 ≤ s; omega, by show s ≤ 3; omega, .inl h10, h5.symm, fun h => by cases h⟩
        have h11 : (t == s) = true := by simp [h10]
        clear no yes h5 h6 h10
        rcases h57 with h8 | ⟨h8, h9⟩
        · go_enter Tryz.func28, Tryz.ntmps28
          go_wp2_with fail
          go_ret
          exact ⟨by rw [HX.out]; rfl, HB.out⟩
        · go_enter Tryz.func28, Tryz.ntmps28
          go_wp2_with fail
          go_ret
          exact ⟨by rw [HX.out]; rfl, HB.out⟩
      · have HX : Hid (A = false) := no.out (fun h => by
          have h5' := h.2.2.2.2.1
          have h6' := h.2.2.2.2.2.2
          simp only at h5' h6'
          rcases h5' with h5' | h5'
          · cases u
            · exact h10 ⟨h5', rfl⟩
            · exact h6 (h6' rfl)
          · exact h6 h5')
        by_cases h11 : t = s
        · have h12 : u = true := by cases u; exact absurd ⟨h11, rfl⟩ h10; rfl
          subst h12
          have h13 : (t == s) = true := by simp [h11]
          clear no yes h5 h6 h10 h11
          rcases h57 with h8 | ⟨h8, h9⟩
          · go_enter Tryz.func28, Tryz.ntmps28
            go_wp2_with fail
            go_ret
            exact ⟨by rw [HX.out]; rfl, HB.out⟩
          · go_enter Tryz.func28, Tryz.ntmps28
            go_wp2_with fail
            go_ret
            exact ⟨by rw [HX.out]; rfl, HB.out⟩
        · have h13 : (t == s) = false := by simpa using h11
          clear no yes h5 h6 h10 h11
          rcases h57 with h8 | ⟨h8, h9⟩
          · go_enter Tryz.func28, Tryz.ntmps28
            go_wp2_with fail
            go_ret
            exact ⟨by rw [HX.out]; rfl, HB.out⟩
          · go_enter Tryz.func28, Tryz.ntmps28
            go_wp2_with fail
            go_ret
            exact ⟨by rw [HX.out]; rfl, HB.out⟩
  · have HX : Hid (A = false) := no.out (fun h => by have := h.2.2.2.2.2.1; simp only at this; omega)
    have h8 : (r != 2) = true := by simp; omega
    have h9 : (t != 0) = true := by simp; omega
    clear no yes h5
    go_enter Tryz.func28, Tryz.ntmps28
    go_wp2_with fail
    go_ret
    exact ⟨by rw [HX.out]; rfl, HB.out⟩

end Go.Proofs.YtkndchbpbaecbaaGreatDoor.Fc

