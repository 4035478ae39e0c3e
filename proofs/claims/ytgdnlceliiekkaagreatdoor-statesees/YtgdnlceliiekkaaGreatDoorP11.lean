/- Texts of the seat, packed: Ka Kb Kq. -/
import Derived.Test.YtgdnlceliiekkaaGreatDoorChecked
import Derived.Test.YtgdnlceliiekkaaGreatDoorP08
import Derived.BigQuiet
import Derived.Deep.RegionHeld
import Derived.Laws.Rows
/- The plain side of layer 13: facts, what an event does to one, what is open. It names no number of a program. -/
namespace Go.Proofs.YtgdnlceliiekkaaGreatDoor.Fc

set_option linter.unusedVariables false

/-- A fact. -/
structure Fa where
  run : Int
  tries : Int
  slips : Int
  un : Bool
deriving DecidableEq

def Fa.z : Fa := ⟨0, 0, 0, false⟩

/-- A fact is right. -/
def okF (f : Fa) : Prop := 0 ≤ f.run ∧ f.run ≤ 3 ∧ 0 ≤ f.slips ∧ f.slips ≤ 3 ∧ (f.tries = f.slips ∨ f.tries = f.slips + 1) ∧ (f.tries = 0 ∨ f.run = 2) ∧ (f.un = true → f.tries = f.slips + 1)

instance (f : Fa) : Decidable (okF f) := by unfold okF; infer_instance

theorem okF_z : okF Fa.z := by decide

/-- What a fact is behind an event of it: the event's kind, and its try. -/
def fit (k t : Int) (f : Fa) : Option Fa :=
  if k = 1 then if f.run = 0 then some ⟨1, 0, 0, false⟩ else none
  else if k = 2 then if f.run = 1 then some ⟨2, 0, 0, false⟩ else none
  else if k = 3 then if f.run = 1 then some ⟨3, 0, 0, false⟩ else none
  else if k = 4 then if f.run = 2 ∧ f.un = false ∧ f.tries = t ∧ f.slips = t then some ⟨2, f.tries + 1, f.slips, false⟩ else none
  else if k = 5 then if f.tries = f.slips + 1 ∧ f.un = false ∧ f.slips = t then some ⟨2, f.tries, f.slips, true⟩ else none
  else if k = 6 then if f.tries = f.slips + 1 ∧ f.un = false ∧ f.slips = t ∧ t < 3 then some ⟨2, f.tries, f.slips + 1, false⟩ else none
  else none

/-- The six ways of an event that fits. -/
theorem fit_some {k t : Int} {f g : Fa} (h : fit k t f = some g) :
    (k = 1 ∧ f.run = 0 ∧ g = ⟨1, 0, 0, false⟩) ∨ (k = 2 ∧ f.run = 1 ∧ g = ⟨2, 0, 0, false⟩) ∨ (k = 3 ∧ f.run = 1 ∧ g = ⟨3, 0, 0, false⟩) ∨
    (k = 4 ∧ (f.run = 2 ∧ f.un = false ∧ f.tries = t ∧ f.slips = t) ∧ g = ⟨2, f.tries + 1, f.slips, false⟩) ∨
    (k = 5 ∧ (f.tries = f.slips + 1 ∧ f.un = false ∧ f.slips = t) ∧ g = ⟨2, f.tries, f.slips, true⟩) ∨
    (k = 6 ∧ (f.tries = f.slips + 1 ∧ f.un = false ∧ f.slips = t ∧ t < 3) ∧ g = ⟨2, f.tries, f.slips + 1, false⟩) := by
  unfold fit at h
  split at h
  · split at h
    · cases h; exact .inl ⟨by assumption, by assumption, rfl⟩
    · cases h
  split at h
  · split at h
    · cases h; exact .inr (.inl ⟨by assumption, by assumption, rfl⟩)
    · cases h
  split at h
  · split at h
    · cases h; exact .inr (.inr (.inl ⟨by assumption, by assumption, rfl⟩))
    · cases h
  split at h
  · split at h
    · cases h; exact .inr (.inr (.inr (.inl ⟨by assumption, by assumption, rfl⟩)))
    · cases h
  split at h
  · split at h
    · cases h; exact .inr (.inr (.inr (.inr (.inl ⟨by assumption, by assumption, rfl⟩))))
    · cases h
  split at h
  · split at h
    · cases h; exact .inr (.inr (.inr (.inr (.inr ⟨by assumption, by assumption, rfl⟩))))
    · cases h
  cases h

/-- A fact behind an event is right. -/
theorem fit_ok {k t : Int} {f g : Fa} (hf : okF f) (h : fit k t f = some g) : okF g := by
  obtain ⟨f1, f2, f3, f4, f5, f6, f7⟩ := hf
  rcases fit_some h with ⟨_, _, rfl⟩ | ⟨_, _, rfl⟩ | ⟨_, _, rfl⟩ | ⟨_, ⟨_, _, _, _⟩, rfl⟩ | ⟨_, ⟨_, _, _⟩, rfl⟩ | ⟨_, ⟨_, _, _, _⟩, rfl⟩
  · unfold okF; decide
  · unfold okF; decide
  · unfold okF; decide
  · refine ⟨(show (0 : Int) ≤ 2 by decide), (show (2 : Int) ≤ 3 by decide), f3, f4, .inr ?_, .inr rfl, fun h => by cases h⟩
    show f.tries + 1 = f.slips + 1
    omega
  · exact ⟨(show (0 : Int) ≤ 2 by decide), (show (2 : Int) ≤ 3 by decide), f3, f4, by omega, .inr rfl, fun _ => by assumption⟩
  · refine ⟨(show (0 : Int) ≤ 2 by decide), (show (2 : Int) ≤ 3 by decide), ?_, ?_, .inl ?_, .inr rfl, fun h => by cases h⟩
    · show 0 ≤ f.slips + 1
      omega
    · show f.slips + 1 ≤ 3
      omega
    · show f.tries = f.slips + 1
      assumption

/-- No event fits twice. -/
theorem fit_once {k t : Int} {f g : Fa} (h : fit k t f = some g) : fit k t g = none := by
  rcases fit_some h with ⟨rfl, _, rfl⟩ | ⟨rfl, _, rfl⟩ | ⟨rfl, _, rfl⟩ | ⟨rfl, ⟨_, _, h3, _⟩, rfl⟩ | ⟨rfl, ⟨_, _, _⟩, rfl⟩ | ⟨rfl, ⟨_, _, h3, _⟩, rfl⟩
  · simp [fit]
  · simp [fit]
  · simp [fit]
  · unfold fit
    rw [if_neg (by decide), if_neg (by decide), if_neg (by decide), if_pos rfl, if_neg (by rintro ⟨_, _, (h : f.tries + 1 = t), _⟩; omega)]
  · simp [fit]
  · unfold fit
    rw [if_neg (by decide), if_neg (by decide), if_neg (by decide), if_neg (by decide), if_neg (by decide), if_pos rfl, if_neg (by rintro ⟨_, _, (h : f.slips + 1 = t), _⟩; omega)]

theorem fit_other {k t : Int} {f g : Fa} (h : fit k t f = some g) : f ≠ g := by
  rintro rfl
  rw [fit_once h] at h
  cases h

/-- Facts are right of a plan (of which items are sub-sagas, the saga among them). -/
def okL (subs : List Bool) (l : List Fa) : Prop := l.length = subs.length ∧ ∀ i, i < l.length → okF (l.getD i Fa.z) ∧ (subs.getD i true = true → l.getD i Fa.z = Fa.z)

/-- The facts behind an event. -/
def does (subs : List Bool) (l : List Fa) (k t : Int) (i : Nat) : Option (List Fa) :=
  if 1 ≤ i ∧ i < l.length ∧ subs.getD i true = false then (fit k t (l.getD i Fa.z)).map (l.set i ·) else none

theorem getD_set {l : List Fa} {i j : Nat} (h : i < l.length) (g : Fa) : (l.set i g).getD j Fa.z = if i = j then g else l.getD j Fa.z := by
  rw [List.getD_eq_getElem?_getD, List.getElem?_set, List.getD_eq_getElem?_getD]
  by_cases e : i = j
  · subst e
    rw [if_pos rfl, if_pos rfl, if_pos h]
    rfl
  · rw [if_neg e, if_neg e]

theorem does_some {subs : List Bool} {l m : List Fa} {k t : Int} {i : Nat} (h : does subs l k t i = some m) :
    (1 ≤ i ∧ i < l.length ∧ subs.getD i true = false) ∧ ∃ g, fit k t (l.getD i Fa.z) = some g ∧ m = l.set i g := by
  unfold does at h
  split at h
  · obtain ⟨g, h1, h2⟩ := Option.map_eq_some_iff.1 h
    exact ⟨by assumption, g, h1, h2.symm⟩
  · cases h

/-- Facts behind an event are right; it does not fit once more; its item's fact alone is another one. -/
theorem does_right {subs : List Bool} {l m : List Fa} {k t : Int} {i : Nat} (hl : okL subs l) (h : does subs l k t i = some m) :
    okL subs m ∧ does subs m k t i = none ∧ m.length = l.length ∧ ∀ j, j < l.length → (l.getD j Fa.z = m.getD j Fa.z ↔ j ≠ i) := by
  obtain ⟨⟨h1, h2, h3⟩, g, hg, rfl⟩ := does_some h
  refine ⟨⟨by rw [List.length_set]; exact hl.1, fun j hj => ?_⟩, ?_, List.length_set, fun j hj => ?_⟩
  · rw [List.length_set] at hj
    rw [getD_set h2]
    by_cases e : i = j
    · subst e
      rw [if_pos rfl]
      exact ⟨fit_ok (hl.2 i hj).1 hg, fun hs => by rw [h3] at hs; cases hs⟩
    · rw [if_neg e]
      exact hl.2 j hj
  · unfold does
    split
    · rw [getD_set h2, if_pos rfl, fit_once hg]
      rfl
    · rfl
  · rw [getD_set h2]
    by_cases e : i = j
    · subst e
      rw [if_pos rfl]
      exact ⟨fun h => absurd h (fit_other hg), fun h => absurd rfl h⟩
    · rw [if_neg e]
      exact ⟨fun _ h => e h.symm, fun _ => rfl⟩

end Go.Proofs.YtgdnlceliiekkaaGreatDoor.Fc

/- Facts in memory; the walks over idle, begun, failed, untried, trying, undoneBy, right, rightOf. -/
namespace Go.Proofs.YtgdnlceliiekkaaGreatDoor.Fc

open Go.RowKit Go.Shelf

set_option maxRecDepth 1000000

set_option linter.unusedVariables false

def Fa.cells (f : Fa) : List Value := [.int .i64 f.run, .int .i64 f.tries, .int .i64 f.slips, .bool f.un]

def FaV (f : Fa) : Value := .agg #[.int .i64 f.run, .int .i64 f.tries, .int .i64 f.slips, .bool f.un]

def begunF : Fa := ⟨1, 0, 0, false⟩

def failedF : Fa := ⟨3, 0, 0, false⟩

def untriedF (t : Int) : Fa := ⟨2, t, t, false⟩

def tryingF (t : Int) : Fa := ⟨2, t + 1, t, false⟩

def undoneF (t : Int) : Fa := ⟨2, t + 1, t, true⟩

theorem bl1 (w : World) (o : Obj) : Below w.heap.size w (w.alloc o) := (Below.refl _ w).alloc (Nat.le_refl _) _

set_option maxHeartbeats 1000000 in
theorem idle_any (w : World) : Calls Tryz.prog 54 #[] w fun e w' => e = .returned (FaV Fa.z) ∧ Below w.heap.size w w' := by
  go_enter Tryz.func54, Tryz.ntmps54
  go_wp2_with fail
  refine ⟨rfl, _, results_cell_row (p := 0) (ty := 65) rfl _ _ w.heap.size 65 #[_, _, _, _] (0, 0) _ rfl (Dg.row_new w _ 65) Tryz.underlying65 rfl (by kernel_rfl), rfl, bl1 _ _⟩

set_option maxHeartbeats 1000000 in
theorem begun_any (w : World) : Calls Tryz.prog 87 #[] w fun e w' => e = .returned (FaV begunF) ∧ Below w.heap.size w w' := by
  go_enter Tryz.func87, Tryz.ntmps87
  go_wp2_with fail
  refine ⟨rfl, _, results_cell_row (p := 0) (ty := 65) rfl _ _ w.heap.size 65 #[_, _, _, _] (0, 0) _ rfl (Dg.row_new w _ 65) Tryz.underlying65 rfl (by kernel_rfl), rfl, bl1 _ _⟩

set_option maxHeartbeats 1000000 in
theorem failed_any (w : World) : Calls Tryz.prog 89 #[] w fun e w' => e = .returned (FaV failedF) ∧ Below w.heap.size w w' := by
  go_enter Tryz.func89, Tryz.ntmps89
  go_wp2_with fail
  refine ⟨rfl, _, results_cell_row (p := 0) (ty := 65) rfl _ _ w.heap.size 65 #[_, _, _, _] (0, 0) _ rfl (Dg.row_new w _ 65) Tryz.underlying65 rfl (by kernel_rfl), rfl, bl1 _ _⟩

set_option maxHeartbeats 1000000 in
theorem untried_any (t : Int) (w : World) : Calls Tryz.prog 88 #[.int .i64 t] w fun e w' => e = .returned (FaV (untriedF t)) ∧ Below w.heap.size w w' := by
  go_enter Tryz.func88, Tryz.ntmps88
  go_wp2_with fail
  refine ⟨rfl, _, results_cell_row (p := 2) (ty := 65) rfl _ _ w.heap.size 65 #[_, _, _, _] (0, 0) _ rfl (Dg.row_new w _ 65) Tryz.underlying65 rfl (by kernel_rfl), rfl, bl1 _ _⟩

set_option maxHeartbeats 1000000 in
theorem trying_any (t : Int) (w : World) (h0 : 0 ≤ t) (h3 : t ≤ 3) : Calls Tryz.prog 90 #[.int .i64 t] w fun e w' => e = .returned (FaV (tryingF t)) ∧ Below w.heap.size w w' := by
  go_enter Tryz.func90, Tryz.ntmps90
  go_wp2_with fail
  refine ⟨rfl, _, results_cell_row (p := 2) (ty := 65) rfl _ _ w.heap.size 65 #[_, _, _, _] (0, 0) _ rfl (Dg.row_new w _ 65) Tryz.underlying65 rfl (by kernel_rfl), rfl, bl1 _ _⟩

set_option maxHeartbeats 1000000 in
theorem undoneBy_any (t : Int) (w : World) (h0 : 0 ≤ t) (h3 : t ≤ 3) : Calls Tryz.prog 91 #[.int .i64 t] w fun e w' => e = .returned (FaV (undoneF t)) ∧ Below w.heap.size w w' := by
  go_enter Tryz.func91, Tryz.ntmps91
  go_wp2_with fail
  refine ⟨rfl, _, results_cell_row (p := 2) (ty := 65) rfl _ _ w.heap.size 65 #[_, _, _, _] (0, 0) _ rfl (Dg.row_new w _ 65) Tryz.underlying65 rfl (by kernel_rfl), rfl, bl1 _ _⟩

set_option maxHeartbeats 2000000 in
theorem right_any (f : Fa) (w : World) : Calls Tryz.prog 55 #[FaV f] w fun e w' => e = .returned (.bool (decide (okF f))) ∧ Below w.heap.size w w' := by
  obtain ⟨A, HA⟩ : ∃ A, Hid (A = decide (okF f)) := ⟨_, rfl⟩
  rw [← HA.out]
  obtain ⟨r, t, s, u⟩ := f
  unfold FaV
  dsimp only
  have HB : Hid (Below w.heap.size w (w.alloc (.cells #[.int .i64 r, .int .i64 t, .int .i64 s, .bool u] 65))) := bl1 _ _
  have no : Hid (¬ okF ⟨r, t, s, u⟩ → A = false) := fun h => by rw [HA.out]; exact decide_eq_false h
  have yes : Hid (okF ⟨r, t, s, u⟩ → A = true) := fun h => by rw [HA.out]; exact decide_eq_true h
  clear HA
  by_cases h1 : r < 0
  · have HX : Hid (A = false) := no.out (fun h => by have := h.1; simp only at this; omega)
    clear no yes
    go_enter Tryz.func55, Tryz.ntmps55
    go_wp2_with fail
    go_ret
    exact ⟨by rw [HX.out]; rfl, HB.out⟩
  by_cases h2 : 3 < r
  · have HX : Hid (A = false) := no.out (fun h => by have := h.2.1; simp only at this; omega)
    clear no yes
    go_enter Tryz.func55, Tryz.ntmps55
    go_wp2_with fail
    go_ret
    exact ⟨by rw [HX.out]; rfl, HB.out⟩
  by_cases h3 : s < 0
  · have HX : Hid (A = false) := no.out (fun h => by have := h.2.2.1; simp only at this; omega)
    clear no yes
    go_enter Tryz.func55, Tryz.ntmps55
    go_wp2_with fail
    go_ret
    exact ⟨by rw [HX.out]; rfl, HB.out⟩
  by_cases h4 : 3 < s
  · have HX : Hid (A = false) := no.out (fun h => by have := h.2.2.2.1; simp only at this; omega)
    clear no yes
    go_enter Tryz.func55, Tryz.ntmps55
    go_wp2_with fail
    go_ret
    exact ⟨by rw [HX.out]; rfl, HB.out⟩
  by_cases h5 : r = 2 ∨ t = 0
  · have h56 : ((r != 2) && (t != 0)) = false := by rcases h5 with rfl | rfl <;> simp
    have h57 : (r != 2) = false ∨ ((r != 2) = true ∧ (t != 0) = false) := by
      rcases h5 with rfl | rfl
      · exact .inl (by decide)
      · by_cases h : r = 2
        · exact .inl (by simp [h])
        · exact .inr ⟨by simp [h], by decide⟩
    clear h56
    by_cases h6 : t = s + 1
    · have HX : Hid (A = true) := yes.out ⟨by show 0 ≤ r; omega, by show r ≤ 3; omega, by show 0 ≤ s; omega, by show s ≤ 3; omega, .inr h6, h5.symm, fun _ => h6⟩
      have h7 : (t == s + 1) = true := by simp [h6]
      clear no yes h5 h6
      rcases h57 with h8 | ⟨h8, h9⟩
      · go_enter Tryz.func55, Tryz.ntmps55
        go_wp2_with fail
        go_ret
        exact ⟨by rw [HX.out]; rfl, HB.out⟩
      · go_enter Tryz.func55, Tryz.ntmps55
        go_wp2_with fail
        go_ret
        exact ⟨by rw [HX.out]; rfl, HB.out⟩
    · have h7 : (t == s + 1) = false := by simpa using h6
      by_cases h10 : t = s ∧ u = false
      · obtain ⟨h10, rfl⟩ := h10
        have HX : Hid (A = true) := yes.out ⟨by show 0 ≤ r; omega, by show r ≤ 3; omega, by show 0 ≤ s; omega, by show s ≤ 3; omega, .inl h10, h5.symm, fun h => by cases h⟩
        have h11 : (t == s) = true := by simp [h10]
        clear no yes h5 h6 h10
        rcases h57 with h8 | ⟨h8, h9⟩
        · go_enter Tryz.func55, Tryz.ntmps55
          go_wp2_with fail
          go_ret
          exact ⟨by rw [HX.out]; rfl, HB.out⟩
        · go_enter Tryz.func55, Tryz.ntmps55
          go_wp2_with fail
          go_ret
          exact ⟨by rw [HX.out]; rfl, HB.out⟩
      · have HX : Hid (A = false) := no.out (fun h => by
          have h5' := h.2.2.2.2.1
          have h6' := h.2.2.2.2.2.2
          simp only at h5' h6'
          rcases h5' with h5' | h5'
          · cases u
            · exact h10 ⟨h5', rfl⟩
            · exact h6 (h6' rfl)
          · exact h6 h5')
        by_cases h11 : t = s
        · have h12 : u = true := by cases u; exact absurd ⟨h11, rfl⟩ h10; rfl
          subst h12
          have h13 : (t == s) = true := by simp [h11]
          clear no yes h5 h6 h10 h11
          rcases h57 with h8 | ⟨h8, h9⟩
          · go_enter Tryz.func55, Tryz.ntmps55
            go_wp2_with fail
            go_ret
            exact ⟨by rw [HX.out]; rfl, HB.out⟩
          · go_enter Tryz.func55, Tryz.ntmps55
            go_wp2_with fail
            go_ret
            exact ⟨by rw [HX.out]; rfl, HB.out⟩
        · have h13 : (t == s) = false := by simpa using h11
          clear no yes h5 h6 h10 h11
          rcases h57 with h8 | ⟨h8, h9⟩
          · go_enter Tryz.func55, Tryz.ntmps55
            go_wp2_with fail
            go_ret
            exact ⟨by rw [HX.out]; rfl, HB.out⟩
          · go_enter Tryz.func55, Tryz.ntmps55
            go_wp2_with fail
            go_ret
            exact ⟨by rw [HX.out]; rfl, HB.out⟩
  · have HX : Hid (A = false) := no.out (fun h => by have := h.2.2.2.2.2.1; simp only at this; omega)
    have h8 : (r != 2) = true := by simp; omega
    have h9 : (t != 0) = true := by simp; omega
    clear no yes h5
    go_enter Tryz.func55, Tryz.ntmps55
    go_wp2_with fail
    go_ret
    exact ⟨by rw [HX.out]; rfl, HB.out⟩

end Go.Proofs.YtgdnlceliiekkaaGreatDoor.Fc

/- The plain side of layer 14: what holds of items and bodies, by what is known of the steps; the statuses. It names no number of a program. -/
namespace Go.Proofs.YtgdnlceliiekkaaGreatDoor.St

open Go.Proofs.YtgdnlceliiekkaaGreatDoor.Fc

set_option linter.unusedVariables false

/-- A plan: how many items, and of each what it is, in which body of which item it stands. -/
structure Pl where
  n : Nat
  sub : Nat → Bool
  vital : Nat → Bool
  alts : Nat → Nat
  inn : Nat → Nat
  alt : Nat → Nat

/-- What right plans are. -/
structure Pl.Ok (p : Pl) : Prop where
  pos : 1 ≤ p.n
  root : p.sub 0 = true
  inn : ∀ i, 1 ≤ i → i < p.n → p.inn i < i ∧ p.sub (p.inn i) = true ∧ p.alt i < p.alts (p.inn i)
  alts : ∀ i, i < p.n → p.sub i = true → 1 ≤ p.alts i

/-- What holds of an item. -/
structure IW where
  clean : Bool
  spent : Bool
  done : Bool
  touched : Bool
  at_ : Nat

def IW.z : IW := ⟨false, false, false, false, 0⟩

/-- Does an item stand in a body? -/
def kid (p : Pl) (s a i : Nat) : Bool := decide (s < i ∧ i < p.n ∧ p.inn i = s ∧ p.alt i = a)

/-- A body falls, by what holds of items. -/
def falls (p : Pl) (f : Nat → Fa) (K : Nat → IW) (s a : Nat) : Bool := (List.range p.n).any fun i => kid p s a i && (decide ((f i).run = 3) || (p.sub i && p.vital i && (K i).spent))

/-- All of it is clean. -/
def clears (p : Pl) (K : Nat → IW) (s a : Nat) : Bool := (List.range p.n).all fun i => !kid p s a i || (K i).clean

/-- It is whole. -/
def whole (p : Pl) (K : Nat → IW) (s a : Nat) : Bool := (List.range p.n).all fun i => !kid p s a i || ((K i).done || (p.sub i && !p.vital i && (K i).spent))

/-- The first body from a on that does not fall, or is not all clean; the last one, if there is none. -/
def first (q : Nat → Bool) (n : Nat) : Nat → Nat → Nat
  | 0, a => a
  | d + 1, a => if a + 1 < n ∧ q a = true then first q n d (a + 1) else a

/-- What holds of a saga, by what holds of its items. -/
def sagaW (p : Pl) (f : Nat → Fa) (K : Nat → IW) (s : Nat) : IW :=
  let at_ := first (fun a => falls p f K s a && clears p K s a) (p.alts s) (p.alts s) 0
  let spent := (List.range (p.alts s)).all fun a => falls p f K s a && clears p K s a
  { clean := (List.range (p.alts s)).all fun a => clears p K s a, spent := spent, done := !spent && whole p K s at_,
    touched := (List.range p.n).any fun i => decide (s < i ∧ p.inn i = s) && (K i).touched, at_ := at_ }

/-- .. of a step. -/
def stepW (f : Fa) : IW := ⟨decide (f.run = 0) || decide (f.run = 3) || f.un, false, decide (f.run = 2) && decide (f.tries = 0), decide (0 < f.run), 0⟩

/-- What holds of an item, with so much fuel. -/
def wk (p : Pl) (f : Nat → Fa) : Nat → Nat → IW
  | 0, _ => IW.z
  | d + 1, i => if p.sub i then sagaW p f (wk p f d) i else stepW (f i)

theorem falls_congr {p : Pl} {f : Nat → Fa} {K K' : Nat → IW} {s a : Nat} (h : ∀ i, s < i → i < p.n → K i = K' i) : falls p f K s a = falls p f K' s a := by
  unfold falls
  congr 1
  funext i
  by_cases hk : kid p s a i = true
  · have := of_decide_eq_true hk
    rw [h i this.1 this.2.1]
  · rw [show kid p s a i = false by simpa using hk]
    rfl

theorem clears_congr {p : Pl} {K K' : Nat → IW} {s a : Nat} (h : ∀ i, s < i → i < p.n → K i = K' i) : clears p K s a = clears p K' s a := by
  unfold clears
  congr 1
  funext i
  by_cases hk : kid p s a i = true
  · have := of_decide_eq_true hk
    rw [h i this.1 this.2.1]
  · rw [show kid p s a i = false by simpa using hk]
    rfl

theorem whole_congr {p : Pl} {K K' : Nat → IW} {s a : Nat} (h : ∀ i, s < i → i < p.n → K i = K' i) : whole p K s a = whole p K' s a := by
  unfold whole
  congr 1
  funext i
  by_cases hk : kid p s a i = true
  · have := of_decide_eq_true hk
    rw [h i this.1 this.2.1]
  · rw [show kid p s a i = false by simpa using hk]
    rfl

theorem any_congr {α : Type} {l : List α} {P Q : α → Bool} (h : ∀ x ∈ l, P x = Q x) : l.any P = l.any Q := by
  induction l with
  | nil => rfl
  | cons x l ih => rw [List.any_cons, List.any_cons, h x (by simp), ih fun y hy => h y (by simp [hy])]

theorem sagaW_congr {p : Pl} {f : Nat → Fa} {K K' : Nat → IW} {s : Nat} (h : ∀ i, s < i → i < p.n → K i = K' i) : sagaW p f K s = sagaW p f K' s := by
  unfold sagaW
  have h1 : ∀ a, falls p f K s a = falls p f K' s a := fun a => falls_congr h
  have h2 : ∀ a, clears p K s a = clears p K' s a := fun a => clears_congr h
  have h3 : ((List.range p.n).any fun i => decide (s < i ∧ p.inn i = s) && (K i).touched) = ((List.range p.n).any fun i => decide (s < i ∧ p.inn i = s) && (K' i).touched) := by
    refine any_congr fun i hi => ?_
    rw [List.mem_range] at hi
    by_cases hk : s < i ∧ p.inn i = s
    · rw [h i hk.1 hi]
    · rw [decide_eq_false hk]
      rfl
  simp only [h1, h2, h3, whole_congr h]

theorem wk_same (p : Pl) (f : Nat → Fa) : ∀ (d d' i : Nat), i < p.n → p.n - i ≤ d → p.n - i ≤ d' → wk p f d i = wk p f d' i
  | 0, d', i, hi, h1, _ => by omega
  | d + 1, 0, i, hi, _, h2 => by omega
  | d + 1, d' + 1, i, hi, h1, h2 => by
    unfold wk
    split
    · exact sagaW_congr fun k h3 h4 => wk_same p f d d' k h4 (by omega) (by omega)
    · rfl

/-- What holds of an item. -/
def W (p : Pl) (f : Nat → Fa) (i : Nat) : IW := wk p f p.n i

theorem W_eq {p : Pl} {f : Nat → Fa} {i : Nat} (hi : i < p.n) : W p f i = if p.sub i then sagaW p f (W p f) i else stepW (f i) := by
  unfold W
  rw [wk_same p f p.n (p.n + 1) i hi (by omega) (by omega)]
  rw [wk]

/-- A body falls. -/
def F (p : Pl) (f : Nat → Fa) (s a : Nat) : Bool := falls p f (W p f) s a

/-- A saga is halted. -/
def haltK (p : Pl) (f : Nat → Fa) : Nat → Nat → Bool
  | 0, _ => false
  | d + 1, i => if i = 0 then false else F p f (p.inn i) (p.alt i) || haltK p f d (p.inn i)

theorem haltK_same {p : Pl} (hp : p.Ok) (f : Nat → Fa) : ∀ (d d' i : Nat), i < p.n → i ≤ d → i ≤ d' → haltK p f (d + 1) i = haltK p f (d' + 1) i
  | 0, d', i, hi, h1, _ => by
    obtain rfl : i = 0 := by omega
    rfl
  | d + 1, 0, i, hi, _, h2 => by
    obtain rfl : i = 0 := by omega
    rfl
  | d + 1, d' + 1, i, hi, h1, h2 => by
    rw [haltK]
    conv => rhs; rw [haltK]
    by_cases h0 : i = 0
    · rw [if_pos h0, if_pos h0]
    · have := (hp.inn i (by omega) hi).1
      rw [if_neg h0, if_neg h0, haltK_same hp f d d' (p.inn i) (by omega) (by omega) (by omega)]

def halted (p : Pl) (f : Nat → Fa) (i : Nat) : Bool := haltK p f (i + 1) i

theorem halted_root (p : Pl) (f : Nat → Fa) : halted p f 0 = false := by unfold halted; rw [haltK, if_pos rfl]

theorem halted_eq {p : Pl} (hp : p.Ok) (f : Nat → Fa) {i : Nat} (h1 : 1 ≤ i) (hi : i < p.n) : halted p f i = (F p f (p.inn i) (p.alt i) || halted p f (p.inn i)) := by
  have := (hp.inn i h1 hi).1
  unfold halted
  rw [haltK, if_neg (by omega)]
  obtain ⟨j, rfl⟩ : ∃ j, i = j + 1 := ⟨i - 1, by omega⟩
  rw [haltK_same hp f j (p.inn (j + 1)) _ (by omega) (by omega) (Nat.le_refl _)]

/-- A step's status. -/
def stepS (f : Fa) : Int := if f.run = 0 then 0 else if f.run = 1 then 1 else if f.run = 3 then 3 else if f.tries = 0 then 2 else if f.un then 5 else 4

/-- A saga's. -/
def sagaS (x : IW) (h : Bool) : Int := if x.touched = false then 0 else if x.done then 2 else if x.spent then 3 else if h = false then 1 else if x.clean then 5 else 4

/-- An item's. -/
def S (p : Pl) (f : Nat → Fa) (i : Nat) : Int := if p.sub i then sagaS (W p f i) (halted p f i) else stepS (f i)

/-- A body of a saga that is spent is clean. -/
theorem spent_clears {p : Pl} {f : Nat → Fa} {s a : Nat} (hs : s < p.n) (hsub : p.sub s = true) (h : (W p f s).spent = true) (ha : a < p.alts s) : F p f s a = true ∧ clears p (W p f) s a = true := by
  rw [W_eq hs, if_pos hsub] at h
  have := List.all_eq_true.1 h a (List.mem_range.2 ha)
  rw [Bool.and_eq_true] at this
  exact this

theorem spent_clean {p : Pl} {f : Nat → Fa} {s : Nat} (hs : s < p.n) (hsub : p.sub s = true) (h : (W p f s).spent = true) : (W p f s).clean = true := by
  rw [W_eq hs, if_pos hsub]
  refine List.all_eq_true.2 fun a ha => ?_
  exact (spent_clears hs hsub h (List.mem_range.1 ha)).2

/-- An item of a body that is all clean is clean. -/
theorem clears_kid {p : Pl} {K : Nat → IW} {s a i : Nat} (h : clears p K s a = true) (hk : kid p s a i = true) : (K i).clean = true := by
  have hi := (of_decide_eq_true hk).2.1
  have := List.all_eq_true.1 h i (List.mem_range.2 hi)
  rw [hk] at this
  simpa using this

/-- What is not touched is clean. -/
theorem idle_clean {p : Pl} (hp : p.Ok) {f : Nat → Fa} (hf : ∀ i, i < p.n → okF (f i)) : ∀ (d i : Nat), p.n - i ≤ d → i < p.n → (W p f i).touched = false → (W p f i).clean = true
  | 0, i, h1, h2, _ => by omega
  | d + 1, i, h1, h2, h => by
    have h' := h
    rw [W_eq h2] at h' ⊢
    by_cases hs : p.sub i = true
    · rw [if_pos hs] at h' ⊢
      refine List.all_eq_true.2 fun a _ => List.all_eq_true.2 fun k hk => ?_
      rw [List.mem_range] at hk
      by_cases hkid : kid p i a k = true
      · have hd := of_decide_eq_true hkid
        have ht : (W p f k).touched = false := by
          have := List.any_eq_false.1 h' k (List.mem_range.2 hk)
          rw [decide_eq_true ⟨hd.1, hd.2.2.1⟩] at this
          simpa using this
        rw [idle_clean hp hf d k (by omega) hk ht]
        simp
      · rw [show kid p i a k = false by simpa using hkid]
        rfl
    · rw [if_neg hs] at h' ⊢
      have : ¬ 0 < (f i).run := by simpa [stepW] using h'
      have h0 := (hf i h2).1
      have : (f i).run = 0 := by omega
      simp [stepW, this]

/-- The first body, where all fall and are clean, is the last one. -/
theorem first_all {q : Nat → Bool} {n : Nat} : ∀ (d a : Nat), a < n → n ≤ a + d + 1 → (∀ b, a ≤ b → b < n → q b = true) → first q n d a = n - 1
  | 0, a, h1, h2, _ => by unfold first; omega
  | d + 1, a, h1, h2, h => by
    unfold first
    by_cases h3 : a + 1 < n
    · rw [if_pos ⟨h3, h a (Nat.le_refl _) h1⟩]
      exact first_all d (a + 1) h3 (by omega) fun b h4 h5 => h b (by omega) h5
    · rw [if_neg (fun h9 => h3 h9.1)]
      omega

/-- StateOne. -/
theorem state_one {p : Pl} (hp : p.Ok) {f : Nat → Fa} (hf : ∀ i, i < p.n → okF (f i)) {i : Nat} (hi : i < p.n) :
    ((S p f i = 3 ∨ S p f i = 0 ∨ S p f i = 5) → (W p f i).clean = true) ∧ (S p f i = 2 → p.sub i = false → (W p f i).clean = false) ∧
    (1 ≤ i → S p f (p.inn i) = 3 → (W p f i).clean = true) ∧ (p.sub i = true → S p f i = 3 → (W p f i).at_ = p.alts i - 1) := by
  refine ⟨fun h => ?_, fun h hs => ?_, fun h1 h => ?_, fun hs h => ?_⟩
  · unfold S at h
    by_cases hs : p.sub i = true
    · rw [if_pos hs] at h
      unfold sagaS at h
      by_cases ht : (W p f i).touched = false
      · exact idle_clean hp hf _ i (Nat.le_refl _) hi ht
      · rw [if_neg ht] at h
        split at h
        · omega
        · split at h
          · rename_i hsp
            exact spent_clean hi hs hsp
          · split at h
            · omega
            · split at h
              · assumption
              · omega
    · rw [if_neg hs] at h
      rw [W_eq hi, if_neg hs]
      unfold stepS at h
      simp only [stepW]
      split at h
      · rename_i h0; simp [h0]
      · split at h
        · omega
        · split at h
          · rename_i h3; simp [h3]
          · split at h
            · omega
            · split at h
              · rename_i hu; simp [hu]
              · omega
  · unfold S at h
    rw [if_neg (by rw [hs]; decide)] at h
    rw [W_eq hi, if_neg (by rw [hs]; decide)]
    obtain ⟨a1, a2, a3, a4, a5, a6, a7⟩ := hf i hi
    unfold stepS at h
    simp only [stepW]
    split at h
    · omega
    · split at h
      · omega
      · split at h
        · omega
        · split at h
          · rename_i b0 b1 b3 b4
            have hu : (f i).un = false := by
              cases hu : (f i).un with
              | false => rfl
              | true => have := a7 hu; omega
            simp [b0, b3, hu]
          · split at h <;> omega
  · obtain ⟨c1, c2, c3⟩ := hp.inn i h1 hi
    unfold S at h
    rw [if_pos c2] at h
    have hsp : (W p f (p.inn i)).spent = true := by
      unfold sagaS at h
      split at h
      · omega
      · split at h
        · omega
        · split at h
          · assumption
          · split at h
            · omega
            · split at h <;> omega
    refine clears_kid (spent_clears (by omega) c2 hsp c3).2 (decide_eq_true ⟨c1, hi, rfl, rfl⟩)
  · unfold S at h
    rw [if_pos hs] at h
    have hsp : (W p f i).spent = true := by
      unfold sagaS at h
      split at h
      · omega
      · split at h
        · omega
        · split at h
          · assumption
          · split at h
            · omega
            · split at h <;> omega
    have hq : ∀ b, 0 ≤ b → b < p.alts i → (falls p f (W p f) i b && clears p (W p f) i b) = true := fun b _ hb => by
      obtain ⟨q1, q2⟩ := spent_clears hi hs hsp hb
      unfold F at q1
      rw [q1, q2]
      rfl
    rw [W_eq hi, if_pos hs]
    exact first_all _ 0 (by have := hp.alts i hi hs; omega) (by omega) hq

/-- StateFalls: where a step of a body has failed, the body falls, and no saga in it is Running. -/
theorem state_falls {p : Pl} (hp : p.Ok) {f : Nat → Fa} {i k : Nat} (h1 : 1 ≤ i) (hi : i < p.n) (hr : (f i).run = 3) (hs : p.sub i = false) :
    F p f (p.inn i) (p.alt i) = true ∧ S p f i = 3 ∧ (1 ≤ k → k < p.n → p.inn k = p.inn i → p.alt k = p.alt i → p.sub k = true → S p f k ≠ 1) := by
  obtain ⟨c1, c2, c3⟩ := hp.inn i h1 hi
  have hF : F p f (p.inn i) (p.alt i) = true := by
    unfold F falls
    refine List.any_eq_true.2 ⟨i, List.mem_range.2 hi, ?_⟩
    rw [show kid p (p.inn i) (p.alt i) i = true from decide_eq_true ⟨c1, hi, rfl, rfl⟩, decide_eq_true hr]
    rfl
  refine ⟨hF, ?_, fun k1 k2 k3 k4 k5 => ?_⟩
  · unfold S stepS
    rw [if_neg (by rw [hs]; decide), if_neg (by omega), if_neg (by omega), if_pos hr]
  · unfold S sagaS
    rw [if_pos k5, halted_eq hp f k1 k2, k3, k4, hF]
    split
    · decide
    · split
      · decide
      · split
        · decide
        · split
          · rename_i h9; simp at h9
          · split <;> decide

/-- StateIdle: with no step that began nothing falls, nothing is touched, all is clean. -/
theorem state_idle {p : Pl} (hp : p.Ok) {f : Nat → Fa} (hf : ∀ i, i < p.n → f i = Fa.z) : ∀ (d i : Nat), p.n - i ≤ d → i < p.n →
    (W p f i).touched = false ∧ (W p f i).clean = true ∧ (p.sub i = true → (W p f i).spent = false ∧ (W p f i).at_ = 0 ∧ ∀ a, F p f i a = false)
  | 0, i, h1, h2 => by omega
  | d + 1, i, h1, h2 => by
    have kids : ∀ k, i < k → k < p.n → (W p f k).touched = false ∧ (p.sub k = true → (W p f k).spent = false) := fun k h3 h4 => by
      obtain ⟨q1, _, q3⟩ := state_idle hp hf d k (by omega) h4
      exact ⟨q1, fun hs => (q3 hs).1⟩
    have hF : ∀ a, F p f i a = false := fun a => by
      unfold F falls
      refine List.any_eq_false.2 fun k hk => ?_
      rw [List.mem_range] at hk
      by_cases hkid : kid p i a k = true
      · have hd := of_decide_eq_true hkid
        rw [hf k hk]
        cases hs : p.sub k with
        | false => simp [Fa.z]
        | true => simp [Fa.z, (kids k hd.1 hk).2 hs]
      · simp [show kid p i a k = false by simpa using hkid]
    have ht : (W p f i).touched = false := by
      rw [W_eq h2]
      by_cases hs : p.sub i = true
      · rw [if_pos hs]
        refine List.any_eq_false.2 fun k hk => ?_
        rw [List.mem_range] at hk
        by_cases h9 : i < k ∧ p.inn k = i
        · rw [(kids k h9.1 hk).1]; simp
        · rw [decide_eq_false h9]; simp
      · rw [if_neg hs, hf i h2]
        decide
    refine ⟨ht, idle_clean hp (fun j hj => by rw [hf j hj]; exact okF_z) _ i (Nat.le_refl _) h2 ht, fun hs => ⟨?_, ?_, hF⟩⟩
    · rw [W_eq h2, if_pos hs]
      have ha := hp.alts i h2 hs
      refine List.all_eq_false.2 ⟨0, List.mem_range.2 (by omega), ?_⟩
      have := hF 0
      unfold F at this
      rw [this]
      simp
    · rw [W_eq h2, if_pos hs]
      have ha := hp.alts i h2 hs
      show first _ _ _ 0 = 0
      obtain ⟨m, hm⟩ : ∃ m, p.alts i = m + 1 := ⟨p.alts i - 1, by omega⟩
      rw [hm]
      unfold first
      have := hF 0
      unfold F at this
      rw [if_neg]
      rintro ⟨_, h9⟩
      rw [this] at h9
      cases h9

theorem idle_halted {p : Pl} (hp : p.Ok) {f : Nat → Fa} (hf : ∀ i, i < p.n → f i = Fa.z) : ∀ (i : Nat), i < p.n → halted p f i = false := by
  intro i
  induction i using Nat.strongRecOn with
  | _ i ih =>
    intro hi
    by_cases h0 : i = 0
    · subst h0; exact halted_root p f
    · obtain ⟨c1, c2, c3⟩ := hp.inn i (by omega) hi
      rw [halted_eq hp f (by omega) hi, ih _ c1 (by omega), ((state_idle hp hf _ (p.inn i) (Nat.le_refl _) (by omega)).2.2 c2).2.2]
      rfl

end Go.Proofs.YtgdnlceliiekkaaGreatDoor.St

