/- Plain: branches' events merged, histories, what stands ahead (layer 12). -/
import Derived.Test.YtamfpmpooaejkaaMa
namespace Go.Proofs.Ytamfpmpooaejkaa.Mg
set_option linter.unusedVariables false

variable {α : Type} (st : α → List Int)

/-- Is a stamp next of branch i, the branches having had so much? -/
def Nx (had : List Nat) (s : List Int) (i : Nat) : Prop :=
  s.length = had.length ∧ i < had.length ∧ s.getD i 0 = (had.getD i 0 : Int) + 1 ∧ ∀ j, j < had.length → j ≠ i → s.getD j 0 ≤ (had.getD j 0 : Int)

instance (had : List Nat) (s : List Int) (i : Nat) : Decidable (Nx had s i) := by unfold Nx; infer_instance

theorem Nx.one {had : List Nat} {s : List Int} {i j : Nat} (h : Nx had s i) (k : Nx had s j) : i = j := by
  rcases Nat.decEq i j with hne | he
  · have h1 := h.2.2.1
    have h2 := k.2.2.2 i h.2.1 hne
    omega
  · exact he

def bump (had : List Nat) (i : Nat) : List Nat := had.set i (had.getD i 0 + 1)
theorem bump_len (had : List Nat) (i : Nat) : (bump had i).length = had.length := by simp [bump]
theorem bump_get (had : List Nat) (i j : Nat) (h : i < had.length) : (bump had i).getD j 0 = had.getD j 0 + if j = i then 1 else 0 := by
  unfold bump
  rw [List.getD_eq_getElem?_getD, List.getElem?_set]
  by_cases hj : i = j
  · subst hj
    simp [h]
  · rw [if_neg hj, if_neg (fun e => hj e.symm)]
    simp [List.getD_eq_getElem?_getD]

/-- Each event's branch; none: it is no history. -/
def own (had : List Nat) (s : List Int) : Option Nat := (List.range had.length).find? (fun i => decide (Nx had s i))
theorem own_some {had : List Nat} {s : List Int} {i : Nat} : own had s = some i ↔ Nx had s i := by
  unfold own
  constructor
  · intro h
    have := List.find?_some h
    simpa using this
  · intro h
    cases hf : (List.range had.length).find? (fun i => decide (Nx had s i)) with
    | none =>
      have := List.find?_eq_none.1 hf i (List.mem_range.2 h.2.1)
      simp [h] at this
    | some j =>
      have := List.find?_some hf
      simp only [decide_eq_true_eq] at this
      rw [h.one this]
theorem own_none {had : List Nat} {s : List Int} : own had s = none ↔ ∀ i, ¬ Nx had s i := by
  constructor
  · intro h i hi
    rw [own_some.2 hi] at h
    cases h
  · intro h
    cases ho : own had s with
    | none => rfl
    | some i => exact absurd (own_some.1 ho) (h i)

def brs : List Nat → List α → Option (List Nat)
  | _, [] => some []
  | had, e :: h => match own had (st e) with
    | none => none
    | some i => (brs (bump had i) h).map (i :: ·)

/-- What the branches have had behind the first k events. -/
def after (had : List Nat) (bs : List Nat) : List Nat := bs.foldl bump had
theorem after_len (bs : List Nat) : ∀ had : List Nat, (after had bs).length = had.length := by
  induction bs with
  | nil => intro had; rfl
  | cons b r ih => intro had; show (after (bump had b) r).length = _; rw [ih, bump_len]
theorem after_get (bs : List Nat) : ∀ (had : List Nat), (∀ b ∈ bs, b < had.length) → ∀ j, (after had bs).getD j 0 = had.getD j 0 + bs.count j := by
  induction bs with
  | nil => intro had _ j; simp [after]
  | cons b r ih =>
    intro had hb j
    show (after (bump had b) r).getD j 0 = _
    rw [ih (bump had b) (fun x hx => by rw [bump_len]; exact hb x (List.mem_cons_of_mem _ hx)) j, bump_get _ _ _ (hb b (List.mem_cons_self ..)), List.count_cons]
    by_cases h : j = b
    · subst h; simp; omega
    · rw [if_neg h]
      have : (b == j) = false := by simpa using fun e => h e.symm
      rw [this]
      simp

/-- A history, event by event. -/
theorem brs_iff : ∀ (h : List α) (had bs : List Nat), brs st had h = some bs ↔ bs.length = h.length ∧ ∀ k e b, h[k]? = some e → bs[k]? = some b → Nx (after had (bs.take k)) (st e) b
  | [], had, bs => by
    unfold brs
    constructor
    · intro e
      cases e
      exact ⟨rfl, fun k e b h _ => by simp at h⟩
    · rintro ⟨hl, _⟩
      rw [List.eq_nil_of_length_eq_zero hl]
  | e :: h, had, bs => by
    rw [brs]
    constructor
    · intro hb
      cases ho : own had (st e) with
      | none => rw [ho] at hb; cases hb
      | some i =>
        rw [ho] at hb
        simp only [Option.map_eq_some_iff] at hb
        obtain ⟨cs, hc, rfl⟩ := hb
        obtain ⟨h1, h2⟩ := (brs_iff h (bump had i) cs).1 hc
        refine ⟨by simp [h1], fun k x b hx hbx => ?_⟩
        cases k with
        | zero =>
          simp at hx hbx
          subst hx hbx
          exact own_some.1 ho
        | succ k =>
          simp only [List.getElem?_cons_succ] at hx hbx
          exact h2 k x b hx hbx
    · rintro ⟨hl, hn⟩
      cases bs with
      | nil => simp at hl
      | cons b cs =>
        have h0 : Nx had (st e) b := hn 0 e b rfl rfl
        rw [own_some.2 h0]
        simp only [Option.map_eq_some_iff]
        refine ⟨cs, (brs_iff h (bump had b) cs).2 ⟨by simpa using hl, fun k x c hx hc => ?_⟩, rfl⟩
        exact hn (k + 1) x c (by simpa using hx) (by simpa using hc)

/-- Branches of a history are branches. -/
theorem brs_lt {h : List α} {had bs : List Nat} (hb : brs st had h = some bs) : ∀ b ∈ bs, b < had.length := by
  intro b hm
  obtain ⟨k, hk⟩ := List.getElem?_of_mem hm
  obtain ⟨h1, h2⟩ := (brs_iff st h had bs).1 hb
  have hkl := (List.getElem?_eq_some_iff.1 hk).1
  have := (h2 k h[k] b (List.getElem?_eq_getElem (by omega)) hk).2.1
  rw [after_len] at this
  exact this

/-- A history's beginnings are histories. -/
theorem brs_take {h : List α} {had bs : List Nat} (hb : brs st had h = some bs) (m : Nat) : brs st had (h.take m) = some (bs.take m) := by
  obtain ⟨h1, h2⟩ := (brs_iff st h had bs).1 hb
  refine (brs_iff st _ _ _).2 ⟨by simp [h1], fun k e b he hbk => ?_⟩
  rw [List.getElem?_take] at he hbk
  split at he
  · rename_i hkm
    rw [if_pos hkm] at hbk
    have := h2 k e b he hbk
    rwa [List.take_take, Nat.min_eq_left (by omega)]
  · cases he

/-- A branch's events of a history. -/
def part (i : Nat) : List α → List Nat → List α
  | e :: h, b :: bs => if b = i then e :: part i h bs else part i h bs
  | _, _ => []

theorem part_len (i : Nat) : ∀ (h : List α) (bs : List Nat), bs.length = h.length → (part i h bs).length = bs.count i
  | [], [], _ => rfl
  | e :: h, b :: bs, hl => by
    have ih := part_len i h bs (by simpa using hl)
    rw [part, List.count_cons]
    by_cases hb : b = i
    · subst hb; simp [ih]
    · rw [if_neg hb, ih]
      simp [hb]

theorem part_app (i : Nat) : ∀ (h : List α) (bs : List Nat) (g : List α) (cs : List Nat), bs.length = h.length → part i (h ++ g) (bs ++ cs) = part i h bs ++ part i g cs
  | [], [], g, cs, _ => rfl
  | e :: h, b :: bs, g, cs, hl => by
    have ih := part_app i h bs g cs (by simpa using hl)
    rw [List.cons_append, List.cons_append, part, part, ih]
    split <;> rfl

/-- Where an event stands in its branch. -/
theorem part_at (i : Nat) (h : List α) (bs : List Nat) (hl : bs.length = h.length) (k : Nat) (e : α) (he : h[k]? = some e) (hb : bs[k]? = some i) : (part i h bs)[(bs.take k).count i]? = some e := by
  have hk := (List.getElem?_eq_some_iff.1 he).1
  have e1 : h = h.take k ++ h.drop k := (List.take_append_drop k h).symm
  have e2 : bs = bs.take k ++ bs.drop k := (List.take_append_drop k bs).symm
  have hlk : (bs.take k).length = (h.take k).length := by simp [hl]
  have d1 : h.drop k = e :: h.drop (k + 1) := by
    rw [List.drop_eq_getElem_cons hk]
    congr 1
    rw [List.getElem?_eq_getElem hk] at he
    exact Option.some.inj he
  have hkb : k < bs.length := by omega
  have d2 : bs.drop k = i :: bs.drop (k + 1) := by
    rw [List.drop_eq_getElem_cons hkb]
    congr 1
    rw [List.getElem?_eq_getElem hkb] at hb
    exact Option.some.inj hb
  have hp : part i h bs = part i (h.take k) (bs.take k) ++ part i (h.drop k) (bs.drop k) := by
    rw [← part_app i _ _ _ _ hlk, List.take_append_drop, List.take_append_drop]
  rw [hp, List.getElem?_append_right (by rw [part_len i _ _ hlk]; exact Nat.le_refl _), part_len i _ _ hlk, Nat.sub_self, d1, d2, part, if_pos rfl]
  rfl

/-- What can be taken next, the least branch first. -/
def can (l : List (List α)) (had : List Nat) (i : Nat) : Prop := ∃ e, (l.getD i [])[had.getD i 0]? = some e ∧ Nx had (st e) i
def canB (l : List (List α)) (had : List Nat) (i : Nat) : Bool := match (l.getD i [])[had.getD i 0]? with
  | none => false
  | some e => decide (Nx had (st e) i)
theorem canB_iff {l : List (List α)} {had : List Nat} {i : Nat} : canB st l had i = true ↔ can st l had i := by
  unfold canB can
  cases (l.getD i [])[had.getD i 0]? with
  | none => simp
  | some e => simp
def pick (l : List (List α)) (had : List Nat) : Option Nat := (List.range l.length).find? (canB st l had)

def mrg (l : List (List α)) : Nat → List Nat → List α × List Nat × List Nat
  | 0, had => ([], [], had)
  | f + 1, had => match pick st l had with
    | none => ([], [], had)
    | some i => match (l.getD i [])[had.getD i 0]? with
      | none => ([], [], had)
      | some e => (e :: (mrg l f (bump had i)).1, i :: (mrg l f (bump had i)).2.1, (mrg l f (bump had i)).2.2)

theorem pick_some {l : List (List α)} {had : List Nat} {i : Nat} (h : pick st l had = some i) : i < l.length ∧ can st l had i := by
  unfold pick at h
  exact ⟨List.mem_range.1 (List.mem_of_find?_eq_some h), (canB_iff st).1 (List.find?_some h)⟩
theorem pick_none {l : List (List α)} {had : List Nat} (h : pick st l had = none) : ∀ i, i < l.length → ¬ can st l had i := by
  unfold pick at h
  intro i hi hc
  have := List.find?_eq_none.1 h i (List.mem_range.2 hi)
  exact this ((canB_iff st).2 hc)

/-- What was merged is a history, of each branch its next events; it ends where there is nothing to take, or it has as many as were asked for. -/
theorem mrg_ok (l : List (List α)) : ∀ (f : Nat) (had : List Nat), had.length = l.length → (∀ i, i < l.length → had.getD i 0 ≤ (l.getD i []).length) →
    brs st had (mrg st l f had).1 = some (mrg st l f had).2.1 ∧ (mrg st l f had).2.2 = after had (mrg st l f had).2.1 ∧ (mrg st l f had).2.1.length = (mrg st l f had).1.length ∧
    (∀ i, i < l.length → (mrg st l f had).2.2.getD i 0 ≤ (l.getD i []).length ∧ part i (mrg st l f had).1 (mrg st l f had).2.1 = ((l.getD i []).take ((mrg st l f had).2.2.getD i 0)).drop (had.getD i 0)) ∧
    ((mrg st l f had).1.length = f ∨ pick st l (mrg st l f had).2.2 = none)
  | 0, had, hl, hle => by
    refine ⟨rfl, rfl, rfl, fun i hi => ⟨hle i hi, ?_⟩, .inl rfl⟩
    show [] = ((l.getD i []).take (had.getD i 0)).drop (had.getD i 0)
    rw [List.drop_of_length_le (by rw [List.length_take]; omega)]
  | f + 1, had, hl, hle => by
    rw [mrg]
    cases hp : pick st l had with
    | none =>
      refine ⟨rfl, rfl, rfl, fun i hi => ⟨hle i hi, ?_⟩, .inr hp⟩
      show [] = ((l.getD i []).take (had.getD i 0)).drop (had.getD i 0)
      rw [List.drop_of_length_le (by rw [List.length_take]; omega)]
    | some b =>
      obtain ⟨hb, e, he, hn⟩ := pick_some st hp
      simp only [he]
      have hbl := (List.getElem?_eq_some_iff.1 he).1
      have hbh : b < had.length := by omega
      obtain ⟨q1, q2, q3, q4, q5⟩ := mrg_ok l f (bump had b) (by rw [bump_len]; exact hl) (fun i hi => by
        rw [bump_get _ _ _ hbh]
        have := hle i hi
        split
        · rename_i e; subst e; omega
        · omega)
      refine ⟨?_, q2, by simp [q3], fun i hi => ⟨(q4 i hi).1, ?_⟩, ?_⟩
      · rw [brs, own_some.2 hn]
        simp only [q1]
        rfl
      · rw [part, (q4 i hi).2, bump_get _ _ _ hbh]
        by_cases hbi : b = i
        · subst hbi
          rw [if_pos rfl, if_pos rfl]
          have hm : had.getD b 0 + 1 ≤ (mrg st l f (bump had b)).2.2.getD b 0 := by
            rw [q2, after_get _ _ (brs_lt st q1), bump_get _ _ _ hbh, if_pos rfl]
            omega
          rw [List.drop_eq_getElem_cons (i := had.getD b 0) (by rw [List.length_take]; omega)]
          congr 1
          rw [List.getElem_take]
          rw [List.getElem?_eq_getElem hbl] at he
          exact (Option.some.inj he).symm
        · rw [if_neg hbi, if_neg (fun e => hbi e.symm), Nat.add_zero]
      · rcases q5 with q5 | q5
        · exact .inl (by simp [q5])
        · exact .inr q5

/-- One more event counts for its branch. -/
theorem count_step (bs : List Nat) (k j : Nat) (hk : k < bs.length) : (bs.take (k + 1)).count j = (bs.take k).count j + if bs.getD k 0 = j then 1 else 0 := by
  have hg : bs.getD k 0 = bs[k] := by simp [hk]
  rw [List.take_succ_eq_append_getElem hk, List.count_append, List.count_cons, List.count_nil, hg]
  by_cases hj : bs[k] = j
  · simp [hj]
  · simp [hj]
/-- The least of numbers that there are. -/
theorem least {P : Nat → Prop} : ∀ (n : Nat), P n → ∃ k, P k ∧ ∀ j, j < k → ¬ P j := by
  intro n
  induction n using Nat.strongRecOn with
  | ind n ih =>
    intro hn
    rcases Classical.em (∃ m, m < n ∧ P m) with ⟨m, hm, hp⟩ | hno
    · exact ih m hm hp
    · exact ⟨n, hn, fun j hj hp => hno ⟨j, hj, hp⟩⟩

/-- Where a history's events are not all had, one can be taken. -/
theorem progress (l : List (List α)) (n : Nat) (hln : l.length = n) (h : List α) (bs : List Nat) (hb : brs st (List.replicate n 0) h = some bs) (m : Nat → Nat)
    (hm : ∀ i, i < n → part i h bs = (l.getD i []).take (m i) ∧ m i ≤ (l.getD i []).length) (had : List Nat) (hhl : had.length = n) (i0 : Nat) (hi0 : i0 < n) (hlt : had.getD i0 0 < m i0) :
    ∃ b, b < n ∧ can st l had b := by
  obtain ⟨h1, h2⟩ := (brs_iff st h _ bs).1 hb
  have hblt := brs_lt st hb
  rw [List.length_replicate] at hblt
  have hz : ∀ j, (List.replicate n 0).getD j 0 = 0 := fun j => by
    rw [List.getD_eq_getElem?_getD, List.getElem?_replicate]
    split <;> rfl
  -- the first event that is not had
  have hex : ∃ k, k < bs.length ∧ had.getD (bs.getD k 0) 0 ≤ (bs.take k).count (bs.getD k 0) := by
    apply Classical.byContradiction
    intro hno
    have hall : ∀ k, k ≤ bs.length → ∀ j, j < n → (bs.take k).count j ≤ had.getD j 0 := by
      intro k
      induction k with
      | zero => intro _ j _; simp
      | succ k ih =>
        intro hk j hj
        have hkl : k < bs.length := by omega
        rw [count_step bs k j hkl]
        have ihj := ih (by omega) j hj
        have hn2 : ¬ had.getD (bs.getD k 0) 0 ≤ (bs.take k).count (bs.getD k 0) := fun hc => hno ⟨k, hkl, hc⟩
        by_cases hj2 : bs.getD k 0 = j
        · rw [hj2] at hn2
          rw [if_pos hj2]
          omega
        · rw [if_neg hj2]
          omega
    have hlast := hall bs.length (Nat.le_refl _) i0 hi0
    rw [List.take_length, ← part_len i0 h bs h1, (hm i0 hi0).1, List.length_take] at hlast
    have := (hm i0 hi0).2
    omega
  obtain ⟨k, hk⟩ : ∃ k, (k < bs.length ∧ had.getD (bs.getD k 0) 0 ≤ (bs.take k).count (bs.getD k 0)) ∧ ∀ k', k' < k → ¬ (k' < bs.length ∧ had.getD (bs.getD k' 0) 0 ≤ (bs.take k').count (bs.getD k' 0)) := by
    obtain ⟨k0, hk0⟩ := hex
    exact least (P := fun k => k < bs.length ∧ had.getD (bs.getD k 0) 0 ≤ (bs.take k).count (bs.getD k 0)) k0 hk0
  obtain ⟨⟨hkl, hkc⟩, hmin⟩ := hk
  have hbk : bs[k]? = some (bs.getD k 0) := by rw [List.getElem?_eq_getElem hkl]; simp [hkl]
  have hhk : k < h.length := by omega
  have hek : h[k]? = some h[k] := List.getElem?_eq_getElem hhk
  obtain ⟨b, hbb⟩ : ∃ b, bs.getD k 0 = b := ⟨_, rfl⟩
  rw [hbb] at hbk hkc
  have hbn : b < n := hblt b (List.mem_of_getElem? hbk)
  -- what the events ahead count is had
  have hcnt : ∀ k', k' ≤ k → ∀ j, j < n → (bs.take k').count j ≤ had.getD j 0 := by
    intro k'
    induction k' with
    | zero => intro _ j _; simp
    | succ k' ih =>
      intro hk' j hj
      have hkl' : k' < bs.length := by omega
      rw [count_step bs k' j hkl']
      have ihj := ih (by omega) j hj
      have hn2 : ¬ had.getD (bs.getD k' 0) 0 ≤ (bs.take k').count (bs.getD k' 0) := fun hc => hmin k' (by omega) ⟨hkl', hc⟩
      by_cases hj2 : bs.getD k' 0 = j
      · rw [hj2] at hn2
        rw [if_pos hj2]
        omega
      · rw [if_neg hj2]
        omega
  have hcb := hcnt k (Nat.le_refl _) b hbn
  have heq : (bs.take k).count b = had.getD b 0 := by omega
  have hat := part_at b h bs h1 k h[k] hek hbk
  rw [heq, (hm b hbn).1, List.getElem?_take] at hat
  have hnx := h2 k h[k] b hek hbk
  refine ⟨b, hbn, h[k], ?_, ?_⟩
  · split at hat
    · exact hat
    · cases hat
  · have hlt' : ∀ x ∈ bs.take k, x < (List.replicate n 0).length := fun x hx => by rw [List.length_replicate]; exact hblt x (List.mem_of_mem_take hx)
    obtain ⟨n1, n2, n3, n4⟩ := hnx
    rw [after_len, List.length_replicate] at n1 n2 n4
    rw [after_get _ _ hlt', hz, Nat.zero_add] at n3
    refine ⟨by rw [n1, hhl], by rw [hhl]; exact hbn, by rw [n3, heq], fun j hj hne => ?_⟩
    rw [hhl] at hj
    have := n4 j hj hne
    rw [after_get _ _ hlt', hz, Nat.zero_add] at this
    have := hcnt k (Nat.le_refl _) j hj
    omega

/-- In a history no event's stamp is below, or the same as, that of one that stands ahead of it. -/
theorem causes (n : Nat) (h : List α) (bs : List Nat) (hb : brs st (List.replicate n 0) h = some bs) (k i : Nat) (hki : k < i) (x y : α) (hx : h[k]? = some x) (hy : h[i]? = some y) :
    ∃ j, j < n ∧ (st x).getD j 0 < (st y).getD j 0 ∧ (st x).length = n ∧ (st y).length = n := by
  obtain ⟨h1, h2⟩ := (brs_iff st h _ bs).1 hb
  have hblt := brs_lt st hb
  rw [List.length_replicate] at hblt
  have hil := (List.getElem?_eq_some_iff.1 hy).1
  have hbk : bs[k]? = some bs[k] := List.getElem?_eq_getElem (by omega)
  have hbi : bs[i]? = some bs[i] := List.getElem?_eq_getElem (by omega)
  have nk := h2 k x _ hx hbk
  have ni := h2 i y _ hy hbi
  have hz : ∀ j, (List.replicate n 0).getD j 0 = 0 := fun j => by
    rw [List.getD_eq_getElem?_getD, List.getElem?_replicate]
    split <;> rfl
  have hlt' : ∀ m, ∀ z ∈ bs.take m, z < (List.replicate n 0).length := fun m z hz => by rw [List.length_replicate]; exact hblt z (List.mem_of_mem_take hz)
  obtain ⟨a1, a2, a3, a4⟩ := nk
  obtain ⟨b1, b2, b3, b4⟩ := ni
  rw [after_len, List.length_replicate] at a1 a2 a4 b1 b2
  rw [after_get _ _ (hlt' k), hz, Nat.zero_add] at a3
  rw [after_get _ _ (hlt' i), hz, Nat.zero_add] at b3
  have hmono : (bs.take k).count bs[i] + (if bs[k] = bs[i] then 1 else 0) ≤ (bs.take i).count bs[i] := by
    have e : bs.take i = bs.take (k + 1) ++ (bs.take i).drop (k + 1) := by
      have := List.take_append_drop (k + 1) (bs.take i)
      rw [List.take_take, Nat.min_eq_left (by omega)] at this
      exact this.symm
    rw [e, List.count_append, List.take_succ_eq_append_getElem (by omega), List.count_append, List.count_cons, List.count_nil]
    by_cases hc : bs[k] = bs[i]
    · rw [if_pos hc]
      simp [hc]
    · rw [if_neg hc]
      omega
  refine ⟨bs[i], b2, ?_, a1, b1⟩
  by_cases hc : bs[k] = bs[i]
  · rw [if_pos hc] at hmono
    rw [hc] at a3
    omega
  · rw [if_neg hc] at hmono
    have := a4 bs[i] b2 (fun e => hc e.symm)
    rw [after_get _ _ (hlt' k), hz, Nat.zero_add] at this
    omega
end Go.Proofs.Ytamfpmpooaejkaa.Mg
