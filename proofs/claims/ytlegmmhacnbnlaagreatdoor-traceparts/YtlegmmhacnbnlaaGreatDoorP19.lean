/- Texts of the seat, packed: JTqc. -/
import Derived.Test.YtlegmmhacnbnlaaGreatDoorP17
/- The plain side of layer 20: what the program's loops know, from behind. It names no number of a program. -/
namespace Go.Proofs.YtlegmmhacnbnlaaGreatDoor.J.Tz
set_option linter.unusedVariables false

def never : Int := 9223372036854775807
/-- The places of the keys from a place on. -/
def metF (l : List Ef) (a : Nat) (k : Int × Bool × Int) : Option Int := (findE k (l.drop a)).map fun j => ((a + j : Nat) : Int)
/-- The next place of a place's key. -/
def nxtV (l : List Ef) (a : Nat) : Int := (metF l (a + 1) (l.getD a default).key).getD never

theorem findE_cons (k : Int × Bool × Int) (e : Ef) (l : List Ef) : findE k (e :: l) = if k = e.key then some 0 else (findE k l).map (· + 1) := by
  unfold findE
  rw [List.findIdx?_cons]
  by_cases h : k = e.key
  · subst h
    simp
  · rw [if_neg h, if_neg (by simpa using fun h9 => h h9.symm)]
theorem drop_getD {l : List Ef} {a : Nat} (h : a < l.length) : l.drop a = l.getD a default :: l.drop (a + 1) := by
  rw [List.drop_eq_getElem_cons h]
  simp [h]
theorem metF_step {l : List Ef} {a : Nat} (h : a < l.length) : metF l a = fun x => if x = (l.getD a default).key then some (a : Int) else metF l (a + 1) x := by
  funext x
  unfold metF
  rw [drop_getD h, findE_cons]
  by_cases e : x = (l.getD a default).key
  · rw [if_pos e, if_pos e]
    rfl
  · rw [if_neg e, if_neg e]
    cases findE x (l.drop (a + 1)) with
    | none => rfl
    | some j =>
      simp
      omega
theorem metF_end {l : List Ef} {a : Nat} (h : l.length ≤ a) : metF l a = fun _ => none := by
  funext x
  unfold metF
  rw [List.drop_eq_nil_of_le h]
  rfl
theorem metF_range {l : List Ef} {a : Nat} {k : Int × Bool × Int} {v : Int} (h : metF l a k = some v) : (a : Int) ≤ v ∧ v < l.length ∧ (l.getD v.toNat default).key = k := by
  unfold metF at h
  cases hf : findE k (l.drop a) with
  | none => rw [hf] at h; cases h
  | some j =>
    rw [hf] at h
    simp at h
    obtain ⟨h1, h2, _⟩ := find_at hf
    rw [List.length_drop] at h1
    have e : v.toNat = a + j := by omega
    refine ⟨by omega, by omega, ?_⟩
    rw [e, ← h2]
    simp [List.getD]
theorem nxt_cases {l : List Ef} {a : Nat} (hl : l.length ≤ 1000000) : (nxtV l a = never ∧ (l.getD a default).key ∉ keys (l.drop (a + 1))) ∨ ∃ b : Nat, nxtV l a = (b : Int) ∧ a < b ∧ b < l.length ∧ (l.getD b default).key = (l.getD a default).key ∧ (l.getD a default).key ∈ keys (l.drop (a + 1)) := by
  unfold nxtV
  cases hm : metF l (a + 1) (l.getD a default).key with
  | none =>
    refine .inl ⟨rfl, fun hk => ?_⟩
    unfold metF at hm
    cases hf : findE (l.getD a default).key (l.drop (a + 1)) with
    | none => exact find_mem.2 hk hf
    | some j => rw [hf] at hm; cases hm
  | some v =>
    obtain ⟨h1, h2, h3⟩ := metF_range hm
    refine .inr ⟨v.toNat, by simp; omega, by omega, by omega, h3, ?_⟩
    apply find_mem.1
    intro hf
    unfold metF at hm
    rw [hf] at hm
    cases hm

/-- What Check finds, from behind. -/
def okFrom (l : List Ef) (a : Nat) : Prop := ∀ i, a ≤ i → i < l.length → ∀ b : Nat, nxtV l i = (b : Int) → b < l.length → (l.getD b default).ok = (l.getD i default).ok
theorem okFrom_same {l : List Ef} (hl : l.length ≤ 1000000) {a : Nat} (h : okFrom l a) : ∀ i, a ≤ i → i < l.length → ∀ j, i ≤ j → j < l.length → (l.getD j default).key = (l.getD i default).key → (l.getD j default).ok = (l.getD i default).ok := by
  intro i hai hi
  obtain ⟨m, hm⟩ : ∃ m, l.length - i = m := ⟨_, rfl⟩
  induction m using Nat.strongRecOn generalizing i with
  | ind m ih =>
    intro j hij hj hk
    by_cases he : i = j
    · rw [he]
    rcases nxt_cases (a := i) hl with ⟨_, h2⟩ | ⟨b, h1, h2, h3, h4, h5⟩
    · refine absurd ?_ h2
      rw [← hk, mem_keys]
      refine ⟨l.getD j default, ?_, rfl⟩
      rw [List.mem_iff_getElem?]
      refine ⟨j - (i + 1), ?_⟩
      rw [List.getElem?_drop, show i + 1 + (j - (i + 1)) = j by omega]
      simp [List.getD, hj]
    · have hbj : b ≤ j := by
        apply Classical.byContradiction
        intro h9
        have hm2 : metF l (i + 1) (l.getD i default).key = some (b : Int) := by
          unfold nxtV at h1
          cases hq : metF l (i + 1) (l.getD i default).key with
          | none => rw [hq] at h1; simp [never] at h1; omega
          | some v => rw [hq] at h1; simp at h1; rw [h1]
        unfold metF at hm2
        cases hf : findE (l.getD i default).key (l.drop (i + 1)) with
        | none => rw [hf] at hm2; cases hm2
        | some q =>
          rw [hf] at hm2
          simp at hm2
          obtain ⟨_, _, hno⟩ := find_at hf
          refine hno (j - (i + 1)) (by omega) ?_
          rw [← hk]
          simp [List.getD, show i + 1 + (j - (i + 1)) = j by omega]
      have e1 := h i hai hi b h1 h3
      have e2 := ih (l.length - b) (by omega) b (by omega) h3 rfl j hbj hj (by rw [hk, h4])
      rw [e2, e1]
theorem okFrom_check {l : List Ef} (hl : l.length ≤ 1000000) (h : okFrom l 0) : checkE l := by
  intro a ha b hb hk
  obtain ⟨i, hi, rfl⟩ := List.mem_iff_getElem.1 ha
  obtain ⟨j, hj, rfl⟩ := List.mem_iff_getElem.1 hb
  have ei : l.getD i default = l[i] := by simp [hi]
  have ej : l.getD j default = l[j] := by simp [hj]
  rcases Nat.le_total i j with hij | hij
  · have := okFrom_same hl h i (Nat.zero_le _) hi j hij hj (by rw [ei, ej]; exact hk.symm)
    rw [ei, ej] at this
    exact this.symm
  · have := okFrom_same hl h j (Nat.zero_le _) hj i hij hi (by rw [ei, ej]; exact hk)
    rw [ei, ej] at this
    exact this
theorem okFrom_step {l : List Ef} {a : Nat} (h : okFrom l (a + 1)) (h1 : ∀ b : Nat, nxtV l a = (b : Int) → b < l.length → (l.getD b default).ok = (l.getD a default).ok) : okFrom l a := by
  intro i hai hi b hb hbl
  by_cases e : i = a
  · subst e
    exact h1 b hb hbl
  · exact h i (by omega) hi b hb hbl
theorem okFrom_end {l : List Ef} {a : Nat} (h : l.length ≤ a) : okFrom l a := fun i hi hl => by omega
theorem not_check {l : List Ef} {a b : Nat} (ha : a < l.length) (hb : b < l.length) (hk : (l.getD b default).key = (l.getD a default).key) (hu : (l.getD b default).ok ≠ (l.getD a default).ok) : ¬ checkE l := by
  intro hc
  have ea : l.getD a default = l[a] := by simp [ha]
  have eb : l.getD b default = l[b] := by simp [hb]
  rw [ea, eb] at hk hu
  exact hu (hc _ (List.getElem_mem hb) _ (List.getElem_mem ha) hk)

/-- How many keys have themselves behind them. -/
def cntB : List Ef → Nat
  | [] => 0
  | e :: l => (if e.key ∈ keys l then 1 else 0) + cntB l
theorem cntB_len : ∀ l : List Ef, cntB l + (lastL l).length = l.length
  | [] => rfl
  | e :: l => by
    have ih := cntB_len l
    unfold cntB lastL
    split
    · simp; omega
    · simp; omega
theorem cntB_agn (l : List Ef) : cntB l = agn [] l := by
  have h1 := cntB_len l
  have h2 := last_again l
  omega
theorem cntB_step {l : List Ef} {a : Nat} (h : a < l.length) : cntB (l.drop a) = (if (l.getD a default).key ∈ keys (l.drop (a + 1)) then 1 else 0) + cntB (l.drop (a + 1)) := by
  rw [drop_getD h]
  rfl
theorem cntB_le (l : List Ef) : cntB l ≤ l.length := by have := cntB_len l; omega

/-- What was done first, well first, and last. -/
structure Sp where
  first : Int
  well : Int
  last : Int
deriving DecidableEq, Inhabited
def ddL (a : Nat) : List Ef → Int × Bool × Int → Option Sp
  | [], _ => none
  | e :: l, k => if k = (e.i, e.u, 0) then
      match ddL (a + 1) l k with
      | some s => some ⟨a, if e.ok then a else s.well, s.last⟩
      | none => some ⟨a, if e.ok then a else never, a⟩
    else ddL (a + 1) l k
/-- .. from a place on. -/
def dd (l : List Ef) (a : Nat) : Int × Bool × Int → Option Sp := ddL a (l.drop a)
theorem dd_end {l : List Ef} {a : Nat} (h : l.length ≤ a) : dd l a = fun _ => none := by
  funext k
  unfold dd
  rw [List.drop_eq_nil_of_le h]
  rfl
/-- One effect more. -/
def spOf (a : Nat) (e : Ef) (o : Option Sp) : Sp :=
  match o with
  | some s => ⟨a, if e.ok then a else s.well, s.last⟩
  | none => ⟨a, if e.ok then a else never, a⟩
theorem dd_step {l : List Ef} {a : Nat} (h : a < l.length) : dd l a = fun x => if x = ((l.getD a default).i, (l.getD a default).u, 0) then some (spOf a (l.getD a default) (dd l (a + 1) ((l.getD a default).i, (l.getD a default).u, 0))) else dd l (a + 1) x := by
  funext x
  unfold dd
  rw [drop_getD h]
  show (if x = _ then _ else _) = _
  by_cases e : x = ((l.getD a default).i, (l.getD a default).u, 0)
  · rw [if_pos e, if_pos e, e]
    unfold spOf
    cases ddL (a + 1) (l.drop (a + 1)) ((l.getD a default).i, (l.getD a default).u, 0) <;> rfl
  · rw [if_neg e, if_neg e]
/-- Between a place and the end. -/
theorem ddL_some {k : Int × Bool × Int} {s : Sp} : ∀ {l : List Ef} {a : Nat}, ddL a l k = some s → k.2.2 = 0 ∧ (∃ (f m : Nat) (x y : Ef), s.first = ((a + f : Nat) : Int) ∧ l[f]? = some x ∧ x.i = k.1 ∧ x.u = k.2.1 ∧ (∀ (j : Nat) z, j < f → l[j]? = some z → ¬ (z.i = k.1 ∧ z.u = k.2.1)) ∧ s.last = ((a + m : Nat) : Int) ∧ l[m]? = some y ∧ y.i = k.1 ∧ y.u = k.2.1 ∧ ∀ (j : Nat) z, m < j → l[j]? = some z → ¬ (z.i = k.1 ∧ z.u = k.2.1)) ∧
    ((s.well = never ∧ ∀ (j : Nat) z, l[j]? = some z → ¬ (z.i = k.1 ∧ z.u = k.2.1 ∧ z.ok = true)) ∨ ∃ (g : Nat) (z : Ef), s.well = ((a + g : Nat) : Int) ∧ l[g]? = some z ∧ z.i = k.1 ∧ z.u = k.2.1 ∧ z.ok = true ∧ ∀ (j : Nat) y, j < g → l[j]? = some y → ¬ (y.i = k.1 ∧ y.u = k.2.1 ∧ y.ok = true))
  | [], a, h => by cases h
  | e :: l, a, h => by
    unfold ddL at h
    by_cases he : k = (e.i, e.u, 0)
    · rw [if_pos he] at h
      have hk : e.i = k.1 ∧ e.u = k.2.1 := by rw [he]; exact ⟨rfl, rfl⟩
      refine ⟨by rw [he], ?_⟩
      cases hd : ddL (a + 1) l k with
      | none =>
        rw [hd] at h
        cases h
        have hno := ddL_none hd (by rw [he])
        refine ⟨⟨0, 0, e, e, rfl, rfl, hk.1, hk.2, fun j z hj => by omega, rfl, rfl, hk.1, hk.2, fun j z hj hz => ?_⟩, ?_⟩
        · obtain ⟨j, rfl⟩ : ∃ i, j = i + 1 := ⟨j - 1, by omega⟩
          exact hno j z (by simpa using hz)
        · by_cases ho : e.ok = true
          · simp only [ho, if_true]
            exact .inr ⟨0, e, rfl, rfl, hk.1, hk.2, ho, fun j y hj => by omega⟩
          · simp only [ho, if_false, Bool.false_eq_true]
            refine .inl ⟨trivial, fun j z hz hh => ?_⟩
            cases j with
            | zero => simp at hz; subst hz; exact ho hh.2.2
            | succ j => exact hno j z (by simpa using hz) ⟨hh.1, hh.2.1⟩
      | some s' =>
        rw [hd] at h
        cases h
        obtain ⟨_, ⟨f, m, x, y, q1, q2, q3, q4, q5, q6, q7, q8, q9, q10⟩, hw⟩ := ddL_some hd
        refine ⟨⟨0, m + 1, e, y, rfl, rfl, hk.1, hk.2, fun j z hj => by omega, by rw [q6]; omega, by simpa using q7, q8, q9, fun j z hj hz => ?_⟩, ?_⟩
        · obtain ⟨j, rfl⟩ : ∃ i, j = i + 1 := ⟨j - 1, by omega⟩
          exact q10 j z (by omega) (by simpa using hz)
        · by_cases ho : e.ok = true
          · simp only [ho, if_true]
            exact .inr ⟨0, e, rfl, rfl, hk.1, hk.2, ho, fun j y hj => by omega⟩
          · simp only [ho, if_false, Bool.false_eq_true]
            rcases hw with ⟨w1, w2⟩ | ⟨g, z, w1, w2, w3, w4, w5, w6⟩
            · refine .inl ⟨w1, fun j z hz hh => ?_⟩
              cases j with
              | zero => simp at hz; subst hz; exact ho hh.2.2
              | succ j => exact w2 j z (by simpa using hz) hh
            · refine .inr ⟨g + 1, z, by rw [w1]; omega, by simpa using w2, w3, w4, w5, fun j y hj hy hh => ?_⟩
              cases j with
              | zero => simp at hy; subst hy; exact ho hh.2.2
              | succ j => exact w6 j y (by omega) (by simpa using hy) hh
    · rw [if_neg he] at h
      obtain ⟨h0, ⟨f, m, x, y, q1, q2, q3, q4, q5, q6, q7, q8, q9, q10⟩, hw⟩ := ddL_some h
      have hek : ¬ (e.i = k.1 ∧ e.u = k.2.1) := fun hh => he (by obtain ⟨k1, k2, k3⟩ := k; simp at hh h0; rw [hh.1, hh.2, h0])
      refine ⟨h0, ⟨f + 1, m + 1, x, y, by rw [q1]; omega, by simpa using q2, q3, q4, fun j z hj hz => ?_, by rw [q6]; omega, by simpa using q7, q8, q9, fun j z hj hz => ?_⟩, ?_⟩
      · cases j with
        | zero => simp at hz; subst hz; exact hek
        | succ j => exact q5 j z (by omega) (by simpa using hz)
      · obtain ⟨j, rfl⟩ : ∃ i, j = i + 1 := ⟨j - 1, by omega⟩
        exact q10 j z (by omega) (by simpa using hz)
      · rcases hw with ⟨w1, w2⟩ | ⟨g, z, w1, w2, w3, w4, w5, w6⟩
        · refine .inl ⟨w1, fun j z hz hh => ?_⟩
          cases j with
          | zero => simp at hz; subst hz; exact hek ⟨hh.1, hh.2.1⟩
          | succ j => exact w2 j z (by simpa using hz) hh
        · refine .inr ⟨g + 1, z, by rw [w1]; omega, by simpa using w2, w3, w4, w5, fun j y hj hy hh => ?_⟩
          cases j with
          | zero => simp at hy; subst hy; exact hek ⟨hh.1, hh.2.1⟩
          | succ j => exact w6 j y (by omega) (by simpa using hy) hh
where
  ddL_none {k : Int × Bool × Int} : ∀ {l : List Ef} {a : Nat}, ddL a l k = none → k.2.2 = 0 → ∀ (j : Nat) z, l[j]? = some z → ¬ (z.i = k.1 ∧ z.u = k.2.1)
  | [], a, _, _, j, z, hz => by simp at hz
  | e :: l, a, h, h0, j, z, hz => by
    unfold ddL at h
    by_cases he : k = (e.i, e.u, 0)
    · rw [if_pos he] at h
      cases hd : ddL (a + 1) l k <;> rw [hd] at h <;> cases h
    · rw [if_neg he] at h
      cases j with
      | zero =>
        simp at hz
        subst hz
        exact fun hh => he (by obtain ⟨k1, k2, k3⟩ := k; simp at hh h0; rw [hh.1, hh.2, h0])
      | succ j => exact ddL_none h h0 j z (by simpa using hz)
end Go.Proofs.YtlegmmhacnbnlaaGreatDoor.J.Tz

