/- Texts of the seat, packed: Yf. -/
import Derived.Test.YtlegmmhacnbnlaaGreatDoorP43
/- The bodies of an item, and that they are no longer than the machine bears. -/
namespace Go.Proofs.YtlegmmhacnbnlaaGreatDoor

open Go.RowKit Go.Shelf Go.Proofs.YtlegmmhacnbnlaaGreatDoor.Sx

/-- So are all labels within. -/
def AllL (Q : Lab → Prop) : Tr → Prop
  | .e => True
  | .b x r => AllL Q x ∧ AllL Q r
  | .n l t r => Q l ∧ AllL Q t ∧ AllL Q r

theorem dep_le (t : Tr) : t.dep ≤ szA t := by
  induction t with
  | e => exact Nat.le_refl _
  | b x r h1 h2 => simp only [Tr.dep, szA]; omega
  | n l t r h1 h2 => simp only [Tr.dep, szA]; split <;> omega

theorem tw_le (t : Tr) : tw t ≤ szA t := by
  induction t with
  | e => exact Nat.le_refl _
  | b x r h1 h2 => simp only [tw, szA]; omega
  | n l t r h1 h2 => simp only [tw, szA]; split <;> omega

theorem cntA_le (t : Tr) : cntA t ≤ szA t := by
  induction t with
  | e => exact Nat.le_refl _
  | b x r h1 h2 => simp only [cntA, szA]; omega
  | n l t r h1 h2 => simp only [cntA, szA]; omega

theorem sz_le (t : Tr) : t.sz ≤ szA t := by
  induction t with
  | e => exact Nat.le_refl _
  | b x r h1 h2 => simp only [Tr.sz, szA]; omega
  | n l t r h1 h2 => simp only [Tr.sz, szA]; omega

theorem fltn_le (t : Tr) : ∀ d, (fltn d t).length ≤ szA t := by
  induction t with
  | e => intro d; exact Nat.le_refl _
  | b x r h1 h2 => intro d; have := h1 d; have := h2 d; simp only [fltn, szA, List.length_append]; omega
  | n l t r h1 h2 =>
    intro d
    have := h1 (d + 1)
    have := h2 d
    simp only [fltn, szA, List.length_append, List.length_cons]
    split <;> simp <;> omega

theorem xsT_lab {Q : Lab → Prop} (t : Tr) : ∀ inn alt last, AllL Q t → ∀ y ∈ xsT t inn alt last, Q y.lab := by
  induction t with
  | e => intro _ _ _ _ y hy; cases hy
  | b x r h1 h2 =>
    intro inn alt last h y hy
    rcases List.mem_append.1 hy with h9 | h9
    · exact h1 _ _ _ h.1 y h9
    · exact h2 _ _ _ h.2 y h9
  | n l t r h1 h2 =>
    intro inn alt last h y hy
    rcases List.mem_cons.1 hy with h9 | h9
    · rw [h9]; exact h.1
    · rcases List.mem_append.1 h9 with h9 | h9
      · exact h1 _ _ _ h.2.1 y h9
      · exact h2 _ _ _ h.2.2 y h9

theorem AllL_nodes {Q : Lab → Prop} : ∀ l : List (Lab × Tr), (∀ p ∈ l, Q p.1 ∧ AllL Q p.2) → AllL Q (nodesL l)
  | [], _ => trivial
  | p :: r, h => ⟨(h p (List.mem_cons_self ..)).1, (h p (List.mem_cons_self ..)).2, AllL_nodes r fun q hq => h q (List.mem_cons_of_mem _ hq)⟩

theorem AllL_bodies {Q : Lab → Prop} : ∀ l : List Tr, (∀ p ∈ l, AllL Q p) → AllL Q (bodiesL l)
  | [], _ => trivial
  | p :: r, h => ⟨h p (List.mem_cons_self ..), AllL_bodies r fun q hq => h q (List.mem_cons_of_mem _ hq)⟩

theorem kidsT_mem {its : List It} {rec : Nat → Tr} {i alt : Nat} : ∀ k p, p ∈ kidsT its rec i alt k → ∃ j x, its[j]? = some x ∧ p = (labI its x, rec j)
  | 0, p, h => by cases h
  | k + 1, p, h => by
    rw [kidsT] at h
    rcases List.mem_append.1 h with h9 | h9
    · exact kidsT_mem k p h9
    · split at h9
      · rename_i x hx
        split at h9
        · rw [List.mem_singleton] at h9
          exact ⟨k, x, hx, h9⟩
        · cases h9
      · cases h9

theorem AllL_bod {Q : Lab → Prop} {its : List It} (hQ : ∀ x ∈ its, Q (labI its x)) : ∀ f i, AllL Q (bodT its f i)
  | 0, _ => trivial
  | f + 1, i => by
    rw [bodT]
    apply AllL_bodies
    intro p hp
    obtain ⟨alt, _, rfl⟩ := List.mem_map.1 hp
    apply AllL_nodes
    intro q hq
    obtain ⟨j, x, hx, rfl⟩ := kidsT_mem _ q hq
    exact ⟨hQ x (List.mem_of_getElem? hx), AllL_bod hQ f j⟩

/-- What hangs. -/
theorem hangF_at {n : Nat} : ∀ (l : List It) (i : Nat), hangF n i l = true → ∀ (j : Nat) (x : It), l[j]? = some x → hangI n (i + j) x = true
  | [], _, _, j, x, h => by simp at h
  | y :: r, i, h, j, x, hx => by
    simp only [hangF, Bool.and_eq_true] at h
    cases j with
    | zero => simp at hx; rw [← hx]; exact h.1
    | succ j =>
      have := hangF_at r (i + 1) h.2 j x (by simpa using hx)
      rwa [show i + 1 + j = i + (j + 1) by omega] at this

theorem hangs_at {its : List It} (h : hangs its = true) : 0 < its.length ∧ its.length ≤ 64 ∧ ∀ (j : Nat) (x : It), its[j]? = some x → x.inn < (j : Int) ∧ 0 ≤ x.alts ∧ x.alts ≤ 4 ∧ x.after.length < 16 ∧ ∀ on ∈ x.after, 0 ≤ on ∧ on < (its.length : Int) := by
  simp only [hangs, Bool.and_eq_true, decide_eq_true_eq] at h
  refine ⟨h.1, h.2.1, fun j x hx => ?_⟩
  have h9 := hangF_at its 0 h.2.2 j x hx
  rw [Nat.zero_add] at h9
  simp only [hangI, Bool.and_eq_true, decide_eq_true_eq, List.all_eq_true] at h9
  exact ⟨h9.1, h9.2.1, h9.2.2.1, h9.2.2.2.1, h9.2.2.2.2⟩

/-- bodiesOf, for every item. -/
theorem bodies_rec {its : List It} (h : hangs its = true) (v : Value) : ∀ (f i : Nat), its.length < i + f → i < its.length → ∀ w, RdIt w v its → Calls Tryz.prog 80 #[v, .int .i64 (i : Int)] w fun e w' => BodC (bodT its f i) w e w'
  | 0, i, h1, h2, _, _ => by omega
  | f + 1, i, h1, h2, w, hIt => by
    obtain ⟨_, h64, hat⟩ := hangs_at h
    obtain ⟨x, hx⟩ : ∃ x, its[i]? = some x := ⟨_, List.getElem?_eq_getElem h2⟩
    obtain ⟨_, ha0, ha4, _, _⟩ := hat i x hx
    have hai : altsI its i = x.alts.toNat := by unfold altsI; rw [hx]
    have hB := bodiesOf_any its v w i x.alts.toNat x hx hIt (by omega) (by omega) (by omega) (bodT its f) (fun k y hy hin w1 hIt1 => by
      obtain ⟨hi, _, _, hl, haf⟩ := hat k y hy
      exact nodeOf_any its v w1 k y hy hIt1 haf (by omega) (bodT its f k) (fun w2 hIt2 => bodies_rec h v f k (by omega) (List.getElem?_eq_some_iff.1 hy).1 w2 hIt2))
    rw [bodT, hai]
    exact hB

theorem AllL_afs (t : Tr) (h : AllL (fun l => l.after.length ≤ 1100000) t) : t.afs := by
  induction t with
  | e => trivial
  | b x r h1 h2 => exact ⟨h1 h.1, h2 h.2⟩
  | n l t r h1 h2 => exact ⟨by have := h.1; omega, h1 h.2.1, h2 h.2.2⟩

theorem AllL_mono {Q Q' : Lab → Prop} (hq : ∀ l, Q l → Q' l) (t : Tr) (h : AllL Q t) : AllL Q' t := by
  induction t with
  | e => trivial
  | b x r h1 h2 => exact ⟨h1 h.1, h2 h.2⟩
  | n l t r h1 h2 => exact ⟨hq l h.1, h1 h.2.1, h2 h.2.2⟩

/-- Small trees are borne. -/
theorem Fair.of {t : Tr} (hs : szA t ≤ 100000) (hl : AllL (fun l => l.name.length ≤ 1100000 ∧ l.after.length ≤ 1100000 ∧ ∀ z ∈ l.after, z.length ≤ 1100000) t) : Fair t := by
  have h1 := dep_le t
  have h2 := tw_le t
  have h3 := cntA_le t
  have h4 := sz_le t
  have h5 := fltn_le t 1
  exact ⟨⟨by omega, by omega, ⟨by omega, AllL_afs t (AllL_mono (fun l h => h.2.1) t hl)⟩, by omega⟩, by omega, by omega, xsT_lab t 0 0 0 hl⟩

/-- The bodies of what hangs are borne. -/
theorem hang_fair {its : List It} (h : hangs its = true) (hnm : ∀ x ∈ its, x.name.length ≤ 1100000) : Fair (bodT its (its.length + 1) 0) := by
  obtain ⟨h0, h64, hat⟩ := hangs_at h
  have hsz := bod_size (its := its) (fun i x hx => (hat i x hx).1) (fun i => by
    unfold altsI
    cases hx : its[i]? with
    | none => simp
    | some x => have := (hat i x hx).2.2.1; simp only; omega) 0 h0
  refine Fair.of (by omega) (AllL_bod (fun x hx => ?_) _ _)
  obtain ⟨j, hj, rfl⟩ := List.mem_iff_getElem.1 hx
  obtain ⟨_, _, _, hl, _⟩ := hat j its[j] (List.getElem?_eq_getElem hj)
  refine ⟨hnm _ hx, by simp only [labI, List.length_map]; omega, ?_⟩
  intro z hz
  simp only [labI, List.mem_map] at hz
  obtain ⟨on, _, rfl⟩ := hz
  unfold nameI
  cases hy : its[on.toNat]? with
  | none => simp
  | some y => exact hnm y (List.mem_of_getElem? hy)

end Go.Proofs.YtlegmmhacnbnlaaGreatDoor

