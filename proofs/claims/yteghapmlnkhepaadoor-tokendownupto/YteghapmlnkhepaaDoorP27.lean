/- Texts of the seat, packed: Yf Yg. -/
import Derived.Test.YteghapmlnkhepaaDoorP26
/- The bodies of an item, and that they are no longer than the machine bears. -/
namespace Go.Proofs.YteghapmlnkhepaaDoor

open Go.RowKit Go.Shelf Go.Proofs.YteghapmlnkhepaaDoor.Sx

/-- So are all labels within. -/
def AllL (Q : Lab → Prop) : Tr → Prop
  | .e => True
  | .b x r => AllL Q x ∧ AllL Q r
  | .n l t r => Q l ∧ AllL Q t ∧ AllL Q r

theorem dep_le (t : Tr) : t.dep ≤ szA t := by
  induction t with
  | e => exact Nat.le_refl _
  | b x r h1 h2 => simp only [Tr.dep, szA]; omega
  | n l t r h1 h2 => simp only [Tr.dep, szA]; split <;> omega

theorem tw_le (t : Tr) : tw t ≤ szA t := by
  induction t with
  | e => exact Nat.le_refl _
  | b x r h1 h2 => simp only [tw, szA]; omega
  | n l t r h1 h2 => simp only [tw, szA]; split <;> omega

theorem cntA_le (t : Tr) : cntA t ≤ szA t := by
  induction t with
  | e => exact Nat.le_refl _
  | b x r h1 h2 => simp only [cntA, szA]; omega
  | n l t r h1 h2 => simp only [cntA, szA]; omega

theorem sz_le (t : Tr) : t.sz ≤ szA t := by
  induction t with
  | e => exact Nat.le_refl _
  | b x r h1 h2 => simp only [Tr.sz, szA]; omega
  | n l t r h1 h2 => simp only [Tr.sz, szA]; omega

theorem fltn_le (t : Tr) : ∀ d, (fltn d t).length ≤ szA t := by
  induction t with
  | e => intro d; exact Nat.le_refl _
  | b x r h1 h2 => intro d; have := h1 d; have := h2 d; simp only [fltn, szA, List.length_append]; omega
  | n l t r h1 h2 =>
    intro d
    have := h1 (d + 1)
    have := h2 d
    simp only [fltn, szA, List.length_append, List.length_cons]
    split <;> simp <;> omega

theorem xsT_lab {Q : Lab → Prop} (t : Tr) : ∀ inn alt last, AllL Q t → ∀ y ∈ xsT t inn alt last, Q y.lab := by
  induction t with
  | e => intro _ _ _ _ y hy; cases hy
  | b x r h1 h2 =>
    intro inn alt last h y hy
    rcases List.mem_append.1 hy with h9 | h9
    · exact h1 _ _ _ h.1 y h9
    · exact h2 _ _ _ h.2 y h9
  | n l t r h1 h2 =>
    intro inn alt last h y hy
    rcases List.mem_cons.1 hy with h9 | h9
    · rw [h9]; exact h.1
    · rcases List.mem_append.1 h9 with h9 | h9
      · exact h1 _ _ _ h.2.1 y h9
      · exact h2 _ _ _ h.2.2 y h9

theorem AllL_nodes {Q : Lab → Prop} : ∀ l : List (Lab × Tr), (∀ p ∈ l, Q p.1 ∧ AllL Q p.2) → AllL Q (nodesL l)
  | [], _ => trivial
  | p :: r, h => ⟨(h p (List.mem_cons_self ..)).1, (h p (List.mem_cons_self ..)).2, AllL_nodes r fun q hq => h q (List.mem_cons_of_mem _ hq)⟩

theorem AllL_bodies {Q : Lab → Prop} : ∀ l : List Tr, (∀ p ∈ l, AllL Q p) → AllL Q (bodiesL l)
  | [], _ => trivial
  | p :: r, h => ⟨h p (List.mem_cons_self ..), AllL_bodies r fun q hq => h q (List.mem_cons_of_mem _ hq)⟩

theorem kidsT_mem {its : List It} {rec : Nat → Tr} {i alt : Nat} : ∀ k p, p ∈ kidsT its rec i alt k → ∃ j x, its[j]? = some x ∧ p = (labI its x, rec j)
  | 0, p, h => by cases h
  | k + 1, p, h => by
    rw [kidsT] at h
    rcases List.mem_append.1 h with h9 | h9
    · exact kidsT_mem k p h9
    · split at h9
      · rename_i x hx
        split at h9
        · rw [List.mem_singleton] at h9
          exact ⟨k, x, hx, h9⟩
        · cases h9
      · cases h9

theorem AllL_bod {Q : Lab → Prop} {its : List It} (hQ : ∀ x ∈ its, Q (labI its x)) : ∀ f i, AllL Q (bodT its f i)
  | 0, _ => trivial
  | f + 1, i => by
    rw [bodT]
    apply AllL_bodies
    intro p hp
    obtain ⟨alt, _, rfl⟩ := List.mem_map.1 hp
    apply AllL_nodes
    intro q hq
    obtain ⟨j, x, hx, rfl⟩ := kidsT_mem _ q hq
    exact ⟨hQ x (List.mem_of_getElem? hx), AllL_bod hQ f j⟩

/-- What hangs. -/
theorem hangF_at {n : Nat} : ∀ (l : List It) (i : Nat), hangF n i l = true → ∀ (j : Nat) (x : It), l[j]? = some x → hangI n (i + j) x = true
  | [], _, _, j, x, h => by simp at h
  | y :: r, i, h, j, x, hx => by
    simp only [hangF, Bool.and_eq_true] at h
    cases j with
    | zero => simp at hx; rw [← hx]; exact h.1
    | succ j =>
      have := hangF_at r (i + 1) h.2 j x (by simpa using hx)
      rwa [show i + 1 + j = i + (j + 1) by omega] at this

theorem hangs_at {its : List It} (h : hangs its = true) : 0 < its.length ∧ its.length ≤ 64 ∧ ∀ (j : Nat) (x : It), its[j]? = some x → x.inn < (j : Int) ∧ 0 ≤ x.alts ∧ x.alts ≤ 4 ∧ x.after.length < 16 ∧ ∀ on ∈ x.after, 0 ≤ on ∧ on < (its.length : Int) := by
  simp only [hangs, Bool.and_eq_true, decide_eq_true_eq] at h
  refine ⟨h.1, h.2.1, fun j x hx => ?_⟩
  have h9 := hangF_at its 0 h.2.2 j x hx
  rw [Nat.zero_add] at h9
  simp only [hangI, Bool.and_eq_true, decide_eq_true_eq, List.all_eq_true] at h9
  exact ⟨h9.1, h9.2.1, h9.2.2.1, h9.2.2.2.1, h9.2.2.2.2⟩

/-- bodiesOf, for every item. -/
theorem bodies_rec {its : List It} (h : hangs its = true) (v : Value) : ∀ (f i : Nat), its.length < i + f → i < its.length → ∀ w, RdIt w v its → Calls Tryd.prog 75 #[v, .int .i64 (i : Int)] w fun e w' => BodC (bodT its f i) w e w'
  | 0, i, h1, h2, _, _ => by omega
  | f + 1, i, h1, h2, w, hIt => by
    obtain ⟨_, h64, hat⟩ := hangs_at h
    obtain ⟨x, hx⟩ : ∃ x, its[i]? = some x := ⟨_, List.getElem?_eq_getElem h2⟩
    obtain ⟨_, ha0, ha4, _, _⟩ := hat i x hx
    have hai : altsI its i = x.alts.toNat := by unfold altsI; rw [hx]
    have hB := bodiesOf_any its v w i x.alts.toNat x hx hIt (by omega) (by omega) (by omega) (bodT its f) (fun k y hy hin w1 hIt1 => by
      obtain ⟨hi, _, _, hl, haf⟩ := hat k y hy
      exact nodeOf_any its v w1 k y hy hIt1 haf (by omega) (bodT its f k) (fun w2 hIt2 => bodies_rec h v f k (by omega) (List.getElem?_eq_some_iff.1 hy).1 w2 hIt2))
    rw [bodT, hai]
    exact hB

theorem AllL_afs (t : Tr) (h : AllL (fun l => l.after.length ≤ 1100000) t) : t.afs := by
  induction t with
  | e => trivial
  | b x r h1 h2 => exact ⟨h1 h.1, h2 h.2⟩
  | n l t r h1 h2 => exact ⟨by have := h.1; omega, h1 h.2.1, h2 h.2.2⟩

theorem AllL_mono {Q Q' : Lab → Prop} (hq : ∀ l, Q l → Q' l) (t : Tr) (h : AllL Q t) : AllL Q' t := by
  induction t with
  | e => trivial
  | b x r h1 h2 => exact ⟨h1 h.1, h2 h.2⟩
  | n l t r h1 h2 => exact ⟨hq l h.1, h1 h.2.1, h2 h.2.2⟩

/-- Small trees are borne. -/
theorem Fair.of {t : Tr} (hs : szA t ≤ 100000) (hl : AllL (fun l => l.name.length ≤ 1100000 ∧ l.after.length ≤ 1100000 ∧ ∀ z ∈ l.after, z.length ≤ 1100000) t) : Fair t := by
  have h1 := dep_le t
  have h2 := tw_le t
  have h3 := cntA_le t
  have h4 := sz_le t
  have h5 := fltn_le t 1
  exact ⟨⟨by omega, by omega, ⟨by omega, AllL_afs t (AllL_mono (fun l h => h.2.1) t hl)⟩, by omega⟩, by omega, by omega, xsT_lab t 0 0 0 hl⟩

/-- The bodies of what hangs are borne. -/
theorem hang_fair {its : List It} (h : hangs its = true) (hnm : ∀ x ∈ its, x.name.length ≤ 1100000) : Fair (bodT its (its.length + 1) 0) := by
  obtain ⟨h0, h64, hat⟩ := hangs_at h
  have hsz := bod_size (its := its) (fun i x hx => (hat i x hx).1) (fun i => by
    unfold altsI
    cases hx : its[i]? with
    | none => simp
    | some x => have := (hat i x hx).2.2.1; simp only; omega) 0 h0
  refine Fair.of (by omega) (AllL_bod (fun x hx => ?_) _ _)
  obtain ⟨j, hj, rfl⟩ := List.mem_iff_getElem.1 hx
  obtain ⟨_, _, _, hl, _⟩ := hat j its[j] (List.getElem?_eq_getElem hj)
  refine ⟨hnm _ hx, by simp only [labI, List.length_map]; omega, ?_⟩
  intro z hz
  simp only [labI, List.mem_map] at hz
  obtain ⟨on, _, rfl⟩ := hz
  unfold nameI
  cases hy : its[on.toNat]? with
  | none => simp
  | some y => exact hnm y (List.mem_of_getElem? hy)

end Go.Proofs.YteghapmlnkhepaaDoor

/- The program's sagaOf. -/
namespace Go.Proofs.YteghapmlnkhepaaDoor

open Go.RowKit Go.Shelf Go.Proofs.YteghapmlnkhepaaDoor.Sx

/-- The bodies that items tell of. -/
def bodS (its : List It) : Tr := bodT its (its.length + 1) 0

open Classical in
/-- The saga of items, or none. -/
noncomputable def sagaP (its : List It) : Option (By × Tr) := if hangs its = true ∧ planT (nameI its 0) (bodS its) = some its then some (nameI its 0, bodS its) else none

/-- How sagaOf ends. -/
def SagaC (its : List It) (w : World) (e : Ending) (w' : World) : Prop := Below w.heap.size w w' ∧ match sagaP its with
  | none => e = .panicked (rej 2)
  | some (x, t) => ∃ a c, e = .returned (.agg #[.string ⟨x.toArray⟩, .slice a t.len c]) ∧ TAt (Since w w') w' true t a 0 t.len

theorem SagaC.bad {its : List It} {w w' : World} (h : ¬ (hangs its = true ∧ planT (nameI its 0) (bodS its) = some its)) (hb : Below w.heap.size w w') : SagaC its w (.panicked (rej 2)) w' := by
  unfold SagaC sagaP
  rw [if_neg h]
  exact ⟨hb, rfl⟩

theorem SagaC.ok {its : List It} {w w' : World} {a : Option Addr} {c : Nat} (h : hangs its = true ∧ planT (nameI its 0) (bodS its) = some its) (hb : Below w.heap.size w w') (ht : TAt (Since w w') w' true (bodS its) a 0 (bodS its).len) : SagaC its w (.returned (.agg #[.string ⟨(nameI its 0).toArray⟩, .slice a (bodS its).len c])) w' := by
  unfold SagaC sagaP
  rw [if_pos h]
  exact ⟨hb, a, c, rfl, ht⟩

theorem xsT_len (t : Tr) : ∀ inn alt last, (xsT t inn alt last).length = cntA t := by
  induction t with
  | e => intro _ _ _; rfl
  | b x r h1 h2 => intro inn alt last; simp only [xsT, cntA, List.length_append, h1, h2]
  | n l t r h1 h2 => intro inn alt last; simp only [xsT, cntA, List.length_append, List.length_cons, h1, h2]; omega

theorem planT_small {x : By} {t : Tr} {its : List It} (h : planT x t = some its) : its.length ≤ 100000 ∧ ∀ y ∈ its, y.after.length ≤ 1000000 := by
  have hf := fit_cnt (planT_fit h)
  unfold planT planP at h
  split at h
  · cases h
    have hl := xsT_len t 0 0 0
    refine ⟨by rw [its2_len]; omega, fun y hy => ?_⟩
    have := (its2_after _ _ _ _ y hy).1
    omega
  · cases h

/-- What sagaOf knows once the bodies are told. -/
structure SgS (w : World) (v : Value) (x : It) (T : Tr) (nb : Nat) (A : World) (av : Option Addr) (ac : Nat) (P : Nat → Prop) : Prop where
  bel : Below w.heap.size w A
  it : A.heap[w.heap.size]? = some (.cells #[v] 28 (0, 0))
  nd : A.heap[nb]? = some (.cells #[.string ⟨x.name.toArray⟩, .slice av T.len ac] 24 (0, 0))
  res : A.heap[w.heap.size + 1]? = some (.cells #[.string ⟨#[]⟩, .slice none 0 0] 24 (0, 0))
  ge : w.heap.size + 1 < nb
  tr : TAt P A true T av 0 T.len
  pg : ∀ b, P b → w.heap.size + 1 < b ∧ b < A.heap.size ∧ b ≠ nb

theorem SgS.later {w : World} {v : Value} {x : It} {T : Tr} {nb : Nat} {A B : World} {av : Option Addr} {ac : Nat} {P : Nat → Prop} (h : SgS w v x T nb A av ac P) (hb : Below A.heap.size A B) : SgS w v x T nb B av ac P := by
  have hlt : ∀ {b : Nat} {o : Obj}, A.heap[b]? = some o → b < A.heap.size := fun h => (Array.getElem?_eq_some_iff.1 h).1
  exact ⟨h.bel.trans (hb.mono h.bel.size), (hb.block _ (hlt h.it)).trans h.it, (hb.block _ (hlt h.nd)).trans h.nd, (hb.block _ (hlt h.res)).trans h.res, h.ge, TAt.keep (fun b _ hl => hb.block b hl) (fun b hb _ => hb) _ _ _ _ _ h.tr, fun b hp => ⟨(h.pg b hp).1, Nat.lt_of_lt_of_le (h.pg b hp).2.1 hb.size, (h.pg b hp).2.2⟩⟩

/-- Two cells of a block put. -/
theorem two_row {A : World} {n : Nat} {c0 c1 : Value} {t : TypeId} (h : A.heap[n]? = some (.cells #[c0, c1] t (0, 0))) (u0 u1 : Value) :
    ((A.setCell ⟨n, 0, none⟩ u0).setCell ⟨n, 1, none⟩ u1).heap[n]? = some (.cells #[u0, u1] t (0, 0)) ∧ ((A.setCell ⟨n, 0, none⟩ u0).setCell ⟨n, 1, none⟩ u1).heap.size = A.heap.size ∧
    (∀ b, b ≠ n → ((A.setCell ⟨n, 0, none⟩ u0).setCell ⟨n, 1, none⟩ u1).heap[b]? = A.heap[b]?) ∧ ∀ base, base ≤ n → Below base A ((A.setCell ⟨n, 0, none⟩ u0).setCell ⟨n, 1, none⟩ u1) := by
  refine ⟨Dg.row_set (Dg.row_set h 0 u0) 1 u1, by simp, fun b hb => ?_, fun base hb => ((Below.refl _ A).setCell hb u0).setCell hb u1⟩
  rw [Below.heap_setCell _ _ _ b hb, Below.heap_setCell _ _ _ b hb]

set_option maxRecDepth 1000000 in
set_option maxHeartbeats 4000000 in
theorem sagaOf_any (its : List It) (v : Value) (w : World) (hIt : RdIt w v its) (hnm : ∀ x ∈ its, x.name.length ≤ 1100000) (hT : Dg.Tab w) (haf : ∀ x ∈ its, x.after.length ≤ 1000000) :
    Calls Tryd.prog 67 #[.agg #[v]] w fun e w' => SagaC its w e w' := by
  have HIt : Hid (RdIt w v its) := hIt
  have HNm : Hid _ := hnm
  have HTb : Hid (Dg.Tab w) := hT
  have HAf : Hid _ := haf
  clear hnm hT haf
  obtain ⟨ia, icap, rfl, hic, hir⟩ := hIt
  have hb1 : Below w.heap.size w ((w.alloc (.cells #[.slice ia its.length icap] 28)).alloc (.cells #[.string ⟨#[]⟩, .slice none 0 0] 24)) := ((Below.refl _ w).alloc (Nat.le_refl _) _).alloc (by simp) _
  have r0 := Dg.row_alloc (Dg.row_new w #[.slice ia its.length icap] 28) (.cells #[.string ⟨#[]⟩, .slice none 0 0] 24)
  have r1 := Dg.row_new (w.alloc (.cells #[.slice ia its.length icap] 28)) #[.string ⟨#[]⟩, .slice none 0 0] 24
  rw [World.size_alloc] at r1
  have g0 := (Dg.cell_row r0 0).trans rfl
  have M1 : Hid _ := mustHang_any its _ _ (HIt.out.later hb1)
  go_enter Tryd.func67, Tryd.ntmps67
  go_wp2_with fail
  generalize (w.alloc (.cells #[.slice ia its.length icap] 28)).alloc (.cells #[.string ⟨#[]⟩, .slice none 0 0] 24) = w1 at *
  have hz1 : w.heap.size + 1 < w1.heap.size := (Array.getElem?_eq_some_iff.1 r1).1
  refine Calls.mono M1.out ?_
  rintro e w2 ⟨he, hb2⟩
  clear M1 g0
  have hbl2 := hb1.trans (hb2.mono hb1.size)
  have s0 := (hb2.block _ (by omega)).trans r0
  have s1 := (hb2.block _ hz1).trans r1
  have hz2 := Nat.lt_of_lt_of_le hz1 hb2.size
  clear r0 r1 hz1 hb1 hb2
  cases hh : hangs its with
  | false =>
    rw [hh] at he
    obtain rfl : e = .panicked (rej 2) := he
    go_wp2_with fail
    exact ⟨rfl, SagaC.bad (fun h9 => by rw [hh] at h9; cases h9.1) hbl2⟩
  | true =>
    rw [hh] at he
    obtain rfl : e = .returned (.tuple #[]) := he
    have HH : Hid _ := hh
    obtain ⟨h0, h64, hat⟩ := hangs_at hh
    obtain ⟨x, hx⟩ : ∃ x, its[0]? = some x := ⟨_, List.getElem?_eq_getElem h0⟩
    obtain ⟨b1, off1, yav, yam, yac, rfl, k0, _⟩ := hir 0 x hx
    have HX : Hid (nameI its 0 = x.name) := by show _ = _; unfold nameI; rw [show (0 : Int).toNat = 0 from rfl, hx]
    have MB := fun w3 h3 => bodies_rec hh (.slice (some ⟨b1, off1, none⟩) its.length icap) (its.length + 1) 0 (by omega) h0 w3 h3
    have HMB : Hid _ := MB
    obtain ⟨T, HTT⟩ : ∃ T, Hid (bodS its = T) := ⟨_, rfl⟩
    have hzero : off1 + 0 * 8 = off1 := by omega
    rw [hzero] at k0
    obtain ⟨il, HIL⟩ : ∃ il, Hid (its.length = il) := ⟨_, rfl⟩
    have hil0 : 0 < il := by rw [← HIL.out]; exact h0
    rw [HIL.out] at s0
    rw [HIL.out]
    clear hh hat hx MB hir hzero h0 hic h64
    go_wp2_with fail
    have hMB : ∀ W, Below w.heap.size w W → Calls Tryd.prog 75 #[(.slice (some ⟨b1, off1, none⟩) il icap), .int .i64 0] W fun e w' => BodC T W e w' := by
      intro W hW
      have h9 := HMB.out W (HIt.out.later hW)
      rw [show bodT its (its.length + 1) 0 = T from HTT.out, HIL.out] at h9
      exact h9
    have HMB2 : Hid _ := hMB
    clear HMB hMB
    refine wp_mono (Q := fun e a' w' => e = .normal ∧ ∃ nb av ac P, SgS w (.slice (some ⟨b1, off1, none⟩) il icap) x T nb w' av ac P ∧ a' = ⟨#[.agg #[(.slice (some ⟨b1, off1, none⟩) il icap)], .pointer (some ⟨w.heap.size, 0, none⟩), .pointer (some ⟨w.heap.size + 1, 0, none⟩), .pointer (some ⟨nb, 0, none⟩), undef, undef, .pointer (some ⟨w.heap.size, 0, none⟩), (.slice (some ⟨b1, off1, none⟩) il icap), .tuple #[], .pointer (some ⟨w.heap.size, 0, none⟩), (.slice (some ⟨b1, off1, none⟩) il icap), .pointer (some ⟨b1, off1, none⟩), .pointer (some ⟨b1, off1, none⟩), .string ⟨x.name.toArray⟩, .pointer (some ⟨w.heap.size, 0, none⟩), (.slice (some ⟨b1, off1, none⟩) il icap), .slice av T.len ac, .agg #[.string ⟨x.name.toArray⟩, .slice av T.len ac], undef, undef, undef, undef, undef, undef, undef, undef, undef, undef, undef, undef, undef, undef, undef, undef], []⟩) ?_ ?_
    · refine wp_region_held (S := fun w' => Below w.heap.size w w' ∧ w'.heap[w.heap.size]? = some (.cells #[(.slice (some ⟨b1, off1, none⟩) il icap)] 28 (0, 0)) ∧ w'.heap[w.heap.size + 1]? = some (.cells #[.string ⟨#[]⟩, .slice none 0 0] 24 (0, 0))) (by kernel_rfl) ?_
      have hS0 : Below w.heap.size w w2.drew ∧ w2.drew.heap[w.heap.size]? = some (.cells #[(.slice (some ⟨b1, off1, none⟩) il icap)] 28 (0, 0)) ∧ w2.drew.heap[w.heap.size + 1]? = some (.cells #[.string ⟨#[]⟩, .slice none 0 0] 24 (0, 0)) := ⟨hbl2.drew, s0, s1⟩
      simp only [List.size_toArray, List.length_cons, List.length_nil, Nat.reduceAdd, Array.replicate_succ, Array.replicate_zero, List.push_toArray, List.nil_append, List.cons_append]
      refine tG 0 9 (.pointer (some ⟨w.heap.size, 0, none⟩)) 10 rfl hS0 ?_
      refine tV 1 10 ((.slice (some ⟨b1, off1, none⟩) il icap)) 9 rfl hS0 ?_ (fun w9 hw9 => by have z0 := (Dg.cell_row hw9.2.1 0).trans rfl; go_simp)
      refine tG 2 11 (.pointer (some ⟨b1, off1, none⟩)) 8 rfl hS0 ?_
      refine tG 3 12 (.pointer (some ⟨b1, off1, none⟩)) 7 rfl hS0 ?_
      refine tV 4 13 (.string ⟨x.name.toArray⟩) 6 rfl hS0 ?_ (fun w9 hw9 => by have z0 := Dg.cell_later hw9.1 k0; go_simp)
      refine tG 5 14 (.pointer (some ⟨w.heap.size, 0, none⟩)) 5 rfl hS0 ?_
      refine tV 6 15 ((.slice (some ⟨b1, off1, none⟩) il icap)) 4 rfl hS0 ?_ (fun w9 hw9 => by have z0 := (Dg.cell_row hw9.2.1 0).trans rfl; go_simp)
      refine wpAnyH_all (fuel := 3) (rs := [7, 9]) (by kernel_rfl) (by decide) ?_
      refine List.forall_mem_cons.2 ⟨?_, List.forall_mem_singleton.2 ?_⟩
      · refine wpOp_calls (i := 7) (d := 16) rfl rfl (by kernel_rfl) (f := 75) (args := #[(.slice (some ⟨b1, off1, none⟩) il icap), .int .i64 0]) (by kernel_rfl) _ (HMB2.out w2.drew hbl2.drew) ?_ ?_ ?_
        · rintro vA WA ⟨hbA2, av, am, ac, hvA, htA⟩
          obtain rfl : am = T.len := by have := htA.len; omega
          cases hvA
          have hbA : Below w.heap.size w WA := hbl2.trans ((Below.refl _ _).drew.trans (hbA2.mono hbl2.size))
          have hA0 := (hbA2.block _ (show w.heap.size < w2.heap.size by omega)).trans s0
          have hA1 := (hbA2.block _ hz2).trans s1
          refine ⟨⟨hbA, hA0, hA1⟩, ?_⟩
          simp only [List.setIfInBounds_toArray, List.set_cons_succ, List.set_cons_zero]
          refine wpAnyH_all (fuel := 2) (rs := [8, 9]) (by kernel_rfl) (by decide) ?_
          refine List.forall_mem_cons.2 ⟨?_, List.forall_mem_singleton.2 ?_⟩
          · refine wpOp_value (i := 8) (d := 17) (v := .agg #[.string ⟨x.name.toArray⟩, .slice av T.len ac]) (w' := WA) rfl rfl (by kernel_rfl) (by go_simp) ?_
            refine ⟨⟨hbA, hA0, hA1⟩, ?_⟩
            simp only [List.setIfInBounds_toArray, List.set_cons_succ, List.set_cons_zero]
            refine wpAnyH_all (fuel := 1) (rs := [9]) (by kernel_rfl) (by decide) ?_
            refine List.forall_mem_singleton.2 ?_
            refine wpOp_value (i := 9) (d := 3) (v := .pointer (some ⟨WA.heap.size, 0, none⟩)) (w' := WA.alloc (.cells #[.string ⟨#[]⟩, .slice none 0 0] 24)) rfl rfl (by kernel_rfl) (by go_simp) ?_
            refine ⟨⟨hbA.alloc hbA.size _, Dg.row_alloc hA0 _, Dg.row_alloc hA1 _⟩, ?_⟩
            simp only [List.setIfInBounds_toArray, List.set_cons_succ, List.set_cons_zero]
            refine wpAnyH_all (fuel := 0) (rs := [10]) (by kernel_rfl) (by decide) ?_
            refine List.forall_mem_singleton.2 ?_
            refine wpOp_skip (i := 10) (w' := WA.alloc (.cells #[.string ⟨x.name.toArray⟩, .slice av T.len ac] 24)) rfl rfl (by kernel_rfl) (by go_simp) ?_
            refine ⟨⟨hbA.alloc hbA.size _, Dg.row_alloc hA0 _, Dg.row_alloc hA1 _⟩, wpAnyH_done (by kernel_rfl) ?_ _⟩
            refine ⟨rfl, WA.heap.size, av, ac, Since w2.drew WA, ⟨hbA.alloc hbA.size _, Dg.row_alloc hA0 _, Dg.row_new WA #[.string ⟨x.name.toArray⟩, .slice av T.len ac] 24, Dg.row_alloc hA1 _, Nat.lt_of_lt_of_le hz2 hbA2.size, TAt.keep (fun b hb hl => ((Below.refl WA.heap.size WA).alloc (Nat.le_refl _) _).block b hl) (fun b hb _ => hb) _ _ _ _ _ htA, fun b hb => ⟨Nat.lt_of_lt_of_le hz2 hb.1, by have := hb.2; simp; omega, by have := hb.2; omega⟩⟩, rfl⟩
          · refine wpOp_value (i := 9) (d := 3) (v := .pointer (some ⟨WA.heap.size, 0, none⟩)) (w' := WA.alloc (.cells #[.string ⟨#[]⟩, .slice none 0 0] 24)) rfl rfl (by kernel_rfl) (by go_simp) ?_
            refine ⟨⟨hbA.alloc hbA.size _, Dg.row_alloc hA0 _, Dg.row_alloc hA1 _⟩, ?_⟩
            simp only [List.setIfInBounds_toArray, List.set_cons_succ, List.set_cons_zero]
            refine wpAnyH_all (fuel := 1) (rs := [8]) (by kernel_rfl) (by decide) ?_
            refine List.forall_mem_singleton.2 ?_
            refine wpOp_value (i := 8) (d := 17) (v := .agg #[.string ⟨x.name.toArray⟩, .slice av T.len ac]) (w' := WA.alloc (.cells #[.string ⟨#[]⟩, .slice none 0 0] 24)) rfl rfl (by kernel_rfl) (by go_simp) ?_
            refine ⟨⟨hbA.alloc hbA.size _, Dg.row_alloc hA0 _, Dg.row_alloc hA1 _⟩, ?_⟩
            simp only [List.setIfInBounds_toArray, List.set_cons_succ, List.set_cons_zero]
            refine wpAnyH_all (fuel := 0) (rs := [10]) (by kernel_rfl) (by decide) ?_
            refine List.forall_mem_singleton.2 ?_
            refine wpOp_skip (i := 10) (w' := WA.alloc (.cells #[.string ⟨x.name.toArray⟩, .slice av T.len ac] 24)) rfl rfl (by kernel_rfl) (by go_simp) ?_
            refine ⟨⟨hbA.alloc hbA.size _, Dg.row_alloc hA0 _, Dg.row_alloc hA1 _⟩, wpAnyH_done (by kernel_rfl) ?_ _⟩
            refine ⟨rfl, WA.heap.size, av, ac, Since w2.drew WA, ⟨hbA.alloc hbA.size _, Dg.row_alloc hA0 _, Dg.row_new WA #[.string ⟨x.name.toArray⟩, .slice av T.len ac] 24, Dg.row_alloc hA1 _, Nat.lt_of_lt_of_le hz2 hbA2.size, TAt.keep (fun b hb hl => ((Below.refl WA.heap.size WA).alloc (Nat.le_refl _) _).block b hl) (fun b hb _ => hb) _ _ _ _ _ htA, fun b hb => ⟨Nat.lt_of_lt_of_le hz2 hb.1, by have := hb.2; simp; omega, by have := hb.2; omega⟩⟩, rfl⟩
        · rintro ch w'' ⟨_, _, _, _, h9, _⟩
          cases h9
        · rintro w'' ⟨_, _, _, _, h9, _⟩
          cases h9
      · refine wpOp_value (i := 9) (d := 3) (v := .pointer (some ⟨w2.heap.size, 0, none⟩)) (w' := w2.drew.alloc (.cells #[.string ⟨#[]⟩, .slice none 0 0] 24)) rfl rfl (by kernel_rfl) (by go_simp) ?_
        have hbN : Below w.heap.size w (w2.drew.alloc (.cells #[.string ⟨#[]⟩, .slice none 0 0] 24)) := hbl2.drew.alloc hbl2.size _
        have rN := Dg.row_new w2.drew #[.string ⟨#[]⟩, .slice none 0 0] 24
        have hN0 := Dg.row_alloc (w := w2.drew) s0 (.cells #[.string ⟨#[]⟩, .slice none 0 0] 24)
        have hN1 := Dg.row_alloc (w := w2.drew) s1 (.cells #[.string ⟨#[]⟩, .slice none 0 0] 24)
        have hzN : (w2.drew.alloc (.cells #[.string ⟨#[]⟩, .slice none 0 0] 24)).heap.size = w2.heap.size + 1 := by simp
        refine ⟨⟨hbN, hN0, hN1⟩, ?_⟩
        simp only [List.setIfInBounds_toArray, List.set_cons_succ, List.set_cons_zero]
        generalize w2.drew.alloc (.cells #[.string ⟨#[]⟩, .slice none 0 0] 24) = wN at *
        refine wpAnyH_all (fuel := 2) (rs := [7]) (by kernel_rfl) (by decide) ?_
        refine List.forall_mem_singleton.2 ?_
        refine wpOp_calls (i := 7) (d := 16) rfl rfl (by kernel_rfl) (f := 75) (args := #[(.slice (some ⟨b1, off1, none⟩) il icap), .int .i64 0]) (by kernel_rfl) _ (HMB2.out wN hbN) ?_ ?_ ?_
        · rintro vA WA ⟨hbA2, av, am, ac, hvA, htA⟩
          obtain rfl : am = T.len := by have := htA.len; omega
          cases hvA
          have hbA : Below w.heap.size w WA := hbN.trans (hbA2.mono hbN.size)
          have hA0 := (hbA2.block _ (show w.heap.size < wN.heap.size by omega)).trans hN0
          have hA1 := (hbA2.block _ (show w.heap.size + 1 < wN.heap.size by omega)).trans hN1
          have hAN : WA.heap[w2.heap.size]? = some (.cells #[.string ⟨#[]⟩, .slice none 0 0] 24 (0, 0)) := (hbA2.block _ (show w2.heap.size < wN.heap.size by omega)).trans rN
          refine ⟨⟨hbA, hA0, hA1⟩, ?_⟩
          simp only [List.setIfInBounds_toArray, List.set_cons_succ, List.set_cons_zero]
          refine wpAnyH_all (fuel := 1) (rs := [8]) (by kernel_rfl) (by decide) ?_
          refine List.forall_mem_singleton.2 ?_
          refine wpOp_value (i := 8) (d := 17) (v := .agg #[.string ⟨x.name.toArray⟩, .slice av T.len ac]) (w' := WA) rfl rfl (by kernel_rfl) (by go_simp) ?_
          refine ⟨⟨hbA, hA0, hA1⟩, ?_⟩
          simp only [List.setIfInBounds_toArray, List.set_cons_succ, List.set_cons_zero]
          refine wpAnyH_all (fuel := 0) (rs := [10]) (by kernel_rfl) (by decide) ?_
          refine List.forall_mem_singleton.2 ?_
          have q0 := (Dg.cell_row hAN 0).trans rfl
          have q1 := (Dg.cell_row hAN 1).trans rfl
          have f0 := Dg.froz_row hAN 0
          have f1 := Dg.froz_row hAN 1
          refine wpOp_skip (i := 10) (w' := (WA.setCell ⟨w2.heap.size, 0, none⟩ (.string ⟨x.name.toArray⟩)).setCell ⟨w2.heap.size, 1, none⟩ (.slice av T.len ac)) rfl rfl (by kernel_rfl) (by go_simp) ?_
          obtain ⟨t1, t2, t3, t4⟩ := two_row hAN (.string ⟨x.name.toArray⟩) (.slice av T.len ac)
          have hbE := hbA.trans (t4 w.heap.size (by omega))
          have hE0 := (t3 _ (show w.heap.size ≠ w2.heap.size by omega)).trans hA0
          have hE1 := (t3 _ (show w.heap.size + 1 ≠ w2.heap.size by omega)).trans hA1
          refine ⟨⟨hbE, hE0, hE1⟩, wpAnyH_done (by kernel_rfl) ?_ _⟩
          refine ⟨rfl, w2.heap.size, av, ac, Since wN WA, ⟨hbE, hE0, t1, hE1, hz2, TAt.keep (fun b hb hl => t3 b (fun e => by have := hb.1; omega)) (fun b hb _ => hb) _ _ _ _ _ htA, fun b hb => ⟨by have := hb.1; omega, by rw [t2]; exact hb.2, by have := hb.1; omega⟩⟩, rfl⟩
        · rintro ch w'' ⟨_, _, _, _, h9, _⟩
          cases h9
        · rintro w'' ⟨_, _, _, _, h9, _⟩
          cases h9
    · rintro e a' w3 ⟨rfl, nb, av, ac, P, hN, rfl⟩
      clear hbl2 s0 s1 hz2 HMB2
      have HN : Hid (SgS w (.slice (some ⟨b1, off1, none⟩) il icap) x T nb w3 av ac P) := hN
      have n0 := (Dg.cell_row hN.nd 0).trans rfl
      have n1 := (Dg.cell_row hN.nd 1).trans rfl
      have hFT : Fair T := by have h9 := hang_fair HH.out HNm.out; rw [show bodT its (its.length + 1) 0 = T from HTT.out] at h9; exact h9
      have MM : Hid _ := Make_any w3 x.name T av ac (TAt.keep (fun b _ _ => rfl) (fun b hb _ => (hN.pg b hb).2.1) _ _ _ _ _ hN.tr) hFT (Dg.Tab.later HTb.out hN.bel)
      clear hN hFT
      simp only [Exit.then]
      go_at_K
      go_wp2_with fail
      refine Calls.mono MM.out ?_
      rintro e w4 ⟨hb4, he⟩
      clear MM n0 n1
      have HN4 : Hid (SgS w (.slice (some ⟨b1, off1, none⟩) il icap) x T nb w4 av ac P) := HN.out.later hb4
      have hz3 := HN.out.bel.size
      have hz4 := hb4.size
      cases hP : planT x.name T with
      | none =>
        rw [hP] at he
        obtain rfl : e = .returned (.tuple #[.agg #[.slice none 0 0], .int .i64 11]) := he
        have HP : Hid (¬ (hangs its = true ∧ planT (nameI its 0) (bodS its) = some its)) := by
          show ¬ _
          rw [HX.out, HTT.out, hP]
          rintro ⟨_, h9⟩
          cases h9
        clear hP
        go_wp2_with fail
        refine Calls.mono (must_no 2 _) ?_
        rintro e w'' ⟨rfl, rfl⟩
        exact ⟨rfl, SagaC.bad HP.out (HN4.out.bel.alloc HN4.out.bel.size _)⟩
      | some its' =>
        rw [hP] at he
        obtain ⟨v', rfl, hs⟩ := he
        obtain ⟨ia', icap', rfl, _⟩ := id hs.rd
        have hN5 := HN4.out.later ((Below.refl w4.heap.size w4).alloc (Nat.le_refl _) (.cells #[.slice ia' its'.length icap'] 28))
        have hR5 : RdIt (w4.alloc (.cells #[.slice ia' its'.length icap'] 28)) (.slice ia' its'.length icap') its' := hs.rd.later ((Below.refl w4.heap.size w4).alloc (Nat.le_refl _) _)
        have rn5 := Dg.row_new w4 #[.slice ia' its'.length icap'] 28
        have m0 := (Dg.cell_row rn5 0).trans rfl
        have m1 := (Dg.cell_row hN5.it 0).trans rfl
        obtain ⟨hl', ha'⟩ := planT_small hP
        obtain ⟨_, h64, _⟩ := hangs_at HH.out
        have ME := EqualFunc_any its its' (.slice (some ⟨b1, off1, none⟩) its.length icap) (.slice ia' its'.length icap') (w4.alloc (.cells #[.slice ia' its'.length icap'] 28)) (HIt.out.later hN5.bel) hR5 (by omega) hl' HAf.out ha'
        rw [HIL.out] at ME
        have HME : Hid _ := ME
        have HN5 : Hid _ := hN5
        have HP : Hid _ := hP
        clear ME hP hs hR5 hN5 rn5 hl' ha' h64
        obtain ⟨il', HIL'⟩ : ∃ il', Hid (its'.length = il') := ⟨_, rfl⟩
        rw [HIL'.out] at HN5 HME m0 m1 ⊢
        go_wp2_with fail
        generalize w4.alloc (.cells #[.slice ia' il' icap'] 28) = w5 at *
        refine Calls.mono HME.out ?_
        rintro e w6 ⟨rfl, hb6⟩
        clear HME m0 m1
        have HN6 : Hid _ := SgS.later HN5.out hb6
        by_cases heq : its = its'
        rotate_left
        · rw [decide_eq_false heq]
          have HQ : Hid (¬ (hangs its = true ∧ planT (nameI its 0) (bodS its) = some its)) := by
            show ¬ _
            rw [HX.out, HTT.out, HP.out]
            rintro ⟨_, h9⟩
            exact heq (Option.some.inj h9).symm
          go_wp2_with fail
          refine Calls.mono (must_no 2 _) ?_
          rintro e w'' ⟨rfl, rfl⟩
          exact ⟨rfl, SagaC.bad HQ.out (SgS.bel HN6.out)⟩
        · rw [decide_eq_true heq]
          have HQ : Hid (hangs its = true ∧ planT (nameI its 0) (bodS its) = some its) := by
            show _ ∧ _
            rw [HX.out, HTT.out, HP.out, ← heq]
            exact ⟨HH.out, rfl⟩
          have n0 := (Dg.cell_row (SgS.nd HN6.out) 0).trans rfl
          have n1 := (Dg.cell_row (SgS.nd HN6.out) 1).trans rfl
          have p0 := (Dg.cell_row (SgS.res HN6.out) 0).trans rfl
          have p1 := (Dg.cell_row (SgS.res HN6.out) 1).trans rfl
          have f0 := Dg.froz_row (SgS.res HN6.out) 0
          have f1 := Dg.froz_row (SgS.res HN6.out) 1
          clear heq
          go_wp2_with fail
          refine Calls.mono (must_yes 2 _) ?_
          rintro e w'' ⟨rfl, rfl⟩
          go_wp2_with fail
          obtain ⟨t1, t2, t3, t4⟩ := two_row (SgS.res HN6.out) (.string ⟨x.name.toArray⟩) (.slice av T.len ac)
          have hfin := SagaC.ok (a := av) (c := ac) HQ.out ((SgS.bel HN6.out).trans (t4 w.heap.size (by omega))) (by rw [HTT.out]; exact TAt.keep (fun b hb _ => t3 b (by have := (SgS.pg HN6.out b hb).1; omega)) (fun b hb _ => ⟨by have := (SgS.pg HN6.out b hb).1; omega, by rw [t2]; exact (SgS.pg HN6.out b hb).2.1⟩) _ _ _ _ _ (SgS.tr HN6.out))
          rw [HX.out, HTT.out] at hfin
          exact bodyPost_ret_by (results_cell_row rfl _ _ (w.heap.size + 1) 24 _ (0, 0) _ rfl t1 Tryd.underlying24 rfl (by kernel_rfl)) rfl hfin

end Go.Proofs.YteghapmlnkhepaaDoor

