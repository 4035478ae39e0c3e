/- Texts of the seat, packed: Ta Tb Tc Td. -/
import Derived.Test.YteghapmlnkhepaaDoorP27
import Derived.Test.YteghapmlnkhepaaDoorP12
/- Plain: a saga's plan leads back to the saga: the bodies that its items tell of are the saga's. -/
namespace Go.Proofs.YteghapmlnkhepaaDoor

open Go.RowKit Go.Shelf Go.Proofs.YteghapmlnkhepaaDoor.Sx

/-- Bodies, and nodes, where they may stand. -/
def Kd : Bool → Tr → Prop
  | _, .e => True
  | k, .b x r => k = true ∧ Kd false x ∧ Kd true r
  | k, .n _ s r => k = false ∧ Kd true s ∧ Kd false r

theorem TAt.kd {P : Nat → Prop} {w : World} (t : Tr) : ∀ {k : Bool} {a : Option Addr} {i n : Nat}, TAt P w k t a i n → Kd k t := by
  induction t with
  | e => intro _ _ _ _ _; trivial
  | b x r ih1 ih2 =>
    rintro k a i n ⟨rfl, _, ⟨_, _, _, _, _, _, _, _, hx⟩, hr⟩
    exact ⟨rfl, ih1 hx, ih2 hr⟩
  | n l s r ih1 ih2 =>
    rintro k a i n ⟨rfl, _, ⟨_, _, _, _, _, _, _, _, _, _, _, _, _, _, _, _, _, hs⟩, hr⟩
    exact ⟨rfl, ih1 hs, ih2 hr⟩

/-- Of such nodes those of one body. -/
def pk (rec : Nat → Tr) (i alt : Nat) (ys : List Pd) : List (Lab × Tr) := ys.flatMap fun y => if y.inn = i ∧ y.alt = alt then [(y.lab, rec y.num)] else []

theorem pk_append (rec : Nat → Tr) (i alt : Nat) (a b : List Pd) : pk rec i alt (a ++ b) = pk rec i alt a ++ pk rec i alt b := by simp [pk]

theorem pk_cons (rec : Nat → Tr) (i alt : Nat) (y : Pd) (b : List Pd) : pk rec i alt (y :: b) = (if y.inn = i ∧ y.alt = alt then [(y.lab, rec y.num)] else []) ++ pk rec i alt b := by simp [pk]

theorem pk_none {rec : Nat → Tr} {i alt : Nat} {ys : List Pd} (h : ∀ y ∈ ys, ¬ (y.inn = i ∧ y.alt = alt)) : pk rec i alt ys = [] := by
  unfold pk
  rw [List.flatMap_eq_nil_iff]
  intro y hy
  rw [if_neg (h y hy)]

/-- Where nodes stand: their numbers, and in what. -/
theorem xsT_at (t : Tr) : ∀ (inn alt last : Nat), ∀ y ∈ xsT t inn alt last, last < y.num ∧ y.num ≤ last + cntA t ∧ (y.inn = inn ∨ last < y.inn) ∧ y.inn ≤ inn + last + cntA t ∧ (inn ≤ last → y.inn < y.num) := by
  induction t with
  | e => intro _ _ _ y hy; cases hy
  | b x r ih1 ih2 =>
    intro inn alt last y hy
    rw [xsT, List.mem_append] at hy
    rcases hy with hy | hy
    · obtain ⟨h1, h2, h3, h4, h5⟩ := ih1 _ _ _ y hy
      refine ⟨h1, ?_, h3, ?_, h5⟩ <;> simp only [cntA] <;> omega
    · obtain ⟨h1, h2, h3, h4, h5⟩ := ih2 _ _ _ y hy
      refine ⟨by omega, ?_, by omega, ?_, fun h => h5 (by omega)⟩ <;> simp only [cntA] <;> omega
  | n l s r ih1 ih2 =>
    intro inn alt last y hy
    rw [xsT, List.mem_cons, List.mem_append] at hy
    rcases hy with rfl | hy | hy
    · refine ⟨by show last < last + 1; omega, ?_, .inl rfl, ?_, fun h => ?_⟩
      · simp only [cntA]; omega
      · simp only []; omega
      · show inn < last + 1; omega
    · obtain ⟨h1, h2, h3, h4, h5⟩ := ih1 _ _ _ y hy
      refine ⟨by omega, ?_, by omega, ?_, fun _ => h5 (by omega)⟩
      · simp only [cntA]; omega
      · simp only [cntA]; have := h5 (by omega); omega
    · obtain ⟨h1, h2, h3, h4, h5⟩ := ih2 _ _ _ y hy
      refine ⟨by omega, ?_, by omega, ?_, fun h => h5 (by omega)⟩ <;> simp only [cntA] <;> omega

/-- A node of a body further on has another number of a body. -/
theorem xsT_alt (t : Tr) : ∀ (k : Bool) (inn alt last : Nat), Kd k t → inn ≤ last → ∀ y ∈ xsT t inn alt last, y.inn = inn → (k = false → y.alt = alt) ∧ alt ≤ y.alt := by
  induction t with
  | e => intro _ _ _ _ _ _ y hy; cases hy
  | b x r ih1 ih2 =>
    rintro k inn alt last ⟨rfl, hx, hr⟩ hl y hy hi
    rw [xsT, List.mem_append] at hy
    rcases hy with hy | hy
    · exact ⟨fun h => (by cases h), (ih1 _ _ _ _ hx hl y hy hi).2⟩
    · exact ⟨fun h => (by cases h), by have := (ih2 _ _ _ _ hr (by omega) y hy hi).2; omega⟩
  | n l s r ih1 ih2 =>
    rintro k inn alt last ⟨rfl, hs, hr⟩ hl y hy hi
    rw [xsT, List.mem_cons, List.mem_append] at hy
    rcases hy with rfl | hy | hy
    · exact ⟨fun _ => rfl, Nat.le_refl _⟩
    · have := (xsT_at s _ _ _ y hy).2.2.1
      omega
    · exact ih2 _ _ _ _ hr (by omega) y hy hi

/-- The numbers stand one behind the other. -/
theorem xsT_num (t : Tr) : ∀ (inn alt last j : Nat) (y : Pd), (xsT t inn alt last)[j]? = some y → y.num = last + 1 + j := by
  induction t with
  | e => intro _ _ _ j y h; simp [xsT] at h
  | b x r ih1 ih2 =>
    intro inn alt last j y h
    rw [xsT] at h
    by_cases hj : j < (xsT x inn alt last).length
    · rw [List.getElem?_append_left hj] at h
      exact ih1 _ _ _ _ _ h
    · rw [List.getElem?_append_right (by omega), xsT_len] at h
      rw [xsT_len] at hj
      have := ih2 _ _ _ _ _ h
      omega
  | n l s r ih1 ih2 =>
    intro inn alt last j y h
    rw [xsT] at h
    cases j with
    | zero =>
      simp only [List.getElem?_cons_zero, Option.some.injEq] at h
      subst h
      rfl
    | succ j =>
      rw [List.getElem?_cons_succ] at h
      by_cases hj : j < (xsT s (last + 1) 0 (last + 1)).length
      · rw [List.getElem?_append_left hj] at h
        have := ih1 _ _ _ _ _ h
        omega
      · rw [List.getElem?_append_right (by omega), xsT_len] at h
        rw [xsT_len] at hj
        have := ih2 _ _ _ _ _ h
        omega

/-- Items that tell of such nodes. -/
structure Tells (its : List It) (xs : List Pd) : Prop where
  len : its.length = xs.length + 1
  root : ∀ y, its[0]? = some y → y.inn = -1
  at_ : ∀ (j : Nat) (y : Pd), xs[j]? = some y → y.num = j + 1 ∧ y.inn ≤ j ∧ ∃ z, its[j + 1]? = some z ∧ z.inn = (y.inn : Int) ∧ z.alt = (y.alt : Int) ∧ z.alts = (y.am : Int) ∧ labI its z = y.lab

theorem kidsT_pk {its : List It} {xs : List Pd} (h : Tells its xs) (rec : Nat → Tr) (i alt : Nat) : ∀ k, k ≤ xs.length → kidsT its rec i alt (k + 1) = pk rec i alt (xs.take k)
  | 0, _ => by
    obtain ⟨y, hy⟩ : ∃ y, its[0]? = some y := ⟨_, List.getElem?_eq_getElem (by rw [h.len]; omega)⟩
    have := h.root y hy
    rw [kidsT, kidsT, hy]
    simp only [List.nil_append]
    rw [if_neg (by omega)]
    rfl
  | k + 1, hk => by
    obtain ⟨y, hy⟩ : ∃ y, xs[k]? = some y := ⟨_, List.getElem?_eq_getElem (by omega)⟩
    obtain ⟨h1, _, z, h2, h3, h4, _, h5⟩ := h.at_ k y hy
    rw [kidsT, kidsT_pk h rec i alt k (by omega), List.take_add_one, hy]
    simp only [Option.toList_some]
    rw [pk_append, h2]
    simp only
    rw [pk_cons, h3, h4, h5, h1]
    have : pk rec i alt [] = [] := rfl
    rw [this, List.append_nil]
    congr 1
    by_cases hc : y.inn = i ∧ y.alt = alt
    · rw [if_pos (by omega), if_pos hc]
    · rw [if_neg (by omega), if_neg hc]

theorem kids_pk {its : List It} {xs : List Pd} (h : Tells its xs) (rec : Nat → Tr) (i alt : Nat) : kidsT its rec i alt its.length = pk rec i alt xs := by
  rw [h.len, kidsT_pk h rec i alt xs.length (Nat.le_refl _), List.take_length]

/-- An item's bodies are those that stand behind it. -/
theorem bodT_of {its : List It} {xs : List Pd} (h : Tells its xs) (T : Tr) (i f : Nat) (pre post : List Pd) (hx : xs = pre ++ xsT T i 0 i ++ post) (ha : altsI its i = T.len)
    (hpre : ∀ y ∈ pre, y.inn < i) (hpost : ∀ y ∈ post, y.inn < i ∨ i + cntA T < y.inn)
    (hT : bodiesL ((List.range T.len).map fun j => nodesL (pk (bodT its f) i (0 + j) (xsT T i 0 i))) = T) : bodT its (f + 1) i = T := by
  rw [bodT, ha]
  conv => rhs; rw [← hT]
  congr 1
  apply List.map_congr_left
  intro alt _
  rw [kids_pk h, hx, pk_append, pk_append, pk_none (ys := pre) (fun y hy => by have := hpre y hy; omega), pk_none (ys := post) (fun y hy => by have := hpost y hy; omega), List.nil_append, List.append_nil, Nat.zero_add]

theorem bod_main {its : List It} {xs : List Pd} (h : Tells its xs) (t : Tr) :
    (∀ (inn alt last f : Nat) (pre post : List Pd), Kd false t → xs = pre ++ xsT t inn alt last ++ post → pre.length = last → inn ≤ last → (∀ y ∈ pre, y.inn < y.num ∧ y.num ≤ last) → (∀ y ∈ post, y.inn ≤ last ∨ last + cntA t < y.inn) → its.length < last + 1 + f → nodesL (pk (bodT its f) inn alt (xsT t inn alt last)) = t) ∧
    (∀ (i a0 last f : Nat) (pre post : List Pd), Kd true t → xs = pre ++ xsT t i a0 last ++ post → pre.length = last → i ≤ last → (∀ y ∈ pre, y.inn < y.num ∧ y.num ≤ last) → (∀ y ∈ post, y.inn ≤ last ∨ last + cntA t < y.inn) → its.length < last + 1 + f → bodiesL ((List.range t.len).map fun j => nodesL (pk (bodT its f) i (a0 + j) (xsT t i a0 last))) = t) := by
  induction t with
  | e => exact ⟨fun _ _ _ _ _ _ _ _ _ _ _ _ _ => rfl, fun _ _ _ _ _ _ _ _ _ _ _ _ _ => rfl⟩
  | b x r ih1 ih2 =>
    refine ⟨fun _ _ _ _ _ _ hk => absurd hk.1 (by decide), ?_⟩
    rintro i a0 last f pre post ⟨_, hkx, hkr⟩ hx hl hi hpre hpost hf
    have hlen : (Tr.b x r).len = r.len + 1 := rfl
    have hcnt : cntA (.b x r) = cntA x + cntA r := rfl
    rw [hlen, List.range_succ_eq_map, List.map_cons, List.map_map]
    have hxx : xs = pre ++ xsT x i a0 last ++ (xsT r i (a0 + 1) (last + cntA x) ++ post) := by rw [hx, xsT]; simp
    have hxr : xs = (pre ++ xsT x i a0 last) ++ xsT r i (a0 + 1) (last + cntA x) ++ post := by rw [hx, xsT]; simp
    have hr1 : ∀ y ∈ xsT r i (a0 + 1) (last + cntA x), y.inn ≤ last ∨ last + cntA x < y.inn := by
      intro y hy
      have := (xsT_at r _ _ _ y hy).2.2.1
      omega
    have h1 := ih1.1 i a0 last f pre (xsT r i (a0 + 1) (last + cntA x) ++ post) hkx hxx hl hi hpre (fun y hy => by
      rcases List.mem_append.1 hy with hy | hy
      · exact hr1 y hy
      · have := hpost y hy; omega) hf
    have h2 := ih2.2 i (a0 + 1) (last + cntA x) f (pre ++ xsT x i a0 last) post hkr hxr (by rw [List.length_append, xsT_len, hl]) (by omega) (fun y hy => by
      rcases List.mem_append.1 hy with hy | hy
      · have := hpre y hy; omega
      · have := xsT_at x _ _ _ y hy; exact ⟨this.2.2.2.2 hi, this.2.1⟩) (fun y hy => by have := hpost y hy; omega) (by omega)
    show Tr.b _ (bodiesL _) = Tr.b x r
    congr 1
    · rw [Nat.add_zero, xsT, pk_append, pk_none (ys := xsT r i (a0 + 1) (last + cntA x)) (fun y hy hc => by
        have := (xsT_alt r true i (a0 + 1) (last + cntA x) hkr (by omega) y hy hc.1).2
        omega), List.append_nil]
      exact h1
    · conv => rhs; rw [← h2]
      congr 1
      apply List.map_congr_left
      intro j _
      simp only [Function.comp]
      rw [xsT, pk_append, pk_none (ys := xsT x i a0 last) (fun y hy hc => by
        have := (xsT_alt x false i a0 last hkx hi y hy hc.1).1 rfl
        omega), List.nil_append, show a0 + j.succ = a0 + 1 + j by omega]
  | n l s r ih1 ih2 =>
    refine ⟨?_, fun _ _ _ _ _ _ hk => absurd hk.1 (by decide)⟩
    rintro inn alt last f pre post ⟨_, hks, hkr⟩ hx hl hi hpre hpost hf
    have hcnt : cntA (.n l s r) = 1 + cntA s + cntA r := rfl
    obtain ⟨nd, hnd⟩ : ∃ nd : Pd, nd = ⟨last + 1, l, s, none, 0, 0, none, s.len, 0, inn, alt⟩ := ⟨_, rfl⟩
    have hxT : xsT (.n l s r) inn alt last = nd :: (xsT s (last + 1) 0 (last + 1) ++ xsT r inn alt (last + 1 + cntA s)) := by rw [hnd, xsT]
    have hxs : xs = (pre ++ [nd]) ++ xsT s (last + 1) 0 (last + 1) ++ (xsT r inn alt (last + 1 + cntA s) ++ post) := by rw [hx, hxT]; simp
    have hxr : xs = (pre ++ nd :: xsT s (last + 1) 0 (last + 1)) ++ xsT r inn alt (last + 1 + cntA s) ++ post := by rw [hx, hxT]; simp
    have hat : xs[last]? = some nd := by rw [hx, hxT, ← hl]; simp
    have hndn : nd.num = last + 1 ∧ nd.inn = inn ∧ nd.alt = alt ∧ nd.lab = l ∧ nd.am = s.len := by rw [hnd]; exact ⟨rfl, rfl, rfl, rfl, rfl⟩
    obtain ⟨_, _, z, hz, _, _, hza, _⟩ := h.at_ last nd hat
    have hal : altsI its (last + 1) = s.len := by unfold altsI; rw [hz]; simp only; rw [hza, hndn.2.2.2.2]; simp
    have hr1 : ∀ y ∈ xsT r inn alt (last + 1 + cntA s), y.inn ≤ last ∨ last + 1 + cntA s < y.inn := by
      intro y hy
      have := (xsT_at r _ _ _ y hy).2.2.1
      omega
    have hpre2 : ∀ y ∈ pre ++ [nd], y.inn < y.num ∧ y.num ≤ last + 1 := by
      intro y hy
      rcases List.mem_append.1 hy with hy | hy
      · have := hpre y hy; omega
      · simp only [List.mem_singleton] at hy
        subst hy
        omega
    have hxl : xs.length + 1 = its.length := h.len.symm
    have hll : last < xs.length := (List.getElem?_eq_some_iff.1 hat).1
    obtain ⟨g, rfl⟩ : ∃ g, f = g + 1 := ⟨f - 1, by omega⟩
    have h1 := ih1.2 (last + 1) 0 (last + 1) g (pre ++ [nd]) (xsT r inn alt (last + 1 + cntA s) ++ post) hks hxs (by rw [List.length_append, hl]; rfl) (Nat.le_refl _) hpre2 (fun y hy => by
      rcases List.mem_append.1 hy with hy | hy
      · have := hr1 y hy; omega
      · have := hpost y hy; omega) (by omega)
    have hb : bodT its (g + 1) (last + 1) = s := bodT_of h s (last + 1) g (pre ++ [nd]) (xsT r inn alt (last + 1 + cntA s) ++ post) hxs hal (fun y hy => by have := hpre2 y hy; omega) (fun y hy => by
      rcases List.mem_append.1 hy with hy | hy
      · have := hr1 y hy; omega
      · have := hpost y hy; omega) h1
    have h2 := ih2.1 inn alt (last + 1 + cntA s) (g + 1) (pre ++ nd :: xsT s (last + 1) 0 (last + 1)) post hkr hxr (by rw [List.length_append, List.length_cons, xsT_len, hl]; omega) (by omega) (fun y hy => by
      rcases List.mem_append.1 hy with hy | hy
      · have := hpre y hy; omega
      · rcases List.mem_cons.1 hy with rfl | hy
        · omega
        · have := xsT_at s _ _ _ y hy; exact ⟨this.2.2.2.2 (Nat.le_refl _), this.2.1⟩) (fun y hy => by have := hpost y hy; omega) (by omega)
    rw [hxT, pk_cons, pk_append, if_pos ⟨hndn.2.1, hndn.2.2.1⟩, pk_none (ys := xsT s (last + 1) 0 (last + 1)) (fun y hy hc => by
      have := (xsT_at s _ _ _ y hy).2.2.1
      omega), List.nil_append, hndn.1, hndn.2.2.2.1, hb]
    show Tr.n l s (nodesL (pk (bodT its (g + 1)) inn alt (xsT r inn alt (last + 1 + cntA s)))) = _
    rw [h2]

/-- The bodies that items tell of are those that they were made of. -/
theorem bodS_back {its : List It} {t : Tr} (h : Tells its (xsT t 0 0 0)) (hk : Kd true t) (ha : altsI its 0 = t.len) : bodS its = t := by
  have h1 := (bod_main h t).2 0 0 0 its.length [] [] hk (by simp) rfl (Nat.le_refl _) (fun y hy => by cases hy) (fun y hy => by cases hy) (by omega)
  exact bodT_of h t 0 its.length [] [] (by simp) ha (fun y hy => by cases hy) (fun y hy => by cases hy) h1

end Go.Proofs.YteghapmlnkhepaaDoor

/- Plain: a saga's plan hangs as it must, tells of the saga's nodes, and leads back to the saga. -/
namespace Go.Proofs.YteghapmlnkhepaaDoor

open Go.RowKit Go.Shelf Go.Proofs.YteghapmlnkhepaaDoor.Sx

/-- Which name has a number. -/
theorem numFold_name : ∀ (xs : List Pd) (f : By → Option Nat) (nm : By) (c : Nat), xs.foldl numPut f nm = some c → (∃ y ∈ xs, y.num = c ∧ y.lab.name = nm) ∨ f nm = some c
  | [], f, nm, c, h => .inr h
  | z :: xs, f, nm, c, h => by
    rcases numFold_name xs (numPut f z) nm c h with ⟨y, h1, h2⟩ | h1
    · exact .inl ⟨y, List.mem_cons_of_mem _ h1, h2⟩
    · unfold numPut at h1
      split at h1
      · rename_i hn
        cases h1
        exact .inl ⟨z, List.mem_cons_self .., rfl, hn.symm⟩
      · exact .inr h1

theorem numF_name (xs : List Pd) (nm : By) (c : Nat) (h : numF xs nm = some c) : ∃ y ∈ xs, y.num = c ∧ y.lab.name = nm := by
  rcases numFold_name xs _ nm c h with h | h
  · exact h
  · cases h

/-- On what a node leans, by names: these are the names. -/
theorem leanP_names {its : List It} {num : By → Option Nat} {inn alt : Int} (g : Nat → By) (hg : ∀ nm on, num nm = some on → g on = nm) : ∀ (l : List By) (acc r : List Nat), leanP its num inn alt l acc = some r → r.map g = acc.map g ++ l
  | [], acc, r, h => by simp only [leanP, Option.some.injEq] at h; subst h; simp
  | nm :: l, acc, r, h => by
    unfold leanP at h
    cases hn : num nm with
    | none => rw [hn] at h; cases h
    | some on =>
      rw [hn] at h
      simp only at h
      cases hi : its[on]? with
      | none => rw [hi] at h; cases h
      | some x =>
        rw [hi] at h
        simp only at h
        split at h
        · have := leanP_names g hg l _ r h
          rw [this, List.map_append, List.append_assoc]
          congr 1
          simp [hg nm on hn]
        · cases h

/-- Laying leanings turns nothing else. -/
def bare7 (y : It) : It := { y with after := [] }

theorem its2_bare7 (x : By) (am : Nat) (xs : List Pd) : ∀ (k on : Nat), ((its2 x am xs k)[on]?).map bare7 = ((its1 x am xs xs.length)[on]?).map bare7
  | 0, _ => rfl
  | k + 1, on => by
    rw [its2]
    split
    · rename_i y hy
      by_cases ho : on = k + 1
      · subst ho
        rw [List.getElem?_set_self (List.getElem?_eq_some_iff.1 hy).1, ← its2_bare7 x am xs k, hy]
        rfl
      · rw [List.getElem?_set_ne (Ne.symm ho)]
        exact its2_bare7 x am xs k on
    · exact its2_bare7 x am xs k on

theorem its2_lean (x : By) (am : Nat) (xs : List Pd) : ∀ (k j : Nat) (z : It), (its2 x am xs k)[j]? = some z → (j = 0 ∨ k < j → z.after = []) ∧ (0 < j → j ≤ k → z.after = intsN ((leanK x am xs (j - 1)).getD []))
  | 0, j, z, h => by
    have h1 := its1_no x am xs xs.length z (List.mem_of_getElem? h)
    exact ⟨fun _ => h1, fun h2 h3 => by omega⟩
  | k + 1, j, z, h => by
    rw [its2] at h
    split at h
    · rename_i y hy
      by_cases ho : j = k + 1
      · subst ho
        rw [List.getElem?_set_self (List.getElem?_eq_some_iff.1 hy).1] at h
        cases h
        exact ⟨fun h2 => by omega, fun _ _ => rfl⟩
      · rw [List.getElem?_set_ne (Ne.symm ho)] at h
        obtain ⟨h1, h2⟩ := its2_lean x am xs k j z h
        exact ⟨fun h3 => h1 (by omega), fun h3 h4 => h2 h3 (by omega)⟩
    · rename_i hy
      obtain ⟨h1, h2⟩ := its2_lean x am xs k j z h
      refine ⟨fun h3 => h1 (by omega), fun h3 h4 => ?_⟩
      by_cases ho : j = k + 1
      · subst ho
        exact absurd h (by rw [hy]; simp)
      · exact h2 h3 (by omega)

theorem its2_at (x : By) (am : Nat) (xs : List Pd) (j : Nat) (y : Pd) (hy : xs[j]? = some y) : ∃ z, (its2 x am xs xs.length)[j + 1]? = some z ∧ bare7 z = y.item ∧ z.after = intsN ((leanK x am xs j).getD []) := by
  have hl := (List.getElem?_eq_some_iff.1 hy).1
  obtain ⟨z, hz⟩ : ∃ z, (its2 x am xs xs.length)[j + 1]? = some z := ⟨_, List.getElem?_eq_getElem (by rw [its2_len]; omega)⟩
  have h1 := its2_bare7 x am xs xs.length (j + 1)
  have h2 : (its1 x am xs xs.length)[j + 1]? = some y.item := by
    unfold its1
    rw [List.take_length, List.getElem?_cons_succ, List.getElem?_map, hy]
    rfl
  rw [hz, h2] at h1
  simp only [Option.map_some, Option.some.injEq] at h1
  have h3 := (its2_lean x am xs xs.length (j + 1) z hz).2 (by omega) (by omega)
  refine ⟨z, hz, ?_, h3⟩
  rw [h1]
  rfl

theorem its2_root (x : By) (am : Nat) (xs : List Pd) : (its2 x am xs xs.length)[0]? = some (rootI x am) := by
  obtain ⟨z, hz⟩ : ∃ z, (its2 x am xs xs.length)[0]? = some z := ⟨_, List.getElem?_eq_getElem (by rw [its2_len]; omega)⟩
  have h1 := its2_bare7 x am xs xs.length 0
  have h2 : (its1 x am xs xs.length)[0]? = some (rootI x am) := rfl
  have h3 := (its2_lean x am xs xs.length 0 z hz).1 (.inl rfl)
  rw [hz, h2] at h1
  simp only [Option.map_some, Option.some.injEq] at h1
  rw [hz]
  congr 1
  have e : z = { bare7 z with after := z.after } := rfl
  rw [e, h1, h3]
  rfl

/-- What the plan of a saga is made of. -/
theorem planT_parts {x : By} {t : Tr} {its : List It} (h : planT x t = some its) : fitS x t = true ∧ goodN (xsT t 0 0 0) = true ∧ (∀ j, j < (xsT t 0 0 0).length → (leanK x t.len (xsT t 0 0 0) j).isSome = true) ∧ its = its2 x t.len (xsT t 0 0 0) (xsT t 0 0 0).length := by
  unfold planT planP at h
  split at h
  · rename_i hc
    cases h
    exact ⟨hc.1, hc.2.1, hc.2.2.1, rfl⟩
  · cases h

theorem plan_tells {x : By} {t : Tr} {its : List It} (h : planT x t = some its) : Tells its (xsT t 0 0 0) := by
  obtain ⟨_, _, hK, rfl⟩ := planT_parts h
  obtain ⟨xs, hxs⟩ : ∃ xs, xs = xsT t 0 0 0 := ⟨_, rfl⟩
  rw [← hxs] at hK ⊢
  have hnum : ∀ j y, xs[j]? = some y → y.num = j + 1 := fun j y hy => by rw [hxs] at hy; have := xsT_num t _ _ _ _ _ hy; omega
  refine ⟨its2_len x t.len xs xs.length, fun y hy => by rw [its2_root] at hy; cases hy; rfl, fun j y hy => ?_⟩
  obtain ⟨z, hz, hb, ha⟩ := its2_at x t.len xs j y hy
  have hn := hnum j y hy
  have hl := (List.getElem?_eq_some_iff.1 hy).1
  have hin : y.inn < y.num := by
    have hm := List.mem_of_getElem? hy
    rw [hxs] at hm
    exact (xsT_at t _ _ _ y hm).2.2.2.2 (Nat.le_refl _)
  have hzi : z.inn = (y.inn : Int) := congrArg It.inn hb
  have hza : z.alt = (y.alt : Int) := congrArg It.alt hb
  have hzs : z.alts = (y.am : Int) := congrArg It.alts hb
  have hname : z.name = y.lab.name := congrArg It.name hb
  have hundo : z.undo = y.lab.undo := congrArg It.undo hb
  have hsub : z.sub = y.lab.sub := congrArg It.sub hb
  have hvit : z.vital = y.lab.vital := congrArg It.vital hb
  refine ⟨hn, by omega, z, hz, hzi, hza, hzs, ?_⟩
  unfold labI
  rw [hname, hundo, hsub, hvit]
  have hk := hK j hl
  obtain ⟨r, hr⟩ := Option.isSome_iff_exists.1 hk
  have haft : z.after.map (nameI (its2 x t.len xs xs.length)) = y.lab.after := by
    rw [ha, hr]
    unfold leanK at hr
    rw [hy] at hr
    have h2 := leanP_names (fun on => nameI (its2 x t.len xs xs.length) (on : Int)) (fun nm on hno => by
      obtain ⟨u, hu, hun, hunm⟩ := numF_name xs nm on hno
      obtain ⟨k, hk2⟩ := List.mem_iff_getElem?.1 hu
      have := hnum k u hk2
      obtain ⟨v, hv, hvb, _⟩ := its2_at x t.len xs k u hk2
      have hvn : v.name = u.lab.name := congrArg It.name hvb
      unfold nameI
      rw [Int.toNat_natCast, show on = k + 1 by omega, hv]
      simp only
      rw [hvn, hunm]) _ _ _ hr
    simp only [Option.getD_some, intsN, List.map_map, List.map_nil, List.nil_append] at h2 ⊢
    exact h2
  rw [haft]

theorem plan_name {x : By} {t : Tr} {its : List It} (h : planT x t = some its) : nameI its 0 = x ∧ altsI its 0 = t.len := by
  obtain ⟨_, _, _, rfl⟩ := planT_parts h
  unfold nameI altsI
  rw [show (0 : Int).toNat = 0 from rfl, its2_root]
  exact ⟨rfl, by simp [rootI]⟩

end Go.Proofs.YteghapmlnkhepaaDoor

/- Plain: of a saga's plan no item has too many bodies, or leans on too many. -/
namespace Go.Proofs.YteghapmlnkhepaaDoor

open Go.RowKit Go.Shelf Go.Proofs.YteghapmlnkhepaaDoor.Sx

/-- The numbers of the nodes of one body. -/
def cn (i alt : Nat) (ys : List Pd) : List Nat := (ys.filter fun y => decide (y.inn = i ∧ y.alt = alt)).map (·.num)

theorem cn_append (i alt : Nat) (a b : List Pd) : cn i alt (a ++ b) = cn i alt a ++ cn i alt b := by simp [cn]

theorem cn_cons (i alt : Nat) (y : Pd) (b : List Pd) : cn i alt (y :: b) = (if y.inn = i ∧ y.alt = alt then [y.num] else []) ++ cn i alt b := by
  unfold cn
  rw [List.filter_cons]
  by_cases h : y.inn = i ∧ y.alt = alt
  · rw [if_pos (decide_eq_true h), if_pos h]; rfl
  · rw [if_neg (by simpa using h), if_neg h]; rfl

theorem cn_none {i alt : Nat} {ys : List Pd} (h : ∀ y ∈ ys, ¬ (y.inn = i ∧ y.alt = alt)) : cn i alt ys = [] := by
  unfold cn
  rw [List.map_eq_nil_iff, List.filter_eq_nil_iff]
  intro y hy
  simpa using h y hy

theorem cn_mem {i alt : Nat} {ys : List Pd} {y : Pd} (h : y ∈ ys) (h1 : y.inn = i) (h2 : y.alt = alt) : y.num ∈ cn i alt ys := by
  unfold cn
  exact List.mem_map.2 ⟨y, List.mem_filter.2 ⟨h, decide_eq_true ⟨h1, h2⟩⟩, rfl⟩

theorem cn_chain (t : Tr) : ∀ (inn alt last : Nat), Kd false t → inn ≤ last → (cn inn alt (xsT t inn alt last)).length = t.len := by
  induction t with
  | e => intro _ _ _ _ _; rfl
  | b x r _ _ => intro _ _ _ hk; exact absurd hk.1 (by decide)
  | n l s r _ ih2 =>
    rintro inn alt last ⟨_, hs, hr⟩ hl
    rw [xsT, cn_cons, cn_append, cn_none (ys := xsT s (last + 1) 0 (last + 1)) (fun y hy hc => by
      have := (xsT_at s _ _ _ y hy).2.2.1
      omega), List.nil_append, if_pos ⟨rfl, rfl⟩, List.length_append, ih2 _ _ _ hr (by omega)]
    show 1 + r.len = r.len + 1
    omega

theorem cn_le (t : Tr) : ∀ (k : Bool) (inn alt last : Nat), Kd k t → inn ≤ last → fitN t = true → (k = false → t.len ≤ 16) → (k = true → fitB t = true) → ∀ y ∈ xsT t inn alt last, (cn y.inn y.alt (xsT t inn alt last)).length ≤ 16 := by
  induction t with
  | e => intro _ _ _ _ _ _ _ _ _ y hy; cases hy
  | b x r ih1 ih2 =>
    rintro k inn alt last ⟨rfl, hx, hr⟩ hl hN _ hB y hy
    simp only [fitN, Bool.and_eq_true] at hN
    have hB := hB rfl
    simp only [fitB, Bool.and_eq_true, decide_eq_true_eq] at hB
    rw [xsT, List.mem_append] at hy
    rw [xsT, cn_append, List.length_append]
    rcases hy with hy | hy
    · have ha := xsT_at x _ _ _ y hy
      have h1 := ih1 false inn alt last hx hl hN.1 (fun _ => hB.1.2) (fun h => by cases h) y hy
      have h2 : cn y.inn y.alt (xsT r inn (alt + 1) (last + cntA x)) = [] := cn_none fun z hz hc => by
        have hb := xsT_at r _ _ _ z hz
        have := ha.2.2.2.2 hl
        rcases hb.2.2.1 with e | e
        · have := (xsT_alt r true _ _ _ hr (by omega) z hz e).2
          have := (xsT_alt x false _ _ _ hx hl y hy (by omega)).1 rfl
          omega
        · omega
      rw [h2]
      exact h1
    · have ha := xsT_at r _ _ _ y hy
      have h1 := ih2 true inn (alt + 1) (last + cntA x) hr (by omega) hN.2 (fun h => by cases h) (fun _ => hB.2) y hy
      have h2 : cn y.inn y.alt (xsT x inn alt last) = [] := cn_none fun z hz hc => by
        have hb := xsT_at x _ _ _ z hz
        have := hb.2.2.2.2 hl
        rcases ha.2.2.1 with e | e
        · have := (xsT_alt r true _ _ _ hr (by omega) y hy e).2
          have := (xsT_alt x false _ _ _ hx hl z hz (by omega)).1 rfl
          omega
        · omega
      rw [h2, List.length_nil, Nat.zero_add]
      exact h1
  | n l s r ih1 ih2 =>
    rintro k inn alt last ⟨rfl, hs, hr⟩ hl hN hL _ y hy
    have hch := cn_chain (.n l s r) inn alt last ⟨rfl, hs, hr⟩ hl
    have hL := hL rfl
    have hlen : (Tr.n l s r).len = r.len + 1 := rfl
    simp only [fitN, Bool.and_eq_true] at hN
    have hfs : fitB s = true := by
      have := hN.1
      simp only [fits, Bool.and_eq_true] at this
      exact this.2
    by_cases htop : y.inn = inn
    · have hya : y.alt = alt := (xsT_alt (.n l s r) false inn alt last ⟨rfl, hs, hr⟩ hl y hy htop).1 rfl
      rw [htop, hya, hch]
      exact hL
    rw [xsT, List.mem_cons, List.mem_append] at hy
    rw [xsT, cn_cons, cn_append, if_neg (fun hc => htop hc.1.symm), List.nil_append, List.length_append]
    rcases hy with rfl | hy | hy
    · exact absurd rfl htop
    · have ha := xsT_at s _ _ _ y hy
      have := ha.2.2.2.2 (Nat.le_refl _)
      have h1 := ih1 true (last + 1) 0 (last + 1) hs (Nat.le_refl _) hN.2.1 (fun h => by cases h) (fun _ => hfs) y hy
      have h2 : cn y.inn y.alt (xsT r inn alt (last + 1 + cntA s)) = [] := cn_none fun z hz hc => by
        have hb := (xsT_at r _ _ _ z hz).2.2.1
        omega
      rw [h2]
      exact h1
    · have ha := xsT_at r _ _ _ y hy
      have h1 := ih2 false inn alt (last + 1 + cntA s) hr (by omega) hN.2.2 (fun _ => by omega) (fun h => by cases h) y hy
      have h2 : cn y.inn y.alt (xsT s (last + 1) 0 (last + 1)) = [] := cn_none fun z hz hc => by
        have hb := xsT_at s _ _ _ z hz
        have := hb.2.2.2.2 (Nat.le_refl _)
        omega
      rw [h2, List.length_nil, Nat.zero_add]
      exact h1

theorem am_le (t : Tr) : ∀ (inn alt last : Nat), fitN t = true → ∀ y ∈ xsT t inn alt last, y.am ≤ 4 := by
  induction t with
  | e => intro _ _ _ _ y hy; cases hy
  | b x r ih1 ih2 =>
    intro inn alt last hN y hy
    simp only [fitN, Bool.and_eq_true] at hN
    rw [xsT, List.mem_append] at hy
    rcases hy with hy | hy
    · exact ih1 _ _ _ hN.1 y hy
    · exact ih2 _ _ _ hN.2 y hy
  | n l s r ih1 ih2 =>
    intro inn alt last hN y hy
    simp only [fitN, Bool.and_eq_true] at hN
    rw [xsT, List.mem_cons, List.mem_append] at hy
    rcases hy with rfl | hy | hy
    · have := hN.1
      simp only [fits, Bool.and_eq_true, decide_eq_true_eq] at this
      exact this.1
    · exact ih1 _ _ _ hN.2.1 y hy
    · exact ih2 _ _ _ hN.2.2 y hy

/-- On what a node leans stands in its body. -/
theorem leanP_body {its : List It} {num : By → Option Nat} {inn alt : Int} : ∀ (l : List By) (acc r : List Nat), leanP its num inn alt l acc = some r → (∀ c ∈ acc, ∃ x, its[c]? = some x ∧ x.inn = inn ∧ x.alt = alt) → ∀ c ∈ r, ∃ x, its[c]? = some x ∧ x.inn = inn ∧ x.alt = alt
  | [], acc, r, h, ha => by simp only [leanP, Option.some.injEq] at h; subst h; exact ha
  | nm :: l, acc, r, h, ha => by
    unfold leanP at h
    cases hn : num nm with
    | none => rw [hn] at h; cases h
    | some on =>
      rw [hn] at h
      simp only at h
      cases hi : its[on]? with
      | none => rw [hi] at h; cases h
      | some x =>
        rw [hi] at h
        simp only at h
        split at h
        · rename_i hc
          refine leanP_body l _ r h fun c hcm => ?_
          rcases List.mem_append.1 hcm with hcm | hcm
          · exact ha c hcm
          · simp only [List.mem_singleton] at hcm
            subst hcm
            exact ⟨x, hi, hc.1, hc.2.1⟩
        · cases h

theorem arcTo_has {its : List It} : ∀ (n i : Nat) (x : It) (on : Int), its[i]? = some x → on ∈ x.after → i < n → (on, (i : Int)) ∈ arcTo its n
  | 0, i, x, on, _, _, h => by omega
  | n + 1, i, x, on, hx, ho, h => by
    rw [arcTo]
    by_cases hi : i = n
    · subst hi
      rw [hx]
      exact List.mem_append_right _ (List.mem_map.2 ⟨on, ho, rfl⟩)
    · exact List.mem_append_left _ (arcTo_has n i x on hx ho (by omega))

end Go.Proofs.YteghapmlnkhepaaDoor

/- Plain: the plan of a saga is right, and its saga is that one. -/
namespace Go.Proofs.YteghapmlnkhepaaDoor

open Go.RowKit Go.Shelf Go.Proofs.YteghapmlnkhepaaDoor.Sx

theorem hangF_of {n : Nat} : ∀ (l : List It) (i : Nat), (∀ (j : Nat) (x : It), l[j]? = some x → hangI n (i + j) x = true) → hangF n i l = true
  | [], _, _ => rfl
  | y :: r, i, h => by
    simp only [hangF, Bool.and_eq_true]
    refine ⟨by have := h 0 y rfl; rwa [Nat.add_zero] at this, hangF_of r (i + 1) fun j x hx => ?_⟩
    have := h (j + 1) x (by simpa using hx)
    rwa [show i + (j + 1) = i + 1 + j by omega] at this

theorem no_self {its : List It} {W o : List Nat} (h : Dg.weaveP (its.length : Int) (arcP its) = .ok W o) {i : Nat} {x : It} (hx : its[i]? = some x) : (i : Int) ∉ x.after := by
  intro hm
  have hl := (List.getElem?_eq_some_iff.1 hx).1
  obtain ⟨_, hW, hends, _, hWl, hO, hol⟩ := Dg.weave_facts h
  rw [Int.toNat_natCast] at hW hends hWl hol
  have ha : ((i : Int), (i : Int)) ∈ arcP its := arcTo_has its.length i x (i : Int) hx hm hl
  have hb := (Dg.webOf_bit its.length (arcP its) hends i i).2 ⟨ha, hl⟩
  rw [← hW] at hb
  have hmo := Dg.ord_all hO (by omega) (show i < W.length by omega)
  obtain ⟨k, hk⟩ := List.mem_iff_getElem?.1 hmo
  exact Dg.nodup_at hO.nodup hk (hO.ahead k i hk i hb)

theorem plan_weave {x : By} {t : Tr} {its : List It} (h : planT x t = some its) : ∃ W o, Dg.weaveP (its.length : Int) (arcP its) = .ok W o := by
  unfold planT planP at h
  split at h
  · rename_i hc
    cases h
    have := hc.2.2.2
    unfold ordOk at this
    split at this
    · rename_i W o hw
      exact ⟨W, o, hw⟩
    · cases this
  · cases h

theorem plan_few {x : By} {t : Tr} {its : List It} (h : planT x t = some its) (hk : Kd true t) (j : Nat) (y : Pd) (hy : (xsT t 0 0 0)[j]? = some y) : ((leanK x t.len (xsT t 0 0 0) j).getD []).length < 16 := by
  obtain ⟨W, o, hw⟩ := plan_weave h
  obtain ⟨hfit, _, hK, he⟩ := planT_parts h
  obtain ⟨xs, hxs⟩ : ∃ xs, xs = xsT t 0 0 0 := ⟨_, rfl⟩
  have hcl := cn_le t true 0 0 0 hk (Nat.le_refl _) (by
    simp only [fitS, Bool.and_eq_true] at hfit
    exact hfit.2.2.2.2) (fun h => by cases h) (fun _ => by
    simp only [fitS, Bool.and_eq_true] at hfit
    have := hfit.2.2.2.1
    simp only [fits, Bool.and_eq_true] at this
    exact this.2) y (List.mem_of_getElem? hy)
  have hnum : ∀ j y, (xsT t 0 0 0)[j]? = some y → y.num = j + 1 := fun j y hy => by have := xsT_num t _ _ _ _ _ hy; omega
  rw [← hxs] at hK he hcl hy hnum ⊢
  have hl := (List.getElem?_eq_some_iff.1 hy).1
  obtain ⟨r, hr⟩ := Option.isSome_iff_exists.1 (hK j hl)
  obtain ⟨z, hz, hb, ha⟩ := its2_at x t.len xs j y hy
  rw [← he] at hz
  have hself := no_self hw hz
  rw [ha, hr] at hself
  rw [hr]
  simp only [Option.getD_some] at hself ⊢
  unfold leanK at hr
  rw [hy] at hr
  have hnd := (leanP_some _ _ _ hr (by simp) (by simp)).1
  have hbody := leanP_body _ _ _ hr (by simp)
  have h1 : ((j + 1) :: r).Nodup := by
    rw [List.nodup_cons]
    refine ⟨fun hm => hself ?_, hnd⟩
    exact List.mem_map.2 ⟨j + 1, hm, rfl⟩
  have h2 : ∀ c ∈ (j + 1) :: r, c ∈ cn y.inn y.alt xs := by
    intro c hc
    rcases List.mem_cons.1 hc with rfl | hc
    · have := cn_mem (List.mem_of_getElem? hy) rfl rfl
      rwa [hnum j y hy] at this
    · obtain ⟨u, hu, hui, hua⟩ := hbody c hc
      cases c with
      | zero =>
        have : u = rootI x t.len := by
          have : (its1 x t.len xs xs.length)[0]? = some (rootI x t.len) := rfl
          rw [this] at hu
          cases hu
          rfl
        subst this
        have : (-1 : Int) = (y.inn : Int) := hui
        omega
      | succ k =>
        unfold its1 at hu
        rw [List.take_length, List.getElem?_cons_succ, List.getElem?_map, Option.map_eq_some_iff] at hu
        obtain ⟨v, hv, rfl⟩ := hu
        have e1 : (v.inn : Int) = (y.inn : Int) := hui
        have e2 : (v.alt : Int) = (y.alt : Int) := hua
        have := cn_mem (List.mem_of_getElem? hv) (show v.inn = y.inn by omega) (show v.alt = y.alt by omega)
        rwa [hnum k v hv] at this
  have := Dg.pigeon _ _ h1 h2
  rw [List.length_cons] at this
  omega

/-- A saga's plan hangs as it must. -/
theorem plan_hangs {x : By} {t : Tr} {its : List It} (h : planT x t = some its) (hk : Kd true t) : hangs its = true := by
  obtain ⟨hfit, _, hK, he⟩ := planT_parts h
  have hfew := plan_few h hk
  have hcnt := fit_cnt hfit
  have hlen : its.length = cntA t + 1 := by rw [he, its2_len, xsT_len]
  simp only [fitS, Bool.and_eq_true] at hfit
  have hf4 : t.len ≤ 4 := by
    have := hfit.2.2.2.1
    simp only [fits, Bool.and_eq_true, decide_eq_true_eq] at this
    exact this.1
  have ham := am_le t 0 0 0 hfit.2.2.2.2
  simp only [hangs, Bool.and_eq_true, decide_eq_true_eq]
  refine ⟨by omega, by omega, hangF_of its 0 fun j z hz => ?_⟩
  rw [Nat.zero_add]
  simp only [hangI, Bool.and_eq_true, decide_eq_true_eq, List.all_eq_true]
  cases j with
  | zero =>
    rw [he, its2_root] at hz
    cases hz
    refine ⟨by show (-1 : Int) < _; omega, by show (0 : Int) ≤ (t.len : Int); omega, by show (t.len : Int) ≤ 4; omega, by show ([] : List Int).length < 16; decide, fun on hon => ?_⟩
    cases hon
  | succ j =>
    have hjl : j < (xsT t 0 0 0).length := by
      have := (List.getElem?_eq_some_iff.1 hz).1
      rw [xsT_len]
      omega
    obtain ⟨y, hy⟩ : ∃ y, (xsT t 0 0 0)[j]? = some y := ⟨_, List.getElem?_eq_getElem hjl⟩
    obtain ⟨z', hz', hb, ha⟩ := its2_at x t.len _ j y hy
    rw [← he, hz] at hz'
    cases hz'
    have hn : y.num = j + 1 := by have := xsT_num t _ _ _ _ _ hy; omega
    have hin : y.inn < y.num := (xsT_at t _ _ _ y (List.mem_of_getElem? hy)).2.2.2.2 (Nat.le_refl _)
    have hzi : z.inn = (y.inn : Int) := congrArg It.inn hb
    have hzs : z.alts = (y.am : Int) := congrArg It.alts hb
    have ham4 := ham y (List.mem_of_getElem? hy)
    have hl16 := hfew j y hy
    have hlk := (leanK_len x t.len (xsT t 0 0 0) j).2
    rw [xsT_len] at hlk
    refine ⟨by omega, by omega, by omega, ?_, fun on hon => ?_⟩
    · rw [ha]
      simpa [intsN] using hl16
    · rw [ha] at hon
      obtain ⟨c, hc, rfl⟩ := List.mem_map.1 hon
      have := hlk c hc
      omega

/-- The plan of a saga leads back to it. -/
theorem saga_of_plan {x : By} {t : Tr} {its : List It} (h : planT x t = some its) (hk : Kd true t) : sagaP its = some (x, t) := by
  have h1 := plan_name h
  have h2 : bodS its = t := bodS_back (plan_tells h) hk h1.2
  unfold sagaP
  rw [h1.1, h2, if_pos ⟨plan_hangs h hk, h⟩]

end Go.Proofs.YteghapmlnkhepaaDoor

