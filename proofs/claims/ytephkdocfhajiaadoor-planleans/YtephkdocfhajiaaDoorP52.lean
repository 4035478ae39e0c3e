/- Texts of the seat, packed: Tl Tm. -/
import Derived.Test.YtephkdocfhajiaaDoorP50
/- Plain: what leans on an item by its body's arcs is what chains of the arcs say (PlanLeans). -/
namespace Go.Proofs.YtephkdocfhajiaaDoor
open Go.RowKit Go.Shelf Go.Proofs.YtephkdocfhajiaaDoor.Sx

/-- On what an item leans. -/
def aftI (its : List It) (v : Nat) : List Int := match its[v]? with
  | some x => x.after
  | none => []

/-- The arcs by one leaning of one of such items. -/
def arcJ (K : List Nat) (i : Nat) (on : Int) : Nat → List (Int × Int)
  | 0 => []
  | j + 1 => arcJ K i on j ++ (if (K.getD j 0 : Int) = on then [((j : Int), (i : Int))] else [])

/-- The arcs by the first leanings of one. -/
def arcA (K : List Nat) (i : Nat) (l : List Int) : Nat → List (Int × Int)
  | 0 => []
  | k + 1 => arcA K i l k ++ arcJ K i (l.getD k 0) K.length

/-- The arcs of the first ones. -/
def arcK (its : List It) (K : List Nat) : Nat → List (Int × Int)
  | 0 => []
  | i + 1 => arcK its K i ++ arcA K i (aftI its (K.getD i 0)) (aftI its (K.getD i 0)).length

theorem arcJ_mem {K : List Nat} {i : Nat} {on : Int} {p : Int × Int} : ∀ n, p ∈ arcJ K i on n ↔ ∃ j, j < n ∧ (K.getD j 0 : Int) = on ∧ p = ((j : Int), (i : Int))
  | 0 => by simp [arcJ]
  | n + 1 => by
    rw [arcJ, List.mem_append, arcJ_mem n]
    constructor
    · rintro (⟨j, h1, h2⟩ | h)
      · exact ⟨j, by omega, h2⟩
      · split at h
        · rename_i hc
          exact ⟨n, by omega, hc, by simpa using h⟩
        · cases h
    · rintro ⟨j, h1, h2, h3⟩
      by_cases hj : j = n
      · subst hj
        right
        rw [if_pos h2]
        simpa using h3
      · exact .inl ⟨j, by omega, h2, h3⟩

theorem arcA_mem {K : List Nat} {i : Nat} {l : List Int} {p : Int × Int} : ∀ n, p ∈ arcA K i l n ↔ ∃ k, k < n ∧ p ∈ arcJ K i (l.getD k 0) K.length
  | 0 => by simp [arcA]
  | n + 1 => by
    rw [arcA, List.mem_append, arcA_mem n]
    constructor
    · rintro (⟨k, h1, h2⟩ | h)
      · exact ⟨k, by omega, h2⟩
      · exact ⟨n, by omega, h⟩
    · rintro ⟨k, h1, h2⟩
      by_cases hk : k = n
      · subst hk; exact .inr h2
      · exact .inl ⟨k, by omega, h2⟩

theorem getD_mem {l : List Int} {k : Nat} (h : k < l.length) : l.getD k 0 ∈ l := by
  rw [List.getD_eq_getElem?_getD, List.getElem?_eq_getElem h]
  exact List.getElem_mem h

theorem arcK_mem {its : List It} {K : List Nat} {p : Int × Int} : ∀ n, p ∈ arcK its K n ↔ ∃ i j, i < n ∧ j < K.length ∧ (K.getD j 0 : Int) ∈ aftI its (K.getD i 0) ∧ p = ((j : Int), (i : Int))
  | 0 => by simp [arcK]
  | n + 1 => by
    rw [arcK, List.mem_append, arcK_mem n, arcA_mem]
    constructor
    · rintro (⟨i, j, h1, h2⟩ | ⟨k, h1, h2⟩)
      · exact ⟨i, j, by omega, h2⟩
      · obtain ⟨j, h3, h4, h5⟩ := (arcJ_mem _).1 h2
        refine ⟨n, j, by omega, h3, ?_, h5⟩
        rw [h4]
        exact getD_mem h1
    · rintro ⟨i, j, h1, h2, h3, h4⟩
      by_cases hi : i = n
      · subst hi
        right
        obtain ⟨k, hk, hkk⟩ := List.mem_iff_getElem.1 h3
        refine ⟨k, hk, (arcJ_mem _).2 ⟨j, h2, ?_, h4⟩⟩
        rw [List.getD_eq_getElem?_getD (l := aftI its (K.getD i 0)), List.getElem?_eq_getElem hk, Option.getD_some, hkk]
      · exact .inl ⟨i, j, by omega, h2, h3, h4⟩

/-- The items of one body. -/
structure Kin (its : List It) (K : List Nat) (inn alt : Int) : Prop where
  nodup : K.Nodup
  mem : ∀ v, v ∈ K ↔ ∃ z, its[v]? = some z ∧ z.inn = inn ∧ z.alt = alt

theorem kidsF_nodup {inn alt : Int} : ∀ (l : List It) (k : Nat), (kidsF inn alt k l).Nodup
  | [], _ => List.nodup_nil
  | x :: r, k => by
    unfold kidsF
    split
    · rw [List.nodup_cons]
      refine ⟨fun h => ?_, kidsF_nodup r (k + 1)⟩
      have := ((kidsF_mem r (k + 1) k).1 h).1
      omega
    · exact kidsF_nodup r (k + 1)

theorem kin_of {its : List It} {inn alt : Int} (h : 0 ≤ inn ∧ inn < (its.length : Int)) : Kin its (kidsL its inn alt) inn alt := by
  unfold kidsL
  rw [if_pos h]
  refine ⟨kidsF_nodup its 0, fun v => ?_⟩
  rw [kidsF_mem]
  simp

theorem Kin.at_ {its : List It} {K : List Nat} {inn alt : Int} (h : Kin its K inn alt) {i : Nat} (hi : i < K.length) : ∃ z, its[K.getD i 0]? = some z ∧ z.inn = inn ∧ z.alt = alt := by
  refine (h.mem _).1 ?_
  rw [List.getD_eq_getElem?_getD, List.getElem?_eq_getElem hi]
  exact List.getElem_mem hi

theorem Kin.inj {its : List It} {K : List Nat} {inn alt : Int} (h : Kin its K inn alt) {i j : Nat} (hi : i < K.length) (hj : j < K.length) (he : K.getD i 0 = K.getD j 0) : i = j := by
  rw [List.getD_eq_getElem?_getD, List.getElem?_eq_getElem hi, List.getD_eq_getElem?_getD, List.getElem?_eq_getElem hj] at he
  refine (List.getElem?_inj hi h.nodup).1 ?_
  rw [List.getElem?_eq_getElem hi, List.getElem?_eq_getElem hj]
  exact congrArg some he

/-- The web of one body's arcs. -/
theorem loc_bit {its : List It} {K : List Nat} (hends : (arcK its K K.length).all (Dg.endsOk K.length) = true) (i j : Nat) : ((Dg.webOf K.length (arcK its K K.length)).getD i 0).testBit j = true ↔ i < K.length ∧ j < K.length ∧ (K.getD j 0 : Int) ∈ aftI its (K.getD i 0) := by
  rw [Dg.webOf_bit K.length _ hends i j, arcK_mem]
  constructor
  · rintro ⟨⟨i', j', h1, h2, h3, h4⟩, h5⟩
    simp only [Prod.mk.injEq] at h4
    obtain rfl : j = j' := by omega
    obtain rfl : i = i' := by omega
    exact ⟨h5, h2, h3⟩
  · rintro ⟨h1, h2, h3⟩
    exact ⟨⟨i, j, h1, h2, h3, rfl⟩, h1⟩

theorem loc_ends (its : List It) (K : List Nat) : (arcK its K K.length).all (Dg.endsOk K.length) = true := by
  rw [List.all_eq_true]
  intro p hp
  obtain ⟨i, j, h1, h2, _, rfl⟩ := (arcK_mem _).1 hp
  exact decide_eq_true (by simp only []; omega)

theorem glob_bit {its : List It} {W o : List Nat} (h : Dg.weaveP (its.length : Int) (Dg.swapA (arcP its)) = .ok W o) (f t : Nat) : (W.getD t 0).testBit f = true ↔ (t < its.length ∧ (t : Int) ∈ aftI its f) := by
  obtain ⟨_, hW, hends, _, _, _, _⟩ := Dg.weave_facts h
  rw [Int.toNat_natCast] at hW hends
  rw [hW, Dg.webOf_bit its.length _ hends t f, Dg.swapA_mem]
  constructor
  · rintro ⟨h1, h2⟩
    obtain ⟨i, x, hx, hi, ho⟩ := arcTo_at _ _ h1
    obtain rfl : f = i := by have : (f : Int) = (i : Int) := hi; omega
    refine ⟨h2, ?_⟩
    unfold aftI
    rw [hx]
    exact ho
  · rintro ⟨h1, h2⟩
    unfold aftI at h2
    cases hx : its[f]? with
    | none => rw [hx] at h2; cases h2
    | some x =>
      rw [hx] at h2
      exact ⟨arcTo_has its.length f x (t : Int) hx h2 (List.getElem?_eq_some_iff.1 hx).1, h1⟩

theorem aft_in {x : By} {t : Tr} {its : List It} (h : planT x t = some its) {f g : Nat} (ha : (g : Int) ∈ aftI its f) : ∃ y z, its[f]? = some y ∧ its[g]? = some z ∧ z.inn = y.inn ∧ z.alt = y.alt := by
  unfold aftI at ha
  cases hx : its[f]? with
  | none => rw [hx] at ha; cases ha
  | some y =>
    rw [hx] at ha
    obtain ⟨z, hz, h1, h2⟩ := lean_in h hx ha
    exact ⟨y, z, rfl, hz, h1, h2⟩

/-- One body's chains are those of all, turned. -/
theorem chain_loc {x : By} {t : Tr} {its : List It} (hp : planT x t = some its) {K : List Nat} {inn alt : Int} (hK : Kin its K inn alt) {W o : List Nat} (hw : Dg.weaveP (its.length : Int) (Dg.swapA (arcP its)) = .ok W o) {i k : Nat} (hi : i < K.length) (hk : k < K.length) :
    Dg.Chain (Dg.webOf K.length (arcK its K K.length)) i k ↔ Dg.Chain W (K.getD k 0) (K.getD i 0) := by
  have hends := loc_ends its K
  have step : ∀ a b, ((Dg.webOf K.length (arcK its K K.length)).getD b 0).testBit a = true → Dg.Chain W (K.getD b 0) (K.getD a 0) := by
    intro a b hb
    obtain ⟨h1, h2, h3⟩ := (loc_bit hends b a).1 hb
    obtain ⟨z, hz, _⟩ := hK.at_ h2
    exact .one ((glob_bit hw _ _).2 ⟨(List.getElem?_eq_some_iff.1 hz).1, h3⟩)
  constructor
  · intro h
    induction h with
    | one e => exact step _ _ e
    | more _ e ih =>
      have := (loc_bit hends _ _).1 e
      exact (step _ _ e).trans (ih this.2.1)
  · intro h
    have key : ∀ m j, Dg.Chain W m j → ∀ i, i < K.length → j = K.getD i 0 → ∃ k, k < K.length ∧ m = K.getD k 0 ∧ Dg.Chain (Dg.webOf K.length (arcK its K K.length)) i k := by
      have one : ∀ f t, (W.getD t 0).testBit f = true → ∀ i, i < K.length → t = K.getD i 0 → ∃ k, k < K.length ∧ f = K.getD k 0 ∧ Dg.Chain (Dg.webOf K.length (arcK its K K.length)) i k := by
        intro f t hb i hi ht
        obtain ⟨h1, h2⟩ := (glob_bit hw f t).1 hb
        obtain ⟨y, z, hy, hz, e1, e2⟩ := aft_in hp h2
        obtain ⟨z', hz', e3, e4⟩ := hK.at_ hi
        rw [← ht, hz] at hz'
        cases hz'
        obtain ⟨k, hk, hkk⟩ := List.mem_iff_getElem.1 ((hK.mem f).2 ⟨y, hy, e1.symm.trans e3, e2.symm.trans e4⟩)
        have hf : f = K.getD k 0 := by rw [List.getD_eq_getElem?_getD, List.getElem?_eq_getElem hk]; exact hkk.symm
        exact ⟨k, hk, hf, .one ((loc_bit hends k i).2 ⟨hk, hi, by rw [← hf, ← ht]; exact h2⟩)⟩
      intro m j hc
      induction hc with
      | one e => exact one _ _ e
      | more _ e ih =>
        intro i hi ht
        obtain ⟨a, ha, hg, hca⟩ := one _ _ e i hi ht
        obtain ⟨k, hk, hm, hck⟩ := ih a ha hg
        exact ⟨k, hk, hm, hca.trans hck⟩
    obtain ⟨k', hk', he, hc⟩ := key _ _ h i hi rfl
    rw [hK.inj hk hk' he]
    exact hc
end Go.Proofs.YtephkdocfhajiaaDoor

/- Plain: one body's arcs may be ordered; how many lean on an item (PlanLeans). -/
namespace Go.Proofs.YtephkdocfhajiaaDoor
open Go.RowKit Go.Shelf Go.Proofs.YtephkdocfhajiaaDoor.Sx

/-- The places of items among others. -/
def loc (K : List Nat) (o : List Nat) : List Nat := o.flatMap fun v => (List.range K.length).filter fun i => decide (K.getD i 0 = v)

theorem loc_append (K a b : List Nat) : loc K (a ++ b) = loc K a ++ loc K b := by simp [loc]

theorem loc_mem {K o : List Nat} {i : Nat} : i ∈ loc K o ↔ i < K.length ∧ K.getD i 0 ∈ o := by
  unfold loc
  rw [List.mem_flatMap]
  constructor
  · rintro ⟨v, hv, hi⟩
    rw [List.mem_filter, List.mem_range, decide_eq_true_eq] at hi
    exact ⟨hi.1, by rw [hi.2]; exact hv⟩
  · rintro ⟨h1, h2⟩
    exact ⟨_, h2, List.mem_filter.2 ⟨List.mem_range.2 h1, decide_eq_true rfl⟩⟩

theorem loc_nodup {K : List Nat} : ∀ {o : List Nat}, o.Nodup → (loc K o).Nodup
  | [], _ => List.nodup_nil
  | v :: o, h => by
    rw [List.nodup_cons] at h
    have e : loc K (v :: o) = (List.range K.length).filter (fun i => decide (K.getD i 0 = v)) ++ loc K o := by simp [loc]
    rw [e, List.nodup_append]
    refine ⟨List.Pairwise.filter _ List.nodup_range, loc_nodup h.2, ?_⟩
    intro a ha b hb hab
    subst hab
    rw [List.mem_filter, decide_eq_true_eq] at ha
    have := (loc_mem.1 hb).2
    rw [ha.2] at this
    exact h.1 this

theorem ord_bit {its : List It} {W o : List Nat} (h : Dg.weaveP (its.length : Int) (arcP its) = .ok W o) (f t : Nat) (ha : (f : Int) ∈ aftI its t) : (W.getD t 0).testBit f = true := by
  obtain ⟨_, hW, hends, _, _, _, _⟩ := Dg.weave_facts h
  rw [Int.toNat_natCast] at hW hends
  unfold aftI at ha
  cases hx : its[t]? with
  | none => rw [hx] at ha; cases ha
  | some x =>
    rw [hx] at ha
    have hl := (List.getElem?_eq_some_iff.1 hx).1
    rw [hW]
    exact (Dg.webOf_bit its.length _ hends t f).2 ⟨arcTo_has its.length t x (f : Int) hx ha hl, hl⟩

/-- One body's arcs in order. -/
theorem loc_ord {its : List It} {K : List Nat} {inn alt : Int} (hK : Kin its K inn alt) {W o : List Nat} (h : Dg.weaveP (its.length : Int) (arcP its) = .ok W o) :
    Dg.OrdOk (Dg.webOf K.length (arcK its K K.length)) (loc K o) ∧ (loc K o).length = K.length := by
  obtain ⟨_, _, _, _, hWl, hO, hol⟩ := Dg.weave_facts h
  rw [Int.toNat_natCast] at hWl hol
  have hends := loc_ends its K
  have hall : ∀ i, i < K.length → K.getD i 0 ∈ o := by
    intro i hi
    obtain ⟨z, hz, _⟩ := hK.at_ hi
    have := (List.getElem?_eq_some_iff.1 hz).1
    exact Dg.ord_all hO (by omega) (by omega)
  have hnd := loc_nodup (K := K) hO.nodup
  refine ⟨⟨hnd, fun i hi => by rw [Dg.webOf_len]; exact (loc_mem.1 hi).1, ?_⟩, ?_⟩
  · intro k i hk j hb
    obtain ⟨h1, h2, h3⟩ := (loc_bit hends i j).1 hb
    obtain ⟨q, hq⟩ := List.mem_iff_getElem?.1 (hall i h1)
    have hjo : K.getD j 0 ∈ o.take q := hO.ahead q _ hq _ (ord_bit h _ _ h3)
    have hsplit : o = o.take q ++ o.drop q := (List.take_append_drop q o).symm
    have hnq : K.getD i 0 ∉ o.take q := Dg.nodup_at hO.nodup hq
    have hlo : loc K o = loc K (o.take q) ++ loc K (o.drop q) := by rw [← loc_append, ← hsplit]
    have hkge : (loc K (o.take q)).length ≤ k := by
      apply Nat.le_of_not_lt
      intro hlt
      rw [hlo, List.getElem?_append_left hlt] at hk
      exact hnq (loc_mem.1 (List.mem_of_getElem? hk)).2
    have hj : j ∈ loc K (o.take q) := loc_mem.2 ⟨h2, hjo⟩
    rw [hlo, List.take_append, List.take_of_length_le hkge]
    exact List.mem_append_left _ hj
  · have a1 : (loc K o).length ≤ (List.range K.length).length := Dg.pigeon _ _ hnd fun i hi => List.mem_range.2 (loc_mem.1 hi).1
    have a2 : (List.range K.length).length ≤ (loc K o).length := Dg.pigeon _ _ List.nodup_range fun i hi => loc_mem.2 ⟨List.mem_range.1 hi, hall i (List.mem_range.1 hi)⟩
    rw [List.length_range] at a1 a2
    omega

theorem arcJ_len {its : List It} {K : List Nat} {inn alt : Int} (hK : Kin its K inn alt) (i : Nat) (on : Int) : ∀ n, n ≤ K.length → (arcJ K i on n).length ≤ 1 ∧ ((∃ j, j < n ∧ (K.getD j 0 : Int) = on) ∨ arcJ K i on n = [])
  | 0, _ => ⟨by simp [arcJ], .inr rfl⟩
  | n + 1, h => by
    obtain ⟨h1, h2⟩ := arcJ_len hK i on n (by omega)
    unfold arcJ
    by_cases hc : (K.getD n 0 : Int) = on
    · rw [if_pos hc]
      have h0 : arcJ K i on n = [] := by
        rcases h2 with ⟨j, hj, he⟩ | h2
        · have := hK.inj (i := j) (j := n) (by omega) (by omega) (by omega)
          omega
        · exact h2
      rw [h0]
      exact ⟨by simp, .inl ⟨n, by omega, hc⟩⟩
    · rw [if_neg hc, List.append_nil]
      exact ⟨h1, h2.imp (fun ⟨j, hj, he⟩ => ⟨j, by omega, he⟩) id⟩

theorem arcA_len {its : List It} {K : List Nat} {inn alt : Int} (hK : Kin its K inn alt) (i : Nat) (l : List Int) : ∀ n, (arcA K i l n).length ≤ n
  | 0 => by simp [arcA]
  | n + 1 => by
    have h1 := arcA_len hK i l n
    have h2 := (arcJ_len hK i (l.getD n 0) K.length (Nat.le_refl _)).1
    rw [arcA, List.length_append]
    omega

theorem arcK_len {its : List It} {K : List Nat} {inn alt : Int} (hK : Kin its K inn alt) (ha : ∀ v, (aftI its v).length ≤ 16) : ∀ n, (arcK its K n).length ≤ 16 * n
  | 0 => by simp [arcK]
  | n + 1 => by
    have h1 := arcK_len hK ha n
    have h2 := arcA_len hK n (aftI its (K.getD n 0)) (aftI its (K.getD n 0)).length
    have h3 := ha (K.getD n 0)
    rw [arcK, List.length_append]
    omega

/-- One body's arcs may be ordered. -/
theorem loc_weave {x : By} {t : Tr} {its : List It} (hp : planT x t = some its) (hk : Kd true t) {K : List Nat} {inn alt : Int} (hK : Kin its K inn alt) : K.length ≤ 64 ∧ ∃ r, Dg.weaveP (K.length : Int) (arcK its K K.length) = .ok (Dg.webOf K.length (arcK its K K.length)) r := by
  obtain ⟨W, o, hw⟩ := plan_weave hp
  obtain ⟨h0, h64, hat⟩ := hangs_at (plan_hangs hp hk)
  have hlen : K.length ≤ its.length := by
    have := Dg.pigeon K (List.range its.length) hK.nodup fun v hv => by
      obtain ⟨z, hz, _⟩ := (hK.mem v).1 hv
      exact List.mem_range.2 (List.getElem?_eq_some_iff.1 hz).1
    rwa [List.length_range] at this
  have haft : ∀ v, (aftI its v).length ≤ 16 := by
    intro v
    unfold aftI
    cases hz : its[v]? with
    | none => simp
    | some z => have := (hat v z hz).2.2.2.1; simp only; omega
  have hal := arcK_len hK haft K.length
  obtain ⟨hO, hol⟩ := loc_ord hK hw
  obtain ⟨r, hr⟩ := Dg.ordW_some (W := Dg.webOf K.length (arcK its K K.length)) (by rw [Dg.webOf_len]; omega) hO (by rw [Dg.webOf_len]; exact hol)
  refine ⟨by omega, r, ?_⟩
  unfold Dg.weaveP
  rw [if_neg (by
    rintro (h | h | h | h)
    · omega
    · omega
    · omega
    · rw [Int.toNat_natCast, loc_ends] at h; cases h), Int.toNat_natCast, hr]

theorem reach_mem {W o : List Nat} (hn : W.length ≤ 64) (hO : Dg.OrdOk W o) (hl : o.length = W.length) {j m : Nat} (hj : j < W.length) (hm : m < 64) : m ∈ (Dg.reachL W o).getD j [] ↔ Dg.Chain W m j := by
  have hrp : (Dg.reachP W o).length = W.length := by
    unfold Dg.reachP
    have := (Dg.reach_eq hn hO o.length (Nat.le_refl _)).1
    rw [List.take_length] at this
    exact this
  have hjl : j < (Dg.reachL W o).length := by simp [Dg.reachL]; omega
  have e : (Dg.reachL W o).getD j [] = Dg.bitsOf ((Dg.reachP W o).getD j 0) := by
    rw [List.getD_eq_getElem?_getD, List.getElem?_eq_getElem hjl, List.getD_eq_getElem?_getD, List.getElem?_eq_getElem (by omega)]
    simp [Dg.reachL]
  rw [e, ← Dg.reach_chain hn hO hl hj m]
  unfold Dg.bitsOf
  rw [List.mem_filter, List.mem_range]
  exact ⟨fun h => h.2, fun h => ⟨hm, h⟩⟩

/-- What PlanLeans asks of one body. -/
theorem lean_count {x : By} {t : Tr} {its : List It} (hp : planT x t = some its) {K : List Nat} {inn alt : Int} (hK : Kin its K inn alt) {W o : List Nat} (hw : Dg.weaveP (its.length : Int) (Dg.swapA (arcP its)) = .ok W o) {W' r : List Nat} (hr : Dg.weaveP (K.length : Int) (arcK its K K.length) = .ok W' r) {i : Nat} (hi : i < K.length) :
    (∀ k, k < K.length → i ∈ (Dg.reachL W' r).getD k [] → K.getD k 0 ∈ overL (Dg.reachL W o) (K.getD i 0 : Int)) ∧
    ((List.range K.length).filter fun k => decide (i ∈ (Dg.reachL W' r).getD k [])).length = (overL (Dg.reachL W o) (K.getD i 0 : Int)).length := by
  have hov := ov_of hw
  obtain ⟨hn', hW', _, _, hWl', hO', hol'⟩ := Dg.weave_facts hr
  rw [Int.toNat_natCast] at hW' hWl' hol'
  obtain ⟨z, hz, _⟩ := hK.at_ hi
  have hzl := (List.getElem?_eq_some_iff.1 hz).1
  have hoL : overL (Dg.reachL W o) (K.getD i 0 : Int) = (Dg.reachL W o).getD (K.getD i 0) [] := by
    have hrl : (Dg.reachL W o).length = W.length := by
      have := (Dg.reach_eq hov.few hov.ord o.length (Nat.le_refl _)).1
      rw [List.take_length] at this
      simp [Dg.reachL]
      exact this
    unfold overL
    rw [if_pos (by have := hov.len; omega), Int.toNat_natCast]
  have hiff : ∀ k, k < K.length → (i ∈ (Dg.reachL W' r).getD k [] ↔ K.getD k 0 ∈ overL (Dg.reachL W o) (K.getD i 0 : Int)) := by
    intro k hk2
    obtain ⟨y, hy, _⟩ := hK.at_ hk2
    have hyl := (List.getElem?_eq_some_iff.1 hy).1
    have hfew := hov.few
    have hlen := hov.len
    rw [reach_mem (by omega) hO' (by omega) (by omega) (by omega), hoL, reach_mem hov.few hov.ord hov.olen (by omega) (by omega), hW']
    exact chain_loc hp hK hw hi hk2
  refine ⟨fun k h1 h2 => (hiff k h1).1 h2, ?_⟩
  have hcnd : (((List.range K.length).filter fun k => decide (i ∈ (Dg.reachL W' r).getD k [])).map fun k => K.getD k 0).Nodup := by
    unfold List.Nodup
    rw [List.pairwise_map]
    refine List.Pairwise.imp_of_mem (fun {a b} ha hb hne he => hne ?_) (List.Pairwise.filter _ List.nodup_range)
    exact hK.inj (List.mem_range.1 (List.mem_filter.1 ha).1) (List.mem_range.1 (List.mem_filter.1 hb).1) he
  have hond : (overL (Dg.reachL W o) (K.getD i 0 : Int)).Nodup := by
    rw [hoL]
    have : (Dg.reachL W o).getD (K.getD i 0) [] = [] ∨ ∃ s, (Dg.reachL W o).getD (K.getD i 0) [] = Dg.bitsOf s := by
      rw [List.getD_eq_getElem?_getD]
      unfold Dg.reachL
      rw [List.getElem?_map]
      cases (Dg.reachP W o)[K.getD i 0]? with
      | none => exact .inl rfl
      | some s => exact .inr ⟨s, rfl⟩
    rcases this with h | ⟨s, h⟩
    · rw [h]; exact List.nodup_nil
    · rw [h]; exact List.Pairwise.filter _ List.nodup_range
  have a1 := Dg.pigeon _ (overL (Dg.reachL W o) (K.getD i 0 : Int)) hcnd fun v hv => by
    obtain ⟨k, hk2, rfl⟩ := List.mem_map.1 hv
    obtain ⟨h1, h2⟩ := List.mem_filter.1 hk2
    exact (hiff k (List.mem_range.1 h1)).1 (of_decide_eq_true h2)
  have a2 := Dg.pigeon (overL (Dg.reachL W o) (K.getD i 0 : Int)) (((List.range K.length).filter fun k => decide (i ∈ (Dg.reachL W' r).getD k [])).map fun k => K.getD k 0) hond fun m hm => by
    obtain ⟨_, hc⟩ := over_mem hov hm
    obtain ⟨y, hy, e1, e2⟩ := chain_in hp hov hc z hz
    obtain ⟨z', hz', e3, e4⟩ := hK.at_ hi
    rw [hz] at hz'
    cases hz'
    obtain ⟨k, hk2, hkk⟩ := List.mem_iff_getElem.1 ((hK.mem m).2 ⟨y, hy, e1.trans e3, e2.trans e4⟩)
    have hmk : K.getD k 0 = m := by rw [List.getD_eq_getElem?_getD, List.getElem?_eq_getElem hk2]; exact hkk
    refine List.mem_map.2 ⟨k, List.mem_filter.2 ⟨List.mem_range.2 hk2, decide_eq_true ((hiff k hk2).2 ?_)⟩, hmk⟩
    rw [hmk]
    exact hm
  rw [List.length_map] at a1 a2
  omega
end Go.Proofs.YtephkdocfhajiaaDoor

