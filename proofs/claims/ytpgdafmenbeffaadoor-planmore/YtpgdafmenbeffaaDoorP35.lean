/- Texts of the seat, packed: Td Tf Tg Th Tp. -/
import Derived.Test.YtpgdafmenbeffaaDoorP34
import Derived.Test.YtpgdafmenbeffaaDoorP11
import Derived.Test.YtpgdafmenbeffaaDoorP29
/- Plain: the plan of a saga is right, and its saga is that one. -/
namespace Go.Proofs.YtpgdafmenbeffaaDoor
open Go.RowKit Go.Shelf Go.Proofs.YtpgdafmenbeffaaDoor.Sx

theorem hangF_of {n : Nat} : ∀ (l : List It) (i : Nat), (∀ (j : Nat) (x : It), l[j]? = some x → hangI n (i + j) x = true) → hangF n i l = true
  | [], _, _ => rfl
  | y :: r, i, h => by
    simp only [hangF, Bool.and_eq_true]
    refine ⟨by have := h 0 y rfl; rwa [Nat.add_zero] at this, hangF_of r (i + 1) fun j x hx => ?_⟩
    have := h (j + 1) x (by simpa using hx)
    rwa [show i + (j + 1) = i + 1 + j by omega] at this

theorem no_self {its : List It} {W o : List Nat} (h : Dg.weaveP (its.length : Int) (arcP its) = .ok W o) {i : Nat} {x : It} (hx : its[i]? = some x) : (i : Int) ∉ x.after := by
  intro hm
  have hl := (List.getElem?_eq_some_iff.1 hx).1
  obtain ⟨_, hW, hends, _, hWl, hO, hol⟩ := Dg.weave_facts h
  rw [Int.toNat_natCast] at hW hends hWl hol
  have ha : ((i : Int), (i : Int)) ∈ arcP its := arcTo_has its.length i x (i : Int) hx hm hl
  have hb := (Dg.webOf_bit its.length (arcP its) hends i i).2 ⟨ha, hl⟩
  rw [← hW] at hb
  have hmo := Dg.ord_all hO (by omega) (show i < W.length by omega)
  obtain ⟨k, hk⟩ := List.mem_iff_getElem?.1 hmo
  exact Dg.nodup_at hO.nodup hk (hO.ahead k i hk i hb)

theorem plan_weave {x : By} {t : Tr} {its : List It} (h : planT x t = some its) : ∃ W o, Dg.weaveP (its.length : Int) (arcP its) = .ok W o := by
  unfold planT planP at h
  split at h
  · rename_i hc
    cases h
    have := hc.2.2.2
    unfold ordOk at this
    split at this
    · rename_i W o hw
      exact ⟨W, o, hw⟩
    · cases this
  · cases h

theorem plan_few {x : By} {t : Tr} {its : List It} (h : planT x t = some its) (hk : Kd true t) (j : Nat) (y : Pd) (hy : (xsT t 0 0 0)[j]? = some y) : ((leanK x t.len (xsT t 0 0 0) j).getD []).length < 16 := by
  obtain ⟨W, o, hw⟩ := plan_weave h
  obtain ⟨hfit, _, hK, he⟩ := planT_parts h
  obtain ⟨xs, hxs⟩ : ∃ xs, xs = xsT t 0 0 0 := ⟨_, rfl⟩
  have hcl := cn_le t true 0 0 0 hk (Nat.le_refl _) (by
    simp only [fitS, Bool.and_eq_true] at hfit
    exact hfit.2.2.2.2) (fun h => by cases h) (fun _ => by
    simp only [fitS, Bool.and_eq_true] at hfit
    have := hfit.2.2.2.1
    simp only [fits, Bool.and_eq_true] at this
    exact this.2) y (List.mem_of_getElem? hy)
  have hnum : ∀ j y, (xsT t 0 0 0)[j]? = some y → y.num = j + 1 := fun j y hy => by have := xsT_num t _ _ _ _ _ hy; omega
  rw [← hxs] at hK he hcl hy hnum ⊢
  have hl := (List.getElem?_eq_some_iff.1 hy).1
  obtain ⟨r, hr⟩ := Option.isSome_iff_exists.1 (hK j hl)
  obtain ⟨z, hz, hb, ha⟩ := its2_at x t.len xs j y hy
  rw [← he] at hz
  have hself := no_self hw hz
  rw [ha, hr] at hself
  rw [hr]
  simp only [Option.getD_some] at hself ⊢
  unfold leanK at hr
  rw [hy] at hr
  have hnd := (leanP_some _ _ _ hr (by simp) (by simp)).1
  have hbody := leanP_body _ _ _ hr (by simp)
  have h1 : ((j + 1) :: r).Nodup := by
    rw [List.nodup_cons]
    refine ⟨fun hm => hself ?_, hnd⟩
    exact List.mem_map.2 ⟨j + 1, hm, rfl⟩
  have h2 : ∀ c ∈ (j + 1) :: r, c ∈ cn y.inn y.alt xs := by
    intro c hc
    rcases List.mem_cons.1 hc with rfl | hc
    · have := cn_mem (List.mem_of_getElem? hy) rfl rfl
      rwa [hnum j y hy] at this
    · obtain ⟨u, hu, hui, hua⟩ := hbody c hc
      cases c with
      | zero =>
        have : u = rootI x t.len := by
          have : (its1 x t.len xs xs.length)[0]? = some (rootI x t.len) := rfl
          rw [this] at hu
          cases hu
          rfl
        subst this
        have : (-1 : Int) = (y.inn : Int) := hui
        omega
      | succ k =>
        unfold its1 at hu
        rw [List.take_length, List.getElem?_cons_succ, List.getElem?_map, Option.map_eq_some_iff] at hu
        obtain ⟨v, hv, rfl⟩ := hu
        have e1 : (v.inn : Int) = (y.inn : Int) := hui
        have e2 : (v.alt : Int) = (y.alt : Int) := hua
        have := cn_mem (List.mem_of_getElem? hv) (show v.inn = y.inn by omega) (show v.alt = y.alt by omega)
        rwa [hnum k v hv] at this
  have := Dg.pigeon _ _ h1 h2
  rw [List.length_cons] at this
  omega

/-- A saga's plan hangs as it must. -/
theorem plan_hangs {x : By} {t : Tr} {its : List It} (h : planT x t = some its) (hk : Kd true t) : hangs its = true := by
  obtain ⟨hfit, _, hK, he⟩ := planT_parts h
  have hfew := plan_few h hk
  have hcnt := fit_cnt hfit
  have hlen : its.length = cntA t + 1 := by rw [he, its2_len, xsT_len]
  simp only [fitS, Bool.and_eq_true] at hfit
  have hf4 : t.len ≤ 4 := by
    have := hfit.2.2.2.1
    simp only [fits, Bool.and_eq_true, decide_eq_true_eq] at this
    exact this.1
  have ham := am_le t 0 0 0 hfit.2.2.2.2
  simp only [hangs, Bool.and_eq_true, decide_eq_true_eq]
  refine ⟨by omega, by omega, hangF_of its 0 fun j z hz => ?_⟩
  rw [Nat.zero_add]
  simp only [hangI, Bool.and_eq_true, decide_eq_true_eq, List.all_eq_true]
  cases j with
  | zero =>
    rw [he, its2_root] at hz
    cases hz
    refine ⟨by show (-1 : Int) < _; omega, by show (0 : Int) ≤ (t.len : Int); omega, by show (t.len : Int) ≤ 4; omega, by show ([] : List Int).length < 16; decide, fun on hon => ?_⟩
    cases hon
  | succ j =>
    have hjl : j < (xsT t 0 0 0).length := by
      have := (List.getElem?_eq_some_iff.1 hz).1
      rw [xsT_len]
      omega
    obtain ⟨y, hy⟩ : ∃ y, (xsT t 0 0 0)[j]? = some y := ⟨_, List.getElem?_eq_getElem hjl⟩
    obtain ⟨z', hz', hb, ha⟩ := its2_at x t.len _ j y hy
    rw [← he, hz] at hz'
    cases hz'
    have hn : y.num = j + 1 := by have := xsT_num t _ _ _ _ _ hy; omega
    have hin : y.inn < y.num := (xsT_at t _ _ _ y (List.mem_of_getElem? hy)).2.2.2.2 (Nat.le_refl _)
    have hzi : z.inn = (y.inn : Int) := congrArg It.inn hb
    have hzs : z.alts = (y.am : Int) := congrArg It.alts hb
    have ham4 := ham y (List.mem_of_getElem? hy)
    have hl16 := hfew j y hy
    have hlk := (leanK_len x t.len (xsT t 0 0 0) j).2
    rw [xsT_len] at hlk
    refine ⟨by omega, by omega, by omega, ?_, fun on hon => ?_⟩
    · rw [ha]
      simpa [intsN] using hl16
    · rw [ha] at hon
      obtain ⟨c, hc, rfl⟩ := List.mem_map.1 hon
      have := hlk c hc
      omega

/-- The plan of a saga leads back to it. -/
theorem saga_of_plan {x : By} {t : Tr} {its : List It} (h : planT x t = some its) (hk : Kd true t) : sagaP its = some (x, t) := by
  have h1 := plan_name h
  have h2 : bodS its = t := bodS_back (plan_tells h) hk h1.2
  unfold sagaP
  rw [h1.1, h2, if_pos ⟨plan_hangs h hk, h⟩]

/-- What a right plan's saga leads to. -/
theorem plan_of_saga {its : List It} {x : By} {t : Tr} (h : sagaP its = some (x, t)) : planT x t = some its := by
  unfold sagaP at h
  split at h
  · rename_i hc
    simp only [Option.some.injEq, Prod.mk.injEq] at h
    rw [← h.1, ← h.2]
    exact hc.2
  · cases h
end Go.Proofs.YtpgdafmenbeffaaDoor

/- Plain: what is told of the plan of a saga: its bodies, what stands above, how many. -/
namespace Go.Proofs.YtpgdafmenbeffaaDoor
open Go.RowKit Go.Shelf Go.Proofs.YtpgdafmenbeffaaDoor.Sx

theorem kidsF_mem {inn alt : Int} : ∀ (l : List It) (k j : Nat), j ∈ kidsF inn alt k l ↔ k ≤ j ∧ ∃ x, l[j - k]? = some x ∧ x.inn = inn ∧ x.alt = alt
  | [], k, j => by simp [kidsF]
  | x :: r, k, j => by
    have ih := kidsF_mem (inn := inn) (alt := alt) r (k + 1) j
    have hrest : (k + 1 ≤ j ∧ ∃ y, r[j - (k + 1)]? = some y ∧ y.inn = inn ∧ y.alt = alt) ↔ (k < j ∧ ∃ y, (x :: r)[j - k]? = some y ∧ y.inn = inn ∧ y.alt = alt) := by
      constructor
      · rintro ⟨h1, y, h2, h3⟩
        refine ⟨by omega, y, ?_, h3⟩
        rw [show j - k = (j - (k + 1)) + 1 by omega, List.getElem?_cons_succ]
        exact h2
      · rintro ⟨h1, y, h2, h3⟩
        refine ⟨by omega, y, ?_, h3⟩
        rw [show j - k = (j - (k + 1)) + 1 by omega, List.getElem?_cons_succ] at h2
        exact h2
    unfold kidsF
    by_cases hc : x.inn = inn ∧ x.alt = alt
    · rw [if_pos hc, List.mem_cons, ih, hrest]
      constructor
      · rintro (rfl | ⟨h1, h2⟩)
        · exact ⟨Nat.le_refl _, x, by simp, hc⟩
        · exact ⟨by omega, h2⟩
      · rintro ⟨h1, h2⟩
        by_cases hj : j = k
        · exact .inl hj
        · exact .inr ⟨by omega, h2⟩
    · rw [if_neg hc, ih, hrest]
      constructor
      · rintro ⟨h1, h2⟩
        exact ⟨by omega, h2⟩
      · rintro ⟨h1, y, h2, h3⟩
        by_cases hj : j = k
        · subst hj
          rw [Nat.sub_self, List.getElem?_cons_zero] at h2
          cases h2
          exact absurd h3 hc
        · exact ⟨by omega, y, h2, h3⟩

theorem kidsF_count {inn alt : Int} : ∀ (l : List It) (k : Nat), (kidsF inn alt k l).length = l.countP fun x => decide (x.inn = inn ∧ x.alt = alt)
  | [], k => rfl
  | x :: r, k => by
    unfold kidsF
    rw [List.countP_cons]
    by_cases hc : x.inn = inn ∧ x.alt = alt
    · rw [if_pos hc, List.length_cons, kidsF_count r (k + 1), if_pos (decide_eq_true hc)]
    · rw [if_neg hc, kidsF_count r (k + 1), if_neg (by simpa using hc)]
      rfl

theorem kidsL_mem {its : List It} {i j alt : Nat} (hi : i < its.length) : j ∈ kidsL its (i : Int) (alt : Int) ↔ ∃ x, its[j]? = some x ∧ x.inn = (i : Int) ∧ x.alt = (alt : Int) := by
  unfold kidsL
  rw [if_pos (by omega), kidsF_mem]
  simp

theorem kidsT_some {its : List It} {rec : Nat → Tr} {i alt : Nat} : ∀ k, kidsT its rec i alt k ≠ [] → ∃ (j : Nat) (x : It), its[j]? = some x ∧ x.inn = (i : Int) ∧ x.alt = (alt : Int)
  | 0, h => absurd rfl h
  | k + 1, h => by
    rw [kidsT] at h
    cases hx : its[k]? with
    | none =>
      rw [hx] at h
      simp only [List.append_nil] at h
      exact kidsT_some k h
    | some x =>
      rw [hx] at h
      simp only at h
      by_cases hc : x.inn = (i : Int) ∧ x.alt = (alt : Int)
      · exact ⟨k, x, hx, hc⟩
      · rw [if_neg hc, List.append_nil] at h
        exact kidsT_some k h

/-- What stands in a node is what its item tells of. -/
theorem nodes_bod {its : List It} {xs : List Pd} (h : Tells its xs) (t : Tr) : ∀ (k : Bool) (inn alt last : Nat) (pre post : List Pd), Kd k t → xs = pre ++ xsT t inn alt last ++ post → pre.length = last → inn ≤ last → (∀ y ∈ pre, y.inn < y.num ∧ y.num ≤ last) → (∀ y ∈ post, y.inn ≤ last ∨ last + cntA t < y.inn) → ∀ y ∈ xsT t inn alt last, bodT its (its.length + 1) y.num = y.alts := by
  induction t with
  | e => intro _ _ _ _ _ _ _ _ _ _ _ _ y hy; cases hy
  | b x r ih1 ih2 =>
    rintro k i a0 last pre post ⟨_, hkx, hkr⟩ hx hl hi hpre hpost y hy
    have hcnt : cntA (.b x r) = cntA x + cntA r := rfl
    have hxx : xs = pre ++ xsT x i a0 last ++ (xsT r i (a0 + 1) (last + cntA x) ++ post) := by rw [hx, xsT]; simp
    have hxr : xs = (pre ++ xsT x i a0 last) ++ xsT r i (a0 + 1) (last + cntA x) ++ post := by rw [hx, xsT]; simp
    rw [xsT, List.mem_append] at hy
    rcases hy with hy | hy
    · exact ih1 false i a0 last pre _ hkx hxx hl hi hpre (fun z hz => by
        rcases List.mem_append.1 hz with hz | hz
        · have := (xsT_at r _ _ _ z hz).2.2.1; omega
        · have := hpost z hz; omega) y hy
    · exact ih2 true i (a0 + 1) (last + cntA x) (pre ++ xsT x i a0 last) post hkr hxr (by rw [List.length_append, xsT_len, hl]) (by omega) (fun z hz => by
        rcases List.mem_append.1 hz with hz | hz
        · have := hpre z hz; omega
        · have := xsT_at x _ _ _ z hz; exact ⟨this.2.2.2.2 hi, this.2.1⟩) (fun z hz => by have := hpost z hz; omega) y hy
  | n l s r ih1 ih2 =>
    rintro k inn alt last pre post ⟨hkk, hks, hkr⟩ hx hl hi hpre hpost y hy
    have hcnt : cntA (.n l s r) = 1 + cntA s + cntA r := rfl
    obtain ⟨nd, hnd⟩ : ∃ nd : Pd, nd = ⟨last + 1, l, s, none, 0, 0, none, s.len, 0, inn, alt⟩ := ⟨_, rfl⟩
    have hxT : xsT (.n l s r) inn alt last = nd :: (xsT s (last + 1) 0 (last + 1) ++ xsT r inn alt (last + 1 + cntA s)) := by rw [hnd, xsT]
    have hxs : xs = (pre ++ [nd]) ++ xsT s (last + 1) 0 (last + 1) ++ (xsT r inn alt (last + 1 + cntA s) ++ post) := by rw [hx, hxT]; simp
    have hxr : xs = (pre ++ nd :: xsT s (last + 1) 0 (last + 1)) ++ xsT r inn alt (last + 1 + cntA s) ++ post := by rw [hx, hxT]; simp
    have hat : xs[last]? = some nd := by rw [hx, hxT, ← hl]; simp
    have hndn : nd.num = last + 1 ∧ nd.inn = inn ∧ nd.am = s.len ∧ nd.alts = s := by rw [hnd]; exact ⟨rfl, rfl, rfl, rfl⟩
    obtain ⟨_, _, z, hz, _, _, hza, _⟩ := h.at_ last nd hat
    have hal : altsI its (last + 1) = s.len := by unfold altsI; rw [hz]; simp only; rw [hza, hndn.2.2.1]; simp
    have hr1 : ∀ y ∈ xsT r inn alt (last + 1 + cntA s), y.inn ≤ last ∨ last + 1 + cntA s < y.inn := by
      intro y hy
      have := (xsT_at r _ _ _ y hy).2.2.1
      omega
    have hpre2 : ∀ y ∈ pre ++ [nd], y.inn < y.num ∧ y.num ≤ last + 1 := by
      intro y hy
      rcases List.mem_append.1 hy with hy | hy
      · have := hpre y hy; omega
      · simp only [List.mem_singleton] at hy
        subst hy
        omega
    have hpost2 : ∀ y ∈ xsT r inn alt (last + 1 + cntA s) ++ post, y.inn ≤ last + 1 ∨ last + 1 + cntA s < y.inn := fun y hy => by
      rcases List.mem_append.1 hy with hy | hy
      · have := hr1 y hy; omega
      · have := hpost y hy; omega
    rw [hxT, List.mem_cons, List.mem_append] at hy
    rcases hy with rfl | hy | hy
    · have h1 := (bod_main h s).2 (last + 1) 0 (last + 1) its.length (pre ++ [y]) (xsT r inn alt (last + 1 + cntA s) ++ post) hks hxs (by rw [List.length_append, hl]; rfl) (Nat.le_refl _) hpre2 hpost2 (by omega)
      rw [hndn.1, hndn.2.2.2]
      exact bodT_of h s (last + 1) its.length (pre ++ [y]) (xsT r inn alt (last + 1 + cntA s) ++ post) hxs hal (fun z hz => by have := hpre2 z hz; omega) (fun z hz => by
        rcases List.mem_append.1 hz with hz | hz
        · have := hr1 z hz; omega
        · have := hpost z hz; omega) h1
    · exact ih1 true (last + 1) 0 (last + 1) (pre ++ [nd]) (xsT r inn alt (last + 1 + cntA s) ++ post) hks hxs (by rw [List.length_append, hl]; rfl) (Nat.le_refl _) hpre2 hpost2 y hy
    · exact ih2 false inn alt (last + 1 + cntA s) (pre ++ nd :: xsT s (last + 1) 0 (last + 1)) post hkr hxr (by rw [List.length_append, List.length_cons, xsT_len, hl]; omega) (by omega) (fun z hz => by
        rcases List.mem_append.1 hz with hz | hz
        · have := hpre z hz; omega
        · rcases List.mem_cons.1 hz with rfl | hz
          · omega
          · have := xsT_at s _ _ _ z hz; exact ⟨this.2.2.2.2 (Nat.le_refl _), this.2.1⟩) (fun z hz => by have := hpost z hz; omega) y hy

theorem fits_all (t : Tr) : ∀ (inn alt last : Nat), fitN t = true → ∀ y ∈ xsT t inn alt last, fits y.alts = true ∧ y.am = y.alts.len := by
  induction t with
  | e => intro _ _ _ _ y hy; cases hy
  | b x r ih1 ih2 =>
    intro inn alt last hN y hy
    simp only [fitN, Bool.and_eq_true] at hN
    rw [xsT, List.mem_append] at hy
    rcases hy with hy | hy
    · exact ih1 _ _ _ hN.1 y hy
    · exact ih2 _ _ _ hN.2 y hy
  | n l s r ih1 ih2 =>
    intro inn alt last hN y hy
    simp only [fitN, Bool.and_eq_true] at hN
    rw [xsT, List.mem_cons, List.mem_append] at hy
    rcases hy with rfl | hy | hy
    · exact ⟨hN.1, rfl⟩
    · exact ih1 _ _ _ hN.2.1 y hy
    · exact ih2 _ _ _ hN.2.2 y hy

/-- In which body of what a node stands. -/
theorem alt_top (t : Tr) : ∀ (k : Bool) (inn alt last : Nat), Kd k t → inn ≤ last → ∀ y ∈ xsT t inn alt last, y.inn = inn → k = true → y.alt < alt + t.len := by
  induction t with
  | e => intro _ _ _ _ _ _ y hy; cases hy
  | b x r ih1 ih2 =>
    rintro k inn alt last ⟨_, hx, hr⟩ hl y hy hi hk
    have hlen : (Tr.b x r).len = r.len + 1 := rfl
    rw [xsT, List.mem_append] at hy
    rcases hy with hy | hy
    · have := (xsT_alt x false inn alt last hx hl y hy hi).1 rfl
      omega
    · have := ih2 true inn (alt + 1) (last + cntA x) hr (by omega) y hy hi rfl
      omega
  | n l s r _ _ => rintro k inn alt last ⟨hk, _⟩ _ y _ _ hk2; rw [hk] at hk2; cases hk2

theorem alt_lt (t : Tr) : ∀ (k : Bool) (inn alt last : Nat), Kd k t → inn ≤ last → ∀ y ∈ xsT t inn alt last, y.inn = inn ∨ ∃ p ∈ xsT t inn alt last, p.num = y.inn ∧ y.alt < p.am := by
  induction t with
  | e => intro _ _ _ _ _ _ y hy; cases hy
  | b x r ih1 ih2 =>
    rintro k inn alt last ⟨_, hx, hr⟩ hl y hy
    rw [xsT, List.mem_append] at hy
    rcases hy with hy | hy
    · rcases ih1 false inn alt last hx hl y hy with h | ⟨p, h1, h2⟩
      · exact .inl h
      · exact .inr ⟨p, by rw [xsT]; exact List.mem_append_left _ h1, h2⟩
    · rcases ih2 true inn (alt + 1) (last + cntA x) hr (by omega) y hy with h | ⟨p, h1, h2⟩
      · exact .inl h
      · exact .inr ⟨p, by rw [xsT]; exact List.mem_append_right _ h1, h2⟩
  | n l s r ih1 ih2 =>
    rintro k inn alt last ⟨_, hs, hr⟩ hl y hy
    rw [xsT, List.mem_cons, List.mem_append] at hy
    rcases hy with rfl | hy | hy
    · exact .inl rfl
    · rcases ih1 true (last + 1) 0 (last + 1) hs (Nat.le_refl _) y hy with h | ⟨p, h1, h2⟩
      · have := alt_top s true (last + 1) 0 (last + 1) hs (Nat.le_refl _) y hy h rfl
        refine .inr ⟨_, by rw [xsT]; exact List.mem_cons_self .., h.symm, ?_⟩
        show y.alt < s.len
        omega
      · exact .inr ⟨p, by rw [xsT]; exact List.mem_cons_of_mem _ (List.mem_append_left _ h1), h2⟩
    · rcases ih2 false inn alt (last + 1 + cntA s) hr (by omega) y hy with h | ⟨p, h1, h2⟩
      · exact .inl h
      · exact .inr ⟨p, by rw [xsT]; exact List.mem_cons_of_mem _ (List.mem_append_right _ h1), h2⟩
end Go.Proofs.YtpgdafmenbeffaaDoor

/- Plain: what PlanAll asks of the plan of a saga. -/
namespace Go.Proofs.YtpgdafmenbeffaaDoor
open Go.RowKit Go.Shelf Go.Proofs.YtpgdafmenbeffaaDoor.Sx

theorem fitB_bodies : ∀ l : List Tr, fitB (bodiesL l) = true → ∀ x ∈ l, 0 < x.len ∧ x.len ≤ 16
  | [], _, x, hx => by cases hx
  | y :: r, h, x, hx => by
    simp only [bodiesL, fitB, Bool.and_eq_true, decide_eq_true_eq] at h
    rcases List.mem_cons.1 hx with rfl | hx
    · exact h.1
    · exact fitB_bodies r h.2 x hx

/-- Each body of a plan's item has items. -/
theorem kids_some {x : By} {t : Tr} {its : List It} (h : planT x t = some its) (hk : Kd true t) {i alt : Nat} {z : It} (hz : its[i]? = some z) (ha : (alt : Int) < z.alts) : ∃ (j : Nat) (y : It), its[j]? = some y ∧ y.inn = (i : Int) ∧ y.alt = (alt : Int) := by
  obtain ⟨hfit, _, _, he⟩ := planT_parts h
  have htell := plan_tells h
  simp only [fitS, Bool.and_eq_true] at hfit
  have hbod : fits (bodT its (its.length + 1) i) = true := by
    cases i with
    | zero =>
      have h1 := plan_name h
      have h2 : bodS its = t := bodS_back htell hk h1.2
      unfold bodS at h2
      rw [h2]
      exact hfit.2.2.2.1
    | succ j =>
      have hjl : j < (xsT t 0 0 0).length := by
        have := (List.getElem?_eq_some_iff.1 hz).1
        rw [htell.len] at this
        omega
      obtain ⟨y, hy⟩ : ∃ y, (xsT t 0 0 0)[j]? = some y := ⟨_, List.getElem?_eq_getElem hjl⟩
      have hm := List.mem_of_getElem? hy
      have h1 := nodes_bod htell t true 0 0 0 [] [] hk (by simp) rfl (Nat.le_refl _) (fun y hy => by cases hy) (fun y hy => by cases hy) y hm
      rw [(htell.at_ j y hy).1] at h1
      rw [h1]
      exact (fits_all t 0 0 0 hfit.2.2.2.2 y hm).1
  have hal : altsI its i = z.alts.toNat := by unfold altsI; rw [hz]
  simp only [fits, Bool.and_eq_true] at hbod
  have hb := hbod.2
  rw [bodT] at hb
  have h3 := fitB_bodies _ hb (nodesL (kidsT its (bodT its its.length) i alt its.length)) (List.mem_map.2 ⟨alt, List.mem_range.2 (by omega), rfl⟩)
  rw [nodesL_len] at h3
  exact kidsT_some its.length (fun hn => by rw [hn] at h3; simp at h3)

/-- Where each item but the first one stands. -/
theorem item_in {x : By} {t : Tr} {its : List It} (h : planT x t = some its) (hk : Kd true t) {j : Nat} {z : It} (hz : its[j]? = some z) (hj : 0 < j) : ∃ (i alt : Nat) (p : It), z.inn = (i : Int) ∧ z.alt = (alt : Int) ∧ i < j ∧ its[i]? = some p ∧ (alt : Int) < p.alts := by
  have htell := plan_tells h
  obtain ⟨k, rfl⟩ : ∃ k, j = k + 1 := ⟨j - 1, by omega⟩
  have hjl : k < (xsT t 0 0 0).length := by
    have := (List.getElem?_eq_some_iff.1 hz).1
    rw [htell.len] at this
    omega
  obtain ⟨y, hy⟩ : ∃ y, (xsT t 0 0 0)[k]? = some y := ⟨_, List.getElem?_eq_getElem hjl⟩
  obtain ⟨_, hle, z', hz', hi, ha, _, _⟩ := htell.at_ k y hy
  rw [hz] at hz'
  cases hz'
  have hm := List.mem_of_getElem? hy
  by_cases h0 : y.inn = 0
  · have h1 := alt_top t true 0 0 0 hk (Nat.le_refl _) y hm h0 rfl
    obtain ⟨_, _, _, he⟩ := planT_parts h
    refine ⟨0, y.alt, rootI x t.len, by rw [hi, h0], ha, by omega, by rw [he, its2_root], ?_⟩
    show (y.alt : Int) < (t.len : Int)
    omega
  · rcases alt_lt t true 0 0 0 hk (Nat.le_refl _) y hm with h1 | ⟨p, hp, hpn, hpa⟩
    · exact absurd h1 h0
    · obtain ⟨q, hq⟩ := List.mem_iff_getElem?.1 hp
      obtain ⟨hqn, _, u, hu, _, _, hus, _⟩ := htell.at_ q p hq
      refine ⟨y.inn, y.alt, u, hi, ha, by omega, ?_, by omega⟩
      rw [← hpn, hqn]
      exact hu

/-- How many items stand in bodies ahead of one. -/
def ct (its : List It) (i a : Nat) : Nat := its.countP fun x => decide (0 ≤ x.inn ∧ (x.inn < (i : Int) ∨ (x.inn = (i : Int) ∧ x.alt < (a : Int))))

theorem countP_add {α : Type} (p q r : α → Bool) : ∀ l : List α, (∀ x ∈ l, (r x = true ↔ (p x = true ∨ q x = true)) ∧ ¬ (p x = true ∧ q x = true)) → l.countP r = l.countP p + l.countP q
  | [], _ => rfl
  | x :: l, h => by
    have ih := countP_add p q r l (fun y hy => h y (List.mem_cons_of_mem _ hy))
    obtain ⟨h1, h2⟩ := h x (List.mem_cons_self ..)
    rw [List.countP_cons, List.countP_cons, List.countP_cons, ih]
    cases hp : p x <;> cases hq : q x <;> cases hr : r x <;> simp_all <;> omega

theorem ct_zero {x : By} {t : Tr} {its : List It} (h : planT x t = some its) (hk : Kd true t) : ct its 0 0 = 0 := by
  unfold ct
  rw [List.countP_eq_zero]
  intro z hz hc
  have hc := of_decide_eq_true hc
  obtain ⟨j, hj⟩ := List.mem_iff_getElem?.1 hz
  cases j with
  | zero =>
    have := (plan_tells h).root z hj
    omega
  | succ j =>
    obtain ⟨i, alt, p, h1, h2, _⟩ := item_in h hk hj (by omega)
    omega

theorem ct_step (its : List It) (i a : Nat) (hi : i < its.length) : ct its i (a + 1) = ct its i a + (kidsL its (i : Int) (a : Int)).length := by
  unfold kidsL
  rw [if_pos (by omega), kidsF_count]
  unfold ct
  apply countP_add
  intro z _
  simp only [decide_eq_true_eq]
  omega

theorem ct_next {x : By} {t : Tr} {its : List It} (h : planT x t = some its) (hk : Kd true t) {i a : Nat} {z : It} (hz : its[i]? = some z) (ha : z.alts = (a : Int)) : ct its i a = ct its (i + 1) 0 := by
  unfold ct
  apply List.countP_congr
  intro y hy
  simp only [decide_eq_true_eq]
  obtain ⟨j, hj⟩ := List.mem_iff_getElem?.1 hy
  cases j with
  | zero =>
    have := (plan_tells h).root y hj
    omega
  | succ j =>
    obtain ⟨i', alt, p, h1, h2, _, h4, h5⟩ := item_in h hk hj (by omega)
    by_cases he : i' = i
    · subst he
      rw [hz] at h4
      cases h4
      omega
    · omega

theorem ct_all {x : By} {t : Tr} {its : List It} (h : planT x t = some its) (hk : Kd true t) : ct its its.length 0 + 1 = its.length := by
  have htell := plan_tells h
  cases hits : its with
  | nil => have := htell.len; rw [hits] at this; simp at this
  | cons r rest =>
    rw [← hits]
    have hr : its[0]? = some r := by rw [hits]; rfl
    have h0 := htell.root r hr
    have hl : its.length = rest.length + 1 := by rw [hits]; rfl
    have hall : rest.countP (fun x => decide (0 ≤ x.inn ∧ (x.inn < (its.length : Int) ∨ (x.inn = (its.length : Int) ∧ x.alt < ((0 : Nat) : Int))))) = rest.length := by
      rw [List.countP_eq_length]
      intro y hy
      obtain ⟨j, hj⟩ := List.mem_iff_getElem?.1 hy
      have hj2 : its[j + 1]? = some y := by rw [hits]; simpa using hj
      obtain ⟨i', alt, p, h1, h2, h3, h4, h5⟩ := item_in h hk hj2 (by omega)
      have := (List.getElem?_eq_some_iff.1 h4).1
      exact decide_eq_true (by omega)
    unfold ct
    conv => lhs; lhs; arg 2; rw [hits]
    rw [List.countP_cons, hall, if_neg (by simp; omega)]
    omega

theorem ups_fuel {its : List It} (h : Stem its) : ∀ (f g i : Nat), i < its.length → i ≤ f → i ≤ g → upsF its f i = upsF its g i
  | 0, 0, i, _, _, _ => rfl
  | 0, g + 1, i, _, h1, _ => by rw [upsF, upsF, if_pos (by omega)]
  | f + 1, 0, i, _, _, h2 => by rw [upsF, upsF, if_pos (by omega)]
  | f + 1, g + 1, i, hi, h1, h2 => by
    rw [upsF, upsF]
    by_cases h0 : i = 0
    · rw [if_pos h0, if_pos h0]
    · rw [if_neg h0, if_neg h0]
      obtain ⟨x, hx⟩ : ∃ x, its[i]? = some x := ⟨_, List.getElem?_eq_getElem hi⟩
      have := h i x hx (by omega)
      rw [hx]
      simp only
      rw [ups_fuel h f g x.inn.toNat (by omega) (by omega) (by omega)]

/-- Above what stands in an item stands it, and what stands above it. -/
theorem above_kid {its : List It} (h : Stem its) {i j : Nat} {z : It} (hz : its[j]? = some z) (hi : z.inn = (i : Int)) (hj : 0 < j) : i < j ∧ j < its.length ∧ aboveL its (j : Int) = i :: aboveL its (i : Int) := by
  have hjl := (List.getElem?_eq_some_iff.1 hz).1
  have hs := h j z hz hj
  refine ⟨by omega, hjl, ?_⟩
  unfold aboveL
  rw [if_pos (by omega), if_pos (by omega), Int.toNat_natCast, Int.toNat_natCast]
  obtain ⟨f, hf⟩ : ∃ f, its.length = f + 1 := ⟨its.length - 1, by omega⟩
  conv => lhs; rw [hf]
  rw [upsF, if_neg (by omega), hz]
  simp only
  rw [hi, Int.toNat_natCast, ups_fuel h f its.length i (by omega) (by omega) (by omega)]

/-- What leans on an item stands in its body. -/
theorem lean_in {x : By} {t : Tr} {its : List It} (h : planT x t = some its) {f g : Nat} {y : It} (hy : its[f]? = some y) (ha : (g : Int) ∈ y.after) : ∃ z, its[g]? = some z ∧ z.inn = y.inn ∧ z.alt = y.alt := by
  obtain ⟨_, _, hK, he⟩ := planT_parts h
  obtain ⟨xs, hxs⟩ : ∃ xs, xs = xsT t 0 0 0 := ⟨_, rfl⟩
  rw [← hxs] at hK he
  cases f with
  | zero =>
    rw [he, its2_root] at hy
    cases hy
    cases ha
  | succ j =>
    have hjl : j < xs.length := by
      have := (List.getElem?_eq_some_iff.1 hy).1
      rw [he, its2_len] at this
      omega
    obtain ⟨u, hu⟩ : ∃ u, xs[j]? = some u := ⟨_, List.getElem?_eq_getElem hjl⟩
    obtain ⟨y', hy', hb, haf⟩ := its2_at x t.len xs j u hu
    rw [← he, hy] at hy'
    cases hy'
    obtain ⟨r, hr⟩ := Option.isSome_iff_exists.1 (hK j hjl)
    rw [haf, hr] at ha
    simp only [Option.getD_some] at ha
    obtain ⟨c, hc, hcg⟩ := List.mem_map.1 ha
    obtain rfl : c = g := by have : (c : Int) = (g : Int) := hcg; omega
    unfold leanK at hr
    rw [hu] at hr
    obtain ⟨v, hv, hvi, hva⟩ := leanP_body _ _ _ hr (by simp) c hc
    have h7 := its2_bare7 x t.len xs xs.length c
    rw [hv] at h7
    rw [← he] at h7
    cases hz : its[c]? with
    | none => rw [hz] at h7; cases h7
    | some z =>
      rw [hz] at h7
      simp only [Option.map_some, Option.some.injEq] at h7
      have e1 : (bare7 z).inn = (bare7 v).inn := congrArg It.inn h7
      have e1 : z.inn = v.inn := e1
      have e2 : (bare7 z).alt = (bare7 v).alt := congrArg It.alt h7
      have e2 : z.alt = v.alt := e2
      have e3 : y.inn = (u.inn : Int) := congrArg It.inn hb
      have e4 : y.alt = (u.alt : Int) := congrArg It.alt hb
      exact ⟨z, rfl, by rw [e1, hvi, e3], by rw [e2, hva, e4]⟩
end Go.Proofs.YtpgdafmenbeffaaDoor

/- Plain: what leans on an item stands in its body, and not the other way round; all that PlanAll asks. -/
namespace Go.Proofs.YtpgdafmenbeffaaDoor
open Go.RowKit Go.Shelf Go.Proofs.YtpgdafmenbeffaaDoor.Sx

theorem arcTo_at {its : List It} : ∀ (n : Nat) (p : Int × Int), p ∈ arcTo its n → ∃ (i : Nat) (x : It), its[i]? = some x ∧ p.2 = (i : Int) ∧ p.1 ∈ x.after
  | 0, p, h => by cases h
  | n + 1, p, h => by
    rw [arcTo] at h
    rcases List.mem_append.1 h with h | h
    · exact arcTo_at n p h
    · cases hx : its[n]? with
      | none => rw [hx] at h; cases h
      | some x =>
        rw [hx] at h
        obtain ⟨on, ho, rfl⟩ := List.mem_map.1 h
        exact ⟨n, x, hx, rfl, ho⟩

theorem chain_before {W o : List Nat} (hO : Dg.OrdOk W o) {f t : Nat} (h : Dg.Chain W f t) : ∀ k, o[k]? = some t → f ∈ o.take k := by
  induction h with
  | one e => intro k hk; exact hO.ahead k _ hk _ e
  | more _ e ih =>
    intro k hk
    obtain ⟨k', hk', hg⟩ := Dg.mem_take_at (hO.ahead k _ hk _ e)
    exact Dg.take_sub (ih k' hg) (by omega)

/-- The chains of a plan's turned arcs. -/
structure Ov (its : List It) (W o : List Nat) : Prop where
  len : W.length = its.length
  few : W.length ≤ 64
  ord : Dg.OrdOk W o
  olen : o.length = W.length
  step : ∀ f t, (W.getD t 0).testBit f = true → ∃ y, its[f]? = some y ∧ (t : Int) ∈ y.after

theorem ov_of {its : List It} {W o : List Nat} (h : Dg.weaveP (its.length : Int) (Dg.swapA (arcP its)) = .ok W o) : Ov its W o := by
  obtain ⟨hn, hW, hends, _, hWl, hO, hol⟩ := Dg.weave_facts h
  rw [Int.toNat_natCast] at hW hends hWl hol
  refine ⟨hWl, by omega, hO, by omega, fun f t hb => ?_⟩
  rw [hW] at hb
  have h1 := ((Dg.webOf_bit its.length _ hends t f).1 hb).1
  have h2 := Dg.swapA_mem.1 h1
  obtain ⟨i, x, hx, hi, ho⟩ := arcTo_at _ _ h2
  obtain rfl : f = i := by have : (f : Int) = (i : Int) := hi; omega
  exact ⟨x, hx, ho⟩

theorem over_mem {its : List It} {W o : List Nat} (h : Ov its W o) {j m : Nat} (hm : m ∈ overL (Dg.reachL W o) (j : Int)) : j < its.length ∧ Dg.Chain W m j := by
  unfold overL at hm
  split at hm
  · rename_i hj
    rw [Int.toNat_natCast] at hm
    have hjl : j < (Dg.reachL W o).length := by omega
    have hrl : (Dg.reachL W o).length = (Dg.reachP W o).length := by simp [Dg.reachL]
    have hrp : (Dg.reachP W o).length = W.length := by
      unfold Dg.reachP
      have := (Dg.reach_eq h.few h.ord o.length (Nat.le_refl _)).1
      rw [List.take_length] at this
      exact this
    have e : (Dg.reachL W o).getD j [] = Dg.bitsOf ((Dg.reachP W o).getD j 0) := by
      rw [List.getD_eq_getElem?_getD, List.getElem?_eq_getElem hjl, List.getD_eq_getElem?_getD, List.getElem?_eq_getElem (by omega)]
      simp [Dg.reachL]
    rw [e] at hm
    refine ⟨by have := h.len; omega, (Dg.reach_chain h.few h.ord h.olen (by omega) m).1 (Dg.of_bitsOf hm)⟩
  · cases hm

theorem chain_in {x : By} {t : Tr} {its : List It} (hp : planT x t = some its) {W o : List Nat} (h : Ov its W o) {f g : Nat} (hc : Dg.Chain W f g) : ∀ z, its[g]? = some z → ∃ y, its[f]? = some y ∧ y.inn = z.inn ∧ y.alt = z.alt := by
  induction hc with
  | one e =>
    intro z hz
    obtain ⟨y, hy, ha⟩ := h.step _ _ e
    obtain ⟨z', hz', h1, h2⟩ := lean_in hp hy ha
    rw [hz] at hz'
    cases hz'
    exact ⟨y, hy, h1.symm, h2.symm⟩
  | more _ e ih =>
    intro z hz
    obtain ⟨y, hy, ha⟩ := h.step _ _ e
    obtain ⟨z', hz', h1, h2⟩ := lean_in hp hy ha
    rw [hz] at hz'
    cases hz'
    obtain ⟨u, hu, h3, h4⟩ := ih y hy
    exact ⟨u, hu, h3.trans h1.symm, h4.trans h2.symm⟩

/-- All that PlanAll asks of a plan. -/
structure AllF (its : List It) (ov : List (List Nat)) : Prop where
  len : its.length ≤ 64
  pos : 0 < its.length
  alts : ∀ (i : Nat) (z : It), its[i]? = some z → 0 ≤ z.alts ∧ z.alts ≤ 4
  some_ : ∀ (i a : Nat) (z : It), its[i]? = some z → (a : Int) < z.alts → 0 < (kidsL its (i : Int) (a : Int)).length
  above : ∀ (i a j : Nat), i < its.length → j ∈ kidsL its (i : Int) (a : Int) → i < j ∧ j < its.length ∧ aboveL its (j : Int) = i :: aboveL its (i : Int)
  over : ∀ (i a j : Nat), i < its.length → j ∈ kidsL its (i : Int) (a : Int) → ∀ m ∈ overL ov (j : Int), m ∈ kidsL its (i : Int) (a : Int) ∧ j ∉ overL ov (m : Int)
  c0 : ct its 0 0 = 0
  cs : ∀ i a, i < its.length → ct its i (a + 1) = ct its i a + (kidsL its (i : Int) (a : Int)).length
  cn : ∀ (i a : Nat) (z : It), its[i]? = some z → z.alts = (a : Int) → ct its i a = ct its (i + 1) 0
  ca : ct its its.length 0 + 1 = its.length

theorem allF {x : By} {t : Tr} {its : List It} (h : planT x t = some its) (hk : Kd true t) {W o : List Nat} (hw : Dg.weaveP (its.length : Int) (Dg.swapA (arcP its)) = .ok W o) : AllF its (Dg.reachL W o) := by
  have hh := plan_hangs h hk
  obtain ⟨h0, h64, hat⟩ := hangs_at hh
  have hst := right_stem (saga_of_plan h hk)
  have hov := ov_of hw
  have hkid : ∀ (i a j : Nat), i < its.length → j ∈ kidsL its (i : Int) (a : Int) → ∃ z, its[j]? = some z ∧ z.inn = (i : Int) ∧ z.alt = (a : Int) ∧ 0 < j := by
    intro i a j hi hj
    obtain ⟨z, hz, h1, h2⟩ := (kidsL_mem hi).1 hj
    refine ⟨z, hz, h1, h2, ?_⟩
    cases j with
    | zero => have := (plan_tells h).root z hz; omega
    | succ j => omega
  refine ⟨h64, h0, fun i z hz => ⟨(hat i z hz).2.1, (hat i z hz).2.2.1⟩, ?_, ?_, ?_, ct_zero h hk, fun i a hi => ct_step its i a hi, fun i a z hz ha => ct_next h hk hz ha, ct_all h hk⟩
  · intro i a z hz ha
    obtain ⟨j, y, hj, h1, h2⟩ := kids_some h hk hz ha
    have hi := (List.getElem?_eq_some_iff.1 hz).1
    exact List.length_pos_of_mem ((kidsL_mem hi).2 ⟨y, hj, h1, h2⟩)
  · intro i a j hi hj
    obtain ⟨z, hz, h1, _, h3⟩ := hkid i a j hi hj
    exact above_kid hst hz h1 h3
  · intro i a j hi hj m hm
    obtain ⟨z, hz, h1, h2, _⟩ := hkid i a j hi hj
    obtain ⟨_, hc⟩ := over_mem hov hm
    obtain ⟨y, hy, h3, h4⟩ := chain_in h hov hc z hz
    refine ⟨(kidsL_mem hi).2 ⟨y, hy, h3.trans h1, h4.trans h2⟩, fun hm2 => ?_⟩
    obtain ⟨_, hc2⟩ := over_mem hov hm2
    have hjj := hc2.trans hc
    have hjl := (List.getElem?_eq_some_iff.1 hz).1
    have hmo := Dg.ord_all hov.ord hov.olen (show j < W.length by rw [hov.len]; exact hjl)
    obtain ⟨k, hk2⟩ := List.mem_iff_getElem?.1 hmo
    exact Dg.nodup_at hov.ord.nodup hk2 (chain_before hov.ord hjj k hk2)
end Go.Proofs.YtpgdafmenbeffaaDoor

/- Plain facts for PlanMore: a step more, at the end of the last body. -/
namespace Go.Proofs.YtpgdafmenbeffaaDoor
open Go.RowKit Go.Shelf Go.Proofs.YtpgdafmenbeffaaDoor.Sx
set_option linter.unusedVariables false

/-- A node more, behind nodes. -/
def addN (l : Lab) : Tr → Tr
  | .e => .n l .e .e
  | .b x r => .b x r
  | .n m t r => .n m t (addN l r)

/-- A node more, at the end of the last body. -/
def addB (l : Lab) : Tr → Tr
  | .e => .e
  | .b x r => if r = .e then .b (addN l x) .e else .b x (addB l r)
  | .n m t r => .n m t r

theorem addB_len (l : Lab) (t : Tr) : (addB l t).len = t.len := by
  induction t with
  | e => rfl
  | b x r _ ih =>
    unfold addB
    split
    · rename_i h; subst h; rfl
    · show (addB l r).len + 1 = r.len + 1
      rw [ih]
  | n m t r _ _ => rfl

/-- What the numbering knows of it. -/
def newP (l : Lab) (num alt : Nat) : Pd := ⟨num, l, .e, none, 0, 0, none, 0, 0, 0, alt⟩

theorem xsT_addN (l : Lab) (t : Tr) : ∀ (inn alt last : Nat), Kd false t → xsT (addN l t) inn alt last = xsT t inn alt last ++ [⟨last + cntA t + 1, l, .e, none, 0, 0, none, 0, 0, inn, alt⟩] := by
  induction t with
  | e => intro inn alt last _; rfl
  | b x r _ _ => intro inn alt last h; exact absurd h.1 (by decide)
  | n m t r _ ih =>
    intro inn alt last h
    show _ :: (xsT t _ _ _ ++ xsT (addN l r) _ _ _) = (_ :: (xsT t _ _ _ ++ xsT r _ _ _)) ++ _
    rw [ih _ _ _ h.2.2, List.cons_append, List.append_assoc]
    have : last + 1 + cntA t + cntA r + 1 = last + cntA (.n m t r) + 1 := by
      show _ = last + (1 + cntA t + cntA r) + 1
      omega
    rw [this]

theorem xsT_addB (l : Lab) (t : Tr) : ∀ (inn alt last : Nat), Kd true t → 0 < t.len → xsT (addB l t) inn alt last = xsT t inn alt last ++ [⟨last + cntA t + 1, l, .e, none, 0, 0, none, 0, 0, inn, alt + t.len - 1⟩] := by
  induction t with
  | e => intro inn alt last _ h; exact absurd h (by decide)
  | n m t r _ _ => intro inn alt last h; exact absurd h.1 (by decide)
  | b x r _ ih =>
    intro inn alt last h _
    unfold addB
    split
    · rename_i hr
      subst hr
      show xsT (addN l x) _ _ _ ++ [] = (xsT x _ _ _ ++ []) ++ _
      rw [xsT_addN l x _ _ _ h.2.1, List.append_nil, List.append_nil]
      rfl
    · rename_i hr
      have hl : 0 < r.len := by
        cases r with
        | e => exact absurd rfl hr
        | b _ _ => exact Nat.succ_pos _
        | n _ _ _ => exact Nat.succ_pos _
      show xsT x _ _ _ ++ xsT (addB l r) _ _ _ = (xsT x _ _ _ ++ xsT r _ _ _) ++ _
      rw [ih _ _ _ h.2.2 hl, List.append_assoc]
      have h1 : last + cntA x + cntA r + 1 = last + cntA (.b x r) + 1 := by
        show _ = last + (cntA x + cntA r) + 1
        omega
      have h2 : alt + 1 + r.len - 1 = alt + (Tr.b x r).len - 1 := by
        show _ = alt + (r.len + 1) - 1
        omega
      rw [h1, h2]

theorem leanP_more {its its' : List It} {num num' : By → Option Nat} {inn alt : Int} (hi : ∀ (c : Nat) (x : It), its[c]? = some x → its'[c]? = some x) (hn : ∀ nm on, num nm = some on → num' nm = some on) : ∀ (l : List By) (acc r : List Nat), leanP its num inn alt l acc = some r → leanP its' num' inn alt l acc = some r
  | [], _, _, h => h
  | nm :: l, acc, r, h => by
    unfold leanP at h ⊢
    cases h1 : num nm with
    | none => rw [h1] at h; cases h
    | some on =>
      rw [h1] at h
      rw [hn nm on h1]
      simp only [] at h ⊢
      cases h2 : its[on]? with
      | none => rw [h2] at h; cases h
      | some x =>
        rw [h2] at h
        rw [hi on x h2]
        simp only [] at h ⊢
        split at h
        · rename_i hc
          rw [if_pos hc]
          exact leanP_more hi hn l _ r h
        · cases h

theorem bare_eq {z z' : It} (h : bare7 z = bare7 z') (ha : z.after = z'.after) : z = z' := by
  cases z
  cases z'
  simp only [bare7, It.mk.injEq] at h
  simp only [It.mk.injEq]
  simp only [] at ha
  exact ⟨h.1, h.2.1, h.2.2.1, h.2.2.2.1, h.2.2.2.2.1, h.2.2.2.2.2.1, h.2.2.2.2.2.2.1, ha⟩

theorem more_plan {x : By} {t : Tr} {l : Lab} {its its' : List It} (h : planT x t = some its) (hk : Kd true t) (ht : 0 < t.len) (h' : planT x (addB l t) = some its') :
    (∃ z, its' = its ++ [z]) ∧ ∀ (i : Nat) (y : It), its'[i]? = some y → (its.length : Int) ∉ y.after := by
  obtain ⟨_, _, hK, he⟩ := planT_parts h
  obtain ⟨_, hg', hK', he'⟩ := planT_parts h'
  rw [addB_len] at hK' he'
  rw [xsT_addB l t 0 0 0 hk ht] at hg' hK' he'
  obtain ⟨xs, hxs⟩ : ∃ xs, xs = xsT t 0 0 0 := ⟨_, rfl⟩
  obtain ⟨y0, hy0⟩ : ∃ y0 : Pd, y0 = ⟨0 + cntA t + 1, l, .e, none, 0, 0, none, 0, 0, 0, 0 + t.len - 1⟩ := ⟨_, rfl⟩
  rw [← hxs] at hK he hg' hK' he'
  rw [← hy0] at hg' hK' he'
  have hl : its.length = xs.length + 1 := by rw [he]; exact its2_len _ _ _ _
  have hl' : its'.length = xs.length + 2 := by rw [he', its2_len, List.length_append]; rfl
  have hnum : ∀ nm on, numF xs nm = some on → numF (xs ++ [y0]) nm = some on := by
    intro nm on hn
    rw [numF_snoc]
    unfold numPut
    rw [if_neg]
    · exact hn
    · rintro rfl
      unfold goodN at hg'
      rw [List.all_eq_true] at hg'
      have h9 := hg' xs.length (List.mem_range.2 (by simp))
      unfold goodAt at h9
      rw [List.getElem?_append_right (Nat.le_refl _), Nat.sub_self] at h9
      simp only [List.getElem?_cons_zero, List.take_left, Bool.and_eq_true] at h9
      rw [hn] at h9
      exact absurd h9.1 (by simp)
  have hits : ∀ (c : Nat) (z : It), (its1 x t.len xs xs.length)[c]? = some z → (its1 x t.len (xs ++ [y0]) (xs ++ [y0]).length)[c]? = some z := by
    intro c z hz
    have h9 : its1 x t.len (xs ++ [y0]) (xs ++ [y0]).length = its1 x t.len xs xs.length ++ [y0.item] := by
      unfold its1
      rw [List.take_length, List.take_length, List.map_append]
      rfl
    rw [h9, List.getElem?_append_left (List.getElem?_eq_some_iff.1 hz).1]
    exact hz
  have hlk : ∀ j, j < xs.length → leanK x t.len (xs ++ [y0]) j = leanK x t.len xs j := by
    intro j hj
    obtain ⟨r, hr⟩ := Option.isSome_iff_exists.1 (hK j hj)
    have hr2 := hr
    unfold leanK at hr ⊢
    rw [List.getElem?_append_left hj]
    cases hx : xs[j]? with
    | none => rfl
    | some y =>
      rw [hx] at hr
      simp only [] at hr ⊢
      rw [hr]
      exact leanP_more hits hnum _ _ _ hr
  have hat : ∀ j, j < its.length → its'[j]? = its[j]? := by
    intro j hj
    cases j with
    | zero => rw [he, he', its2_root, its2_root]
    | succ j =>
      have hj2 : j < xs.length := by omega
      obtain ⟨y, hy⟩ : ∃ y, xs[j]? = some y := ⟨_, List.getElem?_eq_getElem hj2⟩
      obtain ⟨z, hz, hb, ha⟩ := its2_at x t.len xs j y hy
      obtain ⟨z', hz', hb', ha'⟩ := its2_at x t.len (xs ++ [y0]) j y (by rw [List.getElem?_append_left hj2]; exact hy)
      rw [hlk j hj2] at ha'
      rw [he, he', hz, hz']
      rw [bare_eq (hb'.trans hb.symm) (ha'.trans ha.symm)]
  constructor
  · obtain ⟨z, hz⟩ : ∃ z, its'[its.length]? = some z := ⟨_, List.getElem?_eq_getElem (by omega)⟩
    refine ⟨z, List.ext_getElem? fun j => ?_⟩
    by_cases hj : j < its.length
    · rw [hat j hj, List.getElem?_append_left hj]
    · by_cases hj2 : j = its.length
      · subst hj2
        rw [hz, List.getElem?_append_right (Nat.le_refl _), Nat.sub_self]
        rfl
      · rw [List.getElem?_eq_none (by omega), List.getElem?_eq_none (by simp; omega)]
  · intro i y hy hm
    by_cases hi : i < its.length
    · rw [hat i hi] at hy
      obtain ⟨z, hz, _⟩ := lean_in h hy hm
      have := (List.getElem?_eq_some_iff.1 hz).1
      omega
    · have hi2 := (List.getElem?_eq_some_iff.1 hy).1
      have hie : i = its.length := by omega
      subst hie
      obtain ⟨W, o, hw⟩ := plan_weave h'
      exact no_self hw hy hm

theorem more_over {its : List It} {W o : List Nat} (h : Ov its W o) {j : Nat} (hn : ∀ (i : Nat) (y : It), its[i]? = some y → (j : Int) ∉ y.after) : overL (Dg.reachL W o) (j : Int) = [] := by
  cases hl : overL (Dg.reachL W o) (j : Int) with
  | nil => rfl
  | cons m r =>
    obtain ⟨_, hc⟩ := over_mem h (j := j) (m := m) (by rw [hl]; exact List.mem_cons_self ..)
    cases hc with
    | one e =>
      obtain ⟨y, hy, ha⟩ := h.step _ _ e
      exact absurd ha (hn _ y hy)
    | more _ e =>
      obtain ⟨y, hy, ha⟩ := h.step _ _ e
      exact absurd ha (hn _ y hy)
end Go.Proofs.YtpgdafmenbeffaaDoor

