/- Texts of the seat, packed: Td. -/
import Derived.Test.YtephkdocfhajiaaDoorP47
import Derived.Test.YtephkdocfhajiaaDoorP16
/- Plain: the plan of a saga is right, and its saga is that one. -/
namespace Go.Proofs.YtephkdocfhajiaaDoor
open Go.RowKit Go.Shelf Go.Proofs.YtephkdocfhajiaaDoor.Sx

theorem hangF_of {n : Nat} : ∀ (l : List It) (i : Nat), (∀ (j : Nat) (x : It), l[j]? = some x → hangI n (i + j) x = true) → hangF n i l = true
  | [], _, _ => rfl
  | y :: r, i, h => by
    simp only [hangF, Bool.and_eq_true]
    refine ⟨by have := h 0 y rfl; rwa [Nat.add_zero] at this, hangF_of r (i + 1) fun j x hx => ?_⟩
    have := h (j + 1) x (by simpa using hx)
    rwa [show i + (j + 1) = i + 1 + j by omega] at this

theorem no_self {its : List It} {W o : List Nat} (h : Dg.weaveP (its.length : Int) (arcP its) = .ok W o) {i : Nat} {x : It} (hx : its[i]? = some x) : (i : Int) ∉ x.after := by
  intro hm
  have hl := (List.getElem?_eq_some_iff.1 hx).1
  obtain ⟨_, hW, hends, _, hWl, hO, hol⟩ := Dg.weave_facts h
  rw [Int.toNat_natCast] at hW hends hWl hol
  have ha : ((i : Int), (i : Int)) ∈ arcP its := arcTo_has its.length i x (i : Int) hx hm hl
  have hb := (Dg.webOf_bit its.length (arcP its) hends i i).2 ⟨ha, hl⟩
  rw [← hW] at hb
  have hmo := Dg.ord_all hO (by omega) (show i < W.length by omega)
  obtain ⟨k, hk⟩ := List.mem_iff_getElem?.1 hmo
  exact Dg.nodup_at hO.nodup hk (hO.ahead k i hk i hb)

theorem plan_weave {x : By} {t : Tr} {its : List It} (h : planT x t = some its) : ∃ W o, Dg.weaveP (its.length : Int) (arcP its) = .ok W o := by
  unfold planT planP at h
  split at h
  · rename_i hc
    cases h
    have := hc.2.2.2
    unfold ordOk at this
    split at this
    · rename_i W o hw
      exact ⟨W, o, hw⟩
    · cases this
  · cases h

theorem plan_few {x : By} {t : Tr} {its : List It} (h : planT x t = some its) (hk : Kd true t) (j : Nat) (y : Pd) (hy : (xsT t 0 0 0)[j]? = some y) : ((leanK x t.len (xsT t 0 0 0) j).getD []).length < 16 := by
  obtain ⟨W, o, hw⟩ := plan_weave h
  obtain ⟨hfit, _, hK, he⟩ := planT_parts h
  obtain ⟨xs, hxs⟩ : ∃ xs, xs = xsT t 0 0 0 := ⟨_, rfl⟩
  have hcl := cn_le t true 0 0 0 hk (Nat.le_refl _) (by
    simp only [fitS, Bool.and_eq_true] at hfit
    exact hfit.2.2.2.2) (fun h => by cases h) (fun _ => by
    simp only [fitS, Bool.and_eq_true] at hfit
    have := hfit.2.2.2.1
    simp only [fits, Bool.and_eq_true] at this
    exact this.2) y (List.mem_of_getElem? hy)
  have hnum : ∀ j y, (xsT t 0 0 0)[j]? = some y → y.num = j + 1 := fun j y hy => by have := xsT_num t _ _ _ _ _ hy; omega
  rw [← hxs] at hK he hcl hy hnum ⊢
  have hl := (List.getElem?_eq_some_iff.1 hy).1
  obtain ⟨r, hr⟩ := Option.isSome_iff_exists.1 (hK j hl)
  obtain ⟨z, hz, hb, ha⟩ := its2_at x t.len xs j y hy
  rw [← he] at hz
  have hself := no_self hw hz
  rw [ha, hr] at hself
  rw [hr]
  simp only [Option.getD_some] at hself ⊢
  unfold leanK at hr
  rw [hy] at hr
  have hnd := (leanP_some _ _ _ hr (by simp) (by simp)).1
  have hbody := leanP_body _ _ _ hr (by simp)
  have h1 : ((j + 1) :: r).Nodup := by
    rw [List.nodup_cons]
    refine ⟨fun hm => hself ?_, hnd⟩
    exact List.mem_map.2 ⟨j + 1, hm, rfl⟩
  have h2 : ∀ c ∈ (j + 1) :: r, c ∈ cn y.inn y.alt xs := by
    intro c hc
    rcases List.mem_cons.1 hc with rfl | hc
    · have := cn_mem (List.mem_of_getElem? hy) rfl rfl
      rwa [hnum j y hy] at this
    · obtain ⟨u, hu, hui, hua⟩ := hbody c hc
      cases c with
      | zero =>
        have : u = rootI x t.len := by
          have : (its1 x t.len xs xs.length)[0]? = some (rootI x t.len) := rfl
          rw [this] at hu
          cases hu
          rfl
        subst this
        have : (-1 : Int) = (y.inn : Int) := hui
        omega
      | succ k =>
        unfold its1 at hu
        rw [List.take_length, List.getElem?_cons_succ, List.getElem?_map, Option.map_eq_some_iff] at hu
        obtain ⟨v, hv, rfl⟩ := hu
        have e1 : (v.inn : Int) = (y.inn : Int) := hui
        have e2 : (v.alt : Int) = (y.alt : Int) := hua
        have := cn_mem (List.mem_of_getElem? hv) (show v.inn = y.inn by omega) (show v.alt = y.alt by omega)
        rwa [hnum k v hv] at this
  have := Dg.pigeon _ _ h1 h2
  rw [List.length_cons] at this
  omega

/-- A saga's plan hangs as it must. -/
theorem plan_hangs {x : By} {t : Tr} {its : List It} (h : planT x t = some its) (hk : Kd true t) : hangs its = true := by
  obtain ⟨hfit, _, hK, he⟩ := planT_parts h
  have hfew := plan_few h hk
  have hcnt := fit_cnt hfit
  have hlen : its.length = cntA t + 1 := by rw [he, its2_len, xsT_len]
  simp only [fitS, Bool.and_eq_true] at hfit
  have hf4 : t.len ≤ 4 := by
    have := hfit.2.2.2.1
    simp only [fits, Bool.and_eq_true, decide_eq_true_eq] at this
    exact this.1
  have ham := am_le t 0 0 0 hfit.2.2.2.2
  simp only [hangs, Bool.and_eq_true, decide_eq_true_eq]
  refine ⟨by omega, by omega, hangF_of its 0 fun j z hz => ?_⟩
  rw [Nat.zero_add]
  simp only [hangI, Bool.and_eq_true, decide_eq_true_eq, List.all_eq_true]
  cases j with
  | zero =>
    rw [he, its2_root] at hz
    cases hz
    refine ⟨by show (-1 : Int) < _; omega, by show (0 : Int) ≤ (t.len : Int); omega, by show (t.len : Int) ≤ 4; omega, by show ([] : List Int).length < 16; decide, fun on hon => ?_⟩
    cases hon
  | succ j =>
    have hjl : j < (xsT t 0 0 0).length := by
      have := (List.getElem?_eq_some_iff.1 hz).1
      rw [xsT_len]
      omega
    obtain ⟨y, hy⟩ : ∃ y, (xsT t 0 0 0)[j]? = some y := ⟨_, List.getElem?_eq_getElem hjl⟩
    obtain ⟨z', hz', hb, ha⟩ := its2_at x t.len _ j y hy
    rw [← he, hz] at hz'
    cases hz'
    have hn : y.num = j + 1 := by have := xsT_num t _ _ _ _ _ hy; omega
    have hin : y.inn < y.num := (xsT_at t _ _ _ y (List.mem_of_getElem? hy)).2.2.2.2 (Nat.le_refl _)
    have hzi : z.inn = (y.inn : Int) := congrArg It.inn hb
    have hzs : z.alts = (y.am : Int) := congrArg It.alts hb
    have ham4 := ham y (List.mem_of_getElem? hy)
    have hl16 := hfew j y hy
    have hlk := (leanK_len x t.len (xsT t 0 0 0) j).2
    rw [xsT_len] at hlk
    refine ⟨by omega, by omega, by omega, ?_, fun on hon => ?_⟩
    · rw [ha]
      simpa [intsN] using hl16
    · rw [ha] at hon
      obtain ⟨c, hc, rfl⟩ := List.mem_map.1 hon
      have := hlk c hc
      omega

/-- The plan of a saga leads back to it. -/
theorem saga_of_plan {x : By} {t : Tr} {its : List It} (h : planT x t = some its) (hk : Kd true t) : sagaP its = some (x, t) := by
  have h1 := plan_name h
  have h2 : bodS its = t := bodS_back (plan_tells h) hk h1.2
  unfold sagaP
  rw [h1.1, h2, if_pos ⟨plan_hangs h hk, h⟩]

/-- What a right plan's saga leads to. -/
theorem plan_of_saga {its : List It} {x : By} {t : Tr} (h : sagaP its = some (x, t)) : planT x t = some its := by
  unfold sagaP at h
  split at h
  · rename_i hc
    simp only [Option.some.injEq, Prod.mk.injEq] at h
    rw [← h.1, ← h.2]
    exact hc.2
  · cases h
end Go.Proofs.YtephkdocfhajiaaDoor

