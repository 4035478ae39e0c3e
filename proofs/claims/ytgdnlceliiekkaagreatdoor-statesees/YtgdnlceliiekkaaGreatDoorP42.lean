/- Texts of the seat, packed: Td Yl Yk Yp Tf Tg Kr. -/
import Derived.Test.YtgdnlceliiekkaaGreatDoorP10
import Derived.Test.YtgdnlceliiekkaaGreatDoorP41
import Derived.Test.YtgdnlceliiekkaaGreatDoorP40
import Derived.Test.YtgdnlceliiekkaaGreatDoorP11
/- Plain: the plan of a saga is right, and its saga is that one. -/
namespace Go.Proofs.YtgdnlceliiekkaaGreatDoor

open Go.RowKit Go.Shelf Go.Proofs.YtgdnlceliiekkaaGreatDoor.Sx

theorem hangF_of {n : Nat} : ∀ (l : List It) (i : Nat), (∀ (j : Nat) (x : It), l[j]? = some x → hangI n (i + j) x = true) → hangF n i l = true
  | [], _, _ => rfl
  | y :: r, i, h => by
    simp only [hangF, Bool.and_eq_true]
    refine ⟨by have := h 0 y rfl; rwa [Nat.add_zero] at this, hangF_of r (i + 1) fun j x hx => ?_⟩
    have := h (j + 1) x (by simpa using hx)
    rwa [show i + (j + 1) = i + 1 + j by omega] at this

theorem no_self {its : List It} {W o : List Nat} (h : Dg.weaveP (its.length : Int) (arcP its) = .ok W o) {i : Nat} {x : It} (hx : its[i]? = some x) : (i : Int) ∉ x.after := by
  intro hm
  have hl := (List.getElem?_eq_some_iff.1 hx).1
  obtain ⟨_, hW, hends, _, hWl, hO, hol⟩ := Dg.weave_facts h
  rw [Int.toNat_natCast] at hW hends hWl hol
  have ha : ((i : Int), (i : Int)) ∈ arcP its := arcTo_has its.length i x (i : Int) hx hm hl
  have hb := (Dg.webOf_bit its.length (arcP its) hends i i).2 ⟨ha, hl⟩
  rw [← hW] at hb
  have hmo := Dg.ord_all hO (by omega) (show i < W.length by omega)
  obtain ⟨k, hk⟩ := List.mem_iff_getElem?.1 hmo
  exact Dg.nodup_at hO.nodup hk (hO.ahead k i hk i hb)

theorem plan_weave {x : By} {t : Tr} {its : List It} (h : planT x t = some its) : ∃ W o, Dg.weaveP (its.length : Int) (arcP its) = .ok W o := by
  unfold planT planP at h
  split at h
  · rename_i hc
    cases h
    have := hc.2.2.2
    unfold ordOk at this
    split at this
    · rename_i W o hw
      exact ⟨W, o, hw⟩
    · cases this
  · cases h

theorem plan_few {x : By} {t : Tr} {its : List It} (h : planT x t = some its) (hk : Kd true t) (j : Nat) (y : Pd) (hy : (xsT t 0 0 0)[j]? = some y) : ((leanK x t.len (xsT t 0 0 0) j).getD []).length < 16 := by
  obtain ⟨W, o, hw⟩ := plan_weave h
  obtain ⟨hfit, _, hK, he⟩ := planT_parts h
  obtain ⟨xs, hxs⟩ : ∃ xs, xs = xsT t 0 0 0 := ⟨_, rfl⟩
  have hcl := cn_le t true 0 0 0 hk (Nat.le_refl _) (by
    simp only [fitS, Bool.and_eq_true] at hfit
    exact hfit.2.2.2.2) (fun h => by cases h) (fun _ => by
    simp only [fitS, Bool.and_eq_true] at hfit
    have := hfit.2.2.2.1
    simp only [fits, Bool.and_eq_true] at this
    exact this.2) y (List.mem_of_getElem? hy)
  have hnum : ∀ j y, (xsT t 0 0 0)[j]? = some y → y.num = j + 1 := fun j y hy => by have := xsT_num t _ _ _ _ _ hy; omega
  rw [← hxs] at hK he hcl hy hnum ⊢
  have hl := (List.getElem?_eq_some_iff.1 hy).1
  obtain ⟨r, hr⟩ := Option.isSome_iff_exists.1 (hK j hl)
  obtain ⟨z, hz, hb, ha⟩ := its2_at x t.len xs j y hy
  rw [← he] at hz
  have hself := no_self hw hz
  rw [ha, hr] at hself
  rw [hr]
  simp only [Option.getD_some] at hself ⊢
  unfold leanK at hr
  rw [hy] at hr
  have hnd := (leanP_some _ _ _ hr (by simp) (by simp)).1
  have hbody := leanP_body _ _ _ hr (by simp)
  have h1 : ((j + 1) :: r).Nodup := by
    rw [List.nodup_cons]
    refine ⟨fun hm => hself ?_, hnd⟩
    exact List.mem_map.2 ⟨j + 1, hm, rfl⟩
  have h2 : ∀ c ∈ (j + 1) :: r, c ∈ cn y.inn y.alt xs := by
    intro c hc
    rcases List.mem_cons.1 hc with rfl | hc
    · have := cn_mem (List.mem_of_getElem? hy) rfl rfl
      rwa [hnum j y hy] at this
    · obtain ⟨u, hu, hui, hua⟩ := hbody c hc
      cases c with
      | zero =>
        have : u = rootI x t.len := by
          have : (its1 x t.len xs xs.length)[0]? = some (rootI x t.len) := rfl
          rw [this] at hu
          cases hu
          rfl
        subst this
        have : (-1 : Int) = (y.inn : Int) := hui
        omega
      | succ k =>
        unfold its1 at hu
        rw [List.take_length, List.getElem?_cons_succ, List.getElem?_map, Option.map_eq_some_iff] at hu
        obtain ⟨v, hv, rfl⟩ := hu
        have e1 : (v.inn : Int) = (y.inn : Int) := hui
        have e2 : (v.alt : Int) = (y.alt : Int) := hua
        have := cn_mem (List.mem_of_getElem? hv) (show v.inn = y.inn by omega) (show v.alt = y.alt by omega)
        rwa [hnum k v hv] at this
  have := Dg.pigeon _ _ h1 h2
  rw [List.length_cons] at this
  omega

/-- A saga's plan hangs as it must. -/
theorem plan_hangs {x : By} {t : Tr} {its : List It} (h : planT x t = some its) (hk : Kd true t) : hangs its = true := by
  obtain ⟨hfit, _, hK, he⟩ := planT_parts h
  have hfew := plan_few h hk
  have hcnt := fit_cnt hfit
  have hlen : its.length = cntA t + 1 := by rw [he, its2_len, xsT_len]
  simp only [fitS, Bool.and_eq_true] at hfit
  have hf4 : t.len ≤ 4 := by
    have := hfit.2.2.2.1
    simp only [fits, Bool.and_eq_true, decide_eq_true_eq] at this
    exact this.1
  have ham := am_le t 0 0 0 hfit.2.2.2.2
  simp only [hangs, Bool.and_eq_true, decide_eq_true_eq]
  refine ⟨by omega, by omega, hangF_of its 0 fun j z hz => ?_⟩
  rw [Nat.zero_add]
  simp only [hangI, Bool.and_eq_true, decide_eq_true_eq, List.all_eq_true]
  cases j with
  | zero =>
    rw [he, its2_root] at hz
    cases hz
    refine ⟨by show (-1 : Int) < _; omega, by show (0 : Int) ≤ (t.len : Int); omega, by show (t.len : Int) ≤ 4; omega, by show ([] : List Int).length < 16; decide, fun on hon => ?_⟩
    cases hon
  | succ j =>
    have hjl : j < (xsT t 0 0 0).length := by
      have := (List.getElem?_eq_some_iff.1 hz).1
      rw [xsT_len]
      omega
    obtain ⟨y, hy⟩ : ∃ y, (xsT t 0 0 0)[j]? = some y := ⟨_, List.getElem?_eq_getElem hjl⟩
    obtain ⟨z', hz', hb, ha⟩ := its2_at x t.len _ j y hy
    rw [← he, hz] at hz'
    cases hz'
    have hn : y.num = j + 1 := by have := xsT_num t _ _ _ _ _ hy; omega
    have hin : y.inn < y.num := (xsT_at t _ _ _ y (List.mem_of_getElem? hy)).2.2.2.2 (Nat.le_refl _)
    have hzi : z.inn = (y.inn : Int) := congrArg It.inn hb
    have hzs : z.alts = (y.am : Int) := congrArg It.alts hb
    have ham4 := ham y (List.mem_of_getElem? hy)
    have hl16 := hfew j y hy
    have hlk := (leanK_len x t.len (xsT t 0 0 0) j).2
    rw [xsT_len] at hlk
    refine ⟨by omega, by omega, by omega, ?_, fun on hon => ?_⟩
    · rw [ha]
      simpa [intsN] using hl16
    · rw [ha] at hon
      obtain ⟨c, hc, rfl⟩ := List.mem_map.1 hon
      have := hlk c hc
      omega

/-- The plan of a saga leads back to it. -/
theorem saga_of_plan {x : By} {t : Tr} {its : List It} (h : planT x t = some its) (hk : Kd true t) : sagaP its = some (x, t) := by
  have h1 := plan_name h
  have h2 : bodS its = t := bodS_back (plan_tells h) hk h1.2
  unfold sagaP
  rw [h1.1, h2, if_pos ⟨plan_hangs h hk, h⟩]

end Go.Proofs.YtgdnlceliiekkaaGreatDoor

/- The program's Reach: what it tells lies in blocks of its own. -/
namespace Go.Proofs.YtgdnlceliiekkaaGreatDoor.Dg

open Go.RowKit Go.Shelf

/-- Rows stand, as long as no block from theirs on is turned. -/
theorem RowsI.keep {w w' : World} {q k n : Nat} {L : List (List Nat)} (h : RowsI w q k n L) (hk : ∀ b, q ≤ b → b < w.heap.size → w'.heap[b]? = w.heap[b]?) : RowsI w' q k n L := by
  obtain ⟨Vs, h1, h2, h3⟩ := h
  refine ⟨Vs, (hk q (Nat.le_refl _) (Array.getElem?_eq_some_iff.1 h1).1).trans h1, h2, fun i hi => ?_⟩
  obtain ⟨v, a, va, cap, hv, hc, hr⟩ := h3 i hi
  refine ⟨v, a, va, cap, hv, hc, fun j x hj => ?_⟩
  obtain ⟨b, off, ha, hq, c0⟩ := hr j x hj
  exact ⟨b, off, ha, hq, (World.cell?_of_block (a := ⟨b, off + j, none⟩) (hk b (by omega) (lt_of_cell? c0))).trans c0⟩

end Go.Proofs.YtgdnlceliiekkaaGreatDoor.Dg

/- The program's See: the walk. -/
namespace Go.Proofs.YtgdnlceliiekkaaGreatDoor

open Go.RowKit Go.Shelf Go.Proofs.YtgdnlceliiekkaaGreatDoor.Sx

theorem RdSp.of_own {A : World} {base : Nat} {sv : Value} {its : List It} (h : A.ownsRow base 125 2 sv its.length (spV its)) : RdSp A sv its := by
  have hl : (spV its).length = its.length * 2 := by
    clear h
    induction its with
    | nil => rfl
    | cons x r ih => simp only [spV, List.length_cons, ih]; omega
  rcases h.2 with ⟨rfl, h0⟩ | ⟨g, cap, cur, rfl, _, _, hc, _⟩
  · have : its = [] := List.length_eq_zero_iff.1 h0
    subst this
    exact ⟨none, 0, rfl, Nat.le_refl _, fun i x hi => by simp at hi⟩
  · refine ⟨_, cap, rfl, hc, fun i x hi => ?_⟩
    have hil := (List.getElem?_eq_some_iff.1 hi).1
    obtain ⟨h1, h2⟩ := spV_at its i x hi
    refine ⟨g, 0, rfl, ?_, ?_⟩
    · rw [Nat.zero_add, h.cellAt (i * 2) (by omega)]
      exact h1
    · rw [Nat.zero_add, h.cellAt (i * 2 + 1) (by omega)]
      exact h2

end Go.Proofs.YtgdnlceliiekkaaGreatDoor

/- The library's AppendSeq and Collect, over numbers. -/
namespace Go.Proofs.YtgdnlceliiekkaaGreatDoor

open Go.RowKit Go.Shelf Go.Proofs.YtgdnlceliiekkaaGreatDoor.Sx

attribute [local go_sem] Oper.semAt_some

/-- What AppendSeq knows once k numbers are appended. -/
def Sq (w0 : World) (bx : Nat) (js : List Nat) (k : Nat) (A : World) (TA : Nat → Prop) : Prop :=
  Lo w0 A TA ∧ w0.heap.size ≤ bx ∧ bx < A.heap.size ∧ ¬ TA bx ∧ ∃ u, A.heap[bx]? = some (.cells #[u] 35 (0, 0)) ∧ A.ownsRow bx 3 1 u k (Dg.ivs (js.take k)) ∧ ∀ b, u.ownBlock = some b → ¬ TA b

theorem Sq.mv {w0 : World} {bx : Nat} {js : List Nat} {k : Nat} {A B : World} {TA TB : Nat → Prop} (h : Sq w0 bx js k A TA) (m : Mv TA A TB B) : Sq w0 bx js k B TB := by
  obtain ⟨h1, h2, h3, h4, u, h5, h6, h7⟩ := h
  refine ⟨h1.mv m, h2, Nat.lt_of_lt_of_le h3 m.size, fun ht => h4 ((m.old _ h3).1 ht), u, (m.same _ h3 h4).trans h5, ?_, fun b hb ht => ?_⟩
  · exact own_agree (G := fun b => u.ownBlock = some b) (fun b hb => m.same b (own_exists h6 b hb).2 (h7 b hb)) h6 (fun b hb => hb)
  · exact h7 b hb ((m.old b (own_exists h6 b hb).2).1 ht)

end Go.Proofs.YtgdnlceliiekkaaGreatDoor

/- Plain: what is told of the plan of a saga: its bodies, what stands above, how many. -/
namespace Go.Proofs.YtgdnlceliiekkaaGreatDoor

open Go.RowKit Go.Shelf Go.Proofs.YtgdnlceliiekkaaGreatDoor.Sx

theorem kidsT_some {its : List It} {rec : Nat → Tr} {i alt : Nat} : ∀ k, kidsT its rec i alt k ≠ [] → ∃ (j : Nat) (x : It), its[j]? = some x ∧ x.inn = (i : Int) ∧ x.alt = (alt : Int)
  | 0, h => absurd rfl h
  | k + 1, h => by
    rw [kidsT] at h
    cases hx : its[k]? with
    | none =>
      rw [hx] at h
      simp only [List.append_nil] at h
      exact kidsT_some k h
    | some x =>
      rw [hx] at h
      simp only at h
      by_cases hc : x.inn = (i : Int) ∧ x.alt = (alt : Int)
      · exact ⟨k, x, hx, hc⟩
      · rw [if_neg hc, List.append_nil] at h
        exact kidsT_some k h

/-- What stands in a node is what its item tells of. -/
theorem nodes_bod {its : List It} {xs : List Pd} (h : Tells its xs) (t : Tr) : ∀ (k : Bool) (inn alt last : Nat) (pre post : List Pd), Kd k t → xs = pre ++ xsT t inn alt last ++ post → pre.length = last → inn ≤ last → (∀ y ∈ pre, y.inn < y.num ∧ y.num ≤ last) → (∀ y ∈ post, y.inn ≤ last ∨ last + cntA t < y.inn) → ∀ y ∈ xsT t inn alt last, bodT its (its.length + 1) y.num = y.alts := by
  induction t with
  | e => intro _ _ _ _ _ _ _ _ _ _ _ _ y hy; cases hy
  | b x r ih1 ih2 =>
    rintro k i a0 last pre post ⟨_, hkx, hkr⟩ hx hl hi hpre hpost y hy
    have hcnt : cntA (.b x r) = cntA x + cntA r := rfl
    have hxx : xs = pre ++ xsT x i a0 last ++ (xsT r i (a0 + 1) (last + cntA x) ++ post) := by rw [hx, xsT]; simp
    have hxr : xs = (pre ++ xsT x i a0 last) ++ xsT r i (a0 + 1) (last + cntA x) ++ post := by rw [hx, xsT]; simp
    rw [xsT, List.mem_append] at hy
    rcases hy with hy | hy
    · exact ih1 false i a0 last pre _ hkx hxx hl hi hpre (fun z hz => by
        rcases List.mem_append.1 hz with hz | hz
        · have := (xsT_at r _ _ _ z hz).2.2.1; omega
        · have := hpost z hz; omega) y hy
    · exact ih2 true i (a0 + 1) (last + cntA x) (pre ++ xsT x i a0 last) post hkr hxr (by rw [List.length_append, xsT_len, hl]) (by omega) (fun z hz => by
        rcases List.mem_append.1 hz with hz | hz
        · have := hpre z hz; omega
        · have := xsT_at x _ _ _ z hz; exact ⟨this.2.2.2.2 hi, this.2.1⟩) (fun z hz => by have := hpost z hz; omega) y hy
  | n l s r ih1 ih2 =>
    rintro k inn alt last pre post ⟨hkk, hks, hkr⟩ hx hl hi hpre hpost y hy
    have hcnt : cntA (.n l s r) = 1 + cntA s + cntA r := rfl
    obtain ⟨nd, hnd⟩ : ∃ nd : Pd, nd = ⟨last + 1, l, s, none, 0, 0, none, s.len, 0, inn, alt⟩ := ⟨_, rfl⟩
    have hxT : xsT (.n l s r) inn alt last = nd :: (xsT s (last + 1) 0 (last + 1) ++ xsT r inn alt (last + 1 + cntA s)) := by rw [hnd, xsT]
    have hxs : xs = (pre ++ [nd]) ++ xsT s (last + 1) 0 (last + 1) ++ (xsT r inn alt (last + 1 + cntA s) ++ post) := by rw [hx, hxT]; simp
    have hxr : xs = (pre ++ nd :: xsT s (last + 1) 0 (last + 1)) ++ xsT r inn alt (last + 1 + cntA s) ++ post := by rw [hx, hxT]; simp
    have hat : xs[last]? = some nd := by rw [hx, hxT, ← hl]; simp
    have hndn : nd.num = last + 1 ∧ nd.inn = inn ∧ nd.am = s.len ∧ nd.alts = s := by rw [hnd]; exact ⟨rfl, rfl, rfl, rfl⟩
    obtain ⟨_, _, z, hz, _, _, hza, _⟩ := h.at_ last nd hat
    have hal : altsI its (last + 1) = s.len := by unfold altsI; rw [hz]; simp only; rw [hza, hndn.2.2.1]; simp
    have hr1 : ∀ y ∈ xsT r inn alt (last + 1 + cntA s), y.inn ≤ last ∨ last + 1 + cntA s < y.inn := by
      intro y hy
      have := (xsT_at r _ _ _ y hy).2.2.1
      omega
    have hpre2 : ∀ y ∈ pre ++ [nd], y.inn < y.num ∧ y.num ≤ last + 1 := by
      intro y hy
      rcases List.mem_append.1 hy with hy | hy
      · have := hpre y hy; omega
      · simp only [List.mem_singleton] at hy
        subst hy
        omega
    have hpost2 : ∀ y ∈ xsT r inn alt (last + 1 + cntA s) ++ post, y.inn ≤ last + 1 ∨ last + 1 + cntA s < y.inn := fun y hy => by
      rcases List.mem_append.1 hy with hy | hy
      · have := hr1 y hy; omega
      · have := hpost y hy; omega
    rw [hxT, List.mem_cons, List.mem_append] at hy
    rcases hy with rfl | hy | hy
    · have h1 := (bod_main h s).2 (last + 1) 0 (last + 1) its.length (pre ++ [y]) (xsT r inn alt (last + 1 + cntA s) ++ post) hks hxs (by rw [List.length_append, hl]; rfl) (Nat.le_refl _) hpre2 hpost2 (by omega)
      rw [hndn.1, hndn.2.2.2]
      exact bodT_of h s (last + 1) its.length (pre ++ [y]) (xsT r inn alt (last + 1 + cntA s) ++ post) hxs hal (fun z hz => by have := hpre2 z hz; omega) (fun z hz => by
        rcases List.mem_append.1 hz with hz | hz
        · have := hr1 z hz; omega
        · have := hpost z hz; omega) h1
    · exact ih1 true (last + 1) 0 (last + 1) (pre ++ [nd]) (xsT r inn alt (last + 1 + cntA s) ++ post) hks hxs (by rw [List.length_append, hl]; rfl) (Nat.le_refl _) hpre2 hpost2 y hy
    · exact ih2 false inn alt (last + 1 + cntA s) (pre ++ nd :: xsT s (last + 1) 0 (last + 1)) post hkr hxr (by rw [List.length_append, List.length_cons, xsT_len, hl]; omega) (by omega) (fun z hz => by
        rcases List.mem_append.1 hz with hz | hz
        · have := hpre z hz; omega
        · rcases List.mem_cons.1 hz with rfl | hz
          · omega
          · have := xsT_at s _ _ _ z hz; exact ⟨this.2.2.2.2 (Nat.le_refl _), this.2.1⟩) (fun z hz => by have := hpost z hz; omega) y hy

theorem fits_all (t : Tr) : ∀ (inn alt last : Nat), fitN t = true → ∀ y ∈ xsT t inn alt last, fits y.alts = true ∧ y.am = y.alts.len := by
  induction t with
  | e => intro _ _ _ _ y hy; cases hy
  | b x r ih1 ih2 =>
    intro inn alt last hN y hy
    simp only [fitN, Bool.and_eq_true] at hN
    rw [xsT, List.mem_append] at hy
    rcases hy with hy | hy
    · exact ih1 _ _ _ hN.1 y hy
    · exact ih2 _ _ _ hN.2 y hy
  | n l s r ih1 ih2 =>
    intro inn alt last hN y hy
    simp only [fitN, Bool.and_eq_true] at hN
    rw [xsT, List.mem_cons, List.mem_append] at hy
    rcases hy with rfl | hy | hy
    · exact ⟨hN.1, rfl⟩
    · exact ih1 _ _ _ hN.2.1 y hy
    · exact ih2 _ _ _ hN.2.2 y hy

/-- In which body of what a node stands. -/
theorem alt_top (t : Tr) : ∀ (k : Bool) (inn alt last : Nat), Kd k t → inn ≤ last → ∀ y ∈ xsT t inn alt last, y.inn = inn → k = true → y.alt < alt + t.len := by
  induction t with
  | e => intro _ _ _ _ _ _ y hy; cases hy
  | b x r ih1 ih2 =>
    rintro k inn alt last ⟨_, hx, hr⟩ hl y hy hi hk
    have hlen : (Tr.b x r).len = r.len + 1 := rfl
    rw [xsT, List.mem_append] at hy
    rcases hy with hy | hy
    · have := (xsT_alt x false inn alt last hx hl y hy hi).1 rfl
      omega
    · have := ih2 true inn (alt + 1) (last + cntA x) hr (by omega) y hy hi rfl
      omega
  | n l s r _ _ => rintro k inn alt last ⟨hk, _⟩ _ y _ _ hk2; rw [hk] at hk2; cases hk2

theorem alt_lt (t : Tr) : ∀ (k : Bool) (inn alt last : Nat), Kd k t → inn ≤ last → ∀ y ∈ xsT t inn alt last, y.inn = inn ∨ ∃ p ∈ xsT t inn alt last, p.num = y.inn ∧ y.alt < p.am := by
  induction t with
  | e => intro _ _ _ _ _ _ y hy; cases hy
  | b x r ih1 ih2 =>
    rintro k inn alt last ⟨_, hx, hr⟩ hl y hy
    rw [xsT, List.mem_append] at hy
    rcases hy with hy | hy
    · rcases ih1 false inn alt last hx hl y hy with h | ⟨p, h1, h2⟩
      · exact .inl h
      · exact .inr ⟨p, by rw [xsT]; exact List.mem_append_left _ h1, h2⟩
    · rcases ih2 true inn (alt + 1) (last + cntA x) hr (by omega) y hy with h | ⟨p, h1, h2⟩
      · exact .inl h
      · exact .inr ⟨p, by rw [xsT]; exact List.mem_append_right _ h1, h2⟩
  | n l s r ih1 ih2 =>
    rintro k inn alt last ⟨_, hs, hr⟩ hl y hy
    rw [xsT, List.mem_cons, List.mem_append] at hy
    rcases hy with rfl | hy | hy
    · exact .inl rfl
    · rcases ih1 true (last + 1) 0 (last + 1) hs (Nat.le_refl _) y hy with h | ⟨p, h1, h2⟩
      · have := alt_top s true (last + 1) 0 (last + 1) hs (Nat.le_refl _) y hy h rfl
        refine .inr ⟨_, by rw [xsT]; exact List.mem_cons_self .., h.symm, ?_⟩
        show y.alt < s.len
        omega
      · exact .inr ⟨p, by rw [xsT]; exact List.mem_cons_of_mem _ (List.mem_append_left _ h1), h2⟩
    · rcases ih2 false inn alt (last + 1 + cntA s) hr (by omega) y hy with h | ⟨p, h1, h2⟩
      · exact .inl h
      · exact .inr ⟨p, by rw [xsT]; exact List.mem_cons_of_mem _ (List.mem_append_right _ h1), h2⟩

end Go.Proofs.YtgdnlceliiekkaaGreatDoor

/- Plain: what PlanAll asks of the plan of a saga. -/
namespace Go.Proofs.YtgdnlceliiekkaaGreatDoor

open Go.RowKit Go.Shelf Go.Proofs.YtgdnlceliiekkaaGreatDoor.Sx

theorem fitB_bodies : ∀ l : List Tr, fitB (bodiesL l) = true → ∀ x ∈ l, 0 < x.len ∧ x.len ≤ 16
  | [], _, x, hx => by cases hx
  | y :: r, h, x, hx => by
    simp only [bodiesL, fitB, Bool.and_eq_true, decide_eq_true_eq] at h
    rcases List.mem_cons.1 hx with rfl | hx
    · exact h.1
    · exact fitB_bodies r h.2 x hx

/-- Each body of a plan's item has items. -/
theorem kids_some {x : By} {t : Tr} {its : List It} (h : planT x t = some its) (hk : Kd true t) {i alt : Nat} {z : It} (hz : its[i]? = some z) (ha : (alt : Int) < z.alts) : ∃ (j : Nat) (y : It), its[j]? = some y ∧ y.inn = (i : Int) ∧ y.alt = (alt : Int) := by
  obtain ⟨hfit, _, _, he⟩ := planT_parts h
  have htell := plan_tells h
  simp only [fitS, Bool.and_eq_true] at hfit
  have hbod : fits (bodT its (its.length + 1) i) = true := by
    cases i with
    | zero =>
      have h1 := plan_name h
      have h2 : bodS its = t := bodS_back htell hk h1.2
      unfold bodS at h2
      rw [h2]
      exact hfit.2.2.2.1
    | succ j =>
      have hjl : j < (xsT t 0 0 0).length := by
        have := (List.getElem?_eq_some_iff.1 hz).1
        rw [htell.len] at this
        omega
      obtain ⟨y, hy⟩ : ∃ y, (xsT t 0 0 0)[j]? = some y := ⟨_, List.getElem?_eq_getElem hjl⟩
      have hm := List.mem_of_getElem? hy
      have h1 := nodes_bod htell t true 0 0 0 [] [] hk (by simp) rfl (Nat.le_refl _) (fun y hy => by cases hy) (fun y hy => by cases hy) y hm
      rw [(htell.at_ j y hy).1] at h1
      rw [h1]
      exact (fits_all t 0 0 0 hfit.2.2.2.2 y hm).1
  have hal : altsI its i = z.alts.toNat := by unfold altsI; rw [hz]
  simp only [fits, Bool.and_eq_true] at hbod
  have hb := hbod.2
  rw [bodT] at hb
  have h3 := fitB_bodies _ hb (nodesL (kidsT its (bodT its its.length) i alt its.length)) (List.mem_map.2 ⟨alt, List.mem_range.2 (by omega), rfl⟩)
  rw [nodesL_len] at h3
  exact kidsT_some its.length (fun hn => by rw [hn] at h3; simp at h3)

/-- Where each item but the first one stands. -/
theorem item_in {x : By} {t : Tr} {its : List It} (h : planT x t = some its) (hk : Kd true t) {j : Nat} {z : It} (hz : its[j]? = some z) (hj : 0 < j) : ∃ (i alt : Nat) (p : It), z.inn = (i : Int) ∧ z.alt = (alt : Int) ∧ i < j ∧ its[i]? = some p ∧ (alt : Int) < p.alts := by
  have htell := plan_tells h
  obtain ⟨k, rfl⟩ : ∃ k, j = k + 1 := ⟨j - 1, by omega⟩
  have hjl : k < (xsT t 0 0 0).length := by
    have := (List.getElem?_eq_some_iff.1 hz).1
    rw [htell.len] at this
    omega
  obtain ⟨y, hy⟩ : ∃ y, (xsT t 0 0 0)[k]? = some y := ⟨_, List.getElem?_eq_getElem hjl⟩
  obtain ⟨_, hle, z', hz', hi, ha, _, _⟩ := htell.at_ k y hy
  rw [hz] at hz'
  cases hz'
  have hm := List.mem_of_getElem? hy
  by_cases h0 : y.inn = 0
  · have h1 := alt_top t true 0 0 0 hk (Nat.le_refl _) y hm h0 rfl
    obtain ⟨_, _, _, he⟩ := planT_parts h
    refine ⟨0, y.alt, rootI x t.len, by rw [hi, h0], ha, by omega, by rw [he, its2_root], ?_⟩
    show (y.alt : Int) < (t.len : Int)
    omega
  · rcases alt_lt t true 0 0 0 hk (Nat.le_refl _) y hm with h1 | ⟨p, hp, hpn, hpa⟩
    · exact absurd h1 h0
    · obtain ⟨q, hq⟩ := List.mem_iff_getElem?.1 hp
      obtain ⟨hqn, _, u, hu, _, _, hus, _⟩ := htell.at_ q p hq
      refine ⟨y.inn, y.alt, u, hi, ha, by omega, ?_, by omega⟩
      rw [← hpn, hqn]
      exact hu

/-- What leans on an item stands in its body. -/
theorem lean_in {x : By} {t : Tr} {its : List It} (h : planT x t = some its) {f g : Nat} {y : It} (hy : its[f]? = some y) (ha : (g : Int) ∈ y.after) : ∃ z, its[g]? = some z ∧ z.inn = y.inn ∧ z.alt = y.alt := by
  obtain ⟨_, _, hK, he⟩ := planT_parts h
  obtain ⟨xs, hxs⟩ : ∃ xs, xs = xsT t 0 0 0 := ⟨_, rfl⟩
  rw [← hxs] at hK he
  cases f with
  | zero =>
    rw [he, its2_root] at hy
    cases hy
    cases ha
  | succ j =>
    have hjl : j < xs.length := by
      have := (List.getElem?_eq_some_iff.1 hy).1
      rw [he, its2_len] at this
      omega
    obtain ⟨u, hu⟩ : ∃ u, xs[j]? = some u := ⟨_, List.getElem?_eq_getElem hjl⟩
    obtain ⟨y', hy', hb, haf⟩ := its2_at x t.len xs j u hu
    rw [← he, hy] at hy'
    cases hy'
    obtain ⟨r, hr⟩ := Option.isSome_iff_exists.1 (hK j hjl)
    rw [haf, hr] at ha
    simp only [Option.getD_some] at ha
    obtain ⟨c, hc, hcg⟩ := List.mem_map.1 ha
    obtain rfl : c = g := by have : (c : Int) = (g : Int) := hcg; omega
    unfold leanK at hr
    rw [hu] at hr
    obtain ⟨v, hv, hvi, hva⟩ := leanP_body _ _ _ hr (by simp) c hc
    have h7 := its2_bare7 x t.len xs xs.length c
    rw [hv] at h7
    rw [← he] at h7
    cases hz : its[c]? with
    | none => rw [hz] at h7; cases h7
    | some z =>
      rw [hz] at h7
      simp only [Option.map_some, Option.some.injEq] at h7
      have e1 : (bare7 z).inn = (bare7 v).inn := congrArg It.inn h7
      have e1 : z.inn = v.inn := e1
      have e2 : (bare7 z).alt = (bare7 v).alt := congrArg It.alt h7
      have e2 : z.alt = v.alt := e2
      have e3 : y.inn = (u.inn : Int) := congrArg It.inn hb
      have e4 : y.alt = (u.alt : Int) := congrArg It.alt hb
      exact ⟨z, rfl, by rw [e1, hvi, e3], by rw [e2, hva, e4]⟩

end Go.Proofs.YtgdnlceliiekkaaGreatDoor

/- A right plan as the plain side of layer 14 has it. -/
namespace Go.Proofs.YtgdnlceliiekkaaGreatDoor.St

open Go.Proofs.YtgdnlceliiekkaaGreatDoor.Sx

set_option linter.unusedVariables false

/-- Nodes, and bodies, of lists are of their kind. -/
theorem kd_nodes : ∀ (l : List (Lab × Tr)), (∀ x ∈ l, Kd true x.2) → Kd false (nodesL l)
  | [], _ => trivial
  | x :: l, h => ⟨rfl, h x (by simp), kd_nodes l fun y hy => h y (by simp [hy])⟩

theorem kd_bodies : ∀ (l : List Tr), (∀ x ∈ l, Kd false x) → Kd true (bodiesL l)
  | [], _ => trivial
  | x :: l, h => ⟨rfl, h x (by simp), kd_bodies l fun y hy => h y (by simp [hy])⟩

theorem kd_kids {its : List It} {rec : Nat → Tr} (hr : ∀ k, Kd true (rec k)) (i alt : Nat) : ∀ k, ∀ x ∈ kidsT its rec i alt k, Kd true x.2
  | 0, x, hx => by cases hx
  | k + 1, x, hx => by
    unfold kidsT at hx
    rcases List.mem_append.1 hx with hx | hx
    · exact kd_kids hr i alt k x hx
    · split at hx
      · split at hx
        · simp at hx
          subst hx
          exact hr k
        · cases hx
      · cases hx

theorem kd_bodT (its : List It) : ∀ (f i : Nat), Kd true (bodT its f i)
  | 0, _ => trivial
  | f + 1, i => by
    unfold bodT
    refine kd_bodies _ fun x hx => ?_
    obtain ⟨a, _, rfl⟩ := List.mem_map.1 hx
    exact kd_nodes _ (kd_kids (kd_bodT its f) i a _)

/-- Each node of right bodies is right. -/
theorem xs_ok (t : Tr) : ∀ (k : Bool) (inn alt last d : Nat), Kd k t → Sx.okL (fltn d t) = true → ∀ y ∈ xsT t inn alt last, nodeOk y.lab y.am = true := by
  induction t with
  | e => intro k inn alt last d _ _ y hy; cases hy
  | b x r ih1 ih2 =>
    intro k inn alt last d hk ho y hy
    obtain ⟨_, k1, k2⟩ := hk
    unfold Sx.okL fltn at ho
    rw [List.all_append, Bool.and_eq_true] at ho
    rcases List.mem_append.1 hy with hy | hy
    · exact ih1 _ _ _ _ d k1 ho.1 y hy
    · exact ih2 _ _ _ _ d k2 ho.2 y hy
  | n l s r ih1 ih2 =>
    intro k inn alt last d hk ho y hy
    obtain ⟨_, k1, k2⟩ := hk
    unfold Sx.okL fltn at ho
    rw [List.all_cons, List.all_append, Bool.and_eq_true, Bool.and_eq_true] at ho
    obtain ⟨o1, o2, o3⟩ := ho
    rcases List.mem_cons.1 hy with rfl | hy
    · exact o1
    · rcases List.mem_append.1 hy with hy | hy
      · cases hsub : l.sub with
        | true =>
          rw [hsub] at o2
          exact ih1 _ _ _ _ (d + 1) k1 o2 y hy
        | false =>
          have hs : s = .e := by
            unfold nodeOk at o1
            simp only [hsub] at o1
            cases s with
            | e => rfl
            | b x r => simp [Tr.len] at o1
            | n l t r => simp [Tr.len] at o1
          subst hs
          cases hy
      · exact ih2 _ _ _ _ d k2 o3 y hy

def It.z : It := ⟨[], [], false, false, 0, 0, 0, []⟩

/-- A plan of items. -/
def plOf (its : List It) : Pl where
  n := its.length
  sub := fun i => (its.getD i It.z).sub
  vital := fun i => (its.getD i It.z).vital
  alts := fun i => (its.getD i It.z).alts.toNat
  inn := fun i => (its.getD i It.z).inn.toNat
  alt := fun i => (its.getD i It.z).alt.toNat

theorem getD_it {its : List It} {i : Nat} {x : It} (h : its[i]? = some x) : its.getD i It.z = x := by
  rw [List.getD_eq_getElem?_getD, h]
  rfl

/-- What each item of a right plan is. -/
theorem plan_items {its : List It} {q : By × Tr} (h : sagaP its = some q) :
    (∃ x, its[0]? = some x ∧ x.sub = true ∧ x.inn = -1 ∧ x.alt = 0 ∧ 1 ≤ x.alts ∧ x.alts ≤ 4) ∧
    ∀ (i : Nat) (x : It), its[i]? = some x → 1 ≤ i → (∃ (j a : Nat) (y : It), x.inn = (j : Int) ∧ x.alt = (a : Int) ∧ j < i ∧ its[j]? = some y ∧ (a : Int) < y.alts ∧ y.sub = true) ∧ (if x.sub then 1 ≤ x.alts ∧ x.alts ≤ 4 else x.alts = 0 ∧ x.vital = false) := by
  unfold sagaP at h
  split at h
  rotate_left
  · cases h
  rename_i hc
  obtain ⟨_, hp⟩ := hc
  have hk : Kd true (bodS its) := kd_bodT its _ 0
  obtain ⟨p1, p2, p3, p4⟩ := planT_parts hp
  have hfs := p1
  unfold fitS at hfs
  simp only [Bool.and_eq_true, decide_eq_true_eq] at hfs
  obtain ⟨f1, _, _, f4, f5⟩ := hfs
  have hr : rightS (nameI its 0) (bodS its) = true := by
    apply Classical.byContradiction
    intro h9
    unfold codeS at f1
    rw [if_neg h9] at f1
    cases f1
  unfold rightS at hr
  simp only [Bool.and_eq_true, decide_eq_true_eq] at hr
  obtain ⟨⟨⟨_, hpos⟩, _⟩, hok⟩ := hr
  have h4 : (bodS its).len ≤ 4 := by
    unfold fits at f4
    simp only [Bool.and_eq_true, decide_eq_true_eq] at f4
    exact f4.1
  have htell := plan_tells hp
  have hroot : its[0]? = some (rootI (nameI its 0) (bodS its).len) := by
    have h9 := its2_root (nameI its 0) (bodS its).len (xsT (bodS its) 0 0 0)
    rw [← p4] at h9
    exact h9
  have step : ∀ (i : Nat) (x : It), its[i]? = some x → 1 ≤ i → (if x.sub then 1 ≤ x.alts ∧ x.alts ≤ 4 else x.alts = 0 ∧ x.vital = false) := by
    intro i x hx hi
    obtain ⟨k, rfl⟩ : ∃ k, i = k + 1 := ⟨i - 1, by omega⟩
    have hkl : k < (xsT (bodS its) 0 0 0).length := by
      have := (List.getElem?_eq_some_iff.1 hx).1
      rw [htell.len] at this
      omega
    obtain ⟨y, hy⟩ : ∃ y, (xsT (bodS its) 0 0 0)[k]? = some y := ⟨_, List.getElem?_eq_getElem hkl⟩
    obtain ⟨_, _, z, hz, _, _, ha, hlab⟩ := htell.at_ k y hy
    rw [hx] at hz
    cases hz
    have hm := List.mem_of_getElem? hy
    have hn := xs_ok (bodS its) true 0 0 0 1 hk hok y hm
    obtain ⟨hf, he⟩ := fits_all (bodS its) 0 0 0 f5 y hm
    have hl4 : y.am ≤ 4 := by
      unfold fits at hf
      simp only [Bool.and_eq_true, decide_eq_true_eq] at hf
      rw [he]
      exact hf.1
    have hs : x.sub = y.lab.sub := by rw [← hlab]; rfl
    have hv : x.vital = y.lab.vital := by rw [← hlab]; rfl
    unfold nodeOk at hn
    rw [Bool.and_eq_true] at hn
    rw [hs, hv, ha]
    have hn2 := hn.2
    cases hsub : y.lab.sub with
    | true =>
      rw [hsub] at hn2
      simp at hn2
      rw [if_pos rfl]
      omega
    | false =>
      rw [hsub] at hn2
      simp at hn2
      rw [if_neg (by decide)]
      exact ⟨by omega, hn2.1.2⟩
  refine ⟨⟨_, hroot, rfl, rfl, rfl, by show (1 : Int) ≤ ((bodS its).len : Int); omega, by show (((bodS its).len : Nat) : Int) ≤ 4; omega⟩, fun i x hx hi => ⟨?_, step i x hx hi⟩⟩
  obtain ⟨j, a, y, e1, e2, e3, e4, e5⟩ := item_in hp hk hx (by omega)
  refine ⟨j, a, y, e1, e2, e3, e4, e5, ?_⟩
  by_cases hj : j = 0
  · subst hj
    rw [hroot] at e4
    cases e4
    rfl
  · have h9 := step j y e4 (by omega)
    cases hs : y.sub with
    | true => rfl
    | false =>
      rw [hs, if_neg (by decide)] at h9
      omega

/-- A right plan, plainly. -/
theorem plan_ok {its : List It} {q : By × Tr} (h : sagaP its = some q) : (plOf its).Ok := by
  obtain ⟨⟨r, r0, r1, r2, r3, r4, r5⟩, hi⟩ := plan_items h
  have hlen : 1 ≤ its.length := by have := (List.getElem?_eq_some_iff.1 r0).1; omega
  refine ⟨hlen, by show (its.getD 0 It.z).sub = true; rw [getD_it r0]; exact r1, fun i h1 h2 => ?_, fun i h2 hs => ?_⟩
  · obtain ⟨x, hx⟩ : ∃ x, its[i]? = some x := ⟨_, List.getElem?_eq_getElem h2⟩
    obtain ⟨⟨j, a, y, e1, e2, e3, e4, e5, e6⟩, _⟩ := hi i x hx h1
    have ej : (plOf its).inn i = j := by show (its.getD i It.z).inn.toNat = j; rw [getD_it hx, e1]; rfl
    have ea : (plOf its).alt i = a := by show (its.getD i It.z).alt.toNat = a; rw [getD_it hx, e2]; rfl
    rw [ej, ea]
    refine ⟨e3, by show (its.getD j It.z).sub = true; rw [getD_it e4]; exact e6, by show a < (its.getD j It.z).alts.toNat; rw [getD_it e4]; omega⟩
  · obtain ⟨x, hx⟩ : ∃ x, its[i]? = some x := ⟨_, List.getElem?_eq_getElem h2⟩
    have hs' : x.sub = true := by have : (its.getD i It.z).sub = true := hs; rw [getD_it hx] at this; exact this
    show 1 ≤ (its.getD i It.z).alts.toNat
    rw [getD_it hx]
    by_cases h0 : i = 0
    · subst h0
      rw [r0] at hx
      cases hx
      omega
    · have := (hi i x hx (by omega)).2
      rw [hs', if_pos rfl] at this
      omega

end Go.Proofs.YtgdnlceliiekkaaGreatDoor.St

