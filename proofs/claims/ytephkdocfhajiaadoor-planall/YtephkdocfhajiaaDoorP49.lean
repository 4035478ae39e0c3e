/- Texts of the seat, packed: Te. -/
import Derived.Test.YtephkdocfhajiaaDoorP48
import Derived.Test.YtephkdocfhajiaaDoorP42
import Derived.Test.YtephkdocfhajiaaDoorP46
/- The walk over PlanBack. -/
namespace Go.Proofs.YtephkdocfhajiaaDoor
open Go.RowKit Go.Shelf Go.Proofs.YtephkdocfhajiaaDoor.Sx
set_option linter.unusedVariables false

theorem short_fair (t : Tr) : szA t ≤ t.pc ∧ (t.short → t.pc ≤ 100000 → AllL (fun l => l.name.length ≤ 1000000 ∧ l.after.length ≤ 100000 ∧ ∀ z ∈ l.after, z.length ≤ 1000000) t) := by
  induction t with
  | e => exact ⟨Nat.le_refl _, fun _ _ => trivial⟩
  | b x r ih1 ih2 =>
    refine ⟨by have := ih1.1; have := ih2.1; simp only [szA, Tr.pc]; omega, fun h hp => ?_⟩
    simp only [Tr.pc] at hp
    exact ⟨ih1.2 h.1 (by omega), ih2.2 h.2 (by omega)⟩
  | n l s r ih1 ih2 =>
    refine ⟨by have := ih1.1; have := ih2.1; simp only [szA, Tr.pc]; omega, fun h hp => ?_⟩
    simp only [Tr.pc] at hp
    obtain ⟨⟨h1, h2, h3⟩, h4, h5⟩ := h
    exact ⟨⟨by omega, by omega, fun z hz => by have := h3 z hz; omega⟩, ih1.2 h4 (by omega), ih2.2 h5 (by omega)⟩

theorem few_fair {t : Tr} (h : t.pc ≤ 1000) (hs : t.short) : Fair t := Fair.of (by have := (short_fair t).1; omega) ((short_fair t).2 hs (by omega))

theorem saga_fair {its : List It} {x : By} {t : Tr} (h : sagaP its = some (x, t)) (hF : FairI its) : Fair t := by
  unfold sagaP at h
  split at h
  · rename_i hc
    simp only [Option.some.injEq, Prod.mk.injEq] at h
    rw [← h.2]
    exact hang_fair hc.1 hF.name
  · cases h

theorem small_after {its : List It} (h : smallI its = true) : ∀ y ∈ its, y.after.length ≤ 100 := by
  unfold smallI at h
  rw [Bool.and_eq_true, decide_eq_true_eq] at h
  obtain ⟨h1, h2⟩ := h
  rw [List.take_of_length_le h2, List.all_eq_true] at h1
  intro y hy
  have := h1 y hy
  simp only [okIt, Bool.and_eq_true, decide_eq_true_eq] at this
  exact this.2.2

theorem plan_count {x : By} {t : Tr} {its : List It} (h : planT x t = some its) : (its.length : Int) = ((fltn 1 t).length : Int) + 1 ∧ codeS x t = 0 := by
  obtain ⟨hfit, _, _, he⟩ := planT_parts h
  have hlen : its.length = cntA t + 1 := by rw [he, its2_len, xsT_len]
  simp only [fitS, Bool.and_eq_true, decide_eq_true_eq] at hfit
  have hc := hfit.1
  have hr : rightS x t = true := by
    unfold codeS at hc
    split at hc
    · assumption
    · cases hc
  have hok : okL (fltn 1 t) = true := by
    unfold rightS at hr
    simp only [Bool.and_eq_true] at hr
    exact hr.2
  have := cnt_flat t 1 hok
  exact ⟨by omega, hc⟩

theorem plan_fairI {x : By} {t : Tr} {its : List It} (h : planT x t = some its) (hF : Fair t) (hx : x.length ≤ 1000000) : FairI its := by
  obtain ⟨hfit, _, _, he⟩ := planT_parts h
  have hcnt := fit_cnt hfit
  refine ⟨fun z hz => ?_, fun z hz => ?_⟩
  · obtain ⟨j, hj⟩ := List.mem_iff_getElem?.1 hz
    cases j with
    | zero =>
      rw [he, its2_root] at hj
      cases hj
      exact hx
    | succ j =>
      have hjl : j < (xsT t 0 0 0).length := by
        have := (List.getElem?_eq_some_iff.1 hj).1
        rw [he, its2_len] at this
        omega
      obtain ⟨y, hy⟩ : ∃ y, (xsT t 0 0 0)[j]? = some y := ⟨_, List.getElem?_eq_getElem hjl⟩
      obtain ⟨z', hz', hb, _⟩ := its2_at x t.len _ j y hy
      rw [← he, hj] at hz'
      cases hz'
      have hname : z.name = y.lab.name := congrArg It.name hb
      rw [hname]
      exact (hF.lab y (List.mem_of_getElem? hy)).1
  · rw [he] at hz
    have := (its2_after x t.len (xsT t 0 0 0) _ z hz).1
    rw [xsT_len] at this
    omega

theorem plan_short {x : By} {t : Tr} {its : List It} (h : planT x t = some its) : its.length ≤ 64 := by
  obtain ⟨hfit, _, _, he⟩ := planT_parts h
  have hcnt := fit_cnt hfit
  rw [he, its2_len, xsT_len]
  omega

theorem back_in (W0 : World) (B2 B5 B7 n5 c5 ca c7 : Nat) (v5 a a7 : Option Addr) (x : By) (t : Tr) (its : List It) (P : Nat → Prop) (hP : planT x t = some its) (hT : Dg.Tab W0) (hF : Fair t) (hxl : x.length ≤ 1000000) (hk : Kd true t) (h5 : RdIt W0 (.slice v5 n5 c5) its) (h7 : TAt P W0 true t a7 0 t.len) (h2 : TAt (· < W0.heap.size) W0 true t a 0 t.len) :
    (∀ w1 w2 : World, (Below W0.heap.size W0 w1 ∧ w1.cell? ⟨B5, 0, none⟩ = some (.slice v5 n5 c5) ∧ w1.cell? ⟨B7, 0, none⟩ = some (.string ⟨x.toArray⟩) ∧ w1.cell? ⟨B7, 1, none⟩ = some (.slice a7 t.len c7) ∧ w1.cell? ⟨B2, 0, none⟩ = some (.string ⟨x.toArray⟩) ∧ w1.cell? ⟨B2, 1, none⟩ = some (.slice a t.len ca)) → Below w1.heap.size w1 w2 → (Below W0.heap.size W0 w2 ∧ w2.cell? ⟨B5, 0, none⟩ = some (.slice v5 n5 c5) ∧ w2.cell? ⟨B7, 0, none⟩ = some (.string ⟨x.toArray⟩) ∧ w2.cell? ⟨B7, 1, none⟩ = some (.slice a7 t.len c7) ∧ w2.cell? ⟨B2, 0, none⟩ = some (.string ⟨x.toArray⟩) ∧ w2.cell? ⟨B2, 1, none⟩ = some (.slice a t.len ca))) ∧
    (∀ wx : World, (Below W0.heap.size W0 wx ∧ wx.cell? ⟨B5, 0, none⟩ = some (.slice v5 n5 c5) ∧ wx.cell? ⟨B7, 0, none⟩ = some (.string ⟨x.toArray⟩) ∧ wx.cell? ⟨B7, 1, none⟩ = some (.slice a7 t.len c7) ∧ wx.cell? ⟨B2, 0, none⟩ = some (.string ⟨x.toArray⟩) ∧ wx.cell? ⟨B2, 1, none⟩ = some (.slice a t.len ca)) → Calls Tryd.prog 12 #[.agg #[.slice v5 n5 c5]] wx fun e w' => e = .returned (.bool true) ∧ (Below W0.heap.size W0 w' ∧ w'.cell? ⟨B5, 0, none⟩ = some (.slice v5 n5 c5) ∧ w'.cell? ⟨B7, 0, none⟩ = some (.string ⟨x.toArray⟩) ∧ w'.cell? ⟨B7, 1, none⟩ = some (.slice a7 t.len c7) ∧ w'.cell? ⟨B2, 0, none⟩ = some (.string ⟨x.toArray⟩) ∧ w'.cell? ⟨B2, 1, none⟩ = some (.slice a t.len ca))) ∧
    (∀ wx : World, (Below W0.heap.size W0 wx ∧ wx.cell? ⟨B5, 0, none⟩ = some (.slice v5 n5 c5) ∧ wx.cell? ⟨B7, 0, none⟩ = some (.string ⟨x.toArray⟩) ∧ wx.cell? ⟨B7, 1, none⟩ = some (.slice a7 t.len c7) ∧ wx.cell? ⟨B2, 0, none⟩ = some (.string ⟨x.toArray⟩) ∧ wx.cell? ⟨B2, 1, none⟩ = some (.slice a t.len ca)) → Calls Tryd.prog 13 #[.agg #[.string ⟨x.toArray⟩, .slice a7 t.len c7], .agg #[.string ⟨x.toArray⟩, .slice a t.len ca]] wx fun e w' => e = .returned (.bool true) ∧ (Below W0.heap.size W0 w' ∧ w'.cell? ⟨B5, 0, none⟩ = some (.slice v5 n5 c5) ∧ w'.cell? ⟨B7, 0, none⟩ = some (.string ⟨x.toArray⟩) ∧ w'.cell? ⟨B7, 1, none⟩ = some (.slice a7 t.len c7) ∧ w'.cell? ⟨B2, 0, none⟩ = some (.string ⟨x.toArray⟩) ∧ w'.cell? ⟨B2, 1, none⟩ = some (.slice a t.len ca))) ∧
    (∀ wx : World, (Below W0.heap.size W0 wx ∧ wx.cell? ⟨B5, 0, none⟩ = some (.slice v5 n5 c5) ∧ wx.cell? ⟨B7, 0, none⟩ = some (.string ⟨x.toArray⟩) ∧ wx.cell? ⟨B7, 1, none⟩ = some (.slice a7 t.len c7) ∧ wx.cell? ⟨B2, 0, none⟩ = some (.string ⟨x.toArray⟩) ∧ wx.cell? ⟨B2, 1, none⟩ = some (.slice a t.len ca)) → Calls Tryd.prog 14 #[.agg #[.string ⟨x.toArray⟩, .slice a t.len ca]] wx fun e w' => e = .returned (.int .i64 ((fltn 1 t).length : Int)) ∧ (Below W0.heap.size W0 w' ∧ w'.cell? ⟨B5, 0, none⟩ = some (.slice v5 n5 c5) ∧ w'.cell? ⟨B7, 0, none⟩ = some (.string ⟨x.toArray⟩) ∧ w'.cell? ⟨B7, 1, none⟩ = some (.slice a7 t.len c7) ∧ w'.cell? ⟨B2, 0, none⟩ = some (.string ⟨x.toArray⟩) ∧ w'.cell? ⟨B2, 1, none⟩ = some (.slice a t.len ca))) ∧
    (∀ wx : World, (Below W0.heap.size W0 wx ∧ wx.cell? ⟨B5, 0, none⟩ = some (.slice v5 n5 c5) ∧ wx.cell? ⟨B7, 0, none⟩ = some (.string ⟨x.toArray⟩) ∧ wx.cell? ⟨B7, 1, none⟩ = some (.slice a7 t.len c7) ∧ wx.cell? ⟨B2, 0, none⟩ = some (.string ⟨x.toArray⟩) ∧ wx.cell? ⟨B2, 1, none⟩ = some (.slice a t.len ca)) → Calls Tryd.prog 15 #[.agg #[.string ⟨x.toArray⟩, .slice a t.len ca]] wx fun e w' => e = .returned (.int .i64 0) ∧ (Below W0.heap.size W0 w' ∧ w'.cell? ⟨B5, 0, none⟩ = some (.slice v5 n5 c5) ∧ w'.cell? ⟨B7, 0, none⟩ = some (.string ⟨x.toArray⟩) ∧ w'.cell? ⟨B7, 1, none⟩ = some (.slice a7 t.len c7) ∧ w'.cell? ⟨B2, 0, none⟩ = some (.string ⟨x.toArray⟩) ∧ w'.cell? ⟨B2, 1, none⟩ = some (.slice a t.len ca))) := by
  have K : ∀ w1 w2 : World, (Below W0.heap.size W0 w1 ∧ w1.cell? ⟨B5, 0, none⟩ = some (.slice v5 n5 c5) ∧ w1.cell? ⟨B7, 0, none⟩ = some (.string ⟨x.toArray⟩) ∧ w1.cell? ⟨B7, 1, none⟩ = some (.slice a7 t.len c7) ∧ w1.cell? ⟨B2, 0, none⟩ = some (.string ⟨x.toArray⟩) ∧ w1.cell? ⟨B2, 1, none⟩ = some (.slice a t.len ca)) → Below w1.heap.size w1 w2 → (Below W0.heap.size W0 w2 ∧ w2.cell? ⟨B5, 0, none⟩ = some (.slice v5 n5 c5) ∧ w2.cell? ⟨B7, 0, none⟩ = some (.string ⟨x.toArray⟩) ∧ w2.cell? ⟨B7, 1, none⟩ = some (.slice a7 t.len c7) ∧ w2.cell? ⟨B2, 0, none⟩ = some (.string ⟨x.toArray⟩) ∧ w2.cell? ⟨B2, 1, none⟩ = some (.slice a t.len ca)) := by
    rintro w1 w2 ⟨h1, h2, h3, h4, h5, h6⟩ hb
    exact ⟨h1.trans (hb.mono h1.size), Dg.cell_later hb h2, Dg.cell_later hb h3, Dg.cell_later hb h4, Dg.cell_later hb h5, Dg.cell_later hb h6⟩
  have hsg := saga_of_plan hP hk
  refine ⟨K, ?_, ?_, ?_, ?_⟩
  · intro wx hS
    have h := Right_any its (.slice v5 n5 c5) wx (h5.later hS.1) (plan_fairI hP hF hxl) (hT.later hS.1)
    rw [hsg] at h
    refine Calls.mono h ?_
    rintro e w' ⟨h, hb⟩
    exact ⟨h, K _ _ hS hb⟩
  · intro wx hS
    refine Calls.mono (same_saga x t _ _ wx a7 a c7 ca (h7.below hS.1) (h2.below hS.1) hF.bnd.sz.1 hF.bnd.sz.2) ?_
    rintro e w' ⟨h, hb⟩
    exact ⟨h, K _ _ hS hb⟩
  · intro wx hS
    refine Calls.mono (count_any wx ⟨x.toArray⟩ t a t.len ca (TAt.later h2 hS.1) hF.bnd) ?_
    rintro e w' ⟨h, hb⟩
    exact ⟨h, K _ _ hS hb⟩
  · intro wx hS
    have h := check_any wx x t a t.len ca (TAt.later h2 hS.1) hF.bnd
    rw [(plan_count hP).2] at h
    refine Calls.mono h ?_
    rintro e w' ⟨h, hb⟩
    exact ⟨h, K _ _ hS hb⟩

set_option maxRecDepth 1000000 in
set_option maxHeartbeats 8000000 in
theorem back_walk (hLv : ∀ wx : World, Dg.Tab wx → Calls Tryd.prog 9 #[] wx fun e w' => e = .returned (.bool true) ∧ Below wx.heap.size wx w') (x : By) (t : Tr) (a : Option Addr) (ca : Nat) (its : List It) (ia : Option Addr) (il icap : Nat) (w : World) (hT : Dg.Tab w)
    (ht : TAt (· < w.heap.size) w true t a 0 t.len) (hm : t.len ≤ maxLen) (hb : t.bnd) (hx : x.length ≤ maxLen) (hIt : RdIt w (.slice ia il icap) its) (hmx : its.length ≤ maxLen) (hnm : ∀ x ∈ its, x.name.length ≤ maxLen ∧ x.undo.length ≤ maxLen ∧ x.after.length ≤ maxLen) :
    Calls Tryd.prog 3 #[.agg #[.string ⟨x.toArray⟩, .slice a t.len ca], .agg #[.slice ia il icap]] w fun e w' => e = .returned (.bool true) ∧ Below w.heap.size w w' := by
  have HLv : Hid _ := hLv
  have HT : Hid (Dg.Tab w) := hT
  have HTt : Hid (TAt (· < w.heap.size) w true t a 0 t.len) := ht
  have HKd : Hid (Kd true t) := TAt.kd t ht
  have HIt : Hid (RdIt w (.slice ia il icap) its) := hIt
  have HIL : Hid (its.length = il) := by
    obtain ⟨a, c, he, _⟩ := hIt
    simp only [Value.slice.injEq] at he
    exact he.2.1.symm
  obtain ⟨W1, HW1⟩ : ∃ W1, W1 = (w.alloc (.cells #[.string ⟨x.toArray⟩, .slice a t.len ca] 24)).alloc (.cells #[.slice ia il icap] 27) := ⟨_, rfl⟩
  have hb1 : Below w.heap.size w W1 := by rw [HW1]; exact ((Below.refl _ w).alloc (Nat.le_refl _) _).alloc (by simp) _
  have r2 : W1.heap[w.heap.size]? = some (.cells #[.string ⟨x.toArray⟩, .slice a t.len ca] 24 (0, 0)) := by rw [HW1]; exact Dg.row_alloc (Dg.row_new w _ 24) _
  have r3 : W1.heap[w.heap.size + 1]? = some (.cells #[.slice ia il icap] 27 (0, 0)) := by
    rw [HW1]
    have := Dg.row_new (w.alloc (.cells #[.string ⟨x.toArray⟩, .slice a t.len ca] 24)) #[.slice ia il icap] 27
    rwa [World.size_alloc] at this
  have g20 := (Dg.cell_row r2 0).trans rfl
  have g21 := (Dg.cell_row r2 1).trans rfl
  have g3 := (Dg.cell_row r3 0).trans rfl
  have MF : Hid _ := few_any x t _ W1 a ca (ht.below hb1) hm hb hx
  have HSm : Hid (∀ wx, Below w.heap.size w wx → Calls Tryd.prog 8 #[.agg #[.slice ia il icap]] wx fun e w' => e = .returned (.bool (smallI its)) ∧ Below wx.heap.size wx w') := fun wx h => small_any its (.slice ia il icap) wx (hIt.later h) hmx hnm
  have HB1 : Hid _ := hb1
  clear hLv hT ht hm hb hx hIt hmx hnm hb1 r2 r3
  obtain ⟨tl, HTL⟩ : ∃ tl, Hid (t.len = tl) := ⟨_, rfl⟩
  rw [HTL.out] at MF HW1 g21 ⊢
  go_enter Tryd.func3, Tryd.ntmps3
  go_wp2_with fail
  rw [← HW1]
  clear HW1
  refine Calls.mono MF.out ?_
  rintro e w2 ⟨q, rfl, hb2, hq⟩
  have HB2 : Hid (Below w.heap.size w w2) := HB1.out.trans (hb2.mono HB1.out.size)
  have i20 := Dg.cell_later hb2 g20
  have i21 := Dg.cell_later hb2 g21
  have i3 := Dg.cell_later hb2 g3
  clear hb2 MF g20 g21 g3
  cases q with
  | false =>
    clear hq i20 i21 i3
    go_wp2_with fail
    refine Calls.mono (HLv.out w2 (HT.out.later HB2.out)) ?_
    rintro e w3 ⟨rfl, hb3⟩
    have HB3 : Hid (Below w.heap.size w w3) := HB2.out.trans (hb3.mono HB2.out.size)
    clear hb3
    go_wp2_with fail
    go_ret
    exact ⟨rfl, HB3.out⟩
  | true =>
    obtain ⟨hx200, hpc, hsh⟩ := hq rfl
    have HFt : Hid (Fair t) := few_fair hpc hsh
    have HXl : Hid (x.length ≤ 1000000) := by show _ ≤ _; omega
    clear hq hpc hsh hx200
    go_wp2_with fail
    refine Calls.mono (HSm.out w2 HB2.out) ?_
    rintro e w3 ⟨rfl, hb3⟩
    have HB3 : Hid (Below w.heap.size w w3) := HB2.out.trans (hb3.mono HB2.out.size)
    have j20 := Dg.cell_later hb3 i20
    have j21 := Dg.cell_later hb3 i21
    have j3 := Dg.cell_later hb3 i3
    obtain ⟨sm, HSM⟩ : ∃ sm, Hid (smallI its = sm) := ⟨_, rfl⟩
    rw [HSM.out]
    clear hb3 i20 i21 i3 HSm
    cases sm with
    | false =>
      clear j20 j21 j3
      go_wp2_with fail
      refine Calls.mono (HLv.out w3 (HT.out.later HB3.out)) ?_
      rintro e w4 ⟨rfl, hb4⟩
      have HB4 : Hid (Below w.heap.size w w4) := HB3.out.trans (hb4.mono HB3.out.size)
      clear hb4
      go_wp2_with fail
      go_ret
      exact ⟨rfl, HB4.out⟩
    | true =>
      obtain ⟨hF, hl70⟩ := small_fair HSM.out
      have HF : Hid (FairI its) := hF
      have HS100 : Hid (∀ y ∈ its, y.after.length ≤ 100) := small_after HSM.out
      rw [HIL.out] at hl70
      have MM : Hid _ := Make_any w3 x t a ca (TAt.later HTt.out HB3.out) HFt.out (HT.out.later HB3.out)
      rw [HTL.out] at MM
      clear hF
      go_wp2_with fail
      refine Calls.mono MM.out ?_
      rintro e w4 ⟨hb4, h4⟩
      have HB4 : Hid (Below w.heap.size w w4) := HB3.out.trans (hb4.mono HB3.out.size)
      have k20 := Dg.cell_later hb4 j20
      have k21 := Dg.cell_later hb4 j21
      have k30 := Dg.cell_later hb4 j3
      clear hb4 MM j20 j21 j3
      cases hP : planT x t with
      | none =>
        rw [hP] at h4
        obtain rfl : e = .returned (.tuple #[.agg #[.slice none 0 0], .int .i64 11]) := h4
        have hbA : Below w4.heap.size w4 (w4.alloc (.cells #[.slice none 0 0] 27)) := (Below.refl _ _).alloc (Nat.le_refl _) _
        have kk := Dg.cell_later hbA k30
        have HBz : Hid (Below w.heap.size w (w4.alloc (.cells #[.slice none 0 0] 27))) := HB4.out.trans (hbA.mono HB4.out.size)
        clear hP hbA k20 k21 k30
        go_wp2_with fail
        refine Calls.mono (Back_any its (.slice ia il icap) _ (HIt.out.later HBz.out) HF.out (HT.out.later HBz.out)) ?_
        rintro e w20 ⟨hb20, he20⟩
        have HB20 : Hid (Below w.heap.size w w20) := HBz.out.trans (hb20.mono HBz.out.size)
        have k3 := Dg.cell_later hb20 kk
        clear hb20
        cases hS20 : sagaP its with
        | none =>
          rw [hS20] at he20
          obtain rfl : e = .returned (.tuple #[.agg #[.string ⟨#[]⟩, .slice none 0 0], .int .i64 2]) := he20
          have hbA : Below w20.heap.size w20 (w20.alloc (.cells #[.string ⟨#[]⟩, .slice none 0 0] 24)) := (Below.refl _ _).alloc (Nat.le_refl _) _
          have k4 := Dg.cell_later hbA k3
          have HB21 : Hid (Below w.heap.size w (w20.alloc (.cells #[.string ⟨#[]⟩, .slice none 0 0] 24))) := HB20.out.trans (hbA.mono HB20.out.size)
          have MR : Hid _ := Right_any its (.slice ia il icap) _ (HIt.out.later HB21.out) HF.out (HT.out.later HB21.out)
          rw [hS20] at MR
          have MR2 : Hid (Calls Tryd.prog 12 #[.agg #[.slice ia il icap]] (w20.alloc (.cells #[.string ⟨#[]⟩, .slice none 0 0] 24)) fun e w' => e = .returned (.bool false) ∧ Below (w20.alloc (.cells #[.string ⟨#[]⟩, .slice none 0 0] 24)).heap.size (w20.alloc (.cells #[.string ⟨#[]⟩, .slice none 0 0] 24)) w') := MR.out
          clear hS20 MR hbA k3
          go_wp2_with fail
          refine Calls.mono MR2.out ?_
          rintro e w22 ⟨rfl, hb22⟩
          have HB22 : Hid (Below w.heap.size w w22) := HB21.out.trans (hb22.mono HB21.out.size)
          clear hb22 MR2 k4
          go_wp2_with fail
          refine Calls.mono (HLv.out w22 (HT.out.later HB22.out)) ?_
          rintro e w23 ⟨rfl, hb23⟩
          have HB23 : Hid (Below w.heap.size w w23) := HB22.out.trans (hb23.mono HB22.out.size)
          clear hb23
          go_wp2_with fail
          go_ret
          exact ⟨rfl, HB23.out⟩
        | some pp =>
          obtain ⟨x9, t9⟩ := pp
          rw [hS20] at he20
          obtain ⟨a9, c9, rfl, ht9⟩ := he20
          have hP9 := plan_of_saga hS20
          have hF9 := saga_fair hS20 HF.out
          have hbA : Below w20.heap.size w20 (w20.alloc (.cells #[.string ⟨x9.toArray⟩, .slice a9 t9.len c9] 24)) := (Below.refl _ _).alloc (Nat.le_refl _) _
          have k4 := Dg.cell_later hbA k3
          have HB21 : Hid (Below w.heap.size w (w20.alloc (.cells #[.string ⟨x9.toArray⟩, .slice a9 t9.len c9] 24))) := HB20.out.trans (hbA.mono HB20.out.size)
          have hta : TAt (· < (w20.alloc (.cells #[.string ⟨x9.toArray⟩, .slice a9 t9.len c9] 24)).heap.size) (w20.alloc (.cells #[.string ⟨x9.toArray⟩, .slice a9 t9.len c9] 24)) true t9 a9 0 t9.len := TAt.later (TAt.keep (fun _ _ _ => rfl) (fun _ h _ => h.2) _ _ _ _ _ ht9) hbA
          have MM : Hid _ := Make_any _ x9 t9 a9 c9 hta hF9 (HT.out.later HB21.out)
          have HSG : Hid ((sagaP its).isSome = true) := by show _ = _; rw [hS20]; rfl
          have HP9 : Hid (planT x9 t9 = some its) := hP9
          clear hP9 hF9 hta hbA k3 ht9 hS20
          generalize t9.len = l9 at *
          go_wp2_with fail
          refine Calls.mono MM.out ?_
          rintro e w22 ⟨hb22, h22⟩
          rw [HP9.out] at h22
          obtain ⟨v22, rfl, hs22⟩ := h22
          have HB22 : Hid (Below w.heap.size w w22) := HB21.out.trans (hb22.mono HB21.out.size)
          have hr22 := hs22.rd
          obtain ⟨a22, c22, rfl, _⟩ := id hr22
          rw [HIL.out] at hr22
          have k5 := Dg.cell_later hb22 k4
          have hbB : Below w22.heap.size w22 (w22.alloc (.cells #[.slice a22 il c22] 27)) := (Below.refl _ _).alloc (Nat.le_refl _) _
          have k6 := Dg.cell_later hbB k5
          have HB23 : Hid (Below w.heap.size w (w22.alloc (.cells #[.slice a22 il c22] 27))) := HB22.out.trans (hbB.mono HB22.out.size)
          have MS : Hid _ := planSame_any its (.slice ia il icap) (.slice a22 il c22) _ (HIt.out.later HB23.out) (hr22.later hbB) (by rw [HIL.out]; omega) (fun y hy => by have := HF.out.after y hy; have := HS100.out y hy; omega)
          rw [HIL.out]
          clear hs22 hr22 hb22 MM HP9 k4 k5
          go_wp2_with fail
          refine Calls.mono MS.out ?_
          rintro e w24 ⟨rfl, hb24⟩
          have HB24 : Hid (Below w.heap.size w w24) := HB23.out.trans (hb24.mono HB23.out.size)
          have k7 := Dg.cell_later hb24 k6
          have MR : Hid _ := Right_any its (.slice ia il icap) w24 (HIt.out.later HB24.out) HF.out (HT.out.later HB24.out)
          rw [HSG.out] at MR
          clear hb24 MS k6 hbB
          go_wp2_with fail
          refine Calls.mono MR.out ?_
          rintro e w25 ⟨rfl, hb25⟩
          have HB25 : Hid (Below w.heap.size w w25) := HB24.out.trans (hb25.mono HB24.out.size)
          clear hb25 MR k7
          go_wp2_with fail
          refine Calls.mono (HLv.out w25 (HT.out.later HB25.out)) ?_
          rintro e w26 ⟨rfl, hb26⟩
          have HB26 : Hid (Below w.heap.size w w26) := HB25.out.trans (hb26.mono HB25.out.size)
          clear hb26
          go_wp2_with fail
          go_ret
          exact ⟨rfl, HB26.out⟩
      | some its5 =>
        rw [hP] at h4
        obtain ⟨v4, rfl, hs4⟩ := h4
        have hr4 := hs4.rd
        obtain ⟨v5, c5, rfl, _⟩ := id hr4
        have hcp := plan_count hP
        obtain ⟨n5, HN5⟩ : ∃ n5, Hid (its5.length = n5) := ⟨_, rfl⟩
        rw [HN5.out] at hr4 hcp ⊢
        have hbA : Below w4.heap.size w4 (w4.alloc (.cells #[.slice v5 n5 c5] 27)) := (Below.refl _ _).alloc (Nat.le_refl _) _
        have m20 := Dg.cell_later hbA k20
        have m21 := Dg.cell_later hbA k21
        have m30 := Dg.cell_later hbA k30
        have m5 := (Dg.cell_row (Dg.row_new w4 #[.slice v5 n5 c5] 27) 0).trans rfl
        have HB5 : Hid (Below w.heap.size w (w4.alloc (.cells #[.slice v5 n5 c5] 27))) := HB4.out.trans (hbA.mono HB4.out.size)
        have hr5 := hr4.later hbA
        have MB : Hid _ := Back_any its5 (.slice v5 n5 c5) _ hr5 (plan_fairI hP HFt.out HXl.out) (HT.out.later HB5.out)
        have HP : Hid (planT x t = some its5) := hP
        have HSG : Hid (sagaP its5 = some (x, t)) := saga_of_plan hP HKd.out
        clear hP hs4 hr4 k20 k21 k30 hbA
        go_wp2_with fail
        generalize w4.alloc (.cells #[.slice v5 n5 c5] 27) = w5 at *
        refine Calls.mono MB.out ?_
        rintro e w6 ⟨hb6, h6⟩
        rw [HSG.out] at h6
        obtain ⟨a7, c7, rfl, ht7⟩ := h6
        have HB6 : Hid (Below w.heap.size w w6) := HB5.out.trans (hb6.mono HB5.out.size)
        have hbC : Below w6.heap.size w6 (w6.alloc (.cells #[.string ⟨x.toArray⟩, .slice a7 t.len c7] 24)) := (Below.refl _ _).alloc (Nat.le_refl _) _
        have HB7 : Hid (Below w.heap.size w (w6.alloc (.cells #[.string ⟨x.toArray⟩, .slice a7 t.len c7] 24))) := HB6.out.trans (hbC.mono HB6.out.size)
        have p20 := Dg.cell_later hbC (Dg.cell_later hb6 m20)
        have p21 := Dg.cell_later hbC (Dg.cell_later hb6 m21)
        have p30 := Dg.cell_later hbC (Dg.cell_later hb6 m30)
        have p5 := Dg.cell_later hbC (Dg.cell_later hb6 m5)
        have r7 := Dg.row_new w6 #[.string ⟨x.toArray⟩, .slice a7 t.len c7] 24
        have p70 := (Dg.cell_row r7 0).trans rfl
        have p71 := (Dg.cell_row r7 1).trans rfl
        have hin := back_in _ w.heap.size w4.heap.size w6.heap.size n5 c5 ca c7 v5 a a7 x t its5 _ HP.out (HT.out.later HB7.out) HFt.out HXl.out HKd.out ((hr5.later hb6).later hbC) (ht7.below hbC) (TAt.later HTt.out HB7.out)
        rw [HTL.out] at p71 hin HB7 p20 p21 p30 p5 p70 ⊢
        clear r7 ht7 hr5 hb6 m20 m21 m30 m5 MB hbC
        obtain ⟨W0, HW0⟩ : ∃ W0, W0 = w6.alloc (.cells #[.string ⟨x.toArray⟩, .slice a7 tl c7] 24) := ⟨_, rfl⟩
        obtain ⟨B2, HB2e⟩ : ∃ B, B = w.heap.size := ⟨_, rfl⟩
        obtain ⟨B5, HB5e⟩ : ∃ B, B = w4.heap.size := ⟨_, rfl⟩
        obtain ⟨B7, HB7e⟩ : ∃ B, B = w6.heap.size := ⟨_, rfl⟩
        have HBz : Hid (Below w.heap.size w W0) := by rw [HW0]; exact HB7
        have p30' : W0.cell? ⟨w.heap.size + 1, 0, none⟩ = some (.slice ia il icap) := by rw [HW0]; exact p30
        rw [← HW0] at p20 p21 p5 p70 p71 hin
        rw [← HB2e] at p20 p21 hin
        rw [← HB5e] at p5 hin
        rw [← HB7e] at p70 p71 hin
        obtain ⟨K, C12, C13, C14, C15⟩ := hin
        have HK : Hid _ := K
        have H12 : Hid _ := C12
        have H13 : Hid _ := C13
        have H14 : Hid _ := C14
        have H15 : Hid _ := C15
        have HS0 : Hid (Below W0.heap.size W0 W0.drew ∧ W0.drew.cell? ⟨B5, 0, none⟩ = some (.slice v5 n5 c5) ∧ W0.drew.cell? ⟨B7, 0, none⟩ = some (.string ⟨x.toArray⟩) ∧ W0.drew.cell? ⟨B7, 1, none⟩ = some (.slice a7 tl c7) ∧ W0.drew.cell? ⟨B2, 0, none⟩ = some (.string ⟨x.toArray⟩) ∧ W0.drew.cell? ⟨B2, 1, none⟩ = some (.slice a tl ca)) := ⟨(Below.refl _ _).drew, p5, p70, p71, p20, p21⟩
        obtain ⟨fl, HFL⟩ : ∃ fl, Hid ((fltn 1 t).length = fl) := ⟨_, rfl⟩
        rw [HFL.out] at H14 hcp
        obtain ⟨hcp, _⟩ := hcp
        have hw1 : IntKind.i64.wrap ((fl : Int) + 1) = (n5 : Int) := by rw [IntKind.wrap_i64]; have := HFL.out; have := HN5.out; have := plan_short HP.out; omega
        have HP30 : Hid _ := p30'
        clear K C12 C13 C14 C15 p20 p21 p5 p70 p71 p30 p30' HB7 HB6 HB5 hcp
        go_wp2_with fail
        rw [← HW0]
        rw [← HB2e, ← HB5e, ← HB7e]
        have HBH : Hid (B2 = w.heap.size) := HB2e
        clear HW0 HB2e HB5e HB7e
        go_region_held (fun w' => (Below W0.heap.size W0 w' ∧ w'.cell? ⟨B5, 0, none⟩ = some (.slice v5 n5 c5) ∧ w'.cell? ⟨B7, 0, none⟩ = some (.string ⟨x.toArray⟩) ∧ w'.cell? ⟨B7, 1, none⟩ = some (.slice a7 tl c7) ∧ w'.cell? ⟨B2, 0, none⟩ = some (.string ⟨x.toArray⟩) ∧ w'.cell? ⟨B2, 1, none⟩ = some (.slice a tl ca))) (first | assumption | exact HS0.out)
          (first
            | (go_at_call 12; refine Calls.mono (H12.out _ (by assumption)) ?_; rintro e w12 ⟨rfl, hS12⟩)
            | (go_at_call 13; refine Calls.mono (H13.out _ (by assumption)) ?_; rintro e w13 ⟨rfl, hS13⟩)
            | (go_at_call 14; refine Calls.mono (H14.out _ (by assumption)) ?_; rintro e w14 ⟨rfl, hS14⟩)
            | (go_at_call 15; refine Calls.mono (H15.out _ (by assumption)) ?_; rintro e w15 ⟨rfl, hS15⟩))
        all_goals
          have kk := Dg.cell_later hS15.1 HP30.out
          have HBq : Hid (Below w.heap.size w w15) := HBz.out.trans (hS15.1.mono HBz.out.size)
          rw [HBH.out]
          go_wp2_with fail
          refine Calls.mono (Back_any its (.slice ia il icap) w15 (HIt.out.later HBq.out) HF.out (HT.out.later HBq.out)) ?_
          rintro e w20 ⟨hb20, he20⟩
          have HB20 : Hid (Below w.heap.size w w20) := HBq.out.trans (hb20.mono HBq.out.size)
          have k3 := Dg.cell_later hb20 kk
          clear hb20
          cases hS20 : sagaP its with
          | none =>
            rw [hS20] at he20
            obtain rfl : e = .returned (.tuple #[.agg #[.string ⟨#[]⟩, .slice none 0 0], .int .i64 2]) := he20
            have hbA : Below w20.heap.size w20 (w20.alloc (.cells #[.string ⟨#[]⟩, .slice none 0 0] 24)) := (Below.refl _ _).alloc (Nat.le_refl _) _
            have k4 := Dg.cell_later hbA k3
            have HB21 : Hid (Below w.heap.size w (w20.alloc (.cells #[.string ⟨#[]⟩, .slice none 0 0] 24))) := HB20.out.trans (hbA.mono HB20.out.size)
            have MR : Hid _ := Right_any its (.slice ia il icap) _ (HIt.out.later HB21.out) HF.out (HT.out.later HB21.out)
            rw [hS20] at MR
            have MR2 : Hid (Calls Tryd.prog 12 #[.agg #[.slice ia il icap]] (w20.alloc (.cells #[.string ⟨#[]⟩, .slice none 0 0] 24)) fun e w' => e = .returned (.bool false) ∧ Below (w20.alloc (.cells #[.string ⟨#[]⟩, .slice none 0 0] 24)).heap.size (w20.alloc (.cells #[.string ⟨#[]⟩, .slice none 0 0] 24)) w') := MR.out
            clear hS20 MR hbA k3
            go_wp2_with fail
            refine Calls.mono MR2.out ?_
            rintro e w22 ⟨rfl, hb22⟩
            have HB22 : Hid (Below w.heap.size w w22) := HB21.out.trans (hb22.mono HB21.out.size)
            clear hb22 MR2 k4
            go_wp2_with fail
            refine Calls.mono (HLv.out w22 (HT.out.later HB22.out)) ?_
            rintro e w23 ⟨rfl, hb23⟩
            have HB23 : Hid (Below w.heap.size w w23) := HB22.out.trans (hb23.mono HB22.out.size)
            clear hb23
            go_wp2_with fail
            go_ret
            exact ⟨rfl, HB23.out⟩
          | some pp =>
            obtain ⟨x9, t9⟩ := pp
            rw [hS20] at he20
            obtain ⟨a9, c9, rfl, ht9⟩ := he20
            have hP9 := plan_of_saga hS20
            have hF9 := saga_fair hS20 HF.out
            have hbA : Below w20.heap.size w20 (w20.alloc (.cells #[.string ⟨x9.toArray⟩, .slice a9 t9.len c9] 24)) := (Below.refl _ _).alloc (Nat.le_refl _) _
            have k4 := Dg.cell_later hbA k3
            have HB21 : Hid (Below w.heap.size w (w20.alloc (.cells #[.string ⟨x9.toArray⟩, .slice a9 t9.len c9] 24))) := HB20.out.trans (hbA.mono HB20.out.size)
            have hta : TAt (· < (w20.alloc (.cells #[.string ⟨x9.toArray⟩, .slice a9 t9.len c9] 24)).heap.size) (w20.alloc (.cells #[.string ⟨x9.toArray⟩, .slice a9 t9.len c9] 24)) true t9 a9 0 t9.len := TAt.later (TAt.keep (fun _ _ _ => rfl) (fun _ h _ => h.2) _ _ _ _ _ ht9) hbA
            have MM : Hid _ := Make_any _ x9 t9 a9 c9 hta hF9 (HT.out.later HB21.out)
            have HSG : Hid ((sagaP its).isSome = true) := by show _ = _; rw [hS20]; rfl
            have HP9 : Hid (planT x9 t9 = some its) := hP9
            clear hP9 hF9 hta hbA k3 ht9 hS20
            generalize t9.len = l9 at *
            go_wp2_with fail
            refine Calls.mono MM.out ?_
            rintro e w22 ⟨hb22, h22⟩
            rw [HP9.out] at h22
            obtain ⟨v22, rfl, hs22⟩ := h22
            have HB22 : Hid (Below w.heap.size w w22) := HB21.out.trans (hb22.mono HB21.out.size)
            have hr22 := hs22.rd
            obtain ⟨a22, c22, rfl, _⟩ := id hr22
            rw [HIL.out] at hr22
            have k5 := Dg.cell_later hb22 k4
            have hbB : Below w22.heap.size w22 (w22.alloc (.cells #[.slice a22 il c22] 27)) := (Below.refl _ _).alloc (Nat.le_refl _) _
            have k6 := Dg.cell_later hbB k5
            have HB23 : Hid (Below w.heap.size w (w22.alloc (.cells #[.slice a22 il c22] 27))) := HB22.out.trans (hbB.mono HB22.out.size)
            have MS : Hid _ := planSame_any its (.slice ia il icap) (.slice a22 il c22) _ (HIt.out.later HB23.out) (hr22.later hbB) (by rw [HIL.out]; omega) (fun y hy => by have := HF.out.after y hy; have := HS100.out y hy; omega)
            rw [HIL.out]
            clear hs22 hr22 hb22 MM HP9 k4 k5
            go_wp2_with fail
            refine Calls.mono MS.out ?_
            rintro e w24 ⟨rfl, hb24⟩
            have HB24 : Hid (Below w.heap.size w w24) := HB23.out.trans (hb24.mono HB23.out.size)
            have k7 := Dg.cell_later hb24 k6
            have MR : Hid _ := Right_any its (.slice ia il icap) w24 (HIt.out.later HB24.out) HF.out (HT.out.later HB24.out)
            rw [HSG.out] at MR
            clear hb24 MS k6 hbB
            go_wp2_with fail
            refine Calls.mono MR.out ?_
            rintro e w25 ⟨rfl, hb25⟩
            have HB25 : Hid (Below w.heap.size w w25) := HB24.out.trans (hb25.mono HB24.out.size)
            clear hb25 MR k7
            go_wp2_with fail
            refine Calls.mono (HLv.out w25 (HT.out.later HB25.out)) ?_
            rintro e w26 ⟨rfl, hb26⟩
            have HB26 : Hid (Below w.heap.size w w26) := HB25.out.trans (hb26.mono HB25.out.size)
            clear hb26
            go_wp2_with fail
            go_ret
            exact ⟨rfl, HB26.out⟩

end Go.Proofs.YtephkdocfhajiaaDoor

