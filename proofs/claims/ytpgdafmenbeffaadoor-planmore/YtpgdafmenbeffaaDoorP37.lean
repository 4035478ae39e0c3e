/- Texts of the seat, packed: Tt. -/
import Derived.Test.YtpgdafmenbeffaaDoorP36
import Derived.Deep.RegionHeld
/- The walk over PlanMore. -/

namespace Go.Proofs.YtpgdafmenbeffaaDoor
open Go.RowKit Go.Shelf Go.Proofs.YtpgdafmenbeffaaDoor.Sx
set_option linter.unusedVariables false
set_option linter.unusedSimpArgs false

set_option maxRecDepth 1000000 in
set_option maxHeartbeats 8000000 in
theorem more_walk (hLv : ∀ wx : World, Dg.Tab wx → Calls Tryd.prog 5 #[] wx fun e w' => e = .returned (.bool true) ∧ Below wx.heap.size wx w') (x : By) (t : Tr) (a : Option Addr) (ca : Nat) (nm : By) (w : World) (hT : Dg.Tab w)
    (ht : TAt (· < w.heap.size) w true t a 0 t.len) (hm : t.len ≤ maxLen) (hb : t.bnd) (hx : x.length ≤ maxLen) (hnm : nm.length ≤ maxLen) :
    Calls Tryd.prog 3 #[.agg #[.string ⟨x.toArray⟩, .slice a t.len ca], .string ⟨nm.toArray⟩] w fun e w' => e = .returned (.bool true) ∧ Below w.heap.size w w' := by
  have HLv : Hid _ := hLv
  have HT : Hid (Dg.Tab w) := hT
  have HTt : Hid (TAt (· < w.heap.size) w true t a 0 t.len) := ht
  have HKd : Hid (Kd true t) := TAt.kd t ht
  have hns : (⟨nm.toArray⟩ : ByteArray).size = nm.length := by show nm.toArray.size = _; simp
  have hnm2 : nm.length ≤ 9223372036854775807 := by unfold maxLen at hnm; omega
  obtain ⟨W1, HW1⟩ : ∃ W1, W1 = w.alloc (.cells #[.string ⟨x.toArray⟩, .slice a t.len ca] 24) := ⟨_, rfl⟩
  have hb1 : Below w.heap.size w W1 := by rw [HW1]; exact (Below.refl _ w).alloc (Nat.le_refl _) _
  have r2 : W1.heap[w.heap.size]? = some (.cells #[.string ⟨x.toArray⟩, .slice a t.len ca] 24 (0, 0)) := by rw [HW1]; exact Dg.row_new w _ 24
  have g20 := (Dg.cell_row r2 0).trans rfl
  have g21 := (Dg.cell_row r2 1).trans rfl
  have MF : Hid _ := few_any x t _ W1 a ca (ht.below hb1) hm hb hx
  have HB1 : Hid _ := hb1
  clear hLv hT ht hm hb hx hb1 r2 hnm
  obtain ⟨tl, HTL⟩ : ∃ tl, Hid (t.len = tl) := ⟨_, rfl⟩
  rw [HTL.out] at MF HW1 g21 ⊢
  go_enter Tryd.func3, Tryd.ntmps3
  go_wp2_with fail
  rw [← HW1]
  clear HW1
  refine Calls.mono MF.out ?_
  rintro e w2 ⟨q, rfl, hb2, hq⟩
  have HB2 : Hid (Below w.heap.size w w2) := HB1.out.trans (hb2.mono HB1.out.size)
  have i20 := Dg.cell_later hb2 g20
  have i21 := Dg.cell_later hb2 g21
  clear hb2 MF g20 g21
  cases q with
  | false =>
    clear hq i20 i21
    go_wp2_with fail
    refine Calls.mono (HLv.out w2 (HT.out.later HB2.out)) ?_
    rintro e w3 ⟨rfl, hb3⟩
    have HB3 : Hid (Below w.heap.size w w3) := HB2.out.trans (hb3.mono HB2.out.size)
    clear hb3
    go_wp2_with fail
    go_ret
    exact ⟨rfl, HB3.out⟩
  | true =>
    obtain ⟨hx200, hpc, hsh⟩ := hq rfl
    have HFt : Hid (Fair t) := few_fair hpc hsh
    have HXl : Hid (x.length ≤ 1000000) := by show _ ≤ _; omega
    have HMF : Hid (nm.length ≤ 100 → Fair (addB (stepL nm t) t) ∧ (namesT (lastT t)).length ≤ 1000) := fun h => more_fair h HKd.out hpc hsh
    clear hq hpc hsh hx200
    by_cases hnl : nm.length ≤ 100
    rotate_left
    · have hnl2 : 100 < nm.length := by omega
      clear hnl i20 i21
      go_wp2_with fail
      refine Calls.mono (HLv.out w2 (HT.out.later HB2.out)) ?_
      rintro e w3 ⟨rfl, hb3⟩
      have HB3 : Hid (Below w.heap.size w w3) := HB2.out.trans (hb3.mono HB2.out.size)
      clear hb3
      go_wp2_with fail
      go_ret
      exact ⟨rfl, HB3.out⟩
    obtain ⟨hf2, hnames⟩ := HMF.out hnl
    have HF2 : Hid _ := hf2
    clear hf2 HMF
    have MM : Hid _ := Make_any w2 x t a ca (TAt.later HTt.out HB2.out) HFt.out (HT.out.later HB2.out)
    rw [HTL.out] at MM
    go_wp2_with fail
    refine Calls.mono MM.out ?_
    rintro e w4 ⟨hb4, h4⟩
    have HB4 : Hid (Below w.heap.size w w4) := HB2.out.trans (hb4.mono HB2.out.size)
    have k20 := Dg.cell_later hb4 i20
    have k21 := Dg.cell_later hb4 i21
    clear hb4 MM i20 i21
    cases hP : planT x t with
    | none =>
      rw [hP] at h4
      obtain rfl : e = .returned (.tuple #[.agg #[.slice none 0 0], .int .i64 11]) := h4
      have HBz : Hid (Below w.heap.size w (w4.alloc (.cells #[.slice none 0 0] 29))) := HB4.out.alloc HB4.out.size _
      clear hP k20 k21
      go_wp2_with fail
      refine Calls.mono (HLv.out _ (HT.out.later HBz.out)) ?_
      rintro e w5 ⟨rfl, hb5⟩
      have HB5 : Hid (Below w.heap.size w w5) := HBz.out.trans (hb5.mono HBz.out.size)
      clear hb5
      go_wp2_with fail
      go_ret
      exact ⟨rfl, HB5.out⟩
    | some its =>
      rw [hP] at h4
      obtain ⟨v4, rfl, hs4⟩ := h4
      have hr4 := hs4.rd
      obtain ⟨v5, c5, rfl, _⟩ := id hr4
      obtain ⟨n5, HN5⟩ : ∃ n5, Hid (its.length = n5) := ⟨_, rfl⟩
      rw [HN5.out] at hr4 ⊢
      have hbA : Below w4.heap.size w4 (w4.alloc (.cells #[.slice v5 n5 c5] 29)) := (Below.refl _ _).alloc (Nat.le_refl _) _
      have m20 := Dg.cell_later hbA k20
      have m21 := Dg.cell_later hbA k21
      have m5 := (Dg.cell_row (Dg.row_new w4 #[.slice v5 n5 c5] 29) 0).trans rfl
      have HB5 : Hid (Below w.heap.size w (w4.alloc (.cells #[.slice v5 n5 c5] 29))) := HB4.out.trans (hbA.mono HB4.out.size)
      have HR5 : Hid (RdIt (w4.alloc (.cells #[.slice v5 n5 c5] 29)) (.slice v5 n5 c5) its) := hr4.later hbA
      have HP : Hid (planT x t = some its) := hP
      have HB4n : Hid (w4.heap.size < (w4.alloc (.cells #[.slice v5 n5 c5] 29)).heap.size) := by show _ < _; simp
      have hn64 : n5 ≤ 64 := by have := plan_short hP; rw [HN5.out] at this; exact this
      obtain ⟨htl4, hll, hll2⟩ := plan_last hP HKd.out
      have htl0 := plan_len hP
      obtain ⟨vs, ab, aoff, hae, hvs, hcs⟩ := TAt.vrd t true a 0 t.len HTt.out htl0
      obtain ⟨init, bv, bm, bc, hve, hlt, hmk⟩ := VRd.last t vs hvs htl0
      have hbm : bm = (lastT t).len := by have := hlt.len; omega
      obtain ⟨nvs, nb, noff, hbve, hnv, hnc⟩ := TAt.vrd (lastT t) false bv 0 bm hlt hll
      have HNL : Hid (nvs.length = bm) := by show _ = _; rw [hnv.len]; exact hbm.symm
      have HNmL : Hid ((namesT (lastT t)).length = bm) := by show _ = _; rw [names_len (last_kd HKd.out)]; exact hbm.symm
      have HNC : Hid (∀ k y, (namesT (lastT t))[k]? = some y → w.cell? ⟨nb, noff + k * 6, none⟩ = some (.string ⟨y.toArray⟩)) := by
        show ∀ k y, _
        intro k y hk
        obtain ⟨b9, o9, e9, _, c9⟩ := TAt.name (lastT t) _ _ _ hlt k y hk
        rw [hbve] at e9
        simp only [Option.some.injEq, Addr.mk.injEq] at e9
        obtain ⟨rfl, rfl, _⟩ := e9
        rw [Nat.zero_add] at c9
        exact c9
      subst hae hbve
      have hbm1 : 0 < bm := by omega
      have hbm2 : bm ≤ 1000 := by omega
      rw [HTL.out] at htl4 htl0
      obtain ⟨tk, rfl⟩ : ∃ tk, tl = tk + 1 := ⟨tl - 1, by omega⟩
      have HVS : Hid (VRd (· < w.heap.size) w true t vs) := hvs
      have HMK : Hid _ := hmk
      have HNV : Hid (VRd (· < w.heap.size) w false (lastT t) nvs) := hnv
      have HVE : Hid (vs = init ++ [[.slice (some ⟨nb, noff, none⟩) bm bc]]) := hve
      have HFL : Hid (vs.flatten.length = tk + 1) := by show _ = _; rw [flat_len hvs, HTL.out]; simp [wide]
      have HIL : Hid (init.flatten.length = tk) := by
        have h7 := HFL.out
        rw [hve, List.flatten_append, List.length_append, show ([[Value.slice (some ⟨nb, noff, none⟩) bm bc]] : List (List Value)).flatten.length = 1 from rfl] at h7
        show _ = _
        omega
      have HCL : Hid (vs.flatten[tk]? = some (.slice (some ⟨nb, noff, none⟩) bm bc)) := by
        show _ = _
        rw [hve, List.flatten_append, List.getElem?_append_right (by rw [HIL.out]; exact Nat.le_refl _), HIL.out, Nat.sub_self]
        simp
      have HCS : Hid (∀ wx : World, Below w.heap.size w wx → ∀ j u, vs.flatten[j]? = some u → wx.cell? ((⟨ab, aoff, none⟩ : Addr).add j) = some u) := by
        show ∀ wx, _
        intro wx hwx j u hj
        have := hcs j u hj
        rw [Go.WideShapes.add_plain]
        simp only [Nat.zero_mul, Nat.add_zero] at this
        exact Dg.cell_later hwx this
      have HNCS : Hid (∀ wx : World, Below w.heap.size w wx → ∀ j u, nvs.flatten[j]? = some u → wx.cell? ((⟨nb, noff, none⟩ : Addr).add j) = some u) := by
        show ∀ wx, _
        intro wx hwx j u hj
        have := hnc j u hj
        rw [Go.WideShapes.add_plain]
        simp only [Nat.zero_mul, Nat.add_zero] at this
        exact Dg.cell_later hwx this
      have HON : Hid (∀ u ∈ vs.flatten, u.oneCell' = true) := (hvs.cells t).2
      have HONN : Hid (nvs.flatten.length = bm * 6 ∧ ∀ u ∈ nvs.flatten, u.oneCell' = true) := by
        have h7 := hnv.cells
        rw [HNL.out] at h7
        exact h7
      clear hs4 hr4 hbA hP hvs hcs hve hlt hmk hnv hnc k20 k21 hbm hll hll2
      obtain ⟨w5, HW5⟩ : ∃ w5, Hid (w5 = w4.alloc (.cells #[.slice v5 n5 c5] 29)) := ⟨_, rfl⟩
      have HZ5 : Hid (w5.heap.size = w4.heap.size + 1) := by show _ = _; rw [HW5.out]; simp
      have HBa : Hid (Below w5.heap.size w5 ((w4.alloc (.cells #[.slice v5 n5 c5] 29)).alloc (.cells #[] 35))) := by rw [HW5.out]; exact (Below.refl _ _).alloc (Nat.le_refl _) _
      rw [← HW5.out] at HB5 HR5 HB4n m5
      have HM5 : Hid _ := m5
      have HBa2 : Hid (Below w.heap.size w ((w4.alloc (.cells #[.slice v5 n5 c5] 29)).alloc (.cells #[] 35))) := HB5.out.trans (HBa.out.mono HB5.out.size)
      have mm21 : ((w4.alloc (.cells #[.slice v5 n5 c5] 29)).alloc (.cells #[] 35)).cell? ⟨w.heap.size, 1, none⟩ = some (.slice (some ⟨ab, aoff, none⟩) (tk + 1) ca) := Dg.cell_later ((Below.refl _ _).alloc (Nat.le_refl _) _) m21
      have HM20 : Hid (w5.cell? ⟨w.heap.size, 0, none⟩ = some (.string ⟨x.toArray⟩)) := by rw [HW5.out]; exact m20
      have HOm : Hid (((w4.alloc (.cells #[.slice v5 n5 c5] 29)).alloc (.cells #[] 35)).ownsRow (w4.heap.size + 1) 35 1 (.slice (some ⟨w4.heap.size + 1, 0, none⟩) 0 0) 0 []) := by
        have h7 := own_made (w4.alloc (.cells #[.slice v5 n5 c5] 29)) 35 1
        rw [World.size_alloc] at h7
        exact h7
      clear m20 m21 m5
      go_wp2_with (first
        | (at_builtin
           refine append_bodies rfl _ _ rfl (w4.heap.size + 1) (w4.heap.size + 1) rfl HOm.out ⟨ab, aoff, none⟩ (tk + 1) ca vs.flatten rfl HFL.out (HCS.out _ HBa2.out) HON.out (by omega) (by simp) ?_
           intro gl lc w6 ho6 hb6
           have HO6 : Hid (w6.ownsRow w5.heap.size 35 1 (.slice (some ⟨gl, 0, none⟩) (tk + 1) lc) (tk + 1) vs.flatten) := (by rw [HZ5.out]; exact ho6)
           have HB6 : Hid (Below w5.heap.size w5 w6) := HBa.out.trans (by rw [HZ5.out]; exact hb6)
           have cl6 : w6.cell? ⟨gl, tk, none⟩ = some (.slice (some ⟨nb, noff, none⟩) bm bc) := (ho6.cellAt tk (by omega)).trans HCL.out
           clear ho6 hb6 mm21))
      obtain ⟨w7, HW7⟩ : ∃ w7, Hid (w7 = w6.alloc (.cells #[.slice (some ⟨nb, noff, none⟩) bm bc] 35)) := ⟨_, rfl⟩
      have hn7 : w7.heap.size = w6.heap.size + 1 := by rw [HW7.out]; simp
      have HN7 : Hid (w7.heap.size = w6.heap.size + 1) := hn7
      have HB67 : Hid (Below w6.heap.size w6 w7) := by rw [HW7.out]; exact (Below.refl _ _).alloc (Nat.le_refl _) _
      have HC8 : Hid (w7.cell? ⟨w6.heap.size, 0, none⟩ = some (.slice (some ⟨nb, noff, none⟩) bm bc)) := by rw [HW7.out]; exact (Dg.cell_row (Dg.row_new w6 #[.slice (some ⟨nb, noff, none⟩) bm bc] 35) 0).trans rfl
      have HBw7 : Hid (Below w.heap.size w w7) := by
        have h5 := HB5.out.trans (HB6.out.mono HB5.out.size)
        exact h5.trans (HB67.out.mono h5.size)
      have HM8 : Hid (MoS w7 (w6.heap.size + 1) nm (w7.alloc (.cells #[.string ⟨nm.toArray⟩, .string ⟨#[117]⟩, .slice none 0 0, .bool false, .bool false, .slice none 0 0] 38)) (.slice none 0 0)) := by
        have h7 := Dg.row_new w7 #[.string ⟨nm.toArray⟩, .string ⟨#[117]⟩, .slice none 0 0, .bool false, .bool false, .slice none 0 0] 38
        rw [hn7] at h7
        exact ⟨(Below.refl _ _).alloc (by omega) _, h7⟩
      rw [HW7.out] at HM8
      go_loopw [10] (fun iv wr => ∃ (k : Nat) (ua : Option Addr) (uc : Nat), k ≤ bm ∧ iv = .int .i64 k ∧ Hid (MoS (w6.alloc (.cells #[.slice (some ⟨nb, noff, none⟩) bm bc] 35)) (w6.heap.size + 1) nm wr (.slice ua k uc)) ∧ Hid (wr.ownsRow (w6.heap.size + 2) 9 1 (.slice ua k uc) k (nmS ((namesT (lastT t)).take k)))) (fun iv _ => bm - (intOf iv).toNat)
      case atStart => exact ⟨0, none, 0, Nat.zero_le _, rfl, HM8, World.ownsRow_nil _ _ _ _⟩
      case round =>
        obtain ⟨k, ua, uc, hk, rfl, HM, HO⟩ := hrel
        rename World => wr
        rw [← HW7.out] at HM
        have hbel := HM.out.bel
        rw [← HN7.out] at hbel
        have c8 := Dg.cell_later hbel HC8.out
        by_cases hlt : k < bm
        · obtain ⟨y, hy⟩ : ∃ y, (namesT (lastT t))[k]? = some y := ⟨_, List.getElem?_eq_getElem (by rw [HNmL.out]; exact hlt)⟩
          have HD0 : Hid (w7.cell? ⟨nb, noff + k * 6, none⟩ = some (.string ⟨y.toArray⟩)) := Dg.cell_later HBw7.out (HNC.out k y hy)
          have HNm : Hid (nmS ((namesT (lastT t)).take (k + 1)) = nmS ((namesT (lastT t)).take k) ++ [.string ⟨y.toArray⟩]) := by
            show _ = _
            rw [List.take_add_one, hy]
            simp [nmS]
          have hkk : (k : Int) < (bm : Int) := by omega
          clear hy hbel
          go_wp2_with fail
          clear c8
          have hbw : Below w7.heap.size w7 wr := by rw [HN7.out]; exact HM.out.bel
          refine wp_region_held (S := fun w' => Below w7.heap.size w7 w') (by kernel_rfl) ?_
          have hS0 : Below w7.heap.size w7 wr.drew := hbw.drew
          simp only [List.size_toArray, List.length_cons, List.length_nil, Nat.reduceAdd, Array.replicate_succ, Array.replicate_zero, List.push_toArray, List.nil_append, List.cons_append]
          refine takeD (i := 0) (d := 49) (v := .pointer (some ⟨w6.heap.size + 1, 2, none⟩)) (fuel := 11) rfl rfl (by kernel_rfl) (by kernel_rfl) (by kernel_rfl) (fun _ _ _ h => h) (.inl ⟨by kernel_rfl, fun _ _ => by go_simp⟩) hS0 ?_
          simp only [List.setIfInBounds_toArray, List.set_cons_succ, List.set_cons_zero]
          refine takeD (i := 2) (d := 51) (v := .pointer (some ⟨w6.heap.size, 0, none⟩)) (fuel := 10) rfl rfl (by kernel_rfl) (by kernel_rfl) (by kernel_rfl) (fun _ _ _ h => h) (.inl ⟨by kernel_rfl, fun _ _ => by go_simp⟩) hS0 ?_
          simp only [List.setIfInBounds_toArray, List.set_cons_succ, List.set_cons_zero]
          refine takeD (i := 3) (d := 52) (v := (.slice (some ⟨nb, noff, none⟩) bm bc)) (fuel := 9) rfl rfl (by kernel_rfl) (by kernel_rfl) (by kernel_rfl) (fun _ _ _ h => h) (.inl ⟨by kernel_rfl, fun w9 hw9 => by have z0 := Dg.cell_later hw9 HC8.out; go_simp⟩) hS0 ?_
          simp only [List.setIfInBounds_toArray, List.set_cons_succ, List.set_cons_zero]
          refine takeD (i := 4) (d := 53) (v := .int .i64 (k : Int)) (fuel := 8) rfl rfl (by kernel_rfl) (by kernel_rfl) (by kernel_rfl) (fun _ _ _ h => h) (.inl ⟨by kernel_rfl, fun _ _ => by kernel_rfl⟩) hS0 ?_
          simp only [List.setIfInBounds_toArray, List.set_cons_succ, List.set_cons_zero]
          refine takeD (i := 5) (d := 54) (v := .pointer (some ⟨nb, noff + k * 6, none⟩)) (fuel := 7) rfl rfl (by kernel_rfl) (by kernel_rfl) (by kernel_rfl) (fun _ _ _ h => h) (.inl ⟨by kernel_rfl, fun _ _ => by go_simp⟩) hS0 ?_
          simp only [List.setIfInBounds_toArray, List.set_cons_succ, List.set_cons_zero]
          refine takeD (i := 6) (d := 55) (v := .pointer (some ⟨nb, noff + k * 6, none⟩)) (fuel := 6) rfl rfl (by kernel_rfl) (by kernel_rfl) (by kernel_rfl) (fun _ _ _ h => h) (.inl ⟨by kernel_rfl, fun _ _ => by go_simp⟩) hS0 ?_
          simp only [List.setIfInBounds_toArray, List.set_cons_succ, List.set_cons_zero]
          refine takeD (i := 7) (d := 56) (v := .string ⟨y.toArray⟩) (fuel := 5) rfl rfl (by kernel_rfl) (by kernel_rfl) (by kernel_rfl) (fun _ _ _ h => h) (.inl ⟨by kernel_rfl, fun w9 hw9 => by have z0 := Dg.cell_later hw9 HD0.out; go_simp⟩) hS0 ?_
          simp only [List.setIfInBounds_toArray, List.set_cons_succ, List.set_cons_zero]
          have hN5 : MoS w7 (w6.heap.size + 1) nm (wr.drew.alloc (.cells #[.string ⟨y.toArray⟩] 9)) (.slice ua k uc) := HM.out.later ((Below.refl wr.heap.size wr).drew.alloc (Nat.le_refl _) _)
          have ho5 : World.ownsRow (wr.drew.alloc (.cells #[.string ⟨y.toArray⟩] 9)) (w6.heap.size + 2) 9 1 (.slice ua k uc) k (nmS ((namesT (lastT t)).take k)) := own_below HO.out ((Below.refl wr.heap.size wr).drew.alloc (Nat.le_refl _) _)
          have q4 : wr.drew.cell? ⟨w6.heap.size + 1, 2, none⟩ = some (.slice ua k uc) := (Dg.cell_row (w := wr.drew) HM.out.nd 2).trans rfl
          have q5 := (Dg.cell_row hN5.nd 2).trans rfl
          have hb5 : Below w7.heap.size w7 (wr.drew.alloc (.cells #[.string ⟨y.toArray⟩] 9)) := hS0.alloc hbw.size _
          have hltn := HM.out.lt
          obtain ⟨i0, hi0, hz0, hz1, hz2⟩ := info_parts inf9
          obtain ⟨u', W6, hr6, ho6, hg6, _, hat6⟩ := run_append_own_at (P := Tryd.prog) (wr.drew.alloc (.cells #[.string ⟨y.toArray⟩] 9)) (w6.heap.size + 2) 36 36 9 i0 _ 1 _ Tryd.underlying36 hi0 hz0 hz1 hz2 rfl (by decide) (.slice ua k uc) k _ ho5 ⟨wr.heap.size, 0, none⟩ 1 1 [.string ⟨y.toArray⟩] rfl (cell_one_new wr.drew (.string ⟨y.toArray⟩) 9) (by intro u hu; simp at hu; rw [hu]; rfl) (by unfold maxLen; omega) (by omega) (by simp; omega)
          obtain ⟨ua', uc', rfl⟩ := own_slice ho6
          have hN6 : MoS w7 (w6.heap.size + 1) nm W6 (.slice ua k uc) := hN5.grow hg6 (fun b hb => by have := (own_exists ho5 b hb).1; omega)
          have hS6 : Below w7.heap.size w7 W6 := by rw [HN7.out]; exact hN6.bel
          have c6 := (Dg.cell_row hN6.nd 2).trans rfl
          have f6 := Dg.froz_row hN6.nd 2
          have HM7 : Hid (MoS w7 (w6.heap.size + 1) nm (W6.setCell ⟨w6.heap.size + 1, 2, none⟩ (.slice ua' (k + 1) uc')) (.slice ua' (k + 1) uc')) := hN6.put (.slice ua' (k + 1) uc')
          have HO7 : Hid (World.ownsRow (W6.setCell ⟨w6.heap.size + 1, 2, none⟩ (.slice ua' (k + 1) uc')) (w6.heap.size + 2) 9 1 (.slice ua' (k + 1) uc') (k + 1) (nmS ((namesT (lastT t)).take (k + 1)))) := by
            show World.ownsRow _ _ _ _ _ _ _
            rw [HNm.out]
            exact own_agree (G := fun b => b ≠ w6.heap.size + 1) (fun b hb => Below.heap_setCell _ _ _ _ hb) ho6 (fun b hb => by have := (own_exists ho6 b hb).1; omega)
          have hS7 : Below w7.heap.size w7 (W6.setCell ⟨w6.heap.size + 1, 2, none⟩ (.slice ua' (k + 1) uc')) := by rw [HN7.out]; exact HM7.out.bel
          refine wpAnyH_all (fuel := 4) (rs := [1, 8]) (by kernel_rfl) (by decide) ?_
          refine List.forall_mem_cons.2 ⟨?_, List.forall_mem_singleton.2 ?_⟩
          · refine wpOp_value (i := 1) (d := 50) (v := .slice ua k uc) (w' := wr.drew) rfl rfl (by kernel_rfl) (by go_simp) ?_
            refine ⟨hS0, ?_⟩
            simp only [List.setIfInBounds_toArray, List.set_cons_succ, List.set_cons_zero]
            refine wpAnyH_all (fuel := 3) (rs := [8]) (by kernel_rfl) (by decide) ?_
            refine List.forall_mem_singleton.2 ?_
            refine wpOp_value (i := 8) (d := 57) (v := .slice (some ⟨wr.heap.size, 0, none⟩) 1 1) (w' := (wr.drew.alloc (.cells #[.string ⟨y.toArray⟩] 9))) rfl rfl (by kernel_rfl) (by go_simp) ?_
            refine ⟨hb5, ?_⟩
            simp only [List.setIfInBounds_toArray, List.set_cons_succ, List.set_cons_zero]
            refine wpAnyH_all (fuel := 2) (rs := [9]) (by kernel_rfl) (by decide) ?_
            refine List.forall_mem_singleton.2 ?_
            refine wpOp_value (i := 9) (d := 58) (v := (.slice ua' (k + 1) uc')) (w' := W6) rfl rfl (by kernel_rfl) (by simp [execOp, resolve, invoke, builtin, hr6, Result.andThen, Act.eval]) ?_
            refine ⟨hS6, ?_⟩
            simp only [List.setIfInBounds_toArray, List.set_cons_succ, List.set_cons_zero]
            refine wpAnyH_all (fuel := 1) (rs := [10]) (by kernel_rfl) (by decide) ?_
            refine List.forall_mem_singleton.2 ?_
            refine wpOp_value (i := 10) (d := 59) (v := .pointer (some ⟨w6.heap.size + 1, 2, none⟩)) (w' := W6) rfl rfl (by kernel_rfl) (by go_simp) ?_
            refine ⟨hS6, ?_⟩
            simp only [List.setIfInBounds_toArray, List.set_cons_succ, List.set_cons_zero]
            refine wpAnyH_all (fuel := 0) (rs := [11]) (by kernel_rfl) (by decide) ?_
            refine List.forall_mem_singleton.2 ?_
            refine wpOp_skip (i := 11) (w' := W6.setCell ⟨w6.heap.size + 1, 2, none⟩ (.slice ua' (k + 1) uc')) rfl rfl (by kernel_rfl) (by go_simp) ?_
            refine ⟨hS7, by kernel_rfl, ?_⟩
            clear hr6 hN6 c6 f6 q4 q5 hN5 ho5 HM HO hS6 hS7 hg6 ho6 hat6 hb5 hS0 hbw
            go_wp2_with fail
            go_roundw
            case rel => exact ⟨k + 1, ua', uc', by omega, by go_num, by rw [← HW7.out]; exact HM7, HO7⟩
            case measure => simp [intOf]; omega
          · refine wpOp_value (i := 8) (d := 57) (v := .slice (some ⟨wr.heap.size, 0, none⟩) 1 1) (w' := (wr.drew.alloc (.cells #[.string ⟨y.toArray⟩] 9))) rfl rfl (by kernel_rfl) (by go_simp) ?_
            refine ⟨hb5, ?_⟩
            simp only [List.setIfInBounds_toArray, List.set_cons_succ, List.set_cons_zero]
            refine wpAnyH_all (fuel := 3) (rs := [1]) (by kernel_rfl) (by decide) ?_
            refine List.forall_mem_singleton.2 ?_
            refine wpOp_value (i := 1) (d := 50) (v := .slice ua k uc) (w' := (wr.drew.alloc (.cells #[.string ⟨y.toArray⟩] 9))) rfl rfl (by kernel_rfl) (by have q5b : (wr.alloc (.cells #[.string ⟨y.toArray⟩] 9)).cell? ⟨w6.heap.size + 1, 2, none⟩ = some (.slice ua k uc) := q5; go_simp) ?_
            refine ⟨hb5, ?_⟩
            simp only [List.setIfInBounds_toArray, List.set_cons_succ, List.set_cons_zero]
            refine wpAnyH_all (fuel := 2) (rs := [9]) (by kernel_rfl) (by decide) ?_
            refine List.forall_mem_singleton.2 ?_
            refine wpOp_value (i := 9) (d := 58) (v := (.slice ua' (k + 1) uc')) (w' := W6) rfl rfl (by kernel_rfl) (by simp [execOp, resolve, invoke, builtin, hr6, Result.andThen, Act.eval]) ?_
            refine ⟨hS6, ?_⟩
            simp only [List.setIfInBounds_toArray, List.set_cons_succ, List.set_cons_zero]
            refine wpAnyH_all (fuel := 1) (rs := [10]) (by kernel_rfl) (by decide) ?_
            refine List.forall_mem_singleton.2 ?_
            refine wpOp_value (i := 10) (d := 59) (v := .pointer (some ⟨w6.heap.size + 1, 2, none⟩)) (w' := W6) rfl rfl (by kernel_rfl) (by go_simp) ?_
            refine ⟨hS6, ?_⟩
            simp only [List.setIfInBounds_toArray, List.set_cons_succ, List.set_cons_zero]
            refine wpAnyH_all (fuel := 0) (rs := [11]) (by kernel_rfl) (by decide) ?_
            refine List.forall_mem_singleton.2 ?_
            refine wpOp_skip (i := 11) (w' := W6.setCell ⟨w6.heap.size + 1, 2, none⟩ (.slice ua' (k + 1) uc')) rfl rfl (by kernel_rfl) (by go_simp) ?_
            refine ⟨hS7, by kernel_rfl, ?_⟩
            clear hr6 hN6 c6 f6 q4 q5 hN5 ho5 HM HO hS6 hS7 hg6 ho6 hat6 hb5 hS0 hbw
            go_wp2_with fail
            go_roundw
            case rel => exact ⟨k + 1, ua', uc', by omega, by go_num, by rw [← HW7.out]; exact HM7, HO7⟩
            case measure => simp [intOf]; omega
        · obtain rfl : bm = k := by omega
          go_wp2_with fail
          have hgl : gl < w6.heap.size := (HO6.out.lt gl rfl).2
          have hltn := HM.out.lt
          have HBr : Hid (Below w7.heap.size w7 wr) := hbel
          have HSK : Hid (∀ W : World, Below wr.heap.size wr W → (W.heap[w6.heap.size + 1]? = some (.cells #[.string ⟨nm.toArray⟩, .string ⟨#[117]⟩, .slice ua bm uc, .bool false, .bool false, .slice none 0 0] 38 (0, 0)) ∧ W.cell? ⟨w6.heap.size, 0, none⟩ = some (.slice (some ⟨nb, noff, none⟩) bm bc))) := by
            show ∀ W, _
            intro W hW
            exact ⟨(hW.block _ hltn).trans HM.out.nd, Dg.cell_later hW c8⟩
          obtain ⟨cur, hcur⟩ : ∃ cur, w6.heap[gl]? = some (.cells cur 35 (0, 0)) := by
            rcases HO6.out.2 with ⟨h9, _⟩ | ⟨g9, _, cur, h9, _, h8, _⟩
            · cases h9
            · cases h9
              exact ⟨cur, h8⟩
          have HBw6 : Hid (Below w6.heap.size w6 wr) := HB67.out.trans (HBr.out.mono (by rw [HN7.out]; omega))
          have HGC : Hid (∀ W : World, Below wr.heap.size wr W → W.heap[gl]? = some (.cells cur 35 (0, 0)) ∧ W.cell? ⟨gl, tk, none⟩ = some (.slice (some ⟨nb, noff, none⟩) bm bc)) := by
            show ∀ W, _
            intro W hW
            have h7 := HBw6.out.trans (hW.mono HBw6.out.size)
            exact ⟨(h7.block gl hgl).trans hcur, Dg.cell_later h7 ((HO6.out.cellAt tk (by omega)).trans HCL.out)⟩
          have HNW : Hid (∀ W : World, Below wr.heap.size wr W → Below w.heap.size w W) := by
            show ∀ W, _
            intro W hW
            have h7 := HBw7.out.trans (HBr.out.mono HBw7.out.size)
            exact h7.trans (hW.mono h7.size)
          refine region_then [60, 61, 62, 63, 64, 65, 66, 67, 68, 69, 70, 71, 72] (fun _ w' => ∃ (nv : Option Addr) (nc : Nat) (W : World), w' = W.setCell ⟨gl, tk, none⟩ (.slice nv (bm + 1) nc) ∧ Below wr.heap.size wr W ∧ W.ownsRow wr.heap.size 38 6 (.slice nv (bm + 1) nc) (bm + 1) (nvs.flatten ++ [.string ⟨nm.toArray⟩, .string ⟨#[117]⟩, .slice ua bm uc, .bool false, .bool false, .slice none 0 0])) ?_ ?_
          · refine wp_region_held (S := fun w' => (w'.heap[w6.heap.size + 1]? = some (.cells #[.string ⟨nm.toArray⟩, .string ⟨#[117]⟩, .slice ua bm uc, .bool false, .bool false, .slice none 0 0] 38 (0, 0)) ∧ w'.cell? ⟨w6.heap.size, 0, none⟩ = some (.slice (some ⟨nb, noff, none⟩) bm bc))) (by kernel_rfl) ?_
            have hS0 := HSK.out wr.drew (Below.refl _ _).drew
            have hw0 : IntKind.i64.wrap ((tk : Int) + 1 - 1) = (tk : Int) := by rw [IntKind.wrap_i64]; omega
            have hw1 : IntKind.i64.wrap (tk : Int) = (tk : Int) := by rw [IntKind.wrap_i64]; omega
            simp only [List.size_toArray, List.length_cons, List.length_nil, Nat.reduceAdd, Array.replicate_succ, Array.replicate_zero, List.push_toArray, List.nil_append, List.cons_append]
            refine takeD (i := 0) (d := 60) (v := (.slice (some ⟨gl, 0, none⟩) (tk + 1) lc)) (fuel := 13) rfl rfl (by kernel_rfl) (by kernel_rfl) (by kernel_rfl) (fun _ _ _ h => by cases h.1) (.inl ⟨by kernel_rfl, fun _ _ => by kernel_rfl⟩) hS0 ?_
            simp only [List.setIfInBounds_toArray, List.set_cons_succ, List.set_cons_zero]
            refine takeD (i := 1) (d := 61) (v := (.slice (some ⟨gl, 0, none⟩) (tk + 1) lc)) (fuel := 12) rfl rfl (by kernel_rfl) (by kernel_rfl) (by kernel_rfl) (fun _ _ _ h => by cases h.1) (.inl ⟨by kernel_rfl, fun _ _ => by kernel_rfl⟩) hS0 ?_
            simp only [List.setIfInBounds_toArray, List.set_cons_succ, List.set_cons_zero]
            refine takeD (i := 2) (d := 62) (v := .int .i64 ((tk : Int) + 1)) (fuel := 11) rfl rfl (by kernel_rfl) (by kernel_rfl) (by kernel_rfl) (fun _ _ _ h => by cases h.1) (.inl ⟨by kernel_rfl, fun _ _ => by go_simp⟩) hS0 ?_
            simp only [List.setIfInBounds_toArray, List.set_cons_succ, List.set_cons_zero]
            refine takeD (i := 3) (d := 63) (v := .int .i64 (tk : Int)) (fuel := 10) rfl rfl (by kernel_rfl) (by kernel_rfl) (by kernel_rfl) (fun _ _ _ h => by cases h.1) (.inl ⟨by kernel_rfl, fun _ _ => by go_simp⟩) hS0 ?_
            simp only [List.setIfInBounds_toArray, List.set_cons_succ, List.set_cons_zero]
            refine takeD (i := 5) (d := 65) (v := .pointer (some ⟨w6.heap.size, 0, none⟩)) (fuel := 9) rfl rfl (by kernel_rfl) (by kernel_rfl) (by kernel_rfl) (fun _ _ _ h => by cases h.1) (.inl ⟨by kernel_rfl, fun _ _ => by go_simp⟩) hS0 ?_
            simp only [List.setIfInBounds_toArray, List.set_cons_succ, List.set_cons_zero]
            refine takeD (i := 6) (d := 66) (v := (.slice (some ⟨nb, noff, none⟩) bm bc)) (fuel := 8) rfl rfl (by kernel_rfl) (by kernel_rfl) (by kernel_rfl) (fun _ _ _ h => by cases h.1) (.inl ⟨by kernel_rfl, fun w9 hw9 => by have z0 := hw9.2; go_simp⟩) hS0 ?_
            simp only [List.setIfInBounds_toArray, List.set_cons_succ, List.set_cons_zero]
            refine takeD (i := 8) (d := 68) (v := .agg #[.string ⟨nm.toArray⟩, .string ⟨#[117]⟩, .slice ua bm uc, .bool false, .bool false, .slice none 0 0]) (fuel := 7) rfl rfl (by kernel_rfl) (by kernel_rfl) (by kernel_rfl) (fun _ _ _ h => by cases h.1) (.inl ⟨by kernel_rfl, fun w9 hw9 => by have z0 := (Dg.cell_row hw9.1 0).trans rfl; have z1 := (Dg.cell_row hw9.1 1).trans rfl; have z2 := (Dg.cell_row hw9.1 2).trans rfl; have z3 := (Dg.cell_row hw9.1 3).trans rfl; have z4 := (Dg.cell_row hw9.1 4).trans rfl; have z5 := (Dg.cell_row hw9.1 5).trans rfl; go_simp⟩) hS0 ?_
            simp only [List.setIfInBounds_toArray, List.set_cons_succ, List.set_cons_zero]
            have hbE : Below wr.heap.size wr (wr.drew.alloc (.cells #[] 38)) := (Below.refl wr.heap.size wr).drew.alloc (Nat.le_refl _) _
            have hbX : Below wr.heap.size wr (wr.drew.alloc (.cells #[.string ⟨nm.toArray⟩, .string ⟨#[117]⟩, .slice ua bm uc, .bool false, .bool false, .slice none 0 0] 38)) := (Below.refl wr.heap.size wr).drew.alloc (Nat.le_refl _) _
            have hoE : ((wr.drew.alloc (.cells #[] 38))).ownsRow wr.heap.size 38 6 (.slice (some ⟨wr.heap.size, 0, none⟩) 0 0) 0 [] := own_made wr.drew 38 6
            refine wpAnyH_all (fuel := 6) (rs := [4, 9]) (by kernel_rfl) (by decide) ?_
            refine List.forall_mem_cons.2 ⟨?_, List.forall_mem_singleton.2 ?_⟩
            · refine wpOp_value (i := 4) (d := 64) (v := .slice (some ⟨wr.heap.size, 0, none⟩) 0 0) (w' := (wr.drew.alloc (.cells #[] 38))) rfl rfl (by kernel_rfl) (by go_simp) ?_
              refine ⟨HSK.out _ hbE, ?_⟩
              simp only [List.setIfInBounds_toArray, List.set_cons_succ, List.set_cons_zero]
              refine wpAnyH_all (fuel := 5) (rs := [7, 9]) (by kernel_rfl) (by decide) ?_
              refine List.forall_mem_cons.2 ⟨?_, List.forall_mem_singleton.2 ?_⟩
              · skip
                obtain ⟨a7, c7, W7, hr7, ho7, hg7⟩ := app_nodes (wr.drew.alloc (.cells #[] 38)) wr.heap.size wr.heap.size bm bc nb noff nvs.flatten hoE HONN.out.1 (HNCS.out _ (HNW.out _ hbE)) HONN.out.2 hbm2 hbE.size
                have hb7 : Below wr.heap.size wr W7 := below_grown hbE hg7 (fun b hb => by have := Option.some.inj hb; have := (hoE.lt _ rfl).1; omega) hbE.size
                refine wpOp_value (i := 7) (d := 67) (v := .slice a7 bm c7) (w' := W7) rfl rfl (by kernel_rfl) (by simp [execOp, resolve, invoke, builtin, hr7, Result.andThen, Act.eval]) ?_
                refine ⟨HSK.out _ hb7, ?_⟩
                simp only [List.setIfInBounds_toArray, List.set_cons_succ, List.set_cons_zero]
                refine wpAnyH_all (fuel := 4) (rs := [9]) (by kernel_rfl) (by decide) ?_
                refine List.forall_mem_singleton.2 ?_
                refine wpOp_value (i := 9) (d := 69) (v := .slice (some ⟨W7.heap.size, 0, none⟩) 1 1) (w' := (W7.alloc (.cells #[.string ⟨nm.toArray⟩, .string ⟨#[117]⟩, .slice ua bm uc, .bool false, .bool false, .slice none 0 0] 38))) rfl rfl (by kernel_rfl) (by go_simp) ?_
                have hb9 : Below wr.heap.size wr (W7.alloc (.cells #[.string ⟨nm.toArray⟩, .string ⟨#[117]⟩, .slice ua bm uc, .bool false, .bool false, .slice none 0 0] 38)) := hb7.alloc hb7.size _
                have ho7b := own_below ho7 ((Below.refl W7.heap.size W7).alloc (Nat.le_refl _) (.cells #[.string ⟨nm.toArray⟩, .string ⟨#[117]⟩, .slice ua bm uc, .bool false, .bool false, .slice none 0 0] 38))
                refine ⟨HSK.out _ hb9, ?_⟩
                simp only [List.setIfInBounds_toArray, List.set_cons_succ, List.set_cons_zero]
                obtain ⟨a10, c10, W10, hr10, ho10, hg10⟩ := app_node (W7.alloc (.cells #[.string ⟨nm.toArray⟩, .string ⟨#[117]⟩, .slice ua bm uc, .bool false, .bool false, .slice none 0 0] 38)) wr.heap.size bm c7 W7.heap.size a7 nvs.flatten _ _ _ _ _ _ ho7b (Dg.row_new W7 #[.string ⟨nm.toArray⟩, .string ⟨#[117]⟩, .slice ua bm uc, .bool false, .bool false, .slice none 0 0] 38) (by intro u hu; simp at hu; rcases hu with rfl | rfl | rfl | rfl | rfl | rfl <;> rfl) hbm2 hb9.size
                have hb10 : Below wr.heap.size wr W10 := below_grown hb9 hg10 (fun b hb => (own_exists ho7b b hb).1) hb9.size
                refine wpAnyH_all (fuel := 3) (rs := [10]) (by kernel_rfl) (by decide) ?_
                refine List.forall_mem_singleton.2 ?_
                refine wpOp_value (i := 10) (d := 70) (v := .slice a10 (bm + 1) c10) (w' := W10) rfl rfl (by kernel_rfl) (by simp [execOp, resolve, invoke, builtin, hr10, Result.andThen, Act.eval]) ?_
                refine ⟨HSK.out _ hb10, ?_⟩
                simp only [List.setIfInBounds_toArray, List.set_cons_succ, List.set_cons_zero]
                refine wpAnyH_all (fuel := 2) (rs := [11]) (by kernel_rfl) (by decide) ?_
                refine List.forall_mem_singleton.2 ?_
                refine wpOp_value (i := 11) (d := 71) (v := .agg #[.slice a10 (bm + 1) c10]) (w' := W10) rfl rfl (by kernel_rfl) (by go_simp) ?_
                refine ⟨HSK.out _ hb10, ?_⟩
                simp only [List.setIfInBounds_toArray, List.set_cons_succ, List.set_cons_zero]
                refine wpAnyH_all (fuel := 1) (rs := [12]) (by kernel_rfl) (by decide) ?_
                refine List.forall_mem_singleton.2 ?_
                refine wpOp_value (i := 12) (d := 72) (v := .pointer (some ⟨gl, tk, none⟩)) (w' := W10) rfl rfl (by kernel_rfl) (by go_simp; (intro h9; omega)) ?_
                refine ⟨HSK.out _ hb10, ?_⟩
                simp only [List.setIfInBounds_toArray, List.set_cons_succ, List.set_cons_zero]
                refine wpAnyH_all (fuel := 0) (rs := [13]) (by kernel_rfl) (by decide) ?_
                refine List.forall_mem_singleton.2 ?_
                obtain ⟨gr, gc⟩ := HGC.out _ hb10
                have gf := Dg.froz_row gr tk
                refine wpOp_skip (i := 13) (w' := W10.setCell ⟨gl, tk, none⟩ (.slice a10 (bm + 1) c10)) rfl rfl (by kernel_rfl) (by go_simp) ?_
                obtain ⟨sk1, sk2⟩ := HSK.out _ hb10
                refine ⟨⟨(Below.heap_setCell _ _ _ _ (by show w6.heap.size + 1 ≠ gl; omega)).trans sk1, (World.cell?_of_block (a := ⟨w6.heap.size, 0, none⟩) (Below.heap_setCell _ _ _ _ (by show w6.heap.size ≠ gl; omega))).trans sk2⟩, wpAnyH_done (by kernel_rfl) ?_ _⟩
                exact ⟨rfl, [(.slice (some ⟨gl, 0, none⟩) (tk + 1) lc), (.slice (some ⟨gl, 0, none⟩) (tk + 1) lc), .int .i64 ((tk : Int) + 1), .int .i64 (tk : Int), .slice (some ⟨wr.heap.size, 0, none⟩) 0 0, .pointer (some ⟨w6.heap.size, 0, none⟩), (.slice (some ⟨nb, noff, none⟩) bm bc), .slice a7 bm c7, .agg #[.string ⟨nm.toArray⟩, .string ⟨#[117]⟩, .slice ua bm uc, .bool false, .bool false, .slice none 0 0], .slice (some ⟨W7.heap.size, 0, none⟩) 1 1, .slice a10 (bm + 1) c10, .agg #[.slice a10 (bm + 1) c10], .pointer (some ⟨gl, tk, none⟩)], rfl, by kernel_rfl, a10, c10, W10, rfl, hb10, ho10⟩
              · refine wpOp_value (i := 9) (d := 69) (v := .slice (some ⟨wr.heap.size + 1, 0, none⟩) 1 1) (w' := ((wr.drew.alloc (.cells #[] 38)).alloc (.cells #[.string ⟨nm.toArray⟩, .string ⟨#[117]⟩, .slice ua bm uc, .bool false, .bool false, .slice none 0 0] 38))) rfl rfl (by kernel_rfl) (by go_simp) ?_
                have hb9 : Below wr.heap.size wr ((wr.drew.alloc (.cells #[] 38)).alloc (.cells #[.string ⟨nm.toArray⟩, .string ⟨#[117]⟩, .slice ua bm uc, .bool false, .bool false, .slice none 0 0] 38)) := hbE.alloc hbE.size _
                have hoE2 : (((wr.drew.alloc (.cells #[] 38)).alloc (.cells #[.string ⟨nm.toArray⟩, .string ⟨#[117]⟩, .slice ua bm uc, .bool false, .bool false, .slice none 0 0] 38))).ownsRow wr.heap.size 38 6 (.slice (some ⟨wr.heap.size, 0, none⟩) 0 0) 0 [] := own_below hoE ((Below.refl _ _).alloc (Nat.le_refl _) _)
                have hrX : (((wr.drew.alloc (.cells #[] 38)).alloc (.cells #[.string ⟨nm.toArray⟩, .string ⟨#[117]⟩, .slice ua bm uc, .bool false, .bool false, .slice none 0 0] 38))).heap[wr.heap.size + 1]? = some (.cells #[.string ⟨nm.toArray⟩, .string ⟨#[117]⟩, .slice ua bm uc, .bool false, .bool false, .slice none 0 0] 38 (0, 0)) := by have h7 := Dg.row_new (wr.drew.alloc (.cells #[] 38)) #[.string ⟨nm.toArray⟩, .string ⟨#[117]⟩, .slice ua bm uc, .bool false, .bool false, .slice none 0 0] 38; rw [World.size_alloc] at h7; exact h7
                refine ⟨HSK.out _ hb9, ?_⟩
                simp only [List.setIfInBounds_toArray, List.set_cons_succ, List.set_cons_zero]
                obtain ⟨a7, c7, W7, hr7, ho7, hg7⟩ := app_nodes ((wr.drew.alloc (.cells #[] 38)).alloc (.cells #[.string ⟨nm.toArray⟩, .string ⟨#[117]⟩, .slice ua bm uc, .bool false, .bool false, .slice none 0 0] 38)) wr.heap.size wr.heap.size bm bc nb noff nvs.flatten hoE2 HONN.out.1 (HNCS.out _ (HNW.out _ hb9)) HONN.out.2 hbm2 hb9.size
                have hb7 : Below wr.heap.size wr W7 := below_grown hb9 hg7 (fun b hb => by have := Option.some.inj hb; have := (hoE2.lt _ rfl).1; omega) hb9.size
                have hrX7 := (hg7.block _ (Array.getElem?_eq_some_iff.1 hrX).1 (by intro h; have := Option.some.inj h; omega)).trans hrX
                have ho7b := ho7
                refine wpAnyH_all (fuel := 4) (rs := [7]) (by kernel_rfl) (by decide) ?_
                refine List.forall_mem_singleton.2 ?_
                refine wpOp_value (i := 7) (d := 67) (v := .slice a7 bm c7) (w' := W7) rfl rfl (by kernel_rfl) (by simp [execOp, resolve, invoke, builtin, hr7, Result.andThen, Act.eval]) ?_
                refine ⟨HSK.out _ hb7, ?_⟩
                simp only [List.setIfInBounds_toArray, List.set_cons_succ, List.set_cons_zero]
                obtain ⟨a10, c10, W10, hr10, ho10, hg10⟩ := app_node W7 wr.heap.size bm c7 (wr.heap.size + 1) a7 nvs.flatten _ _ _ _ _ _ ho7b hrX7 (by intro u hu; simp at hu; rcases hu with rfl | rfl | rfl | rfl | rfl | rfl <;> rfl) hbm2 hb7.size
                have hb10 : Below wr.heap.size wr W10 := below_grown hb7 hg10 (fun b hb => (own_exists ho7b b hb).1) hb7.size
                refine wpAnyH_all (fuel := 3) (rs := [10]) (by kernel_rfl) (by decide) ?_
                refine List.forall_mem_singleton.2 ?_
                refine wpOp_value (i := 10) (d := 70) (v := .slice a10 (bm + 1) c10) (w' := W10) rfl rfl (by kernel_rfl) (by simp [execOp, resolve, invoke, builtin, hr10, Result.andThen, Act.eval]) ?_
                refine ⟨HSK.out _ hb10, ?_⟩
                simp only [List.setIfInBounds_toArray, List.set_cons_succ, List.set_cons_zero]
                refine wpAnyH_all (fuel := 2) (rs := [11]) (by kernel_rfl) (by decide) ?_
                refine List.forall_mem_singleton.2 ?_
                refine wpOp_value (i := 11) (d := 71) (v := .agg #[.slice a10 (bm + 1) c10]) (w' := W10) rfl rfl (by kernel_rfl) (by go_simp) ?_
                refine ⟨HSK.out _ hb10, ?_⟩
                simp only [List.setIfInBounds_toArray, List.set_cons_succ, List.set_cons_zero]
                refine wpAnyH_all (fuel := 1) (rs := [12]) (by kernel_rfl) (by decide) ?_
                refine List.forall_mem_singleton.2 ?_
                refine wpOp_value (i := 12) (d := 72) (v := .pointer (some ⟨gl, tk, none⟩)) (w' := W10) rfl rfl (by kernel_rfl) (by go_simp; (intro h9; omega)) ?_
                refine ⟨HSK.out _ hb10, ?_⟩
                simp only [List.setIfInBounds_toArray, List.set_cons_succ, List.set_cons_zero]
                refine wpAnyH_all (fuel := 0) (rs := [13]) (by kernel_rfl) (by decide) ?_
                refine List.forall_mem_singleton.2 ?_
                obtain ⟨gr, gc⟩ := HGC.out _ hb10
                have gf := Dg.froz_row gr tk
                refine wpOp_skip (i := 13) (w' := W10.setCell ⟨gl, tk, none⟩ (.slice a10 (bm + 1) c10)) rfl rfl (by kernel_rfl) (by go_simp) ?_
                obtain ⟨sk1, sk2⟩ := HSK.out _ hb10
                refine ⟨⟨(Below.heap_setCell _ _ _ _ (by show w6.heap.size + 1 ≠ gl; omega)).trans sk1, (World.cell?_of_block (a := ⟨w6.heap.size, 0, none⟩) (Below.heap_setCell _ _ _ _ (by show w6.heap.size ≠ gl; omega))).trans sk2⟩, wpAnyH_done (by kernel_rfl) ?_ _⟩
                exact ⟨rfl, [(.slice (some ⟨gl, 0, none⟩) (tk + 1) lc), (.slice (some ⟨gl, 0, none⟩) (tk + 1) lc), .int .i64 ((tk : Int) + 1), .int .i64 (tk : Int), .slice (some ⟨wr.heap.size, 0, none⟩) 0 0, .pointer (some ⟨w6.heap.size, 0, none⟩), (.slice (some ⟨nb, noff, none⟩) bm bc), .slice a7 bm c7, .agg #[.string ⟨nm.toArray⟩, .string ⟨#[117]⟩, .slice ua bm uc, .bool false, .bool false, .slice none 0 0], .slice (some ⟨wr.heap.size + 1, 0, none⟩) 1 1, .slice a10 (bm + 1) c10, .agg #[.slice a10 (bm + 1) c10], .pointer (some ⟨gl, tk, none⟩)], rfl, by kernel_rfl, a10, c10, W10, rfl, hb10, ho10⟩
            · refine wpOp_value (i := 9) (d := 69) (v := .slice (some ⟨wr.heap.size, 0, none⟩) 1 1) (w' := (wr.drew.alloc (.cells #[.string ⟨nm.toArray⟩, .string ⟨#[117]⟩, .slice ua bm uc, .bool false, .bool false, .slice none 0 0] 38))) rfl rfl (by kernel_rfl) (by go_simp) ?_
              refine ⟨HSK.out _ hbX, ?_⟩
              simp only [List.setIfInBounds_toArray, List.set_cons_succ, List.set_cons_zero]
              refine wpAnyH_all (fuel := 5) (rs := [4]) (by kernel_rfl) (by decide) ?_
              refine List.forall_mem_singleton.2 ?_
              refine wpOp_value (i := 4) (d := 64) (v := .slice (some ⟨wr.heap.size + 1, 0, none⟩) 0 0) (w' := ((wr.drew.alloc (.cells #[.string ⟨nm.toArray⟩, .string ⟨#[117]⟩, .slice ua bm uc, .bool false, .bool false, .slice none 0 0] 38)).alloc (.cells #[] 38))) rfl rfl (by kernel_rfl) (by go_simp) ?_
              have hb9 : Below wr.heap.size wr ((wr.drew.alloc (.cells #[.string ⟨nm.toArray⟩, .string ⟨#[117]⟩, .slice ua bm uc, .bool false, .bool false, .slice none 0 0] 38)).alloc (.cells #[] 38)) := hbX.alloc hbX.size _
              have hoX : (((wr.drew.alloc (.cells #[.string ⟨nm.toArray⟩, .string ⟨#[117]⟩, .slice ua bm uc, .bool false, .bool false, .slice none 0 0] 38)).alloc (.cells #[] 38))).ownsRow wr.heap.size 38 6 (.slice (some ⟨wr.heap.size + 1, 0, none⟩) 0 0) 0 [] := by have h7 := own_made (wr.drew.alloc (.cells #[.string ⟨nm.toArray⟩, .string ⟨#[117]⟩, .slice ua bm uc, .bool false, .bool false, .slice none 0 0] 38)) 38 6; rw [World.size_alloc] at h7; exact own_low h7 (Nat.le_succ _)
              have hrX : (((wr.drew.alloc (.cells #[.string ⟨nm.toArray⟩, .string ⟨#[117]⟩, .slice ua bm uc, .bool false, .bool false, .slice none 0 0] 38)).alloc (.cells #[] 38))).heap[wr.heap.size]? = some (.cells #[.string ⟨nm.toArray⟩, .string ⟨#[117]⟩, .slice ua bm uc, .bool false, .bool false, .slice none 0 0] 38 (0, 0)) := Dg.row_alloc (Dg.row_new wr.drew #[.string ⟨nm.toArray⟩, .string ⟨#[117]⟩, .slice ua bm uc, .bool false, .bool false, .slice none 0 0] 38) _
              refine ⟨HSK.out _ hb9, ?_⟩
              simp only [List.setIfInBounds_toArray, List.set_cons_succ, List.set_cons_zero]
              obtain ⟨a7, c7, W7, hr7, ho7, hg7⟩ := app_nodes ((wr.drew.alloc (.cells #[.string ⟨nm.toArray⟩, .string ⟨#[117]⟩, .slice ua bm uc, .bool false, .bool false, .slice none 0 0] 38)).alloc (.cells #[] 38)) wr.heap.size (wr.heap.size + 1) bm bc nb noff nvs.flatten hoX HONN.out.1 (HNCS.out _ (HNW.out _ hb9)) HONN.out.2 hbm2 hb9.size
              have hb7 : Below wr.heap.size wr W7 := below_grown hb9 hg7 (fun b hb => by have := Option.some.inj hb; have := (hoX.lt _ rfl).1; omega) hb9.size
              have hrX7 := (hg7.block _ (Array.getElem?_eq_some_iff.1 hrX).1 (by intro h; have := Option.some.inj h; omega)).trans hrX
              have ho7b := ho7
              refine wpAnyH_all (fuel := 4) (rs := [7]) (by kernel_rfl) (by decide) ?_
              refine List.forall_mem_singleton.2 ?_
              refine wpOp_value (i := 7) (d := 67) (v := .slice a7 bm c7) (w' := W7) rfl rfl (by kernel_rfl) (by simp [execOp, resolve, invoke, builtin, hr7, Result.andThen, Act.eval]) ?_
              refine ⟨HSK.out _ hb7, ?_⟩
              simp only [List.setIfInBounds_toArray, List.set_cons_succ, List.set_cons_zero]
              obtain ⟨a10, c10, W10, hr10, ho10, hg10⟩ := app_node W7 wr.heap.size bm c7 wr.heap.size a7 nvs.flatten _ _ _ _ _ _ ho7b hrX7 (by intro u hu; simp at hu; rcases hu with rfl | rfl | rfl | rfl | rfl | rfl <;> rfl) hbm2 hb7.size
              have hb10 : Below wr.heap.size wr W10 := below_grown hb7 hg10 (fun b hb => (own_exists ho7b b hb).1) hb7.size
              refine wpAnyH_all (fuel := 3) (rs := [10]) (by kernel_rfl) (by decide) ?_
              refine List.forall_mem_singleton.2 ?_
              refine wpOp_value (i := 10) (d := 70) (v := .slice a10 (bm + 1) c10) (w' := W10) rfl rfl (by kernel_rfl) (by simp [execOp, resolve, invoke, builtin, hr10, Result.andThen, Act.eval]) ?_
              refine ⟨HSK.out _ hb10, ?_⟩
              simp only [List.setIfInBounds_toArray, List.set_cons_succ, List.set_cons_zero]
              refine wpAnyH_all (fuel := 2) (rs := [11]) (by kernel_rfl) (by decide) ?_
              refine List.forall_mem_singleton.2 ?_
              refine wpOp_value (i := 11) (d := 71) (v := .agg #[.slice a10 (bm + 1) c10]) (w' := W10) rfl rfl (by kernel_rfl) (by go_simp) ?_
              refine ⟨HSK.out _ hb10, ?_⟩
              simp only [List.setIfInBounds_toArray, List.set_cons_succ, List.set_cons_zero]
              refine wpAnyH_all (fuel := 1) (rs := [12]) (by kernel_rfl) (by decide) ?_
              refine List.forall_mem_singleton.2 ?_
              refine wpOp_value (i := 12) (d := 72) (v := .pointer (some ⟨gl, tk, none⟩)) (w' := W10) rfl rfl (by kernel_rfl) (by go_simp; (intro h9; omega)) ?_
              refine ⟨HSK.out _ hb10, ?_⟩
              simp only [List.setIfInBounds_toArray, List.set_cons_succ, List.set_cons_zero]
              refine wpAnyH_all (fuel := 0) (rs := [13]) (by kernel_rfl) (by decide) ?_
              refine List.forall_mem_singleton.2 ?_
              obtain ⟨gr, gc⟩ := HGC.out _ hb10
              have gf := Dg.froz_row gr tk
              refine wpOp_skip (i := 13) (w' := W10.setCell ⟨gl, tk, none⟩ (.slice a10 (bm + 1) c10)) rfl rfl (by kernel_rfl) (by go_simp) ?_
              obtain ⟨sk1, sk2⟩ := HSK.out _ hb10
              refine ⟨⟨(Below.heap_setCell _ _ _ _ (by show w6.heap.size + 1 ≠ gl; omega)).trans sk1, (World.cell?_of_block (a := ⟨w6.heap.size, 0, none⟩) (Below.heap_setCell _ _ _ _ (by show w6.heap.size ≠ gl; omega))).trans sk2⟩, wpAnyH_done (by kernel_rfl) ?_ _⟩
              exact ⟨rfl, [(.slice (some ⟨gl, 0, none⟩) (tk + 1) lc), (.slice (some ⟨gl, 0, none⟩) (tk + 1) lc), .int .i64 ((tk : Int) + 1), .int .i64 (tk : Int), .slice (some ⟨wr.heap.size + 1, 0, none⟩) 0 0, .pointer (some ⟨w6.heap.size, 0, none⟩), (.slice (some ⟨nb, noff, none⟩) bm bc), .slice a7 bm c7, .agg #[.string ⟨nm.toArray⟩, .string ⟨#[117]⟩, .slice ua bm uc, .bool false, .bool false, .slice none 0 0], .slice (some ⟨wr.heap.size, 0, none⟩) 1 1, .slice a10 (bm + 1) c10, .agg #[.slice a10 (bm + 1) c10], .pointer (some ⟨gl, tk, none⟩)], rfl, by kernel_rfl, a10, c10, W10, rfl, hb10, ho10⟩
          · rintro us w9 hlen ⟨nv, nc, W, hw9, hbW, hoW⟩
            obtain ⟨u60, u61, u62, u63, u64, u65, u66, u67, u68, u69, u70, u71, u72, rfl⟩ := list13 us hlen
            have hbw5 : Below w.heap.size w w6 := HB5.out.trans (HB6.out.mono HB5.out.size)
            have hb6W : Below w6.heap.size w6 W := HBw6.out.trans (hbW.mono HBw6.out.size)
            have hnt : (namesT (lastT t)).take bm = namesT (lastT t) := List.take_of_length_le (by rw [HNmL.out]; exact Nat.le_refl _)
            have hon := HO.out
            rw [hnt] at hon
            have hsat : SAt (fun b => w6.heap.size ≤ b ∧ b < W.heap.size) W (namesT (lastT t)) ua bm := SAt_row hon HNmL.out (fun b hb => by
              obtain ⟨h1, h2⟩ := own_exists hon b hb
              exact ⟨hbW.block b h2, by omega, Nat.lt_of_lt_of_le h2 hbW.size⟩)
            obtain ⟨htat, hbR⟩ := more_tat (nm := nm) HTL.out (by omega) HVS.out HVE.out HMK.out hbw5 (own_low HO6.out HB5.out.size) hb6W HNV.out HNL.out (own_low hoW HBw6.out.size) hsat
            rw [Nat.add_sub_cancel, ← hw9] at htat hbR
            have hb5R : Below w5.heap.size w5 w9 := by
              rw [hw9]
              exact (HB6.out.trans (hb6W.mono HB6.out.size)).setCell (p := ⟨gl, tk, none⟩) (HO6.out.lt gl rfl).1 _
            have c20 := Dg.cell_later hb5R HM20.out
            have HP5 : Hid (w9.cell? ⟨w4.heap.size, 0, none⟩ = some (.slice v5 n5 c5)) := Dg.cell_later hb5R HM5.out
            have HR9 : Hid (RdIt w9 (.slice v5 n5 c5) its) := HR5.out.later hb5R
            have HBR : Hid (Below w.heap.size w w9) := hbR
            have MM2 : Hid _ := Make_any w9 x (addB (stepL nm t) t) (some ⟨gl, 0, none⟩) lc (by rw [addB_len, HTL.out]; exact htat) HF2.out (HT.out.later hbR)
            rw [addB_len, HTL.out] at MM2
            clear htat hbR hb5R hsat hon hnt hb6W hbw5 hw9 hbW hoW HM HO HM8 HO6 HB6 HBw6 HGC HSK HNW HBr hcur c8 hbel HVS HMK HNV HVE HFL HIL HCL HCS HNCS HON HONN HNL HNmL HNC hlen hgl hltn
            simp only [setAll, List.zip_cons_cons, List.zip_nil_right, List.setIfInBounds_toArray, List.set_cons_succ, List.set_cons_zero]
            go_wp2_with fail
            refine Calls.mono MM2.out ?_
            rintro e w10 ⟨hb10, h10⟩
            have HB10 : Hid (Below w.heap.size w w10) := HBR.out.trans (hb10.mono HBR.out.size)
            have HP10 : Hid _ := Dg.cell_later hb10 HP5.out
            have HR10 : Hid (RdIt w10 (.slice v5 n5 c5) its) := HR9.out.later hb10
            clear hb10 MM2 c20
            cases hP2 : planT x (addB (stepL nm t) t) with
            | none =>
              rw [hP2] at h10
              obtain rfl : e = .returned (.tuple #[.agg #[.slice none 0 0], .int .i64 11]) := h10
              have HBz : Hid (Below w.heap.size w (w10.alloc (.cells #[.slice none 0 0] 29))) := HB10.out.alloc HB10.out.size _
              clear hP2
              go_wp2_with fail
              refine Calls.mono (HLv.out _ (HT.out.later HBz.out)) ?_
              rintro e w12 ⟨rfl, hb12⟩
              have HB12 : Hid (Below w.heap.size w w12) := HBz.out.trans (hb12.mono HBz.out.size)
              clear hb12
              go_wp2_with fail
              go_ret
              exact ⟨rfl, HB12.out⟩
            | some its2 =>
              rw [hP2] at h10
              obtain ⟨v10, rfl, hs10⟩ := h10
              have hr10 := hs10.rd
              obtain ⟨⟨z, hz⟩, hov⟩ := more_none HP.out HKd.out hP2
              subst hz
              obtain ⟨v11, c11, rfl, _⟩ := id hr10
              have hll : (its ++ [z]).length = n5 + 1 := by rw [List.length_append, HN5.out]; rfl
              rw [hll] at hr10 ⊢
              have hbA : Below w10.heap.size w10 (w10.alloc (.cells #[.slice v11 (n5 + 1) c11] 29)) := (Below.refl _ _).alloc (Nat.le_refl _) _
              have HB11 : Hid (Below w.heap.size w (w10.alloc (.cells #[.slice v11 (n5 + 1) c11] 29))) := HB10.out.trans (hbA.mono HB10.out.size)
              have p11 := (Dg.cell_row (Dg.row_new w10 #[.slice v11 (n5 + 1) c11] 29) 0).trans rfl
              have p5 := Dg.cell_later hbA HP10.out
              have hin := more_in HLv.out (w10.alloc (.cells #[.slice v11 (n5 + 1) c11] 29)) w4.heap.size w10.heap.size n5 c5 c11 v5 v11 x t _ its z (HT.out.later HB11.out) HP.out hP2 HF2.out HXl.out hov HN5.out hn64 (HR10.out.later hbA) (hr10.later hbA)
              have hcut := fun wx => cut_items hr10 HN5.out.symm (by omega) wx
              have hw1 : IntKind.i64.wrap ((n5 : Int) + 1) = (n5 : Int) + 1 := by rw [IntKind.wrap_i64]; omega
              obtain ⟨W0, HW0⟩ : ∃ W0, W0 = w10.alloc (.cells #[.slice v11 (n5 + 1) c11] 29) := ⟨_, rfl⟩
              obtain ⟨B5, HB5e⟩ : ∃ B, B = w4.heap.size := ⟨_, rfl⟩
              obtain ⟨B11, HB11e⟩ : ∃ B, B = w10.heap.size := ⟨_, rfl⟩
              rw [← HW0] at p11 p5 hin HB11
              rw [← HB5e] at p5 hin
              rw [← HB11e] at p11 hin
              obtain ⟨C7, C8, C5⟩ := hin
              have H7 : Hid _ := C7
              have H8 : Hid _ := C8
              have H5 : Hid _ := C5
              have HS0 : Hid (Below W0.heap.size W0 W0.drew ∧ W0.drew.cell? ⟨B11, 0, none⟩ = some (.slice v11 (n5 + 1) c11) ∧ W0.drew.cell? ⟨B5, 0, none⟩ = some (.slice v5 n5 c5)) := ⟨(Below.refl _ _).drew, p11, p5⟩
              clear C7 C8 C5 p11 p5 hr10 hs10 hov hll hbA hP2 HR10 HP10 HB10
              go_wp2_with fail
              rw [← HW0]
              rw [← HB5e, ← HB11e]
              clear HW0 HB5e HB11e
              go_region_held (fun w' => (Below W0.heap.size W0 w' ∧ w'.cell? ⟨B11, 0, none⟩ = some (.slice v11 (n5 + 1) c11) ∧ w'.cell? ⟨B5, 0, none⟩ = some (.slice v5 n5 c5))) (first | assumption | exact HS0.out)
                (first
                  | (go_at_call 7; refine Calls.mono (H7.out _ (by assumption)) ?_; rintro e w17 ⟨rfl, hS17⟩)
                  | (go_at_call 8; refine Calls.mono (H8.out _ (by assumption)) ?_; rintro e w18 ⟨a18, c18, rfl, hS18⟩)
                  | (go_at_call 5; refine Calls.mono (H5.out _ (by assumption)) ?_; rintro e w15 ⟨rfl, hS15⟩))
              all_goals
                have HBq : Hid (Below w.heap.size w w15) := HB11.out.trans (hS15.1.mono HB11.out.size)
                go_wp2_with fail
                go_ret
                exact ⟨rfl, HBq.out⟩
end Go.Proofs.YtpgdafmenbeffaaDoor

