/- Texts of the seat, packed: Yx. -/
import Derived.Test.YtpgdafmenbeffaaDoorP32
/- The walk over the laws' lives. -/
namespace Go.Proofs.YtpgdafmenbeffaaDoor
open Go.RowKit Go.Shelf Go.Proofs.YtpgdafmenbeffaaDoor.Sx
set_option linter.unusedVariables false

theorem four (w : World) (o0 o1 o2 o3 : Obj) :
    let W := (((w.alloc o0).alloc o1).alloc o2).alloc o3
    W.heap[w.heap.size]? = some o0 ∧ W.heap[w.heap.size + 1]? = some o1 ∧ W.heap[w.heap.size + 1 + 1]? = some o2 ∧ W.heap[w.heap.size + 1 + 1 + 1]? = some o3 ∧ Below w.heap.size w W := by
  refine ⟨?_, ?_, ?_, ?_, ?_⟩
  · exact old1 (old1 (old1 (new1 w o0 _ rfl) _) _) _
  · exact old1 (old1 (new1 _ o1 _ (by simp)) _) _
  · exact old1 (new1 _ o2 _ (by simp)) _
  · exact new1 _ o3 _ (by simp)
  · exact (((((Below.refl _ w).alloc (Nat.le_refl _) _).alloc (by simp) _).alloc (by simp; omega) _).alloc (by simp; omega) _)

theorem two_no (w : World) :
    let W := (w.alloc (.cells #[.string ⟨#[97]⟩, .string ⟨#[]⟩, .slice none 0 0, .bool false, .bool false, .slice none 0 0] 38)).alloc (.cells #[.slice (some ⟨w.heap.size, 0, none⟩) 1 1] 35)
    TAt (· < W.heap.size) W true tNo (some ⟨w.heap.size + 1, 0, none⟩) 0 1 ∧ Below w.heap.size w W :=
  ⟨no_tree _ _ _ (old1 (new1 w _ _ rfl) _) (new1 _ _ _ (by simp)), ((Below.refl _ w).alloc (Nat.le_refl _) _).alloc (by simp) _⟩

set_option maxRecDepth 1000000 in
set_option maxHeartbeats 8000000 in
theorem lives_in (W5 : World) (B N4 : Nat) (v2 a4 : Option Addr) (c2 c4 : Nat) (hT : Dg.Tab W5) (h2 : RdIt W5 (.slice v2 4 c2) iEx) (hw : RdIt W5 (.slice (some ⟨B + 1 + 1, 0, none⟩) 4 4) iEx) (h4 : TAt (fun _ => True) W5 true tEx a4 0 1) :
    (∀ w1 w2 : World, (Below W5.heap.size W5 w1 ∧ w1.cell? ⟨B, 0, none⟩ = some (.slice v2 4 c2) ∧ w1.cell? ⟨B + 1 + 1 + 1, 0, none⟩ = some (.slice (some ⟨B + 1 + 1, 0, none⟩) 4 4) ∧ w1.cell? ⟨N4, 0, none⟩ = some (.string ⟨#[116]⟩) ∧ w1.cell? ⟨N4, 1, none⟩ = some (.slice a4 1 c4)) → Below w1.heap.size w1 w2 → (Below W5.heap.size W5 w2 ∧ w2.cell? ⟨B, 0, none⟩ = some (.slice v2 4 c2) ∧ w2.cell? ⟨B + 1 + 1 + 1, 0, none⟩ = some (.slice (some ⟨B + 1 + 1, 0, none⟩) 4 4) ∧ w2.cell? ⟨N4, 0, none⟩ = some (.string ⟨#[116]⟩) ∧ w2.cell? ⟨N4, 1, none⟩ = some (.slice a4 1 c4))) ∧
    (∀ wx : World, (Below W5.heap.size W5 wx ∧ wx.cell? ⟨B, 0, none⟩ = some (.slice v2 4 c2) ∧ wx.cell? ⟨B + 1 + 1 + 1, 0, none⟩ = some (.slice (some ⟨B + 1 + 1, 0, none⟩) 4 4) ∧ wx.cell? ⟨N4, 0, none⟩ = some (.string ⟨#[116]⟩) ∧ wx.cell? ⟨N4, 1, none⟩ = some (.slice a4 1 c4)) → Calls Tryd.prog 7 #[.agg #[.slice v2 4 c2], .agg #[(.slice (some ⟨B + 1 + 1, 0, none⟩) 4 4)]] wx fun e w' => e = .returned (.bool true) ∧ (Below W5.heap.size W5 w' ∧ w'.cell? ⟨B, 0, none⟩ = some (.slice v2 4 c2) ∧ w'.cell? ⟨B + 1 + 1 + 1, 0, none⟩ = some (.slice (some ⟨B + 1 + 1, 0, none⟩) 4 4) ∧ w'.cell? ⟨N4, 0, none⟩ = some (.string ⟨#[116]⟩) ∧ w'.cell? ⟨N4, 1, none⟩ = some (.slice a4 1 c4))) ∧
    (∀ wx : World, (Below W5.heap.size W5 wx ∧ wx.cell? ⟨B, 0, none⟩ = some (.slice v2 4 c2) ∧ wx.cell? ⟨B + 1 + 1 + 1, 0, none⟩ = some (.slice (some ⟨B + 1 + 1, 0, none⟩) 4 4) ∧ wx.cell? ⟨N4, 0, none⟩ = some (.string ⟨#[116]⟩) ∧ wx.cell? ⟨N4, 1, none⟩ = some (.slice a4 1 c4)) → Calls Tryd.prog 10 #[] wx fun e w' => ∃ a, e = .returned (.agg #[.string ⟨#[116]⟩, .slice a 1 1]) ∧ TAt (· < w'.heap.size) w' true tEx a 0 1 ∧ (Below W5.heap.size W5 w' ∧ w'.cell? ⟨B, 0, none⟩ = some (.slice v2 4 c2) ∧ w'.cell? ⟨B + 1 + 1 + 1, 0, none⟩ = some (.slice (some ⟨B + 1 + 1, 0, none⟩) 4 4) ∧ w'.cell? ⟨N4, 0, none⟩ = some (.string ⟨#[116]⟩) ∧ w'.cell? ⟨N4, 1, none⟩ = some (.slice a4 1 c4))) ∧
    (∀ (wx : World) (a : Option Addr), TAt (· < wx.heap.size) wx true tEx a 0 1 → (Below W5.heap.size W5 wx ∧ wx.cell? ⟨B, 0, none⟩ = some (.slice v2 4 c2) ∧ wx.cell? ⟨B + 1 + 1 + 1, 0, none⟩ = some (.slice (some ⟨B + 1 + 1, 0, none⟩) 4 4) ∧ wx.cell? ⟨N4, 0, none⟩ = some (.string ⟨#[116]⟩) ∧ wx.cell? ⟨N4, 1, none⟩ = some (.slice a4 1 c4)) → Calls Tryd.prog 12 #[.agg #[.string ⟨#[116]⟩, .slice a4 1 c4], .agg #[.string ⟨#[116]⟩, .slice a 1 1]] wx fun e w' => e = .returned (.bool true) ∧ (Below W5.heap.size W5 w' ∧ w'.cell? ⟨B, 0, none⟩ = some (.slice v2 4 c2) ∧ w'.cell? ⟨B + 1 + 1 + 1, 0, none⟩ = some (.slice (some ⟨B + 1 + 1, 0, none⟩) 4 4) ∧ w'.cell? ⟨N4, 0, none⟩ = some (.string ⟨#[116]⟩) ∧ w'.cell? ⟨N4, 1, none⟩ = some (.slice a4 1 c4))) ∧
    (∀ wx : World, (Below W5.heap.size W5 wx ∧ wx.cell? ⟨B, 0, none⟩ = some (.slice v2 4 c2) ∧ wx.cell? ⟨B + 1 + 1 + 1, 0, none⟩ = some (.slice (some ⟨B + 1 + 1, 0, none⟩) 4 4) ∧ wx.cell? ⟨N4, 0, none⟩ = some (.string ⟨#[116]⟩) ∧ wx.cell? ⟨N4, 1, none⟩ = some (.slice a4 1 c4)) → Calls Tryd.prog 14 #[.agg #[.slice v2 4 c2], .int .i64 2, .int .i64 0] wx fun e w' => ∃ a c, e = .returned (.slice a 1 c) ∧ Dg.RdI w' (.slice a 1 c) [3] ∧ Below wx.heap.size wx w' ∧ (Below W5.heap.size W5 w' ∧ w'.cell? ⟨B, 0, none⟩ = some (.slice v2 4 c2) ∧ w'.cell? ⟨B + 1 + 1 + 1, 0, none⟩ = some (.slice (some ⟨B + 1 + 1, 0, none⟩) 4 4) ∧ w'.cell? ⟨N4, 0, none⟩ = some (.string ⟨#[116]⟩) ∧ w'.cell? ⟨N4, 1, none⟩ = some (.slice a4 1 c4))) ∧
    (∀ wx : World, (Below W5.heap.size W5 wx ∧ wx.cell? ⟨B, 0, none⟩ = some (.slice v2 4 c2) ∧ wx.cell? ⟨B + 1 + 1 + 1, 0, none⟩ = some (.slice (some ⟨B + 1 + 1, 0, none⟩) 4 4) ∧ wx.cell? ⟨N4, 0, none⟩ = some (.string ⟨#[116]⟩) ∧ wx.cell? ⟨N4, 1, none⟩ = some (.slice a4 1 c4)) → Calls Tryd.prog 15 #[.agg #[.slice v2 4 c2], .int .i64 3] wx fun e w' => ∃ a c, e = .returned (.slice a 2 c) ∧ Dg.RdI w' (.slice a 2 c) [2, 0] ∧ Below wx.heap.size wx w' ∧ (Below W5.heap.size W5 w' ∧ w'.cell? ⟨B, 0, none⟩ = some (.slice v2 4 c2) ∧ w'.cell? ⟨B + 1 + 1 + 1, 0, none⟩ = some (.slice (some ⟨B + 1 + 1, 0, none⟩) 4 4) ∧ w'.cell? ⟨N4, 0, none⟩ = some (.string ⟨#[116]⟩) ∧ w'.cell? ⟨N4, 1, none⟩ = some (.slice a4 1 c4))) ∧
    (∀ wx : World, (Below W5.heap.size W5 wx ∧ wx.cell? ⟨B, 0, none⟩ = some (.slice v2 4 c2) ∧ wx.cell? ⟨B + 1 + 1 + 1, 0, none⟩ = some (.slice (some ⟨B + 1 + 1, 0, none⟩) 4 4) ∧ wx.cell? ⟨N4, 0, none⟩ = some (.string ⟨#[116]⟩) ∧ wx.cell? ⟨N4, 1, none⟩ = some (.slice a4 1 c4)) → Calls Tryd.prog 8 #[.agg #[.slice v2 4 c2], .int .i64 1] wx fun e w' => ∃ a c, e = .returned (.slice a 1 c) ∧ Dg.RdI w' (.slice a 1 c) [2] ∧ Below wx.heap.size wx w' ∧ (Below W5.heap.size W5 w' ∧ w'.cell? ⟨B, 0, none⟩ = some (.slice v2 4 c2) ∧ w'.cell? ⟨B + 1 + 1 + 1, 0, none⟩ = some (.slice (some ⟨B + 1 + 1, 0, none⟩) 4 4) ∧ w'.cell? ⟨N4, 0, none⟩ = some (.string ⟨#[116]⟩) ∧ w'.cell? ⟨N4, 1, none⟩ = some (.slice a4 1 c4))) ∧
    (∀ wx : World, (Below W5.heap.size W5 wx ∧ wx.cell? ⟨B, 0, none⟩ = some (.slice v2 4 c2) ∧ wx.cell? ⟨B + 1 + 1 + 1, 0, none⟩ = some (.slice (some ⟨B + 1 + 1, 0, none⟩) 4 4) ∧ wx.cell? ⟨N4, 0, none⟩ = some (.string ⟨#[116]⟩) ∧ wx.cell? ⟨N4, 1, none⟩ = some (.slice a4 1 c4)) → Calls Tryd.prog 16 #[.agg #[.string ⟨#[116]⟩, .slice (some ⟨wx.heap.size + 1, 0, none⟩) 1 1]] ((wx.alloc (.cells #[.string ⟨#[97]⟩, .string ⟨#[]⟩, .slice none 0 0, .bool false, .bool false, .slice none 0 0] 38)).alloc (.cells #[.slice (some ⟨wx.heap.size, 0, none⟩) 1 1] 35)) fun e w' => e = .returned (.int .i64 11) ∧ (Below W5.heap.size W5 w' ∧ w'.cell? ⟨B, 0, none⟩ = some (.slice v2 4 c2) ∧ w'.cell? ⟨B + 1 + 1 + 1, 0, none⟩ = some (.slice (some ⟨B + 1 + 1, 0, none⟩) 4 4) ∧ w'.cell? ⟨N4, 0, none⟩ = some (.string ⟨#[116]⟩) ∧ w'.cell? ⟨N4, 1, none⟩ = some (.slice a4 1 c4))) ∧
    (∀ wx : World, (Below W5.heap.size W5 wx ∧ wx.cell? ⟨B, 0, none⟩ = some (.slice v2 4 c2) ∧ wx.cell? ⟨B + 1 + 1 + 1, 0, none⟩ = some (.slice (some ⟨B + 1 + 1, 0, none⟩) 4 4) ∧ wx.cell? ⟨N4, 0, none⟩ = some (.string ⟨#[116]⟩) ∧ wx.cell? ⟨N4, 1, none⟩ = some (.slice a4 1 c4)) → Calls Tryd.prog 17 #[.agg #[(.slice (some ⟨B + 1 + 1, 0, none⟩) 4 4)]] wx fun e w' => e = .returned (.bool true) ∧ (Below W5.heap.size W5 w' ∧ w'.cell? ⟨B, 0, none⟩ = some (.slice v2 4 c2) ∧ w'.cell? ⟨B + 1 + 1 + 1, 0, none⟩ = some (.slice (some ⟨B + 1 + 1, 0, none⟩) 4 4) ∧ w'.cell? ⟨N4, 0, none⟩ = some (.string ⟨#[116]⟩) ∧ w'.cell? ⟨N4, 1, none⟩ = some (.slice a4 1 c4))) ∧
    (∀ (l : List Nat) (wx : World) (u u' : Value), Dg.RdI wx u l → Dg.RdI wx u' l → l.length ≤ 1000 → (Below W5.heap.size W5 wx ∧ wx.cell? ⟨B, 0, none⟩ = some (.slice v2 4 c2) ∧ wx.cell? ⟨B + 1 + 1 + 1, 0, none⟩ = some (.slice (some ⟨B + 1 + 1, 0, none⟩) 4 4) ∧ wx.cell? ⟨N4, 0, none⟩ = some (.string ⟨#[116]⟩) ∧ wx.cell? ⟨N4, 1, none⟩ = some (.slice a4 1 c4)) → Calls Tryd.prog 13 #[u, u'] wx fun e w' => e = .returned (.bool true) ∧ (Below W5.heap.size W5 w' ∧ w'.cell? ⟨B, 0, none⟩ = some (.slice v2 4 c2) ∧ w'.cell? ⟨B + 1 + 1 + 1, 0, none⟩ = some (.slice (some ⟨B + 1 + 1, 0, none⟩) 4 4) ∧ w'.cell? ⟨N4, 0, none⟩ = some (.string ⟨#[116]⟩) ∧ w'.cell? ⟨N4, 1, none⟩ = some (.slice a4 1 c4))) := by
  have K : ∀ w1 w2 : World, (Below W5.heap.size W5 w1 ∧ w1.cell? ⟨B, 0, none⟩ = some (.slice v2 4 c2) ∧ w1.cell? ⟨B + 1 + 1 + 1, 0, none⟩ = some (.slice (some ⟨B + 1 + 1, 0, none⟩) 4 4) ∧ w1.cell? ⟨N4, 0, none⟩ = some (.string ⟨#[116]⟩) ∧ w1.cell? ⟨N4, 1, none⟩ = some (.slice a4 1 c4)) → Below w1.heap.size w1 w2 → (Below W5.heap.size W5 w2 ∧ w2.cell? ⟨B, 0, none⟩ = some (.slice v2 4 c2) ∧ w2.cell? ⟨B + 1 + 1 + 1, 0, none⟩ = some (.slice (some ⟨B + 1 + 1, 0, none⟩) 4 4) ∧ w2.cell? ⟨N4, 0, none⟩ = some (.string ⟨#[116]⟩) ∧ w2.cell? ⟨N4, 1, none⟩ = some (.slice a4 1 c4)) := by
    rintro w1 w2 ⟨h1, h2, h3, h4, h5⟩ hb
    exact ⟨h1.trans (hb.mono h1.size), Dg.cell_later hb h2, Dg.cell_later hb h3, Dg.cell_later hb h4, Dg.cell_later hb h5⟩
  refine ⟨K, ?_, ?_, ?_, ?_, ?_, ?_, ?_, ?_, ?_⟩
  · intro wx hS
    refine Calls.mono (l_same wx _ _ (h2.later hS.1) (hw.later hS.1)) ?_
    rintro e w' ⟨h, hb⟩
    exact ⟨h, K _ _ hS hb⟩
  · intro wx hS
    refine Calls.mono (example_any wx) ?_
    rintro e w' ⟨hb, a, h, ht⟩
    exact ⟨a, h, ht, K _ _ hS hb⟩
  · intro wx a ha hS
    refine Calls.mono (l_saga wx _ _ a4 a c4 1 (h4.below hS.1) ha) ?_
    rintro e w' ⟨h, hb⟩
    exact ⟨h, K _ _ hS hb⟩
  · intro wx hS
    refine Calls.mono (l_kids wx _ (h2.later hS.1) (hT.later hS.1)) ?_
    rintro e w' ⟨a, c, h, hi, hb⟩
    exact ⟨a, c, h, hi, hb, K _ _ hS hb⟩
  · intro wx hS
    refine Calls.mono (l_above wx _ (h2.later hS.1) (hT.later hS.1)) ?_
    rintro e w' ⟨a, c, h, hi, hb⟩
    exact ⟨a, c, h, hi, hb, K _ _ hS hb⟩
  · intro wx hS
    refine Calls.mono (l_over wx _ (h2.later hS.1) (hT.later hS.1)) ?_
    rintro e w' ⟨a, c, h, hi, hb⟩
    exact ⟨a, c, h, hi, hb, K _ _ hS hb⟩
  · intro wx hS
    obtain ⟨ht, hb⟩ := two_no wx
    refine Calls.mono (l_check _ _ 1 ht ((hT.later hS.1).later hb)) ?_
    rintro e w' ⟨h, hb2⟩
    exact ⟨h, K _ _ hS (hb.trans (hb2.mono hb.size))⟩
  · intro wx hS
    refine Calls.mono (l_right wx _ (hw.later hS.1) (hT.later hS.1)) ?_
    rintro e w' ⟨h, hb⟩
    exact ⟨h, K _ _ hS hb⟩
  · intro l wx u u' hu hu' hl hS
    have h := Dg.sameI_any l l u u' wx hu hu' (by omega) (by omega)
    rw [show decide (l = l) = true from decide_eq_true rfl] at h
    refine Calls.mono h ?_
    rintro e w' ⟨h, hb⟩
    exact ⟨h, K _ _ hS hb⟩

set_option maxRecDepth 1000000 in
set_option maxHeartbeats 8000000 in
theorem lives_any (w : World) (hT : Dg.Tab w) : Calls Tryd.prog 5 #[] w fun e w' => e = .returned (.bool true) ∧ Below w.heap.size w w' := by
  have HT : Hid (Dg.Tab w) := hT
  clear hT
  go_enter Tryd.func5, Tryd.ntmps5
  go_wp2_with fail
  refine Calls.mono (example_any _) ?_
  rintro e w1 ⟨hb1, a1, rfl, ht1⟩
  have HB1 : Hid (Below w.heap.size w w1) := hb1
  have HM : Hid _ := l_make w1 a1 ht1 (HT.out.later hb1)
  clear hb1 ht1
  go_wp2_with fail
  refine Calls.mono HM.out ?_
  rintro e w2 ⟨hb2, v2, c2, rfl, hr2⟩
  have HB2 : Hid (Below w.heap.size w w2) := HB1.out.trans (hb2.mono HB1.out.size)
  have HR2 : Hid (RdIt w2 (.slice v2 4 c2) iEx) := hr2
  clear hb2 hr2 HM HB1
  go_wp2_with fail
  obtain ⟨q0, q1, q2, q3, hb3⟩ := four w2 (.cells #[.slice v2 4 c2] 29) (.cells #[.int .i64 1] 3) (.cells (wantC (w2.heap.size + 1)) 46) (.cells #[.slice (some ⟨w2.heap.size + 1 + 1, 0, none⟩) 4 4] 29)
  have HB3 : Hid (Below w.heap.size w _) := HB2.out.trans (hb3.mono HB2.out.size)
  have hw3 := want_rd _ _ _ q2 q1
  refine Calls.mono (l_back _ _ hw3 (HT.out.later HB3.out)) ?_
  rintro e w4 ⟨hb4, a4, c4, rfl, ht4⟩
  have HB4 : Hid (Below w.heap.size w w4) := HB3.out.trans (hb4.mono HB3.out.size)
  have hbA : Below w4.heap.size w4 (w4.alloc (.cells #[.string ⟨#[116]⟩, .slice a4 1 c4] 24)) := (Below.refl _ _).alloc (Nat.le_refl _) _
  have hc1 := Dg.cell_later hbA (Dg.cell_later hb4 ((Dg.cell_row q0 0).trans rfl))
  have hc3 := Dg.cell_later hbA (Dg.cell_later hb4 ((Dg.cell_row q3 0).trans rfl))
  have hr5 := Dg.row_new w4 #[.string ⟨#[116]⟩, .slice a4 1 c4] 24
  have hc40 := (Dg.cell_row hr5 0).trans rfl
  have hc41 := (Dg.cell_row hr5 1).trans rfl
  have hrd2 := ((HR2.out.later hb3).later hb4).later hbA
  have hrdw := (hw3.later hb4).later hbA
  have HB5 : Hid (Below w.heap.size w _) := HB4.out.trans (hbA.mono HB4.out.size)
  have hlv := lives_in _ w2.heap.size w4.heap.size v2 a4 c2 c4 ((HT.out.later HB4.out).later hbA) hrd2 hrdw (ht4.below hbA)
  clear hrd2 hrdw hr5 ht4 hb4 HB3 hw3 hb3 q0 q1 q2 q3 HR2 HB2
  obtain ⟨W5, HW5⟩ : ∃ W5, W5 = w4.alloc (.cells #[.string ⟨#[116]⟩, .slice a4 1 c4] 24) := ⟨_, rfl⟩
  obtain ⟨B, HBB⟩ : ∃ B, B = w2.heap.size := ⟨_, rfl⟩
  obtain ⟨N4, HN4⟩ : ∃ N, N = w4.heap.size := ⟨_, rfl⟩
  rw [← HW5] at hc1 hc3 hc40 hc41 HB5 hlv
  rw [← HBB] at hc1 hc3 hlv
  rw [← HN4] at hc40 hc41 hlv
  obtain ⟨K, C16, C28, C13, C17, C19, C20, C29, C12, C18⟩ := hlv
  have HK : Hid _ := K
  have H16 : Hid _ := C16
  have H28 : Hid _ := C28
  have H13 : Hid _ := C13
  have H17 : Hid _ := C17
  have H19 : Hid _ := C19
  have H20 : Hid _ := C20
  have H29 : Hid _ := C29
  have H12 : Hid _ := C12
  have H18 : Hid _ := C18
  have HS0 : Hid (Below W5.heap.size W5 W5.drew ∧ W5.drew.cell? ⟨B, 0, none⟩ = some (.slice v2 4 c2) ∧ W5.drew.cell? ⟨B + 1 + 1 + 1, 0, none⟩ = some (.slice (some ⟨B + 1 + 1, 0, none⟩) 4 4) ∧ W5.drew.cell? ⟨N4, 0, none⟩ = some (.string ⟨#[116]⟩) ∧ W5.drew.cell? ⟨N4, 1, none⟩ = some (.slice a4 1 c4)) := ⟨(Below.refl _ _).drew, hc1, hc3, hc40, hc41⟩
  clear K C16 C28 C13 C17 C19 C20 C29 C12 C18 hc1 hc3 hc40 hc41 hbA
  go_wp2_with fail
  rw [← HW5]
  rw [← HBB, ← HN4]
  clear HW5 HBB HN4
  go_region_held (fun w' => (Below W5.heap.size W5 w' ∧ w'.cell? ⟨B, 0, none⟩ = some (.slice v2 4 c2) ∧ w'.cell? ⟨B + 1 + 1 + 1, 0, none⟩ = some (.slice (some ⟨B + 1 + 1, 0, none⟩) 4 4) ∧ w'.cell? ⟨N4, 0, none⟩ = some (.string ⟨#[116]⟩) ∧ w'.cell? ⟨N4, 1, none⟩ = some (.slice a4 1 c4))) (first | assumption | exact HS0.out | exact HK.out _ _ (by assumption) ((Below.refl _ _).alloc (Nat.le_refl _) _))
    (first
      | (go_at_call 7; refine Calls.mono (H16.out _ (by assumption)) ?_; rintro e w16 ⟨rfl, hS16⟩)
      | (go_at_call 10; refine Calls.mono (H28.out _ (by assumption)) ?_; rintro e w28 ⟨a28, rfl, ht28, hS28⟩)
      | (go_at_call 12; refine Calls.mono (H13.out _ _ ht28 (by assumption)) ?_; rintro e w13 ⟨rfl, hS13⟩)
      | (go_at_call 14; refine Calls.mono (H17.out _ (by assumption)) ?_; rintro e w17 ⟨a17, c17, rfl, hi17, hb17, hS17⟩)
      | (go_at_call 15; refine Calls.mono (H19.out _ (by assumption)) ?_; rintro e w19 ⟨a19, c19, rfl, hi19, hb19, hS19⟩)
      | (go_at_call 8; refine Calls.mono (H20.out _ (by assumption)) ?_; rintro e w20 ⟨a20, c20, rfl, hi20, hb20, hS20⟩)
      | (go_at_call 13; refine Calls.mono (H18.out [2] _ _ _ (by first | exact hi20 | exact hi20.later ((Below.refl _ _).alloc (Nat.le_refl _) _)) (by first | exact RdI.new w20 [2] #[.int .i64 2] rfl | exact (RdI.new _ [2] #[.int .i64 2] rfl).later hb20) (by decide) (by assumption)) ?_; rintro e w20s ⟨rfl, hS20s⟩)
      | (go_at_call 13; refine Calls.mono (H18.out [2, 0] _ _ _ (by first | exact hi19 | exact hi19.later ((Below.refl _ _).alloc (Nat.le_refl _) _)) (by first | exact RdI.new w19 [2, 0] #[.int .i64 2, .int .i64 0] rfl | exact (RdI.new _ [2, 0] #[.int .i64 2, .int .i64 0] rfl).later hb19) (by decide) (by assumption)) ?_; rintro e w19s ⟨rfl, hS19s⟩)
      | (go_at_call 13; refine Calls.mono (H18.out [3] _ _ _ (by first | exact hi17 | exact hi17.later ((Below.refl _ _).alloc (Nat.le_refl _) _)) (by first | exact RdI.new w17 [3] #[.int .i64 3] rfl | exact (RdI.new _ [3] #[.int .i64 3] rfl).later hb17) (by decide) (by assumption)) ?_; rintro e w17s ⟨rfl, hS17s⟩)
      | (go_at_call 16; refine Calls.mono (H29.out _ (by assumption)) ?_; rintro e w29 ⟨rfl, hS29⟩)
      | (go_at_call 17; refine Calls.mono (H12.out _ (by assumption)) ?_; rintro e w12 ⟨rfl, hS12⟩))
  all_goals
    have HB6 : Hid (Below w.heap.size w w12) := HB5.out.trans (hS12.1.mono HB5.out.size)
    go_wp2_with fail
    go_ret
    exact ⟨rfl, HB6.out⟩
end Go.Proofs.YtpgdafmenbeffaaDoor

