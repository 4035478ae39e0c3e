/- Texts of the seat, packed: Yz. -/
import Derived.Test.YtephkdocfhajiaaDoorP42
/- The walk over PlanSees. -/
namespace Go.Proofs.YtephkdocfhajiaaDoor
open Go.RowKit Go.Shelf Go.Proofs.YtephkdocfhajiaaDoor.Sx
set_option linter.unusedVariables false

theorem has_none (b : Nat) (i : Int) (w : World) (hv : w.cell? ⟨b, 0, none⟩ = some (.slice none 0 0)) : Calls Tryd.prog 44 #[.pointer (some ⟨b, 0, none⟩), .int .i64 i] w fun e w' => e = .returned (.bool false) ∧ w' = w := by
  have h := has_any b 0 0 none i w hv
  rw [show decide (0 ≤ i ∧ i < ((0 : Nat) : Int)) = false from decide_eq_false (by omega)] at h
  exact h

set_option maxRecDepth 1000000 in
set_option maxHeartbeats 8000000 in
theorem sees_walk (hLv : ∀ wx : World, Dg.Tab wx → Calls Tryd.prog 9 #[] wx fun e w' => e = .returned (.bool true) ∧ Below wx.heap.size wx w') (its : List It) (ia : Option Addr) (il icap : Nat) (i alt : Int) (made : Bool) (w : World) (hT : Dg.Tab w) (hIt : RdIt w (.slice ia il icap) its) (hmx : its.length ≤ maxLen) (hnm : ∀ x ∈ its, x.name.length ≤ maxLen ∧ x.undo.length ≤ maxLen ∧ x.after.length ≤ maxLen) :
    Calls Tryd.prog 6 #[.agg #[.slice ia il icap], .int .i64 i, .int .i64 alt, .bool made] w fun e w' => e = .returned (.bool true) ∧ Below w.heap.size w w' := by
  have HLv : Hid _ := hLv
  have HT : Hid (Dg.Tab w) := hT
  have HIt : Hid (RdIt w (.slice ia il icap) its) := hIt
  have HIL : Hid (its.length = il) := by
    obtain ⟨a, c, he, _⟩ := hIt
    simp only [Value.slice.injEq] at he
    exact he.2.1.symm
  have hb1 : Below w.heap.size w (w.alloc (.cells #[.slice ia il icap] 27)) := (Below.refl _ w).alloc (Nat.le_refl _) _
  have g1 := (Dg.cell_row (Dg.row_new w #[.slice ia il icap] 27) 0).trans rfl
  have MS : Hid _ := small_any its (.slice ia il icap) (w.alloc (.cells #[.slice ia il icap] 27)) (hIt.later hb1) hmx hnm
  have HB1 : Hid _ := hb1
  clear hLv hT hIt hmx hnm hb1
  obtain ⟨sm, HSM⟩ : ∃ sm, Hid (smallI its = sm) := ⟨_, rfl⟩
  rw [HSM.out] at MS
  cases sm with
  | false =>
    clear g1
    go_enter Tryd.func6, Tryd.ntmps6
    go_wp2_with fail
    refine Calls.mono MS.out ?_
    rintro e w2 ⟨rfl, hb2⟩
    have HB2 : Hid (Below w.heap.size w w2) := HB1.out.trans (hb2.mono HB1.out.size)
    clear hb2 MS
    go_wp2_with fail
    refine Calls.mono (HLv.out w2 (HT.out.later HB2.out)) ?_
    rintro e w3 ⟨rfl, hb3⟩
    have HB3 : Hid (Below w.heap.size w w3) := HB2.out.trans (hb3.mono HB2.out.size)
    clear hb3
    go_wp2_with fail
    go_ret
    exact ⟨rfl, HB3.out⟩
  | true =>
    obtain ⟨hF, hl70⟩ := small_fair HSM.out
    have HF : Hid (FairI its) := hF
    rw [HIL.out] at hl70
    clear hF
    cases made with
    | false =>
      go_enter Tryd.func6, Tryd.ntmps6
      go_wp2_with fail
      refine Calls.mono MS.out ?_
      rintro e w2 ⟨rfl, hb2⟩
      have HB2 : Hid (Below w.heap.size w w2) := HB1.out.trans (hb2.mono HB1.out.size)
      have g2 := Dg.cell_later hb2 g1
      clear hb2 MS g1
      go_wp2_with fail
      refine Calls.mono (Kids_no none i alt w2 (has_nil i w2)) ?_
      rintro e w3 ⟨rfl, rfl⟩
      go_wp2_with fail
      refine Calls.mono (Above_no none i w3 (has_nil i w3)) ?_
      rintro e w4 ⟨rfl, rfl⟩
      go_wp2_with fail
      refine Calls.mono (Over_no none i w4 (has_nil i w4)) ?_
      rintro e w4b ⟨rfl, rfl⟩
      have g5 := g2
      go_wp2_with fail
      refine Calls.mono (See_any its (.slice ia il icap) w4b (HIt.out.later HB2.out) HF.out (HT.out.later HB2.out)) ?_
      rintro e w5 ⟨hb5, he⟩
      have HB5 : Hid (Below w.heap.size w w5) := HB2.out.trans (hb5.mono HB2.out.size)
      have g6 := Dg.cell_later hb5 g5
      have MR : Hid _ := Right_any its (.slice ia il icap) w5 (HIt.out.later HB5.out) HF.out (HT.out.later HB5.out)
      clear g5 hb5
      cases hP : sagaP its with
      | none =>
        rw [hP] at he MR
        obtain rfl : e = .returned (.tuple #[.pointer none, .int .i64 2]) := he
        have MR2 : Hid (Calls Tryd.prog 12 #[.agg #[.slice ia il icap]] w5 fun e w' => e = .returned (.bool false) ∧ Below w5.heap.size w5 w') := MR.out
        clear hP MR
        go_wp2_with fail
        refine Calls.mono MR2.out ?_
        rintro e w6 ⟨rfl, hb6⟩
        have HB6 : Hid (Below w.heap.size w w6) := HB5.out.trans (hb6.mono HB5.out.size)
        clear hb6 MR2
        go_wp2_with fail
        refine Calls.mono (HLv.out w6 (HT.out.later HB6.out)) ?_
        rintro e w7 ⟨rfl, hb7⟩
        have HB7 : Hid (Below w.heap.size w w7) := HB6.out.trans (hb7.mono HB6.out.size)
        clear hb7
        go_wp2_with fail
        go_ret
        exact ⟨rfl, HB7.out⟩
      | some pp =>
        rw [hP] at he MR
        obtain ⟨b, W, o, rfl, hz, hW, hV⟩ := he
        have MR2 : Hid (Calls Tryd.prog 12 #[.agg #[.slice ia il icap]] w5 fun e w' => e = .returned (.bool true) ∧ Below w5.heap.size w5 w') := MR.out
        have HV : Hid (VwAt w5 b its (Dg.reachL W o)) := hV
        have HP : Hid (sagaP its = some pp) := hP
        have HW : Hid (Dg.weaveP (its.length : Int) (Dg.swapA (arcP its)) = .ok W o) := hW
        clear hP MR hV hW hz
        go_wp2_with fail
        refine Calls.mono MR2.out ?_
        rintro e w6 ⟨rfl, hb6⟩
        have HB6 : Hid (Below w.heap.size w w6) := HB5.out.trans (hb6.mono HB5.out.size)
        have g7 := Dg.cell_later hb6 g6
        obtain ⟨KL, AL, OL, hk, ha, ho, K, C23, C17, C24, C19, C25, C20, C18, C9⟩ := see_in w6 w.heap.size b (.slice ia il icap) its i alt W o pp HLv.out (HT.out.later HB6.out) (HIt.out.later HB6.out) HF.out (by rw [HIL.out]; exact hl70) HP.out HW.out (HV.out.later hb6)
        obtain ⟨W0, HW0⟩ : ∃ W0, W0 = w6 := ⟨_, rfl⟩
        obtain ⟨B, HBB⟩ : ∃ B, B = w.heap.size := ⟨_, rfl⟩
        rw [← HW0] at K C23 C17 C24 C19 C25 C20 C18 C9 g7 HB6
        have HB6' : Hid (Below B w W0) := by rw [HBB]; exact HB6
        rw [← HBB] at K C23 C17 C24 C19 C25 C20 C18 C9 g7
        have HK : Hid _ := K
        have H23 : Hid _ := C23
        have H17 : Hid _ := C17
        have H24 : Hid _ := C24
        have H19 : Hid _ := C19
        have H25 : Hid _ := C25
        have H20 : Hid _ := C20
        have H18 : Hid _ := C18
        have H9 : Hid _ := C9
        have HS0 : Hid (Below W0.heap.size W0 W0.drew ∧ W0.drew.cell? ⟨B, 0, none⟩ = some (.slice ia il icap)) := ⟨(Below.refl _ _).drew, g7⟩
        clear K C23 C17 C24 C19 C25 C20 C18 C9 g7 g6 hb6 MR2 HV HP HW HB5 HB6
        go_wp2_with fail
        rw [← HW0, ← HBB]
        have HBH : Hid (B = w.heap.size) := HBB
        clear HW0 HBB
        go_region_held (fun w' => (Below W0.heap.size W0 w' ∧ w'.cell? ⟨B, 0, none⟩ = some (.slice ia il icap))) (first | assumption | exact HS0.out)
          (first
            | (go_at_call 23; refine Calls.mono (H23.out _ (by assumption)) ?_; rintro e w23 ⟨a23, c23, rfl, hi23, hb23, hS23⟩)
            | (go_at_call 17; refine Calls.mono (H17.out _ (by assumption)) ?_; rintro e w17 ⟨a17, c17, rfl, hi17, hb17, hS17⟩)
            | (go_at_call 18; refine Calls.mono (H18.out OL _ _ _ (by first | exact hi25 | exact hi25.later hb20) (by first | exact hi20 | exact hi20.later hb25) ho (by assumption)) ?_; rintro e w25s ⟨rfl, hS25s⟩)
            | (go_at_call 18; refine Calls.mono (H18.out AL _ _ _ (by first | exact hi24 | exact hi24.later hb19) (by first | exact hi19 | exact hi19.later hb24) ha (by assumption)) ?_; rintro e w24s ⟨rfl, hS24s⟩)
            | (go_at_call 18; refine Calls.mono (H18.out KL _ _ _ (by first | exact hi23 | exact hi23.later hb17) (by first | exact hi17 | exact hi17.later hb23) hk (by assumption)) ?_; rintro e w23s ⟨rfl, hS23s⟩)
            | (go_at_call 24; refine Calls.mono (H24.out _ (by assumption)) ?_; rintro e w24 ⟨a24, c24, rfl, hi24, hb24, hS24⟩)
            | (go_at_call 19; refine Calls.mono (H19.out _ (by assumption)) ?_; rintro e w19 ⟨a19, c19, rfl, hi19, hb19, hS19⟩)
            | (go_at_call 25; refine Calls.mono (H25.out _ (by assumption)) ?_; rintro e w25 ⟨a25, c25, rfl, hi25, hb25, hS25⟩)
            | (go_at_call 20; refine Calls.mono (H20.out _ (by assumption)) ?_; rintro e w20 ⟨a20, c20, rfl, hi20, hb20, hS20⟩)
            | (go_at_call 9; refine Calls.mono (H9.out _ (by assumption)) ?_; rintro e w9 ⟨rfl, hS9⟩))
        all_goals
          have HB9 : Hid (Below w.heap.size w w9) := by
            have h6 := HB6'.out
            rw [HBH.out] at h6
            exact h6.trans (hS9.1.mono h6.size)
          go_wp2_with fail
          go_ret
          exact ⟨rfl, HB9.out⟩
    | true =>
      go_enter Tryd.func6, Tryd.ntmps6
      go_wp2_with fail
      refine Calls.mono MS.out ?_
      rintro e w2 ⟨rfl, hb2⟩
      have HB2 : Hid (Below w.heap.size w w2) := HB1.out.trans (hb2.mono HB1.out.size)
      have g2 := Dg.cell_later hb2 g1
      have hbx : Below w2.heap.size w2 (w2.alloc (.cells #[.slice none 0 0, .slice none 0 0] 58)) := (Below.refl _ w2).alloc (Nat.le_refl _) _
      have g3 := Dg.cell_later hbx g2
      have g4 := (Dg.cell_row (Dg.row_new w2 #[.slice none 0 0, .slice none 0 0] 58) 0).trans rfl
      have HB3 : Hid (Below w.heap.size w (w2.alloc (.cells #[.slice none 0 0, .slice none 0 0] 58))) := HB2.out.trans (hbx.mono HB2.out.size)
      have HN : Hid _ := has_none w2.heap.size i _ g4
      clear hb2 MS g1 g2 hbx g4
      go_wp2_with fail
      generalize w2.alloc (.cells #[.slice none 0 0, .slice none 0 0] 58) = w4 at *
      refine Calls.mono (Kids_no _ i alt w4 HN.out) ?_
      rintro e w3 ⟨rfl, rfl⟩
      go_wp2_with fail
      refine Calls.mono (Above_no _ i w3 HN.out) ?_
      rintro e w4 ⟨rfl, rfl⟩
      go_wp2_with fail
      refine Calls.mono (Over_no _ i w4 HN.out) ?_
      rintro e w4b ⟨rfl, rfl⟩
      have g5 := g3
      go_wp2_with fail
      refine Calls.mono (See_any its (.slice ia il icap) w4b (HIt.out.later HB3.out) HF.out (HT.out.later HB3.out)) ?_
      rintro e w5 ⟨hb5, he⟩
      have HB5 : Hid (Below w.heap.size w w5) := HB3.out.trans (hb5.mono HB3.out.size)
      have g6 := Dg.cell_later hb5 g5
      have MR : Hid _ := Right_any its (.slice ia il icap) w5 (HIt.out.later HB5.out) HF.out (HT.out.later HB5.out)
      clear g5 hb5
      cases hP : sagaP its with
      | none =>
        rw [hP] at he MR
        obtain rfl : e = .returned (.tuple #[.pointer none, .int .i64 2]) := he
        have MR2 : Hid (Calls Tryd.prog 12 #[.agg #[.slice ia il icap]] w5 fun e w' => e = .returned (.bool false) ∧ Below w5.heap.size w5 w') := MR.out
        clear hP MR
        go_wp2_with fail
        refine Calls.mono MR2.out ?_
        rintro e w6 ⟨rfl, hb6⟩
        have HB6 : Hid (Below w.heap.size w w6) := HB5.out.trans (hb6.mono HB5.out.size)
        clear hb6 MR2
        go_wp2_with fail
        refine Calls.mono (HLv.out w6 (HT.out.later HB6.out)) ?_
        rintro e w7 ⟨rfl, hb7⟩
        have HB7 : Hid (Below w.heap.size w w7) := HB6.out.trans (hb7.mono HB6.out.size)
        clear hb7
        go_wp2_with fail
        go_ret
        exact ⟨rfl, HB7.out⟩
      | some pp =>
        rw [hP] at he MR
        obtain ⟨b, W, o, rfl, hz, hW, hV⟩ := he
        have MR2 : Hid (Calls Tryd.prog 12 #[.agg #[.slice ia il icap]] w5 fun e w' => e = .returned (.bool true) ∧ Below w5.heap.size w5 w') := MR.out
        have HV : Hid (VwAt w5 b its (Dg.reachL W o)) := hV
        have HP : Hid (sagaP its = some pp) := hP
        have HW : Hid (Dg.weaveP (its.length : Int) (Dg.swapA (arcP its)) = .ok W o) := hW
        clear hP MR hV hW hz
        go_wp2_with fail
        refine Calls.mono MR2.out ?_
        rintro e w6 ⟨rfl, hb6⟩
        have HB6 : Hid (Below w.heap.size w w6) := HB5.out.trans (hb6.mono HB5.out.size)
        have g7 := Dg.cell_later hb6 g6
        obtain ⟨KL, AL, OL, hk, ha, ho, K, C23, C17, C24, C19, C25, C20, C18, C9⟩ := see_in w6 w.heap.size b (.slice ia il icap) its i alt W o pp HLv.out (HT.out.later HB6.out) (HIt.out.later HB6.out) HF.out (by rw [HIL.out]; exact hl70) HP.out HW.out (HV.out.later hb6)
        obtain ⟨W0, HW0⟩ : ∃ W0, W0 = w6 := ⟨_, rfl⟩
        obtain ⟨B, HBB⟩ : ∃ B, B = w.heap.size := ⟨_, rfl⟩
        rw [← HW0] at K C23 C17 C24 C19 C25 C20 C18 C9 g7 HB6
        have HB6' : Hid (Below B w W0) := by rw [HBB]; exact HB6
        rw [← HBB] at K C23 C17 C24 C19 C25 C20 C18 C9 g7
        have HK : Hid _ := K
        have H23 : Hid _ := C23
        have H17 : Hid _ := C17
        have H24 : Hid _ := C24
        have H19 : Hid _ := C19
        have H25 : Hid _ := C25
        have H20 : Hid _ := C20
        have H18 : Hid _ := C18
        have H9 : Hid _ := C9
        have HS0 : Hid (Below W0.heap.size W0 W0.drew ∧ W0.drew.cell? ⟨B, 0, none⟩ = some (.slice ia il icap)) := ⟨(Below.refl _ _).drew, g7⟩
        clear K C23 C17 C24 C19 C25 C20 C18 C9 g7 g6 hb6 MR2 HV HP HW HB5 HB6
        go_wp2_with fail
        rw [← HW0, ← HBB]
        have HBH : Hid (B = w.heap.size) := HBB
        clear HW0 HBB
        go_region_held (fun w' => (Below W0.heap.size W0 w' ∧ w'.cell? ⟨B, 0, none⟩ = some (.slice ia il icap))) (first | assumption | exact HS0.out)
          (first
            | (go_at_call 23; refine Calls.mono (H23.out _ (by assumption)) ?_; rintro e w23 ⟨a23, c23, rfl, hi23, hb23, hS23⟩)
            | (go_at_call 17; refine Calls.mono (H17.out _ (by assumption)) ?_; rintro e w17 ⟨a17, c17, rfl, hi17, hb17, hS17⟩)
            | (go_at_call 18; refine Calls.mono (H18.out OL _ _ _ (by first | exact hi25 | exact hi25.later hb20) (by first | exact hi20 | exact hi20.later hb25) ho (by assumption)) ?_; rintro e w25s ⟨rfl, hS25s⟩)
            | (go_at_call 18; refine Calls.mono (H18.out AL _ _ _ (by first | exact hi24 | exact hi24.later hb19) (by first | exact hi19 | exact hi19.later hb24) ha (by assumption)) ?_; rintro e w24s ⟨rfl, hS24s⟩)
            | (go_at_call 18; refine Calls.mono (H18.out KL _ _ _ (by first | exact hi23 | exact hi23.later hb17) (by first | exact hi17 | exact hi17.later hb23) hk (by assumption)) ?_; rintro e w23s ⟨rfl, hS23s⟩)
            | (go_at_call 24; refine Calls.mono (H24.out _ (by assumption)) ?_; rintro e w24 ⟨a24, c24, rfl, hi24, hb24, hS24⟩)
            | (go_at_call 19; refine Calls.mono (H19.out _ (by assumption)) ?_; rintro e w19 ⟨a19, c19, rfl, hi19, hb19, hS19⟩)
            | (go_at_call 25; refine Calls.mono (H25.out _ (by assumption)) ?_; rintro e w25 ⟨a25, c25, rfl, hi25, hb25, hS25⟩)
            | (go_at_call 20; refine Calls.mono (H20.out _ (by assumption)) ?_; rintro e w20 ⟨a20, c20, rfl, hi20, hb20, hS20⟩)
            | (go_at_call 9; refine Calls.mono (H9.out _ (by assumption)) ?_; rintro e w9 ⟨rfl, hS9⟩))
        all_goals
          have HB9 : Hid (Below w.heap.size w w9) := by
            have h6 := HB6'.out
            rw [HBH.out] at h6
            exact h6.trans (hS9.1.mono h6.size)
          go_wp2_with fail
          go_ret
          exact ⟨rfl, HB9.out⟩
end Go.Proofs.YtephkdocfhajiaaDoor

