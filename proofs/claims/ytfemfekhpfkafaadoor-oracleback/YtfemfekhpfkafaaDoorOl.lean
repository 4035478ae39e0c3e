/- The walk over OracleBack. -/
import Derived.Test.YtfemfekhpfkafaaDoorOk
namespace Go.Proofs.YtfemfekhpfkafaaDoor.Or
open Go.RowKit Go.Proofs.YtfemfekhpfkafaaDoor
set_option maxRecDepth 1000000
set_option linter.unusedVariables false

theorem take_mem {F : List Int} {k : Nat} (hk : k < F.length) (i : Int) : decide (i ∈ F.take (k + 1)) = (decide (i ∈ F.take k) || (F.getD k 0 == i)) := by
  have e : F.getD k 0 = F[k] := by simp [hk]
  have ht : F.take (k + 1) = F.take k ++ [F[k]] := by rw [List.take_append_getElem hk]
  have hm : i ∈ F.take (k + 1) ↔ i ∈ F.take k ∨ F[k] = i := by
    rw [ht, List.mem_append, List.mem_singleton]
    exact ⟨fun h => h.imp id Eq.symm, fun h => h.imp id Eq.symm⟩
  rw [e, Bool.eq_iff_iff]
  simp only [decide_eq_true_eq, Bool.or_eq_true, beq_iff_eq, hm]

theorem RI.at {w : World} {a : Option Addr} {n c : Nat} {l : List Int} (h : RI w (.slice a n c) l) (k : Nat) (hk : k < l.length) : ∃ b off, a = some ⟨b, off, none⟩ ∧ w.cell? ⟨b, off + k, none⟩ = some (.int .i64 (l.getD k 0)) := by
  obtain ⟨a', c', he, _, _, hc⟩ := h
  simp only [Value.slice.injEq] at he
  obtain ⟨rfl, rfl, rfl⟩ := he
  exact hc k hk

set_option maxHeartbeats 2000000 in
theorem back_walk (a0 : Option Addr) (len0 cap0 : Nat) (F : List Int) (a1 : Option Addr) (len1 cap1 : Nat) (S : List Int) (i : Int) (w : World)
    (h0 : RI w (.slice a0 len0 cap0) F) (h1 : RI w (.slice a1 len1 cap1) S) :
    Calls Tryd.prog 5 #[.slice a0 len0 cap0, .slice a1 len1 cap1, .int .i64 i] w fun e w' => e = .returned (.bool true) ∧ Below w.heap.size w w' := by
  have HL : Hid (∀ wx, Calls Tryd.prog 7 #[] wx fun e w' => e = .returned (.bool true) ∧ Below wx.heap.size wx w') := lives_any
  have hl0 : len0 = F.length ∧ len0 ≤ cap0 ∧ cap0 ≤ maxLen := by
    obtain ⟨a', c', he, h1, h2, _⟩ := h0
    simp only [Value.slice.injEq] at he
    obtain ⟨rfl, rfl, rfl⟩ := he
    exact ⟨rfl, h1, h2⟩
  have hl1 : len1 = S.length ∧ len1 ≤ cap1 ∧ cap1 ≤ maxLen := by
    obtain ⟨a', c', he, h1, h2, _⟩ := h1
    simp only [Value.slice.injEq] at he
    obtain ⟨rfl, rfl, rfl⟩ := he
    exact ⟨rfl, h1, h2⟩
  obtain ⟨rfl, hc0, hm0⟩ := hl0
  obtain ⟨rfl, hc1, hm1⟩ := hl1
  have hm0' : F.length ≤ 9223372036854775807 := by unfold maxLen at hm0; omega
  have hm1' : S.length ≤ 9223372036854775807 := by unfold maxLen at hm1; omega
  by_cases hb0 : 200 < F.length
  · have hbi : (200 : Int) < (F.length : Int) := by omega
    clear h0 h1 hm0 hm1
    go_enter Tryd.func5, Tryd.ntmps5
    go_wp2_with fail
    refine Calls.mono (HL.out _) ?_
    rintro e w2 ⟨rfl, hb2⟩
    go_wp2_with fail
    go_ret
    exact ⟨rfl, hb2⟩
  · have hbi : ¬ (200 : Int) < (F.length : Int) := by omega
    by_cases hb1 : 200 < S.length
    · have hbi1 : (200 : Int) < (S.length : Int) := by omega
      clear h0 h1 hm0 hm1
      go_enter Tryd.func5, Tryd.ntmps5
      go_wp2_with fail
      refine Calls.mono (HL.out _) ?_
      rintro e w2 ⟨rfl, hb2⟩
      go_wp2_with fail
      go_ret
      exact ⟨rfl, hb2⟩
    · have hbi1 : ¬ (200 : Int) < (S.length : Int) := by omega
      have H0 : Hid (RI w (.slice a0 F.length cap0) F) := h0
      have H1 : Hid (RI w (.slice a1 S.length cap1) S) := h1
      have HMK : Hid _ := make_any F S _ _ w h0 h1 (by omega) (by omega)
      clear h0 h1 hm0 hm1
      by_cases hok : okM F S = true
      · have HF : Hid (failsP (mk F S) i = decide (i ∈ F)) := mk_fails hok i
        have HS : Hid (slipsP (mk F S) i = if 0 ≤ i then (S.getD i.toNat 0).toNat else 0) := mk_slips hok i
        have HAT : Hid (∀ j : Nat, 0 ≤ S.getD j 0 ∧ S.getD j 0 ≤ 3) := okM_at hok
        have HLN : Hid ((mk F S).length ≤ 64) := mk_len F S
        go_enter Tryd.func5, Tryd.ntmps5
        go_wp2_with fail
        refine Calls.mono HMK.out ?_
        rintro e w2 ⟨hb2, hc2⟩
        rw [if_pos hok] at hc2
        obtain ⟨g, c, rfl, hr2⟩ := hc2
        have HB2 : Hid (Below w.heap.size w w2) := hb2
        have HFA : Hid _ := fails_any (mk F S) _ i w2 hr2 (Nat.le_trans HLN.out (by decide))
        have HSL : Hid _ := slips_any (mk F S) _ i w2 hr2 (Nat.le_trans HLN.out (by decide))
        rw [HF.out] at HFA
        rw [HS.out] at HSL
        generalize (mk F S).length = t at *
        clear hb2 hr2 HF HS HMK HLN hok
        go_wp2_with fail
        go_loopw [11, 9] (fun iv bv wr => ∃ (k : Nat), k ≤ F.length ∧ iv = .int .i64 k ∧ bv = .bool (decide (i ∈ F.take k)) ∧ wr = w2) (fun iv _ _ => F.length - (intOf iv).toNat)
        case atStart => exact ⟨0, Nat.zero_le _, rfl, by simp, rfl⟩
        case round =>
          obtain ⟨k, hk, rfl, rfl, rfl⟩ := hrel
          by_cases hlt : k < F.length
          · obtain ⟨b, off, rfl, c0⟩ := RI.at H0.out k hlt
            have d0 := cell_later HB2.out c0
            have HT : Hid _ := take_mem hlt i
            obtain ⟨y, HY⟩ : ∃ y, Hid (y = F.getD k 0) := ⟨_, rfl⟩
            rw [← HY.out] at d0 HT
            generalize decide (i ∈ F.take k) = B at *
            have hki : (k : Int) < (F.length : Int) := by omega
            clear c0 HY
            cases B with
            | true =>
              rw [Bool.true_or] at HT
              go_wp2_with fail
              go_roundw
              case rel => exact ⟨k + 1, by omega, by go_num, by rw [HT.out], trivial⟩
              case measure => simp [intOf]; omega
            | false =>
              rw [Bool.false_or] at HT
              go_wp2_with fail
              go_roundw
              case rel => exact ⟨k + 1, by omega, by go_num, by rw [HT.out], trivial⟩
              case measure => simp [intOf]; omega
          · have hkn : k = F.length := by omega
            subst hkn
            rw [List.take_length]
            generalize decide (i ∈ F) = B at *
            by_cases hi0 : 0 ≤ i
            · rw [if_pos hi0] at HSL
              obtain ⟨z, rfl⟩ : ∃ z : Nat, i = (z : Int) := ⟨i.toNat, by omega⟩
              rw [Int.toNat_natCast] at HSL
              by_cases hi1 : z < S.length
              · have hzi : (z : Int) < (S.length : Int) := by omega
                obtain ⟨b, off, rfl, c0⟩ := RI.at H1.out z hi1
                have d0 := cell_later HB2.out c0
                have hz4 := HAT.out z
                obtain ⟨x, hx⟩ : ∃ x : Nat, S.getD z 0 = (x : Int) := ⟨(S.getD z 0).toNat, by omega⟩
                rw [hx] at d0 HSL
                rw [Int.toNat_natCast] at HSL
                clear c0 hz4 hx HAT H0 H1
                go_wp2_with fail
                refine Calls.mono HFA.out ?_
                rintro e w3 ⟨rfl, rfl⟩
                go_wp2_with fail
                refine Calls.mono HSL.out ?_
                rintro e w3 ⟨rfl, rfl⟩
                go_wp2_with fail
                refine Calls.mono (HL.out _) ?_
                rintro e w4 ⟨rfl, hb4⟩
                have HB4 : Hid _ := HB2.out.trans (hb4.mono HB2.out.size)
                clear hb4
                go_wp2_with fail
                go_ret
                exact ⟨rfl, HB4.out⟩
              · have hzi : ¬ (z : Int) < (S.length : Int) := by omega
                have hx : S.getD z 0 = 0 := by simp [show S.length ≤ z by omega]
                rw [hx, Int.toNat_zero] at HSL
                clear hx HAT H0 H1
                go_wp2_with fail
                refine Calls.mono HFA.out ?_
                rintro e w3 ⟨rfl, rfl⟩
                go_wp2_with fail
                refine Calls.mono HSL.out ?_
                rintro e w3 ⟨rfl, rfl⟩
                go_wp2_with fail
                refine Calls.mono (HL.out _) ?_
                rintro e w4 ⟨rfl, hb4⟩
                have HB4 : Hid _ := HB2.out.trans (hb4.mono HB2.out.size)
                clear hb4
                go_wp2_with fail
                go_ret
                exact ⟨rfl, HB4.out⟩
            · rw [if_neg hi0] at HSL
              clear HAT H0 H1
              go_wp2_with fail
              refine Calls.mono HFA.out ?_
              rintro e w3 ⟨rfl, rfl⟩
              go_wp2_with fail
              refine Calls.mono HSL.out ?_
              rintro e w3 ⟨rfl, rfl⟩
              go_wp2_with fail
              refine Calls.mono (HL.out _) ?_
              rintro e w4 ⟨rfl, hb4⟩
              have HB4 : Hid _ := HB2.out.trans (hb4.mono HB2.out.size)
              clear hb4
              go_wp2_with fail
              go_ret
              exact ⟨rfl, HB4.out⟩
      · clear H0 H1
        go_enter Tryd.func5, Tryd.ntmps5
        go_wp2_with fail
        refine Calls.mono HMK.out ?_
        rintro e w2 ⟨hb2, hc2⟩
        rw [if_neg hok] at hc2
        subst hc2
        have HB2 : Hid (Below w.heap.size w w2) := hb2
        clear hb2 HMK hok
        go_wp2_with fail
        refine Calls.mono (HL.out _) ?_
        rintro e w4 ⟨rfl, hb4⟩
        have HB4 : Hid _ := HB2.out.trans (hb4.mono HB2.out.size)
        clear hb4
        go_wp2_with fail
        go_ret
        exact ⟨rfl, HB4.out⟩
end Go.Proofs.YtfemfekhpfkafaaDoor.Or
