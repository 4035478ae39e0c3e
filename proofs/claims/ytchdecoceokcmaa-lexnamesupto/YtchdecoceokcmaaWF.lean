/- A walk over the document's 'first': the code point at a text's beginning. -/
import Derived.Test.YtchdecoceokcmaaWO
import Derived.Test.YtchdecoceokcmaaMc
import Derived.Deep.RegionWith
import Derived.Deep.QuietTactic
import Derived.BigQuiet
namespace Go.Proofs.Ytchdecoceokcmaa
open Go.RowKit

theorem one_at (c : Int) (hc : isCp c = true) (Y : ByteArray) (hY : Y.data.toList = enc c) (w : World) :
    Calls Try.prog 52 #[.int .i64 c] w fun e w' => e = .returned (.string Y) ∧ Below w.heap.size w w' := by
  have e : Y = ⟨(enc c).toArray⟩ := by
    apply ByteArray.ext
    apply Array.ext'
    simpa using hY
  rw [e]
  exact one_any c hc w

theorem ret_same {k : IntKind} {a b : Int} (h : a = b) : Ending.returned (.int k a) = .returned (.int k b) := by rw [h]

set_option maxRecDepth 1000000 in
set_option maxHeartbeats 8000000 in
theorem first_any (s : ByteArray) (K : Nat) (c R : Int) (hT : Target s.data.toList K c) (h5 : K = 5 → R = -1) (hc5 : K ≠ 5 → R = c) (w : World) (hs : s.size ≤ 100000) :
    Calls Try.prog 50 #[.string s] w fun e w' => e = .returned (.int .i64 R) ∧ Below w.heap.size w w' := by
  have HT : Hid (Target s.data.toList K c) := hT
  have H5 : Hid (K = 5 → R = -1) := h5
  have HC5 : Hid (K ≠ 5 → R = c) := hc5
  have hKs : Hid (K ≠ 5 → K ≤ 4 ∧ K ≤ s.size) := by
    intro hk
    rcases hT with ⟨h, _⟩ | ⟨h1, h2, h3⟩
    · exact absurd h hk
    · have hp := enc_pos c h1
      have := h3.length_le
      rw [size_list] at this
      omega
  clear hT h5 hc5
  go_enter Try.func50, Try.ntmps50
  go_wp2
  go_loopw [3, 4, 5] (fun n _ _ wr => ∃ (k : Nat), 1 ≤ k ∧ k ≤ 5 ∧ n = .int .i64 k ∧ k ≤ K ∧ Below w.heap.size w wr) (fun n _ _ _ => 5 - (intOf n).toNat)
  case atStart =>
    refine ⟨1, by omega, by omega, rfl, ?_, Below.refl _ _⟩
    rcases HT.out with ⟨h, _⟩ | ⟨h1, h2, _⟩
    · omega
    · have := enc_pos c h1
      omega
  case round =>
    obtain ⟨k, hk1, hk2, rfl, hkK, hbw⟩ := hrel
    have hsw := hbw.size
    by_cases hlt : k ≤ 4 ∧ k ≤ s.size
    · obtain ⟨h4, hsz⟩ := hlt
      have hkk : k = 1 ∨ k = 2 ∨ k = 3 ∨ k = 4 := by omega
      clear hKs
      rcases hkk with rfl | rfl | rfl | rfl
      · have htr := trip s.data.toList K c HT.out 1 (by omega) (by omega) ((bt s 0 : Nat) : Int) (cand1 s c)
        have l0 : 0 < s.size := by omega
        have e0 := bt_at s 0 l0
        have g0 := bt_lt s 0
        have HTR : Hid _ := htr
        clear htr HT
        go_wp2
        refine wp_loop_rounds 1 ?_
        rw [rounds_succ]
        go_wp2
        have htr := HTR.out
        clear HTR e0 g0
        generalize ((bt s 0 : Nat) : Int) = X at htr ⊢
        have htq : ((wid X == 1) = false ∧ K ≠ 1) ∨ (isCp X = true ∧ (wid X == 1) = true ∧ ∃ q : Bool, decide (enc X = s.data.toList.take 1) = q ∧ (q = false → K ≠ 1) ∧ (q = true → R = X)) := by
          rcases htr with ⟨hw, hK⟩ | ⟨hc, hw, he, hK⟩ | ⟨hc, hw, he, hK, hXc⟩
          · exact .inl ⟨hw, hK⟩
          · exact .inr ⟨hc, hw, false, by simpa using he, fun _ => hK, fun h => by cases h⟩
          · exact .inr ⟨hc, hw, true, by simpa using he, (fun h => by cases h), fun _ => by rw [HC5.out (by omega), hXc]⟩
        clear htr
        rcases htq with ⟨hw, hK⟩ | ⟨hc, hw, q, hdq, hq0, hq1⟩
        · go_quiet ((go_at_call 43; exact Calls.quiet_of_same (rwidth_any _ _)))
          all_goals go_wp2
          all_goals go_roundw
          case rel => exact ⟨2, by omega, by omega, rfl, by omega, below_drewN hbw _⟩
          case measure => simp [intOf]
        · have HC : Hid (isCp X = true) := hc
          obtain ⟨Y, HY⟩ : ∃ Y : ByteArray, Hid (Y.data.toList = enc X) := ⟨⟨(enc X).toArray⟩, by show _ = _; simp⟩
          have hq : (Y.toList == (s.extract 0 1).toList) = q := by rw [cmp_eq s Y 1 _ HY.out]; exact hdq
          have HQ0 : Hid (q = false → K ≠ 1) := hq0
          have HQ1 : Hid (q = true → R = X) := hq1
          clear hc hdq hq0 hq1
          go_region_with (first | (go_at_call 43; refine (rwidth_any _ _).mono ?_; rintro e w' ⟨rfl, rfl⟩) | (go_at_call 52; refine (one_at X HC.out Y HY.out _).mono ?_; rintro e w3 ⟨rfl, hb3⟩))
          all_goals clear hq
          cases q
          · have hK := HQ0.out rfl
            go_wp2
            go_roundw
            case rel => exact ⟨2, by omega, by omega, rfl, by omega, hbw.drew.trans (hb3.mono (by simp; omega))⟩
            case measure => simp [intOf]
          · have HR : Hid (R = X) := HQ1.out rfl
            go_wp2
            go_ret
            exact ⟨ret_same HR.out.symm, hbw.drew.trans (hb3.mono (by simp; omega))⟩
      · have htr := trip s.data.toList K c HT.out 2 (by omega) (by omega) (64 * ((bt s 0 : Int) % 32) + (bt s 1 : Int) % 64) (cand2 s c)
        have l0 : 0 < s.size := by omega
        have e0 := bt_at s 0 l0
        have g0 := bt_lt s 0
        have l1 : 1 < s.size := by omega
        have e1 := bt_at s 1 l1
        have g1 := bt_lt s 1
        have HTR : Hid _ := htr
        clear htr HT
        go_wp2
        refine wp_loop_rounds 2 ?_
        rw [rounds_succ]
        go_wp2
        rw [rounds_succ]
        go_wp2
        have htr := HTR.out
        clear HTR e0 g0 e1 g1
        generalize (64 * ((bt s 0 : Int) % 32) + (bt s 1 : Int) % 64) = X at htr ⊢
        have htq : ((wid X == 2) = false ∧ K ≠ 2) ∨ (isCp X = true ∧ (wid X == 2) = true ∧ ∃ q : Bool, decide (enc X = s.data.toList.take 2) = q ∧ (q = false → K ≠ 2) ∧ (q = true → R = X)) := by
          rcases htr with ⟨hw, hK⟩ | ⟨hc, hw, he, hK⟩ | ⟨hc, hw, he, hK, hXc⟩
          · exact .inl ⟨hw, hK⟩
          · exact .inr ⟨hc, hw, false, by simpa using he, fun _ => hK, fun h => by cases h⟩
          · exact .inr ⟨hc, hw, true, by simpa using he, (fun h => by cases h), fun _ => by rw [HC5.out (by omega), hXc]⟩
        clear htr
        rcases htq with ⟨hw, hK⟩ | ⟨hc, hw, q, hdq, hq0, hq1⟩
        · go_quiet ((go_at_call 43; exact Calls.quiet_of_same (rwidth_any _ _)))
          all_goals go_wp2
          all_goals go_roundw
          case rel => exact ⟨3, by omega, by omega, rfl, by omega, below_drewN (hbw.alloc hsw _) _⟩
          case measure => simp [intOf]
        · have HC : Hid (isCp X = true) := hc
          obtain ⟨Y, HY⟩ : ∃ Y : ByteArray, Hid (Y.data.toList = enc X) := ⟨⟨(enc X).toArray⟩, by show _ = _; simp⟩
          have hq : (Y.toList == (s.extract 0 2).toList) = q := by rw [cmp_eq s Y 2 _ HY.out]; exact hdq
          have HQ0 : Hid (q = false → K ≠ 2) := hq0
          have HQ1 : Hid (q = true → R = X) := hq1
          clear hc hdq hq0 hq1
          go_region_with (first | (go_at_call 43; refine (rwidth_any _ _).mono ?_; rintro e w' ⟨rfl, rfl⟩) | (go_at_call 52; refine (one_at X HC.out Y HY.out _).mono ?_; rintro e w3 ⟨rfl, hb3⟩))
          all_goals clear hq
          cases q
          · have hK := HQ0.out rfl
            go_wp2
            go_roundw
            case rel => exact ⟨3, by omega, by omega, rfl, by omega, (hbw.alloc hsw _).drew.trans (hb3.mono (by simp; omega))⟩
            case measure => simp [intOf]
          · have HR : Hid (R = X) := HQ1.out rfl
            go_wp2
            go_ret
            exact ⟨ret_same HR.out.symm, (hbw.alloc hsw _).drew.trans (hb3.mono (by simp; omega))⟩
      · have htr := trip s.data.toList K c HT.out 3 (by omega) (by omega) (64 * (64 * ((bt s 0 : Int) % 16) + (bt s 1 : Int) % 64) + (bt s 2 : Int) % 64) (cand3 s c)
        have l0 : 0 < s.size := by omega
        have e0 := bt_at s 0 l0
        have g0 := bt_lt s 0
        have l1 : 1 < s.size := by omega
        have e1 := bt_at s 1 l1
        have g1 := bt_lt s 1
        have l2 : 2 < s.size := by omega
        have e2 := bt_at s 2 l2
        have g2 := bt_lt s 2
        have HTR : Hid _ := htr
        clear htr HT
        go_wp2
        refine wp_loop_rounds 3 ?_
        rw [rounds_succ]
        go_wp2
        rw [rounds_succ]
        go_wp2
        rw [rounds_succ]
        go_wp2
        have htr := HTR.out
        clear HTR e0 g0 e1 g1 e2 g2
        generalize (64 * (64 * ((bt s 0 : Int) % 16) + (bt s 1 : Int) % 64) + (bt s 2 : Int) % 64) = X at htr ⊢
        have htq : ((wid X == 3) = false ∧ K ≠ 3) ∨ (isCp X = true ∧ (wid X == 3) = true ∧ ∃ q : Bool, decide (enc X = s.data.toList.take 3) = q ∧ (q = false → K ≠ 3) ∧ (q = true → R = X)) := by
          rcases htr with ⟨hw, hK⟩ | ⟨hc, hw, he, hK⟩ | ⟨hc, hw, he, hK, hXc⟩
          · exact .inl ⟨hw, hK⟩
          · exact .inr ⟨hc, hw, false, by simpa using he, fun _ => hK, fun h => by cases h⟩
          · exact .inr ⟨hc, hw, true, by simpa using he, (fun h => by cases h), fun _ => by rw [HC5.out (by omega), hXc]⟩
        clear htr
        rcases htq with ⟨hw, hK⟩ | ⟨hc, hw, q, hdq, hq0, hq1⟩
        · go_quiet ((go_at_call 43; exact Calls.quiet_of_same (rwidth_any _ _)))
          all_goals go_wp2
          all_goals go_roundw
          case rel => exact ⟨4, by omega, by omega, rfl, by omega, below_drewN (hbw.alloc hsw _) _⟩
          case measure => simp [intOf]
        · have HC : Hid (isCp X = true) := hc
          obtain ⟨Y, HY⟩ : ∃ Y : ByteArray, Hid (Y.data.toList = enc X) := ⟨⟨(enc X).toArray⟩, by show _ = _; simp⟩
          have hq : (Y.toList == (s.extract 0 3).toList) = q := by rw [cmp_eq s Y 3 _ HY.out]; exact hdq
          have HQ0 : Hid (q = false → K ≠ 3) := hq0
          have HQ1 : Hid (q = true → R = X) := hq1
          clear hc hdq hq0 hq1
          go_region_with (first | (go_at_call 43; refine (rwidth_any _ _).mono ?_; rintro e w' ⟨rfl, rfl⟩) | (go_at_call 52; refine (one_at X HC.out Y HY.out _).mono ?_; rintro e w3 ⟨rfl, hb3⟩))
          all_goals clear hq
          cases q
          · have hK := HQ0.out rfl
            go_wp2
            go_roundw
            case rel => exact ⟨4, by omega, by omega, rfl, by omega, (hbw.alloc hsw _).drew.trans (hb3.mono (by simp; omega))⟩
            case measure => simp [intOf]
          · have HR : Hid (R = X) := HQ1.out rfl
            go_wp2
            go_ret
            exact ⟨ret_same HR.out.symm, (hbw.alloc hsw _).drew.trans (hb3.mono (by simp; omega))⟩
      · have htr := trip s.data.toList K c HT.out 4 (by omega) (by omega) (64 * (64 * (64 * ((bt s 0 : Int) % 8) + (bt s 1 : Int) % 64) + (bt s 2 : Int) % 64) + (bt s 3 : Int) % 64) (cand4 s c)
        have l0 : 0 < s.size := by omega
        have e0 := bt_at s 0 l0
        have g0 := bt_lt s 0
        have l1 : 1 < s.size := by omega
        have e1 := bt_at s 1 l1
        have g1 := bt_lt s 1
        have l2 : 2 < s.size := by omega
        have e2 := bt_at s 2 l2
        have g2 := bt_lt s 2
        have l3 : 3 < s.size := by omega
        have e3 := bt_at s 3 l3
        have g3 := bt_lt s 3
        have HTR : Hid _ := htr
        clear htr HT
        go_wp2
        refine wp_loop_rounds 4 ?_
        rw [rounds_succ]
        go_wp2
        rw [rounds_succ]
        go_wp2
        rw [rounds_succ]
        go_wp2
        rw [rounds_succ]
        go_wp2
        have htr := HTR.out
        clear HTR e0 g0 e1 g1 e2 g2 e3 g3
        generalize (64 * (64 * (64 * ((bt s 0 : Int) % 8) + (bt s 1 : Int) % 64) + (bt s 2 : Int) % 64) + (bt s 3 : Int) % 64) = X at htr ⊢
        have htq : ((wid X == 4) = false ∧ K ≠ 4) ∨ (isCp X = true ∧ (wid X == 4) = true ∧ ∃ q : Bool, decide (enc X = s.data.toList.take 4) = q ∧ (q = false → K ≠ 4) ∧ (q = true → R = X)) := by
          rcases htr with ⟨hw, hK⟩ | ⟨hc, hw, he, hK⟩ | ⟨hc, hw, he, hK, hXc⟩
          · exact .inl ⟨hw, hK⟩
          · exact .inr ⟨hc, hw, false, by simpa using he, fun _ => hK, fun h => by cases h⟩
          · exact .inr ⟨hc, hw, true, by simpa using he, (fun h => by cases h), fun _ => by rw [HC5.out (by omega), hXc]⟩
        clear htr
        rcases htq with ⟨hw, hK⟩ | ⟨hc, hw, q, hdq, hq0, hq1⟩
        · go_quiet ((go_at_call 43; exact Calls.quiet_of_same (rwidth_any _ _)))
          all_goals go_wp2
          all_goals go_roundw
          case rel => exact ⟨5, by omega, by omega, rfl, by omega, below_drewN (hbw.alloc hsw _) _⟩
          case measure => simp [intOf]
        · have HC : Hid (isCp X = true) := hc
          obtain ⟨Y, HY⟩ : ∃ Y : ByteArray, Hid (Y.data.toList = enc X) := ⟨⟨(enc X).toArray⟩, by show _ = _; simp⟩
          have hq : (Y.toList == (s.extract 0 4).toList) = q := by rw [cmp_eq s Y 4 _ HY.out]; exact hdq
          have HQ0 : Hid (q = false → K ≠ 4) := hq0
          have HQ1 : Hid (q = true → R = X) := hq1
          clear hc hdq hq0 hq1
          go_region_with (first | (go_at_call 43; refine (rwidth_any _ _).mono ?_; rintro e w' ⟨rfl, rfl⟩) | (go_at_call 52; refine (one_at X HC.out Y HY.out _).mono ?_; rintro e w3 ⟨rfl, hb3⟩))
          all_goals clear hq
          cases q
          · have hK := HQ0.out rfl
            go_wp2
            go_roundw
            case rel => exact ⟨5, by omega, by omega, rfl, by omega, (hbw.alloc hsw _).drew.trans (hb3.mono (by simp; omega))⟩
            case measure => simp [intOf]
          · have HR : Hid (R = X) := HQ1.out rfl
            go_wp2
            go_ret
            exact ⟨ret_same HR.out.symm, (hbw.alloc hsw _).drew.trans (hb3.mono (by simp; omega))⟩
    · have HK : Hid (R = -1) := by
        refine H5.out ?_
        apply Classical.byContradiction
        intro hne
        have := hKs.out hne
        omega
      clear hKs
      by_cases h4 : k ≤ 4
      · have h6 : ¬ k ≤ s.size := by omega
        clear hlt
        go_wp2
        go_ret
        exact ⟨ret_same HK.out.symm, hbw⟩
      · clear hlt
        go_wp2
        go_ret
        exact ⟨ret_same HK.out.symm, hbw⟩
end Go.Proofs.Ytchdecoceokcmaa
