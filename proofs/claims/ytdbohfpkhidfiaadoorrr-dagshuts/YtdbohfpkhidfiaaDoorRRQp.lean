/- The document's Same of arcs; the law's few. -/
import Derived.Test.YtdbohfpkhidfiaaDoorRRQo
namespace Go.Proofs.YtdbohfpkhidfiaaDoorRR
open Go.RowKit

set_option maxRecDepth 1000000 in
set_option maxHeartbeats 1000000 in
theorem sameA_any (l m : List (Int × Int)) (v u : Value) (w : World) (hl : RdA w v l) (hm : RdA w u m) (hn : l.length ≤ 100000) (hn' : m.length ≤ 100000) :
    Calls Tryd.prog 15 #[v, u] w fun e w' => e = .returned (.bool (decide (l = m))) ∧ Below w.heap.size w w' := by
  obtain ⟨a, cap, rfl, hc, _, hr⟩ := hl
  obtain ⟨a', cap', rfl, hc', _, hr'⟩ := hm
  have HR : Hid _ := hr
  have HR' : Hid _ := hr'
  obtain ⟨n, HN⟩ : ∃ n, Hid (l.length = n) := ⟨_, rfl⟩
  obtain ⟨n', HN'⟩ : ∃ n, Hid (m.length = n) := ⟨_, rfl⟩
  rw [HN.out] at hn hc ⊢
  rw [HN'.out] at hn' hc' ⊢
  clear hr hr'
  by_cases hnn : n = n'
  · subst hnn
    go_enter Tryd.func15, Tryd.ntmps15
    go_wp2_with fail
    go_loopw [5] (fun iv wr => ∃ (k : Nat), k ≤ n ∧ iv = .int .i64 k ∧ Hid (l.take k = m.take k) ∧ Hid (Below w.heap.size w wr)) (fun iv _ => n - (intOf iv).toNat)
    case atStart => exact ⟨0, Nat.zero_le _, rfl, by show l.take 0 = m.take 0; simp, Below.refl _ _⟩
    case round =>
      obtain ⟨k, hk, rfl, HX, HB⟩ := hrel
      rename World => w1
      by_cases hlt : k < n
      · obtain ⟨y, hy⟩ : ∃ y, l[k]? = some y := ⟨_, List.getElem?_eq_getElem (by rw [HN.out]; exact hlt)⟩
        obtain ⟨z, hz⟩ : ∃ y, m[k]? = some y := ⟨_, List.getElem?_eq_getElem (by rw [HN'.out]; exact hlt)⟩
        obtain ⟨b, off, rfl, c0, c0'⟩ := HR.out k y hy
        obtain ⟨b', off', rfl, c1, c1'⟩ := HR'.out k z hz
        have d0 := cell_later HB.out c0
        have d1 := cell_later HB.out c1
        have d0' := cell_later HB.out c0'
        have d1' := cell_later HB.out c1'
        have hki : (k : Int) < (n : Int) := by omega
        have HB2 : Hid (Below w.heap.size w w1.drew) := bl_drawn1 HB.out
        by_cases hyz : y = z
        · have HX2 : Hid (l.take (k + 1) = m.take (k + 1)) := by
            show _ = _
            rw [List.take_add_one, List.take_add_one, hy, hz, HX.out, hyz]
          subst hyz
          clear hy hz c0 c1 c0' c1' HX
          obtain ⟨y1, y2⟩ := y
          simp only at d0 d1 d0' d1'
          go_wp2_with fail
          go_region
          all_goals
            go_wp2_with fail
            go_roundw
            case rel => exact ⟨k + 1, by omega, by go_num, HX2, HB2⟩
            case measure => simp [intOf]; omega
        · have HF : Hid (decide (l = m) = false) := decide_eq_false (by rintro rfl; rw [hy] at hz; cases hz; exact hyz rfl)
          obtain ⟨y1, y2⟩ := y
          obtain ⟨z1, z2⟩ := z
          simp only at d0 d1 d0' d1'
          by_cases h1 : y1 = z1
          · subst h1
            have h2 : ¬ y2 = z2 := fun h => hyz (by rw [h])
            clear hy hz hyz c0 c1 c0' c1' HX
            go_wp2_with fail
            go_region
            all_goals
              go_wp2_with fail
              go_ret
              exact ⟨by rw [HF.out]; rfl, HB2.out⟩
          · clear hy hz hyz c0 c1 c0' c1' HX
            go_wp2_with fail
            go_region
            all_goals
              go_wp2_with fail
              go_ret
              exact ⟨by rw [HF.out]; rfl, HB2.out⟩
      · have hkn : k = n := by omega
        subst hkn
        have HT2 : Hid (decide (l = m) = true) := by
          have h1 := HX.out
          rw [List.take_of_length_le (by rw [HN.out]; exact Nat.le_refl _), List.take_of_length_le (by rw [HN'.out]; exact Nat.le_refl _)] at h1
          exact decide_eq_true h1
        go_wp2_with fail
        go_ret
        exact ⟨by rw [HT2.out]; rfl, HB.out⟩
  · have HF : Hid (decide (l = m) = false) := decide_eq_false (by rintro rfl; exact hnn (HN.out.symm.trans HN'.out))
    have hb : ((n : Int) == (n' : Int)) = false := by simp; omega
    go_enter Tryd.func15, Tryd.ntmps15
    go_wp2_with fail
    go_ret
    exact ⟨by rw [HF.out]; rfl, Below.refl _ _⟩

def fewP (n : Nat) : Bool := decide (n ≤ 300) || (decide (4096 < n) && decide (n ≤ 8192))

set_option maxRecDepth 1000000 in
set_option maxHeartbeats 1000000 in
theorem few_any (n cap : Nat) (a : Option Addr) (w : World) : Calls Tryd.prog 7 #[.slice a n cap] w fun e w' => e = .returned (.bool (fewP n)) ∧ w' = w := by
  unfold fewP
  by_cases h1 : n ≤ 300
  · have hb : decide ((n : Int) ≤ 300) = true := by simp; omega
    go_enter Tryd.func7, Tryd.ntmps7
    go_wp2_with fail
    go_ret
    exact ⟨by simp [h1], rfl⟩
  · have hb : decide ((n : Int) ≤ 300) = false := by simp; omega
    by_cases h2 : 4096 < n
    · have hb2 : decide ((n : Int) > 4096) = true := by simp; omega
      have hb2' : decide ((4096 : Int) < n) = true := by simp; omega
      by_cases h3 : n ≤ 8192
      · have hb3 : decide ((n : Int) ≤ 8192) = true := by simp; omega
        go_enter Tryd.func7, Tryd.ntmps7
        go_wp2_with fail
        go_ret
        exact ⟨by simp [h1, h2, h3], rfl⟩
      · have hb3 : decide ((n : Int) ≤ 8192) = false := by simp; omega
        go_enter Tryd.func7, Tryd.ntmps7
        go_wp2_with fail
        go_ret
        exact ⟨by simp [h1, h2, h3], rfl⟩
    · have hb2 : decide ((n : Int) > 4096) = false := by simp; omega
      have hb2' : decide ((4096 : Int) < n) = false := by simp; omega
      go_enter Tryd.func7, Tryd.ntmps7
      go_wp2_with fail
      go_ret
      exact ⟨by simp [h1, h2], rfl⟩
end Go.Proofs.YtdbohfpkhidfiaaDoorRR
