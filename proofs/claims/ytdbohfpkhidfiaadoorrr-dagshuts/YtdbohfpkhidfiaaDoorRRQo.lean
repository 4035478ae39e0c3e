/- The document's SameRows. -/
import Derived.Test.YtdbohfpkhidfiaaDoorRRQn
namespace Go.Proofs.YtdbohfpkhidfiaaDoorRR
open Go.RowKit

set_option maxRecDepth 1000000 in
set_option maxHeartbeats 2000000 in
theorem sameL_any (L M : List (List Nat)) (v u : Value) (w : World) (hl : RdL w v L) (hm : RdL w u M) (hn : L.length ≤ 100000) (hn' : M.length ≤ 100000) (hx : ∀ x ∈ L, x.length ≤ 100000) (hx' : ∀ x ∈ M, x.length ≤ 100000) :
    Calls Tryd.prog 14 #[v, u] w fun e w' => e = .returned (.bool (decide (L = M))) ∧ Below w.heap.size w w' := by
  obtain ⟨a, cap, rfl, hc, hr⟩ := hl
  obtain ⟨a', cap', rfl, hc', hr'⟩ := hm
  have HR : Hid _ := hr
  have HR' : Hid _ := hr'
  have HXL : Hid _ := hx
  have HXM : Hid _ := hx'
  obtain ⟨n, HN⟩ : ∃ n, Hid (L.length = n) := ⟨_, rfl⟩
  obtain ⟨n', HN'⟩ : ∃ n, Hid (M.length = n) := ⟨_, rfl⟩
  rw [HN.out] at hn hc ⊢
  rw [HN'.out] at hn' hc' ⊢
  clear hr hr' hx hx'
  by_cases hnn : n = n'
  · subst hnn
    go_enter Tryd.func14, Tryd.ntmps14
    go_wp2_with fail
    go_loopw [5, 6] (fun iv _ wr => ∃ (k : Nat), k ≤ n ∧ iv = .int .i64 k ∧ Hid (L.take k = M.take k) ∧ Hid (Below w.heap.size w wr)) (fun iv _ _ => n - (intOf iv).toNat)
    case atStart => exact ⟨0, Nat.zero_le _, rfl, by show L.take 0 = M.take 0; simp, Below.refl _ _⟩
    case round =>
      obtain ⟨k, hk, rfl, HX, HB⟩ := hrel
      rename World => w1
      by_cases hlt : k < n
      · obtain ⟨y, hy⟩ : ∃ y, L[k]? = some y := ⟨_, List.getElem?_eq_getElem (by rw [HN.out]; exact hlt)⟩
        obtain ⟨z, hz⟩ : ∃ y, M[k]? = some y := ⟨_, List.getElem?_eq_getElem (by rw [HN'.out]; exact hlt)⟩
        obtain ⟨b, off, u1, rfl, c0, r0⟩ := HR.out k y hy
        obtain ⟨b', off', u2, rfl, c1, r1⟩ := HR'.out k z hz
        obtain ⟨ay, cy, rfl, hcy, hry⟩ := r0
        obtain ⟨az, cz, rfl, hcz, hrz⟩ := r1
        have HRY : Hid _ := hry
        have HRZ : Hid _ := hrz
        have HC0 : Hid _ := c0
        have HC1 : Hid _ := c1
        have d0 := cell_later HB.out c0
        have d1 := cell_later HB.out c1
        have hly := HXL.out y (List.mem_of_getElem? hy)
        have hlz := HXM.out z (List.mem_of_getElem? hz)
        have hki : (k : Int) < (n : Int) := by omega
        have HB2 : Hid (Below w.heap.size w w1.drew) := bl_drawn1 HB.out
        have HE : Hid (y = z → L.take (k + 1) = M.take (k + 1)) := by
          show y = z → _
          intro h
          rw [List.take_add_one, List.take_add_one, hy, hz, HX.out, h]
        have HF : Hid (y ≠ z → decide (L = M) = false) := by
          show y ≠ z → _
          intro h
          exact decide_eq_false (by rintro rfl; rw [hy] at hz; cases hz; exact h rfl)
        obtain ⟨p, HP⟩ : ∃ n, Hid (y.length = n) := ⟨_, rfl⟩
        obtain ⟨q, HQ⟩ : ∃ n, Hid (z.length = n) := ⟨_, rfl⟩
        rw [HP.out] at d0 hly hcy HC0
        rw [HQ.out] at d1 hlz hcz HC1
        clear hy hz c0 c1 HX hry hrz
        by_cases hpq : p = q
        · subst hpq
          have hpp : ((p : Int) == (p : Int)) = true := by simp
          go_wp2_with fail
          go_region
          all_goals
            clear d0 d1 HB
            go_wp2_with fail
            go_loopw [6] (fun jv wr => ∃ (j : Nat), j ≤ p ∧ jv = .int .i64 j ∧ Hid (y.take j = z.take j) ∧ Hid (Below w.heap.size w wr)) (fun jv _ => p - (intOf jv).toNat)
            case atStart => exact ⟨0, Nat.zero_le _, rfl, by show y.take 0 = z.take 0; simp, HB2⟩
            case round =>
              obtain ⟨j, hj, rfl, HXj, HBj⟩ := hrel
              rename World => w2
              have d0 := cell_later HBj.out HC0.out
              have d1 := cell_later HBj.out HC1.out
              by_cases hjl : j < p
              · obtain ⟨s, hs⟩ : ∃ s, y[j]? = some s := ⟨_, List.getElem?_eq_getElem (by rw [HP.out]; exact hjl)⟩
                obtain ⟨t, ht⟩ : ∃ s, z[j]? = some s := ⟨_, List.getElem?_eq_getElem (by rw [HQ.out]; exact hjl)⟩
                obtain ⟨b2, o2, rfl, g0⟩ := HRY.out j s hs
                obtain ⟨b3, o3, rfl, g1⟩ := HRZ.out j t ht
                have f0 := cell_later HBj.out g0
                have f1 := cell_later HBj.out g1
                have hji : (j : Int) < (p : Int) := by omega
                have HBj2 : Hid (Below w.heap.size w w2.drew) := bl_drawn1 HBj.out
                by_cases hst : s = t
                · have hb : ((s : Int) == (t : Int)) = true := by simp; omega
                  have HXj2 : Hid (y.take (j + 1) = z.take (j + 1)) := by
                    show _ = _
                    rw [List.take_add_one, List.take_add_one, hs, ht, HXj.out, hst]
                  clear hs ht hst g0 g1 HXj
                  go_wp2_with fail
                  go_region
                  all_goals
                    go_wp2_with fail
                    go_roundw
                    case rel => exact ⟨j + 1, by omega, by go_num, HXj2, HBj2⟩
                    case measure => simp [intOf]; omega
                · have hb : ((s : Int) == (t : Int)) = false := by simp; omega
                  have HF2 : Hid (decide (L = M) = false) := HF.out (by rintro rfl; rw [hs] at ht; cases ht; exact hst rfl)
                  clear hs ht hst g0 g1 HXj
                  go_wp2_with fail
                  go_region
                  all_goals
                    go_wp2_with fail
                    go_ret
                    exact ⟨by rw [HF2.out]; rfl, HBj2.out⟩
              · have hjp : j = p := by omega
                subst hjp
                have HE2 : Hid (L.take (k + 1) = M.take (k + 1)) := HE.out (by
                  have h1 := HXj.out
                  rw [List.take_of_length_le (by rw [HP.out]; exact Nat.le_refl _), List.take_of_length_le (by rw [HQ.out]; exact Nat.le_refl _)] at h1
                  exact h1)
                go_wp2_with fail
                go_roundw
                case rel => exact ⟨k + 1, by omega, by go_num, HE2, HBj⟩
                case measure => simp [intOf]; omega
        · have HF2 : Hid (decide (L = M) = false) := HF.out (fun h => hpq (by rw [← HP.out, ← HQ.out, h]))
          have hb : ((p : Int) == (q : Int)) = false := by simp; omega
          go_wp2_with fail
          go_region
          all_goals
            go_wp2_with fail
            go_ret
            exact ⟨by rw [HF2.out]; rfl, HB2.out⟩
      · have hkn : k = n := by omega
        subst hkn
        have HT2 : Hid (decide (L = M) = true) := by
          have h1 := HX.out
          rw [List.take_of_length_le (by rw [HN.out]; exact Nat.le_refl _), List.take_of_length_le (by rw [HN'.out]; exact Nat.le_refl _)] at h1
          exact decide_eq_true h1
        go_wp2_with fail
        go_ret
        exact ⟨by rw [HT2.out]; rfl, HB.out⟩
  · have HF : Hid (decide (L = M) = false) := decide_eq_false (by rintro rfl; exact hnn (HN.out.symm.trans HN'.out))
    have hb : ((n : Int) == (n' : Int)) = false := by simp; omega
    go_enter Tryd.func14, Tryd.ntmps14
    go_wp2_with fail
    go_ret
    exact ⟨by rw [HF.out]; rfl, Below.refl _ _⟩
end Go.Proofs.YtdbohfpkhidfiaaDoorRR
