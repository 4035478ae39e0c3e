/- The walks over the document's Takes, and over Same of whole numbers. -/
import Derived.Test.YthkndkbffiaknaaWe
namespace Go.Proofs.Ythkndkbffiaknaa

set_option maxRecDepth 1000000

open Go.RowKit

set_option linter.unusedVariables false

theorem RI.of_owns {w : World} {B : Nat} {v : Value} {n : Nat} {l : List Int} (hown : w.ownsRow B 3 1 v n (ivs l)) (hn : n = l.length) : RI w v l := by
  subst hn
  rcases hown.2 with ⟨rfl, h0⟩ | ⟨g, cap, cur, rfl, _, _, h1, h2, _⟩
  · have h1 : l = [] := List.eq_nil_of_length_eq_zero h0
    subst h1
    exact RI.nil w
  · refine ⟨_, cap, rfl, h1, h2, fun i hi => ⟨g, 0, rfl, ?_⟩⟩
    have h := hown.cellAt i (by omega)
    rw [Nat.zero_add, h]
    simp [ivs, hi]

theorem owns_later {w w' : World} {B : Nat} {t : TypeId} {v : Value} {n : Nat} {xs : List Value} (h : w.ownsRow B t 1 v n xs) (hb : Below w.heap.size w w') : w'.ownsRow B t 1 v n xs := by
  refine ⟨h.1, ?_⟩
  rcases h.2 with hn | ⟨g', cap', cur, e1, e2, e3, rest⟩
  · exact .inl hn
  · refine .inr ⟨g', cap', cur, e1, e2, ?_, rest⟩
    rw [hb.block g' (Array.getElem?_eq_some_iff.1 e3).1]
    exact e3

set_option maxRecDepth 1000000 in
set_option maxHeartbeats 1000000 in
theorem same_any (l m : List Int) (v u : Value) (w : World) (hl : RI w v l) (hm : RI w u m) (hn : l.length ≤ 1000000) (hn' : m.length ≤ 1000000) :
    Calls Try.prog 16 #[v, u] w fun e w' => e = .returned (.bool (decide (l = m))) ∧ Below w.heap.size w w' := by
  obtain ⟨a, cap, rfl, hc, _, hr⟩ := hl
  obtain ⟨a', cap', rfl, hc', _, hr'⟩ := hm
  have HR : Hid _ := hr
  have HR' : Hid _ := hr'
  obtain ⟨n, HN⟩ : ∃ n, Hid (l.length = n) := ⟨_, rfl⟩
  obtain ⟨n', HN'⟩ : ∃ n, Hid (m.length = n) := ⟨_, rfl⟩
  rw [HN.out] at hn hc ⊢
  rw [HN'.out] at hn' hc' ⊢
  clear hr hr'
  by_cases hnn : n = n'
  · subst hnn
    go_enter Try.func16, Try.ntmps16
    go_wp2_with fail
    go_loopw [5] (fun iv wr => ∃ (k : Nat), k ≤ n ∧ iv = .int .i64 k ∧ Hid (∀ i, i < k → l.getD i 0 = m.getD i 0) ∧ Hid (Below w.heap.size w wr)) (fun iv _ => n - (intOf iv).toNat)
    case atStart => exact ⟨0, Nat.zero_le _, rfl, fun i hi => by omega, Below.refl _ _⟩
    case round =>
      obtain ⟨k, hk, rfl, HX, HB⟩ := hrel
      rename World => w1
      by_cases hlt : k < n
      · obtain ⟨b, off, rfl, c0⟩ := HR.out k (by rw [HN.out]; exact hlt)
        obtain ⟨b', off', rfl, c1⟩ := HR'.out k (by rw [HN'.out]; exact hlt)
        have d0 := cell_later HB.out c0
        have d1 := cell_later HB.out c1
        obtain ⟨y, HYy⟩ : ∃ y, Hid (y = l.getD k 0) := ⟨_, rfl⟩
        obtain ⟨z, HZz⟩ : ∃ z, Hid (z = m.getD k 0) := ⟨_, rfl⟩
        rw [← HYy.out] at d0
        rw [← HZz.out] at d1
        have hki : (k : Int) < (n : Int) := by omega
        have HB2 : Hid (Below w.heap.size w w1.drew) := HB.out.drew
        by_cases hyz : y = z
        · have hb : (y == z) = true := by simp [hyz]
          have HX2 : Hid (∀ i, i < k + 1 → l.getD i 0 = m.getD i 0) := by
            show ∀ i, _
            intro i hi
            by_cases hik : i = k
            · subst hik; rw [← HYy.out, ← HZz.out, hyz]
            · exact HX.out i (by omega)
          clear HYy HZz hyz c0 c1 HX
          go_wp2_with fail
          go_region
          all_goals
            go_wp2_with fail
            go_roundw
            case rel => exact ⟨k + 1, by omega, by go_num, HX2, HB2⟩
            case measure => simp [intOf]; omega
        · have hb : (y == z) = false := by simp [hyz]
          have HF : Hid (decide (l = m) = false) := decide_eq_false (by
            rintro rfl
            exact hyz (HYy.out.trans HZz.out.symm))
          clear HYy HZz hyz c0 c1 HX
          go_wp2_with fail
          go_region
          all_goals
            go_wp2_with fail
            go_ret
            exact ⟨by rw [HF.out]; rfl, HB2.out⟩
      · have hkn : k = n := by omega
        subst hkn
        have HT2 : Hid (decide (l = m) = true) := by
          refine decide_eq_true (List.ext_getElem (by rw [HN.out, HN'.out]) fun i h1 h2 => ?_)
          have := HX.out i (by rw [← HN.out]; exact h1)
          simpa [h1, h2] using this
        go_wp2_with fail
        go_ret
        exact ⟨by rw [HT2.out]; rfl, HB.out⟩
  · have HF : Hid (decide (l = m) = false) := decide_eq_false (by rintro rfl; exact hnn (HN.out.symm.trans HN'.out))
    have hb : ((n : Int) == (n' : Int)) = false := by simp; omega
    go_enter Try.func16, Try.ntmps16
    go_wp2_with fail
    go_ret
    exact ⟨by rw [HF.out]; rfl, Below.refl _ _⟩

end Go.Proofs.Ythkndkbffiaknaa
