/- The law's lives. -/
import Derived.Test.YtdbohfpkhidfiaaDoorRRQp
namespace Go.Proofs.YtdbohfpkhidfiaaDoorRR
open Go.RowKit

theorem lit_A (w : World) (l : List (Int × Int)) (hs : Small l) : RdA (w.alloc (.cells (avs l).toArray 46)) (.slice (some ⟨w.heap.size, 0, none⟩) l.length l.length) l := by
  refine ⟨_, _, rfl, Nat.le_refl _, hs, fun i p hi => ⟨w.heap.size, 0, rfl, ?_, ?_⟩⟩
  · have := new_cells w (avs l) 46 (i * 2 + 0) (.int .i64 p.1) (by rw [avs_at l i 0 p hi (by omega)]; rfl)
    rw [add_zero'] at this
    rw [Nat.zero_add]
    exact this
  · have := new_cells w (avs l) 46 (i * 2 + 1) (.int .i64 p.2) (by rw [avs_at l i 1 p hi (by omega)]; rfl)
    rw [add_zero'] at this
    rw [Nat.zero_add]
    exact this

theorem lit_I (w : World) (l : List Nat) : RdI (w.alloc (.cells (ivs l).toArray 3)) (.slice (some ⟨w.heap.size, 0, none⟩) l.length l.length) l := by
  refine ⟨_, _, rfl, Nat.le_refl _, fun i x hi => ⟨w.heap.size, 0, rfl, ?_⟩⟩
  have := new_cells w (ivs l) 3 i (.int .i64 (x : Int)) (by simp [ivs, hi])
  rw [add_zero'] at this
  rw [Nat.zero_add]
  exact this

/-- The chapter's example. -/
def exA : List (Int × Int) := [(2, 0), (0, 1), (2, 1)]

theorem exA_small : Small exA := by intro p hp; simp [exA] at hp; rcases hp with rfl | rfl | rfl <;> decide
theorem ex_weave : weaveP 3 exA = .ok [4, 5, 0] [2, 0, 1] := by rfl
theorem ex_reach : reachL [4, 5, 0] [2, 0, 1] = [[2], [0, 2], []] := by rfl
theorem ex_lev : levP [4, 5, 0] [2, 0, 1] = [1, 2, 0] := by rfl
theorem ex_red : redP (needP [4, 5, 0] (reachP [4, 5, 0] [2, 0, 1])) = [(0, 1), (2, 0)] := by rfl
theorem ex_ready : readyP [4, 5, 0] [] = [2] := by rfl
theorem ex_circle : weaveP 1 [(0, 0)] = .bad 13 := by rfl

def exW (w : World) : World := (((w.alloc (.cells #[.int .i64 2] 3)).alloc (.cells #[.int .i64 0, .int .i64 2] 3)).alloc (.cells #[] 3)).alloc (.cells #[.slice (some ⟨w.heap.size, 0, none⟩) 1 1, .slice (some ⟨w.heap.size + 1, 0, none⟩) 2 2, .slice (some ⟨w.heap.size + 1 + 1, 0, none⟩) 0 0] 25)

theorem exW_below (w : World) : Below w.heap.size w (exW w) := ((((Below.refl _ w).alloc (Nat.le_refl _) _).alloc (by simp) _).alloc (by simp; omega) _).alloc (by simp; omega) _

theorem lit_L (w : World) : RdL (exW w) (.slice (some ⟨w.heap.size + 1 + 1 + 1, 0, none⟩) 3 3) [[2], [0, 2], []] := by
  have h1 : RdI (exW w) (.slice (some ⟨w.heap.size, 0, none⟩) 1 1) [2] := (((lit_I w [2]).later ((Below.refl _ _).alloc (Nat.le_refl _) _)).later ((Below.refl _ _).alloc (Nat.le_refl _) _)).later ((Below.refl _ _).alloc (Nat.le_refl _) _)
  have h2 : RdI (exW w) (.slice (some ⟨w.heap.size + 1, 0, none⟩) 2 2) [0, 2] := by
    have := (((lit_I (w.alloc (.cells #[.int .i64 2] 3)) [0, 2]).later ((Below.refl _ _).alloc (Nat.le_refl _) (.cells #[] 3))).later ((Below.refl _ _).alloc (Nat.le_refl _) (.cells #[.slice (some ⟨w.heap.size, 0, none⟩) 1 1, .slice (some ⟨w.heap.size + 1, 0, none⟩) 2 2, .slice (some ⟨w.heap.size + 1 + 1, 0, none⟩) 0 0] 25)))
    rw [World.size_alloc] at this
    exact this
  have h3 : RdI (exW w) (.slice (some ⟨w.heap.size + 1 + 1, 0, none⟩) 0 0) [] := ⟨_, _, rfl, Nat.le_refl _, by simp⟩
  have hc := new_cells (((w.alloc (.cells #[.int .i64 2] 3)).alloc (.cells #[.int .i64 0, .int .i64 2] 3)).alloc (.cells #[] 3)) [.slice (some ⟨w.heap.size, 0, none⟩) 1 1, .slice (some ⟨w.heap.size + 1, 0, none⟩) 2 2, .slice (some ⟨w.heap.size + 1 + 1, 0, none⟩) 0 0] 25
  rw [World.size_alloc, World.size_alloc, World.size_alloc] at hc
  simp only [add_zero'] at hc
  refine ⟨_, _, rfl, Nat.le_refl _, fun i x hi => ?_⟩
  match i, hi with
  | 0, hi => cases hi; exact ⟨_, 0, _, rfl, hc 0 _ rfl, h1⟩
  | 1, hi => cases hi; exact ⟨_, 0, _, rfl, hc 1 _ rfl, h2⟩
  | 2, hi => cases hi; exact ⟨_, 0, _, rfl, hc 2 _ rfl, h3⟩
  | i + 3, hi => simp at hi

theorem nil_I (w : World) : RdI w (.slice none 0 0) [] := ⟨none, 0, rfl, Nat.le_refl _, by simp⟩

set_option maxRecDepth 1000000 in
set_option maxHeartbeats 1000000 in
theorem lives_any (w : World) (hT : Tab w) : Calls Tryd.prog 8 #[] w fun e w' => e = .returned (.bool true) ∧ Below w.heap.size w w' := by
  have HT : Hid (Tab w) := hT
  clear hT
  go_enter Tryd.func8, Tryd.ntmps8
  go_wp2_with fail
  have HA : Hid (RdA (w.alloc (.cells (avs exA).toArray 46)) (.slice (some ⟨w.heap.size, 0, none⟩) 3 3) exA) := lit_A w exA exA_small
  have HB0 : Hid (Below w.heap.size w (w.alloc (.cells (avs exA).toArray 46))) := (Below.refl _ _).alloc (Nat.le_refl _) _
  have hav : (avs exA).toArray = #[.int .i64 2, .int .i64 0, .int .i64 0, .int .i64 1, .int .i64 2, .int .i64 1] := rfl
  rw [hav] at HA HB0
  generalize w.alloc (.cells #[.int .i64 2, .int .i64 0, .int .i64 0, .int .i64 1, .int .i64 2, .int .i64 1] 46) = w0 at *
  generalize Value.slice (some ⟨w.heap.size, 0, none⟩) 3 3 = va at *
  have HT0 : Hid (Tab w0) := HT.out.later HB0.out
  refine Calls.mono (Order_any 3 va exA w0 HA.out HT0.out) ?_
  unfold OrderC
  rw [ex_weave]
  rintro e w1 ⟨hb1, v1, rfl, hI1, _⟩
  have HI1 : Hid (RdI w1 v1 [2, 0, 1]) := hI1
  have HB1 : Hid (Below w0.heap.size w0 w1) := hb1
  clear hb1 hI1
  have HA1 : Hid (RdA w1 va exA) := HA.out.later HB1.out
  have HT1 : Hid (Tab w1) := HT0.out.later HB1.out
  have HC1 : Hid (Below w.heap.size w w1) := HB0.out.trans (HB1.out.mono HB0.out.size)
  go_wp2_with fail
  refine Calls.mono (Reach_any 3 va exA w1 HA1.out HT1.out) ?_
  unfold ReachC
  rw [ex_weave]
  rintro e w2 ⟨hb2, v2, rfl, hI2, _⟩
  rw [ex_reach] at hI2
  have HI2 : Hid (RdL w2 v2 [[2], [0, 2], []]) := hI2
  have HI1' : Hid (RdI w2 v1 [2, 0, 1]) := HI1.out.later hb2
  have HA2 : Hid (RdA w2 va exA) := HA1.out.later hb2
  have HT2 : Hid (Tab w2) := HT1.out.later hb2
  have HC2 : Hid (Below w.heap.size w w2) := HC1.out.trans (hb2.mono HC1.out.size)
  clear hb2 hI2 HI1 HA1 HT1 HC1 HA HT0 HB0 HB1
  go_wp2_with fail
  refine Calls.mono (Levels_any 3 va exA w2 HA2.out HT2.out) ?_
  unfold LevC
  rw [ex_weave]
  rintro e w3 ⟨hb3, v3, rfl, hI3, _⟩
  rw [ex_lev] at hI3
  have HI3 : Hid (RdI w3 v3 [1, 2, 0]) := hI3
  have HI2' : Hid (RdL w3 v2 [[2], [0, 2], []]) := HI2.out.later hb3
  have HI1 : Hid (RdI w3 v1 [2, 0, 1]) := HI1'.out.later hb3
  have HA3 : Hid (RdA w3 va exA) := HA2.out.later hb3
  have HT3 : Hid (Tab w3) := HT2.out.later hb3
  have HC3 : Hid (Below w.heap.size w w3) := HC2.out.trans (hb3.mono HC2.out.size)
  clear hb3 hI3 HI1' HI2 HA2 HT2 HC2
  go_wp2_with fail
  refine Calls.mono (Reduce_any 3 va exA w3 HA3.out HT3.out) ?_
  unfold RedC
  rw [ex_weave]
  rintro e w4 ⟨hb4, v4, rfl, hI4, _⟩
  rw [ex_red] at hI4
  have HI4 : Hid (RdA w4 v4 [(0, 1), (2, 0)]) := RdA.of_own hI4 (by intro p hp; simp at hp; rcases hp with rfl | rfl <;> decide)
  have HI3' : Hid (RdI w4 v3 [1, 2, 0]) := HI3.out.later hb4
  have HI2 : Hid (RdL w4 v2 [[2], [0, 2], []]) := HI2'.out.later hb4
  have HI1' : Hid (RdI w4 v1 [2, 0, 1]) := HI1.out.later hb4
  have HA4 : Hid (RdA w4 va exA) := HA3.out.later hb4
  have HT4 : Hid (Tab w4) := HT3.out.later hb4
  have HC4 : Hid (Below w.heap.size w w4) := HC3.out.trans (hb4.mono HC3.out.size)
  clear hb4 hI4 HI1 HI2' HI3 HA3 HT3 HC3
  go_wp2_with fail
  refine Calls.mono (Ready_any 3 va (.slice none 0 0) exA [] w4 HA4.out (nil_I _) (by simp) (by simp) HT4.out) ?_
  unfold ReadyC
  rw [ex_weave]
  rintro e w5 ⟨hb5, v5, rfl, hI5⟩
  simp only [ex_ready] at hI5
  have HI5 : Hid (RdI w5 v5 [2]) := hI5
  have HI4' : Hid (RdA w5 v4 [(0, 1), (2, 0)]) := HI4.out.later hb5
  have HI3 : Hid (RdI w5 v3 [1, 2, 0]) := HI3'.out.later hb5
  have HI2' : Hid (RdL w5 v2 [[2], [0, 2], []]) := HI2.out.later hb5
  have HI1 : Hid (RdI w5 v1 [2, 0, 1]) := HI1'.out.later hb5
  have HT5 : Hid (Tab w5) := HT4.out.later hb5
  have HC5 : Hid (Below w.heap.size w w5) := HC4.out.trans (hb5.mono HC4.out.size)
  clear hb5 hI5 HI1' HI2 HI3' HI4 HA4 HT4 HC4
  go_wp2_with fail
  have hbA : Below w5.heap.size w5 (w5.alloc (.cells #[.int .i64 0, .int .i64 0] 46)) := (Below.refl _ _).alloc (Nat.le_refl _) _
  refine Calls.mono (Order_any 1 _ [(0, 0)] (w5.alloc (.cells #[.int .i64 0, .int .i64 0] 46)) (lit_A w5 [(0, 0)] (by intro p hp; simp at hp; subst hp; decide)) (HT5.out.later hbA)) ?_
  unfold OrderC
  rw [ex_circle]
  rintro e w6 ⟨hb6', rfl⟩
  have hb6 : Below w5.heap.size w5 w6 := hbA.trans (hb6'.mono hbA.size)
  have HI5' : Hid (RdI w6 v5 [2]) := HI5.out.later hb6
  have HI4 : Hid (RdA w6 v4 [(0, 1), (2, 0)]) := HI4'.out.later hb6
  have HI3' : Hid (RdI w6 v3 [1, 2, 0]) := HI3.out.later hb6
  have HI2 : Hid (RdL w6 v2 [[2], [0, 2], []]) := HI2'.out.later hb6
  have HI1' : Hid (RdI w6 v1 [2, 0, 1]) := HI1.out.later hb6
  have HC6 : Hid (Below w.heap.size w w6) := HC5.out.trans (hb6.mono HC5.out.size)
  clear hbA hb6' hb6 HI1 HI2' HI3 HI4' HI5 HT5 HC5 HT
  go_wp2_with fail
  have hbA : Below w6.heap.size w6 (w6.alloc (.cells #[.int .i64 2, .int .i64 0, .int .i64 1] 3)) := (Below.refl _ _).alloc (Nat.le_refl _) _
  refine Calls.mono (sameI_any [2, 0, 1] [2, 0, 1] v1 _ (w6.alloc (.cells #[.int .i64 2, .int .i64 0, .int .i64 1] 3)) (HI1'.out.later hbA) (lit_I w6 [2, 0, 1]) (by decide) (by decide)) ?_
  rw [decide_eq_true (show ([2, 0, 1] : List Nat) = [2, 0, 1] from rfl)]
  rintro e w7 ⟨rfl, hb7'⟩
  have hb7 : Below w6.heap.size w6 w7 := hbA.trans (hb7'.mono hbA.size)
  have HI5 : Hid (RdI w7 v5 [2]) := HI5'.out.later hb7
  have HI4' : Hid (RdA w7 v4 [(0, 1), (2, 0)]) := HI4.out.later hb7
  have HI3 : Hid (RdI w7 v3 [1, 2, 0]) := HI3'.out.later hb7
  have HI2' : Hid (RdL w7 v2 [[2], [0, 2], []]) := HI2.out.later hb7
  have HC7 : Hid (Below w.heap.size w w7) := HC6.out.trans (hb7.mono HC6.out.size)
  clear hbA hb7' hb7 HI1' HI2 HI3' HI4 HI5' HC6
  go_wp2_with fail
  refine Calls.mono (sameL_any [[2], [0, 2], []] [[2], [0, 2], []] v2 _ (exW w7) (HI2'.out.later (exW_below w7)) (lit_L w7) (by decide) (by decide) (by simp) (by simp)) ?_
  rw [decide_eq_true (show ([[2], [0, 2], []] : List (List Nat)) = [[2], [0, 2], []] from rfl)]
  rintro e w8 ⟨rfl, hb8'⟩
  have hb8 : Below w7.heap.size w7 w8 := (exW_below w7).trans (hb8'.mono (exW_below w7).size)
  have HI5' : Hid (RdI w8 v5 [2]) := HI5.out.later hb8
  have HI4 : Hid (RdA w8 v4 [(0, 1), (2, 0)]) := HI4'.out.later hb8
  have HI3' : Hid (RdI w8 v3 [1, 2, 0]) := HI3.out.later hb8
  have HC8 : Hid (Below w.heap.size w w8) := HC7.out.trans (hb8.mono HC7.out.size)
  clear hb8' hb8 HI2' HI3 HI4' HI5 HC7
  go_wp2_with fail
  have hbA : Below w8.heap.size w8 (w8.alloc (.cells #[.int .i64 1, .int .i64 2, .int .i64 0] 3)) := (Below.refl _ _).alloc (Nat.le_refl _) _
  refine Calls.mono (sameI_any [1, 2, 0] [1, 2, 0] v3 _ (w8.alloc (.cells #[.int .i64 1, .int .i64 2, .int .i64 0] 3)) (HI3'.out.later hbA) (lit_I w8 [1, 2, 0]) (by decide) (by decide)) ?_
  rw [decide_eq_true (show ([1, 2, 0] : List Nat) = [1, 2, 0] from rfl)]
  rintro e w9 ⟨rfl, hb9'⟩
  have hb9 : Below w8.heap.size w8 w9 := hbA.trans (hb9'.mono hbA.size)
  have HI5 : Hid (RdI w9 v5 [2]) := HI5'.out.later hb9
  have HI4' : Hid (RdA w9 v4 [(0, 1), (2, 0)]) := HI4.out.later hb9
  have HC9 : Hid (Below w.heap.size w w9) := HC8.out.trans (hb9.mono HC8.out.size)
  clear hbA hb9' hb9 HI3' HI4 HI5' HC8
  go_wp2_with fail
  have hbA : Below w9.heap.size w9 (w9.alloc (.cells #[.int .i64 0, .int .i64 1, .int .i64 2, .int .i64 0] 46)) := (Below.refl _ _).alloc (Nat.le_refl _) _
  refine Calls.mono (sameA_any [(0, 1), (2, 0)] [(0, 1), (2, 0)] v4 _ (w9.alloc (.cells #[.int .i64 0, .int .i64 1, .int .i64 2, .int .i64 0] 46)) (HI4'.out.later hbA) (lit_A w9 [(0, 1), (2, 0)] (by intro p hp; simp at hp; rcases hp with rfl | rfl <;> decide)) (by decide) (by decide)) ?_
  rw [decide_eq_true (show ([(0, 1), (2, 0)] : List (Int × Int)) = [(0, 1), (2, 0)] from rfl)]
  rintro e w10 ⟨rfl, hb10'⟩
  have hb10 : Below w9.heap.size w9 w10 := hbA.trans (hb10'.mono hbA.size)
  have HI5' : Hid (RdI w10 v5 [2]) := HI5.out.later hb10
  have HC10 : Hid (Below w.heap.size w w10) := HC9.out.trans (hb10.mono HC9.out.size)
  clear hbA hb10' hb10 HI4' HI5 HC9
  go_wp2_with fail
  have hbA : Below w10.heap.size w10 (w10.alloc (.cells #[.int .i64 2] 3)) := (Below.refl _ _).alloc (Nat.le_refl _) _
  refine Calls.mono (sameI_any [2] [2] v5 _ (w10.alloc (.cells #[.int .i64 2] 3)) (HI5'.out.later hbA) (lit_I w10 [2]) (by decide) (by decide)) ?_
  rw [decide_eq_true (show ([2] : List Nat) = [2] from rfl)]
  rintro e w11 ⟨rfl, hb11'⟩
  have hb11 : Below w10.heap.size w10 w11 := hbA.trans (hb11'.mono hbA.size)
  have HC11 : Hid (Below w.heap.size w w11) := HC10.out.trans (hb11.mono HC10.out.size)
  clear hbA hb11' hb11 HI5' HC10
  go_wp2_with fail
  go_ret
  exact ⟨rfl, HC11.out⟩
end Go.Proofs.YtdbohfpkhidfiaaDoorRR
