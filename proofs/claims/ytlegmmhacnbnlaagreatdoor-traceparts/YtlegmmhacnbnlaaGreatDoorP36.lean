/- Texts of the seat, packed: Zp. -/
import Derived.Test.YtlegmmhacnbnlaaGreatDoorP35
/- The program's same: are two items alike? -/
namespace Go.Proofs.YtlegmmhacnbnlaaGreatDoor

open Go.RowKit Go.Shelf Go.Proofs.YtlegmmhacnbnlaaGreatDoor.Sx

set_option linter.unusedSimpArgs false

set_option maxRecDepth 1000000 in
set_option maxHeartbeats 4000000 in
theorem same_any (a b : It) (av bv : Option Addr) (am ac bm bc : Nat) (w : World) (ha : RdZ w (.slice av am ac) a.after) (hb : RdZ w (.slice bv bm bc) b.after) (hal : a.after.length ≤ 1000000) (hbl : b.after.length ≤ 1000000) :
    Calls Tryz.prog 84 #[.agg #[.string ⟨a.name.toArray⟩, .string ⟨a.undo.toArray⟩, .bool a.sub, .bool a.vital, .int .i64 a.alts, .int .i64 a.inn, .int .i64 a.alt, .slice av am ac], .agg #[.string ⟨b.name.toArray⟩, .string ⟨b.undo.toArray⟩, .bool b.sub, .bool b.vital, .int .i64 b.alts, .int .i64 b.inn, .int .i64 b.alt, .slice bv bm bc]] w fun e w' => e = .returned (.bool (decide (a = b))) ∧ Below w.heap.size w w' := by
  obtain ⟨G, HG⟩ : ∃ G, Hid (decide (a = b) = G) := ⟨_, rfl⟩
  rw [HG.out]
  have nA := Dg.row_alloc (Dg.row_new w #[.string ⟨a.name.toArray⟩, .string ⟨a.undo.toArray⟩, .bool a.sub, .bool a.vital, .int .i64 a.alts, .int .i64 a.inn, .int .i64 a.alt, .slice av am ac] 34) (.cells #[.string ⟨b.name.toArray⟩, .string ⟨b.undo.toArray⟩, .bool b.sub, .bool b.vital, .int .i64 b.alts, .int .i64 b.inn, .int .i64 b.alt, .slice bv bm bc] 34)
  have nB := Dg.row_new (w.alloc (.cells #[.string ⟨a.name.toArray⟩, .string ⟨a.undo.toArray⟩, .bool a.sub, .bool a.vital, .int .i64 a.alts, .int .i64 a.inn, .int .i64 a.alt, .slice av am ac] 34)) #[.string ⟨b.name.toArray⟩, .string ⟨b.undo.toArray⟩, .bool b.sub, .bool b.vital, .int .i64 b.alts, .int .i64 b.inn, .int .i64 b.alt, .slice bv bm bc] 34
  rw [World.size_alloc] at nB
  have hB0 : Below w.heap.size w ((w.alloc (.cells #[.string ⟨a.name.toArray⟩, .string ⟨a.undo.toArray⟩, .bool a.sub, .bool a.vital, .int .i64 a.alts, .int .i64 a.inn, .int .i64 a.alt, .slice av am ac] 34)).alloc (.cells #[.string ⟨b.name.toArray⟩, .string ⟨b.undo.toArray⟩, .bool b.sub, .bool b.vital, .int .i64 b.alts, .int .i64 b.inn, .int .i64 b.alt, .slice bv bm bc] 34)) := ((Below.refl _ _).alloc (Nat.le_refl _) _).alloc (by simp) _
  have HRa : Hid (RdZ ((w.alloc (.cells #[.string ⟨a.name.toArray⟩, .string ⟨a.undo.toArray⟩, .bool a.sub, .bool a.vital, .int .i64 a.alts, .int .i64 a.inn, .int .i64 a.alt, .slice av am ac] 34)).alloc (.cells #[.string ⟨b.name.toArray⟩, .string ⟨b.undo.toArray⟩, .bool b.sub, .bool b.vital, .int .i64 b.alts, .int .i64 b.inn, .int .i64 b.alt, .slice bv bm bc] 34)) (.slice av am ac) a.after) := ha.later hB0
  have HRb : Hid (RdZ ((w.alloc (.cells #[.string ⟨a.name.toArray⟩, .string ⟨a.undo.toArray⟩, .bool a.sub, .bool a.vital, .int .i64 a.alts, .int .i64 a.inn, .int .i64 a.alt, .slice av am ac] 34)).alloc (.cells #[.string ⟨b.name.toArray⟩, .string ⟨b.undo.toArray⟩, .bool b.sub, .bool b.vital, .int .i64 b.alts, .int .i64 b.inn, .int .i64 b.alt, .slice bv bm bc] 34)) (.slice bv bm bc) b.after) := hb.later hB0
  have HB0 : Hid _ := hB0
  clear ha hb hB0
  go_enter Tryz.func84, Tryz.ntmps84
  go_wp2_with fail
  generalize (w.alloc (.cells #[.string ⟨a.name.toArray⟩, .string ⟨a.undo.toArray⟩, .bool a.sub, .bool a.vital, .int .i64 a.alts, .int .i64 a.inn, .int .i64 a.alt, .slice av am ac] 34)).alloc (.cells #[.string ⟨b.name.toArray⟩, .string ⟨b.undo.toArray⟩, .bool b.sub, .bool b.vital, .int .i64 b.alts, .int .i64 b.inn, .int .i64 b.alt, .slice bv bm bc] 34) = w1 at *
  have hS : Below w1.heap.size w1 { w1 with drawn := w1.drawn + 1 } := Dg.bl_drawn1 (Below.refl _ _)
  have x0 := (Dg.cell_row nA 0).trans rfl
  have y0 := (Dg.cell_row nB 0).trans rfl
  have x1 := (Dg.cell_row nA 1).trans rfl
  have y1 := (Dg.cell_row nB 1).trans rfl
  have x2 := (Dg.cell_row nA 2).trans rfl
  have y2 := (Dg.cell_row nB 2).trans rfl
  have x3 := (Dg.cell_row nA 3).trans rfl
  have y3 := (Dg.cell_row nB 3).trans rfl
  have x4 := (Dg.cell_row nA 4).trans rfl
  have y4 := (Dg.cell_row nB 4).trans rfl
  have x5 := (Dg.cell_row nA 5).trans rfl
  have y5 := (Dg.cell_row nB 5).trans rfl
  have x6 := (Dg.cell_row nA 6).trans rfl
  have y6 := (Dg.cell_row nB 6).trans rfl
  have x7 := (Dg.cell_row nA 7).trans rfl
  have y7 := (Dg.cell_row nB 7).trans rfl
  clear nA nB
  refine wp_region_held (S := fun w' => Below w1.heap.size w1 w') (by kernel_rfl) ?_
  simp only [List.size_toArray, List.length_cons, List.length_nil, Nat.reduceAdd, Array.replicate_succ, Array.replicate_zero, List.push_toArray, List.nil_append, List.cons_append]
  refine tG 0 5 (.pointer (some ⟨w.heap.size, 0, none⟩)) 47 rfl hS ?_
  refine tV 1 6 (.string ⟨a.name.toArray⟩) 46 rfl hS ?_ (fun w3 hw3 => by have z0 := Dg.cell_later hw3 x0; go_simp)
  refine tG 2 7 (.pointer (some ⟨w.heap.size + 1, 0, none⟩)) 45 rfl hS ?_
  refine tV 3 8 (.string ⟨b.name.toArray⟩) 44 rfl hS ?_ (fun w3 hw3 => by have z0 := Dg.cell_later hw3 y0; go_simp)
  by_cases h0 : a.name = b.name
  rotate_left
  · have HQ : Hid (G = false) := by show _ = _; rw [← HG.out]; exact decide_eq_false fun e => h0 (by rw [e])
    refine tG 4 9 (.bool false) 43 rfl hS ?_
    refine tK 5 10 (.bool false) 42 rfl hS ?_
    refine tU 6 11 41 rfl hS ?_
    refine tU 7 12 40 rfl hS ?_
    refine tU 8 13 39 rfl hS ?_
    refine tU 9 14 38 rfl hS ?_
    refine tU 10 15 37 rfl hS ?_
    refine tK 11 16 (.bool false) 36 rfl hS ?_
    refine tK 12 17 (.bool false) 35 rfl hS ?_
    refine tU 13 18 34 rfl hS ?_
    refine tU 14 19 33 rfl hS ?_
    refine tU 15 20 32 rfl hS ?_
    refine tU 16 21 31 rfl hS ?_
    refine tU 17 22 30 rfl hS ?_
    refine tK 18 23 (.bool false) 29 rfl hS ?_
    refine tK 19 24 (.bool false) 28 rfl hS ?_
    refine tU 20 25 27 rfl hS ?_
    refine tU 21 26 26 rfl hS ?_
    refine tU 22 27 25 rfl hS ?_
    refine tU 23 28 24 rfl hS ?_
    refine tU 24 29 23 rfl hS ?_
    refine tK 25 30 (.bool false) 22 rfl hS ?_
    refine tK 26 31 (.bool false) 21 rfl hS ?_
    refine tU 27 32 20 rfl hS ?_
    refine tU 28 33 19 rfl hS ?_
    refine tU 29 34 18 rfl hS ?_
    refine tU 30 35 17 rfl hS ?_
    refine tU 31 36 16 rfl hS ?_
    refine tK 32 37 (.bool false) 15 rfl hS ?_
    refine tK 33 38 (.bool false) 14 rfl hS ?_
    refine tU 34 39 13 rfl hS ?_
    refine tU 35 40 12 rfl hS ?_
    refine tU 36 41 11 rfl hS ?_
    refine tU 37 42 10 rfl hS ?_
    refine tU 38 43 9 rfl hS ?_
    refine tK 39 44 (.bool false) 8 rfl hS ?_
    refine tK 40 45 (.bool false) 7 rfl hS ?_
    refine tU 41 46 6 rfl hS ?_
    refine tU 42 47 5 rfl hS ?_
    refine tU 43 48 4 rfl hS ?_
    refine tU 44 49 3 rfl hS ?_
    refine tU 45 50 2 rfl hS ?_
    refine tK 46 51 (.bool false) 1 rfl hS ?_
    refine tK 47 4 (.bool false) 0 rfl hS ?_
    refine wpAnyH_done (by kernel_rfl) ?_ 0
    go_wp2_with fail
    go_ret
    exact ⟨by rw [HQ.out]; rfl, HB0.out.trans (hS.mono HB0.out.size)⟩
  refine tG 4 9 (.bool true) 43 rfl hS ?_
  refine tK 5 10 (.bool true) 42 rfl hS ?_
  refine tG 6 11 (.pointer (some ⟨w.heap.size, 1, none⟩)) 41 rfl hS ?_
  refine tV 7 12 (.string ⟨a.undo.toArray⟩) 40 rfl hS ?_ (fun w3 hw3 => by have z0 := Dg.cell_later hw3 x1; go_simp)
  refine tG 8 13 (.pointer (some ⟨w.heap.size + 1, 1, none⟩)) 39 rfl hS ?_
  refine tV 9 14 (.string ⟨b.undo.toArray⟩) 38 rfl hS ?_ (fun w3 hw3 => by have z0 := Dg.cell_later hw3 y1; go_simp)
  by_cases h1 : a.undo = b.undo
  rotate_left
  · have HQ : Hid (G = false) := by show _ = _; rw [← HG.out]; exact decide_eq_false fun e => h1 (by rw [e])
    refine tG 10 15 (.bool false) 37 rfl hS ?_
    refine tK 11 16 (.bool false) 36 rfl hS ?_
    refine tK 12 17 (.bool false) 35 rfl hS ?_
    refine tU 13 18 34 rfl hS ?_
    refine tU 14 19 33 rfl hS ?_
    refine tU 15 20 32 rfl hS ?_
    refine tU 16 21 31 rfl hS ?_
    refine tU 17 22 30 rfl hS ?_
    refine tK 18 23 (.bool false) 29 rfl hS ?_
    refine tK 19 24 (.bool false) 28 rfl hS ?_
    refine tU 20 25 27 rfl hS ?_
    refine tU 21 26 26 rfl hS ?_
    refine tU 22 27 25 rfl hS ?_
    refine tU 23 28 24 rfl hS ?_
    refine tU 24 29 23 rfl hS ?_
    refine tK 25 30 (.bool false) 22 rfl hS ?_
    refine tK 26 31 (.bool false) 21 rfl hS ?_
    refine tU 27 32 20 rfl hS ?_
    refine tU 28 33 19 rfl hS ?_
    refine tU 29 34 18 rfl hS ?_
    refine tU 30 35 17 rfl hS ?_
    refine tU 31 36 16 rfl hS ?_
    refine tK 32 37 (.bool false) 15 rfl hS ?_
    refine tK 33 38 (.bool false) 14 rfl hS ?_
    refine tU 34 39 13 rfl hS ?_
    refine tU 35 40 12 rfl hS ?_
    refine tU 36 41 11 rfl hS ?_
    refine tU 37 42 10 rfl hS ?_
    refine tU 38 43 9 rfl hS ?_
    refine tK 39 44 (.bool false) 8 rfl hS ?_
    refine tK 40 45 (.bool false) 7 rfl hS ?_
    refine tU 41 46 6 rfl hS ?_
    refine tU 42 47 5 rfl hS ?_
    refine tU 43 48 4 rfl hS ?_
    refine tU 44 49 3 rfl hS ?_
    refine tU 45 50 2 rfl hS ?_
    refine tK 46 51 (.bool false) 1 rfl hS ?_
    refine tK 47 4 (.bool false) 0 rfl hS ?_
    refine wpAnyH_done (by kernel_rfl) ?_ 0
    go_wp2_with fail
    go_ret
    exact ⟨by rw [HQ.out]; rfl, HB0.out.trans (hS.mono HB0.out.size)⟩
  refine tG 10 15 (.bool true) 37 rfl hS ?_
  refine tK 11 16 (.bool true) 36 rfl hS ?_
  refine tK 12 17 (.bool true) 35 rfl hS ?_
  refine tG 13 18 (.pointer (some ⟨w.heap.size, 2, none⟩)) 34 rfl hS ?_
  refine tV 14 19 (.bool a.sub) 33 rfl hS ?_ (fun w3 hw3 => by have z0 := Dg.cell_later hw3 x2; go_simp)
  refine tG 15 20 (.pointer (some ⟨w.heap.size + 1, 2, none⟩)) 32 rfl hS ?_
  refine tV 16 21 (.bool b.sub) 31 rfl hS ?_ (fun w3 hw3 => by have z0 := Dg.cell_later hw3 y2; go_simp)
  by_cases h2 : a.sub = b.sub
  rotate_left
  · have HQ : Hid (G = false) := by show _ = _; rw [← HG.out]; exact decide_eq_false fun e => h2 (by rw [e])
    refine tG 17 22 (.bool false) 30 rfl hS ?_
    refine tK 18 23 (.bool false) 29 rfl hS ?_
    refine tK 19 24 (.bool false) 28 rfl hS ?_
    refine tU 20 25 27 rfl hS ?_
    refine tU 21 26 26 rfl hS ?_
    refine tU 22 27 25 rfl hS ?_
    refine tU 23 28 24 rfl hS ?_
    refine tU 24 29 23 rfl hS ?_
    refine tK 25 30 (.bool false) 22 rfl hS ?_
    refine tK 26 31 (.bool false) 21 rfl hS ?_
    refine tU 27 32 20 rfl hS ?_
    refine tU 28 33 19 rfl hS ?_
    refine tU 29 34 18 rfl hS ?_
    refine tU 30 35 17 rfl hS ?_
    refine tU 31 36 16 rfl hS ?_
    refine tK 32 37 (.bool false) 15 rfl hS ?_
    refine tK 33 38 (.bool false) 14 rfl hS ?_
    refine tU 34 39 13 rfl hS ?_
    refine tU 35 40 12 rfl hS ?_
    refine tU 36 41 11 rfl hS ?_
    refine tU 37 42 10 rfl hS ?_
    refine tU 38 43 9 rfl hS ?_
    refine tK 39 44 (.bool false) 8 rfl hS ?_
    refine tK 40 45 (.bool false) 7 rfl hS ?_
    refine tU 41 46 6 rfl hS ?_
    refine tU 42 47 5 rfl hS ?_
    refine tU 43 48 4 rfl hS ?_
    refine tU 44 49 3 rfl hS ?_
    refine tU 45 50 2 rfl hS ?_
    refine tK 46 51 (.bool false) 1 rfl hS ?_
    refine tK 47 4 (.bool false) 0 rfl hS ?_
    refine wpAnyH_done (by kernel_rfl) ?_ 0
    go_wp2_with fail
    go_ret
    exact ⟨by rw [HQ.out]; rfl, HB0.out.trans (hS.mono HB0.out.size)⟩
  refine tG 17 22 (.bool true) 30 rfl hS ?_
  refine tK 18 23 (.bool true) 29 rfl hS ?_
  refine tK 19 24 (.bool true) 28 rfl hS ?_
  refine tG 20 25 (.pointer (some ⟨w.heap.size, 3, none⟩)) 27 rfl hS ?_
  refine tV 21 26 (.bool a.vital) 26 rfl hS ?_ (fun w3 hw3 => by have z0 := Dg.cell_later hw3 x3; go_simp)
  refine tG 22 27 (.pointer (some ⟨w.heap.size + 1, 3, none⟩)) 25 rfl hS ?_
  refine tV 23 28 (.bool b.vital) 24 rfl hS ?_ (fun w3 hw3 => by have z0 := Dg.cell_later hw3 y3; go_simp)
  by_cases h3 : a.vital = b.vital
  rotate_left
  · have HQ : Hid (G = false) := by show _ = _; rw [← HG.out]; exact decide_eq_false fun e => h3 (by rw [e])
    refine tG 24 29 (.bool false) 23 rfl hS ?_
    refine tK 25 30 (.bool false) 22 rfl hS ?_
    refine tK 26 31 (.bool false) 21 rfl hS ?_
    refine tU 27 32 20 rfl hS ?_
    refine tU 28 33 19 rfl hS ?_
    refine tU 29 34 18 rfl hS ?_
    refine tU 30 35 17 rfl hS ?_
    refine tU 31 36 16 rfl hS ?_
    refine tK 32 37 (.bool false) 15 rfl hS ?_
    refine tK 33 38 (.bool false) 14 rfl hS ?_
    refine tU 34 39 13 rfl hS ?_
    refine tU 35 40 12 rfl hS ?_
    refine tU 36 41 11 rfl hS ?_
    refine tU 37 42 10 rfl hS ?_
    refine tU 38 43 9 rfl hS ?_
    refine tK 39 44 (.bool false) 8 rfl hS ?_
    refine tK 40 45 (.bool false) 7 rfl hS ?_
    refine tU 41 46 6 rfl hS ?_
    refine tU 42 47 5 rfl hS ?_
    refine tU 43 48 4 rfl hS ?_
    refine tU 44 49 3 rfl hS ?_
    refine tU 45 50 2 rfl hS ?_
    refine tK 46 51 (.bool false) 1 rfl hS ?_
    refine tK 47 4 (.bool false) 0 rfl hS ?_
    refine wpAnyH_done (by kernel_rfl) ?_ 0
    go_wp2_with fail
    go_ret
    exact ⟨by rw [HQ.out]; rfl, HB0.out.trans (hS.mono HB0.out.size)⟩
  refine tG 24 29 (.bool true) 23 rfl hS ?_
  refine tK 25 30 (.bool true) 22 rfl hS ?_
  refine tK 26 31 (.bool true) 21 rfl hS ?_
  refine tG 27 32 (.pointer (some ⟨w.heap.size, 4, none⟩)) 20 rfl hS ?_
  refine tV 28 33 (.int .i64 a.alts) 19 rfl hS ?_ (fun w3 hw3 => by have z0 := Dg.cell_later hw3 x4; go_simp)
  refine tG 29 34 (.pointer (some ⟨w.heap.size + 1, 4, none⟩)) 18 rfl hS ?_
  refine tV 30 35 (.int .i64 b.alts) 17 rfl hS ?_ (fun w3 hw3 => by have z0 := Dg.cell_later hw3 y4; go_simp)
  by_cases h4 : a.alts = b.alts
  rotate_left
  · have HQ : Hid (G = false) := by show _ = _; rw [← HG.out]; exact decide_eq_false fun e => h4 (by rw [e])
    refine tG 31 36 (.bool false) 16 rfl hS ?_
    refine tK 32 37 (.bool false) 15 rfl hS ?_
    refine tK 33 38 (.bool false) 14 rfl hS ?_
    refine tU 34 39 13 rfl hS ?_
    refine tU 35 40 12 rfl hS ?_
    refine tU 36 41 11 rfl hS ?_
    refine tU 37 42 10 rfl hS ?_
    refine tU 38 43 9 rfl hS ?_
    refine tK 39 44 (.bool false) 8 rfl hS ?_
    refine tK 40 45 (.bool false) 7 rfl hS ?_
    refine tU 41 46 6 rfl hS ?_
    refine tU 42 47 5 rfl hS ?_
    refine tU 43 48 4 rfl hS ?_
    refine tU 44 49 3 rfl hS ?_
    refine tU 45 50 2 rfl hS ?_
    refine tK 46 51 (.bool false) 1 rfl hS ?_
    refine tK 47 4 (.bool false) 0 rfl hS ?_
    refine wpAnyH_done (by kernel_rfl) ?_ 0
    go_wp2_with fail
    go_ret
    exact ⟨by rw [HQ.out]; rfl, HB0.out.trans (hS.mono HB0.out.size)⟩
  refine tG 31 36 (.bool true) 16 rfl hS ?_
  refine tK 32 37 (.bool true) 15 rfl hS ?_
  refine tK 33 38 (.bool true) 14 rfl hS ?_
  refine tV 34 39 (.agg #[.string ⟨a.name.toArray⟩, .string ⟨a.undo.toArray⟩, .bool a.sub, .bool a.vital, .int .i64 a.alts, .int .i64 a.inn, .int .i64 a.alt, .slice av am ac]) 13 rfl hS ?_ (fun w3 hw3 => by have z0 := Dg.cell_later hw3 x0; have z1 := Dg.cell_later hw3 x1; have z2 := Dg.cell_later hw3 x2; have z3 := Dg.cell_later hw3 x3; have z4 := Dg.cell_later hw3 x4; have z5 := Dg.cell_later hw3 x5; have z6 := Dg.cell_later hw3 x6; have z7 := Dg.cell_later hw3 x7; go_simp)
  refine tV 36 41 (.agg #[.string ⟨b.name.toArray⟩, .string ⟨b.undo.toArray⟩, .bool b.sub, .bool b.vital, .int .i64 b.alts, .int .i64 b.inn, .int .i64 b.alt, .slice bv bm bc]) 12 rfl hS ?_ (fun w3 hw3 => by have z0 := Dg.cell_later hw3 y0; have z1 := Dg.cell_later hw3 y1; have z2 := Dg.cell_later hw3 y2; have z3 := Dg.cell_later hw3 y3; have z4 := Dg.cell_later hw3 y4; have z5 := Dg.cell_later hw3 y5; have z6 := Dg.cell_later hw3 y6; have z7 := Dg.cell_later hw3 y7; go_simp)
  refine wpAnyH_all (fuel := 11) (rs := [35]) (by kernel_rfl) (by decide) ?_
  refine List.forall_mem_singleton.2 ?_
  refine wpOp_calls (i := 35) (d := 40) rfl rfl (by kernel_rfl) (f := 29) (args := #[.agg #[.string ⟨a.name.toArray⟩, .string ⟨a.undo.toArray⟩, .bool a.sub, .bool a.vital, .int .i64 a.alts, .int .i64 a.inn, .int .i64 a.alt, .slice av am ac]]) (by kernel_rfl) _ (spotOf_any a av am ac _) ?_ (fun _ _ h => by cases h.1) (fun _ h => by cases h.1)
  rintro v35 w35 ⟨h9, hb9⟩
  cases h9
  have hS35 : Below w1.heap.size w1 w35 := hS.trans (hb9.mono hS.size)
  clear hb9
  refine ⟨hS35, ?_⟩
  simp only [List.setIfInBounds_toArray, List.set_cons_succ, List.set_cons_zero]
  refine wpAnyH_all (fuel := 10) (rs := [37]) (by kernel_rfl) (by decide) ?_
  refine List.forall_mem_singleton.2 ?_
  refine wpOp_calls (i := 37) (d := 42) rfl rfl (by kernel_rfl) (f := 29) (args := #[.agg #[.string ⟨b.name.toArray⟩, .string ⟨b.undo.toArray⟩, .bool b.sub, .bool b.vital, .int .i64 b.alts, .int .i64 b.inn, .int .i64 b.alt, .slice bv bm bc]]) (by kernel_rfl) _ (spotOf_any b bv bm bc _) ?_ (fun _ _ h => by cases h.1) (fun _ h => by cases h.1)
  rintro v37 w37 ⟨h9, hb9⟩
  cases h9
  have hS37 : Below w1.heap.size w1 w37 := hS35.trans (hb9.mono hS35.size)
  clear hb9
  refine ⟨hS37, ?_⟩
  simp only [List.setIfInBounds_toArray, List.set_cons_succ, List.set_cons_zero]
  by_cases h5 : a.inn = b.inn ∧ a.alt = b.alt
  rotate_left
  · have HQ : Hid (G = false) := by show _ = _; rw [← HG.out]; exact decide_eq_false fun e => h5 (by rw [e]; exact ⟨rfl, rfl⟩)
    refine tV 38 43 (.bool false) 9 rfl hS37 ?_ (fun _ _ => by go_simp; exact fun g1 g2 => h5 ⟨g1, g2⟩)
    refine tK 39 44 (.bool false) 8 rfl hS37 ?_
    refine tK 40 45 (.bool false) 7 rfl hS37 ?_
    refine tU 41 46 6 rfl hS37 ?_
    refine tU 42 47 5 rfl hS37 ?_
    refine tU 43 48 4 rfl hS37 ?_
    refine tU 44 49 3 rfl hS37 ?_
    refine tU 45 50 2 rfl hS37 ?_
    refine tK 46 51 (.bool false) 1 rfl hS37 ?_
    refine tK 47 4 (.bool false) 0 rfl hS37 ?_
    refine wpAnyH_done (by kernel_rfl) ?_ 0
    go_wp2_with fail
    go_ret
    exact ⟨by rw [HQ.out]; rfl, HB0.out.trans (hS37.mono HB0.out.size)⟩
  have h5a := h5.1
  have h5b := h5.2
  refine tG 38 43 (.bool true) 9 rfl hS37 ?_
  refine tK 39 44 (.bool true) 8 rfl hS37 ?_
  refine tK 40 45 (.bool true) 7 rfl hS37 ?_
  refine tG 41 46 (.pointer (some ⟨w.heap.size, 7, none⟩)) 6 rfl hS37 ?_
  refine tV 42 47 (.slice av am ac) 5 rfl hS37 ?_ (fun w3 hw3 => by have z0 := Dg.cell_later hw3 x7; go_simp)
  refine tG 43 48 (.pointer (some ⟨w.heap.size + 1, 7, none⟩)) 4 rfl hS37 ?_
  refine tV 44 49 (.slice bv bm bc) 3 rfl hS37 ?_ (fun w3 hw3 => by have z0 := Dg.cell_later hw3 y7; go_simp)
  refine wpAnyH_all (fuel := 2) (rs := [45]) (by kernel_rfl) (by decide) ?_
  refine List.forall_mem_singleton.2 ?_
  refine wpOp_calls (i := 45) (d := 50) rfl rfl (by kernel_rfl) (f := 91) (args := #[.slice av am ac, .slice bv bm bc]) (by kernel_rfl) _ (Equal_any a.after b.after _ _ _ (HRa.out.later hS37) (HRb.out.later hS37) hal hbl) ?_ (fun _ _ h => by cases h.1) (fun _ h => by cases h.1)
  rintro v45 w45 ⟨h9, hb9⟩
  cases h9
  have hS45 : Below w1.heap.size w1 w45 := hS37.trans (hb9.mono hS37.size)
  clear hb9
  refine ⟨hS45, ?_⟩
  simp only [List.setIfInBounds_toArray, List.set_cons_succ, List.set_cons_zero]
  have HQ : Hid (G = decide (a.after = b.after)) := by
    show _ = _
    rw [← HG.out]
    obtain ⟨a0, a1, a2, a3, a4, a5, a6, a7⟩ := a
    obtain ⟨b0, b1, b2, b3, b4, b5, b6, b7⟩ := b
    simp only at h0 h1 h2 h3 h4 h5 h5a h5b
    subst h0 h1 h2 h3 h4 h5a h5b
    simp
  obtain ⟨qq, hqq⟩ : ∃ qq, decide (a.after = b.after) = qq := ⟨_, rfl⟩
  rw [hqq] at HQ ⊢
  refine tK 46 51 (.bool qq) 1 rfl hS45 ?_
  refine tK 47 4 (.bool qq) 0 rfl hS45 ?_
  refine wpAnyH_done (by kernel_rfl) ?_ 0
  go_wp2_with fail
  go_ret
  exact ⟨by rw [HQ.out]; rfl, HB0.out.trans (hS45.mono HB0.out.size)⟩

end Go.Proofs.YtlegmmhacnbnlaaGreatDoor

