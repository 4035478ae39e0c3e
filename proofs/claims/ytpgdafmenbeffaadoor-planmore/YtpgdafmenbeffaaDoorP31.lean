/- Texts of the seat, packed: Yv. -/
import Derived.Test.YtpgdafmenbeffaaDoorP30
import Derived.Test.YtpgdafmenbeffaaDoorP07
import Derived.Deep.RegionHeldLaw
/- The document's Same of plans, of one plan twice. -/
namespace Go.Proofs.YtpgdafmenbeffaaDoor
open Go.RowKit Go.Shelf Go.Proofs.YtpgdafmenbeffaaDoor.Sx

set_option maxRecDepth 1000000 in
set_option maxHeartbeats 4000000 in
theorem planSame_any (its : List It) (v u : Value) (w : World) (h1 : RdIt w v its) (h2 : RdIt w u its) (hn : its.length ≤ 100000) (haf : ∀ x ∈ its, x.after.length ≤ 100000) :
    Calls Tryd.prog 7 #[.agg #[v], .agg #[u]] w fun e w' => e = .returned (.bool true) ∧ Below w.heap.size w w' := by
  obtain ⟨a1, c1, rfl, hc1, hr1⟩ := h1
  obtain ⟨a2, c2, rfl, hc2, hr2⟩ := h2
  have HR1 : Hid _ := hr1
  have HR2 : Hid _ := hr2
  have HAF : Hid _ := haf
  obtain ⟨n, HN⟩ : ∃ n, Hid (its.length = n) := ⟨_, rfl⟩
  rw [HN.out] at hc1 hc2 hn ⊢
  clear hr1 hr2 haf
  have hb1 : Below w.heap.size w ((w.alloc (.cells #[.slice a1 n c1] 29)).alloc (.cells #[.slice a2 n c2] 29)) := ((Below.refl _ w).alloc (Nat.le_refl _) _).alloc (by simp) _
  have r1 := Dg.row_alloc (Dg.row_new w #[.slice a1 n c1] 29) (.cells #[.slice a2 n c2] 29)
  have r2 := Dg.row_new (w.alloc (.cells #[.slice a1 n c1] 29)) #[.slice a2 n c2] 29
  rw [World.size_alloc] at r2
  have hg1 := (Dg.cell_row r1 0).trans rfl
  have hg2 := (Dg.cell_row r2 0).trans rfl
  go_enter Tryd.func7, Tryd.ntmps7
  go_wp2_with fail
  generalize (w.alloc (.cells #[.slice a1 n c1] 29)).alloc (.cells #[.slice a2 n c2] 29) = w0 at *
  have HB0 : Hid _ := hb1
  clear hb1 r1 r2
  go_loopw [5] (fun iv wr => ∃ (i : Nat), i ≤ n ∧ iv = .int .i64 i ∧ Hid (Below w0.heap.size w0 wr)) (fun iv _ => n - (intOf iv).toNat)
  case atStart => exact ⟨0, Nat.zero_le _, rfl, Below.refl _ _⟩
  case round =>
    obtain ⟨i, hi, rfl, HB⟩ := hrel
    rename World => w3
    have g1 := Dg.cell_later HB.out hg1
    have g2 := Dg.cell_later HB.out hg2
    by_cases hlt : i < n
    rotate_left
    · have hie : i = n := by omega
      subst hie
      go_wp2_with fail
      go_ret
      exact ⟨rfl, HB0.out.trans (HB.out.mono HB0.out.size)⟩
    obtain ⟨y, hy⟩ : ∃ y, its[i]? = some y := ⟨_, List.getElem?_eq_getElem (by rw [HN.out]; exact hlt)⟩
    obtain ⟨b3, off3, z1, zm1, cz1, rfl, k0, k1, k2, k3, k4, k5, k6, k7, hz1⟩ := HR1.out i y hy
    obtain ⟨b4, off4, z2, zm2, cz2, rfl, l0, l1, l2, l3, l4, l5, l6, l7, hz2⟩ := HR2.out i y hy
    have hBT : Below w.heap.size w w3 := HB0.out.trans (HB.out.mono HB0.out.size)
    obtain ⟨_, _, hze, hzc1, hzr1⟩ := hz1
    cases hze
    obtain ⟨_, _, hze, hzc2, hzr2⟩ := hz2
    cases hze
    have HZ1 : Hid _ := hzr1
    have HZ2 : Hid _ := hzr2
    have hm := HAF.out y (List.mem_of_getElem? hy)
    obtain ⟨m, HM⟩ : ∃ m, Hid (y.after.length = m) := ⟨_, rfl⟩
    rw [HM.out] at k7 l7 hzc1 hzc2 hm
    have j0 := Dg.cell_later hBT k0
    have i0 := Dg.cell_later hBT l0
    have j1 := Dg.cell_later hBT k1
    have i1 := Dg.cell_later hBT l1
    have j2 := Dg.cell_later hBT k2
    have i2 := Dg.cell_later hBT l2
    have j3 := Dg.cell_later hBT k3
    have i3 := Dg.cell_later hBT l3
    have j4 := Dg.cell_later hBT k4
    have i4 := Dg.cell_later hBT l4
    have j5 := Dg.cell_later hBT k5
    have i5 := Dg.cell_later hBT l5
    have j6 := Dg.cell_later hBT k6
    have i6 := Dg.cell_later hBT l6
    have j7 := Dg.cell_later hBT k7
    have i7 := Dg.cell_later hBT l7
    have hii : (i : Int) < (n : Int) := by omega
    have t1 : w.heap.size < w3.heap.size := by have := lt_of_cell? g1; simpa using this
    have t2 : w.heap.size + 1 < w3.heap.size := by have := lt_of_cell? g2; simpa using this
    have t3 : b3 < w3.heap.size := by have := lt_of_cell? j0; simpa using this
    have t4 : b4 < w3.heap.size := by have := lt_of_cell? i0; simpa using this
    have n1 : w.heap.size ≠ w3.heap.size := by have := lt_of_cell? g1; simp at this; omega
    have n2 : w.heap.size + 1 ≠ w3.heap.size := by have := lt_of_cell? g2; simp at this; omega
    have n3 : b3 ≠ w3.heap.size := by have := lt_of_cell? j0; simp at this; omega
    have n4 : b4 ≠ w3.heap.size := by have := lt_of_cell? i0; simp at this; omega
    have HBT : Hid _ := hBT
    clear k0 k1 k2 k3 k4 k5 k6 k7 l0 l1 l2 l3 l4 l5 l6 l7 hzr1 hzr2 hBT
    have HK : Hid (∀ w1 w2 : World, (w1.cell? ⟨w.heap.size, 0, none⟩ = some (.slice (some ⟨b3, off3, none⟩) n c1) ∧ w1.cell? ⟨w.heap.size + 1, 0, none⟩ = some (.slice (some ⟨b4, off4, none⟩) n c2) ∧ w1.cell? ⟨b3, off3 + i * 8, none⟩ = some (.string ⟨y.name.toArray⟩) ∧ w1.cell? ⟨b3, off3 + i * 8 + 1, none⟩ = some (.string ⟨y.undo.toArray⟩) ∧ w1.cell? ⟨b3, off3 + i * 8 + 2, none⟩ = some (.bool y.sub) ∧ w1.cell? ⟨b3, off3 + i * 8 + 3, none⟩ = some (.bool y.vital) ∧ w1.cell? ⟨b3, off3 + i * 8 + 4, none⟩ = some (.int .i64 y.alts) ∧ w1.cell? ⟨b3, off3 + i * 8 + 5, none⟩ = some (.int .i64 y.inn) ∧ w1.cell? ⟨b3, off3 + i * 8 + 6, none⟩ = some (.int .i64 y.alt) ∧ w1.cell? ⟨b3, off3 + i * 8 + 7, none⟩ = some (.slice z1 m cz1) ∧ w1.cell? ⟨b4, off4 + i * 8, none⟩ = some (.string ⟨y.name.toArray⟩) ∧ w1.cell? ⟨b4, off4 + i * 8 + 1, none⟩ = some (.string ⟨y.undo.toArray⟩) ∧ w1.cell? ⟨b4, off4 + i * 8 + 2, none⟩ = some (.bool y.sub) ∧ w1.cell? ⟨b4, off4 + i * 8 + 3, none⟩ = some (.bool y.vital) ∧ w1.cell? ⟨b4, off4 + i * 8 + 4, none⟩ = some (.int .i64 y.alts) ∧ w1.cell? ⟨b4, off4 + i * 8 + 5, none⟩ = some (.int .i64 y.inn) ∧ w1.cell? ⟨b4, off4 + i * 8 + 6, none⟩ = some (.int .i64 y.alt) ∧ w1.cell? ⟨b4, off4 + i * 8 + 7, none⟩ = some (.slice z2 m cz2)) → Below w1.heap.size w1 w2 → (w2.cell? ⟨w.heap.size, 0, none⟩ = some (.slice (some ⟨b3, off3, none⟩) n c1) ∧ w2.cell? ⟨w.heap.size + 1, 0, none⟩ = some (.slice (some ⟨b4, off4, none⟩) n c2) ∧ w2.cell? ⟨b3, off3 + i * 8, none⟩ = some (.string ⟨y.name.toArray⟩) ∧ w2.cell? ⟨b3, off3 + i * 8 + 1, none⟩ = some (.string ⟨y.undo.toArray⟩) ∧ w2.cell? ⟨b3, off3 + i * 8 + 2, none⟩ = some (.bool y.sub) ∧ w2.cell? ⟨b3, off3 + i * 8 + 3, none⟩ = some (.bool y.vital) ∧ w2.cell? ⟨b3, off3 + i * 8 + 4, none⟩ = some (.int .i64 y.alts) ∧ w2.cell? ⟨b3, off3 + i * 8 + 5, none⟩ = some (.int .i64 y.inn) ∧ w2.cell? ⟨b3, off3 + i * 8 + 6, none⟩ = some (.int .i64 y.alt) ∧ w2.cell? ⟨b3, off3 + i * 8 + 7, none⟩ = some (.slice z1 m cz1) ∧ w2.cell? ⟨b4, off4 + i * 8, none⟩ = some (.string ⟨y.name.toArray⟩) ∧ w2.cell? ⟨b4, off4 + i * 8 + 1, none⟩ = some (.string ⟨y.undo.toArray⟩) ∧ w2.cell? ⟨b4, off4 + i * 8 + 2, none⟩ = some (.bool y.sub) ∧ w2.cell? ⟨b4, off4 + i * 8 + 3, none⟩ = some (.bool y.vital) ∧ w2.cell? ⟨b4, off4 + i * 8 + 4, none⟩ = some (.int .i64 y.alts) ∧ w2.cell? ⟨b4, off4 + i * 8 + 5, none⟩ = some (.int .i64 y.inn) ∧ w2.cell? ⟨b4, off4 + i * 8 + 6, none⟩ = some (.int .i64 y.alt) ∧ w2.cell? ⟨b4, off4 + i * 8 + 7, none⟩ = some (.slice z2 m cz2))) := fun w1 w2 h hb => by
      obtain ⟨a0, a1, a2, a3, a4, a5, a6, a7, a8, a9, a10, a11, a12, a13, a14, a15, a16, a17⟩ := h
      exact ⟨Dg.cell_later hb a0, Dg.cell_later hb a1, Dg.cell_later hb a2, Dg.cell_later hb a3, Dg.cell_later hb a4, Dg.cell_later hb a5, Dg.cell_later hb a6, Dg.cell_later hb a7, Dg.cell_later hb a8, Dg.cell_later hb a9, Dg.cell_later hb a10, Dg.cell_later hb a11, Dg.cell_later hb a12, Dg.cell_later hb a13, Dg.cell_later hb a14, Dg.cell_later hb a15, Dg.cell_later hb a16, Dg.cell_later hb a17⟩
    have HS0 : Hid (w3.drew.cell? ⟨w.heap.size, 0, none⟩ = some (.slice (some ⟨b3, off3, none⟩) n c1) ∧ w3.drew.cell? ⟨w.heap.size + 1, 0, none⟩ = some (.slice (some ⟨b4, off4, none⟩) n c2) ∧ w3.drew.cell? ⟨b3, off3 + i * 8, none⟩ = some (.string ⟨y.name.toArray⟩) ∧ w3.drew.cell? ⟨b3, off3 + i * 8 + 1, none⟩ = some (.string ⟨y.undo.toArray⟩) ∧ w3.drew.cell? ⟨b3, off3 + i * 8 + 2, none⟩ = some (.bool y.sub) ∧ w3.drew.cell? ⟨b3, off3 + i * 8 + 3, none⟩ = some (.bool y.vital) ∧ w3.drew.cell? ⟨b3, off3 + i * 8 + 4, none⟩ = some (.int .i64 y.alts) ∧ w3.drew.cell? ⟨b3, off3 + i * 8 + 5, none⟩ = some (.int .i64 y.inn) ∧ w3.drew.cell? ⟨b3, off3 + i * 8 + 6, none⟩ = some (.int .i64 y.alt) ∧ w3.drew.cell? ⟨b3, off3 + i * 8 + 7, none⟩ = some (.slice z1 m cz1) ∧ w3.drew.cell? ⟨b4, off4 + i * 8, none⟩ = some (.string ⟨y.name.toArray⟩) ∧ w3.drew.cell? ⟨b4, off4 + i * 8 + 1, none⟩ = some (.string ⟨y.undo.toArray⟩) ∧ w3.drew.cell? ⟨b4, off4 + i * 8 + 2, none⟩ = some (.bool y.sub) ∧ w3.drew.cell? ⟨b4, off4 + i * 8 + 3, none⟩ = some (.bool y.vital) ∧ w3.drew.cell? ⟨b4, off4 + i * 8 + 4, none⟩ = some (.int .i64 y.alts) ∧ w3.drew.cell? ⟨b4, off4 + i * 8 + 5, none⟩ = some (.int .i64 y.inn) ∧ w3.drew.cell? ⟨b4, off4 + i * 8 + 6, none⟩ = some (.int .i64 y.alt) ∧ w3.drew.cell? ⟨b4, off4 + i * 8 + 7, none⟩ = some (.slice z2 m cz2)) := ⟨g1, g2, j0, j1, j2, j3, j4, j5, j6, j7, i0, i1, i2, i3, i4, i5, i6, i7⟩
    have HS2 : Hid (∀ o o' : Obj, (((w3.alloc o).alloc o').drew.cell? ⟨w.heap.size, 0, none⟩ = some (.slice (some ⟨b3, off3, none⟩) n c1) ∧ ((w3.alloc o).alloc o').drew.cell? ⟨w.heap.size + 1, 0, none⟩ = some (.slice (some ⟨b4, off4, none⟩) n c2) ∧ ((w3.alloc o).alloc o').drew.cell? ⟨b3, off3 + i * 8, none⟩ = some (.string ⟨y.name.toArray⟩) ∧ ((w3.alloc o).alloc o').drew.cell? ⟨b3, off3 + i * 8 + 1, none⟩ = some (.string ⟨y.undo.toArray⟩) ∧ ((w3.alloc o).alloc o').drew.cell? ⟨b3, off3 + i * 8 + 2, none⟩ = some (.bool y.sub) ∧ ((w3.alloc o).alloc o').drew.cell? ⟨b3, off3 + i * 8 + 3, none⟩ = some (.bool y.vital) ∧ ((w3.alloc o).alloc o').drew.cell? ⟨b3, off3 + i * 8 + 4, none⟩ = some (.int .i64 y.alts) ∧ ((w3.alloc o).alloc o').drew.cell? ⟨b3, off3 + i * 8 + 5, none⟩ = some (.int .i64 y.inn) ∧ ((w3.alloc o).alloc o').drew.cell? ⟨b3, off3 + i * 8 + 6, none⟩ = some (.int .i64 y.alt) ∧ ((w3.alloc o).alloc o').drew.cell? ⟨b3, off3 + i * 8 + 7, none⟩ = some (.slice z1 m cz1) ∧ ((w3.alloc o).alloc o').drew.cell? ⟨b4, off4 + i * 8, none⟩ = some (.string ⟨y.name.toArray⟩) ∧ ((w3.alloc o).alloc o').drew.cell? ⟨b4, off4 + i * 8 + 1, none⟩ = some (.string ⟨y.undo.toArray⟩) ∧ ((w3.alloc o).alloc o').drew.cell? ⟨b4, off4 + i * 8 + 2, none⟩ = some (.bool y.sub) ∧ ((w3.alloc o).alloc o').drew.cell? ⟨b4, off4 + i * 8 + 3, none⟩ = some (.bool y.vital) ∧ ((w3.alloc o).alloc o').drew.cell? ⟨b4, off4 + i * 8 + 4, none⟩ = some (.int .i64 y.alts) ∧ ((w3.alloc o).alloc o').drew.cell? ⟨b4, off4 + i * 8 + 5, none⟩ = some (.int .i64 y.inn) ∧ ((w3.alloc o).alloc o').drew.cell? ⟨b4, off4 + i * 8 + 6, none⟩ = some (.int .i64 y.alt) ∧ ((w3.alloc o).alloc o').drew.cell? ⟨b4, off4 + i * 8 + 7, none⟩ = some (.slice z2 m cz2))) := fun o o' => HK.out w3 _ HS0.out ((((Below.refl _ w3).alloc (Nat.le_refl _) o).alloc (by simp) o').drew)
    go_wp2_with fail
    go_region_held_law (fun w' => (w'.cell? ⟨w.heap.size, 0, none⟩ = some (.slice (some ⟨b3, off3, none⟩) n c1) ∧ w'.cell? ⟨w.heap.size + 1, 0, none⟩ = some (.slice (some ⟨b4, off4, none⟩) n c2) ∧ w'.cell? ⟨b3, off3 + i * 8, none⟩ = some (.string ⟨y.name.toArray⟩) ∧ w'.cell? ⟨b3, off3 + i * 8 + 1, none⟩ = some (.string ⟨y.undo.toArray⟩) ∧ w'.cell? ⟨b3, off3 + i * 8 + 2, none⟩ = some (.bool y.sub) ∧ w'.cell? ⟨b3, off3 + i * 8 + 3, none⟩ = some (.bool y.vital) ∧ w'.cell? ⟨b3, off3 + i * 8 + 4, none⟩ = some (.int .i64 y.alts) ∧ w'.cell? ⟨b3, off3 + i * 8 + 5, none⟩ = some (.int .i64 y.inn) ∧ w'.cell? ⟨b3, off3 + i * 8 + 6, none⟩ = some (.int .i64 y.alt) ∧ w'.cell? ⟨b3, off3 + i * 8 + 7, none⟩ = some (.slice z1 m cz1) ∧ w'.cell? ⟨b4, off4 + i * 8, none⟩ = some (.string ⟨y.name.toArray⟩) ∧ w'.cell? ⟨b4, off4 + i * 8 + 1, none⟩ = some (.string ⟨y.undo.toArray⟩) ∧ w'.cell? ⟨b4, off4 + i * 8 + 2, none⟩ = some (.bool y.sub) ∧ w'.cell? ⟨b4, off4 + i * 8 + 3, none⟩ = some (.bool y.vital) ∧ w'.cell? ⟨b4, off4 + i * 8 + 4, none⟩ = some (.int .i64 y.alts) ∧ w'.cell? ⟨b4, off4 + i * 8 + 5, none⟩ = some (.int .i64 y.inn) ∧ w'.cell? ⟨b4, off4 + i * 8 + 6, none⟩ = some (.int .i64 y.alt) ∧ w'.cell? ⟨b4, off4 + i * 8 + 7, none⟩ = some (.slice z2 m cz2))) (first | assumption | exact HS0.out | exact HS2.out _ _ | exact HK.out _ _ ‹_› ((Below.refl _ _).alloc (Nat.le_refl _) _)) (fail)
    · have r1 := row_alloc (row_new w3 #[.string ⟨y.name.toArray⟩, .string ⟨y.undo.toArray⟩, .bool y.sub, .bool y.vital, .int .i64 y.alts, .int .i64 y.inn, .int .i64 y.alt, .slice z1 m cz1] 46) (.cells #[.string ⟨y.name.toArray⟩, .string ⟨y.undo.toArray⟩, .bool y.sub, .bool y.vital, .int .i64 y.alts, .int .i64 y.inn, .int .i64 y.alt, .slice z2 m cz2] 46)
      have r2' : ((w3.alloc (.cells #[.string ⟨y.name.toArray⟩, .string ⟨y.undo.toArray⟩, .bool y.sub, .bool y.vital, .int .i64 y.alts, .int .i64 y.inn, .int .i64 y.alt, .slice z1 m cz1] 46)).alloc (.cells #[.string ⟨y.name.toArray⟩, .string ⟨y.undo.toArray⟩, .bool y.sub, .bool y.vital, .int .i64 y.alts, .int .i64 y.inn, .int .i64 y.alt, .slice z2 m cz2] 46)).heap[w3.heap.size + 1]? = some (.cells #[.string ⟨y.name.toArray⟩, .string ⟨y.undo.toArray⟩, .bool y.sub, .bool y.vital, .int .i64 y.alts, .int .i64 y.inn, .int .i64 y.alt, .slice z2 m cz2] 46 (0, 0)) := by
        have := row_new (w3.alloc (.cells #[.string ⟨y.name.toArray⟩, .string ⟨y.undo.toArray⟩, .bool y.sub, .bool y.vital, .int .i64 y.alts, .int .i64 y.inn, .int .i64 y.alt, .slice z1 m cz1] 46)) #[.string ⟨y.name.toArray⟩, .string ⟨y.undo.toArray⟩, .bool y.sub, .bool y.vital, .int .i64 y.alts, .int .i64 y.inn, .int .i64 y.alt, .slice z2 m cz2] 46
        rwa [World.size_alloc] at this
      have bW : Below w3.heap.size w3 ((w3.alloc (.cells #[.string ⟨y.name.toArray⟩, .string ⟨y.undo.toArray⟩, .bool y.sub, .bool y.vital, .int .i64 y.alts, .int .i64 y.inn, .int .i64 y.alt, .slice z1 m cz1] 46)).alloc (.cells #[.string ⟨y.name.toArray⟩, .string ⟨y.undo.toArray⟩, .bool y.sub, .bool y.vital, .int .i64 y.alts, .int .i64 y.inn, .int .i64 y.alt, .slice z2 m cz2] 46)).drew := bl_drawn1 (((Below.refl _ w3).alloc (Nat.le_refl _) _).alloc (by simp) _)
      have q1 : ((w3.alloc (.cells #[.string ⟨y.name.toArray⟩, .string ⟨y.undo.toArray⟩, .bool y.sub, .bool y.vital, .int .i64 y.alts, .int .i64 y.inn, .int .i64 y.alt, .slice z1 m cz1] 46)).alloc (.cells #[.string ⟨y.name.toArray⟩, .string ⟨y.undo.toArray⟩, .bool y.sub, .bool y.vital, .int .i64 y.alts, .int .i64 y.inn, .int .i64 y.alt, .slice z2 m cz2] 46)).drew.heap[w3.heap.size]? = _ := r1
      have q2 : ((w3.alloc (.cells #[.string ⟨y.name.toArray⟩, .string ⟨y.undo.toArray⟩, .bool y.sub, .bool y.vital, .int .i64 y.alts, .int .i64 y.inn, .int .i64 y.alt, .slice z1 m cz1] 46)).alloc (.cells #[.string ⟨y.name.toArray⟩, .string ⟨y.undo.toArray⟩, .bool y.sub, .bool y.vital, .int .i64 y.alts, .int .i64 y.inn, .int .i64 y.alt, .slice z2 m cz2] 46)).drew.heap[w3.heap.size + 1]? = _ := r2'
      generalize ((w3.alloc (.cells #[.string ⟨y.name.toArray⟩, .string ⟨y.undo.toArray⟩, .bool y.sub, .bool y.vital, .int .i64 y.alts, .int .i64 y.inn, .int .i64 y.alt, .slice z1 m cz1] 46)).alloc (.cells #[.string ⟨y.name.toArray⟩, .string ⟨y.undo.toArray⟩, .bool y.sub, .bool y.vital, .int .i64 y.alts, .int .i64 y.inn, .int .i64 y.alt, .slice z2 m cz2] 46)).drew = W at *
      have HBW : Hid (Below w.heap.size w W) := HBT.out.trans (bW.mono HBT.out.size)
      have HBV : Hid (Below w0.heap.size w0 W) := HB.out.trans (bW.mono HB.out.size)
      have x0 := (cell_row q1 0).trans rfl
      have y0 := (cell_row q2 0).trans rfl
      have x1 := (cell_row q1 1).trans rfl
      have y1 := (cell_row q2 1).trans rfl
      have x2 := (cell_row q1 2).trans rfl
      have y2 := (cell_row q2 2).trans rfl
      have x3 := (cell_row q1 3).trans rfl
      have y3 := (cell_row q2 3).trans rfl
      have x4 := (cell_row q1 4).trans rfl
      have y4 := (cell_row q2 4).trans rfl
      have x5 := (cell_row q1 5).trans rfl
      have y5 := (cell_row q2 5).trans rfl
      have x6 := (cell_row q1 6).trans rfl
      have y6 := (cell_row q2 6).trans rfl
      have x7 := (cell_row q1 7).trans rfl
      have y7 := (cell_row q2 7).trans rfl
      clear j0 i0 j1 i1 j2 i2 j3 i3 j4 i4 j5 i5 j6 i6 j7 i7 r1 r2' bW q1 q2 g1 g2 HK HS0 HS2
      go_wp2_with fail
      go_loopw [8] (fun jv wr => ∃ (j : Nat), j ≤ m ∧ jv = .int .i64 j ∧ Hid (Below W.heap.size W wr)) (fun jv _ => m - (intOf jv).toNat)
      case atStart => exact ⟨0, Nat.zero_le _, rfl, Below.refl _ _⟩
      case round =>
        obtain ⟨j, hj, rfl, HB5⟩ := hrel
        rename World => w5
        have e7 := Dg.cell_later HB5.out x7
        have f7 := Dg.cell_later HB5.out y7
        by_cases hjm : j < m
        · obtain ⟨z, hz⟩ : ∃ z, y.after[j]? = some z := ⟨_, List.getElem?_eq_getElem (by rw [HM.out]; exact hjm)⟩
          obtain ⟨b5, off5, rfl, e8⟩ := HZ1.out j z hz
          obtain ⟨b6, off6, rfl, f8⟩ := HZ2.out j z hz
          have hb5 : Below w.heap.size w w5 := HBW.out.trans (HB5.out.mono HBW.out.size)
          have e9 := Dg.cell_later hb5 e8
          have f9 := Dg.cell_later hb5 f8
          have hjj : (j : Int) < (m : Int) := by omega
          have HB6 : Hid (Below W.heap.size W w5.drew) := bl_drawn1 HB5.out
          clear hz e8 f8 hb5
          go_wp2_with fail
          go_region
          all_goals
            go_wp2_with fail
            go_roundw
            case rel => exact ⟨j + 1, by omega, by go_num, HB6⟩
            case measure => simp [intOf]; omega
        · have hje : j = m := by omega
          subst hje
          go_wp2_with fail
          go_roundw
          case rel => exact ⟨i + 1, by omega, by go_num, HBV.out.trans (HB5.out.mono HBV.out.size)⟩
          case measure => simp [intOf]; omega
    · have r1 := row_alloc (row_new w3 #[.string ⟨y.name.toArray⟩, .string ⟨y.undo.toArray⟩, .bool y.sub, .bool y.vital, .int .i64 y.alts, .int .i64 y.inn, .int .i64 y.alt, .slice z2 m cz2] 46) (.cells #[.string ⟨y.name.toArray⟩, .string ⟨y.undo.toArray⟩, .bool y.sub, .bool y.vital, .int .i64 y.alts, .int .i64 y.inn, .int .i64 y.alt, .slice z1 m cz1] 46)
      have r2' : ((w3.alloc (.cells #[.string ⟨y.name.toArray⟩, .string ⟨y.undo.toArray⟩, .bool y.sub, .bool y.vital, .int .i64 y.alts, .int .i64 y.inn, .int .i64 y.alt, .slice z2 m cz2] 46)).alloc (.cells #[.string ⟨y.name.toArray⟩, .string ⟨y.undo.toArray⟩, .bool y.sub, .bool y.vital, .int .i64 y.alts, .int .i64 y.inn, .int .i64 y.alt, .slice z1 m cz1] 46)).heap[w3.heap.size + 1]? = some (.cells #[.string ⟨y.name.toArray⟩, .string ⟨y.undo.toArray⟩, .bool y.sub, .bool y.vital, .int .i64 y.alts, .int .i64 y.inn, .int .i64 y.alt, .slice z1 m cz1] 46 (0, 0)) := by
        have := row_new (w3.alloc (.cells #[.string ⟨y.name.toArray⟩, .string ⟨y.undo.toArray⟩, .bool y.sub, .bool y.vital, .int .i64 y.alts, .int .i64 y.inn, .int .i64 y.alt, .slice z2 m cz2] 46)) #[.string ⟨y.name.toArray⟩, .string ⟨y.undo.toArray⟩, .bool y.sub, .bool y.vital, .int .i64 y.alts, .int .i64 y.inn, .int .i64 y.alt, .slice z1 m cz1] 46
        rwa [World.size_alloc] at this
      have bW : Below w3.heap.size w3 ((w3.alloc (.cells #[.string ⟨y.name.toArray⟩, .string ⟨y.undo.toArray⟩, .bool y.sub, .bool y.vital, .int .i64 y.alts, .int .i64 y.inn, .int .i64 y.alt, .slice z2 m cz2] 46)).alloc (.cells #[.string ⟨y.name.toArray⟩, .string ⟨y.undo.toArray⟩, .bool y.sub, .bool y.vital, .int .i64 y.alts, .int .i64 y.inn, .int .i64 y.alt, .slice z1 m cz1] 46)).drew := bl_drawn1 (((Below.refl _ w3).alloc (Nat.le_refl _) _).alloc (by simp) _)
      have q1 : ((w3.alloc (.cells #[.string ⟨y.name.toArray⟩, .string ⟨y.undo.toArray⟩, .bool y.sub, .bool y.vital, .int .i64 y.alts, .int .i64 y.inn, .int .i64 y.alt, .slice z2 m cz2] 46)).alloc (.cells #[.string ⟨y.name.toArray⟩, .string ⟨y.undo.toArray⟩, .bool y.sub, .bool y.vital, .int .i64 y.alts, .int .i64 y.inn, .int .i64 y.alt, .slice z1 m cz1] 46)).drew.heap[w3.heap.size]? = _ := r1
      have q2 : ((w3.alloc (.cells #[.string ⟨y.name.toArray⟩, .string ⟨y.undo.toArray⟩, .bool y.sub, .bool y.vital, .int .i64 y.alts, .int .i64 y.inn, .int .i64 y.alt, .slice z2 m cz2] 46)).alloc (.cells #[.string ⟨y.name.toArray⟩, .string ⟨y.undo.toArray⟩, .bool y.sub, .bool y.vital, .int .i64 y.alts, .int .i64 y.inn, .int .i64 y.alt, .slice z1 m cz1] 46)).drew.heap[w3.heap.size + 1]? = _ := r2'
      generalize ((w3.alloc (.cells #[.string ⟨y.name.toArray⟩, .string ⟨y.undo.toArray⟩, .bool y.sub, .bool y.vital, .int .i64 y.alts, .int .i64 y.inn, .int .i64 y.alt, .slice z2 m cz2] 46)).alloc (.cells #[.string ⟨y.name.toArray⟩, .string ⟨y.undo.toArray⟩, .bool y.sub, .bool y.vital, .int .i64 y.alts, .int .i64 y.inn, .int .i64 y.alt, .slice z1 m cz1] 46)).drew = W at *
      have HBW : Hid (Below w.heap.size w W) := HBT.out.trans (bW.mono HBT.out.size)
      have HBV : Hid (Below w0.heap.size w0 W) := HB.out.trans (bW.mono HB.out.size)
      have x0 := (cell_row q2 0).trans rfl
      have y0 := (cell_row q1 0).trans rfl
      have x1 := (cell_row q2 1).trans rfl
      have y1 := (cell_row q1 1).trans rfl
      have x2 := (cell_row q2 2).trans rfl
      have y2 := (cell_row q1 2).trans rfl
      have x3 := (cell_row q2 3).trans rfl
      have y3 := (cell_row q1 3).trans rfl
      have x4 := (cell_row q2 4).trans rfl
      have y4 := (cell_row q1 4).trans rfl
      have x5 := (cell_row q2 5).trans rfl
      have y5 := (cell_row q1 5).trans rfl
      have x6 := (cell_row q2 6).trans rfl
      have y6 := (cell_row q1 6).trans rfl
      have x7 := (cell_row q2 7).trans rfl
      have y7 := (cell_row q1 7).trans rfl
      clear j0 i0 j1 i1 j2 i2 j3 i3 j4 i4 j5 i5 j6 i6 j7 i7 r1 r2' bW q1 q2 g1 g2 HK HS0 HS2
      go_wp2_with fail
      go_loopw [8] (fun jv wr => ∃ (j : Nat), j ≤ m ∧ jv = .int .i64 j ∧ Hid (Below W.heap.size W wr)) (fun jv _ => m - (intOf jv).toNat)
      case atStart => exact ⟨0, Nat.zero_le _, rfl, Below.refl _ _⟩
      case round =>
        obtain ⟨j, hj, rfl, HB5⟩ := hrel
        rename World => w5
        have e7 := Dg.cell_later HB5.out x7
        have f7 := Dg.cell_later HB5.out y7
        by_cases hjm : j < m
        · obtain ⟨z, hz⟩ : ∃ z, y.after[j]? = some z := ⟨_, List.getElem?_eq_getElem (by rw [HM.out]; exact hjm)⟩
          obtain ⟨b5, off5, rfl, e8⟩ := HZ1.out j z hz
          obtain ⟨b6, off6, rfl, f8⟩ := HZ2.out j z hz
          have hb5 : Below w.heap.size w w5 := HBW.out.trans (HB5.out.mono HBW.out.size)
          have e9 := Dg.cell_later hb5 e8
          have f9 := Dg.cell_later hb5 f8
          have hjj : (j : Int) < (m : Int) := by omega
          have HB6 : Hid (Below W.heap.size W w5.drew) := bl_drawn1 HB5.out
          clear hz e8 f8 hb5
          go_wp2_with fail
          go_region
          all_goals
            go_wp2_with fail
            go_roundw
            case rel => exact ⟨j + 1, by omega, by go_num, HB6⟩
            case measure => simp [intOf]; omega
        · have hje : j = m := by omega
          subst hje
          go_wp2_with fail
          go_roundw
          case rel => exact ⟨i + 1, by omega, by go_num, HBV.out.trans (HB5.out.mono HBV.out.size)⟩
          case measure => simp [intOf]; omega
end Go.Proofs.YtpgdafmenbeffaaDoor

