/- Texts of the seat, packed: Yl. -/
import Derived.Test.YtephkdocfhajiaaDoorP15
/- The program's Reach: what it tells lies in blocks of its own. -/
namespace Go.Proofs.YtephkdocfhajiaaDoor.Dg
open Go.RowKit Go.Shelf

/-- How Reach ends, and where its rows lie. -/
def ReachQ (n : Int) (l : List (Int × Int)) (w : World) (e : Ending) (w' : World) : Prop := Below w.heap.size w w' ∧ match weaveP n l with
  | .bad c => e = .returned (.tuple #[.slice none 0 0, .int .i64 c])
  | .ok W o => ∃ q, e = .returned (.tuple #[.slice (some ⟨q, 0, none⟩) n.toNat n.toNat, .int .i64 0]) ∧ w.heap.size ≤ q ∧ RowsI w' q n.toNat n.toNat (reachL W o) ∧ (reachL W o).length = n.toNat

/-- Rows stand, as long as no block from theirs on is turned. -/
theorem RowsI.keep {w w' : World} {q k n : Nat} {L : List (List Nat)} (h : RowsI w q k n L) (hk : ∀ b, q ≤ b → b < w.heap.size → w'.heap[b]? = w.heap[b]?) : RowsI w' q k n L := by
  obtain ⟨Vs, h1, h2, h3⟩ := h
  refine ⟨Vs, (hk q (Nat.le_refl _) (Array.getElem?_eq_some_iff.1 h1).1).trans h1, h2, fun i hi => ?_⟩
  obtain ⟨v, a, va, cap, hv, hc, hr⟩ := h3 i hi
  refine ⟨v, a, va, cap, hv, hc, fun j x hj => ?_⟩
  obtain ⟨b, off, ha, hq, c0⟩ := hr j x hj
  exact ⟨b, off, ha, hq, (World.cell?_of_block (a := ⟨b, off + j, none⟩) (hk b (by omega) (lt_of_cell? c0))).trans c0⟩

set_option maxRecDepth 1000000 in
set_option maxHeartbeats 2000000 in
theorem Reach_rows (n : Int) (v : Value) (l : List (Int × Int)) (w : World) (hl : RdA w v l) (hT : Tab w) :
    Calls Tryd.prog 22 #[.int .i64 n, v] w fun e w' => ReachQ n l w e w' := by
  have M : Hid (Calls Tryd.prog 41 #[.int .i64 n, v] w fun e w' => WvC n l w e w') := weave_any n v l w hl hT
  have HT : Hid (Tab w) := hT
  obtain ⟨a, cap, rfl, _⟩ := hl
  clear hT
  unfold WvC at M
  unfold ReachQ
  cases hP : weaveP n l with
  | bad c =>
    rw [hP] at M
    have hc : ((c == 0)) = false := by rcases weaveP_code hP with rfl | rfl <;> rfl
    go_enter Tryd.func22, Tryd.ntmps22
    go_wp2_with fail
    refine Calls.mono M.out ?_
    rintro e w1 ⟨hb, rfl⟩
    go_wp2_with fail
    go_ret2
    exact ⟨hb, rfl⟩
  | ok W o =>
    rw [hP] at M
    obtain ⟨⟨hn0, hn64⟩, _, _, hWok, hWl, hOk, hol⟩ := weave_facts hP
    obtain ⟨m, rfl⟩ : ∃ m : Nat, n = (m : Int) := ⟨n.toNat, by omega⟩
    simp only [Int.toNat_natCast] at hWl hol M ⊢
    have hm : m ≤ 64 := by omega
    obtain ⟨i0, hi0, hz0, hz1, hz2⟩ := info_parts Tryd.info41
    clear hn0 hn64
    go_enter Tryd.func22, Tryd.ntmps22
    go_wp2_with fail
    refine Calls.mono M.out ?_
    rintro e w1 ⟨hb, v1, v2, rfl, hU, hI, h1, h2⟩
    have hmk := run_make (P := Tryd.prog) w1 51 41 i0 _ Tryd.underlying51 hi0 hz0 .i64 .i64 (m : Int) (m : Int) (by omega) (by omega) (by rw [hz2]; omega) (by omega)
    simp only [hz1, Int.toNat_natCast, Nat.mul_one] at hmk
    have HB1 : Hid (Below w.heap.size w w1) := hb
    have hBA : Below w1.heap.size w1 (w1.alloc (.cells (madeCells #[Value.slice none 0 0] m) 41)) := (Below.refl _ _).alloc (Nat.le_refl _) _
    have HB2 : Hid (Below w1.heap.size w1 (w1.alloc (.cells (madeCells #[Value.slice none 0 0] m) 41))) := hBA
    have HR0 : Hid (RowsI (w1.alloc (.cells (madeCells #[Value.slice none 0 0] m) 41)) w1.heap.size 0 m (reachL W o)) := ⟨List.replicate m (.slice none 0 0), by rw [← made_nil]; exact row_new w1 _ 41, by simp, fun i hi => by omega⟩
    have HZ0 : Hid (w1.heap.size < (w1.alloc (.cells (madeCells #[Value.slice none 0 0] m) 41)).heap.size) := by show _ < _; simp
    have M2 : Hid _ := reach_any W o v1 v2 _ (hU.later hBA) (hI.later hBA) (by omega) (by omega) hWok (fun x hx => hOk.lt x hx) ((HT.out.later hb).later hBA)
    have HT1 : Hid (Tab w1) := HT.out.later hb
    obtain ⟨a1, cap1, rfl, _⟩ := hU
    obtain ⟨a2, cap2, rfl, _⟩ := hI
    clear hBA
    rw [hWl] at M2 ⊢
    rw [hol] at M2 ⊢
    go_wp2_with fail
    generalize w1.alloc (.cells (madeCells #[Value.slice none 0 0] m) 41) = w2 at *
    refine Calls.mono M2.out ?_
    rintro e w3 ⟨hb3, b, hbq, rfl, hRow, hRl⟩
    have HRow : Hid (RowU w3 b (reachP W o)) := hRow
    have HLL : Hid ((reachL W o).length = m) := by show _ = _; unfold reachL; rw [List.length_map, hRl]
    have HGet : Hid (∀ i, i < m → (reachL W o).getD i [] = bitsOf ((reachP W o).getD i 0)) := by
      show ∀ i, _
      intro i hi
      unfold reachL
      rw [List.getD_eq_getElem?_getD, List.getElem?_map, List.getD_eq_getElem?_getD, List.getElem?_eq_getElem (by rw [hRl]; exact hi)]
      rfl
    have HB3 : Hid (Below w1.heap.size w1 w3) := HB2.out.trans (hb3.mono HB2.out.size)
    have HR3 : Hid (RowsI w3 w1.heap.size 0 m (reachL W o)) := HR0.out.later hb3
    have HZ3 : Hid (w1.heap.size < w3.heap.size) := by have := hb3.size; have := HZ0.out; show _ < _; omega
    have HBq : Hid (w1.heap.size < b) := by have := HZ0.out; show _ < _; omega
    have HRl : Hid ((reachP W o).length = m) := hRl
    clear hRow hbq hb3 HR0 HZ0 M2 HB2 M
    generalize reachP W o = R at *
    go_wp2_with fail
    go_loopw [10, 11, 28] (fun _ _ iv wr => ∃ (k : Nat), k ≤ m ∧ iv = .int .i64 k ∧ Hid (RowsI wr w1.heap.size k m (reachL W o)) ∧ Hid (RowU wr b R) ∧ Hid (Below w1.heap.size w1 wr) ∧ Hid (w1.heap.size < wr.heap.size)) (fun _ _ iv _ => m - (intOf iv).toNat)
    case atStart => exact ⟨0, Nat.zero_le _, rfl, HR3, HRow, HB3, HZ3⟩
    case round =>
      obtain ⟨k, hk, rfl, HRs, HRw, HBk, HZk⟩ := hrel
      rename World => w4
      clear HR3 HRow HB3 HZ3
      by_cases hlt : k < m
      · obtain ⟨r1, r2, r3⟩ := HRw.out.get k (by rw [HRl.out]; exact hlt)
        have M4 : Hid _ := nodes_any (R.getD k 0) r3 w4 (HT1.out.later HBk.out)
        have HGk := HGet.out k hlt
        generalize R.getD k 0 = y at *
        have hki : (k : Int) < (m : Int) := by omega
        go_wp2_with fail
        refine Calls.mono M4.out ?_
        rintro e w5 ⟨nv, rfl, hb5, hown⟩
        obtain ⟨u, c1, c2⟩ := (HRs.out.later hb5).get k hlt
        obtain ⟨na, nc, hnv, _⟩ := RdI.of_own hown
        have HR5 : Hid (RowsI (w5.setCell ⟨w1.heap.size, k, none⟩ nv) w1.heap.size (k + 1) m (reachL W o)) := (HRs.out.later hb5).set nv hlt (by rw [HGk]; exact RdF.of_own HZk.out hown)
        have HW5 : Hid (RowU (w5.setCell ⟨w1.heap.size, k, none⟩ nv) b R) := ⟨row_other (HRw.out.below hb5).row nv (by have := HBq.out; omega), HRw.out.lt⟩
        have HB5 : Hid (Below w1.heap.size w1 (w5.setCell ⟨w1.heap.size, k, none⟩ nv)) := (HBk.out.trans (hb5.mono HBk.out.size)).setCell (p := ⟨w1.heap.size, k, none⟩) (Nat.le_refl _) _
        have HZ5 : Hid (w1.heap.size < (w5.setCell ⟨w1.heap.size, k, none⟩ nv).heap.size) := by have := hb5.size; have := HZk.out; show _ < _; simp; omega
        clear hown hb5 HRs HRw HBk HZk
        subst hnv
        go_wp2_with fail
        go_roundw
        case rel => exact ⟨k + 1, by omega, by go_num, HR5, HW5, HB5, HZ5⟩
        case measure => simp [intOf]; omega
      · have hkm : k = m := by omega
        subst hkm
        go_wp2_with fail
        go_ret2
        exact ⟨HB1.out.trans (HBk.out.mono HB1.out.size), _, rfl, HB1.out.size, HRs.out, HLL.out⟩
end Go.Proofs.YtephkdocfhajiaaDoor.Dg

