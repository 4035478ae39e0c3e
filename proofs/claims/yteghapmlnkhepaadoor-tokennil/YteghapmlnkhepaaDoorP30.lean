/- Texts of the seat, packed: Yl Yk Ym Yn. -/
import Derived.Test.YteghapmlnkhepaaDoorP11
import Derived.Test.YteghapmlnkhepaaDoorP12
import Derived.Test.YteghapmlnkhepaaDoorP28
/- The program's Reach: what it tells lies in blocks of its own. -/
namespace Go.Proofs.YteghapmlnkhepaaDoor.Dg

open Go.RowKit Go.Shelf

/-- How Reach ends, and where its rows lie. -/
def ReachQ (n : Int) (l : List (Int × Int)) (w : World) (e : Ending) (w' : World) : Prop := Below w.heap.size w w' ∧ match weaveP n l with
  | .bad c => e = .returned (.tuple #[.slice none 0 0, .int .i64 c])
  | .ok W o => ∃ q, e = .returned (.tuple #[.slice (some ⟨q, 0, none⟩) n.toNat n.toNat, .int .i64 0]) ∧ w.heap.size ≤ q ∧ RowsI w' q n.toNat n.toNat (reachL W o) ∧ (reachL W o).length = n.toNat

/-- Rows stand, as long as no block from theirs on is turned. -/
theorem RowsI.keep {w w' : World} {q k n : Nat} {L : List (List Nat)} (h : RowsI w q k n L) (hk : ∀ b, q ≤ b → b < w.heap.size → w'.heap[b]? = w.heap[b]?) : RowsI w' q k n L := by
  obtain ⟨Vs, h1, h2, h3⟩ := h
  refine ⟨Vs, (hk q (Nat.le_refl _) (Array.getElem?_eq_some_iff.1 h1).1).trans h1, h2, fun i hi => ?_⟩
  obtain ⟨v, a, va, cap, hv, hc, hr⟩ := h3 i hi
  refine ⟨v, a, va, cap, hv, hc, fun j x hj => ?_⟩
  obtain ⟨b, off, ha, hq, c0⟩ := hr j x hj
  exact ⟨b, off, ha, hq, (World.cell?_of_block (a := ⟨b, off + j, none⟩) (hk b (by omega) (lt_of_cell? c0))).trans c0⟩

set_option maxRecDepth 1000000 in
set_option maxHeartbeats 2000000 in
theorem Reach_rows (n : Int) (v : Value) (l : List (Int × Int)) (w : World) (hl : RdA w v l) (hT : Tab w) :
    Calls Tryd.prog 39 #[.int .i64 n, v] w fun e w' => ReachQ n l w e w' := by
  have M : Hid (Calls Tryd.prog 51 #[.int .i64 n, v] w fun e w' => WvC n l w e w') := weave_any n v l w hl hT
  have HT : Hid (Tab w) := hT
  obtain ⟨a, cap, rfl, _⟩ := hl
  clear hT
  unfold WvC at M
  unfold ReachQ
  cases hP : weaveP n l with
  | bad c =>
    rw [hP] at M
    have hc : ((c == 0)) = false := by rcases weaveP_code hP with rfl | rfl <;> rfl
    go_enter Tryd.func39, Tryd.ntmps39
    go_wp2_with fail
    refine Calls.mono M.out ?_
    rintro e w1 ⟨hb, rfl⟩
    go_wp2_with fail
    go_ret2
    exact ⟨hb, rfl⟩
  | ok W o =>
    rw [hP] at M
    obtain ⟨⟨hn0, hn64⟩, _, _, hWok, hWl, hOk, hol⟩ := weave_facts hP
    obtain ⟨m, rfl⟩ : ∃ m : Nat, n = (m : Int) := ⟨n.toNat, by omega⟩
    simp only [Int.toNat_natCast] at hWl hol M ⊢
    have hm : m ≤ 64 := by omega
    obtain ⟨i0, hi0, hz0, hz1, hz2⟩ := info_parts Tryd.info25
    clear hn0 hn64
    go_enter Tryd.func39, Tryd.ntmps39
    go_wp2_with fail
    refine Calls.mono M.out ?_
    rintro e w1 ⟨hb, v1, v2, rfl, hU, hI, h1, h2⟩
    have hmk := run_make (P := Tryd.prog) w1 90 25 i0 _ Tryd.underlying90 hi0 hz0 .i64 .i64 (m : Int) (m : Int) (by omega) (by omega) (by rw [hz2]; omega) (by omega)
    simp only [hz1, Int.toNat_natCast, Nat.mul_one] at hmk
    have HB1 : Hid (Below w.heap.size w w1) := hb
    have hBA : Below w1.heap.size w1 (w1.alloc (.cells (madeCells #[Value.slice none 0 0] m) 25)) := (Below.refl _ _).alloc (Nat.le_refl _) _
    have HB2 : Hid (Below w1.heap.size w1 (w1.alloc (.cells (madeCells #[Value.slice none 0 0] m) 25))) := hBA
    have HR0 : Hid (RowsI (w1.alloc (.cells (madeCells #[Value.slice none 0 0] m) 25)) w1.heap.size 0 m (reachL W o)) := ⟨List.replicate m (.slice none 0 0), by rw [← made_nil]; exact row_new w1 _ 25, by simp, fun i hi => by omega⟩
    have HZ0 : Hid (w1.heap.size < (w1.alloc (.cells (madeCells #[Value.slice none 0 0] m) 25)).heap.size) := by show _ < _; simp
    have M2 : Hid _ := reach_any W o v1 v2 _ (hU.later hBA) (hI.later hBA) (by omega) (by omega) hWok (fun x hx => hOk.lt x hx) ((HT.out.later hb).later hBA)
    have HT1 : Hid (Tab w1) := HT.out.later hb
    obtain ⟨a1, cap1, rfl, _⟩ := hU
    obtain ⟨a2, cap2, rfl, _⟩ := hI
    clear hBA
    rw [hWl] at M2 ⊢
    rw [hol] at M2 ⊢
    go_wp2_with fail
    generalize w1.alloc (.cells (madeCells #[Value.slice none 0 0] m) 25) = w2 at *
    refine Calls.mono M2.out ?_
    rintro e w3 ⟨hb3, b, hbq, rfl, hRow, hRl⟩
    have HRow : Hid (RowU w3 b (reachP W o)) := hRow
    have HLL : Hid ((reachL W o).length = m) := by show _ = _; unfold reachL; rw [List.length_map, hRl]
    have HGet : Hid (∀ i, i < m → (reachL W o).getD i [] = bitsOf ((reachP W o).getD i 0)) := by
      show ∀ i, _
      intro i hi
      unfold reachL
      rw [List.getD_eq_getElem?_getD, List.getElem?_map, List.getD_eq_getElem?_getD, List.getElem?_eq_getElem (by rw [hRl]; exact hi)]
      rfl
    have HB3 : Hid (Below w1.heap.size w1 w3) := HB2.out.trans (hb3.mono HB2.out.size)
    have HR3 : Hid (RowsI w3 w1.heap.size 0 m (reachL W o)) := HR0.out.later hb3
    have HZ3 : Hid (w1.heap.size < w3.heap.size) := by have := hb3.size; have := HZ0.out; show _ < _; omega
    have HBq : Hid (w1.heap.size < b) := by have := HZ0.out; show _ < _; omega
    have HRl : Hid ((reachP W o).length = m) := hRl
    clear hRow hbq hb3 HR0 HZ0 M2 HB2 M
    generalize reachP W o = R at *
    go_wp2_with fail
    go_loopw [10, 11, 28] (fun _ _ iv wr => ∃ (k : Nat), k ≤ m ∧ iv = .int .i64 k ∧ Hid (RowsI wr w1.heap.size k m (reachL W o)) ∧ Hid (RowU wr b R) ∧ Hid (Below w1.heap.size w1 wr) ∧ Hid (w1.heap.size < wr.heap.size)) (fun _ _ iv _ => m - (intOf iv).toNat)
    case atStart => exact ⟨0, Nat.zero_le _, rfl, HR3, HRow, HB3, HZ3⟩
    case round =>
      obtain ⟨k, hk, rfl, HRs, HRw, HBk, HZk⟩ := hrel
      rename World => w4
      clear HR3 HRow HB3 HZ3
      by_cases hlt : k < m
      · obtain ⟨r1, r2, r3⟩ := HRw.out.get k (by rw [HRl.out]; exact hlt)
        have M4 : Hid _ := nodes_any (R.getD k 0) r3 w4 (HT1.out.later HBk.out)
        have HGk := HGet.out k hlt
        generalize R.getD k 0 = y at *
        have hki : (k : Int) < (m : Int) := by omega
        go_wp2_with fail
        refine Calls.mono M4.out ?_
        rintro e w5 ⟨nv, rfl, hb5, hown⟩
        obtain ⟨u, c1, c2⟩ := (HRs.out.later hb5).get k hlt
        obtain ⟨na, nc, hnv, _⟩ := RdI.of_own hown
        have HR5 : Hid (RowsI (w5.setCell ⟨w1.heap.size, k, none⟩ nv) w1.heap.size (k + 1) m (reachL W o)) := (HRs.out.later hb5).set nv hlt (by rw [HGk]; exact RdF.of_own HZk.out hown)
        have HW5 : Hid (RowU (w5.setCell ⟨w1.heap.size, k, none⟩ nv) b R) := ⟨row_other (HRw.out.below hb5).row nv (by have := HBq.out; omega), HRw.out.lt⟩
        have HB5 : Hid (Below w1.heap.size w1 (w5.setCell ⟨w1.heap.size, k, none⟩ nv)) := (HBk.out.trans (hb5.mono HBk.out.size)).setCell (p := ⟨w1.heap.size, k, none⟩) (Nat.le_refl _) _
        have HZ5 : Hid (w1.heap.size < (w5.setCell ⟨w1.heap.size, k, none⟩ nv).heap.size) := by have := hb5.size; have := HZk.out; show _ < _; simp; omega
        clear hown hb5 HRs HRw HBk HZk
        subst hnv
        go_wp2_with fail
        go_roundw
        case rel => exact ⟨k + 1, by omega, by go_num, HR5, HW5, HB5, HZ5⟩
        case measure => simp [intOf]; omega
      · have hkm : k = m := by omega
        subst hkm
        go_wp2_with fail
        go_ret2
        exact ⟨HB1.out.trans (HBk.out.mono HB1.out.size), _, rfl, HB1.out.size, HRs.out, HLL.out⟩

end Go.Proofs.YteghapmlnkhepaaDoor.Dg

/- The program's See: the walk. -/
namespace Go.Proofs.YteghapmlnkhepaaDoor

open Go.RowKit Go.Shelf Go.Proofs.YteghapmlnkhepaaDoor.Sx

theorem RdSp.of_own {A : World} {base : Nat} {sv : Value} {its : List It} (h : A.ownsRow base 73 2 sv its.length (spV its)) : RdSp A sv its := by
  have hl : (spV its).length = its.length * 2 := by
    clear h
    induction its with
    | nil => rfl
    | cons x r ih => simp only [spV, List.length_cons, ih]; omega
  rcases h.2 with ⟨rfl, h0⟩ | ⟨g, cap, cur, rfl, _, _, hc, _⟩
  · have : its = [] := List.length_eq_zero_iff.1 h0
    subst this
    exact ⟨none, 0, rfl, Nat.le_refl _, fun i x hi => by simp at hi⟩
  · refine ⟨_, cap, rfl, hc, fun i x hi => ?_⟩
    have hil := (List.getElem?_eq_some_iff.1 hi).1
    obtain ⟨h1, h2⟩ := spV_at its i x hi
    refine ⟨g, 0, rfl, ?_, ?_⟩
    · rw [Nat.zero_add, h.cellAt (i * 2) (by omega)]
      exact h1
    · rw [Nat.zero_add, h.cellAt (i * 2 + 1) (by omega)]
      exact h2

set_option maxRecDepth 1000000 in
set_option maxHeartbeats 4000000 in
theorem See_any (its : List It) (v : Value) (w : World) (hIt : RdIt w v its) (hF : FairI its) (hT : Dg.Tab w) :
    Calls Tryd.prog 20 #[.agg #[v]] w fun e w' => SeeC its w e w' := by
  have HIt : Hid (RdIt w v its) := hIt
  have HTb : Hid (Dg.Tab w) := hT
  have hb1 : Below w.heap.size w (w.alloc (.cells #[v] 28)) := (Below.refl _ w).alloc (Nat.le_refl _) _
  have r1 := Dg.row_new w #[v] 28
  have M : Hid _ := Right_any its v _ (hIt.later hb1) hF (hT.later hb1)
  clear hT
  obtain ⟨ia, icap, rfl, hic, hir⟩ := hIt
  have g0 := (Dg.cell_row r1 0).trans rfl
  go_enter Tryd.func20, Tryd.ntmps20
  go_wp2_with fail
  generalize w.alloc (.cells #[.slice ia its.length icap] 28) = w1 at *
  have hz1 : w.heap.size < w1.heap.size := (Array.getElem?_eq_some_iff.1 r1).1
  refine Calls.mono M.out ?_
  rintro e w2 ⟨rfl, hb2⟩
  clear M g0
  have hbl2 := hb1.trans (hb2.mono hb1.size)
  have s1 := (hb2.block _ hz1).trans r1
  have hz2 := Nat.lt_of_lt_of_le hz1 hb2.size
  clear r1 hz1 hb1 hb2
  cases hP : sagaP its with
  | none =>
    have HP : Hid _ := hP
    clear hP
    go_wp2_with fail
    go_ret2
    exact SeeC.bad HP.out hbl2
  | some p =>
    have HP : Hid _ := hP
    obtain ⟨h64, hN, hSm, h8k, W, o, hW⟩ := right_facts hP
    clear hP
    have g0 := (Dg.cell_row (Dg.row_alloc s1 (.cells #[.slice none 0 0, .slice none 0 0] 92)) 0).trans rfl
    have HS0 : Hid (SeS w (.slice ia its.length icap) its w2.heap.size 0 (w2.alloc (.cells #[.slice none 0 0, .slice none 0 0] 92)) (.slice none 0 0)) := ⟨hbl2.alloc hbl2.size _, Dg.row_alloc s1 _, Dg.row_new w2 _ 92, hz2, World.ownsRow_nil _ _ _ _⟩
    obtain ⟨il, HIL⟩ : ∃ il, Hid (its.length = il) := ⟨_, rfl⟩
    have HIR : Hid _ := hir
    have HN : Hid _ := hN
    have HSm : Hid _ := hSm
    have H8 : Hid _ := h8k
    have HW : Hid _ := hW
    have hil : il ≤ 64 := by rw [← HIL.out]; exact h64
    rw [HIL.out] at hic HS0 g0 ⊢
    clear hir hN hSm h8k hW h64 s1 hbl2
    go_wp2_with fail
    generalize w2.alloc (.cells #[.slice none 0 0, .slice none 0 0] 92) = w3 at *
    clear g0
    obtain ⟨vb, hvb⟩ : ∃ vb, w2.heap.size = vb := ⟨_, rfl⟩
    rw [hvb] at HS0 ⊢
    go_loopw [15] (fun kv wr => ∃ (k : Nat) (sv : Value), k ≤ il ∧ kv = .int .i64 k ∧ Hid (SeS w (.slice ia il icap) its vb k wr sv)) (fun kv _ => il - (intOf kv).toNat)
    case atStart => exact ⟨0, _, Nat.zero_le _, rfl, HS0⟩
    case round =>
      obtain ⟨k, sv, hk, rfl, HS⟩ := hrel
      rename World => w4
      clear HS0
      by_cases hlt : k < il
      rotate_left
      · have hke : k = il := by omega
        subst hke
        go_wp2_with fail
        have hS0 : w4.drew.heap[w.heap.size]? = some (.cells #[(.slice ia k icap)] 28 (0, 0)) := HS.out.box
        have hbd : Below w4.heap.size w4 w4.drew := (Below.refl _ _).drew
        have MA := arcs_any its _ w4.drew (HIt.out.later (HS.out.bel.drew)) (by rw [HIL.out]; omega) HN.out
        rw [HIL.out] at MA
        refine wp_region_held (S := fun w' => w'.heap[w.heap.size]? = some (.cells #[(.slice ia k icap)] 28 (0, 0))) (by kernel_rfl) ?_
        simp only [List.size_toArray, List.length_cons, List.length_nil, Nat.reduceAdd, Array.replicate_succ, Array.replicate_zero, List.push_toArray, List.nil_append, List.cons_append]
        refine tK 0 32 (.pointer (some ⟨vb, 0, none⟩)) 14 rfl hS0 ?_
        refine tG 1 33 (.pointer (some ⟨w.heap.size, 0, none⟩)) 13 rfl hS0 ?_
        refine tV 2 34 (.slice ia k icap) 12 rfl hS0 ?_ (fun w9 hw9 => by have z0 := (Dg.cell_row hw9 0).trans rfl; go_simp)
        refine tG 3 35 (.int .i64 (k : Int)) 11 rfl hS0 ?_
        refine tG 4 36 (.pointer (some ⟨w.heap.size, 0, none⟩)) 10 rfl hS0 ?_
        refine tV 5 37 (.slice ia k icap) 9 rfl hS0 ?_ (fun w9 hw9 => by have z0 := (Dg.cell_row hw9 0).trans rfl; go_simp)
        refine wpAnyH_all (fuel := 8) (rs := [6]) (by kernel_rfl) (by decide) ?_
        refine List.forall_mem_singleton.2 ?_
        refine wpOp_calls (i := 6) (d := 38) rfl rfl (by kernel_rfl) (f := 35) (args := #[(.slice ia k icap)]) (by kernel_rfl) _ MA ?_ (fun _ _ h => by obtain ⟨_, _, h9, _⟩ := h; cases h9) (fun _ h => by obtain ⟨_, _, h9, _⟩ := h; cases h9)
        rintro vA W5 ⟨hb5, u5, h5, ho5⟩
        cases h5
        have hb45 := hbd.trans (hb5.mono (Nat.le_refl _))
        have hS5 := HS.out.later hb45
        refine ⟨hS5.box, ?_⟩
        simp only [List.setIfInBounds_toArray, List.set_cons_succ, List.set_cons_zero]
        have MT := Dg.Turn_any vA (arcP its) W5 (Dg.RdA.of_own ho5 HSm.out) H8.out
        refine wpAnyH_all (fuel := 7) (rs := [7]) (by kernel_rfl) (by decide) ?_
        refine List.forall_mem_singleton.2 ?_
        refine wpOp_calls (i := 7) (d := 39) rfl rfl (by kernel_rfl) (f := 40) (args := #[vA]) (by kernel_rfl) _ MT ?_ (fun _ _ h => by obtain ⟨_, _, h9, _⟩ := h; cases h9) (fun _ h => by obtain ⟨_, _, h9, _⟩ := h; cases h9)
        rintro vB W6 ⟨hb6, u6, h6, hr6⟩
        cases h6
        have hS6 := hS5.later hb6
        refine ⟨hS6.box, ?_⟩
        simp only [List.setIfInBounds_toArray, List.set_cons_succ, List.set_cons_zero]
        have MR := Dg.Reach_rows (k : Int) vB (Dg.swapA (arcP its)) W6 hr6 (Dg.Tab.later HTb.out hS6.bel)
        have hW := HW.out
        rw [HIL.out] at hW
        unfold Dg.ReachQ at MR
        rw [hW] at MR
        simp only [Int.toNat_natCast] at MR
        refine wpAnyH_all (fuel := 6) (rs := [8]) (by kernel_rfl) (by decide) ?_
        refine List.forall_mem_singleton.2 ?_
        refine wpOp_calls (i := 8) (d := 40) rfl rfl (by kernel_rfl) (f := 39) (args := #[.int .i64 (k : Int), vB]) (by kernel_rfl) _ MR ?_ (fun _ _ h => by obtain ⟨_, _, h9, _⟩ := h; cases h9) (fun _ h => by obtain ⟨_, _, h9, _⟩ := h; cases h9)
        rintro vC W7 ⟨hb7, q, h7, hq7, hR7, hL7⟩
        cases h7
        have hS7 := hS6.later hb7
        refine ⟨hS7.box, ?_⟩
        simp only [List.setIfInBounds_toArray, List.set_cons_succ, List.set_cons_zero]
        refine tK 9 31 (.tuple #[(.slice (some ⟨q, 0, none⟩) k k), .int .i64 0]) 5 rfl hS7.box ?_
        refine tK 10 41 ((.slice (some ⟨q, 0, none⟩) k k)) 4 rfl hS7.box ?_
        refine tK 11 42 (.int .i64 0) 3 rfl hS7.box ?_
        refine tG 12 43 (.pointer (some ⟨vb, 0, none⟩)) 2 rfl hS7.box ?_
        refine tG 13 44 (.pointer (some ⟨vb, 1, none⟩)) 1 rfl hS7.box ?_
        refine wpAnyH_all (fuel := 0) (rs := [14]) (by kernel_rfl) (by decide) ?_
        refine List.forall_mem_singleton.2 ?_
        have c1 := (Dg.cell_row hS7.vw 1).trans rfl
        have f1 := Dg.froz_row hS7.vw 1
        refine wpOp_skip (i := 14) (w' := W7.setCell ⟨vb, 1, none⟩ (.slice (some ⟨q, 0, none⟩) k k)) rfl rfl (by kernel_rfl) (by go_simp) ?_
        have hge := hS7.ge
        refine ⟨Dg.row_other hS7.box _ (by omega), by kernel_rfl, ?_⟩
        have hvlt : vb < W6.heap.size := (Array.getElem?_eq_some_iff.1 hS6.vw).1
        have rv := Dg.row_set hS7.vw 1 (.slice (some ⟨q, 0, none⟩) k k)
        have hbE : Below w.heap.size w (W7.setCell ⟨vb, 1, none⟩ (.slice (some ⟨q, 0, none⟩) k k)) := hS7.bel.setCell (by show _ ≤ vb; omega) _
        have hownE := own_agree (G := fun b => b ≠ vb) (A := W7) (B := W7.setCell ⟨vb, 1, none⟩ (.slice (some ⟨q, 0, none⟩) k k)) (fun b hb' => Below.heap_setCell _ _ _ _ hb') hS7.own (fun b hb' e => own_other hS7.own hS7.vw (by decide) (e ▸ hb'.symm))
        have hownF : (W7.setCell ⟨vb, 1, none⟩ (.slice (some ⟨q, 0, none⟩) k k)).ownsRow w.heap.size 73 2 sv its.length (spV its) := by
          rw [show its.take k = its from by rw [← HIL.out, List.take_length]] at hownE
          rw [HIL.out]
          exact hownE
        have hRE : Dg.RowsI (W7.setCell ⟨vb, 1, none⟩ (.slice (some ⟨q, 0, none⟩) k k)) q k k (Dg.reachL W o) := hR7.keep (fun b h1 _ => Below.heap_setCell _ _ _ _ (by show b ≠ vb; omega))
        rw [← hL7] at hRE
        have hVw : VwAt (W7.setCell ⟨vb, 1, none⟩ (.slice (some ⟨q, 0, none⟩) k k)) vb its (Dg.reachL W o) := ⟨sv, (.slice (some ⟨q, 0, none⟩) k k), (Dg.cell_row rv 0).trans rfl, (Dg.cell_row rv 1).trans rfl, RdSp.of_own hownF, by have h9 := hRE.rd; rw [hL7] at h9; exact h9, by rw [hL7, HIL.out]⟩
        have HFin : Hid _ := SeeC.ok HP.out hbE (by omega) HW.out hVw
        clear hVw hRE hownE hownF hbE rv c1 f1 hS7 hS6 hS5 MA MT MR hR7 hr6 ho5
        go_wp2_with fail
        go_ret2
        exact HFin.out
      · obtain ⟨y, hy⟩ : ∃ y, its[k]? = some y := ⟨_, List.getElem?_eq_getElem (by rw [HIL.out]; exact hlt)⟩
        obtain ⟨b1, off1, zav, zam, zac, rfl, k0, k1, k2, k3, k4, k5, k6, k7, _⟩ := HIR.out k y hy
        have j0 := Dg.cell_later HS.out.bel k0
        have j1 := Dg.cell_later HS.out.bel k1
        have j2 := Dg.cell_later HS.out.bel k2
        have j3 := Dg.cell_later HS.out.bel k3
        have j4 := Dg.cell_later HS.out.bel k4
        have j5 := Dg.cell_later HS.out.bel k5
        have j6 := Dg.cell_later HS.out.bel k6
        have j7 := Dg.cell_later HS.out.bel k7
        have hkk : (k : Int) < (il : Int) := by omega
        clear k0 k1 k2 k3 k4 k5 k6 k7
        have HY : Hid _ := hy
        clear hy HIR
        go_wp2_with fail
        have rn := Dg.row_new w4 #[.string ⟨y.name.toArray⟩, .string ⟨y.undo.toArray⟩, .bool y.sub, .bool y.vital, .int .i64 y.alts, .int .i64 y.inn, .int .i64 y.alt, .slice zav zam zac] 40
        have HS5 : Hid _ := HS.out.later ((Below.refl w4.heap.size w4).alloc (Nat.le_refl _) (.cells #[.string ⟨y.name.toArray⟩, .string ⟨y.undo.toArray⟩, .bool y.sub, .bool y.vital, .int .i64 y.alts, .int .i64 y.inn, .int .i64 y.alt, .slice zav zam zac] 40))
        generalize w4.alloc (.cells #[.string ⟨y.name.toArray⟩, .string ⟨y.undo.toArray⟩, .bool y.sub, .bool y.vital, .int .i64 y.alts, .int .i64 y.inn, .int .i64 y.alt, .slice zav zam zac] 40) = w5 at *
        clear j0 j1 j2 j3 j4 j5 j6 j7
        have hz4 : w4.heap.size < w5.heap.size := (Array.getElem?_eq_some_iff.1 rn).1
        have hvl : vb < w4.heap.size := (Array.getElem?_eq_some_iff.1 HS.out.vw).1
        have hSd := SeS.later HS5.out ((Below.refl w5.heap.size w5).drew)
        obtain ⟨va, vc, rfl⟩ := own_slice hSd.own
        have hcg : w5.drew.cell? ⟨vb, 0, none⟩ = some (.slice va k vc) := (Dg.cell_row hSd.vw 0).trans rfl
        have MC := spotOf_any y zav zam zac w5.drew
        have hS0 : w5.drew.heap[w4.heap.size]? = some (.cells #[.string ⟨y.name.toArray⟩, .string ⟨y.undo.toArray⟩, .bool y.sub, .bool y.vital, .int .i64 y.alts, .int .i64 y.inn, .int .i64 y.alt, .slice zav zam zac] 40 (0, 0)) := rn
        have HPush : Hid (∀ W1, Below w5.drew.heap.size w5.drew W1 → ∃ ua um uc W3, (Builtin.append_ #[89, 89] 89 #[.slice va k vc, .slice (some ⟨W1.heap.size, 0, none⟩) 1 1]).run Tryd.prog (W1.alloc (.cells #[.int .i64 y.inn, .int .i64 y.alt] 73)) = .ok (.slice ua um uc) W3 ∧ W3.heap[w4.heap.size]? = some (.cells #[.string ⟨y.name.toArray⟩, .string ⟨y.undo.toArray⟩, .bool y.sub, .bool y.vital, .int .i64 y.alts, .int .i64 y.inn, .int .i64 y.alt, .slice zav zam zac] 40 (0, 0)) ∧ W3.cell? ⟨vb, 0, none⟩ = some (.slice va k vc) ∧ W3.frozen? ⟨vb, 0, none⟩ = false ∧ Hid (SeS w (.slice (some ⟨b1, off1, none⟩) il icap) its vb (k + 1) (W3.setCell ⟨vb, 0, none⟩ (.slice ua um uc)) (.slice ua um uc))) := by
          show ∀ _, _
          intro W1 hb1
          obtain ⟨ua, um, uc, W3, hr3, hg3, hv3, hs3⟩ := hSd.push y HY.out hb1 (by omega)
          have hq1 : W1.heap[w4.heap.size]? = some (.cells #[.string ⟨y.name.toArray⟩, .string ⟨y.undo.toArray⟩, .bool y.sub, .bool y.vital, .int .i64 y.alts, .int .i64 y.inn, .int .i64 y.alt, .slice zav zam zac] 40 (0, 0)) := (hb1.block _ hz4).trans rn
          have hq2 := Dg.row_alloc hq1 (.cells #[.int .i64 y.inn, .int .i64 y.alt] 73)
          have hown := own_below hSd.own (hb1.alloc hb1.size (.cells #[.int .i64 y.inn, .int .i64 y.alt] 73))
          exact ⟨ua, um, uc, W3, hr3, (hg3.block _ (Array.getElem?_eq_some_iff.1 hq2).1 (own_other hown hq2 (by decide))).trans hq2, (Dg.cell_row hv3 0).trans rfl, Dg.froz_row hv3 0, hs3⟩
        clear HS HY HS5 hSd
        refine wp_region_held (S := fun w' => w'.heap[w4.heap.size]? = some (.cells #[.string ⟨y.name.toArray⟩, .string ⟨y.undo.toArray⟩, .bool y.sub, .bool y.vital, .int .i64 y.alts, .int .i64 y.inn, .int .i64 y.alt, .slice zav zam zac] 40 (0, 0))) (by kernel_rfl) ?_
        simp only [List.size_toArray, List.length_cons, List.length_nil, Nat.reduceAdd, Array.replicate_succ, Array.replicate_zero, List.push_toArray, List.nil_append, List.cons_append]
        refine tK 0 19 (.pointer (some ⟨vb, 0, none⟩)) 11 rfl hS0 ?_
        refine tK 1 20 (.pointer (some ⟨vb, 0, none⟩)) 10 rfl hS0 ?_
        refine tG 2 21 (.pointer (some ⟨vb, 0, none⟩)) 9 rfl hS0 ?_
        refine tG 3 22 (.pointer (some ⟨vb, 0, none⟩)) 8 rfl hS0 ?_
        refine tV 5 24 (.agg #[.string ⟨y.name.toArray⟩, .string ⟨y.undo.toArray⟩, .bool y.sub, .bool y.vital, .int .i64 y.alts, .int .i64 y.inn, .int .i64 y.alt, .slice zav zam zac]) 7 rfl hS0 ?_ (fun w9 hw9 => by have z0 := (Dg.cell_row hw9 0).trans rfl; have z1 := (Dg.cell_row hw9 1).trans rfl; have z2 := (Dg.cell_row hw9 2).trans rfl; have z3 := (Dg.cell_row hw9 3).trans rfl; have z4 := (Dg.cell_row hw9 4).trans rfl; have z5 := (Dg.cell_row hw9 5).trans rfl; have z6 := (Dg.cell_row hw9 6).trans rfl; have z7 := (Dg.cell_row hw9 7).trans rfl; go_simp)
        refine wpAnyH_all (fuel := 6) (rs := [4, 6]) (by kernel_rfl) (by decide) ?_
        refine List.forall_mem_cons.2 ⟨?_, List.forall_mem_singleton.2 ?_⟩
        · refine wpOp_value (i := 4) (d := 23) (v := .slice va k vc) (w' := w5.drew) rfl rfl (by kernel_rfl) (by go_simp) ?_
          refine ⟨hS0, ?_⟩
          simp only [List.setIfInBounds_toArray, List.set_cons_succ, List.set_cons_zero]
          refine wpAnyH_all (fuel := 5) (rs := [6]) (by kernel_rfl) (by decide) ?_
          refine List.forall_mem_singleton.2 ?_
          refine wpOp_calls (i := 6) (d := 25) rfl rfl (by kernel_rfl) (f := 38) (args := #[.agg #[.string ⟨y.name.toArray⟩, .string ⟨y.undo.toArray⟩, .bool y.sub, .bool y.vital, .int .i64 y.alts, .int .i64 y.inn, .int .i64 y.alt, .slice zav zam zac]]) (by kernel_rfl) _ MC ?_ (fun _ _ h => by cases h.1) (fun _ h => by cases h.1)
          rintro vA W1 ⟨hvA, hb1⟩
          cases hvA
          obtain ⟨ua, um, uc, W3, hr3, hq3, hc3, hf3, HB3⟩ := HPush.out W1 hb1
          have hq1 : W1.heap[w4.heap.size]? = some (.cells #[.string ⟨y.name.toArray⟩, .string ⟨y.undo.toArray⟩, .bool y.sub, .bool y.vital, .int .i64 y.alts, .int .i64 y.inn, .int .i64 y.alt, .slice zav zam zac] 40 (0, 0)) := (hb1.block _ hz4).trans rn
          refine ⟨hq1, ?_⟩
          simp only [List.setIfInBounds_toArray, List.set_cons_succ, List.set_cons_zero]
          refine wpAnyH_all (fuel := 4) (rs := [7]) (by kernel_rfl) (by decide) ?_
          refine List.forall_mem_singleton.2 ?_
          refine wpOp_value (i := 7) (d := 26) (v := .slice (some ⟨W1.heap.size, 0, none⟩) 1 1) (w' := (W1.alloc (.cells #[.int .i64 y.inn, .int .i64 y.alt] 73))) rfl rfl (by kernel_rfl) (by go_simp) ?_
          refine ⟨Dg.row_alloc hq1 _, ?_⟩
          simp only [List.setIfInBounds_toArray, List.set_cons_succ, List.set_cons_zero]
          refine wpAnyH_all (fuel := 3) (rs := [8]) (by kernel_rfl) (by decide) ?_
          refine List.forall_mem_singleton.2 ?_
          refine wpOp_value (i := 8) (d := 27) (v := .slice ua um uc) (w' := W3) rfl rfl (by kernel_rfl) (by simp [execOp, resolve, invoke, builtin, hr3, Result.andThen, Act.eval]) ?_
          refine ⟨hq3, ?_⟩
          simp only [List.setIfInBounds_toArray, List.set_cons_succ, List.set_cons_zero]
          refine wpAnyH_all (fuel := 2) (rs := [9]) (by kernel_rfl) (by decide) ?_
          refine List.forall_mem_singleton.2 ?_
          refine wpOp_value (i := 9) (d := 28) (v := .pointer (some ⟨vb, 0, none⟩)) (w' := W3) rfl rfl (by kernel_rfl) (by go_simp) ?_
          refine ⟨hq3, ?_⟩
          simp only [List.setIfInBounds_toArray, List.set_cons_succ, List.set_cons_zero]
          refine wpAnyH_all (fuel := 1) (rs := [10]) (by kernel_rfl) (by decide) ?_
          refine List.forall_mem_singleton.2 ?_
          refine wpOp_value (i := 10) (d := 29) (v := .pointer (some ⟨vb, 0, none⟩)) (w' := W3) rfl rfl (by kernel_rfl) (by go_simp) ?_
          refine ⟨hq3, ?_⟩
          simp only [List.setIfInBounds_toArray, List.set_cons_succ, List.set_cons_zero]
          refine wpAnyH_all (fuel := 0) (rs := [11]) (by kernel_rfl) (by decide) ?_
          refine List.forall_mem_singleton.2 ?_
          refine wpOp_skip (i := 11) (w' := W3.setCell ⟨vb, 0, none⟩ (.slice ua um uc)) rfl rfl (by kernel_rfl) (by go_simp) ?_
          refine ⟨Dg.row_other hq3 _ (by omega), by kernel_rfl, ?_⟩
          clear hr3 hq3 hc3 hf3 hq1 MC HPush hcg hS0 rn
          go_wp2_with fail
          go_roundw
          case rel => exact ⟨k + 1, _, by omega, by go_num, HB3⟩
          case measure => simp [intOf]; omega
        · refine wpOp_calls (i := 6) (d := 25) rfl rfl (by kernel_rfl) (f := 38) (args := #[.agg #[.string ⟨y.name.toArray⟩, .string ⟨y.undo.toArray⟩, .bool y.sub, .bool y.vital, .int .i64 y.alts, .int .i64 y.inn, .int .i64 y.alt, .slice zav zam zac]]) (by kernel_rfl) _ MC ?_ (fun _ _ h => by cases h.1) (fun _ h => by cases h.1)
          rintro vA W1 ⟨hvA, hb1⟩
          cases hvA
          obtain ⟨ua, um, uc, W3, hr3, hq3, hc3, hf3, HB3⟩ := HPush.out W1 hb1
          have hq1 : W1.heap[w4.heap.size]? = some (.cells #[.string ⟨y.name.toArray⟩, .string ⟨y.undo.toArray⟩, .bool y.sub, .bool y.vital, .int .i64 y.alts, .int .i64 y.inn, .int .i64 y.alt, .slice zav zam zac] 40 (0, 0)) := (hb1.block _ hz4).trans rn
          have hcg1 := Dg.cell_later hb1 hcg
          refine ⟨hq1, ?_⟩
          simp only [List.setIfInBounds_toArray, List.set_cons_succ, List.set_cons_zero]
          refine wpAnyH_all (fuel := 5) (rs := [4, 7]) (by kernel_rfl) (by decide) ?_
          refine List.forall_mem_cons.2 ⟨?_, List.forall_mem_singleton.2 ?_⟩
          · refine wpOp_value (i := 4) (d := 23) (v := .slice va k vc) (w' := W1) rfl rfl (by kernel_rfl) (by go_simp) ?_
            refine ⟨hq1, ?_⟩
            simp only [List.setIfInBounds_toArray, List.set_cons_succ, List.set_cons_zero]
            refine wpAnyH_all (fuel := 4) (rs := [7]) (by kernel_rfl) (by decide) ?_
            refine List.forall_mem_singleton.2 ?_
            refine wpOp_value (i := 7) (d := 26) (v := .slice (some ⟨W1.heap.size, 0, none⟩) 1 1) (w' := (W1.alloc (.cells #[.int .i64 y.inn, .int .i64 y.alt] 73))) rfl rfl (by kernel_rfl) (by go_simp) ?_
            refine ⟨Dg.row_alloc hq1 _, ?_⟩
            simp only [List.setIfInBounds_toArray, List.set_cons_succ, List.set_cons_zero]
            refine wpAnyH_all (fuel := 3) (rs := [8]) (by kernel_rfl) (by decide) ?_
            refine List.forall_mem_singleton.2 ?_
            refine wpOp_value (i := 8) (d := 27) (v := .slice ua um uc) (w' := W3) rfl rfl (by kernel_rfl) (by simp [execOp, resolve, invoke, builtin, hr3, Result.andThen, Act.eval]) ?_
            refine ⟨hq3, ?_⟩
            simp only [List.setIfInBounds_toArray, List.set_cons_succ, List.set_cons_zero]
            refine wpAnyH_all (fuel := 2) (rs := [9]) (by kernel_rfl) (by decide) ?_
            refine List.forall_mem_singleton.2 ?_
            refine wpOp_value (i := 9) (d := 28) (v := .pointer (some ⟨vb, 0, none⟩)) (w' := W3) rfl rfl (by kernel_rfl) (by go_simp) ?_
            refine ⟨hq3, ?_⟩
            simp only [List.setIfInBounds_toArray, List.set_cons_succ, List.set_cons_zero]
            refine wpAnyH_all (fuel := 1) (rs := [10]) (by kernel_rfl) (by decide) ?_
            refine List.forall_mem_singleton.2 ?_
            refine wpOp_value (i := 10) (d := 29) (v := .pointer (some ⟨vb, 0, none⟩)) (w' := W3) rfl rfl (by kernel_rfl) (by go_simp) ?_
            refine ⟨hq3, ?_⟩
            simp only [List.setIfInBounds_toArray, List.set_cons_succ, List.set_cons_zero]
            refine wpAnyH_all (fuel := 0) (rs := [11]) (by kernel_rfl) (by decide) ?_
            refine List.forall_mem_singleton.2 ?_
            refine wpOp_skip (i := 11) (w' := W3.setCell ⟨vb, 0, none⟩ (.slice ua um uc)) rfl rfl (by kernel_rfl) (by go_simp) ?_
            refine ⟨Dg.row_other hq3 _ (by omega), by kernel_rfl, ?_⟩
            clear hr3 hq3 hc3 hf3 hq1 MC HPush hcg hS0 rn
            go_wp2_with fail
            go_roundw
            case rel => exact ⟨k + 1, _, by omega, by go_num, HB3⟩
            case measure => simp [intOf]; omega
          · refine wpOp_value (i := 7) (d := 26) (v := .slice (some ⟨W1.heap.size, 0, none⟩) 1 1) (w' := (W1.alloc (.cells #[.int .i64 y.inn, .int .i64 y.alt] 73))) rfl rfl (by kernel_rfl) (by go_simp) ?_
            refine ⟨Dg.row_alloc hq1 _, ?_⟩
            simp only [List.setIfInBounds_toArray, List.set_cons_succ, List.set_cons_zero]
            refine wpAnyH_all (fuel := 4) (rs := [4]) (by kernel_rfl) (by decide) ?_
            refine List.forall_mem_singleton.2 ?_
            have hcg2 := Dg.cell_later ((Below.refl W1.heap.size W1).alloc (Nat.le_refl _) (.cells #[.int .i64 y.inn, .int .i64 y.alt] 73)) hcg1
            refine wpOp_value (i := 4) (d := 23) (v := .slice va k vc) (w' := (W1.alloc (.cells #[.int .i64 y.inn, .int .i64 y.alt] 73))) rfl rfl (by kernel_rfl) (by go_simp) ?_
            refine ⟨Dg.row_alloc hq1 _, ?_⟩
            simp only [List.setIfInBounds_toArray, List.set_cons_succ, List.set_cons_zero]
            refine wpAnyH_all (fuel := 3) (rs := [8]) (by kernel_rfl) (by decide) ?_
            refine List.forall_mem_singleton.2 ?_
            refine wpOp_value (i := 8) (d := 27) (v := .slice ua um uc) (w' := W3) rfl rfl (by kernel_rfl) (by simp [execOp, resolve, invoke, builtin, hr3, Result.andThen, Act.eval]) ?_
            refine ⟨hq3, ?_⟩
            simp only [List.setIfInBounds_toArray, List.set_cons_succ, List.set_cons_zero]
            refine wpAnyH_all (fuel := 2) (rs := [9]) (by kernel_rfl) (by decide) ?_
            refine List.forall_mem_singleton.2 ?_
            refine wpOp_value (i := 9) (d := 28) (v := .pointer (some ⟨vb, 0, none⟩)) (w' := W3) rfl rfl (by kernel_rfl) (by go_simp) ?_
            refine ⟨hq3, ?_⟩
            simp only [List.setIfInBounds_toArray, List.set_cons_succ, List.set_cons_zero]
            refine wpAnyH_all (fuel := 1) (rs := [10]) (by kernel_rfl) (by decide) ?_
            refine List.forall_mem_singleton.2 ?_
            refine wpOp_value (i := 10) (d := 29) (v := .pointer (some ⟨vb, 0, none⟩)) (w' := W3) rfl rfl (by kernel_rfl) (by go_simp) ?_
            refine ⟨hq3, ?_⟩
            simp only [List.setIfInBounds_toArray, List.set_cons_succ, List.set_cons_zero]
            refine wpAnyH_all (fuel := 0) (rs := [11]) (by kernel_rfl) (by decide) ?_
            refine List.forall_mem_singleton.2 ?_
            refine wpOp_skip (i := 11) (w' := W3.setCell ⟨vb, 0, none⟩ (.slice ua um uc)) rfl rfl (by kernel_rfl) (by go_simp) ?_
            refine ⟨Dg.row_other hq3 _ (by omega), by kernel_rfl, ?_⟩
            clear hr3 hq3 hc3 hf3 hq1 MC HPush hcg hS0 rn
            go_wp2_with fail
            go_roundw
            case rel => exact ⟨k + 1, _, by omega, by go_num, HB3⟩
            case measure => simp [intOf]; omega

end Go.Proofs.YteghapmlnkhepaaDoor

/- The program's Kids, Above and Over, where there is no such item; Above and Over of a plan. -/
namespace Go.Proofs.YteghapmlnkhepaaDoor

open Go.RowKit Go.Shelf Go.Proofs.YteghapmlnkhepaaDoor.Sx

/-- What leans on an item, or nothing. -/
def overL (ov : List (List Nat)) (i : Int) : List Nat := if 0 ≤ i ∧ i < (ov.length : Int) then ov.getD i.toNat [] else []

end Go.Proofs.YteghapmlnkhepaaDoor

/- The program's Over of a plan. -/
namespace Go.Proofs.YteghapmlnkhepaaDoor

open Go.RowKit Go.Shelf Go.Proofs.YteghapmlnkhepaaDoor.Sx

/-- Of each item of a plan the items that lean on it. -/
noncomputable def ovT (its : List It) : List (List Nat) := match Dg.weaveP (its.length : Int) (Dg.swapA (arcP its)) with
  | .ok W o => Dg.reachL W o
  | .bad _ => []

/-- What Over tells of a plan. -/
noncomputable def overI (its : List It) (i : Int) : List Nat := if (sagaP its).isSome then overL (ovT its) i else []

end Go.Proofs.YteghapmlnkhepaaDoor

