/- Texts of the seat, packed: Yk Yo. -/
import Derived.Test.YtlegmmhacnbnlaaGreatDoorP13
import Derived.Test.YtlegmmhacnbnlaaGreatDoorP46
/- The program's See: the walk. -/
namespace Go.Proofs.YtlegmmhacnbnlaaGreatDoor

open Go.RowKit Go.Shelf Go.Proofs.YtlegmmhacnbnlaaGreatDoor.Sx

theorem RdSp.of_own {A : World} {base : Nat} {sv : Value} {its : List It} (h : A.ownsRow base 72 2 sv its.length (spV its)) : RdSp A sv its := by
  have hl : (spV its).length = its.length * 2 := by
    clear h
    induction its with
    | nil => rfl
    | cons x r ih => simp only [spV, List.length_cons, ih]; omega
  rcases h.2 with ⟨rfl, h0⟩ | ⟨g, cap, cur, rfl, _, _, hc, _⟩
  · have : its = [] := List.length_eq_zero_iff.1 h0
    subst this
    exact ⟨none, 0, rfl, Nat.le_refl _, fun i x hi => by simp at hi⟩
  · refine ⟨_, cap, rfl, hc, fun i x hi => ?_⟩
    have hil := (List.getElem?_eq_some_iff.1 hi).1
    obtain ⟨h1, h2⟩ := spV_at its i x hi
    refine ⟨g, 0, rfl, ?_, ?_⟩
    · rw [Nat.zero_add, h.cellAt (i * 2) (by omega)]
      exact h1
    · rw [Nat.zero_add, h.cellAt (i * 2 + 1) (by omega)]
      exact h2

set_option maxRecDepth 1000000 in
set_option maxHeartbeats 4000000 in
theorem See_any (its : List It) (v : Value) (w : World) (hIt : RdIt w v its) (hF : FairI its) (hT : Dg.Tab w) :
    Calls Tryz.prog 15 #[.agg #[v]] w fun e w' => SeeC its w e w' := by
  have HIt : Hid (RdIt w v its) := hIt
  have HTb : Hid (Dg.Tab w) := hT
  have hb1 : Below w.heap.size w (w.alloc (.cells #[v] 24)) := (Below.refl _ w).alloc (Nat.le_refl _) _
  have r1 := Dg.row_new w #[v] 24
  have M : Hid _ := Right_any its v _ (hIt.later hb1) hF (hT.later hb1)
  clear hT
  obtain ⟨ia, icap, rfl, hic, hir⟩ := hIt
  have g0 := (Dg.cell_row r1 0).trans rfl
  go_enter Tryz.func15, Tryz.ntmps15
  go_wp2_with fail
  generalize w.alloc (.cells #[.slice ia its.length icap] 24) = w1 at *
  have hz1 : w.heap.size < w1.heap.size := (Array.getElem?_eq_some_iff.1 r1).1
  refine Calls.mono M.out ?_
  rintro e w2 ⟨rfl, hb2⟩
  clear M g0
  have hbl2 := hb1.trans (hb2.mono hb1.size)
  have s1 := (hb2.block _ hz1).trans r1
  have hz2 := Nat.lt_of_lt_of_le hz1 hb2.size
  clear r1 hz1 hb1 hb2
  cases hP : sagaP its with
  | none =>
    have HP : Hid _ := hP
    clear hP
    go_wp2_with fail
    go_ret2
    exact SeeC.bad HP.out hbl2
  | some p =>
    have HP : Hid _ := hP
    obtain ⟨h64, hN, hSm, h8k, W, o, hW⟩ := right_facts hP
    clear hP
    have g0 := (Dg.cell_row (Dg.row_alloc s1 (.cells #[.slice none 0 0, .slice none 0 0] 70)) 0).trans rfl
    have HS0 : Hid (SeS w (.slice ia its.length icap) its w2.heap.size 0 (w2.alloc (.cells #[.slice none 0 0, .slice none 0 0] 70)) (.slice none 0 0)) := ⟨hbl2.alloc hbl2.size _, Dg.row_alloc s1 _, Dg.row_new w2 _ 70, hz2, World.ownsRow_nil _ _ _ _⟩
    obtain ⟨il, HIL⟩ : ∃ il, Hid (its.length = il) := ⟨_, rfl⟩
    have HIR : Hid _ := hir
    have HN : Hid _ := hN
    have HSm : Hid _ := hSm
    have H8 : Hid _ := h8k
    have HW : Hid _ := hW
    have hil : il ≤ 64 := by rw [← HIL.out]; exact h64
    rw [HIL.out] at hic HS0 g0 ⊢
    clear hir hN hSm h8k hW h64 s1 hbl2
    go_wp2_with fail
    generalize w2.alloc (.cells #[.slice none 0 0, .slice none 0 0] 70) = w3 at *
    clear g0
    obtain ⟨vb, hvb⟩ : ∃ vb, w2.heap.size = vb := ⟨_, rfl⟩
    rw [hvb] at HS0 ⊢
    go_loopw [15] (fun kv wr => ∃ (k : Nat) (sv : Value), k ≤ il ∧ kv = .int .i64 k ∧ Hid (SeS w (.slice ia il icap) its vb k wr sv)) (fun kv _ => il - (intOf kv).toNat)
    case atStart => exact ⟨0, _, Nat.zero_le _, rfl, HS0⟩
    case round =>
      obtain ⟨k, sv, hk, rfl, HS⟩ := hrel
      rename World => w4
      clear HS0
      by_cases hlt : k < il
      rotate_left
      · have hke : k = il := by omega
        subst hke
        go_wp2_with fail
        have hS0 : w4.drew.heap[w.heap.size]? = some (.cells #[(.slice ia k icap)] 24 (0, 0)) := HS.out.box
        have hbd : Below w4.heap.size w4 w4.drew := (Below.refl _ _).drew
        have MA := arcs_any its _ w4.drew (HIt.out.later (HS.out.bel.drew)) (by rw [HIL.out]; omega) HN.out
        rw [HIL.out] at MA
        refine wp_region_held (S := fun w' => w'.heap[w.heap.size]? = some (.cells #[(.slice ia k icap)] 24 (0, 0))) (by kernel_rfl) ?_
        simp only [List.size_toArray, List.length_cons, List.length_nil, Nat.reduceAdd, Array.replicate_succ, Array.replicate_zero, List.push_toArray, List.nil_append, List.cons_append]
        refine tK 0 32 (.pointer (some ⟨vb, 0, none⟩)) 14 rfl hS0 ?_
        refine tG 1 33 (.pointer (some ⟨w.heap.size, 0, none⟩)) 13 rfl hS0 ?_
        refine tV 2 34 (.slice ia k icap) 12 rfl hS0 ?_ (fun w9 hw9 => by have z0 := (Dg.cell_row hw9 0).trans rfl; go_simp)
        refine tG 3 35 (.int .i64 (k : Int)) 11 rfl hS0 ?_
        refine tG 4 36 (.pointer (some ⟨w.heap.size, 0, none⟩)) 10 rfl hS0 ?_
        refine tV 5 37 (.slice ia k icap) 9 rfl hS0 ?_ (fun w9 hw9 => by have z0 := (Dg.cell_row hw9 0).trans rfl; go_simp)
        refine wpAnyH_all (fuel := 8) (rs := [6]) (by kernel_rfl) (by decide) ?_
        refine List.forall_mem_singleton.2 ?_
        refine wpOp_calls (i := 6) (d := 38) rfl rfl (by kernel_rfl) (f := 32) (args := #[(.slice ia k icap)]) (by kernel_rfl) _ MA ?_ (fun _ _ h => by obtain ⟨_, _, h9, _⟩ := h; cases h9) (fun _ h => by obtain ⟨_, _, h9, _⟩ := h; cases h9)
        rintro vA W5 ⟨hb5, u5, h5, ho5⟩
        cases h5
        have hb45 := hbd.trans (hb5.mono (Nat.le_refl _))
        have hS5 := HS.out.later hb45
        refine ⟨hS5.box, ?_⟩
        simp only [List.setIfInBounds_toArray, List.set_cons_succ, List.set_cons_zero]
        have MT := Dg.Turn_any vA (arcP its) W5 (Dg.RdA.of_own ho5 HSm.out) H8.out
        refine wpAnyH_all (fuel := 7) (rs := [7]) (by kernel_rfl) (by decide) ?_
        refine List.forall_mem_singleton.2 ?_
        refine wpOp_calls (i := 7) (d := 39) rfl rfl (by kernel_rfl) (f := 31) (args := #[vA]) (by kernel_rfl) _ MT ?_ (fun _ _ h => by obtain ⟨_, _, h9, _⟩ := h; cases h9) (fun _ h => by obtain ⟨_, _, h9, _⟩ := h; cases h9)
        rintro vB W6 ⟨hb6, u6, h6, hr6⟩
        cases h6
        have hS6 := hS5.later hb6
        refine ⟨hS6.box, ?_⟩
        simp only [List.setIfInBounds_toArray, List.set_cons_succ, List.set_cons_zero]
        have MR := Dg.Reach_rows (k : Int) vB (Dg.swapA (arcP its)) W6 hr6 (Dg.Tab.later HTb.out hS6.bel)
        have hW := HW.out
        rw [HIL.out] at hW
        unfold Dg.ReachQ at MR
        rw [hW] at MR
        simp only [Int.toNat_natCast] at MR
        refine wpAnyH_all (fuel := 6) (rs := [8]) (by kernel_rfl) (by decide) ?_
        refine List.forall_mem_singleton.2 ?_
        refine wpOp_calls (i := 8) (d := 40) rfl rfl (by kernel_rfl) (f := 30) (args := #[.int .i64 (k : Int), vB]) (by kernel_rfl) _ MR ?_ (fun _ _ h => by obtain ⟨_, _, h9, _⟩ := h; cases h9) (fun _ h => by obtain ⟨_, _, h9, _⟩ := h; cases h9)
        rintro vC W7 ⟨hb7, q, h7, hq7, hR7, hL7⟩
        cases h7
        have hS7 := hS6.later hb7
        refine ⟨hS7.box, ?_⟩
        simp only [List.setIfInBounds_toArray, List.set_cons_succ, List.set_cons_zero]
        refine tK 9 31 (.tuple #[(.slice (some ⟨q, 0, none⟩) k k), .int .i64 0]) 5 rfl hS7.box ?_
        refine tK 10 41 ((.slice (some ⟨q, 0, none⟩) k k)) 4 rfl hS7.box ?_
        refine tK 11 42 (.int .i64 0) 3 rfl hS7.box ?_
        refine tG 12 43 (.pointer (some ⟨vb, 0, none⟩)) 2 rfl hS7.box ?_
        refine tG 13 44 (.pointer (some ⟨vb, 1, none⟩)) 1 rfl hS7.box ?_
        refine wpAnyH_all (fuel := 0) (rs := [14]) (by kernel_rfl) (by decide) ?_
        refine List.forall_mem_singleton.2 ?_
        have c1 := (Dg.cell_row hS7.vw 1).trans rfl
        have f1 := Dg.froz_row hS7.vw 1
        refine wpOp_skip (i := 14) (w' := W7.setCell ⟨vb, 1, none⟩ (.slice (some ⟨q, 0, none⟩) k k)) rfl rfl (by kernel_rfl) (by go_simp) ?_
        have hge := hS7.ge
        refine ⟨Dg.row_other hS7.box _ (by omega), by kernel_rfl, ?_⟩
        have hvlt : vb < W6.heap.size := (Array.getElem?_eq_some_iff.1 hS6.vw).1
        have rv := Dg.row_set hS7.vw 1 (.slice (some ⟨q, 0, none⟩) k k)
        have hbE : Below w.heap.size w (W7.setCell ⟨vb, 1, none⟩ (.slice (some ⟨q, 0, none⟩) k k)) := hS7.bel.setCell (by show _ ≤ vb; omega) _
        have hownE := own_agree (G := fun b => b ≠ vb) (A := W7) (B := W7.setCell ⟨vb, 1, none⟩ (.slice (some ⟨q, 0, none⟩) k k)) (fun b hb' => Below.heap_setCell _ _ _ _ hb') hS7.own (fun b hb' e => own_other hS7.own hS7.vw (by decide) (e ▸ hb'.symm))
        have hownF : (W7.setCell ⟨vb, 1, none⟩ (.slice (some ⟨q, 0, none⟩) k k)).ownsRow w.heap.size 72 2 sv its.length (spV its) := by
          rw [show its.take k = its from by rw [← HIL.out, List.take_length]] at hownE
          rw [HIL.out]
          exact hownE
        have hRE : Dg.RowsI (W7.setCell ⟨vb, 1, none⟩ (.slice (some ⟨q, 0, none⟩) k k)) q k k (Dg.reachL W o) := hR7.keep (fun b h1 _ => Below.heap_setCell _ _ _ _ (by show b ≠ vb; omega))
        rw [← hL7] at hRE
        have hVw : VwAt (W7.setCell ⟨vb, 1, none⟩ (.slice (some ⟨q, 0, none⟩) k k)) vb its (Dg.reachL W o) := ⟨sv, (.slice (some ⟨q, 0, none⟩) k k), (Dg.cell_row rv 0).trans rfl, (Dg.cell_row rv 1).trans rfl, RdSp.of_own hownF, by have h9 := hRE.rd; rw [hL7] at h9; exact h9, by rw [hL7, HIL.out]⟩
        have HFin : Hid _ := SeeC.ok HP.out hbE (by omega) HW.out hVw
        clear hVw hRE hownE hownF hbE rv c1 f1 hS7 hS6 hS5 MA MT MR hR7 hr6 ho5
        go_wp2_with fail
        go_ret2
        exact HFin.out
      · obtain ⟨y, hy⟩ : ∃ y, its[k]? = some y := ⟨_, List.getElem?_eq_getElem (by rw [HIL.out]; exact hlt)⟩
        obtain ⟨b1, off1, zav, zam, zac, rfl, k0, k1, k2, k3, k4, k5, k6, k7, _⟩ := HIR.out k y hy
        have j0 := Dg.cell_later HS.out.bel k0
        have j1 := Dg.cell_later HS.out.bel k1
        have j2 := Dg.cell_later HS.out.bel k2
        have j3 := Dg.cell_later HS.out.bel k3
        have j4 := Dg.cell_later HS.out.bel k4
        have j5 := Dg.cell_later HS.out.bel k5
        have j6 := Dg.cell_later HS.out.bel k6
        have j7 := Dg.cell_later HS.out.bel k7
        have hkk : (k : Int) < (il : Int) := by omega
        clear k0 k1 k2 k3 k4 k5 k6 k7
        have HY : Hid _ := hy
        clear hy HIR
        go_wp2_with fail
        have rn := Dg.row_new w4 #[.string ⟨y.name.toArray⟩, .string ⟨y.undo.toArray⟩, .bool y.sub, .bool y.vital, .int .i64 y.alts, .int .i64 y.inn, .int .i64 y.alt, .slice zav zam zac] 34
        have HS5 : Hid _ := HS.out.later ((Below.refl w4.heap.size w4).alloc (Nat.le_refl _) (.cells #[.string ⟨y.name.toArray⟩, .string ⟨y.undo.toArray⟩, .bool y.sub, .bool y.vital, .int .i64 y.alts, .int .i64 y.inn, .int .i64 y.alt, .slice zav zam zac] 34))
        generalize w4.alloc (.cells #[.string ⟨y.name.toArray⟩, .string ⟨y.undo.toArray⟩, .bool y.sub, .bool y.vital, .int .i64 y.alts, .int .i64 y.inn, .int .i64 y.alt, .slice zav zam zac] 34) = w5 at *
        clear j0 j1 j2 j3 j4 j5 j6 j7
        have hz4 : w4.heap.size < w5.heap.size := (Array.getElem?_eq_some_iff.1 rn).1
        have hvl : vb < w4.heap.size := (Array.getElem?_eq_some_iff.1 HS.out.vw).1
        have hSd := SeS.later HS5.out ((Below.refl w5.heap.size w5).drew)
        obtain ⟨va, vc, rfl⟩ := own_slice hSd.own
        have hcg : w5.drew.cell? ⟨vb, 0, none⟩ = some (.slice va k vc) := (Dg.cell_row hSd.vw 0).trans rfl
        have MC := spotOf_any y zav zam zac w5.drew
        have hS0 : w5.drew.heap[w4.heap.size]? = some (.cells #[.string ⟨y.name.toArray⟩, .string ⟨y.undo.toArray⟩, .bool y.sub, .bool y.vital, .int .i64 y.alts, .int .i64 y.inn, .int .i64 y.alt, .slice zav zam zac] 34 (0, 0)) := rn
        have HPush : Hid (∀ W1, Below w5.drew.heap.size w5.drew W1 → ∃ ua um uc W3, (Builtin.append_ #[67, 67] 67 #[.slice va k vc, .slice (some ⟨W1.heap.size, 0, none⟩) 1 1]).run Tryz.prog (W1.alloc (.cells #[.int .i64 y.inn, .int .i64 y.alt] 72)) = .ok (.slice ua um uc) W3 ∧ W3.heap[w4.heap.size]? = some (.cells #[.string ⟨y.name.toArray⟩, .string ⟨y.undo.toArray⟩, .bool y.sub, .bool y.vital, .int .i64 y.alts, .int .i64 y.inn, .int .i64 y.alt, .slice zav zam zac] 34 (0, 0)) ∧ W3.cell? ⟨vb, 0, none⟩ = some (.slice va k vc) ∧ W3.frozen? ⟨vb, 0, none⟩ = false ∧ Hid (SeS w (.slice (some ⟨b1, off1, none⟩) il icap) its vb (k + 1) (W3.setCell ⟨vb, 0, none⟩ (.slice ua um uc)) (.slice ua um uc))) := by
          show ∀ _, _
          intro W1 hb1
          obtain ⟨ua, um, uc, W3, hr3, hg3, hv3, hs3⟩ := hSd.push y HY.out hb1 (by omega)
          have hq1 : W1.heap[w4.heap.size]? = some (.cells #[.string ⟨y.name.toArray⟩, .string ⟨y.undo.toArray⟩, .bool y.sub, .bool y.vital, .int .i64 y.alts, .int .i64 y.inn, .int .i64 y.alt, .slice zav zam zac] 34 (0, 0)) := (hb1.block _ hz4).trans rn
          have hq2 := Dg.row_alloc hq1 (.cells #[.int .i64 y.inn, .int .i64 y.alt] 72)
          have hown := own_below hSd.own (hb1.alloc hb1.size (.cells #[.int .i64 y.inn, .int .i64 y.alt] 72))
          exact ⟨ua, um, uc, W3, hr3, (hg3.block _ (Array.getElem?_eq_some_iff.1 hq2).1 (own_other hown hq2 (by decide))).trans hq2, (Dg.cell_row hv3 0).trans rfl, Dg.froz_row hv3 0, hs3⟩
        clear HS HY HS5 hSd
        refine wp_region_held (S := fun w' => w'.heap[w4.heap.size]? = some (.cells #[.string ⟨y.name.toArray⟩, .string ⟨y.undo.toArray⟩, .bool y.sub, .bool y.vital, .int .i64 y.alts, .int .i64 y.inn, .int .i64 y.alt, .slice zav zam zac] 34 (0, 0))) (by kernel_rfl) ?_
        simp only [List.size_toArray, List.length_cons, List.length_nil, Nat.reduceAdd, Array.replicate_succ, Array.replicate_zero, List.push_toArray, List.nil_append, List.cons_append]
        refine tK 0 19 (.pointer (some ⟨vb, 0, none⟩)) 11 rfl hS0 ?_
        refine tK 1 20 (.pointer (some ⟨vb, 0, none⟩)) 10 rfl hS0 ?_
        refine tG 2 21 (.pointer (some ⟨vb, 0, none⟩)) 9 rfl hS0 ?_
        refine tG 3 22 (.pointer (some ⟨vb, 0, none⟩)) 8 rfl hS0 ?_
        refine tV 5 24 (.agg #[.string ⟨y.name.toArray⟩, .string ⟨y.undo.toArray⟩, .bool y.sub, .bool y.vital, .int .i64 y.alts, .int .i64 y.inn, .int .i64 y.alt, .slice zav zam zac]) 7 rfl hS0 ?_ (fun w9 hw9 => by have z0 := (Dg.cell_row hw9 0).trans rfl; have z1 := (Dg.cell_row hw9 1).trans rfl; have z2 := (Dg.cell_row hw9 2).trans rfl; have z3 := (Dg.cell_row hw9 3).trans rfl; have z4 := (Dg.cell_row hw9 4).trans rfl; have z5 := (Dg.cell_row hw9 5).trans rfl; have z6 := (Dg.cell_row hw9 6).trans rfl; have z7 := (Dg.cell_row hw9 7).trans rfl; go_simp)
        refine wpAnyH_all (fuel := 6) (rs := [4, 6]) (by kernel_rfl) (by decide) ?_
        refine List.forall_mem_cons.2 ⟨?_, List.forall_mem_singleton.2 ?_⟩
        · refine wpOp_value (i := 4) (d := 23) (v := .slice va k vc) (w' := w5.drew) rfl rfl (by kernel_rfl) (by go_simp) ?_
          refine ⟨hS0, ?_⟩
          simp only [List.setIfInBounds_toArray, List.set_cons_succ, List.set_cons_zero]
          refine wpAnyH_all (fuel := 5) (rs := [6]) (by kernel_rfl) (by decide) ?_
          refine List.forall_mem_singleton.2 ?_
          refine wpOp_calls (i := 6) (d := 25) rfl rfl (by kernel_rfl) (f := 29) (args := #[.agg #[.string ⟨y.name.toArray⟩, .string ⟨y.undo.toArray⟩, .bool y.sub, .bool y.vital, .int .i64 y.alts, .int .i64 y.inn, .int .i64 y.alt, .slice zav zam zac]]) (by kernel_rfl) _ MC ?_ (fun _ _ h => by cases h.1) (fun _ h => by cases h.1)
          rintro vA W1 ⟨hvA, hb1⟩
          cases hvA
          obtain ⟨ua, um, uc, W3, hr3, hq3, hc3, hf3, HB3⟩ := HPush.out W1 hb1
          have hq1 : W1.heap[w4.heap.size]? = some (.cells #[.string ⟨y.name.toArray⟩, .string ⟨y.undo.toArray⟩, .bool y.sub, .bool y.vital, .int .i64 y.alts, .int .i64 y.inn, .int .i64 y.alt, .slice zav zam zac] 34 (0, 0)) := (hb1.block _ hz4).trans rn
          refine ⟨hq1, ?_⟩
          simp only [List.setIfInBounds_toArray, List.set_cons_succ, List.set_cons_zero]
          refine wpAnyH_all (fuel := 4) (rs := [7]) (by kernel_rfl) (by decide) ?_
          refine List.forall_mem_singleton.2 ?_
          refine wpOp_value (i := 7) (d := 26) (v := .slice (some ⟨W1.heap.size, 0, none⟩) 1 1) (w' := (W1.alloc (.cells #[.int .i64 y.inn, .int .i64 y.alt] 72))) rfl rfl (by kernel_rfl) (by go_simp) ?_
          refine ⟨Dg.row_alloc hq1 _, ?_⟩
          simp only [List.setIfInBounds_toArray, List.set_cons_succ, List.set_cons_zero]
          refine wpAnyH_all (fuel := 3) (rs := [8]) (by kernel_rfl) (by decide) ?_
          refine List.forall_mem_singleton.2 ?_
          refine wpOp_value (i := 8) (d := 27) (v := .slice ua um uc) (w' := W3) rfl rfl (by kernel_rfl) (by simp [execOp, resolve, invoke, builtin, hr3, Result.andThen, Act.eval]) ?_
          refine ⟨hq3, ?_⟩
          simp only [List.setIfInBounds_toArray, List.set_cons_succ, List.set_cons_zero]
          refine wpAnyH_all (fuel := 2) (rs := [9]) (by kernel_rfl) (by decide) ?_
          refine List.forall_mem_singleton.2 ?_
          refine wpOp_value (i := 9) (d := 28) (v := .pointer (some ⟨vb, 0, none⟩)) (w' := W3) rfl rfl (by kernel_rfl) (by go_simp) ?_
          refine ⟨hq3, ?_⟩
          simp only [List.setIfInBounds_toArray, List.set_cons_succ, List.set_cons_zero]
          refine wpAnyH_all (fuel := 1) (rs := [10]) (by kernel_rfl) (by decide) ?_
          refine List.forall_mem_singleton.2 ?_
          refine wpOp_value (i := 10) (d := 29) (v := .pointer (some ⟨vb, 0, none⟩)) (w' := W3) rfl rfl (by kernel_rfl) (by go_simp) ?_
          refine ⟨hq3, ?_⟩
          simp only [List.setIfInBounds_toArray, List.set_cons_succ, List.set_cons_zero]
          refine wpAnyH_all (fuel := 0) (rs := [11]) (by kernel_rfl) (by decide) ?_
          refine List.forall_mem_singleton.2 ?_
          refine wpOp_skip (i := 11) (w' := W3.setCell ⟨vb, 0, none⟩ (.slice ua um uc)) rfl rfl (by kernel_rfl) (by go_simp) ?_
          refine ⟨Dg.row_other hq3 _ (by omega), by kernel_rfl, ?_⟩
          clear hr3 hq3 hc3 hf3 hq1 MC HPush hcg hS0 rn
          go_wp2_with fail
          go_roundw
          case rel => exact ⟨k + 1, _, by omega, by go_num, HB3⟩
          case measure => simp [intOf]; omega
        · refine wpOp_calls (i := 6) (d := 25) rfl rfl (by kernel_rfl) (f := 29) (args := #[.agg #[.string ⟨y.name.toArray⟩, .string ⟨y.undo.toArray⟩, .bool y.sub, .bool y.vital, .int .i64 y.alts, .int .i64 y.inn, .int .i64 y.alt, .slice zav zam zac]]) (by kernel_rfl) _ MC ?_ (fun _ _ h => by cases h.1) (fun _ h => by cases h.1)
          rintro vA W1 ⟨hvA, hb1⟩
          cases hvA
          obtain ⟨ua, um, uc, W3, hr3, hq3, hc3, hf3, HB3⟩ := HPush.out W1 hb1
          have hq1 : W1.heap[w4.heap.size]? = some (.cells #[.string ⟨y.name.toArray⟩, .string ⟨y.undo.toArray⟩, .bool y.sub, .bool y.vital, .int .i64 y.alts, .int .i64 y.inn, .int .i64 y.alt, .slice zav zam zac] 34 (0, 0)) := (hb1.block _ hz4).trans rn
          have hcg1 := Dg.cell_later hb1 hcg
          refine ⟨hq1, ?_⟩
          simp only [List.setIfInBounds_toArray, List.set_cons_succ, List.set_cons_zero]
          refine wpAnyH_all (fuel := 5) (rs := [4, 7]) (by kernel_rfl) (by decide) ?_
          refine List.forall_mem_cons.2 ⟨?_, List.forall_mem_singleton.2 ?_⟩
          · refine wpOp_value (i := 4) (d := 23) (v := .slice va k vc) (w' := W1) rfl rfl (by kernel_rfl) (by go_simp) ?_
            refine ⟨hq1, ?_⟩
            simp only [List.setIfInBounds_toArray, List.set_cons_succ, List.set_cons_zero]
            refine wpAnyH_all (fuel := 4) (rs := [7]) (by kernel_rfl) (by decide) ?_
            refine List.forall_mem_singleton.2 ?_
            refine wpOp_value (i := 7) (d := 26) (v := .slice (some ⟨W1.heap.size, 0, none⟩) 1 1) (w' := (W1.alloc (.cells #[.int .i64 y.inn, .int .i64 y.alt] 72))) rfl rfl (by kernel_rfl) (by go_simp) ?_
            refine ⟨Dg.row_alloc hq1 _, ?_⟩
            simp only [List.setIfInBounds_toArray, List.set_cons_succ, List.set_cons_zero]
            refine wpAnyH_all (fuel := 3) (rs := [8]) (by kernel_rfl) (by decide) ?_
            refine List.forall_mem_singleton.2 ?_
            refine wpOp_value (i := 8) (d := 27) (v := .slice ua um uc) (w' := W3) rfl rfl (by kernel_rfl) (by simp [execOp, resolve, invoke, builtin, hr3, Result.andThen, Act.eval]) ?_
            refine ⟨hq3, ?_⟩
            simp only [List.setIfInBounds_toArray, List.set_cons_succ, List.set_cons_zero]
            refine wpAnyH_all (fuel := 2) (rs := [9]) (by kernel_rfl) (by decide) ?_
            refine List.forall_mem_singleton.2 ?_
            refine wpOp_value (i := 9) (d := 28) (v := .pointer (some ⟨vb, 0, none⟩)) (w' := W3) rfl rfl (by kernel_rfl) (by go_simp) ?_
            refine ⟨hq3, ?_⟩
            simp only [List.setIfInBounds_toArray, List.set_cons_succ, List.set_cons_zero]
            refine wpAnyH_all (fuel := 1) (rs := [10]) (by kernel_rfl) (by decide) ?_
            refine List.forall_mem_singleton.2 ?_
            refine wpOp_value (i := 10) (d := 29) (v := .pointer (some ⟨vb, 0, none⟩)) (w' := W3) rfl rfl (by kernel_rfl) (by go_simp) ?_
            refine ⟨hq3, ?_⟩
            simp only [List.setIfInBounds_toArray, List.set_cons_succ, List.set_cons_zero]
            refine wpAnyH_all (fuel := 0) (rs := [11]) (by kernel_rfl) (by decide) ?_
            refine List.forall_mem_singleton.2 ?_
            refine wpOp_skip (i := 11) (w' := W3.setCell ⟨vb, 0, none⟩ (.slice ua um uc)) rfl rfl (by kernel_rfl) (by go_simp) ?_
            refine ⟨Dg.row_other hq3 _ (by omega), by kernel_rfl, ?_⟩
            clear hr3 hq3 hc3 hf3 hq1 MC HPush hcg hS0 rn
            go_wp2_with fail
            go_roundw
            case rel => exact ⟨k + 1, _, by omega, by go_num, HB3⟩
            case measure => simp [intOf]; omega
          · refine wpOp_value (i := 7) (d := 26) (v := .slice (some ⟨W1.heap.size, 0, none⟩) 1 1) (w' := (W1.alloc (.cells #[.int .i64 y.inn, .int .i64 y.alt] 72))) rfl rfl (by kernel_rfl) (by go_simp) ?_
            refine ⟨Dg.row_alloc hq1 _, ?_⟩
            simp only [List.setIfInBounds_toArray, List.set_cons_succ, List.set_cons_zero]
            refine wpAnyH_all (fuel := 4) (rs := [4]) (by kernel_rfl) (by decide) ?_
            refine List.forall_mem_singleton.2 ?_
            have hcg2 := Dg.cell_later ((Below.refl W1.heap.size W1).alloc (Nat.le_refl _) (.cells #[.int .i64 y.inn, .int .i64 y.alt] 72)) hcg1
            refine wpOp_value (i := 4) (d := 23) (v := .slice va k vc) (w' := (W1.alloc (.cells #[.int .i64 y.inn, .int .i64 y.alt] 72))) rfl rfl (by kernel_rfl) (by go_simp) ?_
            refine ⟨Dg.row_alloc hq1 _, ?_⟩
            simp only [List.setIfInBounds_toArray, List.set_cons_succ, List.set_cons_zero]
            refine wpAnyH_all (fuel := 3) (rs := [8]) (by kernel_rfl) (by decide) ?_
            refine List.forall_mem_singleton.2 ?_
            refine wpOp_value (i := 8) (d := 27) (v := .slice ua um uc) (w' := W3) rfl rfl (by kernel_rfl) (by simp [execOp, resolve, invoke, builtin, hr3, Result.andThen, Act.eval]) ?_
            refine ⟨hq3, ?_⟩
            simp only [List.setIfInBounds_toArray, List.set_cons_succ, List.set_cons_zero]
            refine wpAnyH_all (fuel := 2) (rs := [9]) (by kernel_rfl) (by decide) ?_
            refine List.forall_mem_singleton.2 ?_
            refine wpOp_value (i := 9) (d := 28) (v := .pointer (some ⟨vb, 0, none⟩)) (w' := W3) rfl rfl (by kernel_rfl) (by go_simp) ?_
            refine ⟨hq3, ?_⟩
            simp only [List.setIfInBounds_toArray, List.set_cons_succ, List.set_cons_zero]
            refine wpAnyH_all (fuel := 1) (rs := [10]) (by kernel_rfl) (by decide) ?_
            refine List.forall_mem_singleton.2 ?_
            refine wpOp_value (i := 10) (d := 29) (v := .pointer (some ⟨vb, 0, none⟩)) (w' := W3) rfl rfl (by kernel_rfl) (by go_simp) ?_
            refine ⟨hq3, ?_⟩
            simp only [List.setIfInBounds_toArray, List.set_cons_succ, List.set_cons_zero]
            refine wpAnyH_all (fuel := 0) (rs := [11]) (by kernel_rfl) (by decide) ?_
            refine List.forall_mem_singleton.2 ?_
            refine wpOp_skip (i := 11) (w' := W3.setCell ⟨vb, 0, none⟩ (.slice ua um uc)) rfl rfl (by kernel_rfl) (by go_simp) ?_
            refine ⟨Dg.row_other hq3 _ (by omega), by kernel_rfl, ?_⟩
            clear hr3 hq3 hc3 hf3 hq1 MC HPush hcg hS0 rn
            go_wp2_with fail
            go_roundw
            case rel => exact ⟨k + 1, _, by omega, by go_num, HB3⟩
            case measure => simp [intOf]; omega

end Go.Proofs.YtlegmmhacnbnlaaGreatDoor

/- The program's Above of a plan. -/
namespace Go.Proofs.YtlegmmhacnbnlaaGreatDoor

open Go.RowKit Go.Shelf Go.Proofs.YtlegmmhacnbnlaaGreatDoor.Sx

/-- In what an item stands, one after another (fuel). -/
def upsF (its : List It) : Nat → Nat → List Nat
  | 0, _ => []
  | f + 1, i => if i = 0 then [] else match its[i]? with
    | some x => x.inn.toNat :: upsF its f x.inn.toNat
    | none => []

/-- Each item but the first stands in one ahead of it. -/
def Stem (its : List It) : Prop := ∀ (i : Nat) (x : It), its[i]? = some x → 0 < i → 0 ≤ x.inn ∧ x.inn < (i : Int)

theorem stem_ups {its : List It} (h : Stem its) : ∀ f i, i < its.length → i ≤ f → Ups its i (upsF its f i)
  | 0, i, _, h2 => by
    obtain rfl : i = 0 := by omega
    exact Ups.nil
  | f + 1, i, h1, h2 => by
    rw [upsF]
    by_cases h0 : i = 0
    · subst h0
      rw [if_pos rfl]
      exact Ups.nil
    · rw [if_neg h0]
      obtain ⟨x, hx⟩ : ∃ x, its[i]? = some x := ⟨_, List.getElem?_eq_getElem h1⟩
      rw [hx]
      simp only
      obtain ⟨h3, h4⟩ := h i x hx (by omega)
      exact Ups.cons (by omega) hx (by omega) (stem_ups h f x.inn.toNat (by omega) (by omega))

end Go.Proofs.YtlegmmhacnbnlaaGreatDoor

