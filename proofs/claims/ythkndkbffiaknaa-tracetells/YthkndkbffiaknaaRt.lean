/- TraceTells's walk. -/
import Derived.Test.YthkndkbffiaknaaRn
import Derived.Test.YthkndkbffiaknaaRq
import Derived.Test.YthkndkbffiaknaaRs
namespace Go.Proofs.Ythkndkbffiaknaa.Tz
open Go.RowKit Go.Shelf Go.Proofs.Ythkndkbffiaknaa
set_option maxRecDepth 1000000
set_option linter.unusedVariables false

theorem own_append (t ty : TypeId) (ht : Try.prog.underlying t = some (.slice 37)) {w : World} {g n c : Nat} {a : Option Addr} {L : List Ef} (h : RE w (.slice a n c) L) (hl : L.length ≤ 1000000) :
    ∃ ad cp w', (Builtin.append_ #[t, t] ty #[.slice (some ⟨g, 0, none⟩) 0 0, .slice a n c]).run Try.prog w = .ok (.slice ad n cp) w' ∧ RE w' (.slice ad n cp) L ∧ Below w.heap.size w w' := by
  have hn : n = L.length := by obtain ⟨_, _, e, _⟩ := h; exact (Value.slice.inj e).2.1
  by_cases h0 : L = []
  · subst h0
    have hn0 : n = 0 := hn
    subst hn0
    obtain ⟨i0, hi, hz0, hz1, hz2⟩ := info_parts Try.info37
    have hsrc : Src Try.prog i0.size t (.slice a 0 c) 0 [] w := by
      cases a with
      | none => exact Src.ofNil w ht c
      | some ad => exact Src.ofSlice w ht ad 0 c [] (by simp) (fun j u hu => by simp at hu) (fun u hu => by cases hu)
    have hr := run_append_room_src (P := Try.prog) w t t ty 37 i0 ht hi g 0 0 0 _ 0 [] hsrc (by omega) (fun j hj => by simp at hj) (fun j hj => by simp at hj)
    exact ⟨_, _, _, hr, ⟨_, 0, rfl, Nat.le_refl _, by unfold maxLen; omega, by simp⟩, Below.refl _ _⟩
  · obtain ⟨ad, cp, w', h1, h2, h3, _⟩ := run_append_es t ty ht (g := g) h (List.length_pos_iff.2 h0) hl
    rw [← hn] at h1 h2
    exact ⟨ad, cp, w', h1, h2.re h.wf, h3⟩

set_option maxHeartbeats 16000000 in
theorem tells_walk (a : Option Addr) (n c : Nat) (l : List Ef) (k : Kx) (w : World) (h : RE w (.slice a n c) l) : Calls Try.prog 3 #[.slice a n c, KV k] w fun e w' => e = .returned (.bool true) ∧ Below w.heap.size w w' := by
  have hn : n = l.length := by obtain ⟨a', c', e, _⟩ := h; exact (Value.slice.inj e).2.1
  have HN : Hid (l.length = n) := hn.symm
  have HL : Hid (∀ wx, Calls Try.prog 6 #[] wx fun e w' => e = .returned (.bool true) ∧ Below wx.heap.size wx w') := lives_any
  obtain ⟨ki, ku, kt⟩ := k
  unfold KV
  by_cases hbig : (150 : Int) < (n : Int)
  · clear h hn
    go_enter Try.func3, Try.ntmps3
    go_wp2_with fail
    refine Calls.mono (HL.out _) ?_
    rintro e w2 ⟨rfl, hb2⟩
    have HB2 : Hid (Below w.heap.size w w2) := (bl1 w _).trans (hb2.mono (by simp))
    clear hb2
    go_wp2_with fail
    go_ret
    exact ⟨rfl, HB2.out⟩
  · have HS : Hid (l.length ≤ 1000000 ∧ l.length ≤ 150) := by show _ ∧ _; rw [HN.out]; omega
    have HRE : Hid (∀ wx, Below w.heap.size w wx → RE wx (.slice a n c) l) := fun wx hb => h.later hb
    obtain ⟨ad, cp, w1, hrun, hre1, hb1⟩ := own_append 22 22 Try.underlying22 (g := w.heap.size + 1) (w := (w.alloc (.cells #[.int .i64 ki, .bool ku, .int .i64 kt] 24)).alloc (.cells #[] 37)) (HRE.out _ (bl2 w _ _)) HS.out.1
    have hk0 : w1.heap[w.heap.size]? = some (.cells #[.int .i64 ki, .bool ku, .int .i64 kt] 24 (0, 0)) := row_later (row_later (heap_alloc_new w _) (bl1 _ _)) hb1
    have HK0 : Hid _ := hk0
    have HB1 : Hid (Below w.heap.size w w1) := (bl2 w _ _).trans (hb1.mono (by simp; omega))
    have HOW : Hid (∀ wx, Below w1.heap.size w1 wx → RE wx (.slice ad n cp) l) := fun wx hb => hre1.later hb
    have HRL : Hid (∀ wx, Below w1.heap.size w1 wx → RE wx (.slice a n c) l) := fun wx hb => HRE.out wx (HB1.out.trans (hb.mono HB1.out.size))
    clear h hn hre1 hb1 hk0
    go_enter Try.func3, Try.ntmps3
    go_wp2_with (first | (at_builtin; refine Lib.wpList_append_run _ rfl _ _ _ _ rfl _ _ rfl rfl _ _ hrun ?_))
    have HLL : Hid ((lastL l).length ≤ 1000000) := by have := lastL_len l; have := HS.out; show _ ≤ _; omega
    clear hrun
    refine region_thenG (β := Value × Value × Value × Value) (fun z => [(13, .slice ad n cp), (14, .int .i64 (chkV l)), (15, .slice a n c), (16, .int .i64 (chkV l)), (17, .bool true), (18, .bool true), (19, .slice ad n cp), (20, .int .i64 (agn [] l : Nat)), (21, .slice a n c), (22, .int .i64 (agn [] l : Nat)), (23, .bool true), (24, .bool true), (25, .bool true), (26, .slice ad n cp), (27, .agg #[.int .i64 ki, .bool ku, .int .i64 kt]), (28, .int .i64 (findV (ki, ku, kt) l)), (29, .slice a n c), (30, .agg #[.int .i64 ki, .bool ku, .int .i64 kt]), (31, .int .i64 (findV (ki, ku, kt) l)), (32, .bool true), (33, .bool true), (34, .bool true), (35, .slice ad n cp), (36, z.1), (37, .slice a n c), (38, z.2.1), (39, .bool true), (40, .bool true), (41, .bool true), (42, .slice ad n cp), (43, z.2.2.1), (44, .slice a n c), (45, z.2.2.2), (46, .bool true), (47, .bool true), (48, .bool true), (49, .slice ad n cp), (50, .slice a n c), (51, .bool true), (52, .bool true), (53, .bool true), (54, .bool true), (55, .bool true), (4, .bool true)]) (fun _ w9 => Below w1.heap.size w1 w9) ?_ ?_
    · refine wp_region_held (S := fun w9 => Below w1.heap.size w1 w9) (by kernel_rfl) ?_
      have hS : Below w1.heap.size w1 w1.drew := (Below.refl _ w1).drew
      simp only [List.size_toArray, List.length_cons, List.length_nil, Nat.reduceAdd, Array.replicate_succ, Array.replicate_zero, List.push_toArray, List.nil_append, List.cons_append]
      refine tG 0 13 (.slice ad n cp) 43 rfl hS ?_
      refine tG 2 15 (.slice a n c) 42 rfl hS ?_
      refine oneW (R := fun w9 => Below w1.drew.heap.size w1.drew w9) (i := 1) (d := 14) (f := 7) (args := #[.slice ad n cp]) (v := .int .i64 (chkV l)) (fuel := 41) rfl rfl (by kernel_rfl) (by kernel_rfl) (fun _ => by kernel_rfl) (Calls.mono (check_any l _ HS.out.1 w1.drew (HOW.out _ hS)) (by rintro e9 w9 ⟨rfl, h9⟩; exact ⟨rfl, h9⟩)) (fun w9 h => hS.trans (h.mono hS.size)) (fun wx2 hR => ?_)
      simp only [List.setIfInBounds_toArray, List.set_cons_succ, List.set_cons_zero]
      replace hS : Below w1.heap.size w1 wx2 := hS.trans (hR.mono hS.size)
      clear hR
      refine oneW (R := fun w9 => Below wx2.heap.size wx2 w9) (i := 3) (d := 16) (f := 8) (args := #[.slice a n c]) (v := .int .i64 (chkV l)) (fuel := 40) rfl rfl (by kernel_rfl) (by kernel_rfl) (fun _ => by kernel_rfl) (Calls.mono (rcheck_any l _ HS.out.1 wx2 (HRL.out _ hS)) (by rintro e9 w9 ⟨rfl, h9⟩; exact ⟨rfl, h9⟩)) (fun w9 h => hS.trans (h.mono hS.size)) (fun wx3 hR => ?_)
      simp only [List.setIfInBounds_toArray, List.set_cons_succ, List.set_cons_zero]
      replace hS : Below w1.heap.size w1 wx3 := hS.trans (hR.mono hS.size)
      clear hR
      refine tG 4 17 (.bool true) 39 rfl hS ?_
      refine tG 5 18 (.bool true) 38 rfl hS ?_
      refine tG 6 19 (.slice ad n cp) 37 rfl hS ?_
      refine tG 8 21 (.slice a n c) 36 rfl hS ?_
      refine oneW (R := fun w9 => Below wx3.heap.size wx3 w9) (i := 7) (d := 20) (f := 9) (args := #[.slice ad n cp]) (v := .int .i64 (agn [] l : Nat)) (fuel := 35) rfl rfl (by kernel_rfl) (by kernel_rfl) (fun _ => by kernel_rfl) (Calls.mono (again_any l _ HS.out.1 wx3 (HOW.out _ hS)) (by rintro e9 w9 ⟨rfl, h9⟩; exact ⟨rfl, h9⟩)) (fun w9 h => hS.trans (h.mono hS.size)) (fun wx4 hR => ?_)
      simp only [List.setIfInBounds_toArray, List.set_cons_succ, List.set_cons_zero]
      replace hS : Below w1.heap.size w1 wx4 := hS.trans (hR.mono hS.size)
      clear hR
      refine oneW (R := fun w9 => Below wx4.heap.size wx4 w9) (i := 9) (d := 22) (f := 10) (args := #[.slice a n c]) (v := .int .i64 (agn [] l : Nat)) (fuel := 34) rfl rfl (by kernel_rfl) (by kernel_rfl) (fun _ => by kernel_rfl) (Calls.mono (ragain_any l _ HS.out.1 wx4 (HRL.out _ hS)) (by rintro e9 w9 ⟨rfl, h9⟩; exact ⟨rfl, h9⟩)) (fun w9 h => hS.trans (h.mono hS.size)) (fun wx5 hR => ?_)
      simp only [List.setIfInBounds_toArray, List.set_cons_succ, List.set_cons_zero]
      replace hS : Below w1.heap.size w1 wx5 := hS.trans (hR.mono hS.size)
      clear hR
      refine tG 10 23 (.bool true) 33 rfl hS ?_
      refine tG 11 24 (.bool true) 32 rfl hS ?_
      refine tG 12 25 (.bool true) 31 rfl hS ?_
      refine tG 13 26 (.slice ad n cp) 30 rfl hS ?_
      refine tV 14 27 (.agg #[.int .i64 ki, .bool ku, .int .i64 kt]) 29 rfl hS ?_ (fun wx h => by have hrow := row_later HK0.out h; have c0 : wx.cell? ⟨w.heap.size, 0, none⟩ = some (.int .i64 ki) := (cell_row hrow 0).trans rfl; have c1 : wx.cell? ⟨w.heap.size, 1, none⟩ = some (.bool ku) := (cell_row hrow 1).trans rfl; have c2 : wx.cell? ⟨w.heap.size, 2, none⟩ = some (.int .i64 kt) := (cell_row hrow 2).trans rfl; go_simp)
      refine tG 16 29 (.slice a n c) 28 rfl hS ?_
      refine tV 17 30 (.agg #[.int .i64 ki, .bool ku, .int .i64 kt]) 27 rfl hS ?_ (fun wx h => by have hrow := row_later HK0.out h; have c0 : wx.cell? ⟨w.heap.size, 0, none⟩ = some (.int .i64 ki) := (cell_row hrow 0).trans rfl; have c1 : wx.cell? ⟨w.heap.size, 1, none⟩ = some (.bool ku) := (cell_row hrow 1).trans rfl; have c2 : wx.cell? ⟨w.heap.size, 2, none⟩ = some (.int .i64 kt) := (cell_row hrow 2).trans rfl; go_simp)
      refine oneW (R := fun w9 => Below wx5.heap.size wx5 w9) (i := 15) (d := 28) (f := 11) (args := #[.slice ad n cp, .agg #[.int .i64 ki, .bool ku, .int .i64 kt]]) (v := .int .i64 (findV (ki, ku, kt) l)) (fuel := 26) rfl rfl (by kernel_rfl) (by kernel_rfl) (fun _ => by kernel_rfl) (Calls.mono (find_any (ki, ku, kt) l _ wx5 (HOW.out _ hS) HS.out.1) (by rintro e9 w9 ⟨rfl, h9⟩; exact ⟨rfl, h9⟩)) (fun w9 h => hS.trans (h.mono hS.size)) (fun wx6 hR => ?_)
      simp only [List.setIfInBounds_toArray, List.set_cons_succ, List.set_cons_zero]
      replace hS : Below w1.heap.size w1 wx6 := hS.trans (hR.mono hS.size)
      clear hR
      refine oneW (R := fun w9 => Below wx6.heap.size wx6 w9) (i := 18) (d := 31) (f := 12) (args := #[.slice a n c, .agg #[.int .i64 ki, .bool ku, .int .i64 kt]]) (v := .int .i64 (findV (ki, ku, kt) l)) (fuel := 25) rfl rfl (by kernel_rfl) (by kernel_rfl) (fun _ => by kernel_rfl) (Calls.mono (rfind_any (ki, ku, kt) l _ wx6 (HRL.out _ hS) HS.out.1) (by rintro e9 w9 ⟨rfl, h9⟩; exact ⟨rfl, h9⟩)) (fun w9 h => hS.trans (h.mono hS.size)) (fun wx7 hR => ?_)
      simp only [List.setIfInBounds_toArray, List.set_cons_succ, List.set_cons_zero]
      replace hS : Below w1.heap.size w1 wx7 := hS.trans (hR.mono hS.size)
      clear hR
      refine tG 19 32 (.bool true) 24 rfl hS ?_
      refine tG 20 33 (.bool true) 23 rfl hS ?_
      refine tG 21 34 (.bool true) 22 rfl hS ?_
      refine tG 22 35 (.slice ad n cp) 21 rfl hS ?_
      refine tG 24 37 (.slice a n c) 20 rfl hS ?_
      refine oneX (β := Value) (V := fun z => z) (R := fun z w9 => Below wx7.heap.size wx7 w9 ∧ RE w9 z (lastL l)) (i := 23) (d := 36) (f := 14) (args := #[.slice ad n cp]) (fuel := 19) rfl rfl (by kernel_rfl) (by kernel_rfl) (fun _ => by kernel_rfl) (Calls.mono (last_any l _ HS.out.1 wx7 (HOW.out _ hS)) (by rintro e9 w9 ⟨rv, rfl, q1, q2, _⟩; exact ⟨rv, rfl, q2, q1.re (fun e he => (HRE.out w (Below.refl _ _)).wf e (lastL_sub he))⟩)) (fun _ w9 h => hS.trans (h.1.mono hS.size)) (fun z1 wx8 hR => ?_)
      simp only [List.setIfInBounds_toArray, List.set_cons_succ, List.set_cons_zero]
      have hz1 : RE wx8 z1 (lastL l) := hR.2
      replace hS : Below w1.heap.size w1 wx8 := hS.trans (hR.1.mono hS.size)
      clear hR
      refine oneX (β := Value) (V := fun z => z) (R := fun z w9 => Below wx8.heap.size wx8 w9 ∧ RE w9 z (lastL l)) (i := 25) (d := 38) (f := 15) (args := #[.slice a n c]) (fuel := 18) rfl rfl (by kernel_rfl) (by kernel_rfl) (fun _ => by kernel_rfl) (Calls.mono (rlast_any l _ HS.out.1 wx8 (HRL.out _ hS)) (by rintro e9 w9 ⟨rv, rfl, q1, q2, _⟩; exact ⟨rv, rfl, q2, q1.re (fun e he => (HRE.out w (Below.refl _ _)).wf e (lastL_sub he))⟩)) (fun _ w9 h => hS.trans (h.1.mono hS.size)) (fun z2 wx9 hR => ?_)
      simp only [List.setIfInBounds_toArray, List.set_cons_succ, List.set_cons_zero]
      replace hz1 : RE wx9 z1 (lastL l) := hz1.later hR.1
      have hz2 : RE wx9 z2 (lastL l) := hR.2
      replace hS : Below w1.heap.size w1 wx9 := hS.trans (hR.1.mono hS.size)
      clear hR
      refine oneW (R := fun w9 => Below wx9.heap.size wx9 w9) (i := 26) (d := 39) (f := 13) (args := #[z1, z2]) (v := .bool true) (fuel := 17) rfl rfl (by kernel_rfl) (by kernel_rfl) (fun _ => by kernel_rfl) (Calls.mono (same_e (lastL l) (lastL l) _ _ wx9 hz1 hz2 HLL.out HLL.out) (by rintro e9 w9 ⟨rfl, h9⟩; exact ⟨by rw [decide_eq_true (rfl : lastL l = lastL l)], h9⟩)) (fun w9 h => hS.trans (h.mono hS.size)) (fun wx10 hR => ?_)
      simp only [List.setIfInBounds_toArray, List.set_cons_succ, List.set_cons_zero]
      replace hS : Below w1.heap.size w1 wx10 := hS.trans (hR.mono hS.size)
      clear hR hz1 hz2
      refine tG 27 40 (.bool true) 16 rfl hS ?_
      refine tG 28 41 (.bool true) 15 rfl hS ?_
      refine tG 29 42 (.slice ad n cp) 14 rfl hS ?_
      refine tG 31 44 (.slice a n c) 13 rfl hS ?_
      refine oneX (β := Value) (V := fun z => z) (R := fun z w9 => Below wx10.heap.size wx10 w9 ∧ ∃ o1 : List Int, RI w9 z o1 ∧ o1.Pairwise (· < ·) ∧ ∀ x, x ∈ o1 ↔ leftP l x) (i := 30) (d := 43) (f := 17) (args := #[.slice ad n cp]) (fuel := 12) rfl rfl (by kernel_rfl) (by kernel_rfl) (fun _ => by kernel_rfl) (Calls.mono (left_any l _ HS.out.1 wx10 (HOW.out _ hS)) (by rintro e9 w9 ⟨rv, o1, rfl, q1, q2, q3, q4⟩; exact ⟨rv, rfl, q4, o1, q1, q2, q3⟩)) (fun _ w9 h => hS.trans (h.1.mono hS.size)) (fun z3 wx11 hR => ?_)
      simp only [List.setIfInBounds_toArray, List.set_cons_succ, List.set_cons_zero]
      obtain ⟨hRb, o1, hri1, hs1, hme1⟩ := hR
      replace hS : Below w1.heap.size w1 wx11 := hS.trans (hRb.mono hS.size)
      clear hRb
      refine oneX (β := Value) (V := fun z => z) (R := fun z w9 => Below wx11.heap.size wx11 w9 ∧ ∃ o1 : List Int, RI w9 z o1 ∧ o1.Pairwise (· < ·) ∧ ∀ x, x ∈ o1 ↔ leftP l x) (i := 32) (d := 45) (f := 18) (args := #[.slice a n c]) (fuel := 11) rfl rfl (by kernel_rfl) (by kernel_rfl) (fun _ => by kernel_rfl) (Calls.mono (rleft_any l _ HS.out.1 wx11 (HRL.out _ hS)) (by rintro e9 w9 ⟨rv, o1, rfl, q1, q2, q3, q4⟩; exact ⟨rv, rfl, q4, o1, q1, q2, q3⟩)) (fun _ w9 h => hS.trans (h.1.mono hS.size)) (fun z4 wx12 hR => ?_)
      simp only [List.setIfInBounds_toArray, List.set_cons_succ, List.set_cons_zero]
      obtain ⟨hRb, o2, hri2, hs2, hme2⟩ := hR
      obtain rfl : o2 = o1 := rising_eq hs2 hs1 (fun x => by rw [hme2, hme1])
      replace hri1 : RI wx12 z3 o2 := hri1.later hRb
      have hol : o2.length ≤ 1000000 := by
        have hs : o2 ⊆ l.map Ef.i := fun x hx => by
          obtain ⟨⟨e, he, h1, _⟩, _⟩ := (hme1 x).1 hx
          exact List.mem_map.2 ⟨e, he, h1⟩
        have h1 := List.Nodup.length_le_of_subset (rising_nodup hs1) hs
        have h2 := HS.out.1
        rw [List.length_map] at h1
        omega
      replace hS : Below w1.heap.size w1 wx12 := hS.trans (hRb.mono hS.size)
      clear hRb
      refine oneW (R := fun w9 => Below wx12.heap.size wx12 w9) (i := 33) (d := 46) (f := 16) (args := #[z3, z4]) (v := .bool true) (fuel := 10) rfl rfl (by kernel_rfl) (by kernel_rfl) (fun _ => by kernel_rfl) (Calls.mono (same_any o2 o2 _ _ wx12 hri1 hri2 hol hol) (by rintro e9 w9 ⟨rfl, h9⟩; exact ⟨by rw [decide_eq_true (rfl : o2 = o2)], h9⟩)) (fun w9 h => hS.trans (h.mono hS.size)) (fun wx13 hR => ?_)
      simp only [List.setIfInBounds_toArray, List.set_cons_succ, List.set_cons_zero]
      replace hS : Below w1.heap.size w1 wx13 := hS.trans (hR.mono hS.size)
      clear hR hri1 hri2 hol hs1 hs2 hme1 hme2
      refine tG 34 47 (.bool true) 9 rfl hS ?_
      refine tG 35 48 (.bool true) 8 rfl hS ?_
      refine tG 36 49 (.slice ad n cp) 7 rfl hS ?_
      refine tG 37 50 (.slice a n c) 6 rfl hS ?_
      refine oneW (R := fun w9 => Below wx13.heap.size wx13 w9) (i := 38) (d := 51) (f := 13) (args := #[.slice ad n cp, .slice a n c]) (v := .bool true) (fuel := 5) rfl rfl (by kernel_rfl) (by kernel_rfl) (fun _ => by kernel_rfl) (Calls.mono (same_e l l _ _ wx13 (HOW.out _ hS) (HRL.out _ hS) HS.out.1 HS.out.1) (by rintro e9 w9 ⟨rfl, h9⟩; exact ⟨by rw [decide_eq_true (rfl : l = l)], h9⟩)) (fun w9 h => hS.trans (h.mono hS.size)) (fun wx14 hR => ?_)
      simp only [List.setIfInBounds_toArray, List.set_cons_succ, List.set_cons_zero]
      replace hS : Below w1.heap.size w1 wx14 := hS.trans (hR.mono hS.size)
      clear hR
      refine tG 39 52 (.bool true) 4 rfl hS ?_
      refine tG 40 53 (.bool true) 3 rfl hS ?_
      refine oneW (R := fun w9 => Below wx14.heap.size wx14 w9) (i := 41) (d := 54) (f := 6) (args := #[]) (v := .bool true) (fuel := 2) rfl rfl (by kernel_rfl) (by kernel_rfl) (fun _ => by kernel_rfl) (Calls.mono (HL.out wx14) (by rintro e9 w9 ⟨rfl, h9⟩; exact ⟨rfl, h9⟩)) (fun w9 h => hS.trans (h.mono hS.size)) (fun wx15 hR => ?_)
      simp only [List.setIfInBounds_toArray, List.set_cons_succ, List.set_cons_zero]
      replace hS : Below w1.heap.size w1 wx15 := hS.trans (hR.mono hS.size)
      clear hR
      refine tG 42 55 (.bool true) 1 rfl hS ?_
      refine tG 43 4 (.bool true) 0 rfl hS ?_
      refine wpAnyH_done (by kernel_rfl) ?_ _
      exact ⟨rfl, (z1, z2, z3, z4), by kernel_rfl, hS⟩
    rintro z9 w9 hF9
    simp only [setAll, List.setIfInBounds_toArray, List.set_cons_succ, List.set_cons_zero]
    have HB9 : Hid (Below w.heap.size w w9) := HB1.out.trans (hF9.mono HB1.out.size)
    clear hF9
    go_wp2_with fail
    go_ret
    exact ⟨rfl, HB9.out⟩
end Go.Proofs.Ythkndkbffiaknaa.Tz
