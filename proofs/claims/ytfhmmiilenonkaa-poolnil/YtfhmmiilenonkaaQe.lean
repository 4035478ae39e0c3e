/- Len. -/
import Derived.Test.YtfhmmiilenonkaaQd
import Derived.Shelf.RegionOpen
import Derived.RangeFuncNested
import Derived.RangeFuncCalls
import Derived.RangeFuncLeaves
import Derived.WalkKit
namespace Go.Proofs.Ytfhmmiilenonkaa
open Go.RowKit Go.Shelf
set_option maxRecDepth 1000000
set_option linter.unusedVariables false

variable {N : Nat} {F : Nat → Prop} {w w' : World} {p n : Nat} {s : Pq.St Jb}

theorem frm_zero (n : Nat) : frm 0 n = 0 := by simp [frm]
theorem circ_at {n k : Nat} {x : Nat} (h : (Pq.circ n (frm 0 n))[k]? = some x) : x = k ∧ k < n := by
  rw [frm_zero] at h
  unfold Pq.circ at h
  rw [List.getElem?_map] at h
  by_cases hk : k < n
  · simp [hk, Nat.mod_eq_of_lt hk] at h
    exact ⟨h.symm, hk⟩
  · rw [List.getElem?_eq_none (by simpa using hk)] at h
    cases h
theorem circ_len (n f : Nat) : (Pq.circ n f).length = n := by simp [Pq.circ]

/-- How many jobs the first workers have. -/
def cntU (s : Pq.St Jb) (k : Nat) : Nat := ((List.range k).map (cntW s)).sum
theorem cntU_succ (s : Pq.St Jb) (k : Nat) : cntU s (k + 1) = cntU s k + cntW s k := by
  unfold cntU
  rw [List.range_succ, List.map_append, List.sum_append]
  simp
theorem map_range {α β : Type} (l : List α) (d : α) (f : α → β) : l.map f = (List.range l.length).map fun i => f (l.getD i d) := by
  refine List.ext_getElem? fun i => ?_
  rw [List.getElem?_map, List.getElem?_map]
  by_cases hi : i < l.length
  · simp [hi, List.getD_eq_getElem?_getD]
  · rw [List.getElem?_eq_none (by omega), List.getElem?_eq_none (by simpa using hi)]
    rfl
theorem sum_add (r : List Nat) (f g : Nat → Nat) : (r.map fun i => f i + g i).sum = (r.map f).sum + (r.map g).sum := by
  induction r with
  | nil => rfl
  | cons x r ih => simp only [List.map_cons, List.sum_cons, ih]; omega
theorem countP_sum {α : Type} (q : α → Bool) (l : List α) : l.countP q = (l.map fun x => if q x then 1 else 0).sum := by
  induction l with
  | nil => rfl
  | cons x l ih => rw [List.countP_cons, ih, List.map_cons, List.sum_cons]; omega
theorem cntU_all (h : s.Ok n) : cntU s n = s.cnt := by
  unfold Pq.St.cnt cntU cntW
  rw [sum_add, countP_sum, map_range s.rows [] List.length, map_range s.hold none, h.r, h.h]
  rfl

/-- Not too many jobs, their stamps not too long. -/
structure PInv (s : Pq.St Jb) : Prop where
  row : ∀ v, (s.row v).length ≤ 128 ∧ ∀ x ∈ s.row v, x.s.length ≤ 1000
  hd : ∀ v j, s.hd v = some j → j.s.length ≤ 1000
theorem PInv.le (h : PInv s) (v : Nat) : (s.row v).length ≤ 1000000 := Nat.le_trans (h.row v).1 (by omega)
theorem PInv.cntU (h : PInv s) : ∀ k, Go.Proofs.Ytfhmmiilenonkaa.cntU s k ≤ k * 129
  | 0 => Nat.le_refl _
  | k + 1 => by
    rw [cntU_succ]
    have h1 := PInv.cntU h k
    have h2 := (h.row k).1
    unfold cntW
    split <;> omega

/-- What Len knows once k workers are counted. -/
structure LenS (w : World) (p n : Nat) (s : Pq.St Jb) (b0 k : Nat) (V : World) (TB : Nat → Prop) : Prop where
  bel : Below w.heap.size w V
  own : ∀ b, TB b → w.heap.size ≤ b
  nb : ¬ TB b0
  box : Boxed V b0 3 (.int .i64 (cntU s k : Int))
theorem LenS.mv {b0 k : Nat} {V V' : World} {TB TB' : Nat → Prop} (h : LenS w p n s b0 k V TB) (hm : Rl.Mv TB V TB' V') : LenS w p n s b0 k V' TB' := by
  obtain ⟨h1, h2, h3, h4⟩ := h
  refine ⟨hm.below h1 (fun b hb ht => by have := h2 b ht; omega) h1.size, fun b hb => ?_, hm.no h4.lt h3, Rl.boxed_mv h4 hm h3⟩
  by_cases hlt : b < V.heap.size
  · exact h2 b ((hm.old b hlt).1 hb)
  · have := h1.size; omega

attribute [local go_sem] Oper.semAt_some

set_option maxHeartbeats 8000000 in
theorem len_w (h : LP N F w p n s) (hi : PInv s) :
    Calls Try.prog 14 #[.pointer (some ⟨p, 0, none⟩)] w fun e w' => e = .returned (.int .i64 s.cnt) ∧ Below w.heap.size w w' := by
  obtain ⟨w1, hw1⟩ : ∃ w1, w.alloc (.cells #[.int .i64 0] 3) = w1 := ⟨_, rfl⟩
  have hb1 : Below w.heap.size w w1 := by rw [← hw1]; exact bl1 _ _
  have hs1 : w1.heap.size = w.heap.size + 1 := by rw [← hw1]; simp
  have q1 : Boxed w1 w.heap.size 3 (.int .i64 0) := by rw [← hw1]; exact Boxed.new w 3 _
  obtain ⟨w2, hw2⟩ : ∃ w2, (w1.alloc (.cells #[.pointer (some ⟨p, 0, none⟩)] 25)).alloc (.cells #[.int .i64 0] 3) = w2 := ⟨_, rfl⟩
  have hb2 : Below w1.heap.size w1 w2 := by rw [← hw2]; exact bl2 _ _ _
  have hs2 : w2.heap.size = w.heap.size + 3 := by rw [← hw2]; simp; omega
  have q2 : Boxed w2 (w.heap.size + 1) 25 (.pointer (some ⟨p, 0, none⟩)) := by rw [← hw2, ← hs1]; exact (Boxed.new w1 25 _).alloc _
  have q3 : Boxed w2 (w.heap.size + 1 + 1) 3 (.int .i64 0) := by
    have := Boxed.new (w1.alloc (.cells #[.pointer (some ⟨p, 0, none⟩)] 25)) 3 (.int .i64 0)
    rw [World.size_alloc, hs1, hw2] at this
    exact this
  have hb02 : Below w.heap.size w w2 := hb1.trans (hb2.mono hb1.size)
  have q4 : Boxed w2 w.heap.size 3 (.int .i64 0) := (hb2.block _ q1.lt).trans q1
  have HC : Hid _ := circle_any (.pointer (some ⟨p, 0, none⟩)) (.inr ⟨_, rfl⟩) 0 w1
  rw [hw2, hs1] at HC
  have HITR : Hid _ := circle_itr p n (w.heap.size + 1) (w.heap.size + 1 + 1) 0 h.n0 h.n64 (by omega) (fun b => b = w.heap.size + 1 ∨ b = w.heap.size + 1 + 1) w2 q2 q3 (.inl rfl) (.inr rfl) (fun b hb => by omega)
  have HL : Hid (∀ V, Below w.heap.size w V → LP N F V p n s) := fun V hb => h.later hb
  have HI : Hid _ := hi
  have HOK : Hid _ := h.ok
  have H0 : Hid (LenS w p n s w.heap.size 0 w2 (fun b => b = w.heap.size + 1 ∨ b = w.heap.size + 1 + 1)) := ⟨hb02, fun b hb => by omega, by omega, q4⟩
  have HS2 : Hid _ := hs2
  have h64 := h.n64
  have HW1 : Hid (w.alloc (.cells #[.int .i64 0] 3) = w1) := hw1
  clear h hi hb1 hb2 hb02 q1 q2 q3 q4 hs1 hs2 hw1 hw2
  obtain ⟨R, HR⟩ : ∃ R : Ending → World → Prop, Hid (R = fun e w' => e = .returned (.int .i64 s.cnt) ∧ Below w.heap.size w w') := ⟨_, rfl⟩
  rw [← HR.out]
  suffices key : CallsIn Fence.wide 0 Try.prog 14 #[.pointer (some ⟨p, 0, none⟩)] w R from callsIn_wide.1 key
  refine callsIn_of_wp_marks Try.func14 rfl trivial ?_ rfl
  simp only [Try.ntmps14, List.size_toArray, List.length_cons, List.length_nil, Nat.reduceAdd, Nat.reduceSub, Array.replicate_succ, Array.replicate_zero, List.push_toArray, List.append_toArray, List.nil_append, List.cons_append]
  gi_wp2
  rw [HW1.out]
  refine ⟨trivial, rfl, (callsIn_wide.2 HC.out).mono ?_⟩
  rintro e w3 ⟨rfl, hw3⟩
  subst hw3
  clear HC HW1
  gi_wp2
  refine Rl.range_law (P := Try.prog) (gf := 44) (lb := #[.pointer (some ⟨w.heap.size + 1, 0, none⟩), .pointer (some ⟨w.heap.size + 1 + 1, 0, none⟩)]) rfl (enters_of Try.func44 (by kernel_rfl) rfl) (enc := encW p) (xs := Pq.circ n (frm 0 n)) (n0 := 0) (m0 := 0) (G := CirG p n) (T := fun b => b = w.heap.size + 1 ∨ b = w.heap.size + 1 + 1)
    HITR.out (fun b hb => by have := HS2.out; omega) (Nat.zero_le _) (Nat.le_refl _) (fun x F W T args h => by rw [show args = _ from h]; rfl)
    (fun k V TB => Hid (LenS w p n s w.heap.size k V TB)) (fun c k V TB => False)
    (fun k V TV V' TV' h hm => h.out.mv hm) (fun c k V TV V' TV' h hm => h)
    (fun k V TV h => (HL.out V h.out.bel).num) H0 ?rnd ?done ?stop
  case rnd =>
    rintro m l' k x args F V T1 TB hxk henc ⟨Wf, Tf, HIf, hF9, hmF⟩ HI2 hTB hup hnc hlt
    cases henc
    obtain ⟨rfl, hkn⟩ := circ_at hxk
    clear HIf hF9 hmF hxk hTB hnc hlt HITR H0 HS2
    gi_wp2
    refine ⟨HI2, Rl.Rv.refl _ _ _, fun W2 HI3 hbz => ?_⟩
    clear hbz
    have HCt : Hid (∀ wx, Below w.heap.size w wx → Calls Try.prog 34 #[.pointer (some ⟨p, 1 + x * 2, none⟩)] wx fun e w' => e = .returned (.int .i64 (cntW s x)) ∧ Below wx.heap.size wx w') := fun wx hb => count_w (HL.out wx hb) hkn (HI.out.le x)
    have HBx : Hid (Boxed W2 w.heap.size 3 (.int .i64 (cntU s x : Int))) := HI3.out.box
    have HBe : Hid (Below w.heap.size w W2) := HI3.out.bel
    have hu := HI.out.cntU x
    have hx2 : cntW s x ≤ 129 := by have := (HI.out.row x).1; unfold cntW; split <;> omega
    have HU : Hid (cntU s (x + 1) = cntU s x + cntW s x) := cntU_succ s x
    obtain ⟨au, hau⟩ : ∃ u, cntU s x = u := ⟨_, rfl⟩
    obtain ⟨aw, haw⟩ : ∃ u, cntW s x = u := ⟨_, rfl⟩
    rw [hau] at HBx hu HU
    rw [haw] at HCt hx2 HU
    have y0 := HBx.out.cell
    have f0 := froz_row HBx.out 0
    have hmx : Try.prog.follows .mixedOrders = true := by kernel_rfl
    clear HI2 hau haw
    gi_wp2
    gi_region_with_o (refine ⟨trivial, (fun hd => by cases hd), (CallsIn.inRound l' (callsIn_wide.2 (HCt.out _ HBe.out.drew))).mono ?_⟩; rintro e w4 ⟨rfl, hb4⟩; have HB4 : Hid (Below W2.heap.size W2 w4) := (Below.refl _ W2).drew.trans hb4; have r4 := row_later HBx.out HB4.out; have R4 : Hid _ := r4; have y4 := (cell_row r4 0).trans rfl; have f4 := froz_row r4 0; clear r4 hb4)
    all_goals
      gi_wp2
      have hwr : Value.int .i64 (IntKind.i64.wrap ((au : Int) + aw)) = .int .i64 ((au : Int) + aw) := by
        rw [Go.IntWalk.i64_in _ (by omega)]
      rw [hwr]
      have hle := HI3.out.bel.size
      have hR : Rl.Rv 0 TB W2 (w4.setCell ⟨w.heap.size, 0, none⟩ (.int .i64 ((au : Int) + aw))) := (Rl.Rv.of_below HB4.out (Nat.zero_le _)).trans (Rl.Rv.setCell w4 _ (Nat.zero_le _) HI3.out.nb)
      have hk : Kp (fun k => k = w.heap.size) W2 (w4.setCell ⟨w.heap.size, 0, none⟩ (.int .i64 ((au : Int) + aw))) := (Kp.of_below _ HB4.out).set _ _ rfl
      refine ⟨⟨HI3.out.bel.trans (hk.below hle (fun k hk => by omega)), HI3.out.own, HI3.out.nb, ?_⟩, hR⟩
      have := row_set R4.out 0 (.int .i64 ((au : Int) + aw))
      rw [HU.out]
      push_cast
      exact this
  case done =>
    rintro V T2 h hold hup hdef hts
    have q9 : Boxed V w.heap.size 3 (.int .i64 (s.cnt : Int)) := by
      have := h.out.box
      rw [circ_len, cntU_all HOK.out] at this
      exact this
    have c9 := q9.cell
    have HV : Hid (Below w.heap.size w V ∧ V.heap[w3.heap.size]? = some (.deferred (some [])) ∧ T2 w3.heap.size) := ⟨h.out.bel, hdef, hts⟩
    have HW : Hid (∀ b, T2 b → w.heap.size ≤ b) := h.out.own
    generalize s.cnt = sc at *
    clear h hold hup hdef hts q9
    gi_wp2
    show LeavesInM Fence.wide 0 Try.prog Try.f14 _ R ([w3.heap.size].map Rl.mark) .returning V
    refine Rl.leaves_marks (T := T2) (by simp) (fun A => Below w.heap.size w A) ?_ ?_ _ V ⟨by simp, fun D hD => by simp at hD; subst hD; exact ⟨HV.out.2.2, HV.out.2.1⟩⟩ HV.out.1
    · rintro A D hD k1
      have hD2 := HW.out D hD
      exact ⟨k1.os, k1.tape, k1.output, by simpa [World.putObj] using k1.size, fun b hb => (World.putObj_heap_other (by omega)).trans (k1.block b hb)⟩
    · rintro A k1
      refine ⟨_, results_tmp (t := 2) rfl _ _ _, ?_⟩
      rw [HR.out]
      exact ⟨rfl, k1⟩
  case stop =>
    rintro c k V T2 hk h hold hup hdef hts
    exact h.elim
end Go.Proofs.Ytfhmmiilenonkaa
