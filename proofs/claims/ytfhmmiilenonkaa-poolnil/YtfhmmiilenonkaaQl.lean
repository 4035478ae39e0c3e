/- Len and Drop of no pool, and of one that nothing made. -/
import Derived.Test.YtfhmmiilenonkaaQk
namespace Go.Proofs.Ytfhmmiilenonkaa
open Go.RowKit Go.Shelf
set_option maxRecDepth 1000000
set_option linter.unusedVariables false

variable {N : Nat} {F : Nat → Prop} {w w' : World} {p n : Nat} {s : Pq.St Jb}

theorem NoP.later {pv : Value} (h : NoP w pv) (hb : Below w.heap.size w w') : NoP w' pv := by
  rcases h with h | ⟨p, h, c⟩
  · exact .inl h
  · exact .inr ⟨p, h, cell_later hb c⟩
theorem NoP.ptr {pv : Value} (h : NoP w pv) : pv = .pointer none ∨ ∃ a, pv = .pointer (some a) := by
  rcases h with h | ⟨p, h, c⟩
  · exact .inl h
  · exact .inr ⟨_, h⟩

/-- What is known while none is gone through. -/
structure NoS (w : World) (b0 : Nat) (V : World) (TB : Nat → Prop) : Prop where
  bel : Below w.heap.size w V
  own : ∀ b, TB b → w.heap.size ≤ b
  nb : ¬ TB b0
  box : Boxed V b0 3 (.int .i64 0)
theorem NoS.mv {b0 : Nat} {V V' : World} {TB TB' : Nat → Prop} (h : NoS w b0 V TB) (hm : Rl.Mv TB V TB' V') : NoS w b0 V' TB' := by
  obtain ⟨h1, h2, h3, h4⟩ := h
  refine ⟨hm.below h1 (fun b hb ht => by have := h2 b ht; omega) h1.size, fun b hb => ?_, hm.no h4.lt h3, Rl.boxed_mv h4 hm h3⟩
  by_cases hlt : b < V.heap.size
  · exact h2 b ((hm.old b hlt).1 hb)
  · have := h1.size; omega

attribute [local go_sem] Oper.semAt_some

set_option maxHeartbeats 8000000 in
theorem len_no {pv : Value} (h : NoP w pv) :
    Calls Try.prog 14 #[pv] w fun e w' => e = .returned (.int .i64 0) ∧ Below w.heap.size w w' := by
  obtain ⟨w1, hw1⟩ : ∃ w1, w.alloc (.cells #[.int .i64 0] 3) = w1 := ⟨_, rfl⟩
  have hb1 : Below w.heap.size w w1 := by rw [← hw1]; exact bl1 _ _
  have hs1 : w1.heap.size = w.heap.size + 1 := by rw [← hw1]; simp
  have q1 : Boxed w1 w.heap.size 3 (.int .i64 0) := by rw [← hw1]; exact Boxed.new w 3 _
  obtain ⟨w2, hw2⟩ : ∃ w2, (w1.alloc (.cells #[pv] 25)).alloc (.cells #[.int .i64 0] 3) = w2 := ⟨_, rfl⟩
  have hb2 : Below w1.heap.size w1 w2 := by rw [← hw2]; exact bl2 _ _ _
  have hs2 : w2.heap.size = w.heap.size + 3 := by rw [← hw2]; simp; omega
  have q2 : Boxed w2 (w.heap.size + 1) 25 (pv) := by rw [← hw2, ← hs1]; exact (Boxed.new w1 25 _).alloc _
  have q3 : Boxed w2 (w.heap.size + 1 + 1) 3 (.int .i64 0) := by
    have := Boxed.new (w1.alloc (.cells #[pv] 25)) 3 (.int .i64 0)
    rw [World.size_alloc, hs1, hw2] at this
    exact this
  have hb02 : Below w.heap.size w w2 := hb1.trans (hb2.mono hb1.size)
  have q4 : Boxed w2 w.heap.size 3 (.int .i64 0) := (hb2.block _ q1.lt).trans q1
  have HC : Hid _ := circle_any pv h.ptr 0 w1
  rw [hw2, hs1] at HC
  have HITR : Hid _ := circle_itr0 pv (w.heap.size + 1) (w.heap.size + 1 + 1) (fun _ _ _ _ _ => False) (fun A => NoP A pv) (by
    rcases h with h | ⟨p, h, c⟩
    · exact .inl h
    · refine .inr ⟨p, h, fun A hA => ?_⟩
      rcases hA with hA | ⟨p', hA, c'⟩
      · rw [h] at hA; cases hA
      · rw [h] at hA; cases hA; exact c') (fun b => b = w.heap.size + 1 ∨ b = w.heap.size + 1 + 1) w2 q2 (fun b hb => by omega)
  have HL : Hid (∀ V, Below w.heap.size w V → NoP V pv) := fun V hb => h.later hb
  have H0 : Hid (NoS w w.heap.size w2 (fun b => b = w.heap.size + 1 ∨ b = w.heap.size + 1 + 1)) := ⟨hb02, fun b hb => by omega, by omega, q4⟩
  have HP : Hid _ := h.ptr
  have HS2 : Hid _ := hs2
  have HW1 : Hid (w.alloc (.cells #[.int .i64 0] 3) = w1) := hw1
  clear h hb1 hb2 hb02 q1 q2 q3 q4 hs1 hs2 hw1 hw2
  obtain ⟨R, HR⟩ : ∃ R : Ending → World → Prop, Hid (R = fun e w' => e = .returned (.int .i64 0) ∧ Below w.heap.size w w') := ⟨_, rfl⟩
  rw [← HR.out]
  suffices key : CallsIn Fence.wide 0 Try.prog 14 #[pv] w R from callsIn_wide.1 key
  obtain ⟨pa, hpa⟩ : ∃ a, pv = .pointer a := by
    rcases HP.out with h | ⟨a, h⟩
    · exact ⟨_, h⟩
    · exact ⟨_, h⟩
  subst hpa
  refine callsIn_of_wp_marks Try.func14 rfl trivial ?_ rfl
  simp only [Try.ntmps14, List.size_toArray, List.length_cons, List.length_nil, Nat.reduceAdd, Nat.reduceSub, Array.replicate_succ, Array.replicate_zero, List.push_toArray, List.append_toArray, List.nil_append, List.cons_append]
  gi_wp2
  rw [HW1.out]
  refine ⟨trivial, rfl, (callsIn_wide.2 HC.out).mono ?_⟩
  rintro e w3 ⟨rfl, hw3⟩
  subst hw3
  clear HC HW1
  gi_wp2
  refine Rl.range_law (P := Try.prog) (gf := 44) (lb := #[.pointer (some ⟨w.heap.size + 1, 0, none⟩), .pointer (some ⟨w.heap.size + 1 + 1, 0, none⟩)]) rfl (enters_of Try.func44 (by kernel_rfl) rfl) (enc := fun _ _ _ _ _ => False) (xs := ([] : List Nat)) (n0 := 0) (m0 := 0) (G := fun A => NoP A (.pointer pa)) (T := fun b => b = w.heap.size + 1 ∨ b = w.heap.size + 1 + 1)
    HITR.out (fun b hb => by have := HS2.out; omega) (Nat.zero_le _) (Nat.le_refl _) (fun x F W T args h => h.elim)
    (fun k V TB => Hid (NoS w w.heap.size V TB)) (fun c k V TB => False)
    (fun k V TV V' TV' h hm => h.out.mv hm) (fun c k V TV V' TV' h hm => h)
    (fun k V TV h => HL.out V h.out.bel) H0 ?rnd ?done ?stop
  case rnd =>
    rintro m l' k x args F V T1 TB hxk henc
    cases henc
  case done =>
    rintro V T2 h hold hup hdef hts
    have q9 : Boxed V w.heap.size 3 (.int .i64 0) := h.out.box
    have c9 := q9.cell
    have HV : Hid (Below w.heap.size w V ∧ V.heap[w3.heap.size]? = some (.deferred (some [])) ∧ T2 w3.heap.size) := ⟨h.out.bel, hdef, hts⟩
    have HW : Hid (∀ b, T2 b → w.heap.size ≤ b) := h.out.own
    clear h hold hup hdef hts q9
    gi_wp2
    show LeavesInM Fence.wide 0 Try.prog Try.f14 _ R ([w3.heap.size].map Rl.mark) .returning V
    refine Rl.leaves_marks (T := T2) (by simp) (fun A => Below w.heap.size w A) ?_ ?_ _ V ⟨by simp, fun D hD => by simp at hD; subst hD; exact ⟨HV.out.2.2, HV.out.2.1⟩⟩ HV.out.1
    · rintro A D hD k1
      have hD2 := HW.out D hD
      exact ⟨k1.os, k1.tape, k1.output, by simpa [World.putObj] using k1.size, fun b hb => (World.putObj_heap_other (by omega)).trans (k1.block b hb)⟩
    · rintro A k1
      refine ⟨_, results_tmp (t := 2) rfl _ _ _, ?_⟩
      rw [HR.out]
      exact ⟨rfl, k1⟩
  case stop =>
    rintro c k V T2 hk h hold hup hdef hts
    exact h.elim
set_option maxHeartbeats 8000000 in
theorem drop_no' {pv : Value} (ki : Int) (ku : Bool) (kt : Int) (h : NoP w pv) :
    Calls Try.prog 22 #[pv, .agg #[.int .i64 ki, .bool ku, .int .i64 kt]] w fun e w' => e = .returned (.int .i64 0) ∧ Below w.heap.size w w' := by
  obtain ⟨w1, hw1⟩ : ∃ w1, (w.alloc (.cells #[.int .i64 ki, .bool ku, .int .i64 kt] 34)).alloc (.cells #[.int .i64 0] 3) = w1 := ⟨_, rfl⟩
  have hb1 : Below w.heap.size w w1 := by rw [← hw1]; exact bl2 _ _ _
  have hs1 : w1.heap.size = w.heap.size + 2 := by rw [← hw1]; simp
  have q1 : Boxed w1 (w.heap.size + 1) 3 (.int .i64 0) := by
    have := Boxed.new (w.alloc (.cells #[.int .i64 ki, .bool ku, .int .i64 kt] 34)) 3 (.int .i64 0)
    rw [World.size_alloc, hw1] at this
    exact this
  obtain ⟨w2, hw2⟩ : ∃ w2, (w1.alloc (.cells #[pv] 25)).alloc (.cells #[.int .i64 0] 3) = w2 := ⟨_, rfl⟩
  have hb2 : Below w1.heap.size w1 w2 := by rw [← hw2]; exact bl2 _ _ _
  have hs2 : w2.heap.size = w.heap.size + 4 := by rw [← hw2]; simp; omega
  have q2 : Boxed w2 (w.heap.size + 2) 25 (pv) := by rw [← hw2, ← hs1]; exact (Boxed.new w1 25 _).alloc _
  have q3 : Boxed w2 (w.heap.size + 2 + 1) 3 (.int .i64 0) := by
    have := Boxed.new (w1.alloc (.cells #[pv] 25)) 3 (.int .i64 0)
    rw [World.size_alloc, hs1, hw2] at this
    exact this
  have hb02 : Below w.heap.size w w2 := hb1.trans (hb2.mono hb1.size)
  have q4 : Boxed w2 (w.heap.size + 1) 3 (.int .i64 0) := (hb2.block _ q1.lt).trans q1
  have HC : Hid _ := circle_any pv h.ptr 0 w1
  rw [hw2, hs1] at HC
  have HITR : Hid _ := circle_itr0 pv (w.heap.size + 2) (w.heap.size + 2 + 1) (fun _ _ _ _ _ => False) (fun A => NoP A pv) (by
    rcases h with h | ⟨p, h, c⟩
    · exact .inl h
    · refine .inr ⟨p, h, fun A hA => ?_⟩
      rcases hA with hA | ⟨p', hA, c'⟩
      · rw [h] at hA; cases hA
      · rw [h] at hA; cases hA; exact c') (fun b => b = w.heap.size + 2 ∨ b = w.heap.size + 2 + 1) w2 q2 (fun b hb => by omega)
  have HL : Hid (∀ V, Below w.heap.size w V → NoP V pv) := fun V hb => h.later hb
  have H0 : Hid (NoS w (w.heap.size + 1) w2 (fun b => b = w.heap.size + 2 ∨ b = w.heap.size + 2 + 1)) := ⟨hb02, fun b hb => by omega, by omega, q4⟩
  have HP : Hid _ := h.ptr
  have HS2 : Hid _ := hs2
  have HW1 : Hid ((w.alloc (.cells #[.int .i64 ki, .bool ku, .int .i64 kt] 34)).alloc (.cells #[.int .i64 0] 3) = w1) := hw1
  clear h hb1 hb2 hb02 q1 q2 q3 q4 hs1 hs2 hw1 hw2
  obtain ⟨R, HR⟩ : ∃ R : Ending → World → Prop, Hid (R = fun e w' => e = .returned (.int .i64 0) ∧ Below w.heap.size w w') := ⟨_, rfl⟩
  rw [← HR.out]
  suffices key : CallsIn Fence.wide 0 Try.prog 22 #[pv, .agg #[.int .i64 ki, .bool ku, .int .i64 kt]] w R from callsIn_wide.1 key
  obtain ⟨pa, hpa⟩ : ∃ a, pv = .pointer a := by
    rcases HP.out with h | ⟨a, h⟩
    · exact ⟨_, h⟩
    · exact ⟨_, h⟩
  subst hpa
  refine callsIn_of_wp_marks Try.func22 rfl trivial ?_ rfl
  simp only [Try.ntmps22, List.size_toArray, List.length_cons, List.length_nil, Nat.reduceAdd, Nat.reduceSub, Array.replicate_succ, Array.replicate_zero, List.push_toArray, List.append_toArray, List.nil_append, List.cons_append]
  gi_wp2
  rw [HW1.out]
  refine ⟨trivial, rfl, (callsIn_wide.2 HC.out).mono ?_⟩
  rintro e w3 ⟨rfl, hw3⟩
  subst hw3
  clear HC HW1
  gi_wp2
  refine Rl.range_law (P := Try.prog) (gf := 44) (lb := #[.pointer (some ⟨w.heap.size + 2, 0, none⟩), .pointer (some ⟨w.heap.size + 2 + 1, 0, none⟩)]) rfl (enters_of Try.func44 (by kernel_rfl) rfl) (enc := fun _ _ _ _ _ => False) (xs := ([] : List Nat)) (n0 := 0) (m0 := 0) (G := fun A => NoP A (.pointer pa)) (T := fun b => b = w.heap.size + 2 ∨ b = w.heap.size + 2 + 1)
    HITR.out (fun b hb => by have := HS2.out; omega) (Nat.zero_le _) (Nat.le_refl _) (fun x F W T args h => h.elim)
    (fun k V TB => Hid (NoS w (w.heap.size + 1) V TB)) (fun c k V TB => False)
    (fun k V TV V' TV' h hm => h.out.mv hm) (fun c k V TV V' TV' h hm => h)
    (fun k V TV h => HL.out V h.out.bel) H0 ?rnd ?done ?stop
  case rnd =>
    rintro m l' k x args F V T1 TB hxk henc
    cases henc
  case done =>
    rintro V T2 h hold hup hdef hts
    have q9 : Boxed V (w.heap.size + 1) 3 (.int .i64 0) := h.out.box
    have c9 := q9.cell
    have HV : Hid (Below w.heap.size w V ∧ V.heap[w3.heap.size]? = some (.deferred (some [])) ∧ T2 w3.heap.size) := ⟨h.out.bel, hdef, hts⟩
    have HW : Hid (∀ b, T2 b → w.heap.size ≤ b) := h.out.own
    clear h hold hup hdef hts q9
    gi_wp2
    show LeavesInM Fence.wide 0 Try.prog Try.f22 _ R ([w3.heap.size].map Rl.mark) .returning V
    refine Rl.leaves_marks (T := T2) (by simp) (fun A => Below w.heap.size w A) ?_ ?_ _ V ⟨by simp, fun D hD => by simp at hD; subst hD; exact ⟨HV.out.2.2, HV.out.2.1⟩⟩ HV.out.1
    · rintro A D hD k1
      have hD2 := HW.out D hD
      exact ⟨k1.os, k1.tape, k1.output, by simpa [World.putObj] using k1.size, fun b hb => (World.putObj_heap_other (by omega)).trans (k1.block b hb)⟩
    · rintro A k1
      refine ⟨_, results_tmp (t := 4) rfl _ _ _, ?_⟩
      rw [HR.out]
      exact ⟨rfl, k1⟩
  case stop =>
    rintro c k V T2 hk h hold hup hdef hts
    exact h.elim
end Go.Proofs.Ytfhmmiilenonkaa
