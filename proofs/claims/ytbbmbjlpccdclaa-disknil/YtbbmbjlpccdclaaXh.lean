/- The walk over the laws' step: a copy. -/
import Derived.Test.YtbbmbjlpccdclaaXg
import Derived.Test.YtbbmbjlpccdclaaMb
import Derived.OrdersHeld
namespace Go.Proofs.Ytbbmbjlpccdclaa
open Go.RowKit
set_option linter.unusedVariables false

/-- An operation that yields in every such world is taken first; its slot is named. -/
theorem takeD {P : Program} {ops : Array Oper} {Q : Exit → Act → World → Prop} {md : Region.Mode} {S : World → Prop} {i : Nat} {oi : Oper} {d : Tmp} {v : Value} {fuel : Nat} {listed : Array Bool} {a : Act} {w : World} (hi : ops[i]? = some oi) (hd : oi.dst = some d)
    (hs : Region.noSelect ops = true) (hf : Region.free md ops listed i = true) (hr : (Region.ready md ops listed).contains i = true)
    (hQ : ∀ c a w, Q (.panic c) { tmps := a.tmps.setIfInBounds d v, defers := a.defers } w → Q (.panic c) a w) (hy : YieldsIf P ops S oi v a) (hS : S w)
    (h : wpAnyH P md ops Q S fuel (listed.setIfInBounds i true) { tmps := a.tmps.setIfInBounds d v, defers := a.defers } w) : wpAnyH P md ops Q S (fuel + 1) listed a w := by
  have hp : ∀ a : Act, a.put oi.dst v = { tmps := a.tmps.setIfInBounds d v, defers := a.defers } := fun a => by rw [hd]; rfl
  refine wpAnyH_take hi hs hf hr (fun c a w h => hQ c a w (by rw [hp] at h; exact h)) hy hS ?_
  rw [hp]
  exact h

theorem wpOp_calls {P : Program} {ops : Array Oper} {Q : Exit → Act → World → Prop} {i : Nat} {K : Act → World → Prop} {a : Act} {w : World} {o : Oper} {d : Tmp} {f : FuncId} {args : Array Value} (hi : ops[i]? = some o) (hd : o.dst = some d) (hw : Region.wanted o (yielded ops a.tmps) = true)
    (hrun : (execOp a.eval o).run P w = .ok (.enter f args) w) (R : Ending → World → Prop) (h : Calls P f args w R) (hR : ∀ v w'', R (.returned v) w'' → K { tmps := a.tmps.setIfInBounds d v, defers := a.defers } w'') (hP : ∀ ch w'', R (.panicked ch) w'' → Q (.panic ch) a w'') (hO : ∀ w'', ¬ R .outgrown w'') : wpOp P ops Q i K a w := by
  have hp : ∀ v, a.put o.dst v = { tmps := a.tmps.setIfInBounds d v, defers := a.defers } := fun v => by rw [hd]; rfl
  unfold wpOp
  simp only [hi]
  rw [if_pos hw]
  refine .inl ?_
  unfold Oper.wp
  rw [hrun]
  exact h.mono fun e w'' he => by
    cases e with
    | returned v => show K (a.put o.dst v) w''; rw [hp]; exact hR v w'' he
    | panicked ch => exact hP ch w'' he
    | outgrown => exact absurd he (hO w'')

theorem wpOp_value {P : Program} {ops : Array Oper} {Q : Exit → Act → World → Prop} {i : Nat} {K : Act → World → Prop} {a : Act} {w w' : World} {o : Oper} {d : Tmp} {v : Value} (hi : ops[i]? = some o) (hd : o.dst = some d) (hw : Region.wanted o (yielded ops a.tmps) = true)
    (hrun : (execOp a.eval o).run P w = .ok (.value v) w') (hK : K { tmps := a.tmps.setIfInBounds d v, defers := a.defers } w') : wpOp P ops Q i K a w := by
  have hp : a.put o.dst v = { tmps := a.tmps.setIfInBounds d v, defers := a.defers } := by rw [hd]; rfl
  unfold wpOp
  simp only [hi]
  rw [if_pos hw]
  refine .inl ?_
  unfold Oper.wp
  rw [hrun]
  show K (a.put o.dst v) w'
  rw [hp]
  exact hK

/-- Bytes out of a constant text are marked as such. -/
theorem conv33 (w : World) (C : Array Value) (n : Nat) : (convert 33 33 (.slice (some ⟨w.heap.size, 0, none⟩) n n)).run Try.prog (w.alloc (.cells C 5)) = .ok (.slice (some ⟨w.heap.size, 0, none⟩) n n) (w.alloc (.cells C 5 (C.size, C.size + 1))) := by
  have hsh : (w.alloc (.cells C 5)).shape? w.heap.size = some (5, C.size) := by
    have : (w.alloc (.cells C 5)).heap[w.heap.size]? = some (.cells C 5) := heap_alloc_new _ _
    unfold World.shape?
    rw [this]
  have hfr : (w.alloc (.cells C 5)).freeze ⟨w.heap.size, C.size, none⟩ 1 = w.alloc (.cells C 5 (C.size, C.size + 1)) := by
    have hm : ∀ (a : Array Obj) (x : Obj) (f : Obj → Obj), (a.push x).modify a.size f = a.push (f x) := by
      intro a x f
      apply Array.ext
      · simp
      · intro i h1 h2
        simp only [Array.getElem_modify, Array.getElem_push]
        by_cases h : a.size = i
        · subst h
          simp
        · have hi : i < a.size := by simp at h1; omega
          simp [h, hi]
    unfold World.freeze
    rw [if_neg (by decide)]
    show ({ w.alloc (.cells C 5) with heap := (w.heap.push (.cells C 5)).modify w.heap.size _ } : World) = _
    rw [hm]
    rfl
  simp [convert, run_underlying Try.underlying33, run_underlying Try.underlying5, markStringish, hsh, hfr]

theorem RB.newf (w : World) (l : List UInt8) (cs : Array Value) (t : TypeId) (fr : Nat × Nat) (k : Nat) (hk : k = w.heap.size) (h : cs.toList = bvs l) (hl : l.length ≤ 1000000) : RB (w.alloc (.cells cs t fr)) (.slice (some ⟨k, 0, none⟩) l.length l.length) l := by
  subst hk
  refine ⟨_, _, rfl, Nat.le_refl _, by unfold maxLen; omega, (fun h => by cases h), fun i hi => ⟨_, _, rfl, ?_⟩⟩
  rw [Nat.zero_add, cell_of_row _ _ _ cs t fr (heap_alloc_new _ _), ← Array.getElem?_toList, h]
  simp [bvs, hi]

set_option maxRecDepth 1000000 in
set_option maxHeartbeats 4000000 in
theorem step_copy (T : Nat → Prop) (w : World) (p r g : Nat) (S : DS) (i n : Int) (bv kv : Value) (hd : DK T w p S) (hr : RV w r g S) (ho : Okay S) (hs : Small 9000000 800000000000 S) (hnr : ¬ T r) (hng : ¬ T g) (ha : bv.oneCell' = true) (hk : kv.oneCell' = true) :
    Calls Try.prog 12 #[.pointer (some ⟨p, 0, none⟩), .pointer (some ⟨r, 0, none⟩), .agg #[.int .i64 6, .int .i64 i, .int .i64 n, bv, kv]] w (StepC T w p r g S) := by
  have hb0 : Below w.heap.size w (w.alloc (.cells #[.int .i64 6, .int .i64 i, .int .i64 n, bv, kv] 36)) := (Below.refl _ _).alloc (Nat.le_refl _) _
  have hT := hd.live
  have hrl := hr.rlt
  have hs2 : Small 10000000 1000000000000 S := small_mono hs (by omega) (by omega)
  have HC : Hid _ := copy_any T _ p S (hd.later hb0) ho hs2
  have HB0 : Hid _ := hb0
  have HD : Hid (DK T w p S) := hd
  have HR : Hid _ := hr
  have HO : Hid _ := ho
  have HS2 : Hid _ := hs2
  have HS3 : Hid _ := hs
  obtain ⟨W0, hW0⟩ : ∃ W0, W0 = w.alloc (.cells #[.int .i64 6, .int .i64 i, .int .i64 n, bv, kv] 36) := ⟨_, rfl⟩
  clear hd hr ho hs hs2 hb0
  go_enter Try.func12, Try.ntmps12
  go_wp2_with (first | (go_at_call 26; refine Calls.mono HC.out ?_; rintro e w7 ⟨N, rfl, hd7, hb7⟩; have HD7 : Hid (DK (fun k => (w.alloc (.cells #[.int .i64 6, .int .i64 i, .int .i64 n, bv, kv] 36)).heap.size ≤ k ∧ k < w7.heap.size) w7 N S) := hd7; have HB7 : Hid _ := hb7; clear hd7 hb7))
  rw [← hW0] at HD7 HB7 HB0
  have hz0 : W0.heap.size = w.heap.size + 1 := by rw [hW0]; simp
  have hbw7 : Below w.heap.size w w7 := HB0.out.trans (HB7.out.mono (by omega))
  have hr7 : RV w7.drew r g S := (HR.out.later hbw7).drew
  have hpos := HO.out.pos
  obtain ⟨n0, HN0⟩ : ∃ n0, Hid (S.n = n0) := ⟨_, rfl⟩
  obtain ⟨b0, HB⟩ : ∃ b0, Hid ((S.fs 0).b = b0) := ⟨_, rfl⟩
  have hsl := HS3.out.len 0
  have hS : w7.drew.cell? ⟨r, 0, none⟩ = some (.slice (some ⟨g, 0, none⟩) n0 n0) ∧ w7.drew.cell? ⟨g, 0, none⟩ = some (.string ⟨b0.toArray⟩) := by
    have h1 := hr7.sl
    have h2 := (hr7.file 0 (by omega)).1
    rw [HN0.out] at h1
    rw [HB.out] at h2
    exact ⟨h1, h2⟩
  rw [HB.out] at hsl
  rw [HN0.out] at hpos
  have hpos2 : (0 : Int) < (n0 : Int) := by omega
  have hbs := str_size b0
  have hfew := HO.out.few
  rw [HN0.out] at hfew
  have HKB : Hid (∀ w1 w2 : World, (w1.cell? ⟨r, 0, none⟩ = some (.slice (some ⟨g, 0, none⟩) n0 n0) ∧ w1.cell? ⟨g, 0, none⟩ = some (.string ⟨b0.toArray⟩)) → Below w1.heap.size w1 w2 → (w2.cell? ⟨r, 0, none⟩ = some (.slice (some ⟨g, 0, none⟩) n0 n0) ∧ w2.cell? ⟨g, 0, none⟩ = some (.string ⟨b0.toArray⟩))) := fun w1 w2 h hb => ⟨cell_later hb h.1, cell_later hb h.2⟩
  have HKT : Hid (∀ (T' : Nat → Prop) (w1 w2 : World), (∀ k, T' k → w.heap.size ≤ k) → (w1.cell? ⟨r, 0, none⟩ = some (.slice (some ⟨g, 0, none⟩) n0 n0) ∧ w1.cell? ⟨g, 0, none⟩ = some (.string ⟨b0.toArray⟩)) → Kp T' w1 w2 → (w2.cell? ⟨r, 0, none⟩ = some (.slice (some ⟨g, 0, none⟩) n0 n0) ∧ w2.cell? ⟨g, 0, none⟩ = some (.string ⟨b0.toArray⟩))) := fun T' w1 w2 hT' h hk => ⟨hk.cell h.1 (fun hx => by have h1 : w.heap.size ≤ r := hT' r hx; omega), hk.cell h.2 (fun hx => by have h1 : w.heap.size ≤ g := hT' g hx; omega)⟩
  have HD7d : Hid (DK (fun k => W0.heap.size ≤ k ∧ k < w7.heap.size) w7.drew N S) := HD7.out.later (Below.refl _ _).drew
  have HBw : Hid (Below w.heap.size w w7.drew) := hbw7.drew
  have HFin : Hid (∀ w', Below w.heap.size w w' → StepC T w p r g S (.returned (.bool true)) w') := fun w' hb => by
    have hz := hb.size
    refine ⟨rfl, (HD.out.later hb).wide (fun k hk => .inl hk) (fun k hk => ?_), HR.out.later hb, Kp.of_below _ hb⟩
    rcases hk with hk | hk
    · have := hT k hk; omega
    · exact hk.2
  clear HD7 hbw7 HC HB7
  refine wp_region_held (S := (fun w' => w'.cell? ⟨r, 0, none⟩ = some (.slice (some ⟨g, 0, none⟩) n0 n0) ∧ w'.cell? ⟨g, 0, none⟩ = some (.string ⟨b0.toArray⟩))) (by kernel_rfl) ?_
  simp only [List.size_toArray, List.length_cons, List.length_nil, Nat.reduceAdd, Array.replicate_succ, Array.replicate_zero, List.push_toArray, List.nil_append, List.cons_append]
  refine takeD (i := 0) (d := 76) (v := .pointer (some ⟨N, 0, none⟩)) (fuel := 34) rfl rfl (by kernel_rfl) (by kernel_rfl) (by kernel_rfl) (fun _ _ _ h => h) (.inl ⟨by kernel_rfl, fun _ _ => by kernel_rfl⟩) hS ?_
  simp only [List.setIfInBounds_toArray, List.set_cons_succ, List.set_cons_zero]
  refine takeD (i := 1) (d := 77) (v := .bool true) (fuel := 33) rfl rfl (by kernel_rfl) (by kernel_rfl) (by kernel_rfl) (fun _ _ _ h => h) (.inl ⟨by kernel_rfl, fun _ _ => by go_simp⟩) hS ?_
  simp only [List.setIfInBounds_toArray, List.set_cons_succ, List.set_cons_zero]
  refine takeD (i := 2) (d := 78) (v := .bool true) (fuel := 32) rfl rfl (by kernel_rfl) (by kernel_rfl) (by kernel_rfl) (fun _ _ _ h => h) (.inl ⟨by kernel_rfl, fun _ _ => by kernel_rfl⟩) hS ?_
  simp only [List.setIfInBounds_toArray, List.set_cons_succ, List.set_cons_zero]
  refine takeD (i := 3) (d := 79) (v := .pointer (some ⟨N, 0, none⟩)) (fuel := 31) rfl rfl (by kernel_rfl) (by kernel_rfl) (by kernel_rfl) (fun _ _ _ h => h) (.inl ⟨by kernel_rfl, fun _ _ => by kernel_rfl⟩) hS ?_
  simp only [List.setIfInBounds_toArray, List.set_cons_succ, List.set_cons_zero]
  refine takeD (i := 4) (d := 80) (v := .pointer (some ⟨r, 0, none⟩)) (fuel := 30) rfl rfl (by kernel_rfl) (by kernel_rfl) (by kernel_rfl) (fun _ _ _ h => h) (.inl ⟨by kernel_rfl, fun _ _ => by kernel_rfl⟩) hS ?_
  simp only [List.setIfInBounds_toArray, List.set_cons_succ, List.set_cons_zero]
  refine wpAnyH_all (fuel := 29) (rs := [5]) (by kernel_rfl) (by decide) ?_
  refine List.forall_mem_singleton.2 ?_
  refine wpOp_calls (i := 5) (d := 81) rfl rfl (by kernel_rfl) (f := 13) (args := #[.pointer (some ⟨N, 0, none⟩), .pointer (some ⟨r, 0, none⟩)]) (by kernel_rfl) _ (alike_any _ _ N r g S HD7d.out hr7 HO.out HS2.out) ?_ (fun _ _ h => by cases h.1) (fun _ h => by cases h.1)
  rintro v8 w8 ⟨h9, hb8⟩
  cases h9
  have hS8 := HKB.out _ _ hS hb8
  have HB8 : Hid (Below w.heap.size w w8) := HBw.out.trans (hb8.mono HBw.out.size)
  have HD8 : Hid (DK (fun k => W0.heap.size ≤ k ∧ k < w7.heap.size) w8 N S) := HD7d.out.later hb8
  have hz78 : w7.heap.size ≤ w8.heap.size := hb8.size
  refine ⟨hS8, ?_⟩
  simp only [List.setIfInBounds_toArray, List.set_cons_succ, List.set_cons_zero]
  refine takeD (i := 6) (d := 82) (v := .bool true) (fuel := 28) rfl rfl (by kernel_rfl) (by kernel_rfl) (by kernel_rfl) (fun _ _ _ h => h) (.inl ⟨by kernel_rfl, fun _ _ => by kernel_rfl⟩) hS8 ?_
  simp only [List.setIfInBounds_toArray, List.set_cons_succ, List.set_cons_zero]
  refine takeD (i := 7) (d := 83) (v := .bool true) (fuel := 27) rfl rfl (by kernel_rfl) (by kernel_rfl) (by kernel_rfl) (fun _ _ _ h => h) (.inl ⟨by kernel_rfl, fun _ _ => by kernel_rfl⟩) hS8 ?_
  simp only [List.setIfInBounds_toArray, List.set_cons_succ, List.set_cons_zero]
  refine takeD (i := 8) (d := 84) (v := .pointer (some ⟨N, 0, none⟩)) (fuel := 26) rfl rfl (by kernel_rfl) (by kernel_rfl) (by kernel_rfl) (fun _ _ _ h => h) (.inl ⟨by kernel_rfl, fun _ _ => by kernel_rfl⟩) hS8 ?_
  simp only [List.setIfInBounds_toArray, List.set_cons_succ, List.set_cons_zero]
  refine wpAnyH_all (fuel := 25) (rs := [9]) (by kernel_rfl) (by decide) ?_
  refine List.forall_mem_singleton.2 ?_
  refine wpOp_value (i := 9) (d := 85) (v := .slice (some ⟨w8.heap.size, 0, none⟩) 1 1) (w' := w8.alloc (.cells #[.int .u8 122] 5)) rfl rfl (by kernel_rfl) (by go_simp) ?_
  have hS9 := HKB.out _ _ hS8 ((Below.refl _ _).alloc (Nat.le_refl _) (.cells #[.int .u8 122] 5))
  refine ⟨hS9, ?_⟩
  simp only [List.setIfInBounds_toArray, List.set_cons_succ, List.set_cons_zero]
  refine wpAnyH_all (fuel := 24) (rs := [10]) (by kernel_rfl) (by decide) ?_
  refine List.forall_mem_singleton.2 ?_
  have hcv := conv33 w8 #[.int .u8 122] 1
  refine wpOp_value (i := 10) (d := 86) (v := .slice (some ⟨w8.heap.size, 0, none⟩) 1 1) (w' := w8.alloc (.cells #[.int .u8 122] 5 (1, 2))) rfl rfl (by kernel_rfl) (by go_simp) ?_
  have hb10 : Below w8.heap.size w8 (w8.alloc (.cells #[.int .u8 122] 5 (1, 2))) := (Below.refl _ _).alloc (Nat.le_refl _) _
  have hS10 := HKB.out _ _ hS8 hb10
  refine ⟨hS10, ?_⟩
  simp only [List.setIfInBounds_toArray, List.set_cons_succ, List.set_cons_zero]
  have HA : Hid _ := append_any _ _ N S 0 (.slice (some ⟨w8.heap.size, 0, none⟩) 1 1) [122] (HD8.out.later hb10) HO.out HS2.out (RB.newf w8 [122] #[.int .u8 122] 5 (1, 2) w8.heap.size rfl rfl (by decide)) (by decide) (fun a n c he hx => by cases he; exact Nat.lt_irrefl _ (Nat.lt_of_le_of_lt hz78 hx.2))
  obtain ⟨res, HRes⟩ : ∃ res, Hid (appendP S 0 [122] = res) := ⟨_, rfl⟩
  rw [HRes.out] at HA
  have HOR : Hid (Okay res.2) := by show Okay _; rw [← HRes.out]; exact okay_append HO.out _ _
  have HSR : Hid (Small 10000000 900000000000 res.2) := by show Small _ _ _; rw [← HRes.out]; exact small_mono (small_append HS3.out 0 [122]) (by decide) (by decide)
  have HB10 : Hid (Below w.heap.size w (w8.alloc (.cells #[.int .u8 122] 5 (1, 2)))) := HB8.out.trans (hb10.mono HB8.out.size)
  have hz10 : w8.heap.size < (w8.alloc (.cells #[.int .u8 122] 5 (1, 2))).heap.size := by simp
  refine wpAnyH_all (fuel := 23) (rs := [11]) (by kernel_rfl) (by decide) ?_
  refine List.forall_mem_singleton.2 ?_
  refine wpOp_calls (i := 11) (d := 87) rfl rfl (by kernel_rfl) (f := 23) (args := #[.pointer (some ⟨N, 0, none⟩), .int .i64 0, .slice (some ⟨w8.heap.size, 0, none⟩) 1 1]) (by kernel_rfl) _ (HA.out) ?_ (fun _ _ h => by cases h.1) (fun _ h => by cases h.1)
  rintro v11 w11 ⟨h9, hd11, hk11⟩
  cases h9
  have HB11 : Hid (Below w.heap.size w w11) := HB10.out.trans (hk11.below HB10.out.size (fun k hk => by have := hk.1; omega))
  have hS11 := HKT.out _ _ _ (fun k hk => by have := hk.1; omega) hS10 hk11
  have HD11 : Hid (DK (Wid (fun k => W0.heap.size ≤ k ∧ k < w7.heap.size) (w8.alloc (.cells #[.int .u8 122] 5 (1, 2))) w11) w11 N res.2) := hd11
  have HT11 : Hid (∀ k, Wid (fun k => W0.heap.size ≤ k ∧ k < w7.heap.size) (w8.alloc (.cells #[.int .u8 122] 5 (1, 2))) w11 k → w.heap.size ≤ k) := fun k hk => by rcases hk with hk | hk; exact Nat.le_trans (by omega) hk.1; exact Nat.le_trans HB10.out.size hk.1
  clear hd11 hk11
  refine ⟨hS11, ?_⟩
  simp only [List.setIfInBounds_toArray, List.set_cons_succ, List.set_cons_zero]
  by_cases hq : res.1 = 0
  · refine takeD (i := 12) (d := 88) (v := .bool false) (fuel := 22) rfl rfl (by kernel_rfl) (by kernel_rfl) (by kernel_rfl) (fun _ _ _ h => h) (.inl ⟨by kernel_rfl, fun _ _ => by go_simp⟩) hS11 ?_
    simp only [List.setIfInBounds_toArray, List.set_cons_succ, List.set_cons_zero]
    refine takeD (i := 13) (d := 89) (v := .bool false) (fuel := 21) rfl rfl (by kernel_rfl) (by kernel_rfl) (by kernel_rfl) (fun _ _ _ h => h) (.inl ⟨by kernel_rfl, fun _ _ => by kernel_rfl⟩) hS11 ?_
    simp only [List.setIfInBounds_toArray, List.set_cons_succ, List.set_cons_zero]
    refine takeD (i := 14) (d := 90) (v := .pointer (some ⟨N, 0, none⟩)) (fuel := 20) rfl rfl (by kernel_rfl) (by kernel_rfl) (by kernel_rfl) (fun _ _ _ h => h) (.inl ⟨by kernel_rfl, fun _ _ => by kernel_rfl⟩) hS11 ?_
    simp only [List.setIfInBounds_toArray, List.set_cons_succ, List.set_cons_zero]
    refine takeD (i := 17) (d := 93) (v := .pointer (some ⟨r, 0, none⟩)) (fuel := 19) rfl rfl (by kernel_rfl) (by kernel_rfl) (by kernel_rfl) (fun _ _ _ h => h) (.inl ⟨by kernel_rfl, fun _ _ => by kernel_rfl⟩) hS11 ?_
    simp only [List.setIfInBounds_toArray, List.set_cons_succ, List.set_cons_zero]
    refine takeD (i := 18) (d := 94) (v := .pointer (some ⟨r, 0, none⟩)) (fuel := 18) rfl rfl (by kernel_rfl) (by kernel_rfl) (by kernel_rfl) (fun _ _ _ h => h) (.inl ⟨by kernel_rfl, fun _ _ => by kernel_rfl⟩) hS11 ?_
    simp only [List.setIfInBounds_toArray, List.set_cons_succ, List.set_cons_zero]
    refine takeD (i := 19) (d := 95) (v := .pointer (some ⟨r, 0, none⟩)) (fuel := 17) rfl rfl (by kernel_rfl) (by kernel_rfl) (by kernel_rfl) (fun _ _ _ h => h) (.inl ⟨by kernel_rfl, fun _ _ => by go_simp⟩) hS11 ?_
    simp only [List.setIfInBounds_toArray, List.set_cons_succ, List.set_cons_zero]
    refine takeD (i := 20) (d := 96) (v := .slice (some ⟨g, 0, none⟩) n0 n0) (fuel := 16) rfl rfl (by kernel_rfl) (by kernel_rfl) (by kernel_rfl) (fun _ _ _ h => h) (.inl ⟨by kernel_rfl, fun w3 hw3 => by have z0 := hw3.1; go_simp⟩) hS11 ?_
    simp only [List.setIfInBounds_toArray, List.set_cons_succ, List.set_cons_zero]
    refine takeD (i := 21) (d := 97) (v := .pointer (some ⟨g, 0, none⟩)) (fuel := 15) rfl rfl (by kernel_rfl) (by kernel_rfl) (by kernel_rfl) (fun _ _ _ h => h) (.inl ⟨by kernel_rfl, fun _ _ => by go_simp; intro hh; omega⟩) hS11 ?_
    simp only [List.setIfInBounds_toArray, List.set_cons_succ, List.set_cons_zero]
    refine takeD (i := 22) (d := 98) (v := .pointer (some ⟨g, 0, none⟩)) (fuel := 14) rfl rfl (by kernel_rfl) (by kernel_rfl) (by kernel_rfl) (fun _ _ _ h => h) (.inl ⟨by kernel_rfl, fun _ _ => by go_simp⟩) hS11 ?_
    simp only [List.setIfInBounds_toArray, List.set_cons_succ, List.set_cons_zero]
    refine takeD (i := 23) (d := 99) (v := .string ⟨b0.toArray⟩) (fuel := 13) rfl rfl (by kernel_rfl) (by kernel_rfl) (by kernel_rfl) (fun _ _ _ h => h) (.inl ⟨by kernel_rfl, fun w3 hw3 => by have z0 := hw3.2; go_simp⟩) hS11 ?_
    simp only [List.setIfInBounds_toArray, List.set_cons_succ, List.set_cons_zero]
    refine takeD (i := 24) (d := 100) (v := .int .i64 b0.length) (fuel := 12) rfl rfl (by kernel_rfl) (by kernel_rfl) (by kernel_rfl) (fun _ _ _ h => h) (.inl ⟨by kernel_rfl, fun _ _ => by go_simp⟩) hS11 ?_
    simp only [List.setIfInBounds_toArray, List.set_cons_succ, List.set_cons_zero]
    refine takeD (i := 25) (d := 101) (v := .int .i64 (b0.length + 1)) (fuel := 11) rfl rfl (by kernel_rfl) (by kernel_rfl) (by kernel_rfl) (fun _ _ _ h => h) (.inl ⟨by kernel_rfl, fun _ _ => by go_simp; rw [IntKind.wrap_i64]; omega⟩) hS11 ?_
    simp only [List.setIfInBounds_toArray, List.set_cons_succ, List.set_cons_zero]
    have HRd : Hid (Calls Try.prog 15 #[.pointer (some ⟨N, 0, none⟩), .int .i64 0] w11 fun e w' => (∃ a c, e = .returned (.slice a (b0.length + 1) c)) ∧ Below w11.heap.size w11 w') := by
      have := read_any _ w11 N res.2 0 HD11.out HOR.out (small_mono HSR.out (by omega) (by omega))
      have hlen : (readP res.2 0).length = b0.length + 1 := by
        have h0 : hasB S 0 = true := by unfold hasB; rw [HN0.out]; simp; omega
        have hres := HRes.out
        unfold appendP writeP at hres
        split at hres
        · rw [← hres] at hq; cases hq
        · rw [if_neg (by rw [h0]; decide)] at hres
          split at hres
          · rename_i hm
            rw [← hres] at hq
            exact absurd hq hm
          · split at hres
            · rw [← hres] at hq; cases hq
            · rw [← hres]
              have h1 : hasB (turnP { S with fuse := burnF S.fuse } (0 : Int).toNat (withP [122] (S.fs (0 : Int).toNat))) 0 = true := h0
              unfold readP
              rw [h1, if_pos rfl]
              show (putF S.fs 0 (withP [122] (S.fs 0)) 0).b.length = _
              rw [putF_same]
              show ((S.fs 0).b ++ [122]).length = _
              rw [HB.out]
              simp
      refine Calls.mono this ?_
      rintro e w' ⟨⟨v, rfl, hv⟩, hb2⟩
      obtain ⟨a, c, rfl, _⟩ := hv
      rw [hlen]
      exact ⟨⟨a, c, rfl⟩, hb2⟩
    refine wpAnyH_all (fuel := 10) (rs := [15]) (by kernel_rfl) (by decide) ?_
    refine List.forall_mem_singleton.2 ?_
    refine wpOp_calls (i := 15) (d := 91) rfl rfl (by kernel_rfl) (f := 15) (args := #[.pointer (some ⟨N, 0, none⟩), .int .i64 0]) (by kernel_rfl) _ (HRd.out) ?_ (fun _ _ h => by obtain ⟨⟨_, _, h⟩, _⟩ := h; cases h) (fun _ h => by obtain ⟨⟨_, _, h⟩, _⟩ := h; cases h)
    rintro v12 w12 ⟨⟨a12, c12, h9⟩, hb12⟩
    cases h9
    have hS12 := HKB.out _ _ hS11 hb12
    have HB12 : Hid (Below w.heap.size w w12) := HB11.out.trans (hb12.mono HB11.out.size)
    have HD12 : Hid (DK (Wid (fun k => W0.heap.size ≤ k ∧ k < w7.heap.size) (w8.alloc (.cells #[.int .u8 122] 5 (1, 2))) w11) w12 N res.2) := HD11.out.later hb12
    refine ⟨hS12, ?_⟩
    simp only [List.setIfInBounds_toArray, List.set_cons_succ, List.set_cons_zero]
    refine takeD (i := 16) (d := 92) (v := .int .i64 (b0.length + 1)) (fuel := 9) rfl rfl (by kernel_rfl) (by kernel_rfl) (by kernel_rfl) (fun _ _ _ h => h) (.inl ⟨by kernel_rfl, fun _ _ => by go_simp⟩) hS12 ?_
    simp only [List.setIfInBounds_toArray, List.set_cons_succ, List.set_cons_zero]
    refine takeD (i := 26) (d := 102) (v := .bool true) (fuel := 8) rfl rfl (by kernel_rfl) (by kernel_rfl) (by kernel_rfl) (fun _ _ _ h => h) (.inl ⟨by kernel_rfl, fun _ _ => by go_simp⟩) hS12 ?_
    simp only [List.setIfInBounds_toArray, List.set_cons_succ, List.set_cons_zero]
    refine takeD (i := 27) (d := 103) (v := .bool true) (fuel := 7) rfl rfl (by kernel_rfl) (by kernel_rfl) (by kernel_rfl) (fun _ _ _ h => h) (.inl ⟨by kernel_rfl, fun _ _ => by kernel_rfl⟩) hS12 ?_
    simp only [List.setIfInBounds_toArray, List.set_cons_succ, List.set_cons_zero]
    refine takeD (i := 28) (d := 104) (v := .bool true) (fuel := 6) rfl rfl (by kernel_rfl) (by kernel_rfl) (by kernel_rfl) (fun _ _ _ h => h) (.inl ⟨by kernel_rfl, fun _ _ => by kernel_rfl⟩) hS12 ?_
    simp only [List.setIfInBounds_toArray, List.set_cons_succ, List.set_cons_zero]
    refine takeD (i := 29) (d := 105) (v := .bool true) (fuel := 5) rfl rfl (by kernel_rfl) (by kernel_rfl) (by kernel_rfl) (fun _ _ _ h => h) (.inl ⟨by kernel_rfl, fun _ _ => by kernel_rfl⟩) hS12 ?_
    simp only [List.setIfInBounds_toArray, List.set_cons_succ, List.set_cons_zero]
    refine takeD (i := 30) (d := 106) (v := .pointer (some ⟨N, 0, none⟩)) (fuel := 4) rfl rfl (by kernel_rfl) (by kernel_rfl) (by kernel_rfl) (fun _ _ _ h => h) (.inl ⟨by kernel_rfl, fun _ _ => by kernel_rfl⟩) hS12 ?_
    simp only [List.setIfInBounds_toArray, List.set_cons_succ, List.set_cons_zero]
    refine wpAnyH_all (fuel := 3) (rs := [31]) (by kernel_rfl) (by decide) ?_
    refine List.forall_mem_singleton.2 ?_
    refine wpOp_calls (i := 31) (d := 107) rfl rfl (by kernel_rfl) (f := 17) (args := #[.pointer (some ⟨N, 0, none⟩), .slice none 0 0]) (by kernel_rfl) _ (crash_any _ w12 N res.2 _ [] HD12.out HOR.out HSR.out (RI.nil _) (fun _ a n c he => by cases he) (by simp)) ?_ (fun _ _ h => by cases h.1) (fun _ h => by cases h.1)
    rintro v13 w13 ⟨h9, hd13, hk13⟩
    cases h9
    have HB13 : Hid (Below w.heap.size w w13) := HB12.out.trans (hk13.below HB12.out.size HT11.out)
    have hS13 := HKT.out _ _ _ HT11.out hS12 hk13
    refine ⟨hS13, ?_⟩
    simp only [List.setIfInBounds_toArray, List.set_cons_succ, List.set_cons_zero]
    refine takeD (i := 32) (d := 108) (v := .bool true) (fuel := 2) rfl rfl (by kernel_rfl) (by kernel_rfl) (by kernel_rfl) (fun _ _ _ h => h) (.inl ⟨by kernel_rfl, fun _ _ => by go_simp⟩) hS13 ?_
    simp only [List.setIfInBounds_toArray, List.set_cons_succ, List.set_cons_zero]
    refine takeD (i := 33) (d := 109) (v := .bool true) (fuel := 1) rfl rfl (by kernel_rfl) (by kernel_rfl) (by kernel_rfl) (fun _ _ _ h => h) (.inl ⟨by kernel_rfl, fun _ _ => by kernel_rfl⟩) hS13 ?_
    simp only [List.setIfInBounds_toArray, List.set_cons_succ, List.set_cons_zero]
    refine takeD (i := 34) (d := 6) (v := .bool true) (fuel := 0) rfl rfl (by kernel_rfl) (by kernel_rfl) (by kernel_rfl) (fun _ _ _ h => h) (.inl ⟨by kernel_rfl, fun _ _ => by kernel_rfl⟩) hS13 ?_
    simp only [List.setIfInBounds_toArray, List.set_cons_succ, List.set_cons_zero]
    refine wpAnyH_done (by kernel_rfl) ?_ 0
    go_wp2_with fail
    go_ret
    exact HFin.out _ HB13.out
  · refine takeD (i := 12) (d := 88) (v := .bool true) (fuel := 22) rfl rfl (by kernel_rfl) (by kernel_rfl) (by kernel_rfl) (fun _ _ _ h => h) (.inl ⟨by kernel_rfl, fun _ _ => by go_simp⟩) hS11 ?_
    simp only [List.setIfInBounds_toArray, List.set_cons_succ, List.set_cons_zero]
    refine takeD (i := 13) (d := 89) (v := .bool true) (fuel := 21) rfl rfl (by kernel_rfl) (by kernel_rfl) (by kernel_rfl) (fun _ _ _ h => h) (.inl ⟨by kernel_rfl, fun _ _ => by kernel_rfl⟩) hS11 ?_
    simp only [List.setIfInBounds_toArray, List.set_cons_succ, List.set_cons_zero]
    refine takeD (i := 14) (d := 90) (v := undef) (fuel := 20) rfl rfl (by kernel_rfl) (by kernel_rfl) (by kernel_rfl) (fun _ _ _ h => h) (.inr ⟨by kernel_rfl, rfl⟩) hS11 ?_
    simp only [List.setIfInBounds_toArray, List.set_cons_succ, List.set_cons_zero]
    refine takeD (i := 15) (d := 91) (v := undef) (fuel := 19) rfl rfl (by kernel_rfl) (by kernel_rfl) (by kernel_rfl) (fun _ _ _ h => h) (.inr ⟨by kernel_rfl, rfl⟩) hS11 ?_
    simp only [List.setIfInBounds_toArray, List.set_cons_succ, List.set_cons_zero]
    refine takeD (i := 16) (d := 92) (v := undef) (fuel := 18) rfl rfl (by kernel_rfl) (by kernel_rfl) (by kernel_rfl) (fun _ _ _ h => h) (.inr ⟨by kernel_rfl, rfl⟩) hS11 ?_
    simp only [List.setIfInBounds_toArray, List.set_cons_succ, List.set_cons_zero]
    refine takeD (i := 17) (d := 93) (v := undef) (fuel := 17) rfl rfl (by kernel_rfl) (by kernel_rfl) (by kernel_rfl) (fun _ _ _ h => h) (.inr ⟨by kernel_rfl, rfl⟩) hS11 ?_
    simp only [List.setIfInBounds_toArray, List.set_cons_succ, List.set_cons_zero]
    refine takeD (i := 18) (d := 94) (v := undef) (fuel := 16) rfl rfl (by kernel_rfl) (by kernel_rfl) (by kernel_rfl) (fun _ _ _ h => h) (.inr ⟨by kernel_rfl, rfl⟩) hS11 ?_
    simp only [List.setIfInBounds_toArray, List.set_cons_succ, List.set_cons_zero]
    refine takeD (i := 19) (d := 95) (v := undef) (fuel := 15) rfl rfl (by kernel_rfl) (by kernel_rfl) (by kernel_rfl) (fun _ _ _ h => h) (.inr ⟨by kernel_rfl, rfl⟩) hS11 ?_
    simp only [List.setIfInBounds_toArray, List.set_cons_succ, List.set_cons_zero]
    refine takeD (i := 20) (d := 96) (v := undef) (fuel := 14) rfl rfl (by kernel_rfl) (by kernel_rfl) (by kernel_rfl) (fun _ _ _ h => h) (.inr ⟨by kernel_rfl, rfl⟩) hS11 ?_
    simp only [List.setIfInBounds_toArray, List.set_cons_succ, List.set_cons_zero]
    refine takeD (i := 21) (d := 97) (v := undef) (fuel := 13) rfl rfl (by kernel_rfl) (by kernel_rfl) (by kernel_rfl) (fun _ _ _ h => h) (.inr ⟨by kernel_rfl, rfl⟩) hS11 ?_
    simp only [List.setIfInBounds_toArray, List.set_cons_succ, List.set_cons_zero]
    refine takeD (i := 22) (d := 98) (v := undef) (fuel := 12) rfl rfl (by kernel_rfl) (by kernel_rfl) (by kernel_rfl) (fun _ _ _ h => h) (.inr ⟨by kernel_rfl, rfl⟩) hS11 ?_
    simp only [List.setIfInBounds_toArray, List.set_cons_succ, List.set_cons_zero]
    refine takeD (i := 23) (d := 99) (v := undef) (fuel := 11) rfl rfl (by kernel_rfl) (by kernel_rfl) (by kernel_rfl) (fun _ _ _ h => h) (.inr ⟨by kernel_rfl, rfl⟩) hS11 ?_
    simp only [List.setIfInBounds_toArray, List.set_cons_succ, List.set_cons_zero]
    refine takeD (i := 24) (d := 100) (v := undef) (fuel := 10) rfl rfl (by kernel_rfl) (by kernel_rfl) (by kernel_rfl) (fun _ _ _ h => h) (.inr ⟨by kernel_rfl, rfl⟩) hS11 ?_
    simp only [List.setIfInBounds_toArray, List.set_cons_succ, List.set_cons_zero]
    refine takeD (i := 25) (d := 101) (v := undef) (fuel := 9) rfl rfl (by kernel_rfl) (by kernel_rfl) (by kernel_rfl) (fun _ _ _ h => h) (.inr ⟨by kernel_rfl, rfl⟩) hS11 ?_
    simp only [List.setIfInBounds_toArray, List.set_cons_succ, List.set_cons_zero]
    refine takeD (i := 26) (d := 102) (v := undef) (fuel := 8) rfl rfl (by kernel_rfl) (by kernel_rfl) (by kernel_rfl) (fun _ _ _ h => h) (.inr ⟨by kernel_rfl, rfl⟩) hS11 ?_
    simp only [List.setIfInBounds_toArray, List.set_cons_succ, List.set_cons_zero]
    refine takeD (i := 27) (d := 103) (v := .bool true) (fuel := 7) rfl rfl (by kernel_rfl) (by kernel_rfl) (by kernel_rfl) (fun _ _ _ h => h) (.inl ⟨by kernel_rfl, fun _ _ => by kernel_rfl⟩) hS11 ?_
    simp only [List.setIfInBounds_toArray, List.set_cons_succ, List.set_cons_zero]
    refine takeD (i := 28) (d := 104) (v := .bool true) (fuel := 6) rfl rfl (by kernel_rfl) (by kernel_rfl) (by kernel_rfl) (fun _ _ _ h => h) (.inl ⟨by kernel_rfl, fun _ _ => by kernel_rfl⟩) hS11 ?_
    simp only [List.setIfInBounds_toArray, List.set_cons_succ, List.set_cons_zero]
    refine takeD (i := 29) (d := 105) (v := .bool true) (fuel := 5) rfl rfl (by kernel_rfl) (by kernel_rfl) (by kernel_rfl) (fun _ _ _ h => h) (.inl ⟨by kernel_rfl, fun _ _ => by kernel_rfl⟩) hS11 ?_
    simp only [List.setIfInBounds_toArray, List.set_cons_succ, List.set_cons_zero]
    refine takeD (i := 30) (d := 106) (v := .pointer (some ⟨N, 0, none⟩)) (fuel := 4) rfl rfl (by kernel_rfl) (by kernel_rfl) (by kernel_rfl) (fun _ _ _ h => h) (.inl ⟨by kernel_rfl, fun _ _ => by kernel_rfl⟩) hS11 ?_
    simp only [List.setIfInBounds_toArray, List.set_cons_succ, List.set_cons_zero]
    refine wpAnyH_all (fuel := 3) (rs := [31]) (by kernel_rfl) (by decide) ?_
    refine List.forall_mem_singleton.2 ?_
    refine wpOp_calls (i := 31) (d := 107) rfl rfl (by kernel_rfl) (f := 17) (args := #[.pointer (some ⟨N, 0, none⟩), .slice none 0 0]) (by kernel_rfl) _ (crash_any _ w11 N res.2 _ [] HD11.out HOR.out HSR.out (RI.nil _) (fun _ a n c he => by cases he) (by simp)) ?_ (fun _ _ h => by cases h.1) (fun _ h => by cases h.1)
    rintro v13 w13 ⟨h9, hd13, hk13⟩
    cases h9
    have HB13 : Hid (Below w.heap.size w w13) := HB11.out.trans (hk13.below HB11.out.size HT11.out)
    have hS13 := HKT.out _ _ _ HT11.out hS11 hk13
    refine ⟨hS13, ?_⟩
    simp only [List.setIfInBounds_toArray, List.set_cons_succ, List.set_cons_zero]
    refine takeD (i := 32) (d := 108) (v := .bool true) (fuel := 2) rfl rfl (by kernel_rfl) (by kernel_rfl) (by kernel_rfl) (fun _ _ _ h => h) (.inl ⟨by kernel_rfl, fun _ _ => by go_simp⟩) hS13 ?_
    simp only [List.setIfInBounds_toArray, List.set_cons_succ, List.set_cons_zero]
    refine takeD (i := 33) (d := 109) (v := .bool true) (fuel := 1) rfl rfl (by kernel_rfl) (by kernel_rfl) (by kernel_rfl) (fun _ _ _ h => h) (.inl ⟨by kernel_rfl, fun _ _ => by kernel_rfl⟩) hS13 ?_
    simp only [List.setIfInBounds_toArray, List.set_cons_succ, List.set_cons_zero]
    refine takeD (i := 34) (d := 6) (v := .bool true) (fuel := 0) rfl rfl (by kernel_rfl) (by kernel_rfl) (by kernel_rfl) (fun _ _ _ h => h) (.inl ⟨by kernel_rfl, fun _ _ => by kernel_rfl⟩) hS13 ?_
    simp only [List.setIfInBounds_toArray, List.set_cons_succ, List.set_cons_zero]
    refine wpAnyH_done (by kernel_rfl) ?_ 0
    go_wp2_with fail
    go_ret
    exact HFin.out _ HB13.out
end Go.Proofs.Ytbbmbjlpccdclaa
