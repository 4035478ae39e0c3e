/- The walks over stamp.all, with each of the functions that it is handed. -/
import Derived.Test.YtamfpmpooaejkaaSb
namespace Go.Proofs.Ytamfpmpooaejkaa
open Go.RowKit Go.Shelf
set_option linter.unusedVariables false
attribute [local go_sem] Oper.semAt_some

theorem grown_drew (W : World) : W.grownBy W.drew none := ⟨rfl, rfl, rfl, Nat.le_refl _, fun _ _ _ => rfl⟩

theorem pairs_stops (n : Nat) (hn : 1 ≤ n) (A B : Nat) (w0 W0 : World) (va vb : Value) (la lb : List Int) (ha : RI w0 va la) (hb : RI w0 vb lb) (hla : la.length ≤ 9223372036854775807) (hlb : lb.length ≤ 9223372036854775807) (hB0 : Below w0.heap.size w0 W0) (hA : Boxed W0 A 26 va) (hB : Boxed W0 B 26 vb) :
    SeqStopsK Fence.wide n Try.prog 50 #[.pointer (some ⟨A, 0, none⟩), .pointer (some ⟨B, 0, none⟩)] encP (Kq w0.heap.size A B va vb) (fun ys => ys = upto (pf la lb) (max la.length lb.length))
      (fun pre => ∃ k, k < max la.length lb.length ∧ pre = upto (pf la lb) (k + 1)) (max la.length lb.length) W0 := fun l J Jx W hW hJ hJx hY h0 =>
  pairs1_in n hn l A B w0 va vb la lb ha hb hla hlb _ rfl J Jx (fun s V hs => hJ s V V.drew none hs (grown_drew V) (by simp)) hY W (hB0.trans (hW.mono hB0.size)) ((hW.block A hA.lt).trans hA) ((hW.block B hB.lt).trans hB) h0

/-- A row of three numbers, in a block. -/
def Trio (W : World) (B : Nat) (x : Nat × Int × Int) : Prop := W.heap[B]? = some (.cells #[.int .i64 (x.1 : Int), .int .i64 x.2.1, .int .i64 x.2.2] 68 (0, 0))
theorem Trio.kept {W W' : World} {row : Option Nat} {B : Nat} {x : Nat × Int × Int} (h : Trio W B x) (hg : W.grownBy W' row) (hr : ∀ r, row = some r → ∃ o : Obj, W.heap[r]? = some o ∧ o.isCells = false) : Trio W' B x := by
  refine (hg.block B (Array.getElem?_eq_some_iff.1 h).1 ?_).trans h
  intro e
  obtain ⟨o, ho, hc⟩ := hr B e.symm
  rw [show W.heap[B]? = _ from h] at ho
  cases ho
  cases hc

theorem Trio.new (W : World) (x : Nat × Int × Int) : Trio (W.alloc (.cells #[.int .i64 (x.1 : Int), .int .i64 x.2.1, .int .i64 x.2.2] 68)) W.heap.size x := row_new W _ 68

theorem Kq.alloc {n0 A B : Nat} {va vb : Value} (W : World) (o : Obj) (hn : n0 ≤ W.heap.size) : Kq n0 A B va vb W (W.alloc o) := ⟨(Below.refl _ _).alloc hn _, fun h => h.alloc _, fun h => h.alloc _⟩

/-- Whether something holds of two stamps' counts, branch by branch. -/
def allB (P : Nat × Int × Int → Bool) (la lb : List Int) : Bool := (upto (pf la lb) (max la.length lb.length)).all P

theorem all_more {α : Type} (P : α → Bool) (f : Nat → α) (k : Nat) : ∀ n, k ≤ n → (upto f k).all P = false → (upto f n).all P = false := by
  intro n hn h
  rw [List.all_eq_false] at h ⊢
  obtain ⟨x, hx, hp⟩ := h
  refine ⟨x, ?_, hp⟩
  unfold upto at hx ⊢
  obtain ⟨j, hj, rfl⟩ := List.mem_map.1 hx
  exact List.mem_map.2 ⟨j, List.mem_range.2 (Nat.lt_of_lt_of_le (List.mem_range.1 hj) hn), rfl⟩

set_option maxRecDepth 1000000 in
theorem le_any (k x y : Int) (w : World) : Calls Try.prog 41 #[.agg #[.int .i64 k, .int .i64 x, .int .i64 y]] w fun e w' => e = .returned (.bool (decide (x ≤ y))) ∧ w' = w.alloc (.cells #[.int .i64 k, .int .i64 x, .int .i64 y] 68) := by
  go_enter Try.func41, Try.ntmps41
  go_wp2_with fail
  go_ret
  exact ⟨rfl, rfl⟩

set_option maxRecDepth 1000000 in
theorem ge_any (k x y : Int) (w : World) : Calls Try.prog 42 #[.agg #[.int .i64 k, .int .i64 x, .int .i64 y]] w fun e w' => e = .returned (.bool (decide (y ≤ x))) ∧ w' = w.alloc (.cells #[.int .i64 k, .int .i64 x, .int .i64 y] 68) := by
  go_enter Try.func42, Try.ntmps42
  go_wp2_with fail
  go_ret
  exact ⟨rfl, rfl⟩

set_option maxRecDepth 1000000 in
theorem nx_any (c : Nat) (i k x y : Int) (w : World) (hc : w.cell? ⟨c, 0, none⟩ = some (.int .i64 i)) : Calls Try.prog 49 #[.agg #[.int .i64 k, .int .i64 x, .int .i64 y], .pointer (some ⟨c, 0, none⟩)] w fun e w' => e = .returned (.bool (decide (k = i) || decide (x ≤ y))) ∧ w' = w.alloc (.cells #[.int .i64 k, .int .i64 x, .int .i64 y] 68) := by
  have hc2 : (w.alloc (.cells #[.int .i64 k, .int .i64 x, .int .i64 y] 68)).cell? ⟨c, 0, none⟩ = some (.int .i64 i) := cell_later ((Below.refl _ _).alloc (Nat.le_refl _) _) hc
  by_cases h : k = i
  · have HQ : Hid ((decide (k = i) || decide (x ≤ y)) = true) := by show _ = _; rw [decide_eq_true h]; rfl
    have hb : (k == i) = true := by simp [h]
    clear h
    go_enter Try.func49, Try.ntmps49
    go_wp2_with fail
    go_ret
    exact ⟨by rw [HQ.out]; rfl, rfl⟩
  · have HQ : Hid ((decide (k = i) || decide (x ≤ y)) = decide (x ≤ y)) := by show _ = _; rw [decide_eq_false h]; rfl
    have hb : (k == i) = false := by simp [h]
    clear h
    go_enter Try.func49, Try.ntmps49
    go_wp2_with fail
    go_ret
    exact ⟨by rw [HQ.out]; rfl, rfl⟩

set_option maxRecDepth 1000000 in
set_option maxHeartbeats 4000000 in
theorem all_le (va vb : Value) (la lb : List Int) (w : World) (ha : RI w va la) (hb : RI w vb lb) (hla : la.length ≤ 9223372036854775807) (hlb : lb.length ≤ 9223372036854775807) :
    Calls Try.prog 40 #[va, vb, .func (.func 41) #[] #[]] w fun e w' => e = .returned (.bool (allB (fun x : Nat × Int × Int => decide (x.2.1 ≤ x.2.2)) la lb)) ∧ Below w.heap.size w w' := by
  have HRa : Hid (RI w va la) := ha
  have HRb : Hid (RI w vb lb) := hb
  obtain ⟨aa, ca, rfl, _, _, _⟩ := ha
  obtain ⟨ab, cb, rfl, _, _, _⟩ := hb
  obtain ⟨P, HP⟩ : ∃ P, Hid (P = (fun x : Nat × Int × Int => decide (x.2.1 ≤ x.2.2))) := ⟨_, rfl⟩
  rw [← HP.out]
  have HLa : Hid (la.length ≤ 9223372036854775807) := hla
  have HLb : Hid (lb.length ≤ 9223372036854775807) := hlb
  have HST : Hid (∀ (W0 : World) (A B : Nat), Below w.heap.size w W0 → Boxed W0 A 26 _ → Boxed W0 B 26 _ → _) := fun W0 A B h1 h2 h3 => pairs_stops 4 (by omega) A B w W0 _ _ la lb HRa.out HRb.out hla hlb h1 h2 h3
  obtain ⟨b, HB⟩ : ∃ b, Hid (b = allB P la lb) := ⟨_, rfl⟩
  rw [← HB.out]
  generalize hna : la.length = na at *
  generalize hnb : lb.length = nb at *
  have HNm : Hid (max la.length lb.length = max na nb) := by show _ = _; rw [hna, hnb]
  clear hna hnb
  rename_i q1 q2 q3 q4 q5 q6
  clear q1 q2 q3 q4 q5 q6 hla hlb HLa HLb HRa HRb
  refine (callsIn_wide (n := 5)).1 ?_
  refine callsIn_of_wp_marks Try.func40 rfl trivial ?_ rfl
  simp only [Try.ntmps40, List.size_toArray, List.length_cons, List.length_nil, Nat.reduceAdd, Nat.reduceSub, Array.replicate_succ, Array.replicate_zero, List.push_toArray, List.append_toArray, List.nil_append, List.cons_append]
  gi_wp2_with (refine ⟨trivial, ?_⟩; gi_at_call 47; refine (callsIn_wide.2 (pairs_any _ _ _ _ _ _ _)).mono ?_; rintro e w' ⟨rfl, rfl⟩)
  have bF := (((Boxed.new w 69 (.func (.func 41) #[] #[])).alloc (.cells #[.bool false] 4)).alloc (.cells #[.slice aa na ca] 26)).alloc (.cells #[.slice ab nb cb] 26)
  have bR := ((Boxed.new (w.alloc (.cells #[.func (.func 41) #[] #[]] 69)) 4 (.bool false)).alloc (.cells #[.slice aa na ca] 26)).alloc (.cells #[.slice ab nb cb] 26)
  have bA := (Boxed.new ((w.alloc (.cells #[.func (.func 41) #[] #[]] 69)).alloc (.cells #[.bool false] 4)) 26 (.slice aa na ca)).alloc (.cells #[.slice ab nb cb] 26)
  have bB := Boxed.new (((w.alloc (.cells #[.func (.func 41) #[] #[]] 69)).alloc (.cells #[.bool false] 4)).alloc (.cells #[.slice aa na ca] 26)) 26 (.slice ab nb cb)
  simp only [World.size_alloc] at bR bA bB
  have hB0 : Below w.heap.size w ((((w.alloc (.cells #[.func (.func 41) #[] #[]] 69)).alloc (.cells #[.bool false] 4)).alloc (.cells #[.slice aa na ca] 26)).alloc (.cells #[.slice ab nb cb] 26)) := ((((Below.refl _ w).alloc (Nat.le_refl _) _).alloc (by simp) _).alloc (by simp; omega) _).alloc (by simp; omega) _
  have hsz : ((((w.alloc (.cells #[.func (.func 41) #[] #[]] 69)).alloc (.cells #[.bool false] 4)).alloc (.cells #[.slice aa na ca] 26)).alloc (.cells #[.slice ab nb cb] 26)).heap.size = w.heap.size + 4 := by simp
  obtain ⟨W0, hW0⟩ : ∃ W0, (((w.alloc (.cells #[.func (.func 41) #[] #[]] 69)).alloc (.cells #[.bool false] 4)).alloc (.cells #[.slice aa na ca] 26)).alloc (.cells #[.slice ab nb cb] 26) = W0 := ⟨_, rfl⟩
  rw [hW0] at bF bR bA bB hB0 hsz ⊢
  clear hW0
  refine wpIn_rangeFunc_ownH (n := 5) (F := Fence.wide) rfl (by omega) (gf := 50) (lb := #[.pointer (some ⟨w.heap.size + 1 + 1, 0, none⟩), .pointer (some ⟨w.heap.size + 1 + 1 + 1, 0, none⟩)]) rfl trivial (enters_of Try.func50 (by kernel_rfl) rfl)
    (HST.out W0 _ _ hB0 bA bB) (fun h k => h.trans k) (Kq.put (w := W0) (by omega) (by omega) (by omega)) (Below.refl _ _) (fun _ => rfl)
    (fun pre W => ((Boxed W w.heap.size 69 (.func (.func 41) #[] #[]) ∧ Boxed W (w.heap.size + 1) 4 (.bool false)) ∧ Below w.heap.size w W) ∧ Hid (pre.all P = true))
    (fun c pre W => (Boxed W (w.heap.size + 1) 4 (.bool false) ∧ Below w.heap.size w W) ∧ (c = .ret ∧ Hid (pre.all P = false)))
    (OwnFrom.and (OwnFrom.and (OwnFrom.and (Own.from (boxed_own _ _ _) _) (Own.from (boxed_own _ _ _) _)) (ownFrom_below (Nat.le_refl _) (by omega))) (fun _ _ _ _ hs _ _ => hs))
    (fun c => OwnFrom.and (OwnFrom.and (Own.from (boxed_own _ _ _) _) (ownFrom_below (Nat.le_refl _) (by omega))) (fun _ _ _ _ hs _ _ => hs))
    ⟨⟨⟨bF, bR⟩, hB0⟩, rfl⟩
    (fun x a' W => ∃ Bx, w.heap.size + 1 < Bx ∧ Trio W Bx x ∧ a' = { tmps := #[.slice aa na ca, .slice ab nb cb, .func (.func 41) #[] #[], undef, undef, .pointer (some ⟨w.heap.size, 0, none⟩), .pointer (some ⟨w.heap.size + 1, 0, none⟩), .pointer (some ⟨Bx, 0, none⟩), .slice aa na ca, .slice ab nb cb, .func (.func 50) #[] #[.pointer (some ⟨w.heap.size + 1 + 1, 0, none⟩), .pointer (some ⟨w.heap.size + 1 + 1 + 1, 0, none⟩)], .agg #[.int .i64 (x.1 : Int), .int .i64 x.2.1, .int .i64 x.2.2], undef, undef, undef, undef], defers := [] })
    (fun x a' _ X Y row hs hg hr => by obtain ⟨Bx, h1, h2, h3⟩ := hs; exact ⟨Bx, h1, h2.kept hg (fun r e => (hr r e).2), h3⟩)
    ?assign ?body ?done ?stop
  case assign =>
    rintro l pre x W K ⟨⟨⟨bF1, bR1⟩, hB1⟩, HA1⟩ hK
    unfold encP
    gi_wp2
    exact hK _ _ ((KeepsOthers.alloc _ _).from _) (Kq.alloc _ _ hB1.size) ⟨⟨⟨bF1.alloc _, bR1.alloc _⟩, hB1.alloc hB1.size _⟩, HA1⟩ ⟨W.heap.size, bR1.lt, Trio.new W x, rfl⟩
  case body =>
    rintro l pre x a' W hl ⟨r, hr⟩ ⟨⟨⟨bF1, bR1⟩, hB1⟩, HA1⟩ ⟨Bx, hBx, bX, rfl⟩ hlt
    have cF := bF1.cell
    have cX0 := (cell_row bX 0).trans rfl
    have cX1 := (cell_row bX 1).trans rfl
    have cX2 := (cell_row bX 2).trans rfl
    have bR2 := bR1.alloc (.cells #[.int .i64 (x.1 : Int), .int .i64 x.2.1, .int .i64 x.2.2] 68)
    have cR := bR2.cell
    have fR := bR2.frozen
    have hBs := hB1.size
    have HBX : Hid _ := hB1.alloc hBs (.cells #[.int .i64 (x.1 : Int), .int .i64 x.2.1, .int .i64 x.2.2] 68)
    have HKX : Hid (Kq w.heap.size (w.heap.size + 1 + 1) (w.heap.size + 1 + 1 + 1) (.slice aa na ca) (.slice ab nb cb) W _) := Kq.alloc W (.cells #[.int .i64 (x.1 : Int), .int .i64 x.2.1, .int .i64 x.2.2] 68) hBs
    have HPx : Hid (P x = _) := congrFun HP.out x
    have HS1 : Hid ((pre ++ [x]).all P = (pre.all P && P x)) := by show _ = _; rw [List.all_append]; simp
    gi_wp2_with (refine ⟨trivial, ?_⟩; gi_at_call 41; refine (CallsIn.inRound l (callsIn_wide.2 (le_any _ _ _ _))).mono ?_; rintro e w' ⟨rfl, rfl⟩)
    · rename_i hh
      have hP : P x = false := by rw [HPx.out]; simpa using hh
      refine ⟨((KeepsOthers.alloc _ _).trans (KeepsOthers.setCell _ _ _)).from _, ⟨bR2.set _, HBX.out.setCell (p := ⟨w.heap.size + 1, 0, none⟩) (by simp) _⟩, rfl, ?_⟩
      show _ = _
      rw [HS1.out, hP, Bool.and_false]
    · rename_i hh
      have hP : P x = true := by rw [HPx.out]; simpa using hh
      refine ⟨(KeepsOthers.alloc _ _).from _, HKX.out, ⟨⟨bF1.alloc _, bR2⟩, HBX.out⟩, ?_⟩
      show _ = _
      rw [HS1.out, hP, HA1.out]
      rfl
  case done =>
    rintro D ys W hD rfl ⟨⟨⟨bF1, bR1⟩, hB1⟩, HA1⟩ hK
    have cR := bR1.cell
    have fR := bR1.frozen
    gi_wp2
    have hK' := (KeepsOthers.setCell W ⟨w.heap.size + 1, 0, none⟩ (.bool true)).same D _ hK rfl
    refine ⟨by simp, .inl ⟨_, _, rfl, run_takeDeferred hK', ?_⟩⟩
    have hc5 := cell_kept (bR1.set (.bool true)).cell (grownBy_putObj' _ D (.deferred none)) (fun r e => by cases e; exact ⟨_, hK', rfl⟩)
    refine ⟨.bool true, ?_, ?_, (hB1.setCell (p := ⟨w.heap.size + 1, 0, none⟩) (by simp) _).trans (belowK_b (w := w) (Nat.le_refl _) _ D _ _ (by omega) hK' rfl rfl)⟩
    · simp [results, Try.f40, go_sem, hc5]
    · rw [HB.out]
      unfold allB
      rw [HNm.out, HA1.out]
  case stop =>
    rintro D c pre W hD ⟨k, hk, rfl⟩ ⟨⟨bR1, hB1⟩, rfl, HA1⟩ hK
    gi_wp2
    refine ⟨by simp, .inl ⟨_, _, rfl, run_takeDeferred hK, ?_⟩⟩
    have hc5 := cell_kept bR1.cell (grownBy_putObj' _ D (.deferred none)) (fun r e => by cases e; exact ⟨_, hK, rfl⟩)
    refine ⟨.bool false, ?_, ?_, hB1.trans (belowK_b (w := w) (Nat.le_refl _) _ D _ _ (by omega) hK rfl rfl)⟩
    · simp [results, Try.f40, go_sem, hc5]
    · rw [HB.out]
      unfold allB
      rw [HNm.out, all_more P (pf la lb) (k + 1) _ (by omega) HA1.out]

set_option maxRecDepth 1000000 in
set_option maxHeartbeats 4000000 in
theorem all_ge (va vb : Value) (la lb : List Int) (w : World) (ha : RI w va la) (hb : RI w vb lb) (hla : la.length ≤ 9223372036854775807) (hlb : lb.length ≤ 9223372036854775807) :
    Calls Try.prog 40 #[va, vb, .func (.func 42) #[] #[]] w fun e w' => e = .returned (.bool (allB (fun x : Nat × Int × Int => decide (x.2.2 ≤ x.2.1)) la lb)) ∧ Below w.heap.size w w' := by
  have HRa : Hid (RI w va la) := ha
  have HRb : Hid (RI w vb lb) := hb
  obtain ⟨aa, ca, rfl, _, _, _⟩ := ha
  obtain ⟨ab, cb, rfl, _, _, _⟩ := hb
  obtain ⟨P, HP⟩ : ∃ P, Hid (P = (fun x : Nat × Int × Int => decide (x.2.2 ≤ x.2.1))) := ⟨_, rfl⟩
  rw [← HP.out]
  have HLa : Hid (la.length ≤ 9223372036854775807) := hla
  have HLb : Hid (lb.length ≤ 9223372036854775807) := hlb
  have HST : Hid (∀ (W0 : World) (A B : Nat), Below w.heap.size w W0 → Boxed W0 A 26 _ → Boxed W0 B 26 _ → _) := fun W0 A B h1 h2 h3 => pairs_stops 4 (by omega) A B w W0 _ _ la lb HRa.out HRb.out hla hlb h1 h2 h3
  obtain ⟨b, HB⟩ : ∃ b, Hid (b = allB P la lb) := ⟨_, rfl⟩
  rw [← HB.out]
  generalize hna : la.length = na at *
  generalize hnb : lb.length = nb at *
  have HNm : Hid (max la.length lb.length = max na nb) := by show _ = _; rw [hna, hnb]
  clear hna hnb
  rename_i q1 q2 q3 q4 q5 q6
  clear q1 q2 q3 q4 q5 q6 hla hlb HLa HLb HRa HRb
  refine (callsIn_wide (n := 5)).1 ?_
  refine callsIn_of_wp_marks Try.func40 rfl trivial ?_ rfl
  simp only [Try.ntmps40, List.size_toArray, List.length_cons, List.length_nil, Nat.reduceAdd, Nat.reduceSub, Array.replicate_succ, Array.replicate_zero, List.push_toArray, List.append_toArray, List.nil_append, List.cons_append]
  gi_wp2_with (refine ⟨trivial, ?_⟩; gi_at_call 47; refine (callsIn_wide.2 (pairs_any _ _ _ _ _ _ _)).mono ?_; rintro e w' ⟨rfl, rfl⟩)
  have bF := (((Boxed.new w 69 (.func (.func 42) #[] #[])).alloc (.cells #[.bool false] 4)).alloc (.cells #[.slice aa na ca] 26)).alloc (.cells #[.slice ab nb cb] 26)
  have bR := ((Boxed.new (w.alloc (.cells #[.func (.func 42) #[] #[]] 69)) 4 (.bool false)).alloc (.cells #[.slice aa na ca] 26)).alloc (.cells #[.slice ab nb cb] 26)
  have bA := (Boxed.new ((w.alloc (.cells #[.func (.func 42) #[] #[]] 69)).alloc (.cells #[.bool false] 4)) 26 (.slice aa na ca)).alloc (.cells #[.slice ab nb cb] 26)
  have bB := Boxed.new (((w.alloc (.cells #[.func (.func 42) #[] #[]] 69)).alloc (.cells #[.bool false] 4)).alloc (.cells #[.slice aa na ca] 26)) 26 (.slice ab nb cb)
  simp only [World.size_alloc] at bR bA bB
  have hB0 : Below w.heap.size w ((((w.alloc (.cells #[.func (.func 42) #[] #[]] 69)).alloc (.cells #[.bool false] 4)).alloc (.cells #[.slice aa na ca] 26)).alloc (.cells #[.slice ab nb cb] 26)) := ((((Below.refl _ w).alloc (Nat.le_refl _) _).alloc (by simp) _).alloc (by simp; omega) _).alloc (by simp; omega) _
  have hsz : ((((w.alloc (.cells #[.func (.func 42) #[] #[]] 69)).alloc (.cells #[.bool false] 4)).alloc (.cells #[.slice aa na ca] 26)).alloc (.cells #[.slice ab nb cb] 26)).heap.size = w.heap.size + 4 := by simp
  obtain ⟨W0, hW0⟩ : ∃ W0, (((w.alloc (.cells #[.func (.func 42) #[] #[]] 69)).alloc (.cells #[.bool false] 4)).alloc (.cells #[.slice aa na ca] 26)).alloc (.cells #[.slice ab nb cb] 26) = W0 := ⟨_, rfl⟩
  rw [hW0] at bF bR bA bB hB0 hsz ⊢
  clear hW0
  refine wpIn_rangeFunc_ownH (n := 5) (F := Fence.wide) rfl (by omega) (gf := 50) (lb := #[.pointer (some ⟨w.heap.size + 1 + 1, 0, none⟩), .pointer (some ⟨w.heap.size + 1 + 1 + 1, 0, none⟩)]) rfl trivial (enters_of Try.func50 (by kernel_rfl) rfl)
    (HST.out W0 _ _ hB0 bA bB) (fun h k => h.trans k) (Kq.put (w := W0) (by omega) (by omega) (by omega)) (Below.refl _ _) (fun _ => rfl)
    (fun pre W => ((Boxed W w.heap.size 69 (.func (.func 42) #[] #[]) ∧ Boxed W (w.heap.size + 1) 4 (.bool false)) ∧ Below w.heap.size w W) ∧ Hid (pre.all P = true))
    (fun c pre W => (Boxed W (w.heap.size + 1) 4 (.bool false) ∧ Below w.heap.size w W) ∧ (c = .ret ∧ Hid (pre.all P = false)))
    (OwnFrom.and (OwnFrom.and (OwnFrom.and (Own.from (boxed_own _ _ _) _) (Own.from (boxed_own _ _ _) _)) (ownFrom_below (Nat.le_refl _) (by omega))) (fun _ _ _ _ hs _ _ => hs))
    (fun c => OwnFrom.and (OwnFrom.and (Own.from (boxed_own _ _ _) _) (ownFrom_below (Nat.le_refl _) (by omega))) (fun _ _ _ _ hs _ _ => hs))
    ⟨⟨⟨bF, bR⟩, hB0⟩, rfl⟩
    (fun x a' W => ∃ Bx, w.heap.size + 1 < Bx ∧ Trio W Bx x ∧ a' = { tmps := #[.slice aa na ca, .slice ab nb cb, .func (.func 42) #[] #[], undef, undef, .pointer (some ⟨w.heap.size, 0, none⟩), .pointer (some ⟨w.heap.size + 1, 0, none⟩), .pointer (some ⟨Bx, 0, none⟩), .slice aa na ca, .slice ab nb cb, .func (.func 50) #[] #[.pointer (some ⟨w.heap.size + 1 + 1, 0, none⟩), .pointer (some ⟨w.heap.size + 1 + 1 + 1, 0, none⟩)], .agg #[.int .i64 (x.1 : Int), .int .i64 x.2.1, .int .i64 x.2.2], undef, undef, undef, undef], defers := [] })
    (fun x a' _ X Y row hs hg hr => by obtain ⟨Bx, h1, h2, h3⟩ := hs; exact ⟨Bx, h1, h2.kept hg (fun r e => (hr r e).2), h3⟩)
    ?assign ?body ?done ?stop
  case assign =>
    rintro l pre x W K ⟨⟨⟨bF1, bR1⟩, hB1⟩, HA1⟩ hK
    unfold encP
    gi_wp2
    exact hK _ _ ((KeepsOthers.alloc _ _).from _) (Kq.alloc _ _ hB1.size) ⟨⟨⟨bF1.alloc _, bR1.alloc _⟩, hB1.alloc hB1.size _⟩, HA1⟩ ⟨W.heap.size, bR1.lt, Trio.new W x, rfl⟩
  case body =>
    rintro l pre x a' W hl ⟨r, hr⟩ ⟨⟨⟨bF1, bR1⟩, hB1⟩, HA1⟩ ⟨Bx, hBx, bX, rfl⟩ hlt
    have cF := bF1.cell
    have cX0 := (cell_row bX 0).trans rfl
    have cX1 := (cell_row bX 1).trans rfl
    have cX2 := (cell_row bX 2).trans rfl
    have bR2 := bR1.alloc (.cells #[.int .i64 (x.1 : Int), .int .i64 x.2.1, .int .i64 x.2.2] 68)
    have cR := bR2.cell
    have fR := bR2.frozen
    have hBs := hB1.size
    have HBX : Hid _ := hB1.alloc hBs (.cells #[.int .i64 (x.1 : Int), .int .i64 x.2.1, .int .i64 x.2.2] 68)
    have HKX : Hid (Kq w.heap.size (w.heap.size + 1 + 1) (w.heap.size + 1 + 1 + 1) (.slice aa na ca) (.slice ab nb cb) W _) := Kq.alloc W (.cells #[.int .i64 (x.1 : Int), .int .i64 x.2.1, .int .i64 x.2.2] 68) hBs
    have HPx : Hid (P x = _) := congrFun HP.out x
    have HS1 : Hid ((pre ++ [x]).all P = (pre.all P && P x)) := by show _ = _; rw [List.all_append]; simp
    gi_wp2_with (refine ⟨trivial, ?_⟩; gi_at_call 42; refine (CallsIn.inRound l (callsIn_wide.2 (ge_any _ _ _ _))).mono ?_; rintro e w' ⟨rfl, rfl⟩)
    · rename_i hh
      have hP : P x = false := by rw [HPx.out]; simpa using hh
      refine ⟨((KeepsOthers.alloc _ _).trans (KeepsOthers.setCell _ _ _)).from _, ⟨bR2.set _, HBX.out.setCell (p := ⟨w.heap.size + 1, 0, none⟩) (by simp) _⟩, rfl, ?_⟩
      show _ = _
      rw [HS1.out, hP, Bool.and_false]
    · rename_i hh
      have hP : P x = true := by rw [HPx.out]; simpa using hh
      refine ⟨(KeepsOthers.alloc _ _).from _, HKX.out, ⟨⟨bF1.alloc _, bR2⟩, HBX.out⟩, ?_⟩
      show _ = _
      rw [HS1.out, hP, HA1.out]
      rfl
  case done =>
    rintro D ys W hD rfl ⟨⟨⟨bF1, bR1⟩, hB1⟩, HA1⟩ hK
    have cR := bR1.cell
    have fR := bR1.frozen
    gi_wp2
    have hK' := (KeepsOthers.setCell W ⟨w.heap.size + 1, 0, none⟩ (.bool true)).same D _ hK rfl
    refine ⟨by simp, .inl ⟨_, _, rfl, run_takeDeferred hK', ?_⟩⟩
    have hc5 := cell_kept (bR1.set (.bool true)).cell (grownBy_putObj' _ D (.deferred none)) (fun r e => by cases e; exact ⟨_, hK', rfl⟩)
    refine ⟨.bool true, ?_, ?_, (hB1.setCell (p := ⟨w.heap.size + 1, 0, none⟩) (by simp) _).trans (belowK_b (w := w) (Nat.le_refl _) _ D _ _ (by omega) hK' rfl rfl)⟩
    · simp [results, Try.f40, go_sem, hc5]
    · rw [HB.out]
      unfold allB
      rw [HNm.out, HA1.out]
  case stop =>
    rintro D c pre W hD ⟨k, hk, rfl⟩ ⟨⟨bR1, hB1⟩, rfl, HA1⟩ hK
    gi_wp2
    refine ⟨by simp, .inl ⟨_, _, rfl, run_takeDeferred hK, ?_⟩⟩
    have hc5 := cell_kept bR1.cell (grownBy_putObj' _ D (.deferred none)) (fun r e => by cases e; exact ⟨_, hK, rfl⟩)
    refine ⟨.bool false, ?_, ?_, hB1.trans (belowK_b (w := w) (Nat.le_refl _) _ D _ _ (by omega) hK rfl rfl)⟩
    · simp [results, Try.f40, go_sem, hc5]
    · rw [HB.out]
      unfold allB
      rw [HNm.out, all_more P (pf la lb) (k + 1) _ (by omega) HA1.out]

set_option maxRecDepth 1000000 in
set_option maxHeartbeats 4000000 in
theorem all_nx (va vb : Value) (la lb : List Int) (c : Nat) (i : Int) (w : World) (ha : RI w va la) (hb : RI w vb lb) (hla : la.length ≤ 9223372036854775807) (hlb : lb.length ≤ 9223372036854775807) (hci : w.cell? ⟨c, 0, none⟩ = some (.int .i64 i)) :
    Calls Try.prog 40 #[va, vb, .func (.func 49) #[] #[.pointer (some ⟨c, 0, none⟩)]] w fun e w' => e = .returned (.bool (allB (fun x : Nat × Int × Int => decide ((x.1 : Int) = i) || decide (x.2.1 ≤ x.2.2)) la lb)) ∧ Below w.heap.size w w' := by
  have HRa : Hid (RI w va la) := ha
  have HRb : Hid (RI w vb lb) := hb
  obtain ⟨aa, ca, rfl, _, _, _⟩ := ha
  obtain ⟨ab, cb, rfl, _, _, _⟩ := hb
  have HCI : Hid _ := hci
  clear hci
  obtain ⟨P, HP⟩ : ∃ P, Hid (P = (fun x : Nat × Int × Int => decide ((x.1 : Int) = i) || decide (x.2.1 ≤ x.2.2))) := ⟨_, rfl⟩
  rw [← HP.out]
  have HLa : Hid (la.length ≤ 9223372036854775807) := hla
  have HLb : Hid (lb.length ≤ 9223372036854775807) := hlb
  have HST : Hid (∀ (W0 : World) (A B : Nat), Below w.heap.size w W0 → Boxed W0 A 26 _ → Boxed W0 B 26 _ → _) := fun W0 A B h1 h2 h3 => pairs_stops 4 (by omega) A B w W0 _ _ la lb HRa.out HRb.out hla hlb h1 h2 h3
  obtain ⟨b, HB⟩ : ∃ b, Hid (b = allB P la lb) := ⟨_, rfl⟩
  rw [← HB.out]
  generalize hna : la.length = na at *
  generalize hnb : lb.length = nb at *
  have HNm : Hid (max la.length lb.length = max na nb) := by show _ = _; rw [hna, hnb]
  clear hna hnb
  rename_i q1 q2 q3 q4 q5 q6
  clear q1 q2 q3 q4 q5 q6 hla hlb HLa HLb HRa HRb
  refine (callsIn_wide (n := 5)).1 ?_
  refine callsIn_of_wp_marks Try.func40 rfl trivial ?_ rfl
  simp only [Try.ntmps40, List.size_toArray, List.length_cons, List.length_nil, Nat.reduceAdd, Nat.reduceSub, Array.replicate_succ, Array.replicate_zero, List.push_toArray, List.append_toArray, List.nil_append, List.cons_append]
  gi_wp2_with (refine ⟨trivial, ?_⟩; gi_at_call 47; refine (callsIn_wide.2 (pairs_any _ _ _ _ _ _ _)).mono ?_; rintro e w' ⟨rfl, rfl⟩)
  have bF := (((Boxed.new w 69 (.func (.func 49) #[] #[.pointer (some ⟨c, 0, none⟩)])).alloc (.cells #[.bool false] 4)).alloc (.cells #[.slice aa na ca] 26)).alloc (.cells #[.slice ab nb cb] 26)
  have bR := ((Boxed.new (w.alloc (.cells #[.func (.func 49) #[] #[.pointer (some ⟨c, 0, none⟩)]] 69)) 4 (.bool false)).alloc (.cells #[.slice aa na ca] 26)).alloc (.cells #[.slice ab nb cb] 26)
  have bA := (Boxed.new ((w.alloc (.cells #[.func (.func 49) #[] #[.pointer (some ⟨c, 0, none⟩)]] 69)).alloc (.cells #[.bool false] 4)) 26 (.slice aa na ca)).alloc (.cells #[.slice ab nb cb] 26)
  have bB := Boxed.new (((w.alloc (.cells #[.func (.func 49) #[] #[.pointer (some ⟨c, 0, none⟩)]] 69)).alloc (.cells #[.bool false] 4)).alloc (.cells #[.slice aa na ca] 26)) 26 (.slice ab nb cb)
  simp only [World.size_alloc] at bR bA bB
  have hB0 : Below w.heap.size w ((((w.alloc (.cells #[.func (.func 49) #[] #[.pointer (some ⟨c, 0, none⟩)]] 69)).alloc (.cells #[.bool false] 4)).alloc (.cells #[.slice aa na ca] 26)).alloc (.cells #[.slice ab nb cb] 26)) := ((((Below.refl _ w).alloc (Nat.le_refl _) _).alloc (by simp) _).alloc (by simp; omega) _).alloc (by simp; omega) _
  have hsz : ((((w.alloc (.cells #[.func (.func 49) #[] #[.pointer (some ⟨c, 0, none⟩)]] 69)).alloc (.cells #[.bool false] 4)).alloc (.cells #[.slice aa na ca] 26)).alloc (.cells #[.slice ab nb cb] 26)).heap.size = w.heap.size + 4 := by simp
  obtain ⟨W0, hW0⟩ : ∃ W0, (((w.alloc (.cells #[.func (.func 49) #[] #[.pointer (some ⟨c, 0, none⟩)]] 69)).alloc (.cells #[.bool false] 4)).alloc (.cells #[.slice aa na ca] 26)).alloc (.cells #[.slice ab nb cb] 26) = W0 := ⟨_, rfl⟩
  rw [hW0] at bF bR bA bB hB0 hsz ⊢
  clear hW0
  refine wpIn_rangeFunc_ownH (n := 5) (F := Fence.wide) rfl (by omega) (gf := 50) (lb := #[.pointer (some ⟨w.heap.size + 1 + 1, 0, none⟩), .pointer (some ⟨w.heap.size + 1 + 1 + 1, 0, none⟩)]) rfl trivial (enters_of Try.func50 (by kernel_rfl) rfl)
    (HST.out W0 _ _ hB0 bA bB) (fun h k => h.trans k) (Kq.put (w := W0) (by omega) (by omega) (by omega)) (Below.refl _ _) (fun _ => rfl)
    (fun pre W => ((Boxed W w.heap.size 69 (.func (.func 49) #[] #[.pointer (some ⟨c, 0, none⟩)]) ∧ Boxed W (w.heap.size + 1) 4 (.bool false)) ∧ Below w.heap.size w W) ∧ Hid (pre.all P = true))
    (fun c pre W => (Boxed W (w.heap.size + 1) 4 (.bool false) ∧ Below w.heap.size w W) ∧ (c = .ret ∧ Hid (pre.all P = false)))
    (OwnFrom.and (OwnFrom.and (OwnFrom.and (Own.from (boxed_own _ _ _) _) (Own.from (boxed_own _ _ _) _)) (ownFrom_below (Nat.le_refl _) (by omega))) (fun _ _ _ _ hs _ _ => hs))
    (fun c => OwnFrom.and (OwnFrom.and (Own.from (boxed_own _ _ _) _) (ownFrom_below (Nat.le_refl _) (by omega))) (fun _ _ _ _ hs _ _ => hs))
    ⟨⟨⟨bF, bR⟩, hB0⟩, rfl⟩
    (fun x a' W => ∃ Bx, w.heap.size + 1 < Bx ∧ Trio W Bx x ∧ a' = { tmps := #[.slice aa na ca, .slice ab nb cb, .func (.func 49) #[] #[.pointer (some ⟨c, 0, none⟩)], undef, undef, .pointer (some ⟨w.heap.size, 0, none⟩), .pointer (some ⟨w.heap.size + 1, 0, none⟩), .pointer (some ⟨Bx, 0, none⟩), .slice aa na ca, .slice ab nb cb, .func (.func 50) #[] #[.pointer (some ⟨w.heap.size + 1 + 1, 0, none⟩), .pointer (some ⟨w.heap.size + 1 + 1 + 1, 0, none⟩)], .agg #[.int .i64 (x.1 : Int), .int .i64 x.2.1, .int .i64 x.2.2], undef, undef, undef, undef], defers := [] })
    (fun x a' _ X Y row hs hg hr => by obtain ⟨Bx, h1, h2, h3⟩ := hs; exact ⟨Bx, h1, h2.kept hg (fun r e => (hr r e).2), h3⟩)
    ?assign ?body ?done ?stop
  case assign =>
    rintro l pre x W K ⟨⟨⟨bF1, bR1⟩, hB1⟩, HA1⟩ hK
    unfold encP
    gi_wp2
    exact hK _ _ ((KeepsOthers.alloc _ _).from _) (Kq.alloc _ _ hB1.size) ⟨⟨⟨bF1.alloc _, bR1.alloc _⟩, hB1.alloc hB1.size _⟩, HA1⟩ ⟨W.heap.size, bR1.lt, Trio.new W x, rfl⟩
  case body =>
    rintro l pre x a' W hl ⟨r, hr⟩ ⟨⟨⟨bF1, bR1⟩, hB1⟩, HA1⟩ ⟨Bx, hBx, bX, rfl⟩ hlt
    have cF := bF1.cell
    have cX0 := (cell_row bX 0).trans rfl
    have cX1 := (cell_row bX 1).trans rfl
    have cX2 := (cell_row bX 2).trans rfl
    have bR2 := bR1.alloc (.cells #[.int .i64 (x.1 : Int), .int .i64 x.2.1, .int .i64 x.2.2] 68)
    have cR := bR2.cell
    have fR := bR2.frozen
    have hBs := hB1.size
    have HBX : Hid _ := hB1.alloc hBs (.cells #[.int .i64 (x.1 : Int), .int .i64 x.2.1, .int .i64 x.2.2] 68)
    have HKX : Hid (Kq w.heap.size (w.heap.size + 1 + 1) (w.heap.size + 1 + 1 + 1) (.slice aa na ca) (.slice ab nb cb) W _) := Kq.alloc W (.cells #[.int .i64 (x.1 : Int), .int .i64 x.2.1, .int .i64 x.2.2] 68) hBs
    have HPx : Hid (P x = _) := congrFun HP.out x
    have HS1 : Hid ((pre ++ [x]).all P = (pre.all P && P x)) := by show _ = _; rw [List.all_append]; simp
    have cI := cell_later hB1 HCI.out
    gi_wp2_with (refine ⟨trivial, ?_⟩; gi_at_call 49; refine (CallsIn.inRound l (callsIn_wide.2 (nx_any _ _ _ _ _ _ cI))).mono ?_; rintro e w' ⟨rfl, rfl⟩)
    · rename_i hh
      have hP : P x = false := by rw [HPx.out]; simpa using hh
      refine ⟨((KeepsOthers.alloc _ _).trans (KeepsOthers.setCell _ _ _)).from _, ⟨bR2.set _, HBX.out.setCell (p := ⟨w.heap.size + 1, 0, none⟩) (by simp) _⟩, rfl, ?_⟩
      show _ = _
      rw [HS1.out, hP, Bool.and_false]
    · rename_i hh
      have hP : P x = true := by rw [HPx.out]; simpa using hh
      refine ⟨(KeepsOthers.alloc _ _).from _, HKX.out, ⟨⟨bF1.alloc _, bR2⟩, HBX.out⟩, ?_⟩
      show _ = _
      rw [HS1.out, hP, HA1.out]
      rfl
  case done =>
    rintro D ys W hD rfl ⟨⟨⟨bF1, bR1⟩, hB1⟩, HA1⟩ hK
    have cR := bR1.cell
    have fR := bR1.frozen
    gi_wp2
    have hK' := (KeepsOthers.setCell W ⟨w.heap.size + 1, 0, none⟩ (.bool true)).same D _ hK rfl
    refine ⟨by simp, .inl ⟨_, _, rfl, run_takeDeferred hK', ?_⟩⟩
    have hc5 := cell_kept (bR1.set (.bool true)).cell (grownBy_putObj' _ D (.deferred none)) (fun r e => by cases e; exact ⟨_, hK', rfl⟩)
    refine ⟨.bool true, ?_, ?_, (hB1.setCell (p := ⟨w.heap.size + 1, 0, none⟩) (by simp) _).trans (belowK_b (w := w) (Nat.le_refl _) _ D _ _ (by omega) hK' rfl rfl)⟩
    · simp [results, Try.f40, go_sem, hc5]
    · rw [HB.out]
      unfold allB
      rw [HNm.out, HA1.out]
  case stop =>
    rintro D c pre W hD ⟨k, hk, rfl⟩ ⟨⟨bR1, hB1⟩, rfl, HA1⟩ hK
    gi_wp2
    refine ⟨by simp, .inl ⟨_, _, rfl, run_takeDeferred hK, ?_⟩⟩
    have hc5 := cell_kept bR1.cell (grownBy_putObj' _ D (.deferred none)) (fun r e => by cases e; exact ⟨_, hK, rfl⟩)
    refine ⟨.bool false, ?_, ?_, hB1.trans (belowK_b (w := w) (Nat.le_refl _) _ D _ _ (by omega) hK rfl rfl)⟩
    · simp [results, Try.f40, go_sem, hc5]
    · rw [HB.out]
      unfold allB
      rw [HNm.out, all_more P (pf la lb) (k + 1) _ (by omega) HA1.out]
end Go.Proofs.Ytamfpmpooaejkaa
