/- Calls of no deque, and of one that nothing made. -/
import Derived.Test.YthbckfncpnobcaaRm
namespace Go.Proofs.Ythbckfncpnobcaa
open Go.RowKit
set_option maxRecDepth 1000000
set_option linter.unusedVariables false

set_option maxHeartbeats 4000000 in
theorem take_no (w : World) (pa : Option Addr) (gp : Nat) (h : NoDq w (.pointer pa)) :
    Calls Try.prog 29 #[.pointer pa, .func (.func gp) #[] #[]] w fun e w' => e = .returned (.tuple #[JV zJ (.slice none 0 0), .int .i64 1]) ∧ Below w.heap.size w w' := by
  have hmf : ∀ (fn : Fn) (first cap : Array Value) (w : World), (Instr.makeFunc fn first cap).run Try.prog w = .ok (.func fn first cap) w := fun _ _ _ _ => rfl
  have HB4 : Hid _ := bl4 w (.cells #[.pointer pa] 23) (.cells #[.func (.func gp) #[] #[]] 65) (.cells (jrow (zJ, .slice none 0 0)).toArray 35) (.cells (jrow (zJ, .slice none 0 0)).toArray 35)
  have hs : ∀ a b : Obj, ((w.alloc a).alloc b).heap.size = w.heap.size + 1 + 1 := fun a b => by rw [World.size_alloc, World.size_alloc]
  have R0 : Hid ((((((w.alloc (.cells #[.pointer pa] 23)).alloc (.cells #[.func (.func gp) #[] #[]] 65)).alloc (.cells (jrow (zJ, .slice none 0 0)).toArray 35)).alloc (.cells (jrow (zJ, .slice none 0 0)).toArray 35))).heap[w.heap.size]? = _) := row_later (row_new1 w _ _) (bl2 _ _ _)
  have R1 : Hid ((((((w.alloc (.cells #[.pointer pa] 23)).alloc (.cells #[.func (.func gp) #[] #[]] 65)).alloc (.cells (jrow (zJ, .slice none 0 0)).toArray 35)).alloc (.cells (jrow (zJ, .slice none 0 0)).toArray 35))).heap[w.heap.size + 1]? = _) := row_later (row_new2 w _ _) (bl2 _ _ _)
  have R2 : Hid ((((((w.alloc (.cells #[.pointer pa] 23)).alloc (.cells #[.func (.func gp) #[] #[]] 65)).alloc (.cells (jrow (zJ, .slice none 0 0)).toArray 35)).alloc (.cells (jrow (zJ, .slice none 0 0)).toArray 35))).heap[w.heap.size + 1 + 1]? = some (.cells (jrow (zJ, .slice none 0 0)).toArray 35 (0, 0))) := by
    have := row_new1 ((w.alloc (.cells #[.pointer pa] 23)).alloc (.cells #[.func (.func gp) #[] #[]] 65)) (.cells (jrow (zJ, .slice none 0 0)).toArray 35) (.cells (jrow (zJ, .slice none 0 0)).toArray 35)
    rw [hs] at this
    exact this
  have R3 : Hid ((((((w.alloc (.cells #[.pointer pa] 23)).alloc (.cells #[.func (.func gp) #[] #[]] 65)).alloc (.cells (jrow (zJ, .slice none 0 0)).toArray 35)).alloc (.cells (jrow (zJ, .slice none 0 0)).toArray 35))).heap[w.heap.size + 1 + 1 + 1]? = some (.cells (jrow (zJ, .slice none 0 0)).toArray 35 (0, 0))) := by
    have := row_new2 ((w.alloc (.cells #[.pointer pa] 23)).alloc (.cells #[.func (.func gp) #[] #[]] 65)) (.cells (jrow (zJ, .slice none 0 0)).toArray 35) (.cells (jrow (zJ, .slice none 0 0)).toArray 35)
    rw [hs] at this
    exact this
  have HC : Hid (∀ w1 dv, Below w.heap.size w w1 → Calls Try.prog 24 #[.pointer pa, dv] w1 fun e w' => e = .returned (.int .i64 1) ∧ w' = w1) := fun w1 dv hb => call_no _ dv w1 (h.later hb)
  clear hs h
  go_enter Try.func29, Try.ntmps29
  go_wp2_with fail
  refine Calls.mono (HC.out _ _ HB4.out) ?_
  rintro e w2 ⟨rfl, hw2⟩
  have r2 : w2.heap[w.heap.size + 1 + 1]? = some (.cells (jrow (zJ, .slice none 0 0)).toArray 35 (0, 0)) := by rw [hw2]; exact R2.out
  have q1 : w2.heap[w.heap.size + 1 + 1 + 1]? = some (.cells (jrow (zJ, .slice none 0 0)).toArray 35 (0, 0)) := by rw [hw2]; exact R3.out
  have hb4 : Below w.heap.size w w2 := by rw [hw2]; exact HB4.out
  clear hw2 R0 R1 R2 R3 HB4 HC
  obtain ⟨c0, c1, c2, c3, c4, c5⟩ := JC.of_row q1
  obtain ⟨d0, d1, d2, d3, d4, d5⟩ := JC.of_row r2
  have f2 := froz_row r2
  have HB4 : Hid _ := hb4
  have RR : Hid _ := r2
  simp only [Nat.zero_add] at c0 c1 c2 c3 c4 c5 d0 d1 d2 d3 d4 d5
  clear q1 r2 hb4
  go_wp2_with fail
  have k9 : Kp (fun k => k = w.heap.size + 1 + 1) w2 (set6 w2 (w.heap.size + 1 + 1) 0 (zJ, .slice none 0 0)) := set6_kept _ _ _ _ _ rfl
  refine bodyPost_ret (results_j2 rfl _ _ (e := zJ) (v := .slice none 0 0) rfl (set6_whole RR.out rfl (zJ, .slice none 0 0))) rfl ?_
  exact ⟨rfl, HB4.out.trans (k9.below HB4.out.size (fun k hk => by omega))⟩

set_option maxHeartbeats 4000000 in
theorem pop_no (w : World) (pa : Option Addr) (h : NoDq w (.pointer pa)) :
    Calls Try.prog 17 #[.pointer pa] w fun e w' => e = .returned (.tuple #[JV zJ (.slice none 0 0), .int .i64 1]) ∧ Below w.heap.size w w' := by
  have HB1 : Hid _ := bl1 w (.cells (jrow (zJ, .slice none 0 0)).toArray 35)
  have HC : Hid _ := take_no (w.alloc (.cells (jrow (zJ, .slice none 0 0)).toArray 35)) pa 32 (h.later HB1.out)
  have R0 : Hid ((w.alloc (.cells (jrow (zJ, .slice none 0 0)).toArray 35)).heap[w.heap.size]? = _) := row_new w (jrow (zJ, .slice none 0 0)).toArray 35
  unfold JV at HC
  clear h
  go_enter Try.func17, Try.ntmps17
  go_wp2_with fail
  refine Calls.mono HC.out ?_
  rintro e w2 ⟨rfl, hb2⟩
  have r2 := row_later R0.out hb2
  obtain ⟨d0, d1, d2, d3, d4, d5⟩ := JC.of_row r2
  have f2 := froz_row r2
  have HB2 : Hid (Below w.heap.size w w2) := HB1.out.trans (hb2.mono HB1.out.size)
  have RR : Hid _ := r2
  simp only [Nat.zero_add] at d0 d1 d2 d3 d4 d5
  clear r2 hb2 HC R0 HB1
  go_wp2_with fail
  have k9 : Kp (fun k => k = w.heap.size) w2 (set6 w2 w.heap.size 0 (zJ, .slice none 0 0)) := set6_kept _ _ _ _ _ rfl
  refine bodyPost_ret (results_j2 rfl _ _ (e := zJ) (v := .slice none 0 0) rfl (set6_whole RR.out rfl (zJ, .slice none 0 0))) rfl ?_
  exact ⟨rfl, HB2.out.trans (k9.below HB2.out.size (fun k hk => by omega))⟩

set_option maxHeartbeats 4000000 in
theorem steal_no (w : World) (pa : Option Addr) (h : NoDq w (.pointer pa)) :
    Calls Try.prog 16 #[.pointer pa] w fun e w' => e = .returned (.tuple #[JV zJ (.slice none 0 0), .int .i64 1]) ∧ Below w.heap.size w w' := by
  have HB1 : Hid _ := bl1 w (.cells (jrow (zJ, .slice none 0 0)).toArray 35)
  have HC : Hid _ := take_no (w.alloc (.cells (jrow (zJ, .slice none 0 0)).toArray 35)) pa 30 (h.later HB1.out)
  have R0 : Hid ((w.alloc (.cells (jrow (zJ, .slice none 0 0)).toArray 35)).heap[w.heap.size]? = _) := row_new w (jrow (zJ, .slice none 0 0)).toArray 35
  unfold JV at HC
  clear h
  go_enter Try.func16, Try.ntmps16
  go_wp2_with fail
  refine Calls.mono HC.out ?_
  rintro e w2 ⟨rfl, hb2⟩
  have r2 := row_later R0.out hb2
  obtain ⟨d0, d1, d2, d3, d4, d5⟩ := JC.of_row r2
  have f2 := froz_row r2
  have HB2 : Hid (Below w.heap.size w w2) := HB1.out.trans (hb2.mono HB1.out.size)
  have RR : Hid _ := r2
  simp only [Nat.zero_add] at d0 d1 d2 d3 d4 d5
  clear r2 hb2 HC R0 HB1
  go_wp2_with fail
  have k9 : Kp (fun k => k = w.heap.size) w2 (set6 w2 w.heap.size 0 (zJ, .slice none 0 0)) := set6_kept _ _ _ _ _ rfl
  refine bodyPost_ret (results_j2 rfl _ _ (e := zJ) (v := .slice none 0 0) rfl (set6_whole RR.out rfl (zJ, .slice none 0 0))) rfl ?_
  exact ⟨rfl, HB2.out.trans (k9.below HB2.out.size (fun k hk => by omega))⟩

set_option maxHeartbeats 2000000 in
theorem push_no (w : World) (pa : Option Addr) (e : Jb) (sv : Value) (hsv : ∃ a n c, sv = .slice a n c) (h : NoDq w (.pointer pa)) :
    Calls Try.prog 14 #[.pointer pa, JV e sv] w fun e w' => e = .returned (.int .i64 1) ∧ Below w.heap.size w w' := by
  have hmf : ∀ (fn : Fn) (first cap : Array Value) (w : World), (Instr.makeFunc fn first cap).run Try.prog w = .ok (.func fn first cap) w := fun _ _ _ _ => rfl
  have HC : Hid (∀ w1 dv, Below w.heap.size w w1 → Calls Try.prog 24 #[.pointer pa, dv] w1 fun e w' => e = .returned (.int .i64 1) ∧ w' = w1) := fun w1 dv hb => call_no _ dv w1 (h.later hb)
  obtain ⟨sa, sn, sc, rfl⟩ := hsv
  unfold JV
  clear h
  go_enter Try.func14, Try.ntmps14
  go_wp2_with fail
  refine Calls.mono (HC.out _ _ (bl2 _ _ _)) ?_
  rintro e w2 ⟨rfl, hw2⟩
  subst hw2
  go_wp2_with fail
  go_ret
  exact ⟨rfl, bl2 _ _ _⟩

set_option maxHeartbeats 2000000 in
theorem drop_no (w : World) (pa : Option Addr) (k : Ky) (h : NoDq w (.pointer pa)) :
    Calls Try.prog 19 #[.pointer pa, KV k] w fun e w' => e = .returned (.int .i64 0) ∧ Below w.heap.size w w' := by
  have hmf : ∀ (fn : Fn) (first cap : Array Value) (w : World), (Instr.makeFunc fn first cap).run Try.prog w = .ok (.func fn first cap) w := fun _ _ _ _ => rfl
  have HC : Hid (∀ w1 dv, Below w.heap.size w w1 → Calls Try.prog 24 #[.pointer pa, dv] w1 fun e w' => e = .returned (.int .i64 1) ∧ w' = w1) := fun w1 dv hb => call_no _ dv w1 (h.later hb)
  unfold KV
  clear h
  go_enter Try.func19, Try.ntmps19
  go_wp2_with fail
  refine Calls.mono (HC.out _ _ (bl3 _ _ _ _)) ?_
  rintro e w2 ⟨rfl, hw2⟩
  subst hw2
  go_wp2_with fail
  go_ret
  exact ⟨rfl, bl3 _ _ _ _⟩

set_option maxHeartbeats 2000000 in
theorem len_no (w : World) (pa : Option Addr) (h : NoDq w (.pointer pa)) :
    Calls Try.prog 11 #[.pointer pa] w fun e w' => e = .returned (.int .i64 0) ∧ Below w.heap.size w w' := by
  have hmf : ∀ (fn : Fn) (first cap : Array Value) (w : World), (Instr.makeFunc fn first cap).run Try.prog w = .ok (.func fn first cap) w := fun _ _ _ _ => rfl
  have HC : Hid (∀ w1 dv, Below w.heap.size w w1 → Calls Try.prog 24 #[.pointer pa, dv] w1 fun e w' => e = .returned (.int .i64 1) ∧ w' = w1) := fun w1 dv hb => call_no _ dv w1 (h.later hb)
  clear h
  go_enter Try.func11, Try.ntmps11
  go_wp2_with fail
  refine Calls.mono (HC.out _ _ (bl2 _ _ _)) ?_
  rintro e w2 ⟨rfl, hw2⟩
  subst hw2
  go_wp2_with fail
  go_ret
  exact ⟨rfl, bl2 _ _ _⟩

set_option maxHeartbeats 2000000 in
theorem list_no (w : World) (pa : Option Addr) (h : NoDq w (.pointer pa)) :
    Calls Try.prog 13 #[.pointer pa] w fun e w' => e = .returned (.slice none 0 0) ∧ Below w.heap.size w w' := by
  have hmf : ∀ (fn : Fn) (first cap : Array Value) (w : World), (Instr.makeFunc fn first cap).run Try.prog w = .ok (.func fn first cap) w := fun _ _ _ _ => rfl
  have HC : Hid (∀ w1 dv, Below w.heap.size w w1 → Calls Try.prog 24 #[.pointer pa, dv] w1 fun e w' => e = .returned (.int .i64 1) ∧ w' = w1) := fun w1 dv hb => call_no _ dv w1 (h.later hb)
  clear h
  go_enter Try.func13, Try.ntmps13
  go_wp2_with fail
  refine Calls.mono (HC.out _ _ (bl2 _ _ _)) ?_
  rintro e w2 ⟨rfl, hw2⟩
  subst hw2
  go_wp2_with fail
  go_ret
  exact ⟨rfl, bl2 _ _ _⟩

end Go.Proofs.Ythbckfncpnobcaa
