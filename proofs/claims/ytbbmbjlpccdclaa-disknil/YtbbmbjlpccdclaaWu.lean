/- All calls of no disk, and of one that nothing made. -/
import Derived.Test.YtbbmbjlpccdclaaWt
namespace Go.Proofs.Ytbbmbjlpccdclaa
open Go.RowKit
set_option linter.unusedVariables false

/-- A pointer whose calls all answer that nothing made it. -/
def Dead (pp : Option Addr) (w : World) : Prop := ∀ wx dv sl, Below w.heap.size w wx → Calls Try.prog 33 #[.pointer pp, dv, sl] wx fun e w' => e = .returned (.int .i64 1) ∧ w' = wx

theorem dead_nil (w : World) : Dead none w := fun wx dv sl _ => call_nil dv sl wx
theorem dead_unmade (q : Nat) (w : World) (h : w.cell? ⟨q, 130, none⟩ = some (.int .i64 0)) : Dead (some ⟨q, 0, none⟩) w := fun wx dv sl hb => call_unmade q dv sl wx (cell_later hb h)
theorem Dead.later {pp : Option Addr} {w w' : World} (h : Dead pp w) (hb : Below w.heap.size w w') : Dead pp w' := fun wx dv sl hx => h wx dv sl (hb.trans (hx.mono hb.size))

set_option maxRecDepth 1000000 in
set_option maxHeartbeats 1000000 in
theorem n_room (pp : Option Addr) (w : World) (hd : Dead pp w) : Calls Try.prog 19 #[.pointer pp] w fun e w' => e = .returned (.int .i64 0) ∧ Below w.heap.size w w' := by
  have HD : Hid (Dead pp w) := hd
  clear hd
  have hmf : ∀ (fn : Fn) (first cap : Array Value) (w : World), (Instr.makeFunc fn first cap).run Try.prog w = .ok (.func fn first cap) w := fun _ _ _ _ => rfl
  go_enter Try.func19, Try.ntmps19
  go_wp2_with fail
  refine Calls.mono (HD.out _ _ _ (alloc2 _ _ _)) ?_
  rintro e w2 ⟨rfl, rfl⟩
  go_wp2_with fail
  go_ret
  exact ⟨rfl, alloc2 _ _ _⟩

set_option maxRecDepth 1000000 in
set_option maxHeartbeats 1000000 in
theorem n_down (pp : Option Addr) (w : World) (hd : Dead pp w) : Calls Try.prog 18 #[.pointer pp] w fun e w' => e = .returned (.bool false) ∧ Below w.heap.size w w' := by
  have HD : Hid (Dead pp w) := hd
  clear hd
  have hmf : ∀ (fn : Fn) (first cap : Array Value) (w : World), (Instr.makeFunc fn first cap).run Try.prog w = .ok (.func fn first cap) w := fun _ _ _ _ => rfl
  go_enter Try.func18, Try.ntmps18
  go_wp2_with fail
  refine Calls.mono (HD.out _ _ _ (alloc2 _ _ _)) ?_
  rintro e w2 ⟨rfl, rfl⟩
  go_wp2_with fail
  go_ret
  exact ⟨rfl, alloc2 _ _ _⟩

set_option maxRecDepth 1000000 in
set_option maxHeartbeats 1000000 in
theorem n_files (pp : Option Addr) (w : World) (hd : Dead pp w) : Calls Try.prog 25 #[.pointer pp] w fun e w' => e = .returned (.int .i64 0) ∧ Below w.heap.size w w' := by
  have HD : Hid (Dead pp w) := hd
  clear hd
  have hmf : ∀ (fn : Fn) (first cap : Array Value) (w : World), (Instr.makeFunc fn first cap).run Try.prog w = .ok (.func fn first cap) w := fun _ _ _ _ => rfl
  go_enter Try.func25, Try.ntmps25
  go_wp2_with fail
  refine Calls.mono (HD.out _ _ _ (alloc2 _ _ _)) ?_
  rintro e w2 ⟨rfl, rfl⟩
  go_wp2_with fail
  go_ret
  exact ⟨rfl, alloc2 _ _ _⟩

set_option maxRecDepth 1000000 in
set_option maxHeartbeats 1000000 in
theorem n_copy (pp : Option Addr) (w : World) (hd : Dead pp w) : Calls Try.prog 26 #[.pointer pp] w fun e w' => e = .returned (.pointer none) ∧ Below w.heap.size w w' := by
  have HD : Hid (Dead pp w) := hd
  clear hd
  have hmf : ∀ (fn : Fn) (first cap : Array Value) (w : World), (Instr.makeFunc fn first cap).run Try.prog w = .ok (.func fn first cap) w := fun _ _ _ _ => rfl
  go_enter Try.func26, Try.ntmps26
  go_wp2_with fail
  refine Calls.mono (HD.out _ _ _ (alloc2 _ _ _)) ?_
  rintro e w2 ⟨rfl, rfl⟩
  go_wp2_with fail
  go_ret
  exact ⟨rfl, alloc2 _ _ _⟩

set_option maxRecDepth 1000000 in
set_option maxHeartbeats 1000000 in
theorem n_arm (pp : Option Addr) (n : Int) (w : World) (hd : Dead pp w) : Calls Try.prog 20 #[.pointer pp, .int .i64 n] w fun e w' => e = .returned (.int .i64 1) ∧ Below w.heap.size w w' := by
  have HD : Hid (Dead pp w) := hd
  clear hd
  have hmf : ∀ (fn : Fn) (first cap : Array Value) (w : World), (Instr.makeFunc fn first cap).run Try.prog w = .ok (.func fn first cap) w := fun _ _ _ _ => rfl
  go_enter Try.func20, Try.ntmps20
  go_wp2_with fail
  refine Calls.mono (HD.out _ _ _ (alloc3 _ _ _ _)) ?_
  rintro e w2 ⟨rfl, rfl⟩
  go_wp2_with fail
  go_ret
  exact ⟨rfl, alloc3 _ _ _ _⟩

set_option maxRecDepth 1000000 in
set_option maxHeartbeats 1000000 in
theorem n_crash (pp : Option Addr) (a : Option Addr) (n c : Nat) (w : World) (hd : Dead pp w) : Calls Try.prog 17 #[.pointer pp, .slice a n c] w fun e w' => e = .returned (.int .i64 1) ∧ Below w.heap.size w w' := by
  have HD : Hid (Dead pp w) := hd
  clear hd
  have hmf : ∀ (fn : Fn) (first cap : Array Value) (w : World), (Instr.makeFunc fn first cap).run Try.prog w = .ok (.func fn first cap) w := fun _ _ _ _ => rfl
  go_enter Try.func17, Try.ntmps17
  go_wp2_with fail
  refine Calls.mono (HD.out _ _ _ (alloc2 _ _ _)) ?_
  rintro e w2 ⟨rfl, rfl⟩
  go_wp2_with fail
  go_ret
  exact ⟨rfl, alloc2 _ _ _⟩

set_option maxRecDepth 1000000 in
set_option maxHeartbeats 2000000 in
theorem n_grow (pp : Option Addr) (n : Int) (w : World) (hd : Dead pp w) : Calls Try.prog 24 #[.pointer pp, .int .i64 n] w fun e w' => e = .returned (.int .i64 1) ∧ Below w.heap.size w w' := by
  have HD : Hid (Dead pp w) := hd
  have HK : Hid (∀ w1 w2 : World, (w1.cell? ⟨w.heap.size, 0, none⟩ = some (.pointer pp) ∧ w1.cell? ⟨w.heap.size + 1, 0, none⟩ = some (.int .i64 n)) → Below w1.heap.size w1 w2 → (w2.cell? ⟨w.heap.size, 0, none⟩ = some (.pointer pp) ∧ w2.cell? ⟨w.heap.size + 1, 0, none⟩ = some (.int .i64 n))) := fun w1 w2 h hb => ⟨cell_later hb h.1, cell_later hb h.2⟩
  have HS0 : Hid (((w.alloc (.cells #[.pointer pp] 25)).alloc (.cells #[.int .i64 n] 3)).drew.cell? ⟨w.heap.size, 0, none⟩ = some (.pointer pp) ∧ ((w.alloc (.cells #[.pointer pp] 25)).alloc (.cells #[.int .i64 n] 3)).drew.cell? ⟨w.heap.size + 1, 0, none⟩ = some (.int .i64 n)) := by
    refine ⟨?_, ?_⟩
    · show (World.alloc _ _).cell? _ = _
      rw [cell_past _ _ _ _ (by simp <;> omega), cell_alloc1 _ _ _ _ (by simp)]
    · show (World.alloc _ _).cell? _ = _
      rw [cell_alloc1 _ _ _ _ (by simp)]
  have hmf : ∀ (fn : Fn) (first cap : Array Value) (w : World), (Instr.makeFunc fn first cap).run Try.prog w = .ok (.func fn first cap) w := fun _ _ _ _ => rfl
  clear hd
  go_enter Try.func24, Try.ntmps24
  go_wp2_with fail
  go_region_held_law (fun w' => (w'.cell? ⟨w.heap.size, 0, none⟩ = some (.pointer pp) ∧ w'.cell? ⟨w.heap.size + 1, 0, none⟩ = some (.int .i64 n))) (first | assumption | exact HS0.out | exact HK.out _ _ ‹_› (alloc2 _ _ _) | exact HK.out _ _ ‹_› ((Below.refl _ _).alloc (Nat.le_refl _) _)) (first
    | (go_simp; go_at_call 55; refine Calls.mono (grows_any _ _ _) ?_; rintro e w2 ⟨rfl, rfl⟩)
    | (go_simp; go_at_call 33; refine Calls.mono (HD.out _ _ _ (((alloc5 _ _ _ _ _ _).drew))) ?_; rintro e w2 ⟨rfl, rfl⟩))
  all_goals
    go_wp2_with fail
    go_ret
    exact ⟨rfl, ((alloc5 _ _ _ _ _ _).drew)⟩

set_option maxRecDepth 1000000 in
set_option maxHeartbeats 2000000 in
theorem n_synced (pp : Option Addr) (i : Int) (w : World) (hd : Dead pp w) : Calls Try.prog 16 #[.pointer pp, .int .i64 i] w fun e w' => e = .returned (.int .i64 0) ∧ Below w.heap.size w w' := by
  have HD : Hid (Dead pp w) := hd
  have HK : Hid (∀ w1 w2 : World, (w1.cell? ⟨w.heap.size, 0, none⟩ = some (.pointer pp) ∧ w1.cell? ⟨w.heap.size + 1, 0, none⟩ = some (.int .i64 i)) → Below w1.heap.size w1 w2 → (w2.cell? ⟨w.heap.size, 0, none⟩ = some (.pointer pp) ∧ w2.cell? ⟨w.heap.size + 1, 0, none⟩ = some (.int .i64 i))) := fun w1 w2 h hb => ⟨cell_later hb h.1, cell_later hb h.2⟩
  have HS0 : Hid ((((w.alloc (.cells #[.pointer pp] 25)).alloc (.cells #[.int .i64 i] 3)).alloc (.cells #[.int .i64 0] 3)).drew.cell? ⟨w.heap.size, 0, none⟩ = some (.pointer pp) ∧ (((w.alloc (.cells #[.pointer pp] 25)).alloc (.cells #[.int .i64 i] 3)).alloc (.cells #[.int .i64 0] 3)).drew.cell? ⟨w.heap.size + 1, 0, none⟩ = some (.int .i64 i)) := by
    refine ⟨?_, ?_⟩
    · show (World.alloc _ _).cell? _ = _
      rw [cell_past _ _ _ _ (by simp <;> omega), cell_past _ _ _ _ (by simp <;> omega), cell_alloc1 _ _ _ _ (by simp)]
    · show (World.alloc _ _).cell? _ = _
      rw [cell_past _ _ _ _ (by simp <;> omega), cell_alloc1 _ _ _ _ (by simp)]
  have hmf : ∀ (fn : Fn) (first cap : Array Value) (w : World), (Instr.makeFunc fn first cap).run Try.prog w = .ok (.func fn first cap) w := fun _ _ _ _ => rfl
  clear hd
  go_enter Try.func16, Try.ntmps16
  go_wp2_with fail
  go_region_held_law (fun w' => (w'.cell? ⟨w.heap.size, 0, none⟩ = some (.pointer pp) ∧ w'.cell? ⟨w.heap.size + 1, 0, none⟩ = some (.int .i64 i))) (first | assumption | exact HS0.out | exact HK.out _ _ ‹_› (alloc2 _ _ _) | exact HK.out _ _ ‹_› ((Below.refl _ _).alloc (Nat.le_refl _) _)) (first
    | (go_simp; go_at_call 36; refine Calls.mono (has_any _ _ _) ?_; rintro e w2 ⟨rfl, rfl⟩)
    | (go_simp; go_at_call 33; refine Calls.mono (HD.out _ _ _ ((((alloc5 _ _ _ _ _ _).alloc (by simp <;> omega) _).drew))) ?_; rintro e w2 ⟨rfl, rfl⟩))
  all_goals
    go_wp2_with fail
    go_ret
    exact ⟨rfl, (((alloc5 _ _ _ _ _ _).alloc (by simp <;> omega) _).drew)⟩

set_option maxRecDepth 1000000 in
set_option maxHeartbeats 2000000 in
theorem n_read (pp : Option Addr) (i : Int) (w : World) (hd : Dead pp w) : Calls Try.prog 15 #[.pointer pp, .int .i64 i] w fun e w' => e = .returned (.slice none 0 0) ∧ Below w.heap.size w w' := by
  have HD : Hid (Dead pp w) := hd
  have HK : Hid (∀ w1 w2 : World, (w1.cell? ⟨w.heap.size, 0, none⟩ = some (.pointer pp) ∧ w1.cell? ⟨w.heap.size + 1, 0, none⟩ = some (.int .i64 i)) → Below w1.heap.size w1 w2 → (w2.cell? ⟨w.heap.size, 0, none⟩ = some (.pointer pp) ∧ w2.cell? ⟨w.heap.size + 1, 0, none⟩ = some (.int .i64 i))) := fun w1 w2 h hb => ⟨cell_later hb h.1, cell_later hb h.2⟩
  have HS0 : Hid ((((w.alloc (.cells #[.pointer pp] 25)).alloc (.cells #[.int .i64 i] 3)).alloc (.cells #[.slice none 0 0] 33)).drew.cell? ⟨w.heap.size, 0, none⟩ = some (.pointer pp) ∧ (((w.alloc (.cells #[.pointer pp] 25)).alloc (.cells #[.int .i64 i] 3)).alloc (.cells #[.slice none 0 0] 33)).drew.cell? ⟨w.heap.size + 1, 0, none⟩ = some (.int .i64 i)) := by
    refine ⟨?_, ?_⟩
    · show (World.alloc _ _).cell? _ = _
      rw [cell_past _ _ _ _ (by simp <;> omega), cell_past _ _ _ _ (by simp <;> omega), cell_alloc1 _ _ _ _ (by simp)]
    · show (World.alloc _ _).cell? _ = _
      rw [cell_past _ _ _ _ (by simp <;> omega), cell_alloc1 _ _ _ _ (by simp)]
  have hmf : ∀ (fn : Fn) (first cap : Array Value) (w : World), (Instr.makeFunc fn first cap).run Try.prog w = .ok (.func fn first cap) w := fun _ _ _ _ => rfl
  clear hd
  go_enter Try.func15, Try.ntmps15
  go_wp2_with fail
  go_region_held_law (fun w' => (w'.cell? ⟨w.heap.size, 0, none⟩ = some (.pointer pp) ∧ w'.cell? ⟨w.heap.size + 1, 0, none⟩ = some (.int .i64 i))) (first | assumption | exact HS0.out | exact HK.out _ _ ‹_› (alloc2 _ _ _) | exact HK.out _ _ ‹_› ((Below.refl _ _).alloc (Nat.le_refl _) _)) (first
    | (go_simp; go_at_call 36; refine Calls.mono (has_any _ _ _) ?_; rintro e w2 ⟨rfl, rfl⟩)
    | (go_simp; go_at_call 33; refine Calls.mono (HD.out _ _ _ ((((alloc5 _ _ _ _ _ _).alloc (by simp <;> omega) _).drew))) ?_; rintro e w2 ⟨rfl, rfl⟩))
  all_goals
    go_wp2_with fail
    go_ret
    exact ⟨rfl, (((alloc5 _ _ _ _ _ _).alloc (by simp <;> omega) _).drew)⟩

end Go.Proofs.Ytbbmbjlpccdclaa
