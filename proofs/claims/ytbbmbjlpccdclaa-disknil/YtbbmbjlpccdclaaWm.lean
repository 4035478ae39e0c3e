/- The walks over disk.Room, Down, Files, Arm. -/
import Derived.Test.YtbbmbjlpccdclaaWl
namespace Go.Proofs.Ytbbmbjlpccdclaa
open Go.RowKit
set_option linter.unusedVariables false

theorem ent43 : Ent 43 := fun args w => by kernel_rfl
theorem ent42 : Ent 42 := fun args w => by kernel_rfl
theorem ent56 : Ent 56 := fun args w => by kernel_rfl
theorem ent44 : Ent 44 := fun args w => by kernel_rfl

theorem RF.nil (w : World) (blk : Nat) : RF w blk (.slice none 0 0) [] := ⟨none, 0, rfl, by simp, fun i u h => by simp at h⟩

theorem RF.one (w : World) (v : Value) (k : Nat) (hk : k = w.heap.size) : RF (w.alloc (.cells #[v] 69)) k (.slice (some ⟨k, 0, none⟩) 1 1) [v] := by
  refine ⟨_, 1, rfl, by simp, fun i u h => ?_⟩
  match i, h with
  | 0, h => simp at h; subst h; exact ⟨0, rfl, cell_alloc1 _ _ _ _ hk⟩
  | i + 1, h => simp at h

theorem froz1 (w : World) (v : Value) (t : TypeId) (k o : Nat) (hk : k = w.heap.size) : (w.alloc (.cells #[v] t)).frozen? ⟨k, o, none⟩ = false := by
  subst hk
  exact frozen_of_row _ _ _ #[v] t (heap_alloc_new _ _)

set_option maxRecDepth 1000000 in
theorem room1_any (p b0 b1 : Nat) (x y : Int) (w : World) (h0 : w.cell? ⟨b0, 0, none⟩ = some (.pointer (some ⟨p, 0, none⟩))) (h1 : w.cell? ⟨b1, 0, none⟩ = some (.int .i64 y)) (hf : w.frozen? ⟨b1, 0, none⟩ = false) (hc : w.cell? ⟨p, 131, none⟩ = some (.int .i64 x)) :
    Calls Try.prog 43 #[.pointer (some ⟨b0, 0, none⟩), .pointer (some ⟨b1, 0, none⟩)] w fun e w' => e = .returned (.tuple #[]) ∧ w' = w.setCell ⟨b1, 0, none⟩ (.int .i64 x) := by
  go_enter Try.func43, Try.ntmps43
  go_wp2
  go_end0
  exact ⟨rfl, rfl⟩

set_option maxRecDepth 1000000 in
set_option maxHeartbeats 1000000 in
theorem room_any (p n : Nat) (x : Int) (w : World) (hn : w.cell? ⟨p, 130, none⟩ = some (.int .i64 n)) (hpos : n ≠ 0) (hc : w.cell? ⟨p, 131, none⟩ = some (.int .i64 x)) :
    Calls Try.prog 19 #[.pointer (some ⟨p, 0, none⟩)] w fun e w' => e = .returned (.int .i64 x) ∧ Below w.heap.size w w' := by
  have hbel := alloc2 w (.cells #[.pointer (some ⟨p, 0, none⟩)] 25) (.cells #[.int .i64 0] 3)
  have c0 : ((w.alloc (.cells #[.pointer (some ⟨p, 0, none⟩)] 25)).alloc (.cells #[.int .i64 0] 3)).cell? ⟨w.heap.size, 0, none⟩ = some (.pointer (some ⟨p, 0, none⟩)) := by
    rw [cell_past _ _ _ _ (by simp), cell_alloc1 _ _ _ _ rfl]
  have c1 : ((w.alloc (.cells #[.pointer (some ⟨p, 0, none⟩)] 25)).alloc (.cells #[.int .i64 0] 3)).cell? ⟨w.heap.size + 1, 0, none⟩ = some (.int .i64 0) := cell_alloc1 _ _ _ _ (by simp)
  have f1 : ((w.alloc (.cells #[.pointer (some ⟨p, 0, none⟩)] 25)).alloc (.cells #[.int .i64 0] 3)).frozen? ⟨w.heap.size + 1, 0, none⟩ = false := froz1 _ _ _ _ _ (by simp)
  have HC : Hid _ := call_any p n 0 (.func (.func 43) #[] #[.pointer (some ⟨w.heap.size, 0, none⟩), .pointer (some ⟨w.heap.size + 1, 0, none⟩)]) _ [] _ (fun k w' => k = 0 ∧ w' = ((w.alloc (.cells #[.pointer (some ⟨p, 0, none⟩)] 25)).alloc (.cells #[.int .i64 0] 3)).setCell ⟨w.heap.size + 1, 0, none⟩ (.int .i64 x)) (cell_later hbel hn) hpos (RF.nil _ _)
    ⟨43, #[], #[.pointer (some ⟨w.heap.size, 0, none⟩), .pointer (some ⟨w.heap.size + 1, 0, none⟩)], rfl, ent43, Calls.mono (room1_any p w.heap.size (w.heap.size + 1) x 0 _ c0 c1 f1 (cell_later hbel hc)) (fun e w' h => ⟨h.1, rfl, h.2⟩)⟩
  have HB : Hid _ := hbel
  have hmf : ∀ (fn : Fn) (first cap : Array Value) (w : World), (Instr.makeFunc fn first cap).run Try.prog w = .ok (.func fn first cap) w := fun _ _ _ _ => rfl
  clear hbel c0 f1
  go_enter Try.func19, Try.ntmps19
  go_wp2_with (first | (go_at_call 33; refine Calls.mono HC.out ?_; rintro e w2 ⟨k, rfl, rfl, rfl⟩))
  go_ret
  exact ⟨rfl, alloc2 _ _ _⟩

set_option maxRecDepth 1000000 in
theorem down1_any (p b0 b1 : Nat) (x y : Bool) (w : World) (h0 : w.cell? ⟨b0, 0, none⟩ = some (.pointer (some ⟨p, 0, none⟩))) (h1 : w.cell? ⟨b1, 0, none⟩ = some (.bool y)) (hf : w.frozen? ⟨b1, 0, none⟩ = false) (hc : w.cell? ⟨p, 133, none⟩ = some (.bool x)) :
    Calls Try.prog 42 #[.pointer (some ⟨b0, 0, none⟩), .pointer (some ⟨b1, 0, none⟩)] w fun e w' => e = .returned (.tuple #[]) ∧ w' = w.setCell ⟨b1, 0, none⟩ (.bool x) := by
  go_enter Try.func42, Try.ntmps42
  go_wp2
  go_end0
  exact ⟨rfl, rfl⟩

set_option maxRecDepth 1000000 in
set_option maxHeartbeats 1000000 in
theorem down_any (p n : Nat) (x : Bool) (w : World) (hn : w.cell? ⟨p, 130, none⟩ = some (.int .i64 n)) (hpos : n ≠ 0) (hc : w.cell? ⟨p, 133, none⟩ = some (.bool x)) :
    Calls Try.prog 18 #[.pointer (some ⟨p, 0, none⟩)] w fun e w' => e = .returned (.bool x) ∧ Below w.heap.size w w' := by
  have hbel := alloc2 w (.cells #[.pointer (some ⟨p, 0, none⟩)] 25) (.cells #[.bool false] 4)
  have c0 : ((w.alloc (.cells #[.pointer (some ⟨p, 0, none⟩)] 25)).alloc (.cells #[.bool false] 4)).cell? ⟨w.heap.size, 0, none⟩ = some (.pointer (some ⟨p, 0, none⟩)) := by
    rw [cell_past _ _ _ _ (by simp), cell_alloc1 _ _ _ _ rfl]
  have c1 : ((w.alloc (.cells #[.pointer (some ⟨p, 0, none⟩)] 25)).alloc (.cells #[.bool false] 4)).cell? ⟨w.heap.size + 1, 0, none⟩ = some (.bool false) := cell_alloc1 _ _ _ _ (by simp)
  have f1 : ((w.alloc (.cells #[.pointer (some ⟨p, 0, none⟩)] 25)).alloc (.cells #[.bool false] 4)).frozen? ⟨w.heap.size + 1, 0, none⟩ = false := froz1 _ _ _ _ _ (by simp)
  have HC : Hid _ := call_any p n 0 (.func (.func 42) #[] #[.pointer (some ⟨w.heap.size, 0, none⟩), .pointer (some ⟨w.heap.size + 1, 0, none⟩)]) _ [] _ (fun k w' => k = 0 ∧ w' = ((w.alloc (.cells #[.pointer (some ⟨p, 0, none⟩)] 25)).alloc (.cells #[.bool false] 4)).setCell ⟨w.heap.size + 1, 0, none⟩ (.bool x)) (cell_later hbel hn) hpos (RF.nil _ _)
    ⟨42, #[], #[.pointer (some ⟨w.heap.size, 0, none⟩), .pointer (some ⟨w.heap.size + 1, 0, none⟩)], rfl, ent42, Calls.mono (down1_any p w.heap.size (w.heap.size + 1) x false _ c0 c1 f1 (cell_later hbel hc)) (fun e w' h => ⟨h.1, rfl, h.2⟩)⟩
  have HB : Hid _ := hbel
  have hmf : ∀ (fn : Fn) (first cap : Array Value) (w : World), (Instr.makeFunc fn first cap).run Try.prog w = .ok (.func fn first cap) w := fun _ _ _ _ => rfl
  clear hbel c0 f1
  go_enter Try.func18, Try.ntmps18
  go_wp2_with (first | (go_at_call 33; refine Calls.mono HC.out ?_; rintro e w2 ⟨k, rfl, rfl, rfl⟩))
  go_ret
  exact ⟨rfl, alloc2 _ _ _⟩

set_option maxRecDepth 1000000 in
theorem files1_any (p b0 b1 : Nat) (x y : Int) (w : World) (h0 : w.cell? ⟨b0, 0, none⟩ = some (.pointer (some ⟨p, 0, none⟩))) (h1 : w.cell? ⟨b1, 0, none⟩ = some (.int .i64 y)) (hf : w.frozen? ⟨b1, 0, none⟩ = false) (hc : w.cell? ⟨p, 130, none⟩ = some (.int .i64 x)) :
    Calls Try.prog 56 #[.pointer (some ⟨b0, 0, none⟩), .pointer (some ⟨b1, 0, none⟩)] w fun e w' => e = .returned (.tuple #[]) ∧ w' = w.setCell ⟨b1, 0, none⟩ (.int .i64 x) := by
  go_enter Try.func56, Try.ntmps56
  go_wp2
  go_end0
  exact ⟨rfl, rfl⟩

set_option maxRecDepth 1000000 in
set_option maxHeartbeats 1000000 in
theorem files_any (p n : Nat) (x : Int) (w : World) (hn : w.cell? ⟨p, 130, none⟩ = some (.int .i64 n)) (hpos : n ≠ 0) (hc : w.cell? ⟨p, 130, none⟩ = some (.int .i64 x)) :
    Calls Try.prog 25 #[.pointer (some ⟨p, 0, none⟩)] w fun e w' => e = .returned (.int .i64 x) ∧ Below w.heap.size w w' := by
  have hbel := alloc2 w (.cells #[.pointer (some ⟨p, 0, none⟩)] 25) (.cells #[.int .i64 0] 3)
  have c0 : ((w.alloc (.cells #[.pointer (some ⟨p, 0, none⟩)] 25)).alloc (.cells #[.int .i64 0] 3)).cell? ⟨w.heap.size, 0, none⟩ = some (.pointer (some ⟨p, 0, none⟩)) := by
    rw [cell_past _ _ _ _ (by simp), cell_alloc1 _ _ _ _ rfl]
  have c1 : ((w.alloc (.cells #[.pointer (some ⟨p, 0, none⟩)] 25)).alloc (.cells #[.int .i64 0] 3)).cell? ⟨w.heap.size + 1, 0, none⟩ = some (.int .i64 0) := cell_alloc1 _ _ _ _ (by simp)
  have f1 : ((w.alloc (.cells #[.pointer (some ⟨p, 0, none⟩)] 25)).alloc (.cells #[.int .i64 0] 3)).frozen? ⟨w.heap.size + 1, 0, none⟩ = false := froz1 _ _ _ _ _ (by simp)
  have HC : Hid _ := call_any p n 0 (.func (.func 56) #[] #[.pointer (some ⟨w.heap.size, 0, none⟩), .pointer (some ⟨w.heap.size + 1, 0, none⟩)]) _ [] _ (fun k w' => k = 0 ∧ w' = ((w.alloc (.cells #[.pointer (some ⟨p, 0, none⟩)] 25)).alloc (.cells #[.int .i64 0] 3)).setCell ⟨w.heap.size + 1, 0, none⟩ (.int .i64 x)) (cell_later hbel hn) hpos (RF.nil _ _)
    ⟨56, #[], #[.pointer (some ⟨w.heap.size, 0, none⟩), .pointer (some ⟨w.heap.size + 1, 0, none⟩)], rfl, ent56, Calls.mono (files1_any p w.heap.size (w.heap.size + 1) x 0 _ c0 c1 f1 (cell_later hbel hc)) (fun e w' h => ⟨h.1, rfl, h.2⟩)⟩
  have HB : Hid _ := hbel
  have hmf : ∀ (fn : Fn) (first cap : Array Value) (w : World), (Instr.makeFunc fn first cap).run Try.prog w = .ok (.func fn first cap) w := fun _ _ _ _ => rfl
  clear hbel c0 f1
  go_enter Try.func25, Try.ntmps25
  go_wp2_with (first | (go_at_call 33; refine Calls.mono HC.out ?_; rintro e w2 ⟨k, rfl, rfl, rfl⟩))
  go_ret
  exact ⟨rfl, alloc2 _ _ _⟩

set_option maxRecDepth 1000000 in
theorem arm1_any (p b0 b1 : Nat) (n : Int) (y : Int) (w : World) (h0 : w.cell? ⟨b0, 0, none⟩ = some (.int .i64 n)) (h1 : w.cell? ⟨b1, 0, none⟩ = some (.pointer (some ⟨p, 0, none⟩))) (hf : w.frozen? ⟨p, 132, none⟩ = false) (hc : w.cell? ⟨p, 132, none⟩ = some (.int .i64 y)) :
    Calls Try.prog 44 #[.pointer (some ⟨b0, 0, none⟩), .pointer (some ⟨b1, 0, none⟩)] w fun e w' => e = .returned (.tuple #[]) ∧ w' = w.setCell ⟨p, 132, none⟩ (.int .i64 (max n (-1))) := by
  go_enter Try.func44, Try.ntmps44
  go_wp2
  all_goals
    go_end0
    refine ⟨rfl, ?_⟩
    congr 2
    omega

set_option maxRecDepth 1000000 in
set_option maxHeartbeats 1000000 in
theorem arm_any (T : Nat → Prop) (w : World) (p : Nat) (S : DS) (n : Int) (hd : DK T w p S) (ho : Okay S) :
    Calls Try.prog 20 #[.pointer (some ⟨p, 0, none⟩), .int .i64 n] w (WR T w p (armP S n)) := by
  have hT := hd.live
  have hG : ∀ k, w.heap.size ≤ k → ¬ T k := fun k hk h => by have := hT k h; omega
  have hbel := alloc3 w (.cells #[.pointer (some ⟨p, 0, none⟩)] 25) (.cells #[.int .i64 n] 3) (.cells #[.func (.func 45) #[.pointer (some ⟨p, 0, none⟩)] #[]] 69)
  have c0 : (((w.alloc (.cells #[.pointer (some ⟨p, 0, none⟩)] 25)).alloc (.cells #[.int .i64 n] 3)).alloc (.cells #[.func (.func 45) #[.pointer (some ⟨p, 0, none⟩)] #[]] 69)).cell? ⟨w.heap.size, 0, none⟩ = some (.pointer (some ⟨p, 0, none⟩)) := by
    rw [cell_past _ _ _ _ (by simp <;> omega), cell_past _ _ _ _ (by simp), cell_alloc1 _ _ _ _ rfl]
  have c1 : (((w.alloc (.cells #[.pointer (some ⟨p, 0, none⟩)] 25)).alloc (.cells #[.int .i64 n] 3)).alloc (.cells #[.func (.func 45) #[.pointer (some ⟨p, 0, none⟩)] #[]] 69)).cell? ⟨w.heap.size + 1, 0, none⟩ = some (.int .i64 n) := by
    rw [cell_past _ _ _ _ (by simp), cell_alloc1 _ _ _ _ (by simp)]
  have hd2 := hd.later hbel
  have hpos := ho.pos
  have HB : Hid _ := hbel
  have HC : Hid (Calls Try.prog 33 #[.pointer (some ⟨p, 0, none⟩), .func (.func 44) #[] #[.pointer (some ⟨w.heap.size + 1, 0, none⟩), .pointer (some ⟨w.heap.size, 0, none⟩)], .slice (some ⟨w.heap.size + 1 + 1, 0, none⟩) 1 1] (((w.alloc (.cells #[.pointer (some ⟨p, 0, none⟩)] 25)).alloc (.cells #[.int .i64 n] 3)).alloc (.cells #[.func (.func 45) #[.pointer (some ⟨p, 0, none⟩)] #[]] 69)) (WR T w p (armP S n))) := by
    obtain ⟨V, hv⟩ := hd2
    have hW : ∀ w', WQ T (((w.alloc (.cells #[.pointer (some ⟨p, 0, none⟩)] 25)).alloc (.cells #[.int .i64 n] 3)).alloc (.cells #[.func (.func 45) #[.pointer (some ⟨p, 0, none⟩)] #[]] 69)) p (armP S n) (armP S n).1 w' → WR T w p (armP S n) (.returned (.int .i64 (armP S n).1)) w' := fun w' h => by
      obtain ⟨h1, h2, h3⟩ := h.back hbel hT
      exact ⟨rfl, h2, h3⟩
    have hlive : ∀ k, T k → k < (((w.alloc (.cells #[.pointer (some ⟨p, 0, none⟩)] 25)).alloc (.cells #[.int .i64 n] 3)).alloc (.cells #[.func (.func 45) #[.pointer (some ⟨p, 0, none⟩)] #[]] 69)).heap.size := fun k hk => Nat.lt_of_lt_of_le (hT k hk) hbel.size
    refine Calls.mono (call_any p S.n (w.heap.size + 1 + 1) _ _ [.func (.func 45) #[.pointer (some ⟨p, 0, none⟩)] #[]] _ (fun k w' => k = (armP S n).1 ∧ WR T w p (armP S n) (.returned (.int .i64 (armP S n).1)) w') hv.cnt (by omega) (RF.one _ _ _ (by simp)) ⟨45, #[.pointer (some ⟨p, 0, none⟩)], #[], rfl, ent45, Calls.mono (runs_any p S.down _ hv.dn) ?_⟩) ?_
    · rintro e w' ⟨rfl, rfl⟩
      by_cases hdn : S.down = true
      · have hA : armP S n = (9, S) := by unfold armP; rw [if_pos hdn]
        rw [hA] at hW ⊢
        exact ⟨9, by rw [if_pos hdn], rfl, fun _ => ⟨rfl, hW _ (WQ.same ⟨V, hv⟩ (Kp.refl _ _) hlive)⟩, fun h => by cases h⟩
      · have hA : armP S n = (0, { S with fuse := max n (-1) }) := by unfold armP; rw [if_neg hdn]
        rw [hA] at hW ⊢
        refine ⟨0, by rw [if_neg hdn], rfl, fun h => absurd rfl h, fun _ => ?_⟩
        refine ⟨44, #[], #[.pointer (some ⟨w.heap.size + 1, 0, none⟩), .pointer (some ⟨w.heap.size, 0, none⟩)], rfl, ent44, Calls.mono (arm1_any p _ _ n S.fuse _ c1 c0 (hv.frozen _) hv.fu) ?_⟩
        rintro e w' ⟨rfl, rfl⟩
        exact ⟨rfl, rfl, hW _ (WQ.same ⟨V, hv.setFuse _⟩ ((Kp.refl _ _).set _ _ hv.own) hlive)⟩
    · rintro e w' ⟨k, rfl, rfl, h⟩
      exact h
  generalize armP S n = res at *
  have hmf : ∀ (fn : Fn) (first cap : Array Value) (w : World), (Instr.makeFunc fn first cap).run Try.prog w = .ok (.func fn first cap) w := fun _ _ _ _ => rfl
  clear hd hd2 hbel c0 c1
  go_enter Try.func20, Try.ntmps20
  go_wp2_with (first | (go_at_call 33; refine Calls.mono HC.out ?_; rintro e w2 ⟨rfl, h1, h2⟩))
  go_ret
  exact ⟨rfl, h1, h2⟩
end Go.Proofs.Ytbbmbjlpccdclaa
