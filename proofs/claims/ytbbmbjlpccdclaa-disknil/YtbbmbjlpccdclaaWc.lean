/- The walks over disk.unless, runs, burns, and has, fits, reaches, grows with what they make. -/
import Derived.Test.YtbbmbjlpccdclaaWb
namespace Go.Proofs.Ytbbmbjlpccdclaa
open Go.RowKit
set_option linter.unusedVariables false

theorem ent45 : Ent 45 := fun args w => by kernel_rfl
theorem ent60 : Ent 60 := fun args w => by kernel_rfl
theorem ent63 : Ent 63 := fun args w => by kernel_rfl
theorem ent64 : Ent 64 := fun args w => by kernel_rfl
theorem ent65 : Ent 65 := fun args w => by kernel_rfl
theorem ent66 : Ent 66 := fun args w => by kernel_rfl
theorem ent62 : Ent 62 := fun args w => by kernel_rfl

theorem unless_any (q : Bool) (e0 : Int) (w : World) : Calls Try.prog 61 #[.bool q, .int .i64 e0] w fun e w' => e = .returned (.int .i64 (if q = true then 0 else e0)) ∧ w' = w := by
  cases q
  · go_enter Try.func61, Try.ntmps61
    go_wp2
    go_ret
    exact ⟨rfl, rfl⟩
  · go_enter Try.func61, Try.ntmps61
    go_wp2
    go_ret
    exact ⟨rfl, rfl⟩

theorem runs_any (p : Nat) (q : Bool) (w : World) (hc : w.cell? ⟨p, 133, none⟩ = some (.bool q)) : Calls Try.prog 45 #[.pointer (some ⟨p, 0, none⟩)] w fun e w' => e = .returned (.int .i64 (if q = true then 9 else 0)) ∧ w' = w := by
  have H := fun w => unless_any (!q) 9 w
  cases q
  · go_enter Try.func45, Try.ntmps45
    go_wp2_with (first | (go_at_call 61; refine Calls.mono (H _) ?_; rintro e w' ⟨rfl, rfl⟩))
    go_ret
    exact ⟨rfl, rfl⟩
  · go_enter Try.func45, Try.ntmps45
    go_wp2_with (first | (go_at_call 61; refine Calls.mono (H _) ?_; rintro e w' ⟨rfl, rfl⟩))
    go_ret
    exact ⟨rfl, rfl⟩

theorem has_any (pp : Option Addr) (i : Int) (w : World) : Calls Try.prog 36 #[.pointer pp, .int .i64 i] w fun e w' => e = .returned (.func (.func 60) #[] #[.pointer (some ⟨w.heap.size + 1, 0, none⟩), .pointer (some ⟨w.heap.size, 0, none⟩)]) ∧ w' = (w.alloc (.cells #[.pointer pp] 25)).alloc (.cells #[.int .i64 i] 3) := by
  have hmf : ∀ (fn : Fn) (first cap : Array Value) (w : World), (Instr.makeFunc fn first cap).run Try.prog w = .ok (.func fn first cap) w := fun _ _ _ _ => rfl
  go_enter Try.func36, Try.ntmps36
  go_wp2
  go_ret
  exact ⟨by simp, rfl⟩

theorem fits_any (pp : Option Addr) (i : Int) (w : World) : Calls Try.prog 53 #[.pointer pp, .int .i64 i] w fun e w' => e = .returned (.func (.func 65) #[] #[.pointer (some ⟨w.heap.size + 1, 0, none⟩), .pointer (some ⟨w.heap.size, 0, none⟩)]) ∧ w' = (w.alloc (.cells #[.pointer pp] 25)).alloc (.cells #[.int .i64 i] 3) := by
  have hmf : ∀ (fn : Fn) (first cap : Array Value) (w : World), (Instr.makeFunc fn first cap).run Try.prog w = .ok (.func fn first cap) w := fun _ _ _ _ => rfl
  go_enter Try.func53, Try.ntmps53
  go_wp2
  go_ret
  exact ⟨by simp, rfl⟩

theorem grows_any (pp : Option Addr) (i : Int) (w : World) : Calls Try.prog 55 #[.pointer pp, .int .i64 i] w fun e w' => e = .returned (.func (.func 66) #[] #[.pointer (some ⟨w.heap.size + 1, 0, none⟩), .pointer (some ⟨w.heap.size, 0, none⟩)]) ∧ w' = (w.alloc (.cells #[.pointer pp] 25)).alloc (.cells #[.int .i64 i] 3) := by
  have hmf : ∀ (fn : Fn) (first cap : Array Value) (w : World), (Instr.makeFunc fn first cap).run Try.prog w = .ok (.func fn first cap) w := fun _ _ _ _ => rfl
  go_enter Try.func55, Try.ntmps55
  go_wp2
  go_ret
  exact ⟨by simp, rfl⟩

theorem reaches_any (pp : Option Addr) (i n : Int) (w : World) : Calls Try.prog 49 #[.pointer pp, .int .i64 i, .int .i64 n] w fun e w' => e = .returned (.func (.func 64) #[] #[.pointer (some ⟨w.heap.size + 2, 0, none⟩), .pointer (some ⟨w.heap.size, 0, none⟩), .pointer (some ⟨w.heap.size + 1, 0, none⟩)]) ∧ w' = ((w.alloc (.cells #[.pointer pp] 25)).alloc (.cells #[.int .i64 i] 3)).alloc (.cells #[.int .i64 n] 3) := by
  have hmf : ∀ (fn : Fn) (first cap : Array Value) (w : World), (Instr.makeFunc fn first cap).run Try.prog w = .ok (.func fn first cap) w := fun _ _ _ _ => rfl
  go_enter Try.func49, Try.ntmps49
  go_wp2
  go_ret
  exact ⟨by simp, rfl⟩

set_option maxRecDepth 1000000 in
set_option maxHeartbeats 1000000 in
theorem has1_any (p bi bd n : Nat) (i : Int) (w : World) (hi : w.cell? ⟨bi, 0, none⟩ = some (.int .i64 i)) (hd : w.cell? ⟨bd, 0, none⟩ = some (.pointer (some ⟨p, 0, none⟩))) (hc : w.cell? ⟨p, 130, none⟩ = some (.int .i64 n)) :
    Calls Try.prog 60 #[.pointer (some ⟨bi, 0, none⟩), .pointer (some ⟨bd, 0, none⟩)] w fun e w' => e = .returned (.int .i64 (if 0 ≤ i ∧ i < n then 0 else 2)) ∧ ∃ q, w' = w.drewN q := by
  have hi2 : ∀ m, (w.drewN m).cell? ⟨bi, 0, none⟩ = some (.int .i64 i) := fun _ => hi
  have hd2 : ∀ m, (w.drewN m).cell? ⟨bd, 0, none⟩ = some (.pointer (some ⟨p, 0, none⟩)) := fun _ => hd
  have hc2 : ∀ m, (w.drewN m).cell? ⟨p, 130, none⟩ = some (.int .i64 n) := fun _ => hc
  clear hi hd hc
  by_cases h0 : 0 ≤ i
  · by_cases h1 : i < n
    · have e0 : decide (0 ≤ i) = true := by simpa using h0
      have e1 : decide (i < (n : Int)) = true := by simpa using h1
      rw [if_pos ⟨h0, h1⟩]
      go_enter Try.func60, Try.ntmps60
      go_wp2_with fail
      go_quiet ((go_at_call 61; exact Calls.quiet_of_same (unless_any _ _ _)))
      go_wp2
      go_ret
      exact ⟨rfl, _, rfl⟩
    · have e0 : decide (0 ≤ i) = true := by simpa using h0
      have e1 : decide (i < (n : Int)) = false := by simpa using h1
      rw [if_neg (by omega)]
      go_enter Try.func60, Try.ntmps60
      go_wp2_with fail
      go_quiet ((go_at_call 61; exact Calls.quiet_of_same (unless_any _ _ _)))
      go_wp2
      go_ret
      exact ⟨rfl, _, rfl⟩
  · have e0 : decide (0 ≤ i) = false := by simpa using h0
    rw [if_neg (by omega)]
    go_enter Try.func60, Try.ntmps60
    go_wp2_with fail
    go_quiet ((go_at_call 61; exact Calls.quiet_of_same (unless_any _ _ _)))
    go_wp2
    go_ret
    exact ⟨rfl, _, rfl⟩
end Go.Proofs.Ytbbmbjlpccdclaa
