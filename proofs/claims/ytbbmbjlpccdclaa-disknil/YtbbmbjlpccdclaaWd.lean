/- The walks over what disk.fits, reaches, grows make, and over burns. -/
import Derived.Test.YtbbmbjlpccdclaaWc
namespace Go.Proofs.Ytbbmbjlpccdclaa
open Go.RowKit
set_option linter.unusedVariables false

set_option maxRecDepth 1000000 in
set_option maxHeartbeats 1000000 in
theorem fits1_any (p bi bd r l : Nat) (w : World) (hi : w.cell? ⟨bi, 0, none⟩ = some (.int .i64 l)) (hd : w.cell? ⟨bd, 0, none⟩ = some (.pointer (some ⟨p, 0, none⟩))) (hc : w.cell? ⟨p, 131, none⟩ = some (.int .i64 r)) :
    Calls Try.prog 65 #[.pointer (some ⟨bi, 0, none⟩), .pointer (some ⟨bd, 0, none⟩)] w fun e w' => e = .returned (.int .i64 (if l ≤ r then 0 else 8)) ∧ ∃ q, w' = w.drewN q := by
  have hi2 : ∀ m, (w.drewN m).cell? ⟨bi, 0, none⟩ = some (.int .i64 l) := fun _ => hi
  have hd2 : ∀ m, (w.drewN m).cell? ⟨bd, 0, none⟩ = some (.pointer (some ⟨p, 0, none⟩)) := fun _ => hd
  have hc2 : ∀ m, (w.drewN m).cell? ⟨p, 131, none⟩ = some (.int .i64 r) := fun _ => hc
  clear hi hd hc
  by_cases h0 : l ≤ r
  · have e0 : decide ((l : Int) ≤ r) = true := by simpa using h0
    rw [if_pos h0]
    go_enter Try.func65, Try.ntmps65
    go_wp2_with fail
    go_quiet ((go_at_call 61; exact Calls.quiet_of_same (unless_any _ _ _)))
    go_wp2
    go_ret
    exact ⟨rfl, _, rfl⟩
  · have e0 : decide ((l : Int) ≤ r) = false := by simpa using h0
    rw [if_neg h0]
    go_enter Try.func65, Try.ntmps65
    go_wp2_with fail
    go_quiet ((go_at_call 61; exact Calls.quiet_of_same (unless_any _ _ _)))
    go_wp2
    go_ret
    exact ⟨rfl, _, rfl⟩

set_option maxRecDepth 1000000 in
set_option maxHeartbeats 1000000 in
theorem grows1_any (p bi bd r : Nat) (i : Int) (w : World) (hr : r ≤ 1000000000000) (hi : w.cell? ⟨bi, 0, none⟩ = some (.int .i64 i)) (hd : w.cell? ⟨bd, 0, none⟩ = some (.pointer (some ⟨p, 0, none⟩))) (hc : w.cell? ⟨p, 131, none⟩ = some (.int .i64 r)) :
    Calls Try.prog 66 #[.pointer (some ⟨bi, 0, none⟩), .pointer (some ⟨bd, 0, none⟩)] w fun e w' => e = .returned (.int .i64 (if 0 ≤ i ∧ i ≤ 1048576 - r then 0 else 2)) ∧ ∃ q, w' = w.drewN q := by
  have hi2 : ∀ m, (w.drewN m).cell? ⟨bi, 0, none⟩ = some (.int .i64 i) := fun _ => hi
  have hd2 : ∀ m, (w.drewN m).cell? ⟨bd, 0, none⟩ = some (.pointer (some ⟨p, 0, none⟩)) := fun _ => hd
  have hc2 : ∀ m, (w.drewN m).cell? ⟨p, 131, none⟩ = some (.int .i64 r) := fun _ => hc
  have hw : IntKind.i64.wrap (1048576 - (r : Int)) = 1048576 - (r : Int) := by rw [IntKind.wrap_i64]; omega
  clear hi hd hc
  by_cases h0 : 0 ≤ i
  · have e0 : decide (0 ≤ i) = true := by simpa using h0
    by_cases h1 : i ≤ 1048576 - (r : Int)
    · have e1 : decide (i ≤ 1048576 - (r : Int)) = true := by simpa using h1
      rw [if_pos ⟨h0, h1⟩]
      go_enter Try.func66, Try.ntmps66
      go_wp2_with fail
      go_quiet ((go_at_call 61; exact Calls.quiet_of_same (unless_any _ _ _)))
      go_wp2
      go_ret
      exact ⟨rfl, _, rfl⟩
    · have e1 : decide (i ≤ 1048576 - (r : Int)) = false := by simpa using h1
      rw [if_neg (by omega)]
      go_enter Try.func66, Try.ntmps66
      go_wp2_with fail
      go_quiet ((go_at_call 61; exact Calls.quiet_of_same (unless_any _ _ _)))
      go_wp2
      go_ret
      exact ⟨rfl, _, rfl⟩
  · have e0 : decide (0 ≤ i) = false := by simpa using h0
    rw [if_neg (by omega)]
    go_enter Try.func66, Try.ntmps66
    go_wp2_with fail
    go_quiet ((go_at_call 61; exact Calls.quiet_of_same (unless_any _ _ _)))
    go_wp2
    go_ret
    exact ⟨rfl, _, rfl⟩

set_option maxRecDepth 1000000 in
set_option maxHeartbeats 1000000 in
theorem reaches1_any (p bn bd bi i l : Nat) (a : Option Addr) (cap : Nat) (n : Int) (w : World) (hi65 : i < 65) (hl : l ≤ 10000000) (hn : w.cell? ⟨bn, 0, none⟩ = some (.int .i64 n)) (hi : w.cell? ⟨bi, 0, none⟩ = some (.int .i64 i)) (hd : w.cell? ⟨bd, 0, none⟩ = some (.pointer (some ⟨p, 0, none⟩))) (hc : w.cell? ⟨p, i * 2, none⟩ = some (.slice a l cap)) :
    Calls Try.prog 64 #[.pointer (some ⟨bn, 0, none⟩), .pointer (some ⟨bd, 0, none⟩), .pointer (some ⟨bi, 0, none⟩)] w fun e w' => e = .returned (.int .i64 (if 0 ≤ n ∧ n ≤ l then 0 else 2)) ∧ ∃ q, w' = w.drewN q := by
  have hn2 : ∀ m, (w.drewN m).cell? ⟨bn, 0, none⟩ = some (.int .i64 n) := fun _ => hn
  have hi2 : ∀ m, (w.drewN m).cell? ⟨bi, 0, none⟩ = some (.int .i64 i) := fun _ => hi
  have hd2 : ∀ m, (w.drewN m).cell? ⟨bd, 0, none⟩ = some (.pointer (some ⟨p, 0, none⟩)) := fun _ => hd
  have hc2 : ∀ m, (w.drewN m).cell? ⟨p, i * 2, none⟩ = some (.slice a l cap) := fun _ => hc
  clear hi hd hc hn
  by_cases h0 : 0 ≤ n
  · have e0 : decide (0 ≤ n) = true := by simpa using h0
    by_cases h1 : n ≤ l
    · have e1 : decide (n ≤ (l : Int)) = true := by simpa using h1
      rw [if_pos ⟨h0, h1⟩]
      go_enter Try.func64, Try.ntmps64
      go_wp2_with fail
      go_quiet ((go_at_call 61; exact Calls.quiet_of_same (unless_any _ _ _)))
      go_wp2
      go_ret
      exact ⟨rfl, _, rfl⟩
    · have e1 : decide (n ≤ (l : Int)) = false := by simpa using h1
      rw [if_neg (by omega)]
      go_enter Try.func64, Try.ntmps64
      go_wp2_with fail
      go_quiet ((go_at_call 61; exact Calls.quiet_of_same (unless_any _ _ _)))
      go_wp2
      go_ret
      exact ⟨rfl, _, rfl⟩
  · have e0 : decide (0 ≤ n) = false := by simpa using h0
    rw [if_neg (by omega)]
    go_enter Try.func64, Try.ntmps64
    go_wp2_with fail
    go_quiet ((go_at_call 61; exact Calls.quiet_of_same (unless_any _ _ _)))
    go_wp2
    go_ret
    exact ⟨rfl, _, rfl⟩

theorem burns_off (p : Nat) (cs : Array Value) (q : Bool) (w : World) (hq : w.cell? ⟨p, 133, none⟩ = some (.bool q)) (hb : w.heap[p]? = some (.cells cs 55 (0, 0))) (hs : cs.size = 134) (hc : w.cell? ⟨p, 132, none⟩ = some (.int .i64 0)) :
    Calls Try.prog 63 #[.pointer (some ⟨p, 0, none⟩)] w fun e w' => e = .returned (.int .i64 9) ∧ w' = w.setCell ⟨p, 133, none⟩ (.bool true) := by
  have hf : ∀ o, w.frozen? ⟨p, o, none⟩ = false := fun o => frozen_of_row _ _ _ cs 55 hb
  go_enter Try.func63, Try.ntmps63
  go_wp2
  go_ret
  exact ⟨rfl, rfl⟩

theorem burns_on (p : Nat) (cs : Array Value) (f : Int) (w : World) (hf1 : -1 ≤ f) (hf2 : f ≤ 9223372036854775807) (hf0 : f ≠ 0) (hb : w.heap[p]? = some (.cells cs 55 (0, 0))) (hs : cs.size = 134) (hc : w.cell? ⟨p, 132, none⟩ = some (.int .i64 f)) :
    Calls Try.prog 63 #[.pointer (some ⟨p, 0, none⟩)] w fun e w' => e = .returned (.int .i64 0) ∧ w' = w.setCell ⟨p, 132, none⟩ (.int .i64 (burnF f)) := by
  have hf : ∀ o, w.frozen? ⟨p, o, none⟩ = false := fun o => frozen_of_row _ _ _ cs 55 hb
  have hz : (f == 0) = false := by simpa using hf0
  have HE : Hid (max (f - 1) (-1) = burnF f) := burnF_eq hf1 hf0
  go_enter Try.func63, Try.ntmps63
  go_wp2
  all_goals
    go_ret
    refine ⟨rfl, ?_⟩
    congr 2
    rw [← HE.out]
    omega
end Go.Proofs.Ytbbmbjlpccdclaa
