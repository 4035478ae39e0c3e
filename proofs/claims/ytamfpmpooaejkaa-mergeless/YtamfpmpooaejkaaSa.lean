/- Plain facts on stamps, and the walks over At, Check, Right and few. -/
import Derived.Test.YtamfpmpooaejkaaWi
namespace Go.Proofs.Ytamfpmpooaejkaa
open Go.RowKit
set_option linter.unusedVariables false

/-- The count of a branch. -/
def atZ (l : List Int) (i : Int) : Int := if 0 ≤ i ∧ i < (l.length : Int) then l.getD i.toNat 0 else 0

theorem atZ_nat (l : List Int) (k : Nat) : atZ l (k : Int) = l.getD k 0 := by
  unfold atZ
  split
  · rw [Int.toNat_natCast]
  · rename_i h
    have : l.length ≤ k := by omega
    simp [this]

set_option maxRecDepth 1000000 in
set_option maxHeartbeats 1000000 in
theorem at_any (v : Value) (l : List Int) (i : Int) (w : World) (hv : RI w v l) (hn : l.length ≤ 9223372036854775807) :
    Calls Try.prog 48 #[v, .int .i64 i] w fun e w' => e = .returned (.int .i64 (atZ l i)) ∧ w' = w := by
  obtain ⟨a, cap, rfl, hc, _, hr⟩ := hv
  by_cases h : 0 ≤ i ∧ i < (l.length : Int)
  · have HZ : Hid (atZ l i = l.getD i.toNat 0) := by show _ = _; unfold atZ; rw [if_pos h]
    obtain ⟨k, rfl⟩ : ∃ k : Nat, i = (k : Int) := ⟨i.toNat, by omega⟩
    rw [Int.toNat_natCast] at HZ
    obtain ⟨b, off, rfl, hc1⟩ := hr k (by omega)
    clear hr
    generalize l.getD k 0 = z at *
    go_enter Try.func48, Try.ntmps48
    go_wp2_with fail
    go_ret
    exact ⟨by rw [HZ.out]; rfl, rfl⟩
  · have HZ : Hid (atZ l i = 0) := by show _ = _; unfold atZ; rw [if_neg h]
    clear hr
    by_cases h0 : i < 0
    · go_enter Try.func48, Try.ntmps48
      go_wp2_with fail
      go_ret
      exact ⟨by rw [HZ.out]; rfl, rfl⟩
    · have h1 : (l.length : Int) ≤ i := by omega
      go_enter Try.func48, Try.ntmps48
      go_wp2_with fail
      go_ret
      exact ⟨by rw [HZ.out]; rfl, rfl⟩

set_option maxRecDepth 1000000 in
set_option maxHeartbeats 1000000 in
theorem rat_any (v : Value) (l : List Int) (i : Int) (w : World) (hv : RI w v l) (hn : l.length ≤ 9223372036854775807) :
    Calls Try.prog 46 #[v, .int .i64 i] w fun e w' => e = .returned (.int .i64 (atZ l i)) ∧ w' = w := by
  obtain ⟨a, cap, rfl, hc, _, hr⟩ := hv
  by_cases h : 0 ≤ i ∧ i < (l.length : Int)
  · have HZ : Hid (atZ l i = l.getD i.toNat 0) := by show _ = _; unfold atZ; rw [if_pos h]
    obtain ⟨k, rfl⟩ : ∃ k : Nat, i = (k : Int) := ⟨i.toNat, by omega⟩
    rw [Int.toNat_natCast] at HZ
    obtain ⟨b, off, rfl, hc1⟩ := hr k (by omega)
    clear hr
    generalize l.getD k 0 = z at *
    go_enter Try.func46, Try.ntmps46
    go_wp2_with fail
    go_ret
    exact ⟨by rw [HZ.out]; rfl, rfl⟩
  · have HZ : Hid (atZ l i = 0) := by show _ = _; unfold atZ; rw [if_neg h]
    clear hr
    by_cases h0 : i < 0
    · go_enter Try.func46, Try.ntmps46
      go_wp2_with fail
      go_ret
      exact ⟨by rw [HZ.out]; rfl, rfl⟩
    · have h1 : (l.length : Int) ≤ i := by omega
      go_enter Try.func46, Try.ntmps46
      go_wp2_with fail
      go_ret
      exact ⟨by rw [HZ.out]; rfl, rfl⟩
end Go.Proofs.Ytamfpmpooaejkaa
