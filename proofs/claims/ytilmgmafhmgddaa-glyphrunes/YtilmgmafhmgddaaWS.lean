/- A walk over the document's Same: two slices that read as one list are the same. -/
import Derived.Test.YtilmgmafhmgddaaWR
import Derived.BigQuiet
import Derived.Deep.QuietTactic
namespace Go.Proofs.Ytilmgmafhmgddaa
open Go.RowKit

/-- A slice of ints that reads as a list. -/
def Reads (w : World) (v : Value) (l : List Int) : Prop :=
  ∃ a cap, v = .slice a l.length cap ∧ (a = none → cap = 0) ∧ ∀ i, i < l.length → ∃ b off, a = some ⟨b, off, none⟩ ∧ w.cell? ⟨b, off + i, none⟩ = some (.int .i64 (l.getD i 0))

theorem below_drewN {B : Nat} {a w : World} (h : Below B a w) (n : Nat) : Below B a (w.drewN n) := h.trans ⟨rfl, rfl, rfl, Nat.le_refl _, fun _ _ => rfl⟩

set_option maxRecDepth 1000000 in
set_option maxHeartbeats 1000000 in
theorem same_eq (x y : Value) (l : List Int) (w : World) (hx : Reads w x l) (hy : Reads w y l) (hl : l.length ≤ 100000) :
    Calls Try.prog 14 #[x, y] w fun e w' => e = .returned (.bool true) ∧ ∃ n, w' = w.drewN n := by
  obtain ⟨a, ca, rfl, _, hca⟩ := hx
  obtain ⟨b, cb, rfl, _, hcb⟩ := hy
  go_enter Try.func14, Try.ntmps14
  go_wp2
  go_loopw [5] (fun i wr => ∃ (k n : Nat), k ≤ l.length ∧ i = .int .i64 k ∧ wr = w.drewN n) (fun i _ => l.length - (intOf i).toNat)
  case atStart => exact ⟨0, 0, Nat.zero_le _, rfl, rfl⟩
  case round =>
    obtain ⟨k, n, hk, rfl, rfl⟩ := hrel
    by_cases hlt : k < l.length
    · obtain ⟨b1, o1, rfl, hc1⟩ := hca k hlt
      obtain ⟨b2, o2, rfl, hc2⟩ := hcb k hlt
      have hd1 : ∀ m, (w.drewN m).cell? ⟨b1, o1 + k, none⟩ = some (.int .i64 (l.getD k 0)) := fun _ => hc1
      have hd2 : ∀ m, (w.drewN m).cell? ⟨b2, o2 + k, none⟩ = some (.int .i64 (l.getD k 0)) := fun _ => hc2
      generalize l.getD k 0 = z at *
      clear hca hcb
      go_wp2
      go_quiet (fail)
      go_wp2
      go_roundw
      case rel => exact ⟨k + 1, _, by omega, by go_num, rfl⟩
      case measure => simp [intOf]; omega
    · go_wp2
      go_ret
      exact ⟨rfl, n, rfl⟩
end Go.Proofs.Ytilmgmafhmgddaa
