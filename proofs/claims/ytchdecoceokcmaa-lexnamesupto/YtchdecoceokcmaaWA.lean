/- Walks over glyph.Width and the document's Is and Width: what each answers of any number. -/
import Derived.Test.YtchdecoceokcmaaRows
import Derived.Test.YtchdecoceokcmaaMa
import Derived.WalkKit
import Derived.WalkSpells
import Derived.WalkLawsBesides
namespace Go.Proofs.Ytchdecoceokcmaa
open Go.RowKit

theorem ret_int {k : IntKind} {a b : Int} (h : a = b) : Ending.returned (.int k a) = .returned (.int k b) := by rw [h]
theorem ret_bool {a b : Bool} (h : a = b) : Ending.returned (.bool a) = .returned (.bool b) := by rw [h]

set_option maxHeartbeats 800000 in
theorem gwidth_any (r : Int) (w : World) :
    Calls Try.prog 34 #[.int .i64 r] w fun e w' => e = .returned (.int .i64 (wid r)) ∧ w' = w.alloc (.cells #[.int .i64 r] 3) := by
  go_enter Try.func34, Try.ntmps34
  go_wp2
  all_goals go_ret
  all_goals refine ⟨ret_int ?_, rfl⟩
  all_goals unfold wid
  all_goals repeat' split
  all_goals omega

set_option maxHeartbeats 800000 in
theorem is_any (r : Int) (w : World) :
    Calls Try.prog 37 #[.int .i64 r] w fun e w' => e = .returned (.bool (isCp r)) ∧ w' = w := by
  go_enter Try.func37, Try.ntmps37
  go_wp2
  all_goals go_ret
  all_goals refine ⟨ret_bool ?_, rfl⟩
  all_goals unfold isCp
  all_goals first | (simp; done) | (simp; omega) | (rw [Bool.eq_iff_iff]; simp; omega)

set_option maxHeartbeats 800000 in
theorem rwidth_any (r : Int) (w : World) :
    Calls Try.prog 43 #[.int .i64 r] w fun e w' => e = .returned (.int .i64 (wid r)) ∧ w' = w := by
  by_cases h : isCp r = true
  · have h2 : 0 ≤ r ∧ r ≤ 1114111 ∧ (r < 55296 ∨ 57343 < r) := by simpa [isCp] using h
    go_enter Try.func43, Try.ntmps43
    go_wp2_with (go_at_call 37; refine (is_any _ _).mono ?_; rintro e w' ⟨rfl, rfl⟩)
    all_goals go_ret
    all_goals refine ⟨ret_int ?_, rfl⟩
    all_goals unfold wid
    all_goals repeat' split
    all_goals omega
  · have h1 : isCp r = false := by simpa using h
    have h2 : ¬ (0 ≤ r ∧ r ≤ 1114111 ∧ (r < 55296 ∨ 57343 < r)) := by simpa [isCp] using h
    have H2 : Hid (¬ (0 ≤ r ∧ r ≤ 1114111 ∧ (r < 55296 ∨ 57343 < r))) := h2
    clear h h2
    go_enter Try.func43, Try.ntmps43
    go_wp2_with (go_at_call 37; refine (is_any _ _).mono ?_; rintro e w' ⟨rfl, rfl⟩)
    all_goals go_ret
    all_goals have h2 := H2.out
    all_goals refine ⟨ret_int ?_, rfl⟩
    all_goals unfold wid
    all_goals repeat' split
    all_goals omega
end Go.Proofs.Ytchdecoceokcmaa
