/- A walk over the document's Class: what it answers of any number. -/
import Derived.Test.YtchdecoceokcmaaWC
namespace Go.Proofs.Ytchdecoceokcmaa
open Go.RowKit

set_option maxHeartbeats 1600000 in
theorem rclass_any (r : Int) (w : World) :
    Calls Try.prog 24 #[.int .i64 r] w fun e w' => e = .returned (.int .i64 (cls r)) ∧ w' = w := by
  by_cases h : isCp r = true
  · have H : Hid (isCp r = true) := h
    have h2 : 0 ≤ r ∧ r ≤ 1114111 ∧ (r < 55296 ∨ 57343 < r) := by simpa [isCp] using h
    obtain ⟨h3, h4, _⟩ := h2
    go_enter Try.func24, Try.ntmps24
    go_wp2_with (go_at_call 37; refine (is_any _ _).mono ?_; rintro e w' ⟨rfl, rfl⟩)
    all_goals go_ret
    all_goals refine ⟨ret_int ?_, rfl⟩
    all_goals unfold cls
    all_goals simp only [H.out]
    all_goals (repeat' split)
    all_goals first | rfl | omega | (simp_all; done) | (simp_all; omega)
  · have h1 : isCp r = false := by simpa using h
    have H : Hid (isCp r = false) := h1
    clear h
    go_enter Try.func24, Try.ntmps24
    go_wp2_with (go_at_call 37; refine (is_any _ _).mono ?_; rintro e w' ⟨rfl, rfl⟩)
    all_goals go_ret
    all_goals refine ⟨ret_int ?_, rfl⟩
    all_goals simp [cls, H.out]
end Go.Proofs.Ytchdecoceokcmaa
