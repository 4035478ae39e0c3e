/- Walks over glyph.Class and the document's Class: what each answers of any number. -/
import Derived.Test.YtchdecoceokcmaaWA
namespace Go.Proofs.Ytchdecoceokcmaa
open Go.RowKit

/-- The class of a number: 0 Other, 1 Letter, 2 Digit, 3 Blank, 4 Mark. -/
def cls (r : Int) : Int :=
  if isCp r = false then 0 else if 128 ≤ r ∨ (97 ≤ r ∧ r ≤ 122) ∨ (65 ≤ r ∧ r ≤ 90) ∨ r = 95 then 1 else if 48 ≤ r ∧ r ≤ 57 then 2
  else if r = 9 ∨ r = 10 ∨ r = 13 ∨ r = 32 then 3 else if 32 < r ∧ r < 127 then 4 else 0

theorem wid_zero (r : Int) : (wid r == 0) = !isCp r := by
  unfold wid isCp
  rw [Bool.eq_iff_iff]
  simp
  repeat' split
  all_goals omega

set_option maxHeartbeats 1600000 in
theorem gclass_any (r : Int) (w : World) :
    Calls Try.prog 31 #[.int .i64 r] w fun e w' => e = .returned (.int .i64 (cls r)) ∧ w' = (w.alloc (.cells #[.int .i64 r] 3)).alloc (.cells #[.int .i64 r] 3) := by
  by_cases h : isCp r = true
  · have hz : (wid r == 0) = false := by rw [wid_zero, h]; rfl
    have H : Hid (isCp r = true) := h
    have h2 : 0 ≤ r ∧ r ≤ 1114111 ∧ (r < 55296 ∨ 57343 < r) := by simpa [isCp] using h
    obtain ⟨h3, h4, _⟩ := h2
    clear h
    go_enter Try.func31, Try.ntmps31
    go_wp2_with (first | (go_at_call 34; refine (gwidth_any _ _).mono ?_; rintro e w' ⟨rfl, rfl⟩) | go_in)
    all_goals go_ret
    all_goals refine ⟨ret_int ?_, rfl⟩
    all_goals unfold cls
    all_goals simp only [H.out]
    all_goals (repeat' split)
    all_goals first | rfl | omega | (simp_all; done) | (simp_all; omega)
  · have h1 : isCp r = false := by simpa using h
    have hz : (wid r == 0) = true := by rw [wid_zero, h1]; rfl
    have H : Hid (isCp r = false) := h1
    clear h h1
    go_enter Try.func31, Try.ntmps31
    go_wp2_with (first | (go_at_call 34; refine (gwidth_any _ _).mono ?_; rintro e w' ⟨rfl, rfl⟩) | go_in)
    all_goals go_ret
    all_goals refine ⟨ret_int ?_, rfl⟩
    all_goals simp [cls, H.out]
end Go.Proofs.Ytchdecoceokcmaa
