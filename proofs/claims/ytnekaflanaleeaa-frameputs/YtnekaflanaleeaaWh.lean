/- The walk over the document's Take. -/
import Derived.Test.YtnekaflanaleeaaWg
import Derived.Test.YtnekaflanaleeaaMc
namespace Go.Proofs.Ytnekaflanaleeaa
open Go.RowKit
set_option linter.unusedVariables false

theorem bext (l : List UInt8) (i j : Nat) : (⟨l.toArray⟩ : ByteArray).extract i j = ⟨((l.take j).drop i).toArray⟩ := by
  apply ByteArray.ext
  simp [ByteArray.data_extract, List.extract_toArray, List.extract_eq_take_drop, List.drop_take]

theorem str_from (l : List UInt8) (p : Nat) (hp : p ≤ l.length) (wx : World) : (Instr.sliceAt 9 (.string ⟨l.toArray⟩) (some (.int .i64 p)) none none).run Try.prog wx = .ok (.string ⟨(l.drop p).toArray⟩) wx := by
  rw [run_sliceAt_string wx 9 _ _ _ _ Try.underlying9, run_slice_string_l wx 9 _ Try.underlying9 .i64 p (by omega) (by rw [bsize]; omega), bext, bsize, List.take_length, Int.toNat_natCast]

theorem str_to (l : List UInt8) (p : Nat) (e : Int) (he : e = p) (hp : p ≤ l.length) (wx : World) : (Instr.sliceAt 9 (.string ⟨l.toArray⟩) none (some (.int .i64 e)) none).run Try.prog wx = .ok (.string ⟨(l.take p).toArray⟩) wx := by
  subst he
  rw [run_sliceAt_string wx 9 _ _ _ _ Try.underlying9, run_slice_string_h wx 9 _ Try.underlying9 .i64 p (by omega) (by rw [bsize]; omega), bext, List.drop_zero, Int.toNat_natCast]

theorem str_mid (l : List UInt8) (i p : Nat) (e0 e : Int) (he0 : e0 = i) (he : e = p) (hi : i ≤ p) (hp : p ≤ l.length) (wx : World) : (Instr.sliceAt 9 (.string ⟨l.toArray⟩) (some (.int .i64 e0)) (some (.int .i64 e)) none).run Try.prog wx = .ok (.string ⟨((l.take p).drop i).toArray⟩) wx := by
  subst he he0
  rw [run_sliceAt_string wx 9 _ _ _ _ Try.underlying9, run_slice_string wx 9 _ .i64 .i64 i p Try.underlying9 (by omega) (by omega) (by rw [bsize]; omega), bext, Int.toNat_natCast, Int.toNat_natCast]

theorem str_at (l : List UInt8) (i : Nat) (e : Int) (he : e = i) (hi : i < l.length) (wx : World) : (Instr.index 9 (.string ⟨l.toArray⟩) (.int .i64 e)).run Try.prog wx = .ok (.int .u8 ((l.getD i 0).toNat : Nat)) wx := by
  subst he
  rw [run_index_string wx 9 _ .i64 i Try.underlying9, dif_pos ⟨by omega, by rw [bsize]; omega⟩]
  congr 3
  show ((l.toArray)[(i : Int).toNat]'_).toNat = _
  simp [hi]

set_option maxRecDepth 1000000 in
set_option maxHeartbeats 1000000 in
theorem rtake_out (l : List UInt8) (p : Int) (w : World) (hp : p < 0 ∨ (l.length : Int) < p) (hl : l.length ≤ 100000) :
    Calls Try.prog 14 #[.string ⟨l.toArray⟩, .int .i64 p] w fun e w' => e = .returned (.tuple #[.string ⟨#[]⟩, .int .i64 0, .int .i64 2]) ∧ w' = w := by
  have hsz := bsize l
  by_cases h0 : p < 0
  · go_enter Try.func14, Try.ntmps14
    go_wp2_with fail
    go_ret3
    exact ⟨rfl, rfl⟩
  · have h1 : (l.length : Int) < p := by omega
    go_enter Try.func14, Try.ntmps14
    go_wp2_with fail
    go_ret3
    exact ⟨rfl, rfl⟩

set_option maxRecDepth 1000000 in
set_option maxHeartbeats 1000000 in
theorem rtake_few (l : List UInt8) (p : Nat) (w : World) (hp : p ≤ l.length) (hl : l.length ≤ 100000) (he : (l.drop p).length < 2) :
    Calls Try.prog 14 #[.string ⟨l.toArray⟩, .int .i64 p] w fun e w' => e = .returned (.tuple #[.string ⟨#[]⟩, .int .i64 0, .int .i64 ((measureP (l.drop p)).2 : Nat)]) ∧ w' = w := by
  have hS := str_from l p hp
  have HM : Hid ((measureP (l.drop p)).2 = if (l.drop p).length = 0 then 16 else 3) := by
    show _ = _
    unfold measureP
    by_cases h0 : (l.drop p).length = 0
    · rw [if_pos h0, if_pos h0]
    · rw [if_neg h0, if_neg h0, if_pos he]
  generalize (measureP (l.drop p)).2 = er at *
  generalize l.drop p = d at *
  by_cases h0 : d.length = 0
  · rw [if_pos h0] at HM
    rw [HM.out]
    go_enter Try.func14, Try.ntmps14
    go_wp2_with fail
    go_ret3
    exact ⟨rfl, rfl⟩
  · rw [if_neg h0] at HM
    rw [HM.out]
    go_enter Try.func14, Try.ntmps14
    go_wp2_with fail
    go_ret3
    exact ⟨rfl, rfl⟩

theorem measure_two (d : List UInt8) (h : 2 ≤ d.length) : measureP d = if 1024 < num2 d then (0, 5) else if d.length < num2 d + 6 then (0, 3) else (num2 d + 6, 0) := by
  unfold measureP
  rw [if_neg (by omega), if_neg (by omega)]

set_option maxRecDepth 1000000 in
set_option maxHeartbeats 1000000 in
theorem rtake_err (l : List UInt8) (p : Nat) (w : World) (hp : p ≤ l.length) (hl : l.length ≤ 100000) (h2 : 2 ≤ (l.drop p).length) (he : ¬ (measureP (l.drop p)).2 = 0) :
    Calls Try.prog 14 #[.string ⟨l.toArray⟩, .int .i64 p] w fun e w' => e = .returned (.tuple #[.string ⟨#[]⟩, .int .i64 0, .int .i64 ((measureP (l.drop p)).2 : Nat)]) ∧ Below w.heap.size w w' := by
  have hS := str_from l p hp
  have hdl : (l.drop p).length ≤ 100000 := by rw [List.length_drop]; omega
  have HM := measure_two (l.drop p) h2
  generalize l.drop p = d at *
  have hI0 := str_at d 0 0 rfl (by omega)
  have hI1 := str_at d 1 1 rfl (by omega)
  have hn : num2 d = 256 * (d.getD 0 0).toNat + (d.getD 1 0).toNat := rfl
  have hy0 := byte_lt (d.getD 0 0)
  have hy1 := byte_lt (d.getD 1 0)
  rw [HM] at he ⊢
  clear HM
  generalize num2 d = q at *
  generalize (d.getD 0 0).toNat = y0 at *
  generalize (d.getD 1 0).toNat = y1 at *
  by_cases h3 : 1024 < q
  · rw [if_pos h3]
    have h3' : 1024 < 256 * (y0 : Int) + (y1 : Int) := by omega
    clear he hn h3
    go_enter Try.func14, Try.ntmps14
    go_wp2_with fail
    go_quiet (fail)
    go_wp2_with fail
    go_ret3
    exact ⟨rfl, below_drewN (Below.refl _ _) _⟩
  · rw [if_neg h3] at he ⊢
    by_cases h4 : d.length < q + 6
    · rw [if_pos h4]
      have h3' : 256 * (y0 : Int) + (y1 : Int) ≤ 1024 := by omega
      have h4' : (d.length : Int) < 256 * (y0 : Int) + (y1 : Int) + 6 := by omega
      clear he hn h3 h4
      go_enter Try.func14, Try.ntmps14
      go_wp2_with fail
      go_quiet (fail)
      go_wp2_with fail
      go_ret3
      exact ⟨rfl, below_drewN (Below.refl _ _) _⟩
    · rw [if_neg h4] at he
      exact absurd rfl he
end Go.Proofs.Ytnekaflanaleeaa
