/- The walk over disk.New. -/
import Derived.Test.YtbbmbjlpccdclaaWo
namespace Go.Proofs.Ytbbmbjlpccdclaa
open Go.RowKit
set_option linter.unusedVariables false

theorem zero_size : Try.zeroCells55.size = 134 := by kernel_rfl
theorem zero_down : Try.zeroCells55[133]? = some (.bool false) := by kernel_rfl
theorem zero_cnt : Try.zeroCells55[130]? = some (.int .i64 0) := by kernel_rfl
theorem zero_file : ∀ i, i < 65 → Try.zeroCells55[i * 2]? = some (.slice none 0 0) ∧ Try.zeroCells55[i * 2 + 1]? = some (.int .i64 0)
  | 0, _ => ⟨by kernel_rfl, by kernel_rfl⟩
  | 1, _ => ⟨by kernel_rfl, by kernel_rfl⟩
  | 2, _ => ⟨by kernel_rfl, by kernel_rfl⟩
  | 3, _ => ⟨by kernel_rfl, by kernel_rfl⟩
  | 4, _ => ⟨by kernel_rfl, by kernel_rfl⟩
  | 5, _ => ⟨by kernel_rfl, by kernel_rfl⟩
  | 6, _ => ⟨by kernel_rfl, by kernel_rfl⟩
  | 7, _ => ⟨by kernel_rfl, by kernel_rfl⟩
  | 8, _ => ⟨by kernel_rfl, by kernel_rfl⟩
  | 9, _ => ⟨by kernel_rfl, by kernel_rfl⟩
  | 10, _ => ⟨by kernel_rfl, by kernel_rfl⟩
  | 11, _ => ⟨by kernel_rfl, by kernel_rfl⟩
  | 12, _ => ⟨by kernel_rfl, by kernel_rfl⟩
  | 13, _ => ⟨by kernel_rfl, by kernel_rfl⟩
  | 14, _ => ⟨by kernel_rfl, by kernel_rfl⟩
  | 15, _ => ⟨by kernel_rfl, by kernel_rfl⟩
  | 16, _ => ⟨by kernel_rfl, by kernel_rfl⟩
  | 17, _ => ⟨by kernel_rfl, by kernel_rfl⟩
  | 18, _ => ⟨by kernel_rfl, by kernel_rfl⟩
  | 19, _ => ⟨by kernel_rfl, by kernel_rfl⟩
  | 20, _ => ⟨by kernel_rfl, by kernel_rfl⟩
  | 21, _ => ⟨by kernel_rfl, by kernel_rfl⟩
  | 22, _ => ⟨by kernel_rfl, by kernel_rfl⟩
  | 23, _ => ⟨by kernel_rfl, by kernel_rfl⟩
  | 24, _ => ⟨by kernel_rfl, by kernel_rfl⟩
  | 25, _ => ⟨by kernel_rfl, by kernel_rfl⟩
  | 26, _ => ⟨by kernel_rfl, by kernel_rfl⟩
  | 27, _ => ⟨by kernel_rfl, by kernel_rfl⟩
  | 28, _ => ⟨by kernel_rfl, by kernel_rfl⟩
  | 29, _ => ⟨by kernel_rfl, by kernel_rfl⟩
  | 30, _ => ⟨by kernel_rfl, by kernel_rfl⟩
  | 31, _ => ⟨by kernel_rfl, by kernel_rfl⟩
  | 32, _ => ⟨by kernel_rfl, by kernel_rfl⟩
  | 33, _ => ⟨by kernel_rfl, by kernel_rfl⟩
  | 34, _ => ⟨by kernel_rfl, by kernel_rfl⟩
  | 35, _ => ⟨by kernel_rfl, by kernel_rfl⟩
  | 36, _ => ⟨by kernel_rfl, by kernel_rfl⟩
  | 37, _ => ⟨by kernel_rfl, by kernel_rfl⟩
  | 38, _ => ⟨by kernel_rfl, by kernel_rfl⟩
  | 39, _ => ⟨by kernel_rfl, by kernel_rfl⟩
  | 40, _ => ⟨by kernel_rfl, by kernel_rfl⟩
  | 41, _ => ⟨by kernel_rfl, by kernel_rfl⟩
  | 42, _ => ⟨by kernel_rfl, by kernel_rfl⟩
  | 43, _ => ⟨by kernel_rfl, by kernel_rfl⟩
  | 44, _ => ⟨by kernel_rfl, by kernel_rfl⟩
  | 45, _ => ⟨by kernel_rfl, by kernel_rfl⟩
  | 46, _ => ⟨by kernel_rfl, by kernel_rfl⟩
  | 47, _ => ⟨by kernel_rfl, by kernel_rfl⟩
  | 48, _ => ⟨by kernel_rfl, by kernel_rfl⟩
  | 49, _ => ⟨by kernel_rfl, by kernel_rfl⟩
  | 50, _ => ⟨by kernel_rfl, by kernel_rfl⟩
  | 51, _ => ⟨by kernel_rfl, by kernel_rfl⟩
  | 52, _ => ⟨by kernel_rfl, by kernel_rfl⟩
  | 53, _ => ⟨by kernel_rfl, by kernel_rfl⟩
  | 54, _ => ⟨by kernel_rfl, by kernel_rfl⟩
  | 55, _ => ⟨by kernel_rfl, by kernel_rfl⟩
  | 56, _ => ⟨by kernel_rfl, by kernel_rfl⟩
  | 57, _ => ⟨by kernel_rfl, by kernel_rfl⟩
  | 58, _ => ⟨by kernel_rfl, by kernel_rfl⟩
  | 59, _ => ⟨by kernel_rfl, by kernel_rfl⟩
  | 60, _ => ⟨by kernel_rfl, by kernel_rfl⟩
  | 61, _ => ⟨by kernel_rfl, by kernel_rfl⟩
  | 62, _ => ⟨by kernel_rfl, by kernel_rfl⟩
  | 63, _ => ⟨by kernel_rfl, by kernel_rfl⟩
  | 64, _ => ⟨by kernel_rfl, by kernel_rfl⟩
  | n + 65, h => absurd h (by omega)

set_option maxRecDepth 1000000 in
set_option maxHeartbeats 1000000 in
theorem new_no (files room : Int) (w : World) (h : ¬ (1 ≤ files ∧ files ≤ 65 ∧ 0 ≤ room ∧ room ≤ 1048576)) :
    Calls Try.prog 10 #[.int .i64 files, .int .i64 room] w fun e w' => e = .returned (.tuple #[.pointer none, .int .i64 2]) ∧ w' = w := by
  by_cases h1 : files < 1
  · go_enter Try.func10, Try.ntmps10
    go_wp2
    go_ret2
    exact ⟨rfl, rfl⟩
  · by_cases h2 : 65 < files
    · go_enter Try.func10, Try.ntmps10
      go_wp2
      go_ret2
      exact ⟨rfl, rfl⟩
    · by_cases h3 : room < 0
      · go_enter Try.func10, Try.ntmps10
        go_wp2
        go_ret2
        exact ⟨rfl, rfl⟩
      · have h4 : 1048576 < room := by omega
        go_enter Try.func10, Try.ntmps10
        go_wp2
        go_ret2
        exact ⟨rfl, rfl⟩

theorem new_disk (files room : Nat) (w : World) : DK (fun k => k = w.heap.size) (w.alloc (.cells (((Try.zeroCells55.setIfInBounds 130 (.int .i64 files)).setIfInBounds 131 (.int .i64 room)).setIfInBounds 132 (.int .i64 (-1))) 55)) w.heap.size (newP files room) := by
  have hz := zero_size
  obtain ⟨cs, hcs⟩ : ∃ cs, cs = ((Try.zeroCells55.setIfInBounds 130 (.int .i64 files)).setIfInBounds 131 (.int .i64 room)).setIfInBounds 132 (.int .i64 (-1)) := ⟨_, rfl⟩
  rw [← hcs]
  have hsz : cs.size = 134 := by rw [hcs]; simp [hz]
  have hrow : (w.alloc (.cells cs 55)).heap[w.heap.size]? = some (.cells cs 55 (0, 0)) := heap_alloc_new _ _
  have hcell : ∀ o, (w.alloc (.cells cs 55)).cell? ⟨w.heap.size, o, none⟩ = cs[o]? := fun o => cell_of_row _ _ _ cs 55 (0, 0) hrow
  have hget : ∀ o, o ≠ 130 → o ≠ 131 → o ≠ 132 → cs[o]? = Try.zeroCells55[o]? := fun o h1 h2 h3 => by
    rw [hcs, Array.getElem?_setIfInBounds_ne (by omega), Array.getElem?_setIfInBounds_ne (by omega), Array.getElem?_setIfInBounds_ne (by omega)]
  refine ⟨fun _ => .slice none 0 0, ⟨cs, hrow, hsz⟩, rfl, fun k hk => by rw [hk]; simp, ?_, ?_, ?_, ?_, fun i hi => ?_, fun i g hi hg => by simp [Value.ownBlock] at hg, fun i j g hi hj _ hg => by simp [Value.ownBlock] at hg⟩
  · rw [hcell, hcs]
    simp [hz, newP]
  · rw [hcell, hcs]
    simp [hz, newP]
  · rw [hcell, hcs]
    simp [hz, newP]
  · rw [hcell, hget _ (by omega) (by omega) (by omega)]
    exact zero_down
  · obtain ⟨z1, z2⟩ := zero_file i hi
    refine ⟨?_, ?_, World.ownsRow_nil _ _ _ _⟩
    · rw [hcell, hget _ (by omega) (by omega) (by omega)]
      exact z1
    · rw [hcell, hget _ (by omega) (by omega) (by omega)]
      exact z2

set_option maxRecDepth 1000000 in
set_option maxHeartbeats 4000000 in
theorem new_yes (files room : Nat) (w : World) (h1 : 1 ≤ files) (h2 : files ≤ 65) (h3 : room ≤ 1048576) :
    Calls Try.prog 10 #[.int .i64 files, .int .i64 room] w fun e w' => e = .returned (.tuple #[.pointer (some ⟨w.heap.size, 0, none⟩), .int .i64 0]) ∧ DK (fun k => k = w.heap.size) w' w.heap.size (newP files room) ∧ Below w.heap.size w w' := by
  have HD : Hid (DK (fun k => k = w.heap.size) (w.alloc (.cells (((Try.zeroCells55.setIfInBounds 130 (.int .i64 files)).setIfInBounds 131 (.int .i64 room)).setIfInBounds 132 (.int .i64 (-1))) 55)) w.heap.size (newP files room)) := new_disk files room w
  go_enter Try.func10, Try.ntmps10
  go_wp2
  go_ret2
  exact ⟨rfl, HD.out, (Below.refl _ _).alloc (Nat.le_refl _) _⟩
end Go.Proofs.Ytbbmbjlpccdclaa
