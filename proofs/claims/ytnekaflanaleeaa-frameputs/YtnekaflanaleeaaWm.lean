/- The walk over the laws' lives: the document's examples. -/
import Derived.Test.YtnekaflanaleeaaWl
namespace Go.Proofs.Ytnekaflanaleeaa
open Go.RowKit
set_option linter.unusedVariables false

theorem sum_ex : sumP [49, 50, 51, 52, 53, 54, 55, 56, 57] = 3808858755 := by decide +kernel

theorem take_ex0 : takeP (frameP [65]) 0 = ([65], 7, 0) := by
  have := takeP_frame [] [65] [] (by decide)
  simpa using this

theorem take_ex7 : takeP (frameP [65]) 7 = ([], 0, 16) := takeP_end _ _ (by rw [frameP_len]; decide)

theorem head_ex : (frameP [65]).take 3 = [0, 1, 65] := by decide +kernel

theorem RB.newf (w : World) (l : List UInt8) (cs : Array Value) (t : TypeId) (fr : Nat × Nat) (h : cs.toList = bvs l) (hl : l.length ≤ 1000000) : RB (w.alloc (.cells cs t fr)) (.slice (some ⟨w.heap.size, 0, none⟩) l.length l.length) l := by
  refine ⟨_, _, rfl, Nat.le_refl _, by unfold maxLen; omega, (fun h => by cases h), fun i hi => ⟨_, _, rfl, ?_⟩⟩
  rw [Nat.zero_add, cell_of_row _ _ _ cs t fr (heap_alloc_new _ _), ← Array.getElem?_toList, h]
  simp [bvs, hi]

/-- Bytes out of a constant text are marked as such. -/
theorem conv22 (w : World) (C : Array Value) (n : Nat) : (convert 22 22 (.slice (some ⟨w.heap.size, 0, none⟩) n n)).run Try.prog (w.alloc (.cells C 5)) = .ok (.slice (some ⟨w.heap.size, 0, none⟩) n n) (w.alloc (.cells C 5 (C.size, C.size + 1))) := by
  have hsh : (w.alloc (.cells C 5)).shape? w.heap.size = some (5, C.size) := by
    have : (w.alloc (.cells C 5)).heap[w.heap.size]? = some (.cells C 5) := heap_alloc_new _ _
    unfold World.shape?
    rw [this]
  have hfr : (w.alloc (.cells C 5)).freeze ⟨w.heap.size, C.size, none⟩ 1 = w.alloc (.cells C 5 (C.size, C.size + 1)) := by
    have hm : ∀ (a : Array Obj) (x : Obj) (f : Obj → Obj), (a.push x).modify a.size f = a.push (f x) := by
      intro a x f
      apply Array.ext
      · simp
      · intro i h1 h2
        simp only [Array.getElem_modify, Array.getElem_push]
        by_cases h : a.size = i
        · subst h
          simp
        · have hi : i < a.size := by simp at h1; omega
          simp [h, hi]
    unfold World.freeze
    rw [if_neg (by decide)]
    show ({ w.alloc (.cells C 5) with heap := (w.heap.push (.cells C 5)).modify w.heap.size _ } : World) = _
    rw [hm]
    rfl
  simp [convert, run_underlying Try.underlying22, run_underlying Try.underlying5, markStringish, hsh, hfr]

theorem lput (F : List UInt8) (hF : frameP [65] = F) (w : World) (fr : Nat × Nat) : Calls Try.prog 9 #[.slice none 0 0, .slice (some ⟨w.heap.size, 0, none⟩) 1 1] (w.alloc (.cells #[.int .u8 65] 5 fr)) fun e w' => ∃ g cap, e = .returned (.tuple #[.slice (some ⟨g, 0, none⟩) 7 cap, .int .i64 0]) ∧ RB w' (.slice (some ⟨g, 0, none⟩) 7 cap) F ∧ Below w.heap.size w w' := by
  have hb1 : Below w.heap.size w (w.alloc (.cells #[.int .u8 65] 5 fr)) := (Below.refl _ _).alloc (Nat.le_refl _) _
  have h := put_any _ _ [] [65] _ (RB.nil _) (RB.newf w [65] #[.int .u8 65] 5 fr rfl (by decide)) (by decide) (by decide)
  rw [List.nil_append, hF] at h
  refine Calls.mono h ?_
  rintro e w' ⟨g, cap, h1, h2, h3⟩
  exact ⟨g, cap, h1, h2.rb.2, hb1.trans (h3.mono hb1.size)⟩

theorem ltake0 (F : List UInt8) (hF : frameP [65] = F) (v : Value) (w2 : World) (h : RB w2 v F) : Calls Try.prog 13 #[v, .int .i64 0] w2 fun e w' => ∃ u c, e = .returned (.tuple #[.slice u 1 c, .int .i64 7, .int .i64 0]) ∧ RB w' (.slice u 1 c) [65] ∧ Below w2.heap.size w2 w' := by
  have hl := frameP_len [65]
  have ht := take_ex0
  rw [hF] at hl ht
  have hl2 : F.length = 7 := hl
  have := take_any v F 0 w2 h (Nat.zero_le _) (by omega)
  rw [ht] at this
  refine Calls.mono this ?_
  rintro e w' ⟨h1, u, h2, h3⟩
  obtain ⟨a3, c3, rfl⟩ := owns_slice h3
  exact ⟨a3, c3, h2, RB.of_owns h3 rfl, h1⟩

theorem ltake7 (F : List UInt8) (hF : frameP [65] = F) (v : Value) (w2 : World) (h : RB w2 v F) : Calls Try.prog 13 #[v, .int .i64 7] w2 fun e w' => ∃ u c, e = .returned (.tuple #[.slice u 0 c, .int .i64 0, .int .i64 16]) ∧ Below w2.heap.size w2 w' := by
  have hl := frameP_len [65]
  have ht := take_ex7
  rw [hF] at hl ht
  have hl2 : F.length = 7 := hl
  have := take_any v F 7 w2 h (by omega) (by omega)
  rw [ht] at this
  refine Calls.mono this ?_
  rintro e w' ⟨h1, u, h2, h3⟩
  obtain ⟨a3, c3, rfl⟩ := owns_slice h3
  exact ⟨a3, c3, h2, h1⟩

theorem lsum (w4 : World) (fr : Nat × Nat) : Calls Try.prog 11 #[.slice (some ⟨w4.heap.size, 0, none⟩) 9 9] (w4.alloc (.cells #[.int .u8 49, .int .u8 50, .int .u8 51, .int .u8 52, .int .u8 53, .int .u8 54, .int .u8 55, .int .u8 56, .int .u8 57] 5 fr)) fun e w' => e = .returned (.int .u32 3808858755) ∧ w' = w4.alloc (.cells #[.int .u8 49, .int .u8 50, .int .u8 51, .int .u8 52, .int .u8 53, .int .u8 54, .int .u8 55, .int .u8 56, .int .u8 57] 5 fr) := by
  have h := sum_any _ [49, 50, 51, 52, 53, 54, 55, 56, 57] _ (RB.newf w4 [49, 50, 51, 52, 53, 54, 55, 56, 57] #[.int .u8 49, .int .u8 50, .int .u8 51, .int .u8 52, .int .u8 53, .int .u8 54, .int .u8 55, .int .u8 56, .int .u8 57] 5 fr rfl (by decide)) (by decide)
  rw [sum_ex] at h
  exact h
end Go.Proofs.Ytnekaflanaleeaa
