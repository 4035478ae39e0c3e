/- Texts of the seat, packed: DQe. -/
import Derived.Test.YtlegmmhacnbnlaaGreatDoorP09
/- The program's weave, walked. -/
namespace Go.Proofs.YtlegmmhacnbnlaaGreatDoor.Dg

open Go.RowKit

/-- The three boxes of weave's results. -/
structure Box3 (w wc : World) (c4 c5 c6 : Value) : Prop where
  h4 : wc.heap[w.heap.size]? = some (.cells #[c4] 98 (0, 0))
  h5 : wc.heap[w.heap.size + 1]? = some (.cells #[c5] 32 (0, 0))
  h6 : wc.heap[w.heap.size + 1 + 1]? = some (.cells #[c6] 28 (0, 0))
  bel : Below w.heap.size w wc
  sz : w.heap.size + 3 ≤ wc.heap.size

/-- Three stores. -/
def put3 (w : World) (b : Nat) (v4 v5 v6 : Value) : World := ((w.setCell ⟨b, 0, none⟩ v4).setCell ⟨b + 1, 0, none⟩ v5).setCell ⟨b + 1 + 1, 0, none⟩ v6

theorem Box3.put {w wc : World} {c4 c5 c6 : Value} (h : Box3 w wc c4 c5 c6) (v4 v5 v6 : Value) : Box3 w (put3 wc w.heap.size v4 v5 v6) v4 v5 v6 := by
  refine ⟨?_, ?_, ?_, ?_, by simpa [put3] using h.sz⟩
  · exact row_other (row_other (row_set h.h4 0 v4) v5 (by omega)) v6 (by omega)
  · exact row_other (row_set (row_other h.h5 v4 (by omega)) 0 v5) v6 (by omega)
  · exact row_set (row_other (row_other h.h6 v4 (by omega)) v5 (by omega)) 0 v6
  · exact ((h.bel.setCell (p := ⟨w.heap.size, 0, none⟩) (Nat.le_refl _) _).setCell (p := ⟨w.heap.size + 1, 0, none⟩) (by show w.heap.size ≤ w.heap.size + 1; omega) _).setCell (p := ⟨w.heap.size + 1 + 1, 0, none⟩) (by show w.heap.size ≤ w.heap.size + 1 + 1; omega) _

theorem Box3.next {w wc wd : World} {c4 c5 c6 : Value} (h : Box3 w wc c4 c5 c6) (hb : Below wc.heap.size wc wd) : Box3 w wd c4 c5 c6 := by
  have hs := h.sz
  exact ⟨(hb.block _ (by omega)).trans h.h4, (hb.block _ (by omega)).trans h.h5, (hb.block _ (by omega)).trans h.h6, h.bel.trans (hb.mono (by omega)), by have := hb.size; omega⟩

theorem box_new (w : World) (c : Value) : Box3 w (((w.alloc (.cells #[.slice none 0 0] 98)).alloc (.cells #[.slice none 0 0] 32)).alloc (.cells #[c] 28)) (.slice none 0 0) (.slice none 0 0) c := by
  refine ⟨row_alloc (row_alloc (row_new w _ 98) _) _, ?_, ?_, (((Below.refl _ w).alloc (Nat.le_refl _) _).alloc (by simp) _).alloc (by simp; omega) _, by simp⟩
  · have := row_alloc (row_new (w.alloc (.cells #[.slice none 0 0] 98)) #[.slice none 0 0] 32) (.cells #[c] 28)
    rwa [World.size_alloc] at this
  · have := row_new ((w.alloc (.cells #[.slice none 0 0] 98)).alloc (.cells #[.slice none 0 0] 32)) #[c] 28
    rwa [World.size_alloc, World.size_alloc] at this

set_option maxRecDepth 1000000 in
/-- A return of weave's, with nothing deferred. -/
theorem box_ret {a : Act} {w wc : World} {R : Ending → World → Prop} {c4 c5 c6 : Value} (h : Box3 w wc c4 c5 c6) (h4 : a.tmps.getD 4 undef = .pointer (some ⟨w.heap.size, 0, none⟩)) (h5 : a.tmps.getD 5 undef = .pointer (some ⟨w.heap.size + 1, 0, none⟩)) (h6 : a.tmps.getD 6 undef = .pointer (some ⟨w.heap.size + 1 + 1, 0, none⟩)) (hd : a.defers = [])
    (hR : R (.returned (.tuple #[c4, c5, c6])) wc) : bodyPostD Tryz.prog Tryz.f45 R Exit.ret a wc := by
  have q4 := (cell_row h.h4 0).trans rfl
  have q5 := (cell_row h.h5 0).trans rfl
  have q6 := (cell_row h.h6 0).trans rfl
  have h4' : a.tmps[4]?.getD undef = .pointer (some ⟨w.heap.size, 0, none⟩) := by simpa using h4
  have h5' : a.tmps[5]?.getD undef = .pointer (some ⟨w.heap.size + 1, 0, none⟩) := by simpa using h5
  have h6' : a.tmps[6]?.getD undef = .pointer (some ⟨w.heap.size + 1 + 1, 0, none⟩) := by simpa using h6
  simp [bodyPostD, hd, Leaves, results, Tryz.results45, go_sem, q4, q5, q6, h4', h5', h6']
  exact hR

set_option maxRecDepth 1000000 in
set_option maxHeartbeats 2000000 in
theorem weave_early (n : Int) (v : Value) (l : List (Int × Int)) (w : World) (hl : RdA w v l) (h : n < 0 ∨ 64 < n ∨ 4096 < l.length) :
    Calls Tryz.prog 45 #[.int .i64 n, v] w fun e w' => WvC n l w e w' := by
  obtain ⟨a, cap, rfl, hc, _, _⟩ := hl
  have hP : weaveP n l = .bad 2 := by
    unfold weaveP
    rw [if_pos]
    rcases h with h | h | h
    · exact .inl h
    · exact .inr (.inl h)
    · exact .inr (.inr (.inl h))
  have HF : Hid (∀ wc, Below w.heap.size w wc → WvC n l w (.returned (.tuple #[.slice none 0 0, .slice none 0 0, .int .i64 2])) wc) := fun wc hb => ⟨hb, by rw [hP]⟩
  have HB : Hid _ := box_new w (.int .i64 2)
  clear hP
  by_cases h1 : n < 0
  · go_enter_defers Tryz.func45, Tryz.ntmps45
    go_wp2_with fail
    exact box_ret HB.out rfl rfl rfl rfl (HF.out _ HB.out.bel)
  · have h1d : decide (n < 0) = false := by simpa using h1
    by_cases h2 : 64 < n
    · go_enter_defers Tryz.func45, Tryz.ntmps45
      go_wp2_with fail
      exact box_ret HB.out rfl rfl rfl rfl (HF.out _ HB.out.bel)
    · have h2d : decide (64 < n) = false := by simpa using h2
      have h3 : (4096 : Int) < (l.length : Int) := by omega
      go_enter_defers Tryz.func45, Tryz.ntmps45
      go_wp2_with fail
      exact box_ret HB.out rfl rfl rfl rfl (HF.out _ HB.out.bel)

end Go.Proofs.YtlegmmhacnbnlaaGreatDoor.Dg

