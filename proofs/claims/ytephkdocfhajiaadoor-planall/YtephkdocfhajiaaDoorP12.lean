/- Texts of the seat, packed: DQd DQe. -/
import Derived.Test.YtephkdocfhajiaaDoorP11
import Derived.Defers
/- The program's weave. -/
namespace Go.Proofs.YtephkdocfhajiaaDoor.Dg
open Go.RowKit

/-- Arcs as they lie in a slice. -/
def RdA (w : World) (v : Value) (l : List (Int × Int)) : Prop := ∃ a cap, v = .slice a l.length cap ∧ l.length ≤ cap ∧ (∀ p ∈ l, (-9223372036854775808 ≤ p.1 ∧ p.1 ≤ 9223372036854775807) ∧ -9223372036854775808 ≤ p.2 ∧ p.2 ≤ 9223372036854775807) ∧
  ∀ (i : Nat) (p : Int × Int), l[i]? = some p → ∃ b off, a = some ⟨b, off, none⟩ ∧ w.cell? ⟨b, off + i * 2, none⟩ = some (.int .i64 p.1) ∧ w.cell? ⟨b, off + i * 2 + 1, none⟩ = some (.int .i64 p.2)

theorem RdA.later {w w' : World} {v : Value} {l : List (Int × Int)} (h : RdA w v l) (hb : Below w.heap.size w w') : RdA w' v l := by
  obtain ⟨a, cap, hv, hc, hl, hr⟩ := h
  refine ⟨a, cap, hv, hc, hl, fun i x hi => ?_⟩
  obtain ⟨b, off, ha, c0, c1⟩ := hr i x hi
  exact ⟨b, off, ha, cell_later hb c0, cell_later hb c1⟩

/-- Are both ends nodes? -/
def endsOk (n : Nat) (p : Int × Int) : Bool := decide ((0 ≤ p.1 ∧ p.1 < n) ∧ 0 ≤ p.2 ∧ p.2 < n)

/-- One arc more. -/
def putArc (W : List Nat) (p : Int × Int) : List Nat := W.set p.2.toNat (W.getD p.2.toNat 0 ||| 2 ^ p.1.toNat)

/-- What leans on what. -/
def webOf (n : Nat) (l : List (Int × Int)) : List Nat := l.foldl putArc (List.replicate n 0)

inductive Wv where
  | bad : Int → Wv
  | ok : List Nat → List Nat → Wv

def weaveP (n : Int) (l : List (Int × Int)) : Wv := if n < 0 ∨ 64 < n ∨ 4096 < l.length ∨ l.all (endsOk n.toNat) = false then .bad 2 else match ordW (webOf n.toNat l) with
  | none => .bad 13
  | some o => .ok (webOf n.toNat l) o

def uvs (W : List Nat) : List Value := W.map fun (x : Nat) => .int .u64 (x : Int)

/-- How weave ends. -/
def WvC (n : Int) (l : List (Int × Int)) (w : World) (e : Ending) (w' : World) : Prop := Below w.heap.size w w' ∧ match weaveP n l with
  | .bad c => e = .returned (.tuple #[.slice none 0 0, .slice none 0 0, .int .i64 c])
  | .ok W o => ∃ v1 v2, e = .returned (.tuple #[v1, v2, .int .i64 0]) ∧ RdU w' v1 W ∧ RdI w' v2 o ∧ W.length = n.toNat ∧ o.length = n.toNat

theorem Tryd.info89 : (Tryd.prog.info? 89).map (fun i => (i.zero, i.size, i.bytes)) = some (some (.int .u64 0), 1, 8) := by kernel_rfl

set_option maxRecDepth 1000000 in
theorem catch_cycle (b4 b5 b6 : Nat) (c4 c5 c6 : Value) (t4 t5 t6 : TypeId) (older : List PanicEntry) (w : World) (h4 : w.heap[b4]? = some (.cells #[c4] t4 (0, 0))) (h5 : w.heap[b5]? = some (.cells #[c5] t5 (0, 0))) (h6 : w.heap[b6]? = some (.cells #[c6] t6 (0, 0))) (h45 : b4 ≠ b5) (h46 : b4 ≠ b6) (h56 : b5 ≠ b6) :
    CallsD Tryd.prog 69 #[.pointer (some ⟨b4, 0, none⟩), .pointer (some ⟨b5, 0, none⟩), .pointer (some ⟨b6, 0, none⟩)] (.panicking ({ v := .iface 31 (.int .i64 13), recovered := false } :: older)) w fun e u' w' =>
      e = .returned (.tuple #[]) ∧ u' = .panicking ({ v := .iface 31 (.int .i64 13), recovered := true } :: older) ∧ w' = (((w.setCell ⟨b4, 0, none⟩ (.slice none 0 0)).setCell ⟨b5, 0, none⟩ (.slice none 0 0)).setCell ⟨b6, 0, none⟩ (.int .i64 13)).drew := by
  have g4 := (cell_row h4 0).trans rfl
  have f4 := froz_row h4 0
  have g5 := (cell_row h5 0).trans rfl
  have f5 := froz_row h5 0
  have g6 := (cell_row h6 0).trans rfl
  have f6 := froz_row h6 0
  refine callsD_of_wpS Tryd.func69 rfl fun c₀ cs hu => ?_
  apply wpS_seq
  apply wpS_region
  simp [wpOpsS, go_sem, recoverD, hu, Tryd.ntmps69, Exit.thenS]
  refine wpS_of_wp ?_
  simp only [Array.replicate_succ, Array.replicate_zero, List.push_toArray, List.append_toArray, List.nil_append, List.cons_append, List.setIfInBounds_toArray, List.set_cons_zero, List.set_cons_succ]
  have hta : ∀ (v : Value) (w : World), (Instr.typeAssert (.iface 31 v) 20 31 false).run Tryd.prog w = .ok v w := fun v w => by simp [Instr.typeAssert, run_underlying Tryd.underlying31, go_sem, Result.andThen]
  have n1 : b5 ≠ b4 := fun h => h45 h.symm
  have n2 : b6 ≠ b4 := fun h => h46 h.symm
  have n3 : b6 ≠ b5 := fun h => h56 h.symm
  go_wp2_with fail
  go_region
  show bodyPostS Tryd.prog Tryd.f69 _ _ _ Exit.normal _ _ _
  simp [bodyPostS, results, Tryd.results69]

set_option maxRecDepth 1000000 in
theorem catch_idle (b4 b5 b6 : Nat) (w : World) :
    CallsD Tryd.prog 69 #[.pointer (some ⟨b4, 0, none⟩), .pointer (some ⟨b5, 0, none⟩), .pointer (some ⟨b6, 0, none⟩)] .returning w fun e u' w' => e = .returned (.tuple #[]) ∧ u' = .returning ∧ w' = w := by
  refine callsD_of_wpS Tryd.func69 rfl fun c₀ cs hu => ?_
  apply wpS_seq
  apply wpS_region
  simp [wpOpsS, go_sem, recoverD, hu, Tryd.ntmps69, Exit.thenS]
  refine wpS_of_wp ?_
  simp only [Array.replicate_succ, Array.replicate_zero, List.push_toArray, List.append_toArray, List.nil_append, List.cons_append, List.setIfInBounds_toArray, List.set_cons_zero, List.set_cons_succ]
  go_wp2_with fail
  cases c₀
  simp_all [bodyPostS, results, Tryd.results69]
end Go.Proofs.YtephkdocfhajiaaDoor.Dg

/- The program's weave, walked. -/
namespace Go.Proofs.YtephkdocfhajiaaDoor.Dg
open Go.RowKit

/-- The three boxes of weave's results. -/
structure Box3 (w wc : World) (c4 c5 c6 : Value) : Prop where
  h4 : wc.heap[w.heap.size]? = some (.cells #[c4] 84 (0, 0))
  h5 : wc.heap[w.heap.size + 1]? = some (.cells #[c5] 41 (0, 0))
  h6 : wc.heap[w.heap.size + 1 + 1]? = some (.cells #[c6] 31 (0, 0))
  bel : Below w.heap.size w wc
  sz : w.heap.size + 3 ≤ wc.heap.size

/-- Three stores. -/
def put3 (w : World) (b : Nat) (v4 v5 v6 : Value) : World := ((w.setCell ⟨b, 0, none⟩ v4).setCell ⟨b + 1, 0, none⟩ v5).setCell ⟨b + 1 + 1, 0, none⟩ v6

theorem Box3.put {w wc : World} {c4 c5 c6 : Value} (h : Box3 w wc c4 c5 c6) (v4 v5 v6 : Value) : Box3 w (put3 wc w.heap.size v4 v5 v6) v4 v5 v6 := by
  refine ⟨?_, ?_, ?_, ?_, by simpa [put3] using h.sz⟩
  · exact row_other (row_other (row_set h.h4 0 v4) v5 (by omega)) v6 (by omega)
  · exact row_other (row_set (row_other h.h5 v4 (by omega)) 0 v5) v6 (by omega)
  · exact row_set (row_other (row_other h.h6 v4 (by omega)) v5 (by omega)) 0 v6
  · exact ((h.bel.setCell (p := ⟨w.heap.size, 0, none⟩) (Nat.le_refl _) _).setCell (p := ⟨w.heap.size + 1, 0, none⟩) (by show w.heap.size ≤ w.heap.size + 1; omega) _).setCell (p := ⟨w.heap.size + 1 + 1, 0, none⟩) (by show w.heap.size ≤ w.heap.size + 1 + 1; omega) _

theorem Box3.next {w wc wd : World} {c4 c5 c6 : Value} (h : Box3 w wc c4 c5 c6) (hb : Below wc.heap.size wc wd) : Box3 w wd c4 c5 c6 := by
  have hs := h.sz
  exact ⟨(hb.block _ (by omega)).trans h.h4, (hb.block _ (by omega)).trans h.h5, (hb.block _ (by omega)).trans h.h6, h.bel.trans (hb.mono (by omega)), by have := hb.size; omega⟩

theorem box_new (w : World) (c : Value) : Box3 w (((w.alloc (.cells #[.slice none 0 0] 84)).alloc (.cells #[.slice none 0 0] 41)).alloc (.cells #[c] 31)) (.slice none 0 0) (.slice none 0 0) c := by
  refine ⟨row_alloc (row_alloc (row_new w _ 84) _) _, ?_, ?_, (((Below.refl _ w).alloc (Nat.le_refl _) _).alloc (by simp) _).alloc (by simp; omega) _, by simp⟩
  · have := row_alloc (row_new (w.alloc (.cells #[.slice none 0 0] 84)) #[.slice none 0 0] 41) (.cells #[c] 31)
    rwa [World.size_alloc] at this
  · have := row_new ((w.alloc (.cells #[.slice none 0 0] 84)).alloc (.cells #[.slice none 0 0] 41)) #[c] 31
    rwa [World.size_alloc, World.size_alloc] at this

set_option maxRecDepth 1000000 in
/-- A return of weave's, with nothing deferred. -/
theorem box_ret {a : Act} {w wc : World} {R : Ending → World → Prop} {c4 c5 c6 : Value} (h : Box3 w wc c4 c5 c6) (h4 : a.tmps.getD 4 undef = .pointer (some ⟨w.heap.size, 0, none⟩)) (h5 : a.tmps.getD 5 undef = .pointer (some ⟨w.heap.size + 1, 0, none⟩)) (h6 : a.tmps.getD 6 undef = .pointer (some ⟨w.heap.size + 1 + 1, 0, none⟩)) (hd : a.defers = [])
    (hR : R (.returned (.tuple #[c4, c5, c6])) wc) : bodyPostD Tryd.prog Tryd.f41 R Exit.ret a wc := by
  have q4 := (cell_row h.h4 0).trans rfl
  have q5 := (cell_row h.h5 0).trans rfl
  have q6 := (cell_row h.h6 0).trans rfl
  have h4' : a.tmps[4]?.getD undef = .pointer (some ⟨w.heap.size, 0, none⟩) := by simpa using h4
  have h5' : a.tmps[5]?.getD undef = .pointer (some ⟨w.heap.size + 1, 0, none⟩) := by simpa using h5
  have h6' : a.tmps[6]?.getD undef = .pointer (some ⟨w.heap.size + 1 + 1, 0, none⟩) := by simpa using h6
  simp [bodyPostD, hd, Leaves, results, Tryd.results41, go_sem, q4, q5, q6, h4', h5', h6']
  exact hR

set_option maxRecDepth 1000000 in
set_option maxHeartbeats 2000000 in
theorem weave_early (n : Int) (v : Value) (l : List (Int × Int)) (w : World) (hl : RdA w v l) (h : n < 0 ∨ 64 < n ∨ 4096 < l.length) :
    Calls Tryd.prog 41 #[.int .i64 n, v] w fun e w' => WvC n l w e w' := by
  obtain ⟨a, cap, rfl, hc, _, _⟩ := hl
  have hP : weaveP n l = .bad 2 := by
    unfold weaveP
    rw [if_pos]
    rcases h with h | h | h
    · exact .inl h
    · exact .inr (.inl h)
    · exact .inr (.inr (.inl h))
  have HF : Hid (∀ wc, Below w.heap.size w wc → WvC n l w (.returned (.tuple #[.slice none 0 0, .slice none 0 0, .int .i64 2])) wc) := fun wc hb => ⟨hb, by rw [hP]⟩
  have HB : Hid _ := box_new w (.int .i64 2)
  clear hP
  by_cases h1 : n < 0
  · go_enter_defers Tryd.func41, Tryd.ntmps41
    go_wp2_with fail
    exact box_ret HB.out rfl rfl rfl rfl (HF.out _ HB.out.bel)
  · have h1d : decide (n < 0) = false := by simpa using h1
    by_cases h2 : 64 < n
    · go_enter_defers Tryd.func41, Tryd.ntmps41
      go_wp2_with fail
      exact box_ret HB.out rfl rfl rfl rfl (HF.out _ HB.out.bel)
    · have h2d : decide (64 < n) = false := by simpa using h2
      have h3 : (4096 : Int) < (l.length : Int) := by omega
      go_enter_defers Tryd.func41, Tryd.ntmps41
      go_wp2_with fail
      exact box_ret HB.out rfl rfl rfl rfl (HF.out _ HB.out.bel)
end Go.Proofs.YtephkdocfhajiaaDoor.Dg

