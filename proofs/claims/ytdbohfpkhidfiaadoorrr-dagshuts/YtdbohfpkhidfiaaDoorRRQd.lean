/- The program's weave. -/
import Derived.Test.YtdbohfpkhidfiaaDoorRRQc
import Derived.Defers
namespace Go.Proofs.YtdbohfpkhidfiaaDoorRR
open Go.RowKit

/-- Arcs as they lie in a slice. -/
def RdA (w : World) (v : Value) (l : List (Int × Int)) : Prop := ∃ a cap, v = .slice a l.length cap ∧ l.length ≤ cap ∧ (∀ p ∈ l, (-9223372036854775808 ≤ p.1 ∧ p.1 ≤ 9223372036854775807) ∧ -9223372036854775808 ≤ p.2 ∧ p.2 ≤ 9223372036854775807) ∧
  ∀ (i : Nat) (p : Int × Int), l[i]? = some p → ∃ b off, a = some ⟨b, off, none⟩ ∧ w.cell? ⟨b, off + i * 2, none⟩ = some (.int .i64 p.1) ∧ w.cell? ⟨b, off + i * 2 + 1, none⟩ = some (.int .i64 p.2)

theorem RdA.later {w w' : World} {v : Value} {l : List (Int × Int)} (h : RdA w v l) (hb : Below w.heap.size w w') : RdA w' v l := by
  obtain ⟨a, cap, hv, hc, hl, hr⟩ := h
  refine ⟨a, cap, hv, hc, hl, fun i x hi => ?_⟩
  obtain ⟨b, off, ha, c0, c1⟩ := hr i x hi
  exact ⟨b, off, ha, cell_later hb c0, cell_later hb c1⟩

/-- Are both ends nodes? -/
def endsOk (n : Nat) (p : Int × Int) : Bool := decide ((0 ≤ p.1 ∧ p.1 < n) ∧ 0 ≤ p.2 ∧ p.2 < n)

/-- One arc more. -/
def putArc (W : List Nat) (p : Int × Int) : List Nat := W.set p.2.toNat (W.getD p.2.toNat 0 ||| 2 ^ p.1.toNat)

/-- What leans on what. -/
def webOf (n : Nat) (l : List (Int × Int)) : List Nat := l.foldl putArc (List.replicate n 0)

inductive Wv where
  | bad : Int → Wv
  | ok : List Nat → List Nat → Wv

def weaveP (n : Int) (l : List (Int × Int)) : Wv := if n < 0 ∨ 64 < n ∨ 4096 < l.length ∨ l.all (endsOk n.toNat) = false then .bad 2 else match ordW (webOf n.toNat l) with
  | none => .bad 13
  | some o => .ok (webOf n.toNat l) o

def uvs (W : List Nat) : List Value := W.map fun (x : Nat) => .int .u64 (x : Int)

/-- How weave ends. -/
def WvC (n : Int) (l : List (Int × Int)) (w : World) (e : Ending) (w' : World) : Prop := Below w.heap.size w w' ∧ match weaveP n l with
  | .bad c => e = .returned (.tuple #[.slice none 0 0, .slice none 0 0, .int .i64 c])
  | .ok W o => ∃ v1 v2, e = .returned (.tuple #[v1, v2, .int .i64 0]) ∧ RdU w' v1 W ∧ RdI w' v2 o ∧ W.length = n.toNat ∧ o.length = n.toNat

theorem Tryd.info53 : (Tryd.prog.info? 53).map (fun i => (i.zero, i.size, i.bytes)) = some (some (.int .u64 0), 1, 8) := by kernel_rfl

set_option maxRecDepth 1000000 in
theorem catch_cycle (b4 b5 b6 : Nat) (c4 c5 c6 : Value) (t4 t5 t6 : TypeId) (older : List PanicEntry) (w : World) (h4 : w.heap[b4]? = some (.cells #[c4] t4 (0, 0))) (h5 : w.heap[b5]? = some (.cells #[c5] t5 (0, 0))) (h6 : w.heap[b6]? = some (.cells #[c6] t6 (0, 0))) (h45 : b4 ≠ b5) (h46 : b4 ≠ b6) (h56 : b5 ≠ b6) :
    CallsD Tryd.prog 27 #[.pointer (some ⟨b4, 0, none⟩), .pointer (some ⟨b5, 0, none⟩), .pointer (some ⟨b6, 0, none⟩)] (.panicking ({ v := .iface 26 (.int .i64 13), recovered := false } :: older)) w fun e u' w' =>
      e = .returned (.tuple #[]) ∧ u' = .panicking ({ v := .iface 26 (.int .i64 13), recovered := true } :: older) ∧ w' = (((w.setCell ⟨b4, 0, none⟩ (.slice none 0 0)).setCell ⟨b5, 0, none⟩ (.slice none 0 0)).setCell ⟨b6, 0, none⟩ (.int .i64 13)).drew := by
  have g4 := (cell_row h4 0).trans rfl
  have f4 := froz_row h4 0
  have g5 := (cell_row h5 0).trans rfl
  have f5 := froz_row h5 0
  have g6 := (cell_row h6 0).trans rfl
  have f6 := froz_row h6 0
  refine callsD_of_wpS Tryd.func27 rfl fun c₀ cs hu => ?_
  apply wpS_seq
  apply wpS_region
  simp [wpOpsS, go_sem, recoverD, hu, Tryd.ntmps27, Exit.thenS]
  refine wpS_of_wp ?_
  simp only [Array.replicate_succ, Array.replicate_zero, List.push_toArray, List.append_toArray, List.nil_append, List.cons_append, List.setIfInBounds_toArray, List.set_cons_zero, List.set_cons_succ]
  have hta : ∀ (v : Value) (w : World), (Instr.typeAssert (.iface 26 v) 20 26 false).run Tryd.prog w = .ok v w := fun v w => by simp [Instr.typeAssert, run_underlying Tryd.underlying26, go_sem, Result.andThen]
  have n1 : b5 ≠ b4 := fun h => h45 h.symm
  have n2 : b6 ≠ b4 := fun h => h46 h.symm
  have n3 : b6 ≠ b5 := fun h => h56 h.symm
  go_wp2_with fail
  go_region
  show bodyPostS Tryd.prog Tryd.f27 _ _ _ Exit.normal _ _ _
  simp [bodyPostS, results, Tryd.results27]

set_option maxRecDepth 1000000 in
theorem catch_idle (b4 b5 b6 : Nat) (w : World) :
    CallsD Tryd.prog 27 #[.pointer (some ⟨b4, 0, none⟩), .pointer (some ⟨b5, 0, none⟩), .pointer (some ⟨b6, 0, none⟩)] .returning w fun e u' w' => e = .returned (.tuple #[]) ∧ u' = .returning ∧ w' = w := by
  refine callsD_of_wpS Tryd.func27 rfl fun c₀ cs hu => ?_
  apply wpS_seq
  apply wpS_region
  simp [wpOpsS, go_sem, recoverD, hu, Tryd.ntmps27, Exit.thenS]
  refine wpS_of_wp ?_
  simp only [Array.replicate_succ, Array.replicate_zero, List.push_toArray, List.append_toArray, List.nil_append, List.cons_append, List.setIfInBounds_toArray, List.set_cons_zero, List.set_cons_succ]
  go_wp2_with fail
  cases c₀
  simp_all [bodyPostS, results, Tryd.results27]
end Go.Proofs.YtdbohfpkhidfiaaDoorRR
