/- What was done of a step, or of its undoing. -/
import Derived.Test.YthkndkbffiaknaaRi
import Derived.Test.YthkndkbffiaknaaTqd
namespace Go.Proofs.Ythkndkbffiaknaa.Tz
open Go.RowKit Go.Shelf Go.Proofs.Ythkndkbffiaknaa
set_option maxRecDepth 1000000
set_option linter.unusedVariables false

theorem results_cell53 {fn : Func} (h : fn.results = #[.cell 4 53]) (tmps : Array Value) (w : World) (b : Nat) {s : Sp} (hp : tmps.getD 4 undef = .pointer (some ⟨b, 0, none⟩)) (hb : w.heap[b]? = some (.cells #[.int .i64 s.first, .int .i64 s.well, .int .i64 s.last] 53 (0, 0))) :
    (results fn tmps).run Try.prog w = .ok (SV s) w := by
  have hp' : tmps[4]?.getD undef = .pointer (some ⟨b, 0, none⟩) := by simpa using hp
  simp [results, h, hp', asAddr, run_loadVar_row (P := Try.prog) w b 53 53 _ (0, 0) _ hb Try.underlying53 rfl (by kernel_rfl)]
  rfl



set_option maxHeartbeats 4000000 in
theorem of_any {w : World} {b n : Nat} {f : Kx → Option Sp} (h : KM SV w b n f) {k : Kx} (hk : wfK k) :
    Calls Try.prog 31 #[.map (some b), KV k] w fun e w' => e = .returned (SV (spD (f k))) ∧ Below w.heap.size w w' := by
  obtain ⟨ki, ku, kt⟩ := k
  have HM : Hid (KM SV ((w.alloc (.cells #[.int .i64 ki, .bool ku, .int .i64 kt] 24)).alloc (.cells #[.int .i64 0, .int .i64 0, .int .i64 0] 53)) b n f) := h.later (bl2 _ _ _)
  have HK : Hid (wfK (ki, ku, kt)) := hk
  have c0 : ((w.alloc (.cells #[.int .i64 ki, .bool ku, .int .i64 kt] 24)).alloc (.cells #[.int .i64 0, .int .i64 0, .int .i64 0] 53)).cell? ⟨w.heap.size, 0, none⟩ = some (.int .i64 ki) := (cell_row (row_later (heap_alloc_new w _) (bl1 _ _)) 0).trans rfl
  have c1 : ((w.alloc (.cells #[.int .i64 ki, .bool ku, .int .i64 kt] 24)).alloc (.cells #[.int .i64 0, .int .i64 0, .int .i64 0] 53)).cell? ⟨w.heap.size, 1, none⟩ = some (.bool ku) := (cell_row (row_later (heap_alloc_new w _) (bl1 _ _)) 1).trans rfl
  have c2 : ((w.alloc (.cells #[.int .i64 ki, .bool ku, .int .i64 kt] 24)).alloc (.cells #[.int .i64 0, .int .i64 0, .int .i64 0] 53)).cell? ⟨w.heap.size, 2, none⟩ = some (.int .i64 kt) := (cell_row (row_later (heap_alloc_new w _) (bl1 _ _)) 2).trans rfl
  unfold KV
  obtain ⟨mv, hmv⟩ : ∃ mv, f (ki, ku, kt) = mv := ⟨_, rfl⟩
  have HMV : Hid (f (ki, ku, kt) = mv) := hmv
  clear h hk
  cases mv with
  | none =>
    have hlk : (Instr.lookup 50 (.map (some b)) (.agg #[.int .i64 ki, .bool ku, .int .i64 kt]) true).run Try.prog ((w.alloc (.cells #[.int .i64 ki, .bool ku, .int .i64 kt] 24)).alloc (.cells #[.int .i64 0, .int .i64 0, .int .i64 0] 53)) = .ok (.tuple #[.agg #[.int .i64 0, .int .i64 0, .int .i64 0], .bool false]) ((w.alloc (.cells #[.int .i64 ki, .bool ku, .int .i64 kt] 24)).alloc (.cells #[.int .i64 0, .int .i64 0, .int .i64 0] 53)) := HM.out.look_none Try.underlying50 (Try.zero53 _) HK.out hmv
    clear hmv
    go_enter Try.func31, Try.ntmps31
    go_wp2_with fail
    refine bodyPost_ret (results_cell53 (s := ⟨9223372036854775807, 9223372036854775807, 9223372036854775807⟩) rfl _ _ (w.heap.size + 1) rfl ?_) rfl ⟨?_, bl3 _ _ _ _⟩
    · have h1 := row_later (heap_alloc_new (w.alloc (.cells #[.int .i64 ki, .bool ku, .int .i64 kt] 24)) (.cells #[.int .i64 9223372036854775807, .int .i64 9223372036854775807, .int .i64 9223372036854775807] 53)) (bl1 _ (.cells #[.int .i64 0, .int .i64 0, .int .i64 0] 53))
      rw [World.size_alloc] at h1
      exact h1
    · rw [HMV.out]; rfl
  | some s =>
    have hlk : (Instr.lookup 50 (.map (some b)) (.agg #[.int .i64 ki, .bool ku, .int .i64 kt]) true).run Try.prog ((w.alloc (.cells #[.int .i64 ki, .bool ku, .int .i64 kt] 24)).alloc (.cells #[.int .i64 0, .int .i64 0, .int .i64 0] 53)) = .ok (.tuple #[.agg #[.int .i64 s.first, .int .i64 s.well, .int .i64 s.last], .bool true]) ((w.alloc (.cells #[.int .i64 ki, .bool ku, .int .i64 kt] 24)).alloc (.cells #[.int .i64 0, .int .i64 0, .int .i64 0] 53)) := HM.out.look_some Try.underlying50 hmv
    clear hmv
    go_enter Try.func31, Try.ntmps31
    go_wp2_with fail
    refine bodyPost_ret (results_cell53 (s := s) rfl _ _ (w.heap.size + 1) rfl ?_) rfl ⟨?_, bl3 _ _ _ _⟩
    · have h1 := row_later (heap_alloc_new (w.alloc (.cells #[.int .i64 ki, .bool ku, .int .i64 kt] 24)) (.cells #[.int .i64 s.first, .int .i64 s.well, .int .i64 s.last] 53)) (bl1 _ (.cells #[.int .i64 s.first, .int .i64 s.well, .int .i64 s.last] 53))
      rw [World.size_alloc] at h1
      exact h1
    · rw [HMV.out]; rfl

theorem results_cell53' {fn : Func} (h : fn.results = #[.cell 4 53]) (tmps : Array Value) (w : World) (b : Nat) {s : Sp} (hp : tmps.getD 4 undef = .pointer (some ⟨b, 0, none⟩)) (hb : w.heap[b]? = some (.cells #[.int .i64 s.first, .int .i64 s.well, .int .i64 s.last] 53 (0, 0))) :
    (results fn tmps).run Try.prog w = .ok (.agg #[.int .i64 s.first, .int .i64 s.well, .int .i64 s.last]) w := results_cell53 h tmps w b hp hb

set_option maxHeartbeats 4000000 in
theorem undoing_any {w : World} {b n : Nat} {f : Kx → Option Sp} (h : KM SV w b n f) {i : Int} (hk : (Lit.int .i64 i).wf = true) :
    Calls Try.prog 26 #[.map (some b), .int .i64 i] w fun e w' => e = .returned (SV (spD (f (i, true, 0)))) ∧ Below w.heap.size w w' := by
  have HC : Hid (Calls Try.prog 31 #[.map (some b), .agg #[.int .i64 i, .bool true, .int .i64 0]] (w.alloc (.cells #[.int .i64 0, .int .i64 0, .int .i64 0] 53)) fun e w' => e = .returned (SV (spD (f (i, true, 0)))) ∧ Below (w.alloc (.cells #[.int .i64 0, .int .i64 0, .int .i64 0] 53)).heap.size (w.alloc (.cells #[.int .i64 0, .int .i64 0, .int .i64 0] 53)) w') := of_any (h.later (bl1 _ _)) (k := (i, true, 0)) ⟨hk, show (Lit.int .i64 0).wf = true by decide⟩
  obtain ⟨s, hs⟩ : ∃ s, spD (f (i, true, 0)) = s := ⟨_, rfl⟩
  rw [hs] at HC ⊢
  unfold SV at *
  clear h hs
  go_enter Try.func26, Try.ntmps26
  go_wp2_with fail
  refine Calls.mono HC.out ?_
  rintro e w2 ⟨rfl, hb2⟩
  have hrow : w2.heap[w.heap.size]? = some (.cells #[.int .i64 0, .int .i64 0, .int .i64 0] 53 (0, 0)) := row_later (heap_alloc_new w _) hb2
  have HR : Hid _ := hrow
  have HB : Hid (Below w.heap.size w w2) := (bl1 w _).trans (hb2.mono (by simp))
  have c0 := (cell_row hrow 0).trans rfl
  have c1 := (cell_row hrow 1).trans rfl
  have c2 := (cell_row hrow 2).trans rfl
  have f0 := froz_row hrow
  clear HC hb2 hrow
  go_wp2_with fail
  refine bodyPost_ret (results_cell53 (s := s) rfl _ _ w.heap.size rfl ?_) rfl ⟨rfl, ?_⟩
  · have h1 := row_set (row_set (row_set HR.out 0 (.int .i64 s.first)) 1 (.int .i64 s.well)) 2 (.int .i64 s.last)
    exact h1
  · have hb := HB.out
    exact ⟨hb.os, hb.tape, hb.output, by have := hb.size; simpa using this, fun k hk => by
      rw [set_same _ _ _ _ _ (by omega), set_same _ _ _ _ _ (by omega), set_same _ _ _ _ _ (by omega)]
      exact hb.block k hk⟩
end Go.Proofs.Ythkndkbffiaknaa.Tz
