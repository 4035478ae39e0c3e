/- The walks over disk.Synced and Read. -/
import Derived.Test.YtbbmbjlpccdclaaWo
namespace Go.Proofs.Ytbbmbjlpccdclaa
open Go.RowKit
set_option linter.unusedVariables false

def syncedP (S : DS) (i : Int) : Nat := if hasB S i = true then (S.fs i.toNat).s else 0
def readP (S : DS) (i : Int) : List UInt8 := if hasB S i = true then (S.fs i.toNat).b else []

theorem synced_call (T : Nat → Prop) (w : World) (p : Nat) (S : DS) (i : Int) (hd : DK T w p S) (ho : Okay S) (hs : Small 10000000 1000000000000 S) (wq : World)
    (hwq : wq = ((((((w.alloc (.cells #[.pointer (some ⟨p, 0, none⟩)] 25)).alloc (.cells #[.int .i64 i] 3)).alloc (.cells #[.int .i64 0] 3)).alloc (.cells #[.pointer (some ⟨p, 0, none⟩)] 25)).alloc (.cells #[.int .i64 i] 3)).alloc (.cells #[.func (.func 60) #[] #[.pointer (some ⟨w.heap.size + 1 + 1 + 1 + 1, 0, none⟩), .pointer (some ⟨w.heap.size + 1 + 1 + 1, 0, none⟩)]] 69)).drew) :
    Calls Try.prog 33 #[.pointer (some ⟨p, 0, none⟩), .func (.func 37) #[] #[.pointer (some ⟨w.heap.size, 0, none⟩), .pointer (some ⟨w.heap.size + 1, 0, none⟩), .pointer (some ⟨w.heap.size + 1 + 1, 0, none⟩)], .slice (some ⟨w.heap.size + 1 + 1 + 1 + 1 + 1, 0, none⟩) 1 1] wq (fun e w' => (∃ k : Int, e = .returned (.int .i64 k)) ∧ Below w.heap.size w w' ∧ (w'.cell? ⟨w.heap.size, 0, none⟩ = some (.pointer (some ⟨p, 0, none⟩)) ∧ w'.cell? ⟨w.heap.size + 1, 0, none⟩ = some (.int .i64 i)) ∧ w'.cell? ⟨w.heap.size + 1 + 1, 0, none⟩ = some (.int .i64 (syncedP S i))) := by
  obtain ⟨f60, hf60⟩ : ∃ f, f = Value.func (.func 60) #[] #[.pointer (some ⟨w.heap.size + 1 + 1 + 1 + 1, 0, none⟩), .pointer (some ⟨w.heap.size + 1 + 1 + 1, 0, none⟩)] := ⟨_, rfl⟩
  rw [← hf60] at hwq
  have hbel : Below w.heap.size w wq := by rw [hwq]; exact ((alloc5 w _ _ _ _ _).alloc (by simp; omega) _).drew
  have c0 : wq.cell? ⟨w.heap.size, 0, none⟩ = some (.pointer (some ⟨p, 0, none⟩)) := by
    rw [hwq]
    show (World.alloc _ _).cell? _ = _
    rw [cell_past _ _ _ _ (by simp <;> omega), cell_past _ _ _ _ (by simp <;> omega), cell_past _ _ _ _ (by simp <;> omega), cell_past _ _ _ _ (by simp <;> omega), cell_past _ _ _ _ (by simp <;> omega), cell_alloc1 _ _ _ _ (by simp)]
  have c1 : wq.cell? ⟨w.heap.size + 1, 0, none⟩ = some (.int .i64 i) := by
    rw [hwq]
    show (World.alloc _ _).cell? _ = _
    rw [cell_past _ _ _ _ (by simp <;> omega), cell_past _ _ _ _ (by simp <;> omega), cell_past _ _ _ _ (by simp <;> omega), cell_past _ _ _ _ (by simp <;> omega), cell_alloc1 _ _ _ _ (by simp)]
  have c2 : wq.cell? ⟨w.heap.size + 1 + 1, 0, none⟩ = some (.int .i64 0) := by
    rw [hwq]
    show (World.alloc _ _).cell? _ = _
    rw [cell_past _ _ _ _ (by simp <;> omega), cell_past _ _ _ _ (by simp <;> omega), cell_past _ _ _ _ (by simp <;> omega), cell_alloc1 _ _ _ _ (by simp)]
  have c3 : wq.cell? ⟨w.heap.size + 1 + 1 + 1, 0, none⟩ = some (.pointer (some ⟨p, 0, none⟩)) := by
    rw [hwq]
    show (World.alloc _ _).cell? _ = _
    rw [cell_past _ _ _ _ (by simp <;> omega), cell_past _ _ _ _ (by simp <;> omega), cell_alloc1 _ _ _ _ (by simp)]
  have c4 : wq.cell? ⟨w.heap.size + 1 + 1 + 1 + 1, 0, none⟩ = some (.int .i64 i) := by
    rw [hwq]
    show (World.alloc _ _).cell? _ = _
    rw [cell_past _ _ _ _ (by simp <;> omega), cell_alloc1 _ _ _ _ (by simp)]
  have hz : w.heap.size + 3 ≤ wq.heap.size := by rw [hwq]; show _ ≤ (World.alloc _ _).heap.size; simp <;> omega
  have f2 : wq.frozen? ⟨w.heap.size + 1 + 1, 0, none⟩ = false := by
    rw [hwq]
    refine frozen_of_row _ _ _ #[.int .i64 0] 3 ?_
    show (World.alloc _ _).heap[w.heap.size + 1 + 1]? = _
    rw [Below.heap_alloc _ _ _ (by simp <;> omega), Below.heap_alloc _ _ _ (by simp <;> omega), Below.heap_alloc _ _ _ (by simp)]
    exact heap_new _ _ _ (by simp)
  have hrf : RF wq (w.heap.size + 1 + 1 + 1 + 1 + 1) (.slice (some ⟨w.heap.size + 1 + 1 + 1 + 1 + 1, 0, none⟩) 1 1) [f60] := by
    rw [hwq]
    exact RF.one _ _ _ (by simp)
  clear hwq
  have hd2 := hd.later hbel
  obtain ⟨V, hv⟩ := hd2
  have hpos := ho.pos
  refine Calls.mono (call_any p S.n (w.heap.size + 1 + 1 + 1 + 1 + 1) _ _ [f60] _ (fun k w' => Below w.heap.size w w' ∧ (w'.cell? ⟨w.heap.size, 0, none⟩ = some (.pointer (some ⟨p, 0, none⟩)) ∧ w'.cell? ⟨w.heap.size + 1, 0, none⟩ = some (.int .i64 i)) ∧ w'.cell? ⟨w.heap.size + 1 + 1, 0, none⟩ = some (.int .i64 (syncedP S i))) hv.cnt (by omega) hrf ⟨60, #[], #[.pointer (some ⟨w.heap.size + 1 + 1 + 1 + 1, 0, none⟩), .pointer (some ⟨w.heap.size + 1 + 1 + 1, 0, none⟩)], hf60, ent60, Calls.mono (has1_any p _ _ S.n i _ c4 c3 hv.cnt) ?_⟩) ?_
  · rintro e w' ⟨rfl, q, rfl⟩
    have hbq : Below wq.heap.size wq (wq.drewN q) := below_drewN (Below.refl _ _) q
    have hb2 : Below w.heap.size w (wq.drewN q) := hbel.trans (hbq.mono hbel.size)
    by_cases hg : 0 ≤ i ∧ i < S.n
    · have hhb : hasB S i = true := by unfold hasB; simpa using hg
      refine ⟨0, by rw [if_pos hg], rfl, fun h => absurd rfl h, fun _ => ?_⟩
      obtain ⟨k, rfl, hkn⟩ := hasB_true hhb
      have hfew := ho.few
      obtain ⟨e0, e1, e2⟩ := hv.file k (by omega)
      refine ⟨37, #[], #[.pointer (some ⟨w.heap.size, 0, none⟩), .pointer (some ⟨w.heap.size + 1, 0, none⟩), .pointer (some ⟨w.heap.size + 1 + 1, 0, none⟩)], rfl, ent37, Calls.mono (synced1_any p _ _ _ k (S.fs k).s 0 (wq.drewN q) (by omega) (cell_later hbq c0) (cell_later hbq c1) (cell_later hbq c2) f2 (cell_later hbq e1)) ?_⟩
      rintro e w' ⟨rfl, rfl⟩
      refine ⟨rfl, (hb2.setCell (by show _ ≤ w.heap.size + 1 + 1; omega) _).drew, ⟨?_, ?_⟩, ?_⟩
      · show (World.setCell _ _ _).cell? _ = _
        rw [World.cell?_setCell_far _ _ _ _ (by show w.heap.size + 1 + 1 ≠ w.heap.size; omega)]
        exact c0
      · show (World.setCell _ _ _).cell? _ = _
        rw [World.cell?_setCell_far _ _ _ _ (by show w.heap.size + 1 + 1 ≠ w.heap.size + 1; omega)]
        exact c1
      · unfold syncedP
        rw [hhb]
        exact set_same _ c2
    · have hhb : hasB S i = false := by unfold hasB; simpa using hg
      refine ⟨2, by rw [if_neg hg], rfl, fun _ => ⟨hb2, ⟨cell_later hbq c0, cell_later hbq c1⟩, ?_⟩, fun h => by cases h⟩
      unfold syncedP
      rw [hhb]
      exact cell_later hbq c2
  · rintro e w' ⟨k, rfl, h⟩
    exact ⟨⟨k, rfl⟩, h⟩

set_option maxRecDepth 1000000 in
set_option maxHeartbeats 1000000 in
theorem synced_any (T : Nat → Prop) (w : World) (p : Nat) (S : DS) (i : Int) (hd : DK T w p S) (ho : Okay S) (hs : Small 10000000 1000000000000 S) :
    Calls Try.prog 16 #[.pointer (some ⟨p, 0, none⟩), .int .i64 i] w fun e w' => e = .returned (.int .i64 (syncedP S i)) ∧ Below w.heap.size w w' := by
  have HC : Hid _ := synced_call T w p S i hd ho hs _ rfl
  have HK : Hid (∀ w1 w2 : World, (w1.cell? ⟨w.heap.size, 0, none⟩ = some (.pointer (some ⟨p, 0, none⟩)) ∧ w1.cell? ⟨w.heap.size + 1, 0, none⟩ = some (.int .i64 i)) → Below w1.heap.size w1 w2 → (w2.cell? ⟨w.heap.size, 0, none⟩ = some (.pointer (some ⟨p, 0, none⟩)) ∧ w2.cell? ⟨w.heap.size + 1, 0, none⟩ = some (.int .i64 i))) := fun w1 w2 h hb => ⟨cell_later hb h.1, cell_later hb h.2⟩
  have HS0 : Hid ((((w.alloc (.cells #[.pointer (some ⟨p, 0, none⟩)] 25)).alloc (.cells #[.int .i64 i] 3)).alloc (.cells #[.int .i64 0] 3)).drew.cell? ⟨w.heap.size, 0, none⟩ = some (.pointer (some ⟨p, 0, none⟩)) ∧ (((w.alloc (.cells #[.pointer (some ⟨p, 0, none⟩)] 25)).alloc (.cells #[.int .i64 i] 3)).alloc (.cells #[.int .i64 0] 3)).drew.cell? ⟨w.heap.size + 1, 0, none⟩ = some (.int .i64 i)) := by
    refine ⟨?_, ?_⟩
    · show (World.alloc _ _).cell? _ = _
      rw [cell_past _ _ _ _ (by simp <;> omega), cell_past _ _ _ _ (by simp <;> omega), cell_alloc1 _ _ _ _ (by simp)]
    · show (World.alloc _ _).cell? _ = _
      rw [cell_past _ _ _ _ (by simp <;> omega), cell_alloc1 _ _ _ _ (by simp)]
  have hmf : ∀ (fn : Fn) (first cap : Array Value) (w : World), (Instr.makeFunc fn first cap).run Try.prog w = .ok (.func fn first cap) w := fun _ _ _ _ => rfl
  obtain ⟨R, HR⟩ : ∃ R, Hid (R = syncedP S i) := ⟨_, rfl⟩
  rw [← HR.out] at HC ⊢
  clear hd HR
  go_enter Try.func16, Try.ntmps16
  go_wp2_with fail
  go_region_held_law (fun w' => (w'.cell? ⟨w.heap.size, 0, none⟩ = some (.pointer (some ⟨p, 0, none⟩)) ∧ w'.cell? ⟨w.heap.size + 1, 0, none⟩ = some (.int .i64 i))) (first | assumption | exact HS0.out | exact hs9 | exact HK.out _ _ ‹_› (alloc2 _ _ _) | exact HK.out _ _ ‹_› ((Below.refl _ _).alloc (Nat.le_refl _) _)) (first
    | (go_simp; go_at_call 36; refine Calls.mono (has_any _ _ _) ?_; rintro e w2 ⟨rfl, rfl⟩)
    | (go_simp; go_at_call 33; refine Calls.mono HC.out ?_; rintro e w2 ⟨⟨k9, rfl⟩, hb9, hs9, hr9⟩))
  all_goals
    go_wp2_with fail
    go_ret
    exact ⟨rfl, hb9⟩

theorem read_call (T : Nat → Prop) (w : World) (p : Nat) (S : DS) (i : Int) (hd : DK T w p S) (ho : Okay S) (hs : Small 10000000 1000000000000 S) (wq : World)
    (hwq : wq = ((((((w.alloc (.cells #[.pointer (some ⟨p, 0, none⟩)] 25)).alloc (.cells #[.int .i64 i] 3)).alloc (.cells #[.slice none 0 0] 33)).alloc (.cells #[.pointer (some ⟨p, 0, none⟩)] 25)).alloc (.cells #[.int .i64 i] 3)).alloc (.cells #[.func (.func 60) #[] #[.pointer (some ⟨w.heap.size + 1 + 1 + 1 + 1, 0, none⟩), .pointer (some ⟨w.heap.size + 1 + 1 + 1, 0, none⟩)]] 69)).drew) :
    Calls Try.prog 33 #[.pointer (some ⟨p, 0, none⟩), .func (.func 34) #[] #[.pointer (some ⟨w.heap.size, 0, none⟩), .pointer (some ⟨w.heap.size + 1, 0, none⟩), .pointer (some ⟨w.heap.size + 1 + 1, 0, none⟩)], .slice (some ⟨w.heap.size + 1 + 1 + 1 + 1 + 1, 0, none⟩) 1 1] wq (fun e w' => (∃ k : Int, e = .returned (.int .i64 k)) ∧ Below w.heap.size w w' ∧ (w'.cell? ⟨w.heap.size, 0, none⟩ = some (.pointer (some ⟨p, 0, none⟩)) ∧ w'.cell? ⟨w.heap.size + 1, 0, none⟩ = some (.int .i64 i)) ∧ ∃ u, w'.cell? ⟨w.heap.size + 1 + 1, 0, none⟩ = some u ∧ RB w' u (readP S i)) := by
  obtain ⟨f60, hf60⟩ : ∃ f, f = Value.func (.func 60) #[] #[.pointer (some ⟨w.heap.size + 1 + 1 + 1 + 1, 0, none⟩), .pointer (some ⟨w.heap.size + 1 + 1 + 1, 0, none⟩)] := ⟨_, rfl⟩
  rw [← hf60] at hwq
  have hbel : Below w.heap.size w wq := by rw [hwq]; exact ((alloc5 w _ _ _ _ _).alloc (by simp; omega) _).drew
  have c0 : wq.cell? ⟨w.heap.size, 0, none⟩ = some (.pointer (some ⟨p, 0, none⟩)) := by
    rw [hwq]
    show (World.alloc _ _).cell? _ = _
    rw [cell_past _ _ _ _ (by simp <;> omega), cell_past _ _ _ _ (by simp <;> omega), cell_past _ _ _ _ (by simp <;> omega), cell_past _ _ _ _ (by simp <;> omega), cell_past _ _ _ _ (by simp <;> omega), cell_alloc1 _ _ _ _ (by simp)]
  have c1 : wq.cell? ⟨w.heap.size + 1, 0, none⟩ = some (.int .i64 i) := by
    rw [hwq]
    show (World.alloc _ _).cell? _ = _
    rw [cell_past _ _ _ _ (by simp <;> omega), cell_past _ _ _ _ (by simp <;> omega), cell_past _ _ _ _ (by simp <;> omega), cell_past _ _ _ _ (by simp <;> omega), cell_alloc1 _ _ _ _ (by simp)]
  have c2 : wq.cell? ⟨w.heap.size + 1 + 1, 0, none⟩ = some (.slice none 0 0) := by
    rw [hwq]
    show (World.alloc _ _).cell? _ = _
    rw [cell_past _ _ _ _ (by simp <;> omega), cell_past _ _ _ _ (by simp <;> omega), cell_past _ _ _ _ (by simp <;> omega), cell_alloc1 _ _ _ _ (by simp)]
  have c3 : wq.cell? ⟨w.heap.size + 1 + 1 + 1, 0, none⟩ = some (.pointer (some ⟨p, 0, none⟩)) := by
    rw [hwq]
    show (World.alloc _ _).cell? _ = _
    rw [cell_past _ _ _ _ (by simp <;> omega), cell_past _ _ _ _ (by simp <;> omega), cell_alloc1 _ _ _ _ (by simp)]
  have c4 : wq.cell? ⟨w.heap.size + 1 + 1 + 1 + 1, 0, none⟩ = some (.int .i64 i) := by
    rw [hwq]
    show (World.alloc _ _).cell? _ = _
    rw [cell_past _ _ _ _ (by simp <;> omega), cell_alloc1 _ _ _ _ (by simp)]
  have hz : w.heap.size + 3 ≤ wq.heap.size := by rw [hwq]; show _ ≤ (World.alloc _ _).heap.size; simp <;> omega
  have f2 : wq.frozen? ⟨w.heap.size + 1 + 1, 0, none⟩ = false := by
    rw [hwq]
    refine frozen_of_row _ _ _ #[.slice none 0 0] 33 ?_
    show (World.alloc _ _).heap[w.heap.size + 1 + 1]? = _
    rw [Below.heap_alloc _ _ _ (by simp <;> omega), Below.heap_alloc _ _ _ (by simp <;> omega), Below.heap_alloc _ _ _ (by simp)]
    exact heap_new _ _ _ (by simp)
  have hrf : RF wq (w.heap.size + 1 + 1 + 1 + 1 + 1) (.slice (some ⟨w.heap.size + 1 + 1 + 1 + 1 + 1, 0, none⟩) 1 1) [f60] := by
    rw [hwq]
    exact RF.one _ _ _ (by simp)
  clear hwq
  have hd2 := hd.later hbel
  obtain ⟨V, hv⟩ := hd2
  have hpos := ho.pos
  refine Calls.mono (call_any p S.n (w.heap.size + 1 + 1 + 1 + 1 + 1) _ _ [f60] _ (fun k w' => Below w.heap.size w w' ∧ (w'.cell? ⟨w.heap.size, 0, none⟩ = some (.pointer (some ⟨p, 0, none⟩)) ∧ w'.cell? ⟨w.heap.size + 1, 0, none⟩ = some (.int .i64 i)) ∧ ∃ u, w'.cell? ⟨w.heap.size + 1 + 1, 0, none⟩ = some u ∧ RB w' u (readP S i)) hv.cnt (by omega) hrf ⟨60, #[], #[.pointer (some ⟨w.heap.size + 1 + 1 + 1 + 1, 0, none⟩), .pointer (some ⟨w.heap.size + 1 + 1 + 1, 0, none⟩)], hf60, ent60, Calls.mono (has1_any p _ _ S.n i _ c4 c3 hv.cnt) ?_⟩) ?_
  · rintro e w' ⟨rfl, q, rfl⟩
    have hbq : Below wq.heap.size wq (wq.drewN q) := below_drewN (Below.refl _ _) q
    have hb2 : Below w.heap.size w (wq.drewN q) := hbel.trans (hbq.mono hbel.size)
    by_cases hg : 0 ≤ i ∧ i < S.n
    · have hhb : hasB S i = true := by unfold hasB; simpa using hg
      refine ⟨0, by rw [if_pos hg], rfl, fun h => absurd rfl h, fun _ => ?_⟩
      obtain ⟨k, rfl, hkn⟩ := hasB_true hhb
      have hfew := ho.few
      obtain ⟨e0, e1, e2⟩ := hv.file k (by omega)
      refine ⟨34, #[], #[.pointer (some ⟨w.heap.size, 0, none⟩), .pointer (some ⟨w.heap.size + 1, 0, none⟩), .pointer (some ⟨w.heap.size + 1 + 1, 0, none⟩)], rfl, ent34, Calls.mono (read1_any p _ _ _ k (V k) (S.fs k).b (wq.drewN q) (by omega) (cell_later hbq c0) (cell_later hbq c1) (cell_later hbq c2) f2 (cell_later hbq e0) ((RB.of_owns e2 rfl).later hbq) (hs.len k)) ?_⟩
      rintro e w' ⟨rfl, w1, u, hb1, ho1, hg1, rfl⟩
      have hz1 : wq.heap.size ≤ w1.heap.size := hb1.size
      have hbb : Below w.heap.size w w1 := hb2.trans (hb1.mono (by show _ ≤ wq.heap.size; omega))
      refine ⟨rfl, hbb.setCell (by show _ ≤ w.heap.size + 1 + 1; omega) _, ⟨?_, ?_⟩, ?_⟩
      · rw [World.cell?_setCell_far _ _ _ _ (by show w.heap.size + 1 + 1 ≠ w.heap.size; omega)]
        exact cell_later hb1 (cell_later hbq c0)
      · rw [World.cell?_setCell_far _ _ _ _ (by show w.heap.size + 1 + 1 ≠ w.heap.size + 1; omega)]
        exact cell_later hb1 (cell_later hbq c1)
      · unfold readP
        rw [hhb]
        refine ⟨u, set_same _ (cell_later hb1 (cell_later hbq c2)), ?_⟩
        exact RB.of_owns (owns_kept (T := fun k => k = w.heap.size + 1 + 1) ((Kp.refl _ _).set _ _ rfl) ho1 (fun g hg => by have : wq.heap.size ≤ g := hg1 g hg; omega)) rfl
    · have hhb : hasB S i = false := by unfold hasB; simpa using hg
      refine ⟨2, by rw [if_neg hg], rfl, fun _ => ⟨hb2, ⟨cell_later hbq c0, cell_later hbq c1⟩, ?_⟩, fun h => by cases h⟩
      unfold readP
      rw [hhb]
      exact ⟨_, cell_later hbq c2, RB.nil _⟩
  · rintro e w' ⟨k, rfl, h⟩
    exact ⟨⟨k, rfl⟩, h⟩

set_option maxRecDepth 1000000 in
set_option maxHeartbeats 1000000 in
theorem read_any (T : Nat → Prop) (w : World) (p : Nat) (S : DS) (i : Int) (hd : DK T w p S) (ho : Okay S) (hs : Small 10000000 1000000000000 S) :
    Calls Try.prog 15 #[.pointer (some ⟨p, 0, none⟩), .int .i64 i] w fun e w' => (∃ v, e = .returned v ∧ RB w' v (readP S i)) ∧ Below w.heap.size w w' := by
  have HC : Hid _ := read_call T w p S i hd ho hs _ rfl
  have HK : Hid (∀ w1 w2 : World, (w1.cell? ⟨w.heap.size, 0, none⟩ = some (.pointer (some ⟨p, 0, none⟩)) ∧ w1.cell? ⟨w.heap.size + 1, 0, none⟩ = some (.int .i64 i)) → Below w1.heap.size w1 w2 → (w2.cell? ⟨w.heap.size, 0, none⟩ = some (.pointer (some ⟨p, 0, none⟩)) ∧ w2.cell? ⟨w.heap.size + 1, 0, none⟩ = some (.int .i64 i))) := fun w1 w2 h hb => ⟨cell_later hb h.1, cell_later hb h.2⟩
  have HS0 : Hid ((((w.alloc (.cells #[.pointer (some ⟨p, 0, none⟩)] 25)).alloc (.cells #[.int .i64 i] 3)).alloc (.cells #[.slice none 0 0] 33)).drew.cell? ⟨w.heap.size, 0, none⟩ = some (.pointer (some ⟨p, 0, none⟩)) ∧ (((w.alloc (.cells #[.pointer (some ⟨p, 0, none⟩)] 25)).alloc (.cells #[.int .i64 i] 3)).alloc (.cells #[.slice none 0 0] 33)).drew.cell? ⟨w.heap.size + 1, 0, none⟩ = some (.int .i64 i)) := by
    refine ⟨?_, ?_⟩
    · show (World.alloc _ _).cell? _ = _
      rw [cell_past _ _ _ _ (by simp <;> omega), cell_past _ _ _ _ (by simp <;> omega), cell_alloc1 _ _ _ _ (by simp)]
    · show (World.alloc _ _).cell? _ = _
      rw [cell_past _ _ _ _ (by simp <;> omega), cell_alloc1 _ _ _ _ (by simp)]
  have hmf : ∀ (fn : Fn) (first cap : Array Value) (w : World), (Instr.makeFunc fn first cap).run Try.prog w = .ok (.func fn first cap) w := fun _ _ _ _ => rfl
  obtain ⟨R, HR⟩ : ∃ R, Hid (R = readP S i) := ⟨_, rfl⟩
  rw [← HR.out] at HC ⊢
  clear hd HR
  go_enter Try.func15, Try.ntmps15
  go_wp2_with fail
  go_region_held_law (fun w' => (w'.cell? ⟨w.heap.size, 0, none⟩ = some (.pointer (some ⟨p, 0, none⟩)) ∧ w'.cell? ⟨w.heap.size + 1, 0, none⟩ = some (.int .i64 i))) (first | assumption | exact HS0.out | exact hs9 | exact HK.out _ _ ‹_› (alloc2 _ _ _) | exact HK.out _ _ ‹_› ((Below.refl _ _).alloc (Nat.le_refl _) _)) (first
    | (go_simp; go_at_call 36; refine Calls.mono (has_any _ _ _) ?_; rintro e w2 ⟨rfl, rfl⟩)
    | (go_simp; go_at_call 33; refine Calls.mono HC.out ?_; rintro e w2 ⟨⟨k9, rfl⟩, hb9, hs9, u9, hc9, hr9⟩; obtain ⟨a9, n9, rfl, _, _, _, _⟩ := id hr9; have HR9 : Hid _ := hr9; clear hr9))
  all_goals
    go_wp2_with fail
    go_ret
    exact ⟨⟨_, rfl, HR9.out⟩, hb9⟩

end Go.Proofs.Ytbbmbjlpccdclaa
