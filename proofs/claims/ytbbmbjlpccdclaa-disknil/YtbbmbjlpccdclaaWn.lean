/- The walk over disk.Grow. -/
import Derived.Test.YtbbmbjlpccdclaaWm
namespace Go.Proofs.Ytbbmbjlpccdclaa
open Go.RowKit
set_option linter.unusedVariables false

theorem ent54 : Ent 54 := fun args w => by kernel_rfl

set_option maxRecDepth 1000000 in
set_option maxHeartbeats 1000000 in
theorem grow1_any (p b0 b1 r n : Nat) (w : World) (h0 : w.cell? ⟨b0, 0, none⟩ = some (.pointer (some ⟨p, 0, none⟩))) (h1 : w.cell? ⟨b1, 0, none⟩ = some (.int .i64 n)) (hf : w.frozen? ⟨p, 131, none⟩ = false) (hc : w.cell? ⟨p, 131, none⟩ = some (.int .i64 r)) (hr : r ≤ 1000000000000) (hn : n ≤ 1048576) :
    Calls Try.prog 54 #[.pointer (some ⟨b0, 0, none⟩), .pointer (some ⟨b1, 0, none⟩)] w fun e w' => e = .returned (.tuple #[]) ∧ w' = (w.setCell ⟨p, 131, none⟩ (.int .i64 ((r + n : Nat) : Int))).drew := by
  have hw : IntKind.i64.wrap ((r : Int) + (n : Int)) = (r : Int) + (n : Int) := by rw [IntKind.wrap_i64]; omega
  go_enter Try.func54, Try.ntmps54
  go_wp2_with fail
  go_region
  all_goals
    go_wp2_with fail
    go_end0
    exact ⟨rfl, rfl⟩

theorem grow_call (T : Nat → Prop) (w : World) (p : Nat) (S : DS) (n : Int) (hd : DK T w p S) (ho : Okay S) (hs : Small 10000000 1000000000000 S) (wq : World)
    (hwq : wq = (((((w.alloc (.cells #[.pointer (some ⟨p, 0, none⟩)] 25)).alloc (.cells #[.int .i64 n] 3)).alloc (.cells #[.pointer (some ⟨p, 0, none⟩)] 25)).alloc (.cells #[.int .i64 n] 3)).alloc (.cells #[.func (.func 66) #[] #[.pointer (some ⟨w.heap.size + 1 + 1 + 1, 0, none⟩), .pointer (some ⟨w.heap.size + 1 + 1, 0, none⟩)]] 69)).drew) :
    Calls Try.prog 33 #[.pointer (some ⟨p, 0, none⟩), .func (.func 54) #[] #[.pointer (some ⟨w.heap.size, 0, none⟩), .pointer (some ⟨w.heap.size + 1, 0, none⟩)], .slice (some ⟨w.heap.size + 1 + 1 + 1 + 1, 0, none⟩) 1 1] wq (fun e w' => WR T w p (growP S n) e w' ∧ Kp T wq w') := by
  obtain ⟨f66, hf66⟩ : ∃ f, f = Value.func (.func 66) #[] #[.pointer (some ⟨w.heap.size + 1 + 1 + 1, 0, none⟩), .pointer (some ⟨w.heap.size + 1 + 1, 0, none⟩)] := ⟨_, rfl⟩
  rw [← hf66] at hwq
  have hbel : Below w.heap.size w wq := by rw [hwq]; exact (alloc5 w _ _ _ _ _).drew
  have hT := hd.live
  have hG : ∀ k, w.heap.size ≤ k → ¬ T k := fun k hk h => by have := hT k h; omega
  have c0 : wq.cell? ⟨w.heap.size, 0, none⟩ = some (.pointer (some ⟨p, 0, none⟩)) := by
    rw [hwq]
    show (World.alloc _ _).cell? _ = _
    rw [cell_past _ _ _ _ (by simp <;> omega), cell_past _ _ _ _ (by simp <;> omega), cell_past _ _ _ _ (by simp <;> omega), cell_past _ _ _ _ (by simp), cell_alloc1 _ _ _ _ (by simp)]
  have c1 : wq.cell? ⟨w.heap.size + 1, 0, none⟩ = some (.int .i64 n) := by
    rw [hwq]
    show (World.alloc _ _).cell? _ = _
    rw [cell_past _ _ _ _ (by simp <;> omega), cell_past _ _ _ _ (by simp <;> omega), cell_past _ _ _ _ (by simp), cell_alloc1 _ _ _ _ (by simp)]
  have c2 : wq.cell? ⟨w.heap.size + 1 + 1, 0, none⟩ = some (.pointer (some ⟨p, 0, none⟩)) := by
    rw [hwq]
    show (World.alloc _ _).cell? _ = _
    rw [cell_past _ _ _ _ (by simp <;> omega), cell_past _ _ _ _ (by simp), cell_alloc1 _ _ _ _ (by simp)]
  have c3 : wq.cell? ⟨w.heap.size + 1 + 1 + 1, 0, none⟩ = some (.int .i64 n) := by
    rw [hwq]
    show (World.alloc _ _).cell? _ = _
    rw [cell_past _ _ _ _ (by simp), cell_alloc1 _ _ _ _ (by simp)]
  have hrf : RF wq (w.heap.size + 1 + 1 + 1 + 1) (.slice (some ⟨w.heap.size + 1 + 1 + 1 + 1, 0, none⟩) 1 1) [f66] := by
    rw [hwq]
    exact RF.one _ _ _ (by simp)
  clear hwq
  have hd2 := hd.later hbel
  obtain ⟨V, hv⟩ := hd2
  have hlive : ∀ k, T k → k < wq.heap.size := fun k hk => Nat.lt_of_lt_of_le (hT k hk) hbel.size
  have hpos := ho.pos
  have hW : ∀ w', WQ T wq p (growP S n) (growP S n).1 w' → WR T w p (growP S n) (.returned (.int .i64 (growP S n).1)) w' ∧ Kp T wq w' := fun w' h => by
    obtain ⟨h1, h2, h3⟩ := h.back hbel hT
    exact ⟨⟨rfl, h2, h3⟩, h.2.2⟩
  refine Calls.mono (call_any p S.n (w.heap.size + 1 + 1 + 1 + 1) _ _ [f66] _ (fun k w' => k = (growP S n).1 ∧ WR T w p (growP S n) (.returned (.int .i64 (growP S n).1)) w' ∧ Kp T wq w') hv.cnt (by omega) hrf ⟨66, #[], #[.pointer (some ⟨w.heap.size + 1 + 1 + 1, 0, none⟩), .pointer (some ⟨w.heap.size + 1 + 1, 0, none⟩)], hf66, ent66, Calls.mono (grows1_any p _ _ S.room n _ hs.room c3 c2 hv.rm) ?_⟩) ?_
  · rintro e w' ⟨rfl, q, rfl⟩
    have hvq : DV T (wq.drewN q) p S V := hv.later (below_drewN (Below.refl _ _) q)
    have hkq : Kp T wq (wq.drewN q) := (Kp.refl _ _).drewN q
    by_cases hg : 0 ≤ n ∧ n ≤ 1048576 - (S.room : Int)
    · have hA : growP S n = (0, { S with room := S.room + n.toNat }) := by unfold growP growsP; rw [if_pos hg, if_neg (by simp)]
      rw [hA] at hW ⊢
      refine ⟨0, by rw [if_pos hg], rfl, fun h => absurd rfl h, fun _ => ?_⟩
      obtain ⟨m, rfl⟩ : ∃ m : Nat, n = m := ⟨n.toNat, by omega⟩
      refine ⟨54, #[], #[.pointer (some ⟨w.heap.size, 0, none⟩), .pointer (some ⟨w.heap.size + 1, 0, none⟩)], rfl, ent54, Calls.mono (grow1_any p _ _ S.room m _ (hkq.cell c0 (hG w.heap.size (by omega))) (hkq.cell c1 (hG (w.heap.size + 1) (by omega))) (hvq.frozen _) hvq.rm hs.room (by omega)) ?_⟩
      rintro e w' ⟨rfl, rfl⟩
      exact ⟨rfl, rfl, hW _ (WQ.same ⟨V, (hvq.setRoom _).later (Below.refl _ _).drew⟩ ((hkq.set _ _ hv.own).drew) hlive)⟩
    · have hA : growP S n = (2, S) := by unfold growP growsP; rw [if_neg hg, if_pos (by decide)]
      rw [hA] at hW ⊢
      exact ⟨2, by rw [if_neg hg], rfl, fun _ => ⟨rfl, hW _ (WQ.same ⟨V, hvq⟩ hkq hlive)⟩, fun h => by cases h⟩
  · rintro e w' ⟨k, rfl, rfl, h⟩
    exact h

set_option maxRecDepth 1000000 in
set_option maxHeartbeats 1000000 in
theorem grow_any (T : Nat → Prop) (w : World) (p : Nat) (S : DS) (n : Int) (hd : DK T w p S) (ho : Okay S) (hs : Small 10000000 1000000000000 S) :
    Calls Try.prog 24 #[.pointer (some ⟨p, 0, none⟩), .int .i64 n] w (WR T w p (growP S n)) := by
  have HC : Hid _ := grow_call T w p S n hd ho hs _ rfl
  have hT := hd.live
  have hG0 : ¬ T w.heap.size := fun h => Nat.lt_irrefl _ (hT _ h)
  have hG1 : ¬ T (w.heap.size + 1) := fun h => by have := hT _ h; omega
  have HK : Hid (∀ w1 w2 : World, (w1.cell? ⟨w.heap.size, 0, none⟩ = some (.pointer (some ⟨p, 0, none⟩)) ∧ w1.cell? ⟨w.heap.size + 1, 0, none⟩ = some (.int .i64 n)) → Below w1.heap.size w1 w2 → (w2.cell? ⟨w.heap.size, 0, none⟩ = some (.pointer (some ⟨p, 0, none⟩)) ∧ w2.cell? ⟨w.heap.size + 1, 0, none⟩ = some (.int .i64 n))) := fun w1 w2 h hb => ⟨cell_later hb h.1, cell_later hb h.2⟩
  have HK2 : Hid (∀ w1 w2 : World, (w1.cell? ⟨w.heap.size, 0, none⟩ = some (.pointer (some ⟨p, 0, none⟩)) ∧ w1.cell? ⟨w.heap.size + 1, 0, none⟩ = some (.int .i64 n)) → Kp T w1 w2 → (w2.cell? ⟨w.heap.size, 0, none⟩ = some (.pointer (some ⟨p, 0, none⟩)) ∧ w2.cell? ⟨w.heap.size + 1, 0, none⟩ = some (.int .i64 n))) := fun w1 w2 h hb => ⟨hb.cell h.1 hG0, hb.cell h.2 hG1⟩
  have HS0 : Hid (((w.alloc (.cells #[.pointer (some ⟨p, 0, none⟩)] 25)).alloc (.cells #[.int .i64 n] 3)).drew.cell? ⟨w.heap.size, 0, none⟩ = some (.pointer (some ⟨p, 0, none⟩)) ∧ ((w.alloc (.cells #[.pointer (some ⟨p, 0, none⟩)] 25)).alloc (.cells #[.int .i64 n] 3)).drew.cell? ⟨w.heap.size + 1, 0, none⟩ = some (.int .i64 n)) := by
    refine ⟨?_, ?_⟩
    · show (World.alloc _ _).cell? _ = _
      rw [cell_past _ _ _ _ (by simp), cell_alloc1 _ _ _ _ (by simp)]
    · show (World.alloc _ _).cell? _ = _
      rw [cell_alloc1 _ _ _ _ (by simp)]
  generalize growP S n = res at *
  have hmf : ∀ (fn : Fn) (first cap : Array Value) (w : World), (Instr.makeFunc fn first cap).run Try.prog w = .ok (.func fn first cap) w := fun _ _ _ _ => rfl
  clear hd
  go_enter Try.func24, Try.ntmps24
  go_wp2_with fail
  go_region_held_law (fun w' => w'.cell? ⟨w.heap.size, 0, none⟩ = some (.pointer (some ⟨p, 0, none⟩)) ∧ w'.cell? ⟨w.heap.size + 1, 0, none⟩ = some (.int .i64 n)) (first | assumption | exact HS0.out | exact HK2.out _ _ ‹_› hk9 | exact HK.out _ _ ‹_› (alloc2 _ _ _) | exact HK.out _ _ ‹_› ((Below.refl _ _).alloc (Nat.le_refl _) _)) (first
    | (go_simp; go_at_call 55; refine Calls.mono (grows_any _ _ _) ?_; rintro e w2 ⟨rfl, rfl⟩)
    | (go_simp; go_at_call 33; refine Calls.mono HC.out ?_; rintro e w2 ⟨⟨rfl, h1, h2⟩, hk9⟩))
  all_goals
    go_wp2_with fail
    go_ret
    exact ⟨rfl, h1, h2⟩
end Go.Proofs.Ytbbmbjlpccdclaa
