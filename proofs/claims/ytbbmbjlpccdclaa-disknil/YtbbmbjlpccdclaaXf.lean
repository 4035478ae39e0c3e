/- The walks over the laws' step: Sync, Cut, Arm, Grow. -/
import Derived.Test.YtbbmbjlpccdclaaXe
import Derived.Test.YtbbmbjlpccdclaaXd
namespace Go.Proofs.Ytbbmbjlpccdclaa
open Go.RowKit
set_option linter.unusedVariables false

/-- A call of both disks, answered alike. -/
def StepC (T : Nat → Prop) (w : World) (p r g : Nat) (S' : DS) (e : Ending) (w' : World) : Prop := e = .returned (.bool true) ∧ DK (Wid T w w') w' p S' ∧ RV w' r g S' ∧ Kp (fun k => T k ∨ k = r ∨ k = g) w w'

theorem two_done {T : Nat → Prop} {w wq w2 w3 : World} {p r g : Nat} {S' : DS} (hb : Below w.heap.size w wq) (hT : ∀ k, T k → k < w.heap.size) (hr : r < w.heap.size) (hg : g < w.heap.size) (hnr : ¬ T r) (hng : ¬ T g)
    (h1 : DK (Wid T wq w2) w2 p S') (h2 : Kp T wq w2) (h3 : RV w3 r g S') (h4 : Kp (fun k => k = r ∨ k = g) w2 w3) : StepC T w p r g S' (.returned (.bool true)) w3 := by
  have hz := hb.size
  have hz2 := h2.size
  have hz4 := h4.size
  refine ⟨rfl, ?_, h3, ?_⟩
  · have hk : DK (Wid T wq w2) w3 p S' := h1.kept h4 (fun k hk he => by
      rcases hk with hk | hk
      · rcases he with he | he
        · exact hnr (he ▸ hk)
        · exact hng (he ▸ hk)
      · rcases he with he | he <;> omega)
    refine hk.wide (fun k hk => ?_) (fun k hk => ?_)
    · rcases hk with hk | hk
      · exact .inl hk
      · exact .inr ⟨by omega, by omega⟩
    · rcases hk with hk | hk
      · have := hT k hk; omega
      · exact hk.2
  · exact ((Kp.of_below _ hb).trans (h2.mono (fun k hk => (.inl hk : T k ∨ k = r ∨ k = g))) (fun x hx _ => hx)).trans (h4.mono (fun k hk => (.inr hk : T k ∨ k = r ∨ k = g))) (fun x hx _ => hx)

theorem box5 (w : World) (a b c d e : Value) : (w.alloc (.cells #[a, b, c, d, e] 36)).heap[w.heap.size]? = some (.cells #[a, b, c, d, e] 36 (0, 0)) := heap_alloc_new _ _

set_option maxRecDepth 1000000 in
set_option maxHeartbeats 2000000 in
theorem step_sync (T : Nat → Prop) (w : World) (p r g : Nat) (S : DS) (i n : Int) (bv kv : Value) (hd : DK T w p S) (hr : RV w r g S) (ho : Okay S) (hs : Small 10000000 1000000000000 S) (hnr : ¬ T r) (hng : ¬ T g) (ha : bv.oneCell' = true) (hk : kv.oneCell' = true) :
    Calls Try.prog 12 #[.pointer (some ⟨p, 0, none⟩), .pointer (some ⟨r, 0, none⟩), .agg #[.int .i64 1, .int .i64 i, .int .i64 n, bv, kv]] w (StepC T w p r g (syncP S i).2) := by
  have hb0 : Below w.heap.size w (w.alloc (.cells #[.int .i64 1, .int .i64 i, .int .i64 n, bv, kv] 36)).drew := ((Below.refl _ _).alloc (Nat.le_refl _) _).drew
  have hT := hd.live
  have hrl := hr.rlt
  have hG : ¬ T w.heap.size := fun h => Nat.lt_irrefl _ (hT _ h)
  have HC1 : Hid _ := sync_any T _ p S i (hd.later hb0) ho hs
  have HC2 : Hid (∀ w2, Kp T (w.alloc (.cells #[.int .i64 1, .int .i64 i, .int .i64 n, bv, kv] 36)).drew w2 → Calls Try.prog 27 #[.pointer (some ⟨r, 0, none⟩), .int .i64 i] w2 (RR r g w2 (syncP S i))) := fun w2 hk2 => rsync_any i (((hr.later hb0).kept hk2 hnr hng)) ho hs
  have HK : Hid (∀ (T' : Nat → Prop) (w1 w2 : World), ¬ T' w.heap.size → (w1.cell? ⟨w.heap.size, 1, none⟩ = some (.int .i64 i)) → Kp T' w1 w2 → (w2.cell? ⟨w.heap.size, 1, none⟩ = some (.int .i64 i))) := fun T' w1 w2 hn h hk => hk.cell h hn
  have HS0 : Hid ((w.alloc (.cells #[.int .i64 1, .int .i64 i, .int .i64 n, bv, kv] 36)).drew.cell? ⟨w.heap.size, 1, none⟩ = some (.int .i64 i)) := by
    have hh := box5 w (.int .i64 1) (.int .i64 i) (.int .i64 n) bv kv
    exact (cell_of_row _ _ _ _ 36 (0, 0) hh)
  obtain ⟨res, HRes⟩ : ∃ res, Hid (res = syncP S i) := ⟨_, rfl⟩
  rw [← HRes.out] at HC1 HC2 ⊢
  have HFin : Hid (∀ w2 w3, DK (Wid T (w.alloc (.cells #[.int .i64 1, .int .i64 i, .int .i64 n, bv, kv] 36)).drew w2) w2 p res.2 → Kp T (w.alloc (.cells #[.int .i64 1, .int .i64 i, .int .i64 n, bv, kv] 36)).drew w2 → RV w3 r g res.2 → Kp (fun k => k = r ∨ k = g) w2 w3 → StepC T w p r g res.2 (.returned (.bool true)) w3) := fun w2 w3 h1 h2 h3 h4 => two_done hb0 hT hrl.1 hrl.2 hnr hng h1 h2 h3 h4
  have hGr : ¬ (w.heap.size = r ∨ w.heap.size = g) := by omega
  clear hd hr ho hs HRes hb0 hT hrl
  go_enter Try.func12, Try.ntmps12
  go_wp2_with fail
  go_region_held_law (fun w' => (w'.cell? ⟨w.heap.size, 1, none⟩ = some (.int .i64 i))) (first | assumption | exact HS0.out | exact HK.out _ _ _ hGr ‹_› hk3 | exact HK.out _ _ _ hG ‹_› hk2) (first
    | (go_simp; go_at_call 22; refine Calls.mono HC1.out ?_; rintro e w2 ⟨rfl, hd2, hk2⟩)
    | (go_simp; go_at_call 27; refine Calls.mono (HC2.out _ hk2) ?_; rintro e w3 ⟨rfl, hr3, hk3⟩))
  all_goals
    go_wp2_with fail
    go_ret
    first | exact HFin.out _ _ hd2 hk2 hr3 hk3 | (have := HFin.out _ _ hd2 hk2 hr3 hk3; simpa using this)

set_option maxRecDepth 1000000 in
set_option maxHeartbeats 2000000 in
theorem step_cut (T : Nat → Prop) (w : World) (p r g : Nat) (S : DS) (i n : Int) (bv kv : Value) (hd : DK T w p S) (hr : RV w r g S) (ho : Okay S) (hs : Small 10000000 1000000000000 S) (hnr : ¬ T r) (hng : ¬ T g) (ha : bv.oneCell' = true) (hk : kv.oneCell' = true) :
    Calls Try.prog 12 #[.pointer (some ⟨p, 0, none⟩), .pointer (some ⟨r, 0, none⟩), .agg #[.int .i64 2, .int .i64 i, .int .i64 n, bv, kv]] w (StepC T w p r g (cutP S i n).2) := by
  have hb0 : Below w.heap.size w (w.alloc (.cells #[.int .i64 2, .int .i64 i, .int .i64 n, bv, kv] 36)).drew := ((Below.refl _ _).alloc (Nat.le_refl _) _).drew
  have hT := hd.live
  have hrl := hr.rlt
  have hG : ¬ T w.heap.size := fun h => Nat.lt_irrefl _ (hT _ h)
  have HC1 : Hid _ := cut_any T _ p S i n (hd.later hb0) ho hs
  have HC2 : Hid (∀ w2, Kp T (w.alloc (.cells #[.int .i64 2, .int .i64 i, .int .i64 n, bv, kv] 36)).drew w2 → Calls Try.prog 28 #[.pointer (some ⟨r, 0, none⟩), .int .i64 i, .int .i64 n] w2 (RR r g w2 (cutP S i n))) := fun w2 hk2 => rcut_any i n (((hr.later hb0).kept hk2 hnr hng)) ho hs
  have HK : Hid (∀ (T' : Nat → Prop) (w1 w2 : World), ¬ T' w.heap.size → (w1.cell? ⟨w.heap.size, 1, none⟩ = some (.int .i64 i) ∧ w1.cell? ⟨w.heap.size, 2, none⟩ = some (.int .i64 n)) → Kp T' w1 w2 → (w2.cell? ⟨w.heap.size, 1, none⟩ = some (.int .i64 i) ∧ w2.cell? ⟨w.heap.size, 2, none⟩ = some (.int .i64 n))) := fun T' w1 w2 hn h hk => ⟨hk.cell h.1 hn, hk.cell h.2 hn⟩
  have HS0 : Hid ((w.alloc (.cells #[.int .i64 2, .int .i64 i, .int .i64 n, bv, kv] 36)).drew.cell? ⟨w.heap.size, 1, none⟩ = some (.int .i64 i) ∧ (w.alloc (.cells #[.int .i64 2, .int .i64 i, .int .i64 n, bv, kv] 36)).drew.cell? ⟨w.heap.size, 2, none⟩ = some (.int .i64 n)) := by
    have hh := box5 w (.int .i64 2) (.int .i64 i) (.int .i64 n) bv kv
    exact ⟨(cell_of_row _ _ _ _ 36 (0, 0) hh), (cell_of_row _ _ _ _ 36 (0, 0) hh)⟩
  obtain ⟨res, HRes⟩ : ∃ res, Hid (res = cutP S i n) := ⟨_, rfl⟩
  rw [← HRes.out] at HC1 HC2 ⊢
  have HFin : Hid (∀ w2 w3, DK (Wid T (w.alloc (.cells #[.int .i64 2, .int .i64 i, .int .i64 n, bv, kv] 36)).drew w2) w2 p res.2 → Kp T (w.alloc (.cells #[.int .i64 2, .int .i64 i, .int .i64 n, bv, kv] 36)).drew w2 → RV w3 r g res.2 → Kp (fun k => k = r ∨ k = g) w2 w3 → StepC T w p r g res.2 (.returned (.bool true)) w3) := fun w2 w3 h1 h2 h3 h4 => two_done hb0 hT hrl.1 hrl.2 hnr hng h1 h2 h3 h4
  have hGr : ¬ (w.heap.size = r ∨ w.heap.size = g) := by omega
  clear hd hr ho hs HRes hb0 hT hrl
  go_enter Try.func12, Try.ntmps12
  go_wp2_with fail
  go_region_held_law (fun w' => (w'.cell? ⟨w.heap.size, 1, none⟩ = some (.int .i64 i) ∧ w'.cell? ⟨w.heap.size, 2, none⟩ = some (.int .i64 n))) (first | assumption | exact HS0.out | exact HK.out _ _ _ hGr ‹_› hk3 | exact HK.out _ _ _ hG ‹_› hk2) (first
    | (go_simp; go_at_call 21; refine Calls.mono HC1.out ?_; rintro e w2 ⟨rfl, hd2, hk2⟩)
    | (go_simp; go_at_call 28; refine Calls.mono (HC2.out _ hk2) ?_; rintro e w3 ⟨rfl, hr3, hk3⟩))
  all_goals
    go_wp2_with fail
    go_ret
    first | exact HFin.out _ _ hd2 hk2 hr3 hk3 | (have := HFin.out _ _ hd2 hk2 hr3 hk3; simpa using this)

set_option maxRecDepth 1000000 in
set_option maxHeartbeats 2000000 in
theorem step_arm (T : Nat → Prop) (w : World) (p r g : Nat) (S : DS) (i n : Int) (bv kv : Value) (hd : DK T w p S) (hr : RV w r g S) (ho : Okay S) (hs : Small 10000000 1000000000000 S) (hnr : ¬ T r) (hng : ¬ T g) (ha : bv.oneCell' = true) (hk : kv.oneCell' = true) :
    Calls Try.prog 12 #[.pointer (some ⟨p, 0, none⟩), .pointer (some ⟨r, 0, none⟩), .agg #[.int .i64 3, .int .i64 i, .int .i64 n, bv, kv]] w (StepC T w p r g (armP S n).2) := by
  have hb0 : Below w.heap.size w (w.alloc (.cells #[.int .i64 3, .int .i64 i, .int .i64 n, bv, kv] 36)).drew := ((Below.refl _ _).alloc (Nat.le_refl _) _).drew
  have hT := hd.live
  have hrl := hr.rlt
  have hG : ¬ T w.heap.size := fun h => Nat.lt_irrefl _ (hT _ h)
  have HC1 : Hid _ := arm_any T _ p S n (hd.later hb0) ho
  have HC2 : Hid (∀ w2, Kp T (w.alloc (.cells #[.int .i64 3, .int .i64 i, .int .i64 n, bv, kv] 36)).drew w2 → Calls Try.prog 29 #[.pointer (some ⟨r, 0, none⟩), .int .i64 n] w2 (RR r g w2 (armP S n))) := fun w2 hk2 => rarm_any r g S n w2 (((hr.later hb0).kept hk2 hnr hng))
  have HK : Hid (∀ (T' : Nat → Prop) (w1 w2 : World), ¬ T' w.heap.size → (w1.cell? ⟨w.heap.size, 2, none⟩ = some (.int .i64 n)) → Kp T' w1 w2 → (w2.cell? ⟨w.heap.size, 2, none⟩ = some (.int .i64 n))) := fun T' w1 w2 hn h hk => hk.cell h hn
  have HS0 : Hid ((w.alloc (.cells #[.int .i64 3, .int .i64 i, .int .i64 n, bv, kv] 36)).drew.cell? ⟨w.heap.size, 2, none⟩ = some (.int .i64 n)) := by
    have hh := box5 w (.int .i64 3) (.int .i64 i) (.int .i64 n) bv kv
    exact (cell_of_row _ _ _ _ 36 (0, 0) hh)
  obtain ⟨res, HRes⟩ : ∃ res, Hid (res = armP S n) := ⟨_, rfl⟩
  rw [← HRes.out] at HC1 HC2 ⊢
  have HFin : Hid (∀ w2 w3, DK (Wid T (w.alloc (.cells #[.int .i64 3, .int .i64 i, .int .i64 n, bv, kv] 36)).drew w2) w2 p res.2 → Kp T (w.alloc (.cells #[.int .i64 3, .int .i64 i, .int .i64 n, bv, kv] 36)).drew w2 → RV w3 r g res.2 → Kp (fun k => k = r ∨ k = g) w2 w3 → StepC T w p r g res.2 (.returned (.bool true)) w3) := fun w2 w3 h1 h2 h3 h4 => two_done hb0 hT hrl.1 hrl.2 hnr hng h1 h2 h3 h4
  have hGr : ¬ (w.heap.size = r ∨ w.heap.size = g) := by omega
  clear hd hr ho hs HRes hb0 hT hrl
  go_enter Try.func12, Try.ntmps12
  go_wp2_with fail
  go_region_held_law (fun w' => (w'.cell? ⟨w.heap.size, 2, none⟩ = some (.int .i64 n))) (first | assumption | exact HS0.out | exact HK.out _ _ _ hGr ‹_› hk3 | exact HK.out _ _ _ hG ‹_› hk2) (first
    | (go_simp; go_at_call 20; refine Calls.mono HC1.out ?_; rintro e w2 ⟨rfl, hd2, hk2⟩)
    | (go_simp; go_at_call 29; refine Calls.mono (HC2.out _ hk2) ?_; rintro e w3 ⟨rfl, hr3, hk3⟩))
  all_goals
    go_wp2_with fail
    go_ret
    first | exact HFin.out _ _ hd2 hk2 hr3 hk3 | (have := HFin.out _ _ hd2 hk2 hr3 hk3; simpa using this)

set_option maxRecDepth 1000000 in
set_option maxHeartbeats 2000000 in
theorem step_grow (T : Nat → Prop) (w : World) (p r g : Nat) (S : DS) (i n : Int) (bv kv : Value) (hd : DK T w p S) (hr : RV w r g S) (ho : Okay S) (hs : Small 10000000 1000000000000 S) (hnr : ¬ T r) (hng : ¬ T g) (ha : bv.oneCell' = true) (hk : kv.oneCell' = true) :
    Calls Try.prog 12 #[.pointer (some ⟨p, 0, none⟩), .pointer (some ⟨r, 0, none⟩), .agg #[.int .i64 5, .int .i64 i, .int .i64 n, bv, kv]] w (StepC T w p r g (growP S n).2) := by
  have hb0 : Below w.heap.size w (w.alloc (.cells #[.int .i64 5, .int .i64 i, .int .i64 n, bv, kv] 36)).drew := ((Below.refl _ _).alloc (Nat.le_refl _) _).drew
  have hT := hd.live
  have hrl := hr.rlt
  have hG : ¬ T w.heap.size := fun h => Nat.lt_irrefl _ (hT _ h)
  have HC1 : Hid _ := grow_any T _ p S n (hd.later hb0) ho hs
  have HC2 : Hid (∀ w2, Kp T (w.alloc (.cells #[.int .i64 5, .int .i64 i, .int .i64 n, bv, kv] 36)).drew w2 → Calls Try.prog 31 #[.pointer (some ⟨r, 0, none⟩), .int .i64 n] w2 (RR r g w2 (growP S n))) := fun w2 hk2 => rgrow_any r g S n w2 (((hr.later hb0).kept hk2 hnr hng)) hs.room
  have HK : Hid (∀ (T' : Nat → Prop) (w1 w2 : World), ¬ T' w.heap.size → (w1.cell? ⟨w.heap.size, 2, none⟩ = some (.int .i64 n)) → Kp T' w1 w2 → (w2.cell? ⟨w.heap.size, 2, none⟩ = some (.int .i64 n))) := fun T' w1 w2 hn h hk => hk.cell h hn
  have HS0 : Hid ((w.alloc (.cells #[.int .i64 5, .int .i64 i, .int .i64 n, bv, kv] 36)).drew.cell? ⟨w.heap.size, 2, none⟩ = some (.int .i64 n)) := by
    have hh := box5 w (.int .i64 5) (.int .i64 i) (.int .i64 n) bv kv
    exact (cell_of_row _ _ _ _ 36 (0, 0) hh)
  obtain ⟨res, HRes⟩ : ∃ res, Hid (res = growP S n) := ⟨_, rfl⟩
  rw [← HRes.out] at HC1 HC2 ⊢
  have HFin : Hid (∀ w2 w3, DK (Wid T (w.alloc (.cells #[.int .i64 5, .int .i64 i, .int .i64 n, bv, kv] 36)).drew w2) w2 p res.2 → Kp T (w.alloc (.cells #[.int .i64 5, .int .i64 i, .int .i64 n, bv, kv] 36)).drew w2 → RV w3 r g res.2 → Kp (fun k => k = r ∨ k = g) w2 w3 → StepC T w p r g res.2 (.returned (.bool true)) w3) := fun w2 w3 h1 h2 h3 h4 => two_done hb0 hT hrl.1 hrl.2 hnr hng h1 h2 h3 h4
  have hGr : ¬ (w.heap.size = r ∨ w.heap.size = g) := by omega
  clear hd hr ho hs HRes hb0 hT hrl
  go_enter Try.func12, Try.ntmps12
  go_wp2_with fail
  go_region_held_law (fun w' => (w'.cell? ⟨w.heap.size, 2, none⟩ = some (.int .i64 n))) (first | assumption | exact HS0.out | exact HK.out _ _ _ hGr ‹_› hk3 | exact HK.out _ _ _ hG ‹_› hk2) (first
    | (go_simp; go_at_call 24; refine Calls.mono HC1.out ?_; rintro e w2 ⟨rfl, hd2, hk2⟩)
    | (go_simp; go_at_call 31; refine Calls.mono (HC2.out _ hk2) ?_; rintro e w3 ⟨rfl, hr3, hk3⟩))
  all_goals
    go_wp2_with fail
    go_ret
    first | exact HFin.out _ _ hd2 hk2 hr3 hk3 | (have := HFin.out _ _ hd2 hk2 hr3 hk3; simpa using this)

end Go.Proofs.Ytbbmbjlpccdclaa
