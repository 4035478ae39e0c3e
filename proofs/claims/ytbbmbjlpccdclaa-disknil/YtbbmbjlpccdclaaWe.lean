/- The walks over disk.file's with, first, torn. -/
import Derived.Test.YtbbmbjlpccdclaaWd
namespace Go.Proofs.Ytbbmbjlpccdclaa
open Go.RowKit
set_option linter.unusedVariables false

theorem owns_slice {w : World} {B : Nat} {e : TypeId} {s : Nat} {v : Value} {n : Nat} {xs : List Value} (h : w.ownsRow B e s v n xs) : ∃ a c, v = .slice a n c ∧ n ≤ c ∧ c ≤ maxLen ∧ (a = none → c = 0) := by
  rcases h.2 with ⟨rfl, rfl⟩ | ⟨g, cap, cur, rfl, _, _, h1, h2, _⟩
  · exact ⟨none, 0, rfl, Nat.le_refl _, Nat.zero_le _, fun _ => rfl⟩
  · exact ⟨_, cap, rfl, h1, h2, fun h => by cases h⟩

/-- The first bytes of bytes of one's own. -/
theorem owns_first {w : World} {v : Value} {b : List UInt8} (h : w.ownsRow 0 5 1 v b.length (bvs b)) (n : Nat) (hn : n ≤ b.length) :
    ∃ V, (∀ wx, (Instr.sliceAt 33 v none (some (.int .i64 n)) none).run Try.prog wx = .ok V wx) ∧ w.ownsRow 0 5 1 V (b.take n).length (bvs (b.take n)) ∧ V.ownBlock = v.ownBlock := by
  have hl : (b.take n).length = n := by rw [List.length_take]; omega
  rw [hl, bvs_take]
  rcases h.2 with ⟨rfl, h0⟩ | ⟨g, cap, cur, rfl, hb, hg, h1, h2, h3, h4⟩
  · have hn0 : n = 0 := by omega
    subst hn0
    refine ⟨.slice none 0 0, fun wx => ?_, ⟨by simp, .inl ⟨rfl, rfl⟩⟩, rfl⟩
    rw [run_sliceAt_slice wx 33 _ _ _ _ Try.underlying33, run_slice_h wx 33 none _ 0 Try.underlying33 .i64 ((0 : Nat) : Int) (by omega) (by omega)]
    have : (sizeOf (Try.prog.elem 33)).run Try.prog wx = .ok 1 wx := by kernel_rfl
    rw [this]
    rfl
  · by_cases hc : cap = 0
    · subst hc
      have hn0 : n = 0 := by omega
      subst hn0
      refine ⟨.slice (some ⟨g, 0, none⟩) 0 0, fun wx => ?_, ⟨by simp, .inr ⟨g, 0, cur, rfl, hb, hg, by omega, h2, h3, by simp⟩⟩, rfl⟩
      rw [run_sliceAt_slice wx 33 _ _ _ _ Try.underlying33, run_slice_h wx 33 _ _ 0 Try.underlying33 .i64 ((0 : Nat) : Int) (by omega) (by omega)]
      have : (sizeOf (Try.prog.elem 33)).run Try.prog wx = .ok 1 wx := by kernel_rfl
      rw [this]
      rfl
    · refine ⟨.slice (some ⟨g, 0, none⟩) n cap, fun wx => ?_, ⟨by rw [List.length_take, bvs_len]; omega, .inr ⟨g, cap, cur, rfl, hb, hg, by omega, h2, h3, ?_⟩⟩, rfl⟩
      · rw [run_sliceAt_slice wx 33 _ _ _ _ Try.underlying33, run_slice_h wx 33 _ _ cap Try.underlying33 .i64 n (by omega) (by omega)]
        have : (sizeOf (Try.prog.elem 33)).run Try.prog wx = .ok 1 wx := by kernel_rfl
        rw [this]
        unfold sliced
        simp [hc, Go.WideShapes.add_plain]
      · rw [← h4, List.take_take, Nat.mul_one]
        congr 1
        omega

/-- A file as a result is read. -/
theorem retF {fn : Func} {p : Tmp} (h : fn.results = #[.cell p 52]) {a : Act} {w : World} {R : Ending → World → Prop} (b : Nat) (v0 v1 : Value) (hp : a.tmps.getD p undef = .pointer (some ⟨b, 0, none⟩)) (hd : a.defers = [])
    (hb : w.heap[b]? = some (.cells #[v0, v1] 52 (0, 0))) (hR : R (.returned (.agg #[v0, v1])) w) : bodyPost Try.prog fn R .ret a w :=
  bodyPost_ret_by (results_cell_row h _ _ b 52 _ (0, 0) _ hp hb Try.underlying52 rfl (by kernel_rfl)) hd hR

theorem heap_new (w : World) (o : Obj) (k : Nat) (hk : k = w.heap.size) : (w.alloc o).heap[k]? = some o := by subst hk; exact heap_alloc_new _ _

theorem owns_later {w w' : World} {B : Nat} {e : TypeId} {size : Nat} {v : Value} {n : Nat} {xs : List Value} (ho : w.ownsRow B e size v n xs) (hb : Below w.heap.size w w') : w'.ownsRow B e size v n xs :=
  owns_kept (Kp.of_below (fun _ => False) hb) ho (fun _ _ h => h)

theorem alloc2 (w : World) (o o' : Obj) : Below w.heap.size w ((w.alloc o).alloc o') := ((Below.refl _ _).alloc (Nat.le_refl _) o).alloc (by simp) o'

theorem Kp.set2 (w : World) (g : Nat) (a b : Value) : Kp (fun k => k = g) w ((w.setCell ⟨g, 0, none⟩ a).setCell ⟨g, 1, none⟩ b) := by
  have h1 : Kp (fun k => k = g) w (w.setCell ⟨g, 0, none⟩ a) := (Kp.refl _ _).set _ _ rfl
  exact h1.set _ _ rfl

theorem rowF {w : World} {g : Nat} {v0 v1 : Value} (h : w.heap[g]? = some (.cells #[v0, v1] 52 (0, 0))) : w.cell? ⟨g, 0, none⟩ = some v0 ∧ w.cell? ⟨g, 1, none⟩ = some v1 ∧ ∀ o, w.frozen? ⟨g, o, none⟩ = false :=
  ⟨by rw [cell_of_row _ _ _ _ 52 (0, 0) h]; rfl, by rw [cell_of_row _ _ _ _ 52 (0, 0) h]; rfl, fun o => frozen_of_row _ _ _ _ 52 h⟩

theorem setF {w : World} {g : Nat} {v0 v1 : Value} (h : w.heap[g]? = some (.cells #[v0, v1] 52 (0, 0))) (a b : Value) : ((w.setCell ⟨g, 0, none⟩ a).setCell ⟨g, 1, none⟩ b).heap[g]? = some (.cells #[a, b] 52 (0, 0)) := by
  rw [heap_setCell_same _ _ _ _ 52 _ (heap_setCell_same _ _ _ _ 52 _ h)]
  rfl

set_option maxRecDepth 1000000 in
set_option maxHeartbeats 1000000 in
theorem first_any (v : Value) (b : List UInt8) (s n : Nat) (w : World) (h : w.ownsRow 0 5 1 v b.length (bvs b)) (hn : n ≤ b.length) :
    Calls Try.prog 48 #[.agg #[v, .int .i64 s], .int .i64 n] w fun e w' => ∃ V, e = .returned (.agg #[V, .int .i64 n]) ∧ w'.ownsRow 0 5 1 V (b.take n).length (bvs (b.take n)) ∧ V.ownBlock = v.ownBlock ∧ Below w.heap.size w w' := by
  obtain ⟨V, hrun, hown, hblk⟩ := owns_first h n hn
  obtain ⟨a, c, rfl, _, _, _⟩ := owns_slice h
  have HO : Hid (w.ownsRow 0 5 1 V (b.take n).length (bvs (b.take n))) := hown
  have HB : Hid (V.ownBlock = (Value.slice a b.length c).ownBlock) := hblk
  obtain ⟨a2, c2, rfl, _, _, _⟩ := owns_slice hown
  clear hown hblk h
  generalize (b.take n).length = m at *
  go_enter Try.func48, Try.ntmps48
  go_wp2_with fail
  exact retF rfl (w.heap.size + 1) _ _ rfl rfl (heap_new _ _ _ (by simp)) ⟨_, rfl, owns_later HO.out (alloc2 _ _ _), HB.out, alloc2 _ _ _⟩

set_option maxRecDepth 1000000 in
set_option maxHeartbeats 1000000 in
theorem torn_any (v : Value) (b : List UInt8) (s : Nat) (k : Int) (w : World) (h : w.ownsRow 0 5 1 v b.length (bvs b)) (hs : s ≤ b.length) (hl : b.length ≤ 10000000) :
    Calls Try.prog 41 #[.agg #[v, .int .i64 s], .int .i64 k] w fun e w' => ∃ V, e = .returned (.agg #[V, .int .i64 (tornN k ⟨b, s⟩)]) ∧ w'.ownsRow 0 5 1 V (b.take (tornN k ⟨b, s⟩)).length (bvs (b.take (tornN k ⟨b, s⟩))) ∧ V.ownBlock = v.ownBlock ∧ Below w.heap.size w w' := by
  obtain ⟨a, c, rfl, _, _, _⟩ := owns_slice h
  have hT := tornN_le k ⟨b, s⟩ hs
  have HC : Hid (∀ (e0 : Int) wx, e0 = tornN k ⟨b, s⟩ → Below w.heap.size w wx → Calls Try.prog 48 #[.agg #[.slice a b.length c, .int .i64 s], .int .i64 e0] wx fun e w' => ∃ V, e = .returned (.agg #[V, .int .i64 (tornN k ⟨b, s⟩)]) ∧ w'.ownsRow 0 5 1 V (b.take (tornN k ⟨b, s⟩)).length (bvs (b.take (tornN k ⟨b, s⟩))) ∧ V.ownBlock = (Value.slice a b.length c).ownBlock ∧ Below wx.heap.size wx w') :=
    fun e0 wx he hb => by subst he; exact first_any _ b s _ wx (owns_later h hb) hT.2
  have HN : Hid ((tornN k ⟨b, s⟩ : Int) = s + min (max k 0) (b.length - s)) := by
    show _ = _
    unfold tornN
    simp only []
    omega
  have HV : Hid (∀ g, (Value.slice a b.length c).ownBlock = some g → g < w.heap.size) := fun g hg => (h.lt g hg).2
  generalize tornN k ⟨b, s⟩ = q at *
  clear h
  generalize b.length = bl at *
  go_enter Try.func41, Try.ntmps41
  go_wp2_with fail
  all_goals
    refine Calls.mono (HC.out _ _ (by have := HN.out; omega) (alloc2 _ _ _)) ?_
    rintro e w2 ⟨V, rfl, ho2, hb2, hbel⟩
    obtain ⟨a2, c2, rfl, _, _, _⟩ := owns_slice ho2
    have HO : Hid (w2.ownsRow 0 5 1 (.slice a2 (b.take q).length c2) (b.take q).length (bvs (b.take q))) := ho2
    have HB : Hid ((Value.slice a2 (b.take q).length c2).ownBlock = (Value.slice a bl c).ownBlock) := hb2
    have HL : Hid (Below w.heap.size w w2) := (alloc2 _ _ _).trans (hbel.mono (by simp; omega))
    have hrow : w2.heap[w.heap.size + 1]? = some (.cells #[.slice none 0 0, .int .i64 0] 52 (0, 0)) := by
      rw [hbel.block _ (by simp)]
      exact heap_new _ _ _ (by simp)
    obtain ⟨hr0, hr1, hrf⟩ := rowF hrow
    have HR : Hid (w2.heap[w.heap.size + 1]? = some (.cells #[.slice none 0 0, .int .i64 0] 52 (0, 0))) := hrow
    clear ho2 hb2 hbel HC HN hrow
    obtain ⟨m, HM⟩ : ∃ m, Hid ((b.take q).length = m) := ⟨_, rfl⟩
    rw [HM.out] at HO HB
    simp only [HM.out]
    go_wp2_with fail
    exact retF rfl (w.heap.size + 1) _ _ rfl rfl (setF HR.out _ _) ⟨_, rfl, by rw [HM.out]; exact owns_kept (T := fun k => k = w.heap.size + 1) (Kp.set2 _ _ _ _) HO.out (fun g hg => by rw [HB.out] at hg; have := HV.out g hg; omega), HB.out, (HL.out.setCell (by simp) _).setCell (by simp) _⟩
end Go.Proofs.Ytbbmbjlpccdclaa
