/- The program's Turn. -/
import Derived.Test.YtdbohfpkhidfiaaDoorRRPf
namespace Go.Proofs.YtdbohfpkhidfiaaDoorRR
open Go.RowKit

/-- A row of arcs of the call's own, in a block. -/
structure RowA (wc : World) (b : Nat) (R : List (Int × Int)) : Prop where
  row : wc.heap[b]? = some (.cells (avs R).toArray 46 (0, 0))

theorem RowA.get {wc : World} {b : Nat} {R : List (Int × Int)} (h : RowA wc b R) (t : Nat) (ht : t < R.length) : (∃ x, wc.cell? ⟨b, t * 2, none⟩ = some x) ∧ (∃ x, wc.cell? ⟨b, t * 2 + 1, none⟩ = some x) ∧ wc.frozen? ⟨b, t * 2, none⟩ = false ∧ wc.frozen? ⟨b, t * 2 + 1, none⟩ = false := by
  have hl := avs_len R
  refine ⟨⟨(avs R)[t * 2]'(by omega), ?_⟩, ⟨(avs R)[t * 2 + 1]'(by omega), ?_⟩, froz_row h.row _, froz_row h.row _⟩
  · rw [cell_row h.row, List.getElem?_toArray, List.getElem?_eq_getElem]
  · rw [cell_row h.row, List.getElem?_toArray, List.getElem?_eq_getElem]

theorem avs_set : ∀ (R : List (Int × Int)) (t : Nat) (p : Int × Int), ((avs R).set (t * 2) (.int .i64 p.1)).set (t * 2 + 1) (.int .i64 p.2) = avs (R.set t p) := by
  intro R
  induction R with
  | nil => intro t p; rfl
  | cons q R ih =>
    intro t p
    cases t with
    | zero => rfl
    | succ t =>
      have h1 : (t + 1) * 2 = t * 2 + 1 + 1 := by omega
      have h2 : (t + 1) * 2 + 1 = (t * 2 + 1) + 1 + 1 := by omega
      rw [h2, h1]
      simp only [avs, av, List.cons_append, List.nil_append, List.set_cons_succ, ih t p]

theorem RowA.set {wc : World} {b : Nat} {R : List (Int × Int)} (h : RowA wc b R) (t : Nat) (p : Int × Int) : RowA ((wc.setCell ⟨b, t * 2, none⟩ (.int .i64 p.1)).setCell ⟨b, t * 2 + 1, none⟩ (.int .i64 p.2)) b (R.set t p) := by
  refine ⟨?_⟩
  have h1 := row_set (row_set h.row (t * 2) (.int .i64 p.1)) (t * 2 + 1) (.int .i64 p.2)
  rw [List.setIfInBounds_toArray, List.setIfInBounds_toArray, avs_set] at h1
  exact h1

theorem avs_zero (m : Nat) : avs (List.replicate m (0, 0)) = List.replicate (m * 2) (Value.int .i64 0) := by
  induction m with
  | zero => rfl
  | succ m ih =>
    rw [List.replicate_succ, show (m + 1) * 2 = m * 2 + 1 + 1 by omega, List.replicate_succ, List.replicate_succ]
    simp only [avs, av, ih, List.cons_append, List.nil_append]

theorem made_arcs (m : Nat) : madeCells #[Value.int .i64 0, Value.int .i64 0] (m * 2) = (avs (List.replicate m (0, 0))).toArray := by
  apply Array.toList_inj.1
  rw [avs_zero]
  apply List.ext_getElem?
  intro j
  by_cases hj : j < m * 2
  · rcases Nat.mod_two_eq_zero_or_one j with h | h <;> simp [madeCells, hj, h]
  · simp [madeCells, hj]

def turnTo (l : List (Int × Int)) (k : Nat) : List (Int × Int) := swapA (l.take k) ++ List.replicate (l.length - k) (0, 0)

theorem turnTo_len (l : List (Int × Int)) (k : Nat) (hk : k ≤ l.length) : (turnTo l k).length = l.length := by simp [turnTo, swapA]; omega

theorem turnTo_step (l : List (Int × Int)) (k : Nat) (p : Int × Int) (hx : l[k]? = some p) : (turnTo l k).set k (p.2, p.1) = turnTo l (k + 1) := by
  have hk := (List.getElem?_eq_some_iff.1 hx).1
  unfold turnTo
  have hl : (swapA (l.take k)).length = k := by simp [swapA]; omega
  rw [List.set_append_right _ _ (by omega), hl, Nat.sub_self, show l.length - k = (l.length - (k + 1)) + 1 by omega, List.replicate_succ, List.set_cons_zero, List.take_add_one, hx]
  simp [swapA]

theorem RowA.rd {wc : World} {b : Nat} {R : List (Int × Int)} (h : RowA wc b R) (hs : Small R) : RdA wc (.slice (some ⟨b, 0, none⟩) R.length R.length) R := by
  refine ⟨_, _, rfl, Nat.le_refl _, hs, fun i p hi => ⟨b, 0, rfl, ?_, ?_⟩⟩
  · rw [Nat.zero_add, cell_row h.row, List.getElem?_toArray]
    exact (avs_at R i 0 p hi (by omega)).trans rfl
  · rw [Nat.zero_add, cell_row h.row, List.getElem?_toArray]
    exact (avs_at R i 1 p hi (by omega)).trans rfl

set_option maxRecDepth 1000000 in
set_option maxHeartbeats 1000000 in
theorem Turn_any (v : Value) (l : List (Int × Int)) (w : World) (hl : RdA w v l) (hn : l.length ≤ 8192) :
    Calls Tryd.prog 16 #[v] w fun e w' => Below w.heap.size w w' ∧ ∃ u, e = .returned u ∧ RdA w' u (swapA l) := by
  obtain ⟨i0, hi0, hz0, hz1, hz2⟩ := info_parts Tryd.info46
  obtain ⟨a, cap, rfl, hc, hs, hr⟩ := hl
  have HR : Hid _ := hr
  have HS : Hid (Small l) := hs
  obtain ⟨n, HN⟩ : ∃ n, Hid (l.length = n) := ⟨_, rfl⟩
  rw [HN.out] at hn hc ⊢
  have hmk := run_make (P := Tryd.prog) w 22 46 i0 _ Tryd.underlying22 hi0 hz0 .i64 .i64 (n : Int) (n : Int) (by omega) (by omega) (by rw [hz2]; omega) (by omega)
  simp only [hz1, Int.toNat_natCast] at hmk
  have HRow0 : Hid (RowA (w.alloc (.cells (madeCells #[Value.int .i64 0, Value.int .i64 0] (n * 2)) 46)) w.heap.size (turnTo l 0)) := by
    have h0 : turnTo l 0 = List.replicate n (0, 0) := by unfold turnTo; rw [HN.out]; simp [swapA]
    show RowA _ _ _
    rw [h0]
    exact ⟨by rw [← made_arcs]; exact row_new w _ 46⟩
  have HB0 : Hid (Below w.heap.size w (w.alloc (.cells (madeCells #[Value.int .i64 0, Value.int .i64 0] (n * 2)) 46))) := (Below.refl _ _).alloc (Nat.le_refl _) _
  have HZ0 : Hid (w.heap.size < (w.alloc (.cells (madeCells #[Value.int .i64 0, Value.int .i64 0] (n * 2)) 46)).heap.size) := by show _ < _; simp
  clear hr hs
  go_enter Tryd.func16, Tryd.ntmps16
  go_wp2_with fail
  generalize w.alloc (.cells (madeCells #[Value.int .i64 0, Value.int .i64 0] (n * 2)) 46) = w1 at *
  go_loopw [4, 5, 11] (fun _ _ iv wr => ∃ (k : Nat), k ≤ n ∧ iv = .int .i64 k ∧ Hid (RowA wr w.heap.size (turnTo l k)) ∧ Hid (Below w.heap.size w wr) ∧ Hid (w.heap.size < wr.heap.size)) (fun _ _ iv _ => n - (intOf iv).toNat)
  case atStart => exact ⟨0, Nat.zero_le _, rfl, HRow0, HB0, HZ0⟩
  case round =>
    obtain ⟨k, hk, rfl, HRow, HB, HZ⟩ := hrel
    rename World => w2
    clear HRow0 HB0 HZ0 hmk
    by_cases hlt : k < n
    · obtain ⟨p, hx⟩ : ∃ p, l[k]? = some p := ⟨_, List.getElem?_eq_getElem (by rw [HN.out]; exact hlt)⟩
      obtain ⟨b, off, rfl, c0, c1⟩ := HR.out k p hx
      have d0 := cell_later HB.out c0
      have d1 := cell_later HB.out c1
      have hki : (k : Int) < (n : Int) := by omega
      have HStep : Hid _ := turnTo_step l k p hx
      have HTl : Hid ((turnTo l k).length = n) := by show _ = _; rw [turnTo_len l k (by rw [HN.out]; omega)]; exact HN.out
      obtain ⟨p1, p2⟩ := p
      simp only at d0 d1
      have HRow2 : Hid (RowA (w2.alloc (.cells #[.int .i64 p1, .int .i64 p2] 46)) w.heap.size (turnTo l k)) := ⟨row_alloc HRow.out.row _⟩
      have HB2 : Hid (Below w.heap.size w (w2.alloc (.cells #[.int .i64 p1, .int .i64 p2] 46))) := HB.out.alloc (Nat.le_of_lt HZ.out) _
      have HZ2 : Hid (w.heap.size < (w2.alloc (.cells #[.int .i64 p1, .int .i64 p2] 46)).heap.size) := by have := HZ.out; show _ < _; simp; omega
      have nb := row_new w2 #[.int .i64 p1, .int .i64 p2] 46
      obtain ⟨⟨x0, g0⟩, ⟨x1, g1⟩, f0, f1⟩ := HRow2.out.get k (by rw [HTl.out]; exact hlt)
      have hrs := row_set HRow2.out.row (k * 2) (.int .i64 p2)
      have f1' := froz_row hrs (k * 2 + 1)
      have g1' : ((w2.alloc (.cells #[.int .i64 p1, .int .i64 p2] 46)).setCell ⟨w.heap.size, k * 2, none⟩ (.int .i64 p2)).cell? ⟨w.heap.size, k * 2 + 1, none⟩ = some x1 := by
        rw [cell_row hrs, Array.getElem?_setIfInBounds_ne (by omega), ← cell_row HRow2.out.row]
        exact g1
      have HRow3 : Hid (RowA (((w2.alloc (.cells #[.int .i64 p1, .int .i64 p2] 46)).setCell ⟨w.heap.size, k * 2, none⟩ (.int .i64 p2)).setCell ⟨w.heap.size, k * 2 + 1, none⟩ (.int .i64 p1)) w.heap.size (turnTo l (k + 1))) := by
        show RowA _ _ _
        rw [← HStep.out]
        exact HRow2.out.set k (p2, p1)
      have HB3 : Hid (Below w.heap.size w (((w2.alloc (.cells #[.int .i64 p1, .int .i64 p2] 46)).setCell ⟨w.heap.size, k * 2, none⟩ (.int .i64 p2)).setCell ⟨w.heap.size, k * 2 + 1, none⟩ (.int .i64 p1))) := (HB2.out.setCell (p := ⟨w.heap.size, k * 2, none⟩) (Nat.le_refl _) _).setCell (p := ⟨w.heap.size, k * 2 + 1, none⟩) (Nat.le_refl _) _
      have HZ3 : Hid (w.heap.size < (((w2.alloc (.cells #[.int .i64 p1, .int .i64 p2] 46)).setCell ⟨w.heap.size, k * 2, none⟩ (.int .i64 p2)).setCell ⟨w.heap.size, k * 2 + 1, none⟩ (.int .i64 p1)).heap.size) := by have := HZ2.out; show _ < _; simpa using this
      clear hx c0 c1 HRow HB hrs
      go_wp2_with fail
      go_roundw
      case rel => exact ⟨k + 1, by omega, by go_num, HRow3, HB3, HZ3⟩
      case measure => simp [intOf]; omega
    · have hkn : k = n := by omega
      subst hkn
      have HF : Hid (turnTo l k = swapA l) := by
        show _ = _
        unfold turnTo
        rw [HN.out, Nat.sub_self, List.take_of_length_le (by rw [HN.out]; exact Nat.le_refl _)]
        simp
      go_wp2_with fail
      go_ret
      refine ⟨HB.out, _, rfl, ?_⟩
      have h9 := HRow.out
      rw [HF.out] at h9
      have hsm : Small (swapA l) := by
        intro p hp
        obtain ⟨q, hq, rfl⟩ := List.mem_map.1 hp
        have := HS.out q hq
        exact ⟨this.2, this.1⟩
      have h10 := h9.rd hsm
      rw [swapA_len, HN.out] at h10
      exact h10
end Go.Proofs.YtdbohfpkhidfiaaDoorRR
