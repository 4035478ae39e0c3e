/- Texts of the seat, packed: DPe DPf DQt DQn. -/
import Derived.Test.YteghapmlnkhepaaDoorP11
/- Chains (plain words). -/
namespace Go.Proofs.YteghapmlnkhepaaDoor.Dg

/-- A chain of arcs leads from one node to another one. -/
inductive Chain (W : List Nat) : Nat → Nat → Prop
  | one {f t : Nat} : (W.getD t 0).testBit f = true → Chain W f t
  | more {f g t : Nat} : Chain W f g → (W.getD t 0).testBit g = true → Chain W f t

theorem Chain.trans {W : List Nat} {f g t : Nat} (h : Chain W f g) (k : Chain W g t) : Chain W f t := by
  induction k with
  | one e => exact .more h e
  | more _ e ih => exact .more ih e

/-- All nodes stand in an order that is as long. -/
theorem ord_all {W o : List Nat} (hO : OrdOk W o) (hl : o.length = W.length) {x : Nat} (hx : x < W.length) : x ∈ o := by
  apply Classical.byContradiction
  intro hm
  have := pigeon (x :: o) (List.range W.length) (List.nodup_cons.2 ⟨hm, hO.nodup⟩) (fun y hy => by
    rcases List.mem_cons.1 hy with rfl | hy
    · exact List.mem_range.2 hx
    · exact List.mem_range.2 (hO.lt y hy))
  simp at this
  omega

/-- Where there is an order, one is told. -/
theorem ordGo_some {W o : List Nat} (hn : W.length ≤ 64) (hO : OrdOk W o) (hl : o.length = W.length) : ∀ (k there : Nat) (acc : List Nat), there = overP acc → there < 18446744073709551616 → acc.length + k = W.length → ∃ r, ordGo W k there acc = some r := by
  intro k
  induction k with
  | zero => intro there acc _ _ _; exact ⟨acc, rfl⟩
  | succ k ih =>
    intro there acc hth hlt hlen
    have hne : nextS W there ≠ 0 := by
      intro h0
      refine ready_some (done := acc) hn hO hl (by omega) ?_
      unfold readyP
      unfold nextS at h0
      rw [← hth, h0, bitsOf_zero]
    have hnl : nextS W there < 18446744073709551616 := dif_lt (freeTo_lt W there _ hn)
    obtain ⟨_, _, b3⟩ := low_bit hne hnl
    obtain ⟨r, hr⟩ := ih (there ||| 2 ^ low (nextS W there)) (acc ++ [low (nextS W there)]) (by rw [overP_snoc, hth]) (or_lt hlt (two_lt b3)) (by rw [List.length_append]; simp; omega)
    refine ⟨r, ?_⟩
    rw [ordGo, if_neg hne]
    exact hr

theorem ordW_some {W o : List Nat} (hn : W.length ≤ 64) (hO : OrdOk W o) (hl : o.length = W.length) : ∃ r, ordW W = some r := ordGo_some hn hO hl W.length 0 [] rfl (by omega) (by simp)

end Go.Proofs.YteghapmlnkhepaaDoor.Dg

/- Arcs that are turned round (plain words). -/
namespace Go.Proofs.YteghapmlnkhepaaDoor.Dg

def swapA (l : List (Int × Int)) : List (Int × Int) := l.map fun p => (p.2, p.1)

theorem swapA_swapA (l : List (Int × Int)) : swapA (swapA l) = l := by
  unfold swapA
  rw [List.map_map]
  exact (List.map_congr_left (fun p _ => rfl)).trans (List.map_id l)

theorem swapA_len (l : List (Int × Int)) : (swapA l).length = l.length := by simp [swapA]

theorem swapA_mem {l : List (Int × Int)} {a b : Int} : (a, b) ∈ swapA l ↔ (b, a) ∈ l := by
  unfold swapA
  rw [List.mem_map]
  constructor
  · rintro ⟨⟨p, q⟩, h, e⟩
    cases e
    exact h
  · intro h
    exact ⟨(b, a), h, rfl⟩

theorem swapA_ends (n : Nat) (l : List (Int × Int)) : (swapA l).all (endsOk n) = l.all (endsOk n) := by
  unfold swapA
  rw [List.all_map]
  congr 1
  funext p
  simp only [Function.comp, endsOk]
  congr 1
  exact propext ⟨fun h => ⟨h.2, h.1⟩, fun h => ⟨h.2, h.1⟩⟩

theorem web_turn {n : Nat} {l : List (Int × Int)} (h : l.all (endsOk n) = true) (t f : Nat) : ((webOf n (swapA l)).getD t 0).testBit f = true ↔ ((webOf n l).getD f 0).testBit t = true := by
  rw [webOf_bit n (swapA l) (by rw [swapA_ends]; exact h), webOf_bit n l h, swapA_mem]
  constructor
  · rintro ⟨h1, _⟩
    have := List.all_eq_true.1 h _ h1
    simp only [endsOk, decide_eq_true_eq] at this
    exact ⟨h1, by omega⟩
  · rintro ⟨h1, _⟩
    have := List.all_eq_true.1 h _ h1
    simp only [endsOk, decide_eq_true_eq] at this
    exact ⟨h1, by omega⟩

theorem ord_turn {n : Nat} {l : List (Int × Int)} (h : l.all (endsOk n) = true) {o : List Nat} (hO : OrdOk (webOf n l) o) (hl : o.length = n) : OrdOk (webOf n (swapA l)) o.reverse := by
  have hW := webOf_len n l
  have hW' := webOf_len n (swapA l)
  refine ⟨List.pairwise_reverse.2 (List.Pairwise.imp (fun h => fun e => h e.symm) hO.nodup), ?_, ?_⟩
  · intro x hx
    rw [hW', ← hW]
    exact hO.lt x (List.mem_reverse.1 hx)
  · intro k x hk i hi
    rw [web_turn h] at hi
    have hkl : k < o.length := by have := (List.getElem?_eq_some_iff.1 hk).1; simpa using this
    rw [List.getElem?_reverse hkl] at hk
    have hin : i < n := by
      apply Classical.byContradiction
      intro hc
      rw [List.getD_eq_getElem?_getD, List.getElem?_eq_none (by rw [hW]; omega)] at hi
      simp at hi
    obtain ⟨j, hj⟩ := List.mem_iff_getElem?.1 (ord_all hO (by rw [hW]; exact hl) (by rw [hW]; exact hin))
    have hjl := (List.getElem?_eq_some_iff.1 hj).1
    obtain ⟨j', hj', hx'⟩ := mem_take_at (hO.ahead j i hj x hi)
    have he := (List.getElem?_inj (by omega) hO.nodup).1 (hk.trans hx'.symm)
    refine at_mem_take (j := o.length - 1 - j) ?_ (by omega)
    rw [List.getElem?_reverse (by omega), show o.length - 1 - (o.length - 1 - j) = j by omega]
    exact hj

theorem ordW_turn {n : Nat} {l : List (Int × Int)} (hn : n ≤ 64) (h : l.all (endsOk n) = true) {o : List Nat} (ho : ordW (webOf n l) = some o) : ∃ o', ordW (webOf n (swapA l)) = some o' := by
  have hW := webOf_len n l
  have hW' := webOf_len n (swapA l)
  obtain ⟨h1, h2⟩ := ordGo_ok (webOf n l) (by omega) _ 0 [] _ (by omega) (by simp) ⟨by simp, by simp, by simp⟩ ho
  simp only [List.length_nil, Nat.zero_add, hW] at h2
  exact ordW_some (by omega) (ord_turn h h1 h2) (by rw [List.length_reverse, h2, hW'])

/-- The turned arcs have the same error, or none. -/
theorem weave_turn (n : Int) (l : List (Int × Int)) : (∃ c, weaveP n l = .bad c ∧ weaveP n (swapA l) = .bad c) ∨ ∃ o o', weaveP n l = .ok (webOf n.toNat l) o ∧ weaveP n (swapA l) = .ok (webOf n.toNat (swapA l)) o' := by
  unfold weaveP
  rw [swapA_len, swapA_ends]
  by_cases hc : n < 0 ∨ 64 < n ∨ 4096 < l.length ∨ l.all (endsOk n.toNat) = false
  · rw [if_pos hc, if_pos hc]
    exact .inl ⟨2, rfl, rfl⟩
  · rw [if_neg hc, if_neg hc]
    have hall : l.all (endsOk n.toNat) = true := by
      cases ha : l.all (endsOk n.toNat) with
      | true => rfl
      | false => exact absurd (.inr (.inr (.inr ha))) hc
    have hn : n.toNat ≤ 64 := by
      have : ¬ 64 < n := fun h1 => hc (.inr (.inl h1))
      omega
    cases ho : ordW (webOf n.toNat l) with
    | some o =>
      obtain ⟨o', ho'⟩ := ordW_turn hn hall ho
      rw [ho']
      exact .inr ⟨o, o', rfl, rfl⟩
    | none =>
      cases ho' : ordW (webOf n.toNat (swapA l)) with
      | none => exact .inl ⟨13, rfl, rfl⟩
      | some o' =>
        obtain ⟨o'', h3⟩ := ordW_turn hn (by rw [swapA_ends]; exact hall) ho'
        rw [swapA_swapA, ho] at h3
        cases h3

end Go.Proofs.YteghapmlnkhepaaDoor.Dg

/- The program's Turn. -/
namespace Go.Proofs.YteghapmlnkhepaaDoor.Dg

open Go.RowKit

/-- A row of arcs of the call's own, in a block. -/
structure RowA (wc : World) (b : Nat) (R : List (Int × Int)) : Prop where
  row : wc.heap[b]? = some (.cells (avs R).toArray 112 (0, 0))

theorem RowA.get {wc : World} {b : Nat} {R : List (Int × Int)} (h : RowA wc b R) (t : Nat) (ht : t < R.length) : (∃ x, wc.cell? ⟨b, t * 2, none⟩ = some x) ∧ (∃ x, wc.cell? ⟨b, t * 2 + 1, none⟩ = some x) ∧ wc.frozen? ⟨b, t * 2, none⟩ = false ∧ wc.frozen? ⟨b, t * 2 + 1, none⟩ = false := by
  have hl := avs_len R
  refine ⟨⟨(avs R)[t * 2]'(by omega), ?_⟩, ⟨(avs R)[t * 2 + 1]'(by omega), ?_⟩, froz_row h.row _, froz_row h.row _⟩
  · rw [cell_row h.row, List.getElem?_toArray, List.getElem?_eq_getElem]
  · rw [cell_row h.row, List.getElem?_toArray, List.getElem?_eq_getElem]

theorem avs_set : ∀ (R : List (Int × Int)) (t : Nat) (p : Int × Int), ((avs R).set (t * 2) (.int .i64 p.1)).set (t * 2 + 1) (.int .i64 p.2) = avs (R.set t p) := by
  intro R
  induction R with
  | nil => intro t p; rfl
  | cons q R ih =>
    intro t p
    cases t with
    | zero => rfl
    | succ t =>
      have h1 : (t + 1) * 2 = t * 2 + 1 + 1 := by omega
      have h2 : (t + 1) * 2 + 1 = (t * 2 + 1) + 1 + 1 := by omega
      rw [h2, h1]
      simp only [avs, av, List.cons_append, List.nil_append, List.set_cons_succ, ih t p]

theorem RowA.set {wc : World} {b : Nat} {R : List (Int × Int)} (h : RowA wc b R) (t : Nat) (p : Int × Int) : RowA ((wc.setCell ⟨b, t * 2, none⟩ (.int .i64 p.1)).setCell ⟨b, t * 2 + 1, none⟩ (.int .i64 p.2)) b (R.set t p) := by
  refine ⟨?_⟩
  have h1 := row_set (row_set h.row (t * 2) (.int .i64 p.1)) (t * 2 + 1) (.int .i64 p.2)
  rw [List.setIfInBounds_toArray, List.setIfInBounds_toArray, avs_set] at h1
  exact h1

theorem avs_zero (m : Nat) : avs (List.replicate m (0, 0)) = List.replicate (m * 2) (Value.int .i64 0) := by
  induction m with
  | zero => rfl
  | succ m ih =>
    rw [List.replicate_succ, show (m + 1) * 2 = m * 2 + 1 + 1 by omega, List.replicate_succ, List.replicate_succ]
    simp only [avs, av, ih, List.cons_append, List.nil_append]

theorem made_arcs (m : Nat) : madeCells #[Value.int .i64 0, Value.int .i64 0] (m * 2) = (avs (List.replicate m (0, 0))).toArray := by
  apply Array.toList_inj.1
  rw [avs_zero]
  apply List.ext_getElem?
  intro j
  by_cases hj : j < m * 2
  · rcases Nat.mod_two_eq_zero_or_one j with h | h <;> simp [madeCells, hj, h]
  · simp [madeCells, hj]

def turnTo (l : List (Int × Int)) (k : Nat) : List (Int × Int) := swapA (l.take k) ++ List.replicate (l.length - k) (0, 0)

theorem turnTo_len (l : List (Int × Int)) (k : Nat) (hk : k ≤ l.length) : (turnTo l k).length = l.length := by simp [turnTo, swapA]; omega

theorem turnTo_step (l : List (Int × Int)) (k : Nat) (p : Int × Int) (hx : l[k]? = some p) : (turnTo l k).set k (p.2, p.1) = turnTo l (k + 1) := by
  have hk := (List.getElem?_eq_some_iff.1 hx).1
  unfold turnTo
  have hl : (swapA (l.take k)).length = k := by simp [swapA]; omega
  rw [List.set_append_right _ _ (by omega), hl, Nat.sub_self, show l.length - k = (l.length - (k + 1)) + 1 by omega, List.replicate_succ, List.set_cons_zero, List.take_add_one, hx]
  simp [swapA]

theorem RowA.rd {wc : World} {b : Nat} {R : List (Int × Int)} (h : RowA wc b R) (hs : Small R) : RdA wc (.slice (some ⟨b, 0, none⟩) R.length R.length) R := by
  refine ⟨_, _, rfl, Nat.le_refl _, hs, fun i p hi => ⟨b, 0, rfl, ?_, ?_⟩⟩
  · rw [Nat.zero_add, cell_row h.row, List.getElem?_toArray]
    exact (avs_at R i 0 p hi (by omega)).trans rfl
  · rw [Nat.zero_add, cell_row h.row, List.getElem?_toArray]
    exact (avs_at R i 1 p hi (by omega)).trans rfl

set_option maxRecDepth 1000000 in
set_option maxHeartbeats 1000000 in
theorem Turn_any (v : Value) (l : List (Int × Int)) (w : World) (hl : RdA w v l) (hn : l.length ≤ 8192) :
    Calls Tryd.prog 40 #[v] w fun e w' => Below w.heap.size w w' ∧ ∃ u, e = .returned u ∧ RdA w' u (swapA l) := by
  obtain ⟨i0, hi0, hz0, hz1, hz2⟩ := info_parts Tryd.info112
  obtain ⟨a, cap, rfl, hc, hs, hr⟩ := hl
  have HR : Hid _ := hr
  have HS : Hid (Small l) := hs
  obtain ⟨n, HN⟩ : ∃ n, Hid (l.length = n) := ⟨_, rfl⟩
  rw [HN.out] at hn hc ⊢
  have hmk := run_make (P := Tryd.prog) w 82 112 i0 _ Tryd.underlying82 hi0 hz0 .i64 .i64 (n : Int) (n : Int) (by omega) (by omega) (by rw [hz2]; omega) (by omega)
  simp only [hz1, Int.toNat_natCast] at hmk
  have HRow0 : Hid (RowA (w.alloc (.cells (madeCells #[Value.int .i64 0, Value.int .i64 0] (n * 2)) 112)) w.heap.size (turnTo l 0)) := by
    have h0 : turnTo l 0 = List.replicate n (0, 0) := by unfold turnTo; rw [HN.out]; simp [swapA]
    show RowA _ _ _
    rw [h0]
    exact ⟨by rw [← made_arcs]; exact row_new w _ 112⟩
  have HB0 : Hid (Below w.heap.size w (w.alloc (.cells (madeCells #[Value.int .i64 0, Value.int .i64 0] (n * 2)) 112))) := (Below.refl _ _).alloc (Nat.le_refl _) _
  have HZ0 : Hid (w.heap.size < (w.alloc (.cells (madeCells #[Value.int .i64 0, Value.int .i64 0] (n * 2)) 112)).heap.size) := by show _ < _; simp
  clear hr hs
  go_enter Tryd.func40, Tryd.ntmps40
  go_wp2_with fail
  generalize w.alloc (.cells (madeCells #[Value.int .i64 0, Value.int .i64 0] (n * 2)) 112) = w1 at *
  go_loopw [4, 5, 11] (fun _ _ iv wr => ∃ (k : Nat), k ≤ n ∧ iv = .int .i64 k ∧ Hid (RowA wr w.heap.size (turnTo l k)) ∧ Hid (Below w.heap.size w wr) ∧ Hid (w.heap.size < wr.heap.size)) (fun _ _ iv _ => n - (intOf iv).toNat)
  case atStart => exact ⟨0, Nat.zero_le _, rfl, HRow0, HB0, HZ0⟩
  case round =>
    obtain ⟨k, hk, rfl, HRow, HB, HZ⟩ := hrel
    rename World => w2
    clear HRow0 HB0 HZ0 hmk
    by_cases hlt : k < n
    · obtain ⟨p, hx⟩ : ∃ p, l[k]? = some p := ⟨_, List.getElem?_eq_getElem (by rw [HN.out]; exact hlt)⟩
      obtain ⟨b, off, rfl, c0, c1⟩ := HR.out k p hx
      have d0 := cell_later HB.out c0
      have d1 := cell_later HB.out c1
      have hki : (k : Int) < (n : Int) := by omega
      have HStep : Hid _ := turnTo_step l k p hx
      have HTl : Hid ((turnTo l k).length = n) := by show _ = _; rw [turnTo_len l k (by rw [HN.out]; omega)]; exact HN.out
      obtain ⟨p1, p2⟩ := p
      simp only at d0 d1
      have HRow2 : Hid (RowA (w2.alloc (.cells #[.int .i64 p1, .int .i64 p2] 112)) w.heap.size (turnTo l k)) := ⟨row_alloc HRow.out.row _⟩
      have HB2 : Hid (Below w.heap.size w (w2.alloc (.cells #[.int .i64 p1, .int .i64 p2] 112))) := HB.out.alloc (Nat.le_of_lt HZ.out) _
      have HZ2 : Hid (w.heap.size < (w2.alloc (.cells #[.int .i64 p1, .int .i64 p2] 112)).heap.size) := by have := HZ.out; show _ < _; simp; omega
      have nb := row_new w2 #[.int .i64 p1, .int .i64 p2] 112
      obtain ⟨⟨x0, g0⟩, ⟨x1, g1⟩, f0, f1⟩ := HRow2.out.get k (by rw [HTl.out]; exact hlt)
      have hrs := row_set HRow2.out.row (k * 2) (.int .i64 p2)
      have f1' := froz_row hrs (k * 2 + 1)
      have g1' : ((w2.alloc (.cells #[.int .i64 p1, .int .i64 p2] 112)).setCell ⟨w.heap.size, k * 2, none⟩ (.int .i64 p2)).cell? ⟨w.heap.size, k * 2 + 1, none⟩ = some x1 := by
        rw [cell_row hrs, Array.getElem?_setIfInBounds_ne (by omega), ← cell_row HRow2.out.row]
        exact g1
      have HRow3 : Hid (RowA (((w2.alloc (.cells #[.int .i64 p1, .int .i64 p2] 112)).setCell ⟨w.heap.size, k * 2, none⟩ (.int .i64 p2)).setCell ⟨w.heap.size, k * 2 + 1, none⟩ (.int .i64 p1)) w.heap.size (turnTo l (k + 1))) := by
        show RowA _ _ _
        rw [← HStep.out]
        exact HRow2.out.set k (p2, p1)
      have HB3 : Hid (Below w.heap.size w (((w2.alloc (.cells #[.int .i64 p1, .int .i64 p2] 112)).setCell ⟨w.heap.size, k * 2, none⟩ (.int .i64 p2)).setCell ⟨w.heap.size, k * 2 + 1, none⟩ (.int .i64 p1))) := (HB2.out.setCell (p := ⟨w.heap.size, k * 2, none⟩) (Nat.le_refl _) _).setCell (p := ⟨w.heap.size, k * 2 + 1, none⟩) (Nat.le_refl _) _
      have HZ3 : Hid (w.heap.size < (((w2.alloc (.cells #[.int .i64 p1, .int .i64 p2] 112)).setCell ⟨w.heap.size, k * 2, none⟩ (.int .i64 p2)).setCell ⟨w.heap.size, k * 2 + 1, none⟩ (.int .i64 p1)).heap.size) := by have := HZ2.out; show _ < _; simpa using this
      clear hx c0 c1 HRow HB hrs
      go_wp2_with fail
      go_roundw
      case rel => exact ⟨k + 1, by omega, by go_num, HRow3, HB3, HZ3⟩
      case measure => simp [intOf]; omega
    · have hkn : k = n := by omega
      subst hkn
      have HF : Hid (turnTo l k = swapA l) := by
        show _ = _
        unfold turnTo
        rw [HN.out, Nat.sub_self, List.take_of_length_le (by rw [HN.out]; exact Nat.le_refl _)]
        simp
      go_wp2_with fail
      go_ret
      refine ⟨HB.out, _, rfl, ?_⟩
      have h9 := HRow.out
      rw [HF.out] at h9
      have hsm : Small (swapA l) := by
        intro p hp
        obtain ⟨q, hq, rfl⟩ := List.mem_map.1 hp
        have := HS.out q hq
        exact ⟨this.2, this.1⟩
      have h10 := h9.rd hsm
      rw [swapA_len, HN.out] at h10
      exact h10

end Go.Proofs.YteghapmlnkhepaaDoor.Dg

/- The document's In, Same of numbers, SameRows. -/
namespace Go.Proofs.YteghapmlnkhepaaDoor.Dg
open Go.RowKit

set_option maxRecDepth 1000000 in
set_option maxHeartbeats 1000000 in
theorem In_any (l : List Nat) (v : Value) (x : Nat) (w : World) (hl : RdI w v l) (hn : l.length ≤ 100000) :
    Calls Tryd.prog 14 #[v, .int .i64 (x : Int)] w fun e w' => e = .returned (.bool (decide (x ∈ l))) ∧ w' = w := by
  obtain ⟨a, cap, rfl, hc, hr⟩ := hl
  have HR : Hid _ := hr
  obtain ⟨n, HN⟩ : ∃ n, Hid (l.length = n) := ⟨_, rfl⟩
  rw [HN.out] at hn hc ⊢
  clear hr
  go_enter Tryd.func14, Tryd.ntmps14
  go_wp2_with fail
  go_loopw [5] (fun iv wr => ∃ (k : Nat), k ≤ n ∧ iv = .int .i64 k ∧ Hid (x ∉ l.take k) ∧ wr = w) (fun iv _ => n - (intOf iv).toNat)
  case atStart => exact ⟨0, Nat.zero_le _, rfl, by show x ∉ l.take 0; simp, rfl⟩
  case round =>
    obtain ⟨k, hk, rfl, HX, rfl⟩ := hrel
    by_cases hlt : k < n
    · obtain ⟨y, hy⟩ : ∃ y, l[k]? = some y := ⟨_, List.getElem?_eq_getElem (by rw [HN.out]; exact hlt)⟩
      obtain ⟨b, off, rfl, c0⟩ := HR.out k y hy
      have hki : (k : Int) < (n : Int) := by omega
      by_cases hyx : y = x
      · have HM : Hid (x ∈ l) := by show x ∈ l; rw [← hyx]; exact List.mem_of_getElem? hy
        have hb : ((y : Int) == (x : Int)) = true := by simp; omega
        clear hy hyx
        go_wp2_with fail
        go_ret
        exact ⟨by rw [decide_eq_true HM.out]; rfl, rfl⟩
      · have hb : ((y : Int) == (x : Int)) = false := by simp; omega
        have HX2 : Hid (x ∉ l.take (k + 1)) := by
          show x ∉ _
          rw [List.take_add_one, hy]
          intro h
          rcases List.mem_append.1 h with h1 | h1
          · exact HX.out h1
          · simp at h1; omega
        clear hy hyx
        go_wp2_with fail
        go_roundw
        case rel => exact ⟨k + 1, by omega, by go_num, HX2, trivial⟩
        case measure => simp [intOf]; omega
    · have hkn : k = n := by omega
      subst hkn
      have HX2 : Hid (decide (x ∈ l) = false) := by
        have h1 := HX.out
        rw [List.take_of_length_le (by rw [HN.out]; exact Nat.le_refl _)] at h1
        exact decide_eq_false h1
      go_wp2_with fail
      go_ret
      exact ⟨by rw [HX2.out]; rfl, rfl⟩

set_option maxRecDepth 1000000 in
set_option maxHeartbeats 1000000 in
theorem sameI_any (l m : List Nat) (v u : Value) (w : World) (hl : RdI w v l) (hm : RdI w u m) (hn : l.length ≤ 100000) (hn' : m.length ≤ 100000) :
    Calls Tryd.prog 15 #[v, u] w fun e w' => e = .returned (.bool (decide (l = m))) ∧ Below w.heap.size w w' := by
  obtain ⟨a, cap, rfl, hc, hr⟩ := hl
  obtain ⟨a', cap', rfl, hc', hr'⟩ := hm
  have HR : Hid _ := hr
  have HR' : Hid _ := hr'
  obtain ⟨n, HN⟩ : ∃ n, Hid (l.length = n) := ⟨_, rfl⟩
  obtain ⟨n', HN'⟩ : ∃ n, Hid (m.length = n) := ⟨_, rfl⟩
  rw [HN.out] at hn hc ⊢
  rw [HN'.out] at hn' hc' ⊢
  clear hr hr'
  by_cases hnn : n = n'
  · subst hnn
    go_enter Tryd.func15, Tryd.ntmps15
    go_wp2_with fail
    go_loopw [5] (fun iv wr => ∃ (k : Nat), k ≤ n ∧ iv = .int .i64 k ∧ Hid (l.take k = m.take k) ∧ Hid (Below w.heap.size w wr)) (fun iv _ => n - (intOf iv).toNat)
    case atStart => exact ⟨0, Nat.zero_le _, rfl, by show l.take 0 = m.take 0; simp, Below.refl _ _⟩
    case round =>
      obtain ⟨k, hk, rfl, HX, HB⟩ := hrel
      rename World => w1
      by_cases hlt : k < n
      · obtain ⟨y, hy⟩ : ∃ y, l[k]? = some y := ⟨_, List.getElem?_eq_getElem (by rw [HN.out]; exact hlt)⟩
        obtain ⟨z, hz⟩ : ∃ y, m[k]? = some y := ⟨_, List.getElem?_eq_getElem (by rw [HN'.out]; exact hlt)⟩
        obtain ⟨b, off, rfl, c0⟩ := HR.out k y hy
        obtain ⟨b', off', rfl, c1⟩ := HR'.out k z hz
        have d0 := cell_later HB.out c0
        have d1 := cell_later HB.out c1
        have hki : (k : Int) < (n : Int) := by omega
        have HB2 : Hid (Below w.heap.size w w1.drew) := bl_drawn1 HB.out
        by_cases hyz : y = z
        · have hb : ((y : Int) == (z : Int)) = true := by simp; omega
          have HX2 : Hid (l.take (k + 1) = m.take (k + 1)) := by
            show _ = _
            rw [List.take_add_one, List.take_add_one, hy, hz, HX.out, hyz]
          clear hy hz hyz c0 c1 HX
          go_wp2_with fail
          go_region
          all_goals
            go_wp2_with fail
            go_roundw
            case rel => exact ⟨k + 1, by omega, by go_num, HX2, HB2⟩
            case measure => simp [intOf]; omega
        · have hb : ((y : Int) == (z : Int)) = false := by simp; omega
          have HF : Hid (decide (l = m) = false) := decide_eq_false (by rintro rfl; rw [hy] at hz; cases hz; exact hyz rfl)
          clear hy hz hyz c0 c1 HX
          go_wp2_with fail
          go_region
          all_goals
            go_wp2_with fail
            go_ret
            exact ⟨by rw [HF.out]; rfl, HB2.out⟩
      · have hkn : k = n := by omega
        subst hkn
        have HT2 : Hid (decide (l = m) = true) := by
          have h1 := HX.out
          rw [List.take_of_length_le (by rw [HN.out]; exact Nat.le_refl _), List.take_of_length_le (by rw [HN'.out]; exact Nat.le_refl _)] at h1
          exact decide_eq_true h1
        go_wp2_with fail
        go_ret
        exact ⟨by rw [HT2.out]; rfl, HB.out⟩
  · have HF : Hid (decide (l = m) = false) := decide_eq_false (by rintro rfl; exact hnn (HN.out.symm.trans HN'.out))
    have hb : ((n : Int) == (n' : Int)) = false := by simp; omega
    go_enter Tryd.func15, Tryd.ntmps15
    go_wp2_with fail
    go_ret
    exact ⟨by rw [HF.out]; rfl, Below.refl _ _⟩
end Go.Proofs.YteghapmlnkhepaaDoor.Dg

