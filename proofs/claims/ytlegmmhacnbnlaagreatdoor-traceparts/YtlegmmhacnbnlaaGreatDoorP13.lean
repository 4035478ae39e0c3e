/- Texts of the seat, packed: DPd DPe DPf DQt. -/
import Derived.Test.YtlegmmhacnbnlaaGreatDoorP12
/- Which nodes are free, while an order is there (plain words). -/
namespace Go.Proofs.YtlegmmhacnbnlaaGreatDoor.Dg

def overP (l : List Nat) : Nat := l.foldl (fun s d => s ||| 2 ^ d) 0

theorem overP_snoc (l : List Nat) (x : Nat) : overP (l ++ [x]) = overP l ||| 2 ^ x := by unfold overP; rw [List.foldl_append]; rfl

theorem overP_bit (l : List Nat) (i : Nat) : (overP l).testBit i = true ↔ i ∈ l := by
  have : ∀ (l : List Nat) (s : Nat), (l.foldl (fun s d => s ||| 2 ^ d) s).testBit i = true ↔ s.testBit i = true ∨ i ∈ l := by
    intro l
    induction l with
    | nil => intro s; simp
    | cons x l ih =>
      intro s
      rw [List.foldl_cons, ih, or_bit, Bool.or_eq_true, decide_eq_true_eq, List.mem_cons, or_assoc]
  unfold overP
  rw [this]
  simp

def readyP (W done : List Nat) : List Nat := bitsOf (dif (freeTo W (overP done) W.length) (overP done))

theorem readyP_mem {W done : List Nat} (hn : W.length ≤ 64) {x : Nat} : x ∈ readyP W done ↔ (x < W.length ∧ ∀ i, (W.getD x 0).testBit i = true → i ∈ done) ∧ x ∉ done := by
  have hb : (dif (freeTo W (overP done) W.length) (overP done)).testBit x = true ↔ (x < W.length ∧ ∀ i, (W.getD x 0).testBit i = true → i ∈ done) ∧ x ∉ done := by
    rw [dif_bit, freeTo_bit]
    simp only [Bool.and_eq_true, decide_eq_true_eq, Bool.not_eq_true']
    constructor
    · rintro ⟨⟨h1, h2⟩, h3⟩
      refine ⟨⟨h1, fun i hi => (overP_bit done i).1 (dif_zero.1 h2 i hi)⟩, fun hm => ?_⟩
      rw [(overP_bit done x).2 hm] at h3
      cases h3
    · rintro ⟨⟨h1, h2⟩, h3⟩
      refine ⟨⟨h1, dif_zero.2 fun i hi => (overP_bit done i).2 (h2 i hi)⟩, ?_⟩
      cases hc : (overP done).testBit x with
      | false => rfl
      | true => exact absurd ((overP_bit done x).1 hc) h3
  rw [← hb]
  unfold readyP
  constructor
  · exact of_bitsOf
  · intro h
    unfold bitsOf
    refine List.mem_filter.2 ⟨List.mem_range.2 ?_, h⟩
    have := (hb.1 h).1.1
    omega

theorem erase_mem {l : List Nat} {x y : Nat} (h : y ∈ l) (hne : y ≠ x) : y ∈ l.filter (fun z => decide (z ≠ x)) := List.mem_filter.2 ⟨h, by simpa using hne⟩

/-- Different ones that all stand in a list are no more than it has. -/
theorem pigeon : ∀ (a b : List Nat), a.Nodup → (∀ x ∈ a, x ∈ b) → a.length ≤ b.length := by
  intro a
  induction a with
  | nil => intro b _ _; simp
  | cons x a ih =>
    intro b hn hs
    rw [List.nodup_cons] at hn
    have h1 := ih (b.filter fun z => decide (z ≠ x)) hn.2 (fun y hy => erase_mem (hs y (by simp [hy])) (fun e => hn.1 (e ▸ hy)))
    have h2 : (b.filter fun z => decide (z ≠ x)).length < b.length := by
      have h3 := (filter_lt (fun _ => true) (fun z => decide (z ≠ x)) x rfl (by simp) b (fun _ _ _ => rfl)).2 (hs x (by simp))
      have h4 : (b.filter fun _ => true).length = b.length := by rw [List.filter_eq_self.2 (by simp)]
      omega
    simp only [List.length_cons]
    omega

/-- While fewer than all are done, one is ready. -/
theorem ready_some {W o done : List Nat} (hn : W.length ≤ 64) (hO : OrdOk W o) (hol : o.length = W.length) (hlt : done.length < W.length) : readyP W done ≠ [] := by
  have hex : ∃ k x, o[k]? = some x ∧ x ∉ done ∧ ∀ y ∈ o.take k, y ∈ done := by
    have key : ∀ i, i ≤ o.length → (∀ y ∈ o.take i, y ∈ done) ∨ ∃ k x, o[k]? = some x ∧ x ∉ done ∧ ∀ y ∈ o.take k, y ∈ done := by
      intro i
      induction i with
      | zero => intro _; exact .inl (by simp)
      | succ i ih =>
        intro hi
        rcases ih (by omega) with h | h
        · have hx : o[i]? = some o[i] := List.getElem?_eq_getElem (by omega)
          by_cases hd : o[i] ∈ done
          · refine .inl fun y hy => ?_
            rw [List.take_add_one, hx] at hy
            rcases List.mem_append.1 hy with h1 | h1
            · exact h y h1
            · simp at h1; rw [h1]; exact hd
          · exact .inr ⟨i, _, hx, hd, h⟩
        · exact .inr h
    rcases key o.length (Nat.le_refl _) with h | h
    · rw [List.take_length] at h
      have := pigeon o done hO.nodup h
      omega
    · exact h
  obtain ⟨k, x, hx, hd, hall⟩ := hex
  have : x ∈ readyP W done := (readyP_mem hn).2 ⟨⟨hO.lt x (List.mem_of_getElem? hx), fun i hi => hall i (hO.ahead k x hx i hi)⟩, hd⟩
  intro he
  rw [he] at this
  cases this

end Go.Proofs.YtlegmmhacnbnlaaGreatDoor.Dg

/- Chains (plain words). -/
namespace Go.Proofs.YtlegmmhacnbnlaaGreatDoor.Dg

/-- A chain of arcs leads from one node to another one. -/
inductive Chain (W : List Nat) : Nat → Nat → Prop
  | one {f t : Nat} : (W.getD t 0).testBit f = true → Chain W f t
  | more {f g t : Nat} : Chain W f g → (W.getD t 0).testBit g = true → Chain W f t

theorem Chain.trans {W : List Nat} {f g t : Nat} (h : Chain W f g) (k : Chain W g t) : Chain W f t := by
  induction k with
  | one e => exact .more h e
  | more _ e ih => exact .more ih e

/-- All nodes stand in an order that is as long. -/
theorem ord_all {W o : List Nat} (hO : OrdOk W o) (hl : o.length = W.length) {x : Nat} (hx : x < W.length) : x ∈ o := by
  apply Classical.byContradiction
  intro hm
  have := pigeon (x :: o) (List.range W.length) (List.nodup_cons.2 ⟨hm, hO.nodup⟩) (fun y hy => by
    rcases List.mem_cons.1 hy with rfl | hy
    · exact List.mem_range.2 hx
    · exact List.mem_range.2 (hO.lt y hy))
  simp at this
  omega

/-- Where there is an order, one is told. -/
theorem ordGo_some {W o : List Nat} (hn : W.length ≤ 64) (hO : OrdOk W o) (hl : o.length = W.length) : ∀ (k there : Nat) (acc : List Nat), there = overP acc → there < 18446744073709551616 → acc.length + k = W.length → ∃ r, ordGo W k there acc = some r := by
  intro k
  induction k with
  | zero => intro there acc _ _ _; exact ⟨acc, rfl⟩
  | succ k ih =>
    intro there acc hth hlt hlen
    have hne : nextS W there ≠ 0 := by
      intro h0
      refine ready_some (done := acc) hn hO hl (by omega) ?_
      unfold readyP
      unfold nextS at h0
      rw [← hth, h0, bitsOf_zero]
    have hnl : nextS W there < 18446744073709551616 := dif_lt (freeTo_lt W there _ hn)
    obtain ⟨_, _, b3⟩ := low_bit hne hnl
    obtain ⟨r, hr⟩ := ih (there ||| 2 ^ low (nextS W there)) (acc ++ [low (nextS W there)]) (by rw [overP_snoc, hth]) (or_lt hlt (two_lt b3)) (by rw [List.length_append]; simp; omega)
    refine ⟨r, ?_⟩
    rw [ordGo, if_neg hne]
    exact hr

theorem ordW_some {W o : List Nat} (hn : W.length ≤ 64) (hO : OrdOk W o) (hl : o.length = W.length) : ∃ r, ordW W = some r := ordGo_some hn hO hl W.length 0 [] rfl (by omega) (by simp)

end Go.Proofs.YtlegmmhacnbnlaaGreatDoor.Dg

/- Arcs that are turned round (plain words). -/
namespace Go.Proofs.YtlegmmhacnbnlaaGreatDoor.Dg

def swapA (l : List (Int × Int)) : List (Int × Int) := l.map fun p => (p.2, p.1)

theorem swapA_swapA (l : List (Int × Int)) : swapA (swapA l) = l := by
  unfold swapA
  rw [List.map_map]
  exact (List.map_congr_left (fun p _ => rfl)).trans (List.map_id l)

theorem swapA_len (l : List (Int × Int)) : (swapA l).length = l.length := by simp [swapA]

theorem swapA_mem {l : List (Int × Int)} {a b : Int} : (a, b) ∈ swapA l ↔ (b, a) ∈ l := by
  unfold swapA
  rw [List.mem_map]
  constructor
  · rintro ⟨⟨p, q⟩, h, e⟩
    cases e
    exact h
  · intro h
    exact ⟨(b, a), h, rfl⟩

theorem swapA_ends (n : Nat) (l : List (Int × Int)) : (swapA l).all (endsOk n) = l.all (endsOk n) := by
  unfold swapA
  rw [List.all_map]
  congr 1
  funext p
  simp only [Function.comp, endsOk]
  congr 1
  exact propext ⟨fun h => ⟨h.2, h.1⟩, fun h => ⟨h.2, h.1⟩⟩

theorem web_turn {n : Nat} {l : List (Int × Int)} (h : l.all (endsOk n) = true) (t f : Nat) : ((webOf n (swapA l)).getD t 0).testBit f = true ↔ ((webOf n l).getD f 0).testBit t = true := by
  rw [webOf_bit n (swapA l) (by rw [swapA_ends]; exact h), webOf_bit n l h, swapA_mem]
  constructor
  · rintro ⟨h1, _⟩
    have := List.all_eq_true.1 h _ h1
    simp only [endsOk, decide_eq_true_eq] at this
    exact ⟨h1, by omega⟩
  · rintro ⟨h1, _⟩
    have := List.all_eq_true.1 h _ h1
    simp only [endsOk, decide_eq_true_eq] at this
    exact ⟨h1, by omega⟩

theorem ord_turn {n : Nat} {l : List (Int × Int)} (h : l.all (endsOk n) = true) {o : List Nat} (hO : OrdOk (webOf n l) o) (hl : o.length = n) : OrdOk (webOf n (swapA l)) o.reverse := by
  have hW := webOf_len n l
  have hW' := webOf_len n (swapA l)
  refine ⟨List.pairwise_reverse.2 (List.Pairwise.imp (fun h => fun e => h e.symm) hO.nodup), ?_, ?_⟩
  · intro x hx
    rw [hW', ← hW]
    exact hO.lt x (List.mem_reverse.1 hx)
  · intro k x hk i hi
    rw [web_turn h] at hi
    have hkl : k < o.length := by have := (List.getElem?_eq_some_iff.1 hk).1; simpa using this
    rw [List.getElem?_reverse hkl] at hk
    have hin : i < n := by
      apply Classical.byContradiction
      intro hc
      rw [List.getD_eq_getElem?_getD, List.getElem?_eq_none (by rw [hW]; omega)] at hi
      simp at hi
    obtain ⟨j, hj⟩ := List.mem_iff_getElem?.1 (ord_all hO (by rw [hW]; exact hl) (by rw [hW]; exact hin))
    have hjl := (List.getElem?_eq_some_iff.1 hj).1
    obtain ⟨j', hj', hx'⟩ := mem_take_at (hO.ahead j i hj x hi)
    have he := (List.getElem?_inj (by omega) hO.nodup).1 (hk.trans hx'.symm)
    refine at_mem_take (j := o.length - 1 - j) ?_ (by omega)
    rw [List.getElem?_reverse (by omega), show o.length - 1 - (o.length - 1 - j) = j by omega]
    exact hj

theorem ordW_turn {n : Nat} {l : List (Int × Int)} (hn : n ≤ 64) (h : l.all (endsOk n) = true) {o : List Nat} (ho : ordW (webOf n l) = some o) : ∃ o', ordW (webOf n (swapA l)) = some o' := by
  have hW := webOf_len n l
  have hW' := webOf_len n (swapA l)
  obtain ⟨h1, h2⟩ := ordGo_ok (webOf n l) (by omega) _ 0 [] _ (by omega) (by simp) ⟨by simp, by simp, by simp⟩ ho
  simp only [List.length_nil, Nat.zero_add, hW] at h2
  exact ordW_some (by omega) (ord_turn h h1 h2) (by rw [List.length_reverse, h2, hW'])

/-- The turned arcs have the same error, or none. -/
theorem weave_turn (n : Int) (l : List (Int × Int)) : (∃ c, weaveP n l = .bad c ∧ weaveP n (swapA l) = .bad c) ∨ ∃ o o', weaveP n l = .ok (webOf n.toNat l) o ∧ weaveP n (swapA l) = .ok (webOf n.toNat (swapA l)) o' := by
  unfold weaveP
  rw [swapA_len, swapA_ends]
  by_cases hc : n < 0 ∨ 64 < n ∨ 4096 < l.length ∨ l.all (endsOk n.toNat) = false
  · rw [if_pos hc, if_pos hc]
    exact .inl ⟨2, rfl, rfl⟩
  · rw [if_neg hc, if_neg hc]
    have hall : l.all (endsOk n.toNat) = true := by
      cases ha : l.all (endsOk n.toNat) with
      | true => rfl
      | false => exact absurd (.inr (.inr (.inr ha))) hc
    have hn : n.toNat ≤ 64 := by
      have : ¬ 64 < n := fun h1 => hc (.inr (.inl h1))
      omega
    cases ho : ordW (webOf n.toNat l) with
    | some o =>
      obtain ⟨o', ho'⟩ := ordW_turn hn hall ho
      rw [ho']
      exact .inr ⟨o, o', rfl, rfl⟩
    | none =>
      cases ho' : ordW (webOf n.toNat (swapA l)) with
      | none => exact .inl ⟨13, rfl, rfl⟩
      | some o' =>
        obtain ⟨o'', h3⟩ := ordW_turn hn (by rw [swapA_ends]; exact hall) ho'
        rw [swapA_swapA, ho] at h3
        cases h3

end Go.Proofs.YtlegmmhacnbnlaaGreatDoor.Dg

/- The program's Turn. -/
namespace Go.Proofs.YtlegmmhacnbnlaaGreatDoor.Dg

open Go.RowKit

/-- A row of arcs of the call's own, in a block. -/
structure RowA (wc : World) (b : Nat) (R : List (Int × Int)) : Prop where
  row : wc.heap[b]? = some (.cells (avs R).toArray 106 (0, 0))

theorem RowA.get {wc : World} {b : Nat} {R : List (Int × Int)} (h : RowA wc b R) (t : Nat) (ht : t < R.length) : (∃ x, wc.cell? ⟨b, t * 2, none⟩ = some x) ∧ (∃ x, wc.cell? ⟨b, t * 2 + 1, none⟩ = some x) ∧ wc.frozen? ⟨b, t * 2, none⟩ = false ∧ wc.frozen? ⟨b, t * 2 + 1, none⟩ = false := by
  have hl := avs_len R
  refine ⟨⟨(avs R)[t * 2]'(by omega), ?_⟩, ⟨(avs R)[t * 2 + 1]'(by omega), ?_⟩, froz_row h.row _, froz_row h.row _⟩
  · rw [cell_row h.row, List.getElem?_toArray, List.getElem?_eq_getElem]
  · rw [cell_row h.row, List.getElem?_toArray, List.getElem?_eq_getElem]

theorem avs_set : ∀ (R : List (Int × Int)) (t : Nat) (p : Int × Int), ((avs R).set (t * 2) (.int .i64 p.1)).set (t * 2 + 1) (.int .i64 p.2) = avs (R.set t p) := by
  intro R
  induction R with
  | nil => intro t p; rfl
  | cons q R ih =>
    intro t p
    cases t with
    | zero => rfl
    | succ t =>
      have h1 : (t + 1) * 2 = t * 2 + 1 + 1 := by omega
      have h2 : (t + 1) * 2 + 1 = (t * 2 + 1) + 1 + 1 := by omega
      rw [h2, h1]
      simp only [avs, av, List.cons_append, List.nil_append, List.set_cons_succ, ih t p]

theorem RowA.set {wc : World} {b : Nat} {R : List (Int × Int)} (h : RowA wc b R) (t : Nat) (p : Int × Int) : RowA ((wc.setCell ⟨b, t * 2, none⟩ (.int .i64 p.1)).setCell ⟨b, t * 2 + 1, none⟩ (.int .i64 p.2)) b (R.set t p) := by
  refine ⟨?_⟩
  have h1 := row_set (row_set h.row (t * 2) (.int .i64 p.1)) (t * 2 + 1) (.int .i64 p.2)
  rw [List.setIfInBounds_toArray, List.setIfInBounds_toArray, avs_set] at h1
  exact h1

theorem avs_zero (m : Nat) : avs (List.replicate m (0, 0)) = List.replicate (m * 2) (Value.int .i64 0) := by
  induction m with
  | zero => rfl
  | succ m ih =>
    rw [List.replicate_succ, show (m + 1) * 2 = m * 2 + 1 + 1 by omega, List.replicate_succ, List.replicate_succ]
    simp only [avs, av, ih, List.cons_append, List.nil_append]

theorem made_arcs (m : Nat) : madeCells #[Value.int .i64 0, Value.int .i64 0] (m * 2) = (avs (List.replicate m (0, 0))).toArray := by
  apply Array.toList_inj.1
  rw [avs_zero]
  apply List.ext_getElem?
  intro j
  by_cases hj : j < m * 2
  · rcases Nat.mod_two_eq_zero_or_one j with h | h <;> simp [madeCells, hj, h]
  · simp [madeCells, hj]

def turnTo (l : List (Int × Int)) (k : Nat) : List (Int × Int) := swapA (l.take k) ++ List.replicate (l.length - k) (0, 0)

theorem turnTo_len (l : List (Int × Int)) (k : Nat) (hk : k ≤ l.length) : (turnTo l k).length = l.length := by simp [turnTo, swapA]; omega

theorem turnTo_step (l : List (Int × Int)) (k : Nat) (p : Int × Int) (hx : l[k]? = some p) : (turnTo l k).set k (p.2, p.1) = turnTo l (k + 1) := by
  have hk := (List.getElem?_eq_some_iff.1 hx).1
  unfold turnTo
  have hl : (swapA (l.take k)).length = k := by simp [swapA]; omega
  rw [List.set_append_right _ _ (by omega), hl, Nat.sub_self, show l.length - k = (l.length - (k + 1)) + 1 by omega, List.replicate_succ, List.set_cons_zero, List.take_add_one, hx]
  simp [swapA]

theorem RowA.rd {wc : World} {b : Nat} {R : List (Int × Int)} (h : RowA wc b R) (hs : Small R) : RdA wc (.slice (some ⟨b, 0, none⟩) R.length R.length) R := by
  refine ⟨_, _, rfl, Nat.le_refl _, hs, fun i p hi => ⟨b, 0, rfl, ?_, ?_⟩⟩
  · rw [Nat.zero_add, cell_row h.row, List.getElem?_toArray]
    exact (avs_at R i 0 p hi (by omega)).trans rfl
  · rw [Nat.zero_add, cell_row h.row, List.getElem?_toArray]
    exact (avs_at R i 1 p hi (by omega)).trans rfl

set_option maxRecDepth 1000000 in
set_option maxHeartbeats 1000000 in
theorem Turn_any (v : Value) (l : List (Int × Int)) (w : World) (hl : RdA w v l) (hn : l.length ≤ 8192) :
    Calls Tryz.prog 31 #[v] w fun e w' => Below w.heap.size w w' ∧ ∃ u, e = .returned u ∧ RdA w' u (swapA l) := by
  obtain ⟨i0, hi0, hz0, hz1, hz2⟩ := info_parts Tryz.info106
  obtain ⟨a, cap, rfl, hc, hs, hr⟩ := hl
  have HR : Hid _ := hr
  have HS : Hid (Small l) := hs
  obtain ⟨n, HN⟩ : ∃ n, Hid (l.length = n) := ⟨_, rfl⟩
  rw [HN.out] at hn hc ⊢
  have hmk := run_make (P := Tryz.prog) w 76 106 i0 _ Tryz.underlying76 hi0 hz0 .i64 .i64 (n : Int) (n : Int) (by omega) (by omega) (by rw [hz2]; omega) (by omega)
  simp only [hz1, Int.toNat_natCast] at hmk
  have HRow0 : Hid (RowA (w.alloc (.cells (madeCells #[Value.int .i64 0, Value.int .i64 0] (n * 2)) 106)) w.heap.size (turnTo l 0)) := by
    have h0 : turnTo l 0 = List.replicate n (0, 0) := by unfold turnTo; rw [HN.out]; simp [swapA]
    show RowA _ _ _
    rw [h0]
    exact ⟨by rw [← made_arcs]; exact row_new w _ 106⟩
  have HB0 : Hid (Below w.heap.size w (w.alloc (.cells (madeCells #[Value.int .i64 0, Value.int .i64 0] (n * 2)) 106))) := (Below.refl _ _).alloc (Nat.le_refl _) _
  have HZ0 : Hid (w.heap.size < (w.alloc (.cells (madeCells #[Value.int .i64 0, Value.int .i64 0] (n * 2)) 106)).heap.size) := by show _ < _; simp
  clear hr hs
  go_enter Tryz.func31, Tryz.ntmps31
  go_wp2_with fail
  generalize w.alloc (.cells (madeCells #[Value.int .i64 0, Value.int .i64 0] (n * 2)) 106) = w1 at *
  go_loopw [4, 5, 11] (fun _ _ iv wr => ∃ (k : Nat), k ≤ n ∧ iv = .int .i64 k ∧ Hid (RowA wr w.heap.size (turnTo l k)) ∧ Hid (Below w.heap.size w wr) ∧ Hid (w.heap.size < wr.heap.size)) (fun _ _ iv _ => n - (intOf iv).toNat)
  case atStart => exact ⟨0, Nat.zero_le _, rfl, HRow0, HB0, HZ0⟩
  case round =>
    obtain ⟨k, hk, rfl, HRow, HB, HZ⟩ := hrel
    rename World => w2
    clear HRow0 HB0 HZ0 hmk
    by_cases hlt : k < n
    · obtain ⟨p, hx⟩ : ∃ p, l[k]? = some p := ⟨_, List.getElem?_eq_getElem (by rw [HN.out]; exact hlt)⟩
      obtain ⟨b, off, rfl, c0, c1⟩ := HR.out k p hx
      have d0 := cell_later HB.out c0
      have d1 := cell_later HB.out c1
      have hki : (k : Int) < (n : Int) := by omega
      have HStep : Hid _ := turnTo_step l k p hx
      have HTl : Hid ((turnTo l k).length = n) := by show _ = _; rw [turnTo_len l k (by rw [HN.out]; omega)]; exact HN.out
      obtain ⟨p1, p2⟩ := p
      simp only at d0 d1
      have HRow2 : Hid (RowA (w2.alloc (.cells #[.int .i64 p1, .int .i64 p2] 106)) w.heap.size (turnTo l k)) := ⟨row_alloc HRow.out.row _⟩
      have HB2 : Hid (Below w.heap.size w (w2.alloc (.cells #[.int .i64 p1, .int .i64 p2] 106))) := HB.out.alloc (Nat.le_of_lt HZ.out) _
      have HZ2 : Hid (w.heap.size < (w2.alloc (.cells #[.int .i64 p1, .int .i64 p2] 106)).heap.size) := by have := HZ.out; show _ < _; simp; omega
      have nb := row_new w2 #[.int .i64 p1, .int .i64 p2] 106
      obtain ⟨⟨x0, g0⟩, ⟨x1, g1⟩, f0, f1⟩ := HRow2.out.get k (by rw [HTl.out]; exact hlt)
      have hrs := row_set HRow2.out.row (k * 2) (.int .i64 p2)
      have f1' := froz_row hrs (k * 2 + 1)
      have g1' : ((w2.alloc (.cells #[.int .i64 p1, .int .i64 p2] 106)).setCell ⟨w.heap.size, k * 2, none⟩ (.int .i64 p2)).cell? ⟨w.heap.size, k * 2 + 1, none⟩ = some x1 := by
        rw [cell_row hrs, Array.getElem?_setIfInBounds_ne (by omega), ← cell_row HRow2.out.row]
        exact g1
      have HRow3 : Hid (RowA (((w2.alloc (.cells #[.int .i64 p1, .int .i64 p2] 106)).setCell ⟨w.heap.size, k * 2, none⟩ (.int .i64 p2)).setCell ⟨w.heap.size, k * 2 + 1, none⟩ (.int .i64 p1)) w.heap.size (turnTo l (k + 1))) := by
        show RowA _ _ _
        rw [← HStep.out]
        exact HRow2.out.set k (p2, p1)
      have HB3 : Hid (Below w.heap.size w (((w2.alloc (.cells #[.int .i64 p1, .int .i64 p2] 106)).setCell ⟨w.heap.size, k * 2, none⟩ (.int .i64 p2)).setCell ⟨w.heap.size, k * 2 + 1, none⟩ (.int .i64 p1))) := (HB2.out.setCell (p := ⟨w.heap.size, k * 2, none⟩) (Nat.le_refl _) _).setCell (p := ⟨w.heap.size, k * 2 + 1, none⟩) (Nat.le_refl _) _
      have HZ3 : Hid (w.heap.size < (((w2.alloc (.cells #[.int .i64 p1, .int .i64 p2] 106)).setCell ⟨w.heap.size, k * 2, none⟩ (.int .i64 p2)).setCell ⟨w.heap.size, k * 2 + 1, none⟩ (.int .i64 p1)).heap.size) := by have := HZ2.out; show _ < _; simpa using this
      clear hx c0 c1 HRow HB hrs
      go_wp2_with fail
      go_roundw
      case rel => exact ⟨k + 1, by omega, by go_num, HRow3, HB3, HZ3⟩
      case measure => simp [intOf]; omega
    · have hkn : k = n := by omega
      subst hkn
      have HF : Hid (turnTo l k = swapA l) := by
        show _ = _
        unfold turnTo
        rw [HN.out, Nat.sub_self, List.take_of_length_le (by rw [HN.out]; exact Nat.le_refl _)]
        simp
      go_wp2_with fail
      go_ret
      refine ⟨HB.out, _, rfl, ?_⟩
      have h9 := HRow.out
      rw [HF.out] at h9
      have hsm : Small (swapA l) := by
        intro p hp
        obtain ⟨q, hq, rfl⟩ := List.mem_map.1 hp
        have := HS.out q hq
        exact ⟨this.2, this.1⟩
      have h10 := h9.rd hsm
      rw [swapA_len, HN.out] at h10
      exact h10

end Go.Proofs.YtlegmmhacnbnlaaGreatDoor.Dg

