/- Texts of the seat, packed: DQg DPb DQi DPk DPc DPd DPe DPf DQt. -/
import Derived.Test.YtgdnlceliiekkaaGreatDoorP09
/- The program's weave at any arcs; Order; reach. -/
namespace Go.Proofs.YtgdnlceliiekkaaGreatDoor.Dg

open Go.RowKit

theorem weave_any (n : Int) (v : Value) (l : List (Int × Int)) (w : World) (hl : RdA w v l) (hT : Tab w) :
    Calls Tryz.prog 107 #[.int .i64 n, v] w fun e w' => WvC n l w e w' := by
  by_cases h : n < 0 ∨ 64 < n ∨ 4096 < l.length
  · exact weave_early n v l w hl h
  · obtain ⟨m, rfl⟩ : ∃ m : Nat, n = (m : Int) := ⟨n.toNat, by omega⟩
    exact weave_main m v l w hl (by omega) (by omega) hT

/-- A row of sets of the call's own, in a block. -/
structure RowU (wc : World) (b : Nat) (R : List Nat) : Prop where
  row : wc.heap[b]? = some (.cells (uvs R).toArray 169 (0, 0))
  lt : ∀ x ∈ R, x < 18446744073709551616

theorem RowU.get {wc : World} {b : Nat} {R : List Nat} (h : RowU wc b R) (t : Nat) (ht : t < R.length) : wc.cell? ⟨b, t, none⟩ = some (.int .u64 ((R.getD t 0 : Nat) : Int)) ∧ wc.frozen? ⟨b, t, none⟩ = false ∧ R.getD t 0 < 18446744073709551616 := by
  have hg : R[t]? = some (R.getD t 0) := by rw [List.getD_eq_getElem?_getD, List.getElem?_eq_getElem ht]; rfl
  refine ⟨?_, froz_row h.row t, h.lt _ (List.mem_of_getElem? hg)⟩
  rw [cell_row h.row t, List.getElem?_toArray, uvs, List.getElem?_map, hg]
  rfl

theorem RowU.set {wc : World} {b : Nat} {R : List Nat} (h : RowU wc b R) (t x : Nat) (hx : x < 18446744073709551616) : RowU (wc.setCell ⟨b, t, none⟩ (.int .u64 (x : Int))) b (R.set t x) := by
  refine ⟨?_, ?_⟩
  · have := row_set h.row t (.int .u64 (x : Int))
    rw [show (uvs R).toArray.setIfInBounds t (.int .u64 (x : Int)) = (uvs (R.set t x)).toArray by simp [uvs, List.map_set]] at this
    exact this
  · intro y hy
    rcases List.mem_or_eq_of_mem_set hy with h1 | h1
    · exact h.lt y h1
    · rw [h1]; exact hx

theorem RowU.below {wc wd : World} {b : Nat} {R : List Nat} (h : RowU wc b R) (hb : Below wc.heap.size wc wd) : RowU wd b R := ⟨(hb.block b (Array.getElem?_eq_some_iff.1 h.row).1).trans h.row, h.lt⟩

theorem RowU.drew {wc : World} {b : Nat} {R : List Nat} (h : RowU wc b R) : RowU wc.drew b R := ⟨h.row, h.lt⟩

theorem RowU.rd {wc : World} {b : Nat} {R : List Nat} (h : RowU wc b R) : RdU wc (.slice (some ⟨b, 0, none⟩) R.length R.length) R := by
  refine ⟨_, _, rfl, Nat.le_refl _, h.lt, fun i x hi => ⟨b, 0, rfl, ?_⟩⟩
  have hil := (List.getElem?_eq_some_iff.1 hi).1
  have := (h.get i hil).1
  rw [List.getD_eq_getElem?_getD, hi] at this
  rw [Nat.zero_add]
  exact this

/-- How Order ends. -/
def OrderC (n : Int) (l : List (Int × Int)) (w : World) (e : Ending) (w' : World) : Prop := Below w.heap.size w w' ∧ match weaveP n l with
  | .bad c => e = .returned (.tuple #[.slice none 0 0, .int .i64 c])
  | .ok _ o => ∃ v, e = .returned (.tuple #[v, .int .i64 0]) ∧ RdI w' v o ∧ o.length = n.toNat

set_option maxRecDepth 1000000 in
theorem Order_any (n : Int) (v : Value) (l : List (Int × Int)) (w : World) (hl : RdA w v l) (hT : Tab w) :
    Calls Tryz.prog 85 #[.int .i64 n, v] w fun e w' => OrderC n l w e w' := by
  have M : Hid (Calls Tryz.prog 107 #[.int .i64 n, v] w fun e w' => WvC n l w e w') := weave_any n v l w hl hT
  obtain ⟨a, cap, rfl, _⟩ := hl
  unfold WvC at M
  unfold OrderC
  cases hP : weaveP n l with
  | bad c =>
    rw [hP] at M
    go_enter Tryz.func85, Tryz.ntmps85
    go_wp2_with fail
    refine Calls.mono M.out ?_
    rintro e w1 ⟨hb, rfl⟩
    go_wp2_with fail
    go_ret2
    exact ⟨hb, rfl⟩
  | ok W o =>
    rw [hP] at M
    go_enter Tryz.func85, Tryz.ntmps85
    go_wp2_with fail
    refine Calls.mono M.out ?_
    rintro e w1 ⟨hb, v1, v2, rfl, hU, hI, h1, h2⟩
    go_wp2_with fail
    go_ret2
    exact ⟨hb, v2, rfl, hI, h2⟩

/-- One node's: those from which a chain leads to it over one on which it leans. -/
def orIn (v : Nat) (R : List Nat) (f : Nat) : List Nat := R.set v (R.getD v 0 ||| R.getD f 0)

def reachOne (W : List Nat) (R : List Nat) (v : Nat) : List Nat := (bitsOf (W.getD v 0)).foldl (orIn v) (R.set v (W.getD v 0))

def reachP (W o : List Nat) : List Nat := o.foldl (reachOne W) (List.replicate W.length 0)

/-- A web's sets hold nodes alone. -/
def WebOk (W : List Nat) : Prop := ∀ x ∈ W, ∀ i, x.testBit i = true → i < W.length

end Go.Proofs.YtgdnlceliiekkaaGreatDoor.Dg

/- What weave tells (plain words). -/
namespace Go.Proofs.YtgdnlceliiekkaaGreatDoor.Dg

theorem set_get (N : List Nat) (k a : Nat) (h : k < N.length) : (N.set k a).getD k 0 = a := by
  rw [List.getD_eq_getElem?_getD, List.getElem?_set_self h]
  rfl

theorem webOf_len (n : Nat) (l : List (Int × Int)) : (webOf n l).length = n := by
  have : ∀ (l : List (Int × Int)) (W : List Nat), (l.foldl putArc W).length = W.length := by
    intro l
    induction l with
    | nil => intro W; rfl
    | cons p l ih => intro W; rw [List.foldl_cons, ih]; simp [putArc]
  unfold webOf
  rw [this]
  simp

/-- What stands in the web: the arcs. -/
theorem webOf_bit (n : Nat) (l : List (Int × Int)) (h : l.all (endsOk n) = true) (t f : Nat) : ((webOf n l).getD t 0).testBit f = true ↔ (((f : Int), (t : Int)) ∈ l ∧ t < n) := by
  have key : ∀ (l : List (Int × Int)) (W : List Nat), W.length = n → l.all (endsOk n) = true → (((l.foldl putArc W).getD t 0).testBit f = true ↔ (((f : Int), (t : Int)) ∈ l ∧ t < n) ∨ (W.getD t 0).testBit f = true) := by
    intro l
    induction l with
    | nil => intro W _ _; simp
    | cons p l ih =>
      intro W hW hall
      rw [List.all_cons, Bool.and_eq_true] at hall
      have hp := hall.1
      simp only [endsOk, decide_eq_true_eq] at hp
      rw [List.foldl_cons, ih (putArc W p) (by simp [putArc, hW]) hall.2]
      have hput : ((putArc W p).getD t 0).testBit f = true ↔ (p = ((f : Int), (t : Int)) ∧ t < n) ∨ (W.getD t 0).testBit f = true := by
        obtain ⟨p1, p2⟩ := p
        obtain ⟨a, rfl⟩ : ∃ a : Nat, p1 = (a : Int) := ⟨p1.toNat, by omega⟩
        obtain ⟨b, rfl⟩ : ∃ b : Nat, p2 = (b : Int) := ⟨p2.toNat, by omega⟩
        unfold putArc
        simp only [Int.toNat_natCast, Prod.mk.injEq]
        by_cases hb : b = t
        · subst hb
          rw [set_get _ _ _ (by rw [hW]; omega), or_bit, Bool.or_eq_true, decide_eq_true_eq]
          constructor
          · rintro (h1 | h1)
            · exact .inr h1
            · exact .inl ⟨⟨by omega, rfl⟩, by omega⟩
          · rintro (⟨⟨h1, _⟩, _⟩ | h1)
            · exact .inr (by omega)
            · exact .inl h1
        · rw [List.getD_eq_getElem?_getD, List.getElem?_set_ne hb, ← List.getD_eq_getElem?_getD]
          constructor
          · exact fun h1 => .inr h1
          · rintro (⟨⟨_, h1⟩, _⟩ | h1)
            · omega
            · exact h1
      rw [hput, List.mem_cons]
      constructor
      · rintro (⟨h1, h2⟩ | ⟨rfl, h2⟩ | h1)
        · exact .inl ⟨.inr h1, h2⟩
        · exact .inl ⟨.inl rfl, h2⟩
        · exact .inr h1
      · rintro (⟨h1 | h1, h2⟩ | h1)
        · exact .inr (.inl ⟨h1.symm, h2⟩)
        · exact .inl ⟨h1, h2⟩
        · exact .inr (.inr h1)
  unfold webOf
  rw [key l (List.replicate n 0) (by simp) h]
  have h0 : ((List.replicate n 0).getD t 0).testBit f = false := by
    rw [List.getD_eq_getElem?_getD, List.getElem?_replicate]
    split <;> simp
  rw [h0]
  simp

theorem mem_getD {W : List Nat} {x : Nat} (h : x ∈ W) : ∃ t, t < W.length ∧ W.getD t 0 = x := by
  obtain ⟨t, ht⟩ := List.mem_iff_getElem?.1 h
  exact ⟨t, (List.getElem?_eq_some_iff.1 ht).1, by rw [List.getD_eq_getElem?_getD, ht]; rfl⟩

theorem webOf_ok (n : Nat) (l : List (Int × Int)) (h : l.all (endsOk n) = true) : WebOk (webOf n l) := by
  intro x hx i hi
  obtain ⟨t, _, rfl⟩ := mem_getD hx
  have := ((webOf_bit n l h t i).1 hi).1
  have h2 := List.all_eq_true.1 h _ this
  simp only [endsOk, decide_eq_true_eq] at h2
  rw [webOf_len]
  omega

/-- What an order is. -/
structure OrdOk (W acc : List Nat) : Prop where
  nodup : acc.Nodup
  lt : ∀ x ∈ acc, x < W.length
  ahead : ∀ (k x : Nat), acc[k]? = some x → ∀ i, (W.getD x 0).testBit i = true → i ∈ acc.take k

theorem ordGo_ok (W : List Nat) (hn : W.length ≤ 64) : ∀ (k there : Nat) (acc o : List Nat), there < 18446744073709551616 → (∀ i, there.testBit i = true ↔ i ∈ acc) → OrdOk W acc → ordGo W k there acc = some o → OrdOk W o ∧ o.length = acc.length + k := by
  intro k
  induction k with
  | zero =>
    intro there acc o _ _ hok h
    simp only [ordGo, Option.some.injEq] at h
    subst h
    exact ⟨hok, rfl⟩
  | succ k ih =>
    intro there acc o hth hmem hok h
    unfold ordGo at h
    split at h
    · cases h
    · rename_i h0
      have hlt : nextS W there < 18446744073709551616 := dif_lt (freeTo_lt W there _ hn)
      obtain ⟨b1, _, b3⟩ := low_bit h0 hlt
      generalize low (nextS W there) = v at *
      unfold nextS at b1
      rw [dif_bit, freeTo_bit] at b1
      simp only [Bool.and_eq_true, decide_eq_true_eq, Bool.not_eq_true'] at b1
      obtain ⟨⟨hvn, hfree⟩, hnot⟩ := b1
      have hva : v ∉ acc := fun hm => by rw [(hmem v).2 hm] at hnot; cases hnot
      have := ih (there ||| 2 ^ v) (acc ++ [v]) o (or_lt hth (two_lt b3)) (fun i => by
        rw [or_bit, Bool.or_eq_true, decide_eq_true_eq, hmem i]
        simp) ?_ h
      · refine ⟨this.1, ?_⟩
        have h2 := this.2
        simp at h2
        omega
      · refine ⟨?_, ?_, ?_⟩
        · rw [List.nodup_append]
          refine ⟨hok.nodup, by simp, ?_⟩
          intro a ha b hb
          simp at hb
          subst hb
          exact fun he => hva (he ▸ ha)
        · intro x hx
          rcases List.mem_append.1 hx with h1 | h1
          · exact hok.lt x h1
          · simp at h1; omega
        · intro j x hj i hi
          by_cases hjl : j < acc.length
          · rw [List.getElem?_append_left hjl] at hj
            rw [List.take_append_of_le_length (by omega)]
            exact hok.ahead j x hj i hi
          · have hje : j = acc.length := by
              have := (List.getElem?_eq_some_iff.1 hj).1
              simp at this
              omega
            subst hje
            simp at hj
            subst hj
            rw [List.take_left]
            exact (hmem i).1 (dif_zero.1 hfree i hi)

/-- What weave tells, where it tells. -/
theorem weave_facts {n : Int} {l : List (Int × Int)} {W o : List Nat} (h : weaveP n l = .ok W o) : (0 ≤ n ∧ n ≤ 64) ∧ W = webOf n.toNat l ∧ l.all (endsOk n.toNat) = true ∧ WebOk W ∧ W.length = n.toNat ∧ OrdOk W o ∧ o.length = n.toNat := by
  unfold weaveP at h
  split at h
  · cases h
  · rename_i hc
    have hall : l.all (endsOk n.toNat) = true := by
      cases ha : l.all (endsOk n.toNat) with
      | true => rfl
      | false => exact absurd (.inr (.inr (.inr ha))) hc
    split at h
    · cases h
    · rename_i o' ho
      cases h
      have hl := webOf_len n.toNat l
      have hn : 0 ≤ n ∧ n ≤ 64 := by
        constructor
        · apply Int.not_lt.1
          intro h1
          exact hc (.inl h1)
        · apply Int.not_lt.1
          intro h1
          exact hc (.inr (.inl h1))
      obtain ⟨h1, h2⟩ := ordGo_ok (webOf n.toNat l) (by omega) _ 0 [] _ (by omega) (by simp) ⟨by simp, by simp, by simp⟩ ho
      refine ⟨hn, rfl, hall, webOf_ok _ _ hall, hl, h1, ?_⟩
      simp at h2
      omega

end Go.Proofs.YtgdnlceliiekkaaGreatDoor.Dg

/- The program's Reach. -/
namespace Go.Proofs.YtgdnlceliiekkaaGreatDoor.Dg

open Go.RowKit

/-- A slice of nodes that lies behind a block. -/
def RdF (w : World) (q : Nat) (v : Value) (l : List Nat) : Prop := ∃ a cap, v = .slice a l.length cap ∧ l.length ≤ cap ∧ ∀ (i : Nat) (x : Nat), l[i]? = some x → ∃ b off, a = some ⟨b, off, none⟩ ∧ q < b ∧ w.cell? ⟨b, off + i, none⟩ = some (.int .i64 (x : Int))

theorem RdF.rd {w : World} {q : Nat} {v : Value} {l : List Nat} (h : RdF w q v l) : RdI w v l := by
  obtain ⟨a, cap, hv, hc, hr⟩ := h
  refine ⟨a, cap, hv, hc, fun i x hi => ?_⟩
  obtain ⟨b, off, ha, _, c0⟩ := hr i x hi
  exact ⟨b, off, ha, c0⟩

theorem RdF.later {w w' : World} {q : Nat} {v : Value} {l : List Nat} (h : RdF w q v l) (hb : Below w.heap.size w w') : RdF w' q v l := by
  obtain ⟨a, cap, hv, hc, hr⟩ := h
  refine ⟨a, cap, hv, hc, fun i x hi => ?_⟩
  obtain ⟨b, off, ha, hq, c0⟩ := hr i x hi
  exact ⟨b, off, ha, hq, cell_later hb c0⟩

theorem RdF.set {w : World} {q j : Nat} {u v : Value} {l : List Nat} (h : RdF w q v l) : RdF (w.setCell ⟨q, j, none⟩ u) q v l := by
  obtain ⟨a, cap, hv, hc, hr⟩ := h
  refine ⟨a, cap, hv, hc, fun i x hi => ?_⟩
  obtain ⟨b, off, ha, hq, c0⟩ := hr i x hi
  exact ⟨b, off, ha, hq, (World.cell?_of_block (a := ⟨b, off + i, none⟩) (Below.heap_setCell w ⟨q, j, none⟩ u b (by show b ≠ q; omega))).trans c0⟩

theorem RdF.of_own {w : World} {B q : Nat} {v : Value} {l : List Nat} (hq : q < B) (h : w.ownsRow B 3 1 v l.length (ivs l)) : RdF w q v l := by
  obtain ⟨a, cap, hv, hc, hr⟩ := RdI.of_own h
  refine ⟨a, cap, hv, hc, fun i x hi => ?_⟩
  obtain ⟨b, off, ha, c0⟩ := hr i x hi
  have := (h.lt b (by rw [hv, ha]; rfl)).1
  exact ⟨b, off, ha, by omega, c0⟩

/-- The first k rows of so many lie. -/
def RowsI (w : World) (q k n : Nat) (L : List (List Nat)) : Prop := ∃ Vs : List Value, w.heap[q]? = some (.cells Vs.toArray 35 (0, 0)) ∧ Vs.length = n ∧ ∀ (i : Nat), i < k → ∃ v, Vs[i]? = some v ∧ RdF w q v (L.getD i [])

theorem RowsI.later {w w' : World} {q k n : Nat} {L : List (List Nat)} (h : RowsI w q k n L) (hb : Below w.heap.size w w') : RowsI w' q k n L := by
  obtain ⟨Vs, h1, h2, h3⟩ := h
  refine ⟨Vs, (hb.block q (Array.getElem?_eq_some_iff.1 h1).1).trans h1, h2, fun i hi => ?_⟩
  obtain ⟨v, a, b⟩ := h3 i hi
  exact ⟨v, a, b.later hb⟩

theorem RowsI.get {w : World} {q k n : Nat} {L : List (List Nat)} (h : RowsI w q k n L) (t : Nat) (ht : t < n) : ∃ v, w.cell? ⟨q, t, none⟩ = some v ∧ w.frozen? ⟨q, t, none⟩ = false := by
  obtain ⟨Vs, h1, h2, h3⟩ := h
  exact ⟨Vs[t]'(by omega), by rw [cell_row h1 t, List.getElem?_toArray, List.getElem?_eq_getElem (by omega)], froz_row h1 t⟩

theorem RowsI.set {w : World} {q k n : Nat} {L : List (List Nat)} (h : RowsI w q k n L) (v : Value) (hk : k < n) (hv : RdF w q v (L.getD k [])) : RowsI (w.setCell ⟨q, k, none⟩ v) q (k + 1) n L := by
  obtain ⟨Vs, h1, h2, h3⟩ := h
  refine ⟨Vs.set k v, ?_, by simpa using h2, fun i hi => ?_⟩
  · have := row_set h1 k v
    rw [List.setIfInBounds_toArray] at this
    exact this
  · by_cases hik : i = k
    · subst hik
      exact ⟨v, List.getElem?_set_self (by omega), hv.set⟩
    · obtain ⟨u, a, b⟩ := h3 i (by omega)
      exact ⟨u, by rw [List.getElem?_set_ne (fun h => hik h.symm)]; exact a, b.set⟩

/-- Rows of nodes in a slice. -/
def RdL (w : World) (v : Value) (L : List (List Nat)) : Prop := ∃ a cap, v = .slice a L.length cap ∧ L.length ≤ cap ∧ ∀ (i : Nat) (x : List Nat), L[i]? = some x → ∃ b off u, a = some ⟨b, off, none⟩ ∧ w.cell? ⟨b, off + i, none⟩ = some u ∧ RdI w u x

theorem RdL.later {w w' : World} {v : Value} {L : List (List Nat)} (h : RdL w v L) (hb : Below w.heap.size w w') : RdL w' v L := by
  obtain ⟨a, cap, hv, hc, hr⟩ := h
  refine ⟨a, cap, hv, hc, fun i x hi => ?_⟩
  obtain ⟨b, off, u, ha, c0, c1⟩ := hr i x hi
  exact ⟨b, off, u, ha, cell_later hb c0, c1.later hb⟩

theorem RowsI.rd {w : World} {q : Nat} {L : List (List Nat)} (h : RowsI w q L.length L.length L) : RdL w (.slice (some ⟨q, 0, none⟩) L.length L.length) L := by
  obtain ⟨Vs, h1, h2, h3⟩ := h
  refine ⟨_, _, rfl, Nat.le_refl _, fun i x hi => ?_⟩
  obtain ⟨u, a, b⟩ := h3 i (List.getElem?_eq_some_iff.1 hi).1
  refine ⟨q, 0, u, rfl, by rw [Nat.zero_add, cell_row h1 i, List.getElem?_toArray, a], ?_⟩
  rw [List.getD_eq_getElem?_getD, hi] at b
  exact b.rd

theorem made_nil (m : Nat) : madeCells #[Value.slice none 0 0] m = (List.replicate m (Value.slice none 0 0)).toArray := by
  apply Array.toList_inj.1
  rw [toList_madeCells_one]

/-- What Reach tells. -/
def reachL (W o : List Nat) : List (List Nat) := (reachP W o).map bitsOf

end Go.Proofs.YtgdnlceliiekkaaGreatDoor.Dg

/- Arcs in a row of the call's own. -/
namespace Go.Proofs.YtgdnlceliiekkaaGreatDoor.Dg

open Go.RowKit

theorem Tryz.info158 : (Tryz.prog.info? 158).map (fun i => (i.zero, i.size, i.bytes)) = some (some (.agg #[.int .i64 0, .int .i64 0]), 2, 16) := by kernel_rfl

def av (p : Int × Int) : List Value := [.int .i64 p.1, .int .i64 p.2]

def avs : List (Int × Int) → List Value
  | [] => []
  | p :: l => av p ++ avs l

theorem avs_append (a b : List (Int × Int)) : avs (a ++ b) = avs a ++ avs b := by
  induction a with
  | nil => rfl
  | cons t a ih => simp [avs, ih]

theorem avs_len (a : List (Int × Int)) : (avs a).length = a.length * 2 := by
  induction a with
  | nil => rfl
  | cons t a ih => simp [avs, av, ih]; omega

theorem avs_one (t : Int × Int) : avs [t] = av t := by simp [avs]

theorem avs_at (a : List (Int × Int)) : ∀ (i j : Nat) (t : Int × Int), a[i]? = some t → j < 2 → (avs a)[i * 2 + j]? = (av t)[j]? := by
  induction a with
  | nil => intro i j t h; simp at h
  | cons p a ih =>
    intro i j t h hj
    cases i with
    | zero =>
      simp at h
      subst h
      simp only [avs, Nat.zero_mul, Nat.zero_add]
      rw [List.getElem?_append_left (by simp [av]; omega)]
    | succ i =>
      simp only [avs]
      rw [List.getElem?_append_right (by simp [av]; omega), show (i + 1) * 2 + j - (av p).length = i * 2 + j by simp [av]; omega]
      exact ih i j t (by simpa using h) hj

def Small (l : List (Int × Int)) : Prop := ∀ p ∈ l, (-9223372036854775808 ≤ p.1 ∧ p.1 ≤ 9223372036854775807) ∧ -9223372036854775808 ≤ p.2 ∧ p.2 ≤ 9223372036854775807

theorem RdA.of_own {w : World} {B : Nat} {v : Value} {l : List (Int × Int)} (h : w.ownsRow B 158 2 v l.length (avs l)) (hl : Small l) : RdA w v l := by
  rcases h.2 with ⟨rfl, h0⟩ | ⟨g, cap, cur, rfl, hb, hg, hnc, hcm, _⟩
  · have h1 : l = [] := List.eq_nil_of_length_eq_zero h0
    subst h1
    exact ⟨none, 0, rfl, Nat.le_refl _, by simp, by simp⟩
  · refine ⟨_, cap, rfl, hnc, hl, fun i x hi => ⟨g, 0, rfl, ?_, ?_⟩⟩
    · have := h.cells (g := g) rfl (i * 2 + 0) (.int .i64 x.1) (by rw [avs_at l i 0 x hi (by omega)]; rfl)
      rw [add_zero'] at this
      rw [Nat.zero_add]
      exact this
    · have := h.cells (g := g) rfl (i * 2 + 1) (.int .i64 x.2) (by rw [avs_at l i 1 x hi (by omega)]; rfl)
      rw [add_zero'] at this
      rw [Nat.zero_add]
      exact this

theorem own_mono {w : World} {B B' : Nat} {e : TypeId} {size : Nat} {v : Value} {n : Nat} {xs : List Value} (hB : B' ≤ B) (h : w.ownsRow B e size v n xs) : w.ownsRow B' e size v n xs := by
  obtain ⟨h1, h2⟩ := h
  refine ⟨h1, ?_⟩
  rcases h2 with h3 | ⟨g, cap, cur, h4, h5, h6⟩
  · exact .inl h3
  · exact .inr ⟨g, cap, cur, h4, Nat.le_trans hB h5, h6⟩

end Go.Proofs.YtgdnlceliiekkaaGreatDoor.Dg

/- What reach tells (plain words). -/
namespace Go.Proofs.YtgdnlceliiekkaaGreatDoor.Dg

theorem filter_lt (p q : Nat → Bool) (f : Nat) (hp : p f = true) (hq : q f = false) : ∀ l : List Nat, (∀ x ∈ l, q x = true → p x = true) → (l.filter q).length ≤ (l.filter p).length ∧ (f ∈ l → (l.filter q).length + 1 ≤ (l.filter p).length) := by
  intro l
  induction l with
  | nil => intro _; simp
  | cons x l ih =>
    intro h
    obtain ⟨h1, h2⟩ := ih (fun y hy => h y (by simp [hy]))
    rw [List.filter_cons, List.filter_cons]
    have hx := h x (by simp)
    by_cases hqx : q x = true
    · rw [if_pos hqx, if_pos (hx hqx)]
      refine ⟨by simp; omega, fun hf => ?_⟩
      rcases List.mem_cons.1 hf with rfl | hf
      · rw [hq] at hqx; cases hqx
      · have := h2 hf
        simp; omega
    · rw [if_neg hqx]
      by_cases hpx : p x = true
      · rw [if_pos hpx]
        refine ⟨by simp; omega, fun _ => by simp; omega⟩
      · rw [if_neg hpx]
        refine ⟨h1, fun hf => ?_⟩
        rcases List.mem_cons.1 hf with rfl | hf
        · exact absurd hp hpx
        · exact h2 hf

theorem of_bitsOf {s i : Nat} (h : i ∈ bitsOf s) : s.testBit i = true := by
  unfold bitsOf at h
  exact (List.mem_filter.1 h).2

theorem mem_take_at {o : List Nat} {i x : Nat} (h : x ∈ o.take i) : ∃ j, j < i ∧ o[j]? = some x := by
  obtain ⟨j, hj⟩ := List.mem_iff_getElem?.1 h
  have hlt := (List.getElem?_eq_some_iff.1 hj).1
  rw [List.length_take] at hlt
  exact ⟨j, by omega, by rw [List.getElem?_take_of_lt (by omega)] at hj; exact hj⟩

theorem at_mem_take {o : List Nat} {i j x : Nat} (h : o[j]? = some x) (hj : j < i) : x ∈ o.take i := by
  refine List.mem_of_getElem? (i := j) ?_
  rw [List.getElem?_take_of_lt hj]
  exact h

theorem nodup_at {o : List Nat} (h : o.Nodup) {i v : Nat} (hi : o[i]? = some v) : v ∉ o.take i := by
  intro hm
  obtain ⟨j, hj, hx⟩ := mem_take_at hm
  have := (List.getElem?_inj (by have := (List.getElem?_eq_some_iff.1 hx).1; exact this) h).1 (hx.trans hi.symm)
  omega

end Go.Proofs.YtgdnlceliiekkaaGreatDoor.Dg

/- Which nodes are free, while an order is there (plain words). -/
namespace Go.Proofs.YtgdnlceliiekkaaGreatDoor.Dg

def overP (l : List Nat) : Nat := l.foldl (fun s d => s ||| 2 ^ d) 0

theorem overP_snoc (l : List Nat) (x : Nat) : overP (l ++ [x]) = overP l ||| 2 ^ x := by unfold overP; rw [List.foldl_append]; rfl

theorem overP_bit (l : List Nat) (i : Nat) : (overP l).testBit i = true ↔ i ∈ l := by
  have : ∀ (l : List Nat) (s : Nat), (l.foldl (fun s d => s ||| 2 ^ d) s).testBit i = true ↔ s.testBit i = true ∨ i ∈ l := by
    intro l
    induction l with
    | nil => intro s; simp
    | cons x l ih =>
      intro s
      rw [List.foldl_cons, ih, or_bit, Bool.or_eq_true, decide_eq_true_eq, List.mem_cons, or_assoc]
  unfold overP
  rw [this]
  simp

def readyP (W done : List Nat) : List Nat := bitsOf (dif (freeTo W (overP done) W.length) (overP done))

theorem readyP_mem {W done : List Nat} (hn : W.length ≤ 64) {x : Nat} : x ∈ readyP W done ↔ (x < W.length ∧ ∀ i, (W.getD x 0).testBit i = true → i ∈ done) ∧ x ∉ done := by
  have hb : (dif (freeTo W (overP done) W.length) (overP done)).testBit x = true ↔ (x < W.length ∧ ∀ i, (W.getD x 0).testBit i = true → i ∈ done) ∧ x ∉ done := by
    rw [dif_bit, freeTo_bit]
    simp only [Bool.and_eq_true, decide_eq_true_eq, Bool.not_eq_true']
    constructor
    · rintro ⟨⟨h1, h2⟩, h3⟩
      refine ⟨⟨h1, fun i hi => (overP_bit done i).1 (dif_zero.1 h2 i hi)⟩, fun hm => ?_⟩
      rw [(overP_bit done x).2 hm] at h3
      cases h3
    · rintro ⟨⟨h1, h2⟩, h3⟩
      refine ⟨⟨h1, dif_zero.2 fun i hi => (overP_bit done i).2 (h2 i hi)⟩, ?_⟩
      cases hc : (overP done).testBit x with
      | false => rfl
      | true => exact absurd ((overP_bit done x).1 hc) h3
  rw [← hb]
  unfold readyP
  constructor
  · exact of_bitsOf
  · intro h
    unfold bitsOf
    refine List.mem_filter.2 ⟨List.mem_range.2 ?_, h⟩
    have := (hb.1 h).1.1
    omega

theorem erase_mem {l : List Nat} {x y : Nat} (h : y ∈ l) (hne : y ≠ x) : y ∈ l.filter (fun z => decide (z ≠ x)) := List.mem_filter.2 ⟨h, by simpa using hne⟩

/-- Different ones that all stand in a list are no more than it has. -/
theorem pigeon : ∀ (a b : List Nat), a.Nodup → (∀ x ∈ a, x ∈ b) → a.length ≤ b.length := by
  intro a
  induction a with
  | nil => intro b _ _; simp
  | cons x a ih =>
    intro b hn hs
    rw [List.nodup_cons] at hn
    have h1 := ih (b.filter fun z => decide (z ≠ x)) hn.2 (fun y hy => erase_mem (hs y (by simp [hy])) (fun e => hn.1 (e ▸ hy)))
    have h2 : (b.filter fun z => decide (z ≠ x)).length < b.length := by
      have h3 := (filter_lt (fun _ => true) (fun z => decide (z ≠ x)) x rfl (by simp) b (fun _ _ _ => rfl)).2 (hs x (by simp))
      have h4 : (b.filter fun _ => true).length = b.length := by rw [List.filter_eq_self.2 (by simp)]
      omega
    simp only [List.length_cons]
    omega

/-- While fewer than all are done, one is ready. -/
theorem ready_some {W o done : List Nat} (hn : W.length ≤ 64) (hO : OrdOk W o) (hol : o.length = W.length) (hlt : done.length < W.length) : readyP W done ≠ [] := by
  have hex : ∃ k x, o[k]? = some x ∧ x ∉ done ∧ ∀ y ∈ o.take k, y ∈ done := by
    have key : ∀ i, i ≤ o.length → (∀ y ∈ o.take i, y ∈ done) ∨ ∃ k x, o[k]? = some x ∧ x ∉ done ∧ ∀ y ∈ o.take k, y ∈ done := by
      intro i
      induction i with
      | zero => intro _; exact .inl (by simp)
      | succ i ih =>
        intro hi
        rcases ih (by omega) with h | h
        · have hx : o[i]? = some o[i] := List.getElem?_eq_getElem (by omega)
          by_cases hd : o[i] ∈ done
          · refine .inl fun y hy => ?_
            rw [List.take_add_one, hx] at hy
            rcases List.mem_append.1 hy with h1 | h1
            · exact h y h1
            · simp at h1; rw [h1]; exact hd
          · exact .inr ⟨i, _, hx, hd, h⟩
        · exact .inr h
    rcases key o.length (Nat.le_refl _) with h | h
    · rw [List.take_length] at h
      have := pigeon o done hO.nodup h
      omega
    · exact h
  obtain ⟨k, x, hx, hd, hall⟩ := hex
  have : x ∈ readyP W done := (readyP_mem hn).2 ⟨⟨hO.lt x (List.mem_of_getElem? hx), fun i hi => hall i (hO.ahead k x hx i hi)⟩, hd⟩
  intro he
  rw [he] at this
  cases this

end Go.Proofs.YtgdnlceliiekkaaGreatDoor.Dg

/- Chains (plain words). -/
namespace Go.Proofs.YtgdnlceliiekkaaGreatDoor.Dg

/-- A chain of arcs leads from one node to another one. -/
inductive Chain (W : List Nat) : Nat → Nat → Prop
  | one {f t : Nat} : (W.getD t 0).testBit f = true → Chain W f t
  | more {f g t : Nat} : Chain W f g → (W.getD t 0).testBit g = true → Chain W f t

theorem Chain.trans {W : List Nat} {f g t : Nat} (h : Chain W f g) (k : Chain W g t) : Chain W f t := by
  induction k with
  | one e => exact .more h e
  | more _ e ih => exact .more ih e

/-- All nodes stand in an order that is as long. -/
theorem ord_all {W o : List Nat} (hO : OrdOk W o) (hl : o.length = W.length) {x : Nat} (hx : x < W.length) : x ∈ o := by
  apply Classical.byContradiction
  intro hm
  have := pigeon (x :: o) (List.range W.length) (List.nodup_cons.2 ⟨hm, hO.nodup⟩) (fun y hy => by
    rcases List.mem_cons.1 hy with rfl | hy
    · exact List.mem_range.2 hx
    · exact List.mem_range.2 (hO.lt y hy))
  simp at this
  omega

/-- Where there is an order, one is told. -/
theorem ordGo_some {W o : List Nat} (hn : W.length ≤ 64) (hO : OrdOk W o) (hl : o.length = W.length) : ∀ (k there : Nat) (acc : List Nat), there = overP acc → there < 18446744073709551616 → acc.length + k = W.length → ∃ r, ordGo W k there acc = some r := by
  intro k
  induction k with
  | zero => intro there acc _ _ _; exact ⟨acc, rfl⟩
  | succ k ih =>
    intro there acc hth hlt hlen
    have hne : nextS W there ≠ 0 := by
      intro h0
      refine ready_some (done := acc) hn hO hl (by omega) ?_
      unfold readyP
      unfold nextS at h0
      rw [← hth, h0, bitsOf_zero]
    have hnl : nextS W there < 18446744073709551616 := dif_lt (freeTo_lt W there _ hn)
    obtain ⟨_, _, b3⟩ := low_bit hne hnl
    obtain ⟨r, hr⟩ := ih (there ||| 2 ^ low (nextS W there)) (acc ++ [low (nextS W there)]) (by rw [overP_snoc, hth]) (or_lt hlt (two_lt b3)) (by rw [List.length_append]; simp; omega)
    refine ⟨r, ?_⟩
    rw [ordGo, if_neg hne]
    exact hr

theorem ordW_some {W o : List Nat} (hn : W.length ≤ 64) (hO : OrdOk W o) (hl : o.length = W.length) : ∃ r, ordW W = some r := ordGo_some hn hO hl W.length 0 [] rfl (by omega) (by simp)

end Go.Proofs.YtgdnlceliiekkaaGreatDoor.Dg

/- Arcs that are turned round (plain words). -/
namespace Go.Proofs.YtgdnlceliiekkaaGreatDoor.Dg

def swapA (l : List (Int × Int)) : List (Int × Int) := l.map fun p => (p.2, p.1)

theorem swapA_swapA (l : List (Int × Int)) : swapA (swapA l) = l := by
  unfold swapA
  rw [List.map_map]
  exact (List.map_congr_left (fun p _ => rfl)).trans (List.map_id l)

theorem swapA_len (l : List (Int × Int)) : (swapA l).length = l.length := by simp [swapA]

theorem swapA_mem {l : List (Int × Int)} {a b : Int} : (a, b) ∈ swapA l ↔ (b, a) ∈ l := by
  unfold swapA
  rw [List.mem_map]
  constructor
  · rintro ⟨⟨p, q⟩, h, e⟩
    cases e
    exact h
  · intro h
    exact ⟨(b, a), h, rfl⟩

theorem swapA_ends (n : Nat) (l : List (Int × Int)) : (swapA l).all (endsOk n) = l.all (endsOk n) := by
  unfold swapA
  rw [List.all_map]
  congr 1
  funext p
  simp only [Function.comp, endsOk]
  congr 1
  exact propext ⟨fun h => ⟨h.2, h.1⟩, fun h => ⟨h.2, h.1⟩⟩

theorem web_turn {n : Nat} {l : List (Int × Int)} (h : l.all (endsOk n) = true) (t f : Nat) : ((webOf n (swapA l)).getD t 0).testBit f = true ↔ ((webOf n l).getD f 0).testBit t = true := by
  rw [webOf_bit n (swapA l) (by rw [swapA_ends]; exact h), webOf_bit n l h, swapA_mem]
  constructor
  · rintro ⟨h1, _⟩
    have := List.all_eq_true.1 h _ h1
    simp only [endsOk, decide_eq_true_eq] at this
    exact ⟨h1, by omega⟩
  · rintro ⟨h1, _⟩
    have := List.all_eq_true.1 h _ h1
    simp only [endsOk, decide_eq_true_eq] at this
    exact ⟨h1, by omega⟩

theorem ord_turn {n : Nat} {l : List (Int × Int)} (h : l.all (endsOk n) = true) {o : List Nat} (hO : OrdOk (webOf n l) o) (hl : o.length = n) : OrdOk (webOf n (swapA l)) o.reverse := by
  have hW := webOf_len n l
  have hW' := webOf_len n (swapA l)
  refine ⟨List.pairwise_reverse.2 (List.Pairwise.imp (fun h => fun e => h e.symm) hO.nodup), ?_, ?_⟩
  · intro x hx
    rw [hW', ← hW]
    exact hO.lt x (List.mem_reverse.1 hx)
  · intro k x hk i hi
    rw [web_turn h] at hi
    have hkl : k < o.length := by have := (List.getElem?_eq_some_iff.1 hk).1; simpa using this
    rw [List.getElem?_reverse hkl] at hk
    have hin : i < n := by
      apply Classical.byContradiction
      intro hc
      rw [List.getD_eq_getElem?_getD, List.getElem?_eq_none (by rw [hW]; omega)] at hi
      simp at hi
    obtain ⟨j, hj⟩ := List.mem_iff_getElem?.1 (ord_all hO (by rw [hW]; exact hl) (by rw [hW]; exact hin))
    have hjl := (List.getElem?_eq_some_iff.1 hj).1
    obtain ⟨j', hj', hx'⟩ := mem_take_at (hO.ahead j i hj x hi)
    have he := (List.getElem?_inj (by omega) hO.nodup).1 (hk.trans hx'.symm)
    refine at_mem_take (j := o.length - 1 - j) ?_ (by omega)
    rw [List.getElem?_reverse (by omega), show o.length - 1 - (o.length - 1 - j) = j by omega]
    exact hj

theorem ordW_turn {n : Nat} {l : List (Int × Int)} (hn : n ≤ 64) (h : l.all (endsOk n) = true) {o : List Nat} (ho : ordW (webOf n l) = some o) : ∃ o', ordW (webOf n (swapA l)) = some o' := by
  have hW := webOf_len n l
  have hW' := webOf_len n (swapA l)
  obtain ⟨h1, h2⟩ := ordGo_ok (webOf n l) (by omega) _ 0 [] _ (by omega) (by simp) ⟨by simp, by simp, by simp⟩ ho
  simp only [List.length_nil, Nat.zero_add, hW] at h2
  exact ordW_some (by omega) (ord_turn h h1 h2) (by rw [List.length_reverse, h2, hW'])

/-- The turned arcs have the same error, or none. -/
theorem weave_turn (n : Int) (l : List (Int × Int)) : (∃ c, weaveP n l = .bad c ∧ weaveP n (swapA l) = .bad c) ∨ ∃ o o', weaveP n l = .ok (webOf n.toNat l) o ∧ weaveP n (swapA l) = .ok (webOf n.toNat (swapA l)) o' := by
  unfold weaveP
  rw [swapA_len, swapA_ends]
  by_cases hc : n < 0 ∨ 64 < n ∨ 4096 < l.length ∨ l.all (endsOk n.toNat) = false
  · rw [if_pos hc, if_pos hc]
    exact .inl ⟨2, rfl, rfl⟩
  · rw [if_neg hc, if_neg hc]
    have hall : l.all (endsOk n.toNat) = true := by
      cases ha : l.all (endsOk n.toNat) with
      | true => rfl
      | false => exact absurd (.inr (.inr (.inr ha))) hc
    have hn : n.toNat ≤ 64 := by
      have : ¬ 64 < n := fun h1 => hc (.inr (.inl h1))
      omega
    cases ho : ordW (webOf n.toNat l) with
    | some o =>
      obtain ⟨o', ho'⟩ := ordW_turn hn hall ho
      rw [ho']
      exact .inr ⟨o, o', rfl, rfl⟩
    | none =>
      cases ho' : ordW (webOf n.toNat (swapA l)) with
      | none => exact .inl ⟨13, rfl, rfl⟩
      | some o' =>
        obtain ⟨o'', h3⟩ := ordW_turn hn (by rw [swapA_ends]; exact hall) ho'
        rw [swapA_swapA, ho] at h3
        cases h3

end Go.Proofs.YtgdnlceliiekkaaGreatDoor.Dg

/- The program's Turn. -/
namespace Go.Proofs.YtgdnlceliiekkaaGreatDoor.Dg

open Go.RowKit

/-- A row of arcs of the call's own, in a block. -/
structure RowA (wc : World) (b : Nat) (R : List (Int × Int)) : Prop where
  row : wc.heap[b]? = some (.cells (avs R).toArray 158 (0, 0))

theorem RowA.get {wc : World} {b : Nat} {R : List (Int × Int)} (h : RowA wc b R) (t : Nat) (ht : t < R.length) : (∃ x, wc.cell? ⟨b, t * 2, none⟩ = some x) ∧ (∃ x, wc.cell? ⟨b, t * 2 + 1, none⟩ = some x) ∧ wc.frozen? ⟨b, t * 2, none⟩ = false ∧ wc.frozen? ⟨b, t * 2 + 1, none⟩ = false := by
  have hl := avs_len R
  refine ⟨⟨(avs R)[t * 2]'(by omega), ?_⟩, ⟨(avs R)[t * 2 + 1]'(by omega), ?_⟩, froz_row h.row _, froz_row h.row _⟩
  · rw [cell_row h.row, List.getElem?_toArray, List.getElem?_eq_getElem]
  · rw [cell_row h.row, List.getElem?_toArray, List.getElem?_eq_getElem]

theorem avs_set : ∀ (R : List (Int × Int)) (t : Nat) (p : Int × Int), ((avs R).set (t * 2) (.int .i64 p.1)).set (t * 2 + 1) (.int .i64 p.2) = avs (R.set t p) := by
  intro R
  induction R with
  | nil => intro t p; rfl
  | cons q R ih =>
    intro t p
    cases t with
    | zero => rfl
    | succ t =>
      have h1 : (t + 1) * 2 = t * 2 + 1 + 1 := by omega
      have h2 : (t + 1) * 2 + 1 = (t * 2 + 1) + 1 + 1 := by omega
      rw [h2, h1]
      simp only [avs, av, List.cons_append, List.nil_append, List.set_cons_succ, ih t p]

theorem RowA.set {wc : World} {b : Nat} {R : List (Int × Int)} (h : RowA wc b R) (t : Nat) (p : Int × Int) : RowA ((wc.setCell ⟨b, t * 2, none⟩ (.int .i64 p.1)).setCell ⟨b, t * 2 + 1, none⟩ (.int .i64 p.2)) b (R.set t p) := by
  refine ⟨?_⟩
  have h1 := row_set (row_set h.row (t * 2) (.int .i64 p.1)) (t * 2 + 1) (.int .i64 p.2)
  rw [List.setIfInBounds_toArray, List.setIfInBounds_toArray, avs_set] at h1
  exact h1

theorem RowA.rd {wc : World} {b : Nat} {R : List (Int × Int)} (h : RowA wc b R) (hs : Small R) : RdA wc (.slice (some ⟨b, 0, none⟩) R.length R.length) R := by
  refine ⟨_, _, rfl, Nat.le_refl _, hs, fun i p hi => ⟨b, 0, rfl, ?_, ?_⟩⟩
  · rw [Nat.zero_add, cell_row h.row, List.getElem?_toArray]
    exact (avs_at R i 0 p hi (by omega)).trans rfl
  · rw [Nat.zero_add, cell_row h.row, List.getElem?_toArray]
    exact (avs_at R i 1 p hi (by omega)).trans rfl

end Go.Proofs.YtgdnlceliiekkaaGreatDoor.Dg

