/- Texts of the seat, packed: JRa JRb. -/
import Derived.Test.YtlegmmhacnbnlaaGreatDoorP14
import Derived.Test.YtlegmmhacnbnlaaGreatDoorP15
import Derived.Test.YtlegmmhacnbnlaaGreatDoorP16
import Derived.Test.YtlegmmhacnbnlaaGreatDoorP17
import Derived.Deep.AppendSrc
import Derived.Laws.Tables
import Derived.RangeFuncBox
import Derived.BigQuiet
import Derived.Shelf.Abstract
import Derived.TacticsInMore
import Derived.LoopIn
import Derived.BigRegionIn
import Derived.RegionIn
import Derived.OwnWalkIn
/- Effects in memory; what is kept of a world; appends to a row of effects of one's own. -/
namespace Go.Proofs.YtlegmmhacnbnlaaGreatDoor.J.Tz
open Go.RowKit Go.Proofs.YtlegmmhacnbnlaaGreatDoor.J
set_option maxRecDepth 1000000
set_option linter.unusedVariables false

theorem bl1 (w : World) (o : Obj) : Below w.heap.size w (w.alloc o) := (Below.refl _ _).alloc (Nat.le_refl _) o
theorem bl2 (w : World) (o o' : Obj) : Below w.heap.size w ((w.alloc o).alloc o') := (bl1 w o).alloc (by simp) o'
theorem bl3 (w : World) (o o' o3 : Obj) : Below w.heap.size w (((w.alloc o).alloc o').alloc o3) := (bl2 w o o').alloc (by simp; omega) o3

/-- What is kept of a world: all but blocks of T, and what is new. -/
structure Kp (T : Nat → Prop) (w w' : World) : Prop where
  os : w'.os = w.os
  tape : w'.tape = w.tape
  output : w'.output = w.output
  size : w.heap.size ≤ w'.heap.size
  block : ∀ k, k < w.heap.size → ¬ T k → w'.heap[k]? = w.heap[k]?

theorem Kp.refl (T : Nat → Prop) (w : World) : Kp T w w := ⟨rfl, rfl, rfl, Nat.le_refl _, fun _ _ _ => rfl⟩
theorem Kp.trans {T T' : Nat → Prop} {a b c : World} (h : Kp T a b) (k : Kp T' b c) (hT : ∀ x, T' x → x < a.heap.size → T x) : Kp T a c :=
  ⟨k.os.trans h.os, k.tape.trans h.tape, k.output.trans h.output, Nat.le_trans h.size k.size, fun i hi hn => (k.block i (Nat.lt_of_lt_of_le hi h.size) (fun ht => hn (hT i ht hi))).trans (h.block i hi hn)⟩
theorem Kp.of_below {w w' : World} (T : Nat → Prop) (h : Below w.heap.size w w') : Kp T w w' := ⟨h.os, h.tape, h.output, h.size, fun k hk _ => h.block k hk⟩
theorem Kp.below {T : Nat → Prop} {w w' : World} (h : Kp T w w') {B : Nat} (hB : B ≤ w.heap.size) (hT : ∀ k, T k → B ≤ k) : Below B w w' :=
  ⟨h.os, h.tape, h.output, h.size, fun k hk => h.block k (by omega) (fun ht => by have := hT k ht; omega)⟩
theorem Kp.mono {T T' : Nat → Prop} {w w' : World} (h : Kp T w w') (hT : ∀ k, T k → T' k) : Kp T' w w' := ⟨h.os, h.tape, h.output, h.size, fun k hk hn => h.block k hk (fun ht => hn (hT k ht))⟩
theorem Kp.of_grown {w w' : World} {row : Option Nat} (T : Nat → Prop) (h : w.grownBy w' row) (hT : ∀ k, row = some k → T k) : Kp T w w' :=
  ⟨h.os, h.tape, h.output, h.size, fun k hk hn => h.block k hk (fun e => hn (hT k e.symm))⟩
theorem Kp.set {T : Nat → Prop} {a w : World} (h : Kp T a w) (p : Addr) (u : Value) (hp : T p.block) : Kp T a (w.setCell p u) :=
  h.trans (T' := T) ⟨rfl, rfl, rfl, by simp [World.setCell], fun k hk hn => Below.heap_setCell _ _ _ _ (fun e => hn (by rw [e]; exact hp))⟩ (fun x hx _ => hx)
theorem Kp.alloc {T : Nat → Prop} {a w : World} (h : Kp T a w) (o : Obj) : Kp T a (w.alloc o) :=
  h.trans (T' := T) ⟨rfl, rfl, rfl, by simp, fun k hk hn => Below.heap_alloc _ _ _ hk⟩ (fun x hx _ => hx)
theorem Kp.drew {T : Nat → Prop} {a w : World} (h : Kp T a w) : Kp T a w.drew := ⟨h.os, h.tape, h.output, h.size, h.block⟩
theorem Kp.drewN {T : Nat → Prop} {a w : World} (h : Kp T a w) (n : Nat) : Kp T a (w.drewN n) := h.trans (T' := T) ⟨rfl, rfl, rfl, Nat.le_refl _, fun _ _ _ => rfl⟩ (fun x hx _ => hx)
theorem Kp.later {T : Nat → Prop} {a b c : World} (h : Kp T a b) (k : Below b.heap.size b c) : Kp T a c := h.trans (T' := fun _ => False) (Kp.of_below _ k) (fun _ h _ => h.elim)
theorem Kp.cell {T : Nat → Prop} {w w' : World} (h : Kp T w w') {a : Addr} {v : Value} (hc : w.cell? a = some v) (hn : ¬ T a.block) : w'.cell? a = some v := by
  rw [World.cell?_of_block (w := w) (h.block a.block (World.block_lt_of_cell? w a hc) hn)]
  exact hc
theorem Kp.row {T : Nat → Prop} {w w' : World} (h : Kp T w w') {b : Nat} {o : Obj} (hc : w.heap[b]? = some o) (hn : ¬ T b) : w'.heap[b]? = some o :=
  (h.block b (Array.getElem?_eq_some_iff.1 hc).1 hn).trans hc

theorem row_later {w w' : World} {b : Nat} {o : Obj} (h : w.heap[b]? = some o) (hb : Below w.heap.size w w') : w'.heap[b]? = some o := (hb.block b (Array.getElem?_eq_some_iff.1 h).1).trans h
theorem row_lt {w : World} {b : Nat} {o : Obj} (h : w.heap[b]? = some o) : b < w.heap.size := (Array.getElem?_eq_some_iff.1 h).1

theorem isSome_row {w : World} {b : Nat} {cs : Array Value} {t : TypeId} (h : w.heap[b]? = some (.cells cs t (0, 0))) {i : Nat} (hi : i < cs.size) : (w.cell? ⟨b, i, none⟩).isSome = true := by
  rw [cell_row h, Array.getElem?_eq_getElem hi]; rfl


theorem add_at (g o j : Nat) : (⟨g, o, none⟩ : Addr).add j = ⟨g, o + j, none⟩ := by unfold Addr.add; split <;> simp_all

/-- An effect's value; its four cells. -/
def EV (e : Ef) : Value := .agg #[.int .i64 e.i, .bool e.u, .int .i64 e.t, .bool e.ok]
def erow (e : Ef) : List Value := [.int .i64 e.i, .bool e.u, .int .i64 e.t, .bool e.ok]
def erows (L : List Ef) : List Value := L.flatMap erow
theorem erow_len (p : Ef) : (erow p).length = 4 := rfl
theorem erows_len (L : List Ef) : (erows L).length = L.length * 4 := by
  induction L with
  | nil => rfl
  | cons f l ih =>
    have e : erows (f :: l) = erow f ++ erows l := by simp [erows]
    rw [e, List.length_append, ih, List.length_cons, erow_len]; omega
theorem erows_get (P : List Ef) (i : Nat) (p : Ef) (h : P[i]? = some p) (j : Nat) (hj : j < 4) : (erows P)[i * 4 + j]? = (erow p)[j]? := by
  induction P generalizing i with
  | nil => simp at h
  | cons q P ih =>
    have e : erows (q :: P) = erow q ++ erows P := by simp [erows]
    have hl := erow_len q
    rw [e]
    cases i with
    | zero =>
      simp at h
      subst h
      rw [Nat.zero_mul, Nat.zero_add, List.getElem?_append_left (by omega)]
    | succ i =>
      rw [List.getElem?_append_right (by omega), ← ih i (by simpa using h)]
      congr 1
      omega

def EC (w : World) (b o : Nat) (p : Ef) : Prop := w.cell? ⟨b, o, none⟩ = some (.int .i64 p.i) ∧ w.cell? ⟨b, o + 1, none⟩ = some (.bool p.u) ∧ w.cell? ⟨b, o + 2, none⟩ = some (.int .i64 p.t) ∧ w.cell? ⟨b, o + 3, none⟩ = some (.bool p.ok)
theorem EC.of {w : World} {b o : Nat} {p : Ef} (h : ∀ j, j < 4 → w.cell? ⟨b, o + j, none⟩ = (erow p)[j]?) : EC w b o p := ⟨h 0 (by omega), h 1 (by omega), h 2 (by omega), h 3 (by omega)⟩
theorem EC.lt {w : World} {b o : Nat} {p : Ef} (h : EC w b o p) : b < w.heap.size := World.block_lt_of_cell? _ _ h.1
theorem EC.of_block {w w' : World} {b o : Nat} {p : Ef} (h : EC w b o p) (hb : w'.heap[b]? = w.heap[b]?) : EC w' b o p := by
  have e : ∀ i, w'.cell? ⟨b, i, none⟩ = w.cell? ⟨b, i, none⟩ := fun i => World.cell?_of_block (w := w) hb
  obtain ⟨h0, h1, h2, h3⟩ := h
  exact ⟨(e _).trans h0, (e _).trans h1, (e _).trans h2, (e _).trans h3⟩
theorem EC.later {w w' : World} {b o : Nat} {p : Ef} (h : EC w b o p) (hb : Below w.heap.size w w') : EC w' b o p := h.of_block (hb.block b h.lt)
theorem EC.new (w : World) (e : Ef) (t : TypeId) : EC (w.alloc (.cells (erow e).toArray t)) w.heap.size 0 e := EC.of fun j hj => by
  rw [cell_row (heap_alloc_new w _), Nat.zero_add, List.getElem?_toArray]

/-- Effects in memory. -/
def RE (w : World) (v : Value) (L : List Ef) : Prop :=
  ∃ a cap, v = .slice a L.length cap ∧ L.length ≤ cap ∧ cap ≤ maxLen ∧ ∀ i p, L[i]? = some p → wfK p.key ∧ ∃ b off, a = some ⟨b, off, none⟩ ∧ EC w b (off + i * 4) p

/-- .. none of them in a block of T. -/
def REx (T : Nat → Prop) (w : World) (v : Value) (L : List Ef) : Prop :=
  ∃ a cap, v = .slice a L.length cap ∧ L.length ≤ cap ∧ cap ≤ maxLen ∧ ∀ i p, L[i]? = some p → wfK p.key ∧ ∃ b off, a = some ⟨b, off, none⟩ ∧ ¬ T b ∧ EC w b (off + i * 4) p

theorem REx.re {T : Nat → Prop} {w : World} {v : Value} {L : List Ef} (h : REx T w v L) : RE w v L := by
  obtain ⟨a, cap, h0, h1, h2, hc⟩ := h
  refine ⟨a, cap, h0, h1, h2, fun i x hx => ?_⟩
  obtain ⟨hw, b, off, ha, _, c0⟩ := hc i x hx
  exact ⟨hw, b, off, ha, c0⟩
theorem RE.ex {w : World} {v : Value} {L : List Ef} (h : RE w v L) (T : Nat → Prop) (hT : ∀ b, T b → w.heap.size ≤ b) : REx T w v L := by
  obtain ⟨a, cap, h0, h1, h2, hc⟩ := h
  refine ⟨a, cap, h0, h1, h2, fun i x hx => ?_⟩
  obtain ⟨hw, b, off, ha, c0⟩ := hc i x hx
  exact ⟨hw, b, off, ha, fun ht => by have := hT b ht; have := c0.lt; omega, c0⟩
theorem REx.kept {T T' X : Nat → Prop} {w w' : World} {v : Value} {L : List Ef} (h : REx T w v L) (hk : Kp X w w') (hX : ∀ b, X b → T b) (hT : ∀ b, b < w.heap.size → T' b → T b) : REx T' w' v L := by
  obtain ⟨a, cap, h0, h1, h2, hc⟩ := h
  refine ⟨a, cap, h0, h1, h2, fun i x hx => ?_⟩
  obtain ⟨hw, b, off, ha, hn, c0⟩ := hc i x hx
  exact ⟨hw, b, off, ha, fun ht => hn (hT b c0.lt ht), c0.of_block (hk.block b c0.lt (fun hx => hn (hX b hx)))⟩
theorem RE.later {w w' : World} {v : Value} {L : List Ef} (h : RE w v L) (hb : Below w.heap.size w w') : RE w' v L := by
  obtain ⟨a, cap, rfl, h1, h2, hc⟩ := h
  refine ⟨a, cap, rfl, h1, h2, fun i x hx => ?_⟩
  obtain ⟨hw, b, off, ha, c0⟩ := hc i x hx
  exact ⟨hw, b, off, ha, c0.later hb⟩
theorem RE.nil (w : World) : RE w (.slice none 0 0) [] := ⟨none, 0, rfl, by simp, by unfold maxLen; omega, by simp⟩
theorem RE.slice {w : World} {v : Value} {L : List Ef} (h : RE w v L) : ∃ a c, v = .slice a L.length c ∧ L.length ≤ c := by
  obtain ⟨a, cap, rfl, h1, _⟩ := h
  exact ⟨_, _, rfl, h1⟩
theorem RE.one {w : World} {v : Value} {L : List Ef} (h : RE w v L) : v.oneCell' = true := by obtain ⟨a, c, rfl, _⟩ := h; rfl
theorem RE.wf {w : World} {v : Value} {L : List Ef} (h : RE w v L) : ∀ e ∈ L, wfK e.key := by
  obtain ⟨a, cap, rfl, h1, h2, hc⟩ := h
  intro e he
  obtain ⟨i, hi⟩ := List.getElem?_of_mem he
  exact (hc i e hi).1
theorem RE.take {w : World} {a : Option Addr} {n cap : Nat} {L : List Ef} (h : RE w (.slice a n cap) L) (k : Nat) (hk : k ≤ L.length) : RE w (.slice a k cap) (L.take k) := by
  obtain ⟨a', cap', e, h1, h2, hc⟩ := h
  simp only [Value.slice.injEq] at e
  obtain ⟨rfl, rfl, rfl⟩ := e
  refine ⟨a, cap, by rw [List.length_take, Nat.min_eq_left hk], by rw [List.length_take]; omega, h2, fun i p hp => ?_⟩
  have hik := (List.getElem?_eq_some_iff.1 hp).1
  rw [List.length_take] at hik
  rw [List.getElem?_take_of_lt (by omega)] at hp
  exact hc i p hp

theorem Tryz.info38 : (Tryz.prog.info? 38).map (fun i => (i.zero, i.size, i.bytes)) = some (some (EV ⟨0, false, 0, false⟩), 4, 32) := by kernel_rfl

/-- A row of effects of one's own. -/
def OwE (w : World) (v : Value) (L : List Ef) : Prop :=
  (v = .slice none 0 0 ∧ L = []) ∨ ∃ g cap cur, v = .slice (some ⟨g, 0, none⟩) L.length cap ∧ L.length ≤ cap ∧ cap ≤ maxLen ∧ w.heap[g]? = some (.cells cur 38 (0, 0)) ∧ cap * 4 ≤ cur.size ∧ ∀ i p, L[i]? = some p → ∀ j, j < 4 → cur[i * 4 + j]? = (erow p)[j]?
theorem OwE.kept {w w' : World} {T : Nat → Prop} {v : Value} {L : List Ef} (h : OwE w v L) (hk : Kp T w w') (hv : ∀ g, v.ownBlock = some g → ¬ T g) : OwE w' v L := by
  rcases h with h | ⟨g, cap, cur, rfl, h1, h2, h3, h4, h5⟩
  · exact .inl h
  · exact .inr ⟨g, cap, cur, rfl, h1, h2, hk.row h3 (hv g rfl), h4, h5⟩
theorem OwE.of_block {w w' : World} {v : Value} {L : List Ef} (h : OwE w v L) (hk : ∀ g, v.ownBlock = some g → w'.heap[g]? = w.heap[g]?) : OwE w' v L := by
  rcases h with h | ⟨g, cap, cur, rfl, h1, h2, h3, h4, h5⟩
  · exact .inl h
  · exact .inr ⟨g, cap, cur, rfl, h1, h2, (hk g rfl).trans h3, h4, h5⟩
theorem OwE.later {w w' : World} {v : Value} {L : List Ef} (h : OwE w v L) (hb : Below w.heap.size w w') : OwE w' v L := h.kept (Kp.of_below (fun _ => False) hb) (fun _ _ h => h)
theorem OwE.lt {w : World} {v : Value} {L : List Ef} (h : OwE w v L) : ∀ g, v.ownBlock = some g → g < w.heap.size := by
  intro g hg
  rcases h with ⟨rfl, _⟩ | ⟨g', cap, cur, rfl, h1, h2, h3, _⟩
  · cases hg
  · cases hg; exact row_lt h3
theorem OwE.re {w : World} {v : Value} {L : List Ef} (h : OwE w v L) (hw : ∀ e ∈ L, wfK e.key) : RE w v L := by
  rcases h with ⟨rfl, rfl⟩ | ⟨g, cap, cur, rfl, h1, h2, h3, h4, h5⟩
  · exact RE.nil w
  · refine ⟨_, cap, rfl, h1, h2, fun i p hp => ⟨hw p (List.mem_of_getElem? hp), g, 0, rfl, EC.of fun j hj => ?_⟩⟩
    rw [cell_row h3, Nat.zero_add]
    exact h5 i p hp j hj

def set4 (w : World) (b o : Nat) (p : Ef) : World := (((w.setCell ⟨b, o, none⟩ (.int .i64 p.i)).setCell ⟨b, o + 1, none⟩ (.bool p.u)).setCell ⟨b, o + 2, none⟩ (.int .i64 p.t)).setCell ⟨b, o + 3, none⟩ (.bool p.ok)
theorem set4_row {w : World} {b o : Nat} {cs : Array Value} {t : TypeId} (h : w.heap[b]? = some (.cells cs t (0, 0))) (p : Ef) :
    ∃ cs', (set4 w b o p).heap[b]? = some (.cells cs' t (0, 0)) ∧ cs'.size = cs.size ∧ (o + 4 ≤ cs.size → ∀ j, j < 4 → cs'[o + j]? = (erow p)[j]?) ∧ ∀ k, (k < o ∨ o + 4 ≤ k) → cs'[k]? = cs[k]? := by
  refine ⟨_, row_set (row_set (row_set (row_set h _ _) _ _) _ _) _ _, by simp, fun hs j hj => ?_, fun k hk => ?_⟩
  · match j, hj with
    | 0, _ => simp [Array.getElem?_setIfInBounds, erow]; omega
    | 1, _ => simp [Array.getElem?_setIfInBounds, erow]; omega
    | 2, _ => simp [Array.getElem?_setIfInBounds, erow]; omega
    | 3, _ => simp [Array.getElem?_setIfInBounds, erow]; omega
  · simp only [Array.getElem?_setIfInBounds]
    repeat rw [if_neg (by omega)]
theorem set4_kept (T : Nat → Prop) (w : World) (b o : Nat) (p : Ef) (h : T b) : Kp T w (set4 w b o p) :=
  ((((Kp.refl T w).set _ _ h).set _ _ h).set _ _ h).set _ _ h

/-- An effect behind those of a row of one's own. -/
theorem run_append_e (t ty : TypeId) (ht : Tryz.prog.underlying t = some (.slice 38)) {w : World} {v : Value} {L : List Ef} (h : OwE w v L) (p : Ef) {nb : Nat} (hb : w.heap[nb]? = some (.cells (erow p).toArray 38 (0, 0))) (hne : v.ownBlock ≠ some nb) (hl : L.length ≤ 1000000000) :
    ∃ a c w', (Builtin.append_ #[t, t] ty #[v, .slice (some ⟨nb, 0, none⟩) 1 1]).run Tryz.prog w = .ok (.slice a (L.length + 1) c) w' ∧ OwE w' (.slice a (L.length + 1) c) (L ++ [p]) ∧ w.grownBy w' v.ownBlock ∧ ((Value.slice a (L.length + 1) c).ownBlock = v.ownBlock ∨ (Value.slice a (L.length + 1) c).ownBlock = some w.heap.size) := by
  obtain ⟨i0, hi, hz0, hz1, hz2⟩ := info_parts Tryz.info38
  have hone : ∀ u ∈ erow p, u.oneCell' = true := by
    intro u hu
    simp only [erow, List.mem_cons, List.not_mem_nil, or_false] at hu
    rcases hu with rfl | rfl | rfl | rfl <;> rfl
  have hsrc : Src Tryz.prog i0.size t (.slice (some ⟨nb, 0, none⟩) 1 1) 1 (erow p) w :=
    Src.ofSlice w ht ⟨nb, 0, none⟩ 1 1 (erow p) (by rw [hz1]; rfl) (fun j u hu => by rw [add_at, Nat.zero_add, cell_row hb, List.getElem?_toArray]; exact hu) hone
  -- a new row
  have grow : ∀ (base : Option Addr) (cap : Nat), v = .slice base L.length cap → cap < L.length + 1 → (Builtin.firstCells i0.size L.length (.slice base L.length cap)).run Tryz.prog w.drew = .ok (erows L).toArray w.drew →
      ∃ a c w', (Builtin.append_ #[t, t] ty #[v, .slice (some ⟨nb, 0, none⟩) 1 1]).run Tryz.prog w = .ok (.slice a (L.length + 1) c) w' ∧ OwE w' (.slice a (L.length + 1) c) (L ++ [p]) ∧ w.grownBy w' v.ownBlock ∧ ((Value.slice a (L.length + 1) c).ownBlock = v.ownBlock ∨ (Value.slice a (L.length + 1) c).ownBlock = some w.heap.size) := by
    rintro base cap rfl hcap hold
    have hr := run_append_grow_src (P := Tryz.prog) w t t ty 38 i0 _ ht hi hz0 base L.length cap (erows L) hold _ 1 (erow p) hsrc (by omega) (by omega) (growslice_fits (by omega) (by rw [hz2]; omega))
    refine ⟨_, _, _, hr, .inr ⟨w.heap.size, _, _, by rw [List.length_append]; rfl, ?_, ?_, heap_alloc_new w.drew _, ?_, ?_⟩, ⟨rfl, rfl, rfl, by simp, fun k hk _ => heap_alloc_old w.drew _ hk⟩, .inr rfl⟩
    · rw [List.length_append]; exact grownCap_ge _ _ _ _
    · exact grownCap_le_maxLen _ _ _ _ (by unfold maxLen; omega)
    · have := grownCap_ge w (L.length + 1) cap 38
      simp only [Array.size_append, List.size_toArray, List.length_append, erows_len, erow_len, size_zeroCells]
      have e6 : (EV ⟨0, false, 0, false⟩).cells.size = 4 := rfl
      rw [e6]
      omega
    · intro i q hq j hj
      rw [Array.getElem?_append_left]
      · rw [List.getElem?_toArray]
        have e : erows L ++ erow p = erows (L ++ [p]) := by simp [erows]
        rw [e]
        exact erows_get _ i q hq j hj
      · have := (List.getElem?_eq_some_iff.1 hq).1
        rw [List.length_append] at this
        simp only [List.size_toArray, List.length_append, erows_len, erow_len]
        simp at this
        omega
  rcases id h with ⟨rfl, rfl⟩ | ⟨g, cap, cur, rfl, hlc, hcm, hg, hs, hc⟩
  · exact grow none 0 rfl (by simp) (run_firstCells_none w.drew _ 0 0 0)
  · by_cases hroom : L.length + 1 ≤ cap
    · have hst := run_append_room_src (P := Tryz.prog) w t t ty 38 i0 ht hi g 0 L.length cap _ 1 (erow p) hsrc hroom (fun j hj => isSome_row hg (by rw [hz1]; rw [erow_len] at hj; omega)) (fun j hj => froz_row hg _)
      rw [hz1] at hst
      have e6 : w.setCells g (0 + L.length * 4) (erow p) = set4 w g (0 + L.length * 4) p := rfl
      rw [e6] at hst
      obtain ⟨cur', k1, k2, k3, k4⟩ := set4_row (o := 0 + L.length * 4) hg p
      refine ⟨_, _, _, hst, .inr ⟨g, cap, cur', by rw [List.length_append]; rfl, by rw [List.length_append]; exact hroom, hcm, k1, by rw [k2]; exact hs, fun i q hq j hj => ?_⟩, ?_, .inl rfl⟩
      · by_cases hil : i < L.length
        · rw [List.getElem?_append_left hil] at hq
          rw [k4 _ (.inl (by omega))]
          exact hc i q hq j hj
        · have := (List.getElem?_eq_some_iff.1 hq).1
          rw [List.length_append] at this
          simp at this
          obtain rfl : i = L.length := by omega
          rw [List.getElem?_append_right (by omega)] at hq
          simp at hq
          subst hq
          rw [Nat.zero_add] at k3
          exact k3 (by omega) j hj
      · have hk := set4_kept (fun k => k = g) w g (0 + L.length * 4) p rfl
        exact ⟨hk.os, hk.tape, hk.output, hk.size, fun k hk2 hn => hk.block k hk2 (fun e => hn (by rw [e]; rfl))⟩
    · refine grow (some ⟨g, 0, none⟩) cap rfl (by omega) ?_
      refine run_firstCells_some w.drew i0.size L.length ⟨g, 0, none⟩ L.length cap (erows L) (by rw [erows_len, hz1]) (fun j u hu => ?_)
      have hj : j < L.length * 4 := by rw [← erows_len]; exact (List.getElem?_eq_some_iff.1 hu).1
      obtain ⟨q, hq⟩ : ∃ q, L[j / 4]? = some q := ⟨_, List.getElem?_eq_getElem (by omega)⟩
      have e : j = j / 4 * 4 + j % 4 := by omega
      rw [add_at]
      show w.cell? _ = _
      rw [cell_row hg, Nat.zero_add]
      rw [e, erows_get L (j / 4) q hq (j % 4) (by omega)] at hu
      rw [← hu, ← hc (j / 4) q hq (j % 4) (by omega)]
      congr 1

/-- An effect of a row, at its place. -/
theorem RE.at' {w : World} {a : Option Addr} {n cap : Nat} {L : List Ef} (h : RE w (.slice a n cap) L) {i : Nat} (hi : i < L.length) : wfK (L.getD i default).key ∧ ∃ b off, a = some ⟨b, off, none⟩ ∧ EC w b (off + i * 4) (L.getD i default) := by
  obtain ⟨a', cap', e, h1, h2, hc⟩ := h
  simp only [Value.slice.injEq] at e
  obtain ⟨rfl, rfl, rfl⟩ := e
  have hg : L[i]? = some (L.getD i default) := by simp [List.getD, hi]
  exact hc i _ hg
end Go.Proofs.YtlegmmhacnbnlaaGreatDoor.J.Tz

/- slices.Backward: its maker, and the iterator. -/
namespace Go.Proofs.YtlegmmhacnbnlaaGreatDoor.J.Tz
open Go.RowKit Go.Shelf Go.Proofs.YtlegmmhacnbnlaaGreatDoor.J
set_option maxRecDepth 1000000
set_option linter.unusedVariables false

theorem backward_any (a : Option Addr) (n c : Nat) (w : World) : Calls Tryz.prog 33 #[.slice a n c] w fun e w' => e = .returned (.func (.func 48) #[] #[.pointer (some ⟨w.heap.size, 0, none⟩)]) ∧ w' = w.alloc (.cells #[.slice a n c] 25) := by
  go_enter Tryz.func33, Tryz.ntmps33
  go_wp2_with fail
  go_ret
  exact ⟨rfl, rfl⟩
theorem fromBehind_any (a : Option Addr) (n c : Nat) (w : World) : Calls Tryz.prog 22 #[.slice a n c] w fun e w' => e = .returned (.func (.func 40) #[] #[.pointer (some ⟨w.heap.size, 0, none⟩)]) ∧ w' = w.alloc (.cells #[.slice a n c] 25) := by
  go_enter Tryz.func22, Tryz.ntmps22
  go_wp2_with fail
  go_ret
  exact ⟨rfl, rfl⟩

/-- The places, the last one first. -/
def brev (n : Nat) : List Nat := (List.range n).map fun k => n - 1 - k
theorem brev_len (n : Nat) : (brev n).length = n := by simp [brev]
theorem brev_at {n k : Nat} (h : k < n) : (brev n)[k]? = some (n - 1 - k) := by simp [brev, h]

def encB (l : List Ef) (x : Nat) (_ : Nat) (_ : World) (_ : Nat → Prop) (args : Array Value) : Prop := args = #[.int .i64 (x : Int), EV (l.getD x default)]

/-- What the iterator knows between two rounds. -/
structure BwS (bp : Nat) (v : Value) (l : List Ef) (J : Nat → World → (Nat → Prop) → Prop) (T : Nat → Prop) (k : Nat) (W : World) : Prop where
  j : J k W T
  qp : Boxed W bp 25 v
  tp : T bp
  g : RE W v l
  own : ∀ b, T b → b < W.heap.size

theorem results_none9 {P : Program} {fn : Func} (h : fn.results = #[]) (tmps : Array Value) (w : World) : (results fn tmps).run P w = .ok (.tuple #[]) w := by
  simp [results, h, go_sem]

attribute [local go_sem] Oper.semAt_some

set_option maxHeartbeats 8000000 in
theorem backward_itr (l : List Ef) (a : Option Addr) (c bp : Nat) (hl : l.length ≤ 1000000) (T : Nat → Prop) (w : World) (hbp : Boxed w bp 25 (.slice a l.length c)) (tp : T bp) (hown : ∀ b, T b → b < w.heap.size) :
    Rl.Itr Tryz.prog 48 #[.pointer (some ⟨bp, 0, none⟩)] (encB l) (brev l.length) 0 0 (fun A => RE A (.slice a l.length c) l) T w := by
  intro li J Jx W hW hJ hJx hG hY hJ0
  have HY : Hid _ := hY
  have HJ : Hid _ := hJ
  have HG : Hid _ := hG
  have H0 : Hid (BwS bp (.slice a l.length c) l J T 0 W) := ⟨hJ0, (hW.block bp hbp.lt).trans hbp, tp, hG _ _ _ hJ0, fun b hb => Nat.lt_of_lt_of_le (hown b hb) hW.size⟩
  obtain ⟨n, hn⟩ : ∃ n, l.length = n := ⟨_, rfl⟩
  obtain ⟨xs, HX⟩ : ∃ xs, Hid (xs = brev n) := ⟨_, rfl⟩
  have HXL : Hid (xs.length = n) := by show _ = _; rw [HX.out]; exact brev_len n
  have HXA : Hid (∀ i, i < n → xs[i]? = some (n - 1 - i)) := fun i hi => by rw [HX.out]; exact brev_at hi
  rw [hn] at H0 hl HY HG ⊢
  rw [← HX.out] at HY ⊢
  obtain ⟨R, HR⟩ : ∃ R : Ending → World → Prop, Hid (R = fun e W2 => ∃ v T2, e = .returned v ∧ (J xs.length W2 T2 ∨ ∃ k, k < xs.length ∧ Jx (k + 1) W2 T2) ∧ (∀ b, b < W.heap.size → (T2 b ↔ T b)) ∧ (∀ b, T2 b → b < W2.heap.size)) := ⟨_, rfl⟩
  rw [← HR.out]
  have c0 := H0.out.qp.cell
  have HN : Hid (l.length = n) := hn
  clear hJ hJx hG hY hJ0 hW hbp tp hown HX hn
  refine callsIn_of_wp Tryz.func48 rfl trivial ?_ rfl
  simp only [Tryz.ntmps48, List.size_toArray, List.length_cons, List.length_nil, Nat.reduceAdd, Nat.reduceSub, Array.replicate_succ, Array.replicate_zero, List.push_toArray, List.append_toArray, List.nil_append, List.cons_append]
  gi_wp2
  clear c0
  gi_loopw [3] (fun iv wr => ∃ (k : Nat) (i : Int), iv = .int .i64 i ∧ i = (n : Int) - 1 - k ∧ k ≤ n ∧ Hid (BwS bp (.slice a n c) l J T k wr)) (fun iv _ => (intOf iv + 1).toNat)
  case atStart => exact ⟨0, _, rfl, by simp <;> omega, Nat.zero_le _, H0⟩
  case round =>
    obtain ⟨k, i, rfl, hi, hk, HF⟩ := hrel
    rename World => wr
    clear H0
    by_cases hlt : k < n
    · obtain ⟨x, hx⟩ : ∃ x : Nat, x = n - 1 - k := ⟨_, rfl⟩
      obtain rfl : i = (x : Int) := by omega
      have hxn : x < n := by omega
      have hxi : (x : Int) < (n : Int) := by omega
      have y0 := HF.out.qp.cell
      obtain ⟨hwf, b, off, ha, y1, y2, y3, y4⟩ := HF.out.g.at' (i := x) (by have := HN.out; omega)
      subst ha
      have HXI : Hid (xs[k]? = some x) := by rw [hx]; exact HXA.out k hlt
      have HE : Hid (EV (l.getD x default) = .agg #[.int .i64 (l.getD x default).i, .bool (l.getD x default).u, .int .i64 (l.getD x default).t, .bool (l.getD x default).ok]) := rfl
      obtain ⟨fnn, tms, asg, bdy, hy, hR⟩ := HY.out k x #[.int .i64 (x : Int), EV (l.getD x default)] wr.heap.size wr T HXI.out rfl ⟨wr, T, HF.out.j, rfl, Rl.Mv.refl _ _⟩ HF.out.j HF.out.own 0
      rw [HE.out] at hy
      have HIX : Hid ((x : Int) = (n : Int) - 1 - k) := hi
      clear hx hwf HY hi
      generalize l.getD x default = e at *
      gi_wp2
      refine ⟨rfl, hR.mono ?_⟩
      rintro e5 W5 ⟨t, rfl, ht1, ht2⟩
      cases t with
      | true =>
        obtain ⟨hj5, hrv⟩ := ht1 rfl
        have HF5 : Hid (BwS bp (.slice (some ⟨b, off, none⟩) n c) l J T (k + 1) W5) := by
          have h1 := HF.out
          exact ⟨hj5, (hrv.keep bp h1.tp h1.qp.lt).trans h1.qp, h1.tp, HG.out _ _ _ hj5, fun b hb => Nat.lt_of_lt_of_le (h1.own b hb) hrv.size⟩
        clear ht1 ht2 hrv hj5 hy hR HF y0 y1 y2 y3 y4
        gi_wp2
        go_roundw
        have hi := HIX.out
        case rel => exact ⟨k + 1, _, rfl, by have hi := HIX.out; simp <;> omega, by omega, HF5⟩
        case measure => simp [intOf] <;> omega
      | false =>
        obtain ⟨hj5, hrv⟩ := ht2 rfl
        have HJ5 : Hid _ := hj5
        have HO5 : Hid (∀ b, T b → b < W5.heap.size) := fun b hb => Nat.lt_of_lt_of_le (HF.out.own b hb) hrv.size
        clear ht1 ht2 hrv hj5 hy hR HF y0 y1 y2 y3 y4
        gi_wp2
        refine bodyPost_ret (results_none9 rfl _ _) rfl ?_
        rw [HR.out]
        exact ⟨_, T, rfl, .inr ⟨k, by rw [HXL.out]; exact hlt, HJ5.out⟩, fun _ _ => Iff.rfl, HO5.out⟩
    · obtain rfl : i = -1 := by omega
      gi_wp2
      refine bodyPost_ret (results_none9 rfl _ _) rfl ?_
      rw [HR.out]
      refine ⟨_, T, rfl, .inl ?_, fun _ _ => Iff.rfl, HF.out.own⟩
      have := HF.out.j
      rw [show k = xs.length by rw [HXL.out]; omega] at this
      exact this
end Go.Proofs.YtlegmmhacnbnlaaGreatDoor.J.Tz

