/- Jobs in memory; what is kept of a world; the program's deque in memory. -/
import Derived.Test.YtfhmmiilenonkaaSi
import Derived.Test.YtfhmmiilenonkaaGt
import Derived.Deep.AppendSrc
import Derived.Laws.Tables
namespace Go.Proofs.Ytfhmmiilenonkaa

open Go.RowKit

set_option linter.unusedVariables false

/-- A job. -/
structure Jb where
  i : Int
  u : Bool
  t : Int
  b : Bool
  k : Int
  s : List Int
deriving DecidableEq

/-- A job with its stamp's value. -/
abbrev JbP := Jb × Value

def jrow (p : JbP) : List Value := [.int .i64 p.1.i, .bool p.1.u, .int .i64 p.1.t, .bool p.1.b, .int .i64 p.1.k, p.2]

def jrows (L : List JbP) : List Value := L.flatMap jrow

def JV (e : Jb) (v : Value) : Value := .agg #[.int .i64 e.i, .bool e.u, .int .i64 e.t, .bool e.b, .int .i64 e.k, v]

theorem jrow_len (p : JbP) : (jrow p).length = 6 := rfl

theorem jrows_len (L : List JbP) : (jrows L).length = L.length * 6 := by
  induction L with
  | nil => rfl
  | cons f l ih =>
    have e : jrows (f :: l) = jrow f ++ jrows l := by simp [jrows]
    rw [e, List.length_append, ih, List.length_cons, jrow_len]; omega

theorem jrows_get (P : List JbP) (i : Nat) (p : JbP) (h : P[i]? = some p) (j : Nat) (hj : j < 6) : (jrows P)[i * 6 + j]? = (jrow p)[j]? := by
  induction P generalizing i with
  | nil => simp at h
  | cons q P ih =>
    have e : jrows (q :: P) = jrow q ++ jrows P := by simp [jrows]
    have hl := jrow_len q
    rw [e]
    cases i with
    | zero =>
      simp at h
      subst h
      rw [Nat.zero_mul, Nat.zero_add, List.getElem?_append_left (by omega)]
    | succ i =>
      rw [List.getElem?_append_right (by omega), ← ih i (by simpa using h)]
      congr 1
      omega

/-- What is kept of a world: all but blocks of T, and what is new. -/
structure Kp (T : Nat → Prop) (w w' : World) : Prop where
  os : w'.os = w.os
  tape : w'.tape = w.tape
  output : w'.output = w.output
  size : w.heap.size ≤ w'.heap.size
  block : ∀ k, k < w.heap.size → ¬ T k → w'.heap[k]? = w.heap[k]?

theorem Kp.refl (T : Nat → Prop) (w : World) : Kp T w w := ⟨rfl, rfl, rfl, Nat.le_refl _, fun _ _ _ => rfl⟩

theorem Kp.trans {T T' : Nat → Prop} {a b c : World} (h : Kp T a b) (k : Kp T' b c) (hT : ∀ x, T' x → x < a.heap.size → T x) : Kp T a c :=
  ⟨k.os.trans h.os, k.tape.trans h.tape, k.output.trans h.output, Nat.le_trans h.size k.size, fun i hi hn => (k.block i (Nat.lt_of_lt_of_le hi h.size) (fun ht => hn (hT i ht hi))).trans (h.block i hi hn)⟩

theorem Kp.of_below {w w' : World} (T : Nat → Prop) (h : Below w.heap.size w w') : Kp T w w' := ⟨h.os, h.tape, h.output, h.size, fun k hk _ => h.block k hk⟩

theorem Kp.below {T : Nat → Prop} {w w' : World} (h : Kp T w w') {B : Nat} (hB : B ≤ w.heap.size) (hT : ∀ k, T k → B ≤ k) : Below B w w' :=
  ⟨h.os, h.tape, h.output, h.size, fun k hk => h.block k (by omega) (fun ht => by have := hT k ht; omega)⟩

theorem Kp.mono {T T' : Nat → Prop} {w w' : World} (h : Kp T w w') (hT : ∀ k, T k → T' k) : Kp T' w w' := ⟨h.os, h.tape, h.output, h.size, fun k hk hn => h.block k hk (fun ht => hn (hT k ht))⟩

theorem Kp.of_grown {w w' : World} {row : Option Nat} (T : Nat → Prop) (h : w.grownBy w' row) (hT : ∀ k, row = some k → T k) : Kp T w w' :=
  ⟨h.os, h.tape, h.output, h.size, fun k hk hn => h.block k hk (fun e => hn (hT k e.symm))⟩

theorem Kp.set {T : Nat → Prop} {a w : World} (h : Kp T a w) (p : Addr) (u : Value) (hp : T p.block) : Kp T a (w.setCell p u) :=
  h.trans (T' := T) ⟨rfl, rfl, rfl, by simp [World.setCell], fun k hk hn => Below.heap_setCell _ _ _ _ (fun e => hn (by rw [e]; exact hp))⟩ (fun x hx _ => hx)

theorem Kp.alloc {T : Nat → Prop} {a w : World} (h : Kp T a w) (o : Obj) : Kp T a (w.alloc o) :=
  h.trans (T' := T) ⟨rfl, rfl, rfl, by simp, fun k hk hn => Below.heap_alloc _ _ _ hk⟩ (fun x hx _ => hx)

theorem Kp.drew {T : Nat → Prop} {a w : World} (h : Kp T a w) : Kp T a w.drew := ⟨h.os, h.tape, h.output, h.size, h.block⟩

theorem Kp.drewN {T : Nat → Prop} {a w : World} (h : Kp T a w) (n : Nat) : Kp T a (w.drewN n) := h.trans (T' := T) ⟨rfl, rfl, rfl, Nat.le_refl _, fun _ _ _ => rfl⟩ (fun x hx _ => hx)

theorem Kp.later {T : Nat → Prop} {a b c : World} (h : Kp T a b) (k : Below b.heap.size b c) : Kp T a c := h.trans (T' := fun _ => False) (Kp.of_below _ k) (fun _ h _ => h.elim)

theorem Kp.cell {T : Nat → Prop} {w w' : World} (h : Kp T w w') {a : Addr} {v : Value} (hc : w.cell? a = some v) (hn : ¬ T a.block) : w'.cell? a = some v := by
  rw [World.cell?_of_block (w := w) (h.block a.block (World.block_lt_of_cell? w a hc) hn)]
  exact hc

theorem Kp.row {T : Nat → Prop} {w w' : World} (h : Kp T w w') {b : Nat} {o : Obj} (hc : w.heap[b]? = some o) (hn : ¬ T b) : w'.heap[b]? = some o :=
  (h.block b (Array.getElem?_eq_some_iff.1 hc).1 hn).trans hc

theorem row_later {w w' : World} {b : Nat} {o : Obj} (h : w.heap[b]? = some o) (hb : Below w.heap.size w w') : w'.heap[b]? = some o := (hb.block b (Array.getElem?_eq_some_iff.1 h).1).trans h

theorem row_lt {w : World} {b : Nat} {o : Obj} (h : w.heap[b]? = some o) : b < w.heap.size := (Array.getElem?_eq_some_iff.1 h).1

/-- Whole numbers in memory, in a block of S. -/
def RS (S : Nat → Prop) (w : World) (v : Value) (l : List Int) : Prop := RI w v l ∧ (0 < l.length → ∀ a n c, v = .slice (some a) n c → S a.block)

theorem RS.later {S : Nat → Prop} {w w' : World} {v : Value} {l : List Int} (h : RS S w v l) (hb : Below w.heap.size w w') : RS S w' v l := ⟨h.1.later hb, h.2⟩

theorem RS.lt {S : Nat → Prop} {w : World} {v : Value} {l : List Int} (h : RS S w v l) (h0 : 0 < l.length) : ∀ a n c, v = .slice (some a) n c → a.block < w.heap.size := by
  obtain ⟨⟨a, cap, rfl, _, _, hc⟩, _⟩ := h
  intro x n c he
  obtain ⟨b, off, ha, hcell⟩ := hc 0 h0
  subst ha
  simp only [Value.slice.injEq, Option.some.injEq] at he
  obtain ⟨rfl, _, _⟩ := he
  exact World.block_lt_of_cell? _ _ hcell

theorem RI.kept {w w' : World} {T : Nat → Prop} {v : Value} {l : List Int} (h : RI w v l) (hk : Kp T w w') (hv : 0 < l.length → ∀ a n c, v = .slice (some a) n c → ¬ T a.block) : RI w' v l := by
  obtain ⟨a, cap, rfl, h1, h2, hc⟩ := h
  refine ⟨a, cap, rfl, h1, h2, fun i hi => ?_⟩
  obtain ⟨b, off, rfl, hcell⟩ := hc i hi
  exact ⟨b, off, rfl, hk.cell hcell (show ¬ T b from hv (by omega) ⟨b, off, none⟩ _ _ rfl)⟩

theorem RS.kept {S T : Nat → Prop} {w w' : World} {v : Value} {l : List Int} (h : RS S w v l) (hk : Kp T w w') (hT : ∀ k, S k → ¬ T k) : RS S w' v l :=
  ⟨h.1.kept hk (fun h0 a n c he => hT _ (h.2 h0 a n c he)), h.2⟩

theorem RS.mono {S S' : Nat → Prop} {w : World} {v : Value} {l : List Int} (h : RS S w v l) (hS : ∀ k, k < w.heap.size → S k → S' k) : RS S' w v l :=
  ⟨h.1, fun h0 a n c he => hS _ (h.lt h0 a n c he) (h.2 h0 a n c he)⟩

theorem RS.nil (S : Nat → Prop) (w : World) : RS S w (.slice none 0 0) [] := ⟨RI.nil w, fun h => by simp at h⟩

theorem RS.one {S : Nat → Prop} {w : World} {v : Value} {l : List Int} (h : RS S w v l) : v.oneCell' = true := by obtain ⟨⟨a, c, rfl, _⟩, _⟩ := h; rfl

/-- A job's cells at a place. -/
def JC (w : World) (b o : Nat) (p : JbP) : Prop := w.cell? ⟨b, o, none⟩ = some (.int .i64 p.1.i) ∧ w.cell? ⟨b, o + 1, none⟩ = some (.bool p.1.u) ∧ w.cell? ⟨b, o + 2, none⟩ = some (.int .i64 p.1.t) ∧ w.cell? ⟨b, o + 3, none⟩ = some (.bool p.1.b) ∧ w.cell? ⟨b, o + 4, none⟩ = some (.int .i64 p.1.k) ∧ w.cell? ⟨b, o + 5, none⟩ = some p.2

theorem JC.get {w : World} {b o : Nat} {p : JbP} (h : JC w b o p) : ∀ j u, (jrow p)[j]? = some u → w.cell? ⟨b, o + j, none⟩ = some u := by
  obtain ⟨h0, h1, h2, h3, h4, h5⟩ := h
  intro j u hj
  match j, hj with
  | 0, hj => simp [jrow] at hj; subst hj; exact h0
  | 1, hj => simp [jrow] at hj; subst hj; exact h1
  | 2, hj => simp [jrow] at hj; subst hj; exact h2
  | 3, hj => simp [jrow] at hj; subst hj; exact h3
  | 4, hj => simp [jrow] at hj; subst hj; exact h4
  | 5, hj => simp [jrow] at hj; subst hj; exact h5
  | j + 6, hj => simp [jrow] at hj

theorem JC.of {w : World} {b o : Nat} {p : JbP} (h : ∀ j, j < 6 → w.cell? ⟨b, o + j, none⟩ = (jrow p)[j]?) : JC w b o p := ⟨h 0 (by omega), h 1 (by omega), h 2 (by omega), h 3 (by omega), h 4 (by omega), h 5 (by omega)⟩

theorem JC.later {w w' : World} {b o : Nat} {p : JbP} (h : JC w b o p) (hb : Below w.heap.size w w') : JC w' b o p :=
  ⟨cell_later hb h.1, cell_later hb h.2.1, cell_later hb h.2.2.1, cell_later hb h.2.2.2.1, cell_later hb h.2.2.2.2.1, cell_later hb h.2.2.2.2.2⟩

theorem JC.kept {T : Nat → Prop} {w w' : World} {b o : Nat} {p : JbP} (h : JC w b o p) (hk : Kp T w w') (hn : ¬ T b) : JC w' b o p :=
  ⟨hk.cell h.1 hn, hk.cell h.2.1 hn, hk.cell h.2.2.1 hn, hk.cell h.2.2.2.1 hn, hk.cell h.2.2.2.2.1 hn, hk.cell h.2.2.2.2.2 hn⟩

theorem JC.lt {w : World} {b o : Nat} {p : JbP} (h : JC w b o p) : b < w.heap.size := World.block_lt_of_cell? _ _ h.1

/-- Jobs in memory, their blocks of S. -/
def RJ (S : Nat → Prop) (w : World) (v : Value) (L : List JbP) : Prop :=
  ∃ a cap, v = .slice a L.length cap ∧ L.length ≤ cap ∧ cap ≤ maxLen ∧ ∀ i p, L[i]? = some p → ∃ b off, a = some ⟨b, off, none⟩ ∧ S b ∧ JC w b (off + i * 6) p ∧ RS S w p.2 p.1.s

theorem RJ.slice {S : Nat → Prop} {w : World} {v : Value} {L : List JbP} (h : RJ S w v L) : ∃ a c, v = .slice a L.length c := by
  obtain ⟨a, cap, rfl, _⟩ := h
  exact ⟨_, _, rfl⟩

theorem RJ.later {S : Nat → Prop} {w w' : World} {v : Value} {L : List JbP} (h : RJ S w v L) (hb : Below w.heap.size w w') : RJ S w' v L := by
  obtain ⟨a, cap, rfl, h1, h2, hc⟩ := h
  refine ⟨a, cap, rfl, h1, h2, fun i x hx => ?_⟩
  obtain ⟨b, off, ha, hS, c0, c1⟩ := hc i x hx
  exact ⟨b, off, ha, hS, c0.later hb, c1.later hb⟩

theorem RJ.kept {S T : Nat → Prop} {w w' : World} {v : Value} {L : List JbP} (h : RJ S w v L) (hk : Kp T w w') (hT : ∀ k, S k → ¬ T k) : RJ S w' v L := by
  obtain ⟨a, cap, rfl, h1, h2, hc⟩ := h
  refine ⟨a, cap, rfl, h1, h2, fun i x hx => ?_⟩
  obtain ⟨b, off, ha, hS, c0, c1⟩ := hc i x hx
  exact ⟨b, off, ha, hS, c0.kept hk (hT b hS), c1.kept hk hT⟩

theorem RJ.mono {S S' : Nat → Prop} {w : World} {v : Value} {L : List JbP} (h : RJ S w v L) (hS : ∀ k, k < w.heap.size → S k → S' k) : RJ S' w v L := by
  obtain ⟨a, cap, rfl, h1, h2, hc⟩ := h
  refine ⟨a, cap, rfl, h1, h2, fun i x hx => ?_⟩
  obtain ⟨b, off, ha, hb, c0, c1⟩ := hc i x hx
  exact ⟨b, off, ha, hS b c0.lt hb, c0, c1.mono hS⟩

theorem RJ.nil (S : Nat → Prop) (w : World) : RJ S w (.slice none 0 0) [] := ⟨none, 0, rfl, by simp, by unfold maxLen; omega, by simp⟩

/-- A row of jobs of one's own: it may begin in the midst of its block. -/
def OwR (w : World) (v : Value) (L : List JbP) : Prop :=
  (v = .slice none 0 0 ∧ L = []) ∨ ∃ g o cap cur, v = .slice (some ⟨g, o, none⟩) L.length cap ∧ L.length ≤ cap ∧ cap ≤ maxLen ∧ w.heap[g]? = some (.cells cur 37 (0, 0)) ∧ o + cap * 6 ≤ cur.size ∧ ∀ i p, L[i]? = some p → ∀ j, j < 6 → cur[o + i * 6 + j]? = (jrow p)[j]?

theorem OwR.slice {w : World} {v : Value} {L : List JbP} (h : OwR w v L) : ∃ a c, v = .slice a L.length c ∧ L.length ≤ c ∧ c ≤ maxLen := by
  rcases h with ⟨rfl, rfl⟩ | ⟨g, o, cap, cur, rfl, h1, h2, _⟩
  · exact ⟨_, _, rfl, Nat.le_refl _, by unfold maxLen; omega⟩
  · exact ⟨_, _, rfl, h1, h2⟩

theorem OwR.kept {w w' : World} {T : Nat → Prop} {v : Value} {L : List JbP} (h : OwR w v L) (hk : Kp T w w') (hv : ∀ g, v.ownBlock = some g → ¬ T g) : OwR w' v L := by
  rcases h with h | ⟨g, o, cap, cur, rfl, h1, h2, h3, h4, h5⟩
  · exact .inl h
  · exact .inr ⟨g, o, cap, cur, rfl, h1, h2, hk.row h3 (hv g rfl), h4, h5⟩

theorem OwR.later {w w' : World} {v : Value} {L : List JbP} (h : OwR w v L) (hb : Below w.heap.size w w') : OwR w' v L := h.kept (Kp.of_below (fun _ => False) hb) (fun _ _ h => h)

theorem OwR.lt {w : World} {v : Value} {L : List JbP} (h : OwR w v L) : ∀ g, v.ownBlock = some g → g < w.heap.size := by
  intro g hg
  rcases h with ⟨rfl, _⟩ | ⟨g', o, cap, cur, rfl, h1, h2, h3, _⟩
  · cases hg
  · cases hg; exact row_lt h3

theorem OwR.jc {w : World} {g o n cap : Nat} {L : List JbP} (h : OwR w (.slice (some ⟨g, o, none⟩) n cap) L) {i : Nat} {p : JbP} (hp : L[i]? = some p) : JC w g (o + i * 6) p := by
  rcases h with ⟨e, _⟩ | ⟨g', o', cap', cur, e, h1, h2, h3, h4, h5⟩
  · cases e
  · simp only [Value.slice.injEq, Option.some.injEq, Addr.mk.injEq] at e
    obtain ⟨⟨rfl, rfl, _⟩, _, _⟩ := e
    exact JC.of fun j hj => by rw [cell_row h3]; exact h5 i p hp j hj

theorem OwR.at' {w : World} {v : Value} {L : List JbP} (h : OwR w v L) {i : Nat} {p : JbP} (hp : L[i]? = some p) : ∃ g o cap, v = .slice (some ⟨g, o, none⟩) L.length cap := by
  rcases h with ⟨_, e⟩ | ⟨g', o', cap', cur, e, _⟩
  · subst e; simp at hp
  · exact ⟨_, _, _, e⟩

/-- The program's deque in memory: block p; its row v; T: the blocks that are its own. -/
structure DV (T : Nat → Prop) (w : World) (p : Nat) (v : Value) (L : List JbP) : Prop where
  blk : w.heap[p]? = some (.cells #[.bool true, v] 93 (0, 0))
  row : OwR w v L
  own : T p
  mine : ∀ g, v.ownBlock = some g → T g ∧ g ≠ p
  live : ∀ k, T k → k < w.heap.size
  st : ∀ x ∈ L, RS (fun k => T k ∧ k ≠ p ∧ v.ownBlock ≠ some k) w x.2 x.1.s

def DQ (T : Nat → Prop) (w : World) (p : Nat) (L : List Jb) : Prop := ∃ v M, DV T w p v M ∧ M.map Prod.fst = L

theorem DV.kept {T T' : Nat → Prop} {w w' : World} {p : Nat} {v : Value} {L : List JbP} (h : DV T w p v L) (hk : Kp T' w w') (hT : ∀ k, T k → ¬ T' k) : DV T w' p v L :=
  ⟨hk.row h.blk (hT p h.own), h.row.kept hk (fun g hg => hT g (h.mine g hg).1), h.own, h.mine, fun k hk2 => Nat.lt_of_lt_of_le (h.live k hk2) hk.size, fun x hx => (h.st x hx).kept hk (fun k hk2 => hT k hk2.1)⟩

theorem DV.later {T : Nat → Prop} {w w' : World} {p : Nat} {v : Value} {L : List JbP} (h : DV T w p v L) (hb : Below w.heap.size w w') : DV T w' p v L := h.kept (Kp.of_below (fun _ => False) hb) (fun _ _ h => h)

theorem DQ.kept {T T' : Nat → Prop} {w w' : World} {p : Nat} {L : List Jb} (h : DQ T w p L) (hk : Kp T' w w') (hT : ∀ k, T k → ¬ T' k) : DQ T w' p L := by
  obtain ⟨v, M, h, e⟩ := h
  exact ⟨v, M, h.kept hk hT, e⟩

theorem DQ.later {T : Nat → Prop} {w w' : World} {p : Nat} {L : List Jb} (h : DQ T w p L) (hb : Below w.heap.size w w') : DQ T w' p L := by
  obtain ⟨v, M, h, e⟩ := h
  exact ⟨v, M, h.later hb, e⟩

theorem DQ.live {T : Nat → Prop} {w : World} {p : Nat} {L : List Jb} (h : DQ T w p L) : ∀ k, T k → k < w.heap.size := by
  obtain ⟨v, M, h, e⟩ := h
  exact h.live

/-- What is T's, or new. -/
def Wd (T : Nat → Prop) (w w' : World) : Nat → Prop := fun k => T k ∨ (w.heap.size ≤ k ∧ k < w'.heap.size)

/-- What a call that turns a deque leaves. -/
def WD (T : Nat → Prop) (w : World) (p : Nat) (L : List Jb) (w' : World) : Prop := DQ (Wd T w w') w' p L ∧ Kp T w w'

end Go.Proofs.Ytfhmmiilenonkaa
