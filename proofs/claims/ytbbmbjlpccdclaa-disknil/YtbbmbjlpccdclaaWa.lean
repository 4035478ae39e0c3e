/- Bytes in memory; what is kept of a world; a program's disk in memory. -/
import Derived.Test.YtbbmbjlpccdclaaRows
import Derived.Test.YtbbmbjlpccdclaaMa
import Derived.WalkKit
import Derived.WalkSpells
import Derived.WalkLawsBesides
import Derived.BigQuiet
import Derived.Deep.QuietTactic
import Derived.Deep.RegionHeld
import Derived.Laws.Rows
import Derived.Laws.IdiomStrings
import Derived.Laws.BytesArg
import Derived.Laws.AppendOwnNone
import Derived.Maps.AppendAt
import Derived.Lib.SliceRun
import Derived.Laws.MakeOwn
namespace Go.Proofs.Ytbbmbjlpccdclaa
open Go.RowKit
set_option linter.unusedVariables false

theorem ret_i {k : IntKind} {a b : Int} (h : a = b) : Ending.returned (.int k a) = .returned (.int k b) := by rw [h]
theorem ret_b {a b : Bool} (h : a = b) : Ending.returned (.bool a) = .returned (.bool b) := by rw [h]
theorem ret_v {a b : Value} (h : a = b) : Ending.returned a = .returned b := by rw [h]

theorem Try.info5 : (Try.prog.info? 5).map (fun i => (i.zero, i.size, i.bytes)) = some (some (.int .u8 0), 1, 1) := by kernel_rfl

theorem byte_lt (b : UInt8) : b.toNat < 256 := b.toNat_lt

/-- A slice of bytes that reads as a list. -/
def RB (w : World) (v : Value) (l : List UInt8) : Prop :=
  ∃ a cap, v = .slice a l.length cap ∧ l.length ≤ cap ∧ cap ≤ maxLen ∧ (a = none → cap = 0) ∧ ∀ i, i < l.length → ∃ b off, a = some ⟨b, off, none⟩ ∧ w.cell? ⟨b, off + i, none⟩ = some (.int .u8 ((l.getD i 0).toNat : Nat))

/-- Bytes as they lie in memory. -/
def bvs (l : List UInt8) : List Value := l.map fun b => Value.int .u8 (b.toNat : Int)

theorem bvs_append (a b : List UInt8) : bvs (a ++ b) = bvs a ++ bvs b := by simp [bvs]
theorem bvs_len (a : List UInt8) : (bvs a).length = a.length := by simp [bvs]
theorem bvs_take (a : List UInt8) (n : Nat) : bvs (a.take n) = (bvs a).take n := by simp [bvs]

theorem below_drewN {B : Nat} {a w : World} (h : Below B a w) (n : Nat) : Below B a (w.drewN n) := h.trans ⟨rfl, rfl, rfl, Nat.le_refl _, fun _ _ => rfl⟩

theorem cell_later {w wx : World} (hb : Below w.heap.size w wx) {a : Addr} {v : Value} (h : w.cell? a = some v) : wx.cell? a = some v := by
  rw [hb.cell (World.block_lt_of_cell? w a h)]
  exact h

theorem RB.later {w wx : World} {v : Value} {l : List UInt8} (h : RB w v l) (hb : Below w.heap.size w wx) : RB wx v l := by
  obtain ⟨a, cap, hv, h1, h2, h3, hc⟩ := h
  refine ⟨a, cap, hv, h1, h2, h3, fun i hi => ?_⟩
  obtain ⟨b, off, ha, hcell⟩ := hc i hi
  exact ⟨b, off, ha, cell_later hb hcell⟩

theorem RB.of_owns {w : World} {B : Nat} {v : Value} {n : Nat} {l : List UInt8} (hown : w.ownsRow B 5 1 v n (bvs l)) (hn : n = l.length) : RB w v l := by
  subst hn
  rcases hown.2 with ⟨rfl, h0⟩ | ⟨g, cap, cur, rfl, _, _, h1, h2, _⟩
  · have h1 : l = [] := List.eq_nil_of_length_eq_zero h0
    subst h1
    exact ⟨none, 0, rfl, by simp, by unfold maxLen; omega, fun _ => rfl, by simp⟩
  · refine ⟨_, cap, rfl, h1, h2, (fun h => by cases h), fun i hi => ⟨g, 0, rfl, ?_⟩⟩
    have h := hown.cellAt i (by omega)
    rw [Nat.zero_add, h]
    simp [bvs, hi]

theorem RB.nil (w : World) : RB w (.slice none 0 0) [] := ⟨none, 0, rfl, by simp, by unfold maxLen; omega, fun _ => rfl, by simp⟩

theorem string_of_RB {w : World} {v : Value} {l : List UInt8} (h : RB w v l) : (convert 33 9 v).run Try.prog w = .ok (.string ⟨l.toArray⟩) w := by
  obtain ⟨a, cap, rfl, _, _, h3, hc⟩ := h
  cases a with
  | none =>
    have hl : l = [] := by
      cases l with
      | nil => rfl
      | cons y l =>
        obtain ⟨b, off, hb, _⟩ := hc 0 (by simp)
        cases hb
    subst hl
    exact run_convert_bytes_nil w 33 5 Try.underlying33 Try.underlying5 _ _ 9 Try.underlying9
  | some a =>
    refine run_convert_bytes_back w 33 9 5 _ cap l Try.underlying33 Try.underlying5 Try.underlying9 ?_
    intro j hj
    obtain ⟨b, off, hb, hcell⟩ := hc j hj
    simp only [Option.some.injEq] at hb
    subst hb
    rw [Go.WideShapes.add_plain, hcell]
    simp [hj]

theorem bvs_get {l : List UInt8} {j : Nat} {u : Value} (h : (bvs l)[j]? = some u) : j < l.length ∧ u = .int .u8 ((l.getD j 0).toNat : Nat) := by
  have hj : j < l.length := by
    have := (List.getElem?_eq_some_iff.1 h).1
    simpa [bvs] using this
  refine ⟨hj, ?_⟩
  simp [bvs, hj] at h
  rw [← h]
  simp [hj]

theorem RB.cells {w : World} {x : Addr} {n cap : Nat} {l : List UInt8} (h : RB w (.slice (some x) n cap) l) : n = l.length ∧ ∀ j u, (bvs l)[j]? = some u → w.cell? (x.add j) = some u := by
  obtain ⟨a, ca, he, _, _, _, hc⟩ := h
  simp only [Value.slice.injEq] at he
  obtain ⟨rfl, rfl, rfl⟩ := he
  refine ⟨rfl, fun j u hj => ?_⟩
  obtain ⟨hj2, rfl⟩ := bvs_get hj
  obtain ⟨b, off, hb, hcell⟩ := hc j hj2
  simp only [Option.some.injEq] at hb
  subst hb
  rw [Go.WideShapes.add_plain, hcell]

theorem bvs_one {l : List UInt8} : ∀ u ∈ bvs l, u.oneCell' = true := by
  intro u hu
  obtain ⟨x, _, rfl⟩ := List.mem_map.1 hu
  rfl

/-- Bytes put behind bytes of one's own. -/
theorem run_append_b (w : World) (ty : TypeId) (v xv : Value) (bs l : List UInt8) (hown : w.ownsRow 0 5 1 v bs.length (bvs bs)) (hr : RB w xv l) (hn : bs.length ≤ 10000000) (hl : l.length ≤ 10000000) :
    ∃ v' w', (Builtin.append_ #[33, 33] ty #[v, xv]).run Try.prog w = .ok v' w' ∧ w'.ownsRow 0 5 1 v' (bs ++ l).length (bvs (bs ++ l)) ∧ w.grownBy w' v.ownBlock ∧ (v'.ownBlock = v.ownBlock ∨ v'.ownBlock = some w.heap.size) := by
  obtain ⟨i0, hi, hz0, hz1, hz2⟩ := info_parts Try.info5
  have hr2 := hr
  obtain ⟨ad, cp, rfl, _, _, hnone, hc⟩ := hr
  cases ad with
  | none =>
    have h0 := hnone rfl
    subst h0
    have hl0 : l = [] := by
      cases l with
      | nil => rfl
      | cons y l =>
        obtain ⟨b, off, hb, _⟩ := hc 0 (by simp)
        cases hb
    subst hl0
    rw [List.append_nil]
    exact ⟨v, w, run_append_owned_none (P := Try.prog) (w := w) 0 33 ty 5 i0 1 Try.underlying33 hi v bs.length (bvs bs) hown, hown, ⟨rfl, rfl, rfl, Nat.le_refl _, fun _ _ _ => rfl⟩, .inl rfl⟩
  | some ad =>
    obtain ⟨v', w', h1, h2, h3, _, h5⟩ := run_append_own_at (P := Try.prog) w 0 33 ty 5 i0 (.int .u8 0) 1 1 Try.underlying33 hi hz0 hz1 hz2 rfl (by decide) v bs.length (bvs bs) hown ad l.length cp (bvs l) (by rw [bvs_len]; omega) hr2.cells.2 bvs_one (by unfold maxLen; omega) (by omega) (Nat.zero_le _)
    refine ⟨v', w', h1, ?_, h3, h5⟩
    rw [List.length_append, bvs_append]
    exact h2

/-- What is kept of a world: all but blocks of T, and what is new. -/
structure Kp (T : Nat → Prop) (w w' : World) : Prop where
  os : w'.os = w.os
  tape : w'.tape = w.tape
  output : w'.output = w.output
  size : w.heap.size ≤ w'.heap.size
  block : ∀ k, k < w.heap.size → ¬ T k → w'.heap[k]? = w.heap[k]?

theorem Kp.refl (T : Nat → Prop) (w : World) : Kp T w w := ⟨rfl, rfl, rfl, Nat.le_refl _, fun _ _ _ => rfl⟩

theorem Kp.trans {T T' : Nat → Prop} {a b c : World} (h : Kp T a b) (k : Kp T' b c) (hT : ∀ x, T' x → x < a.heap.size → T x) : Kp T a c :=
  ⟨k.os.trans h.os, k.tape.trans h.tape, k.output.trans h.output, Nat.le_trans h.size k.size, fun i hi hn => (k.block i (Nat.lt_of_lt_of_le hi h.size) (fun ht => hn (hT i ht hi))).trans (h.block i hi hn)⟩

theorem Kp.of_below {w w' : World} (T : Nat → Prop) (h : Below w.heap.size w w') : Kp T w w' := ⟨h.os, h.tape, h.output, h.size, fun k hk _ => h.block k hk⟩

theorem Kp.below {T : Nat → Prop} {w w' : World} (h : Kp T w w') {B : Nat} (hB : B ≤ w.heap.size) (hT : ∀ k, T k → B ≤ k) : Below B w w' :=
  ⟨h.os, h.tape, h.output, h.size, fun k hk => h.block k (by omega) (fun ht => by have := hT k ht; omega)⟩

theorem Kp.mono {T T' : Nat → Prop} {w w' : World} (h : Kp T w w') (hT : ∀ k, T k → T' k) : Kp T' w w' := ⟨h.os, h.tape, h.output, h.size, fun k hk hn => h.block k hk (fun ht => hn (hT k ht))⟩

theorem Kp.of_grown {w w' : World} {row : Option Nat} (T : Nat → Prop) (h : w.grownBy w' row) (hT : ∀ k, row = some k → T k) : Kp T w w' :=
  ⟨h.os, h.tape, h.output, h.size, fun k hk hn => h.block k hk (fun e => hn (hT k e.symm))⟩

theorem Kp.set {T : Nat → Prop} {a w : World} (h : Kp T a w) (p : Addr) (u : Value) (hp : T p.block) : Kp T a (w.setCell p u) :=
  h.trans (T' := T) ⟨rfl, rfl, rfl, by simp [World.setCell], fun k hk hn => Below.heap_setCell _ _ _ _ (fun e => hn (by rw [e]; exact hp))⟩ (fun x hx _ => hx)

theorem Kp.alloc {T : Nat → Prop} {a w : World} (h : Kp T a w) (o : Obj) : Kp T a (w.alloc o) :=
  h.trans (T' := T) ⟨rfl, rfl, rfl, by simp, fun k hk hn => Below.heap_alloc _ _ _ hk⟩ (fun x hx _ => hx)

theorem Kp.drew {T : Nat → Prop} {a w : World} (h : Kp T a w) : Kp T a w.drew := ⟨h.os, h.tape, h.output, h.size, h.block⟩
theorem Kp.drewN {T : Nat → Prop} {a w : World} (h : Kp T a w) (n : Nat) : Kp T a (w.drewN n) := h.trans (T' := T) ⟨rfl, rfl, rfl, Nat.le_refl _, fun _ _ _ => rfl⟩ (fun x hx _ => hx)

theorem Kp.cell {T : Nat → Prop} {w w' : World} (h : Kp T w w') {a : Addr} {v : Value} (hc : w.cell? a = some v) (hn : ¬ T a.block) : w'.cell? a = some v := by
  rw [World.cell?_of_block (w := w) (h.block a.block (World.block_lt_of_cell? w a hc) hn)]
  exact hc

theorem owns_kept {w w' : World} {T : Nat → Prop} (h : Kp T w w') {B : Nat} {e : TypeId} {size : Nat} {v : Value} {n : Nat} {xs : List Value} (ho : w.ownsRow B e size v n xs) (hv : ∀ g, v.ownBlock = some g → ¬ T g) : w'.ownsRow B e size v n xs := by
  refine ⟨ho.1, ?_⟩
  rcases ho.2 with hn | ⟨g, cap, cur, rfl, hb, hg, rest⟩
  · exact .inl hn
  · refine .inr ⟨g, cap, cur, rfl, hb, ?_, rest⟩
    rw [h.block g (Array.getElem?_eq_some_iff.1 hg).1 (hv g rfl)]
    exact hg

theorem RB.kept {w w' : World} {T : Nat → Prop} {v : Value} {l : List UInt8} (h : RB w v l) (hk : Kp T w w') (hv : ∀ a n c, v = .slice (some a) n c → ¬ T a.block) : RB w' v l := by
  obtain ⟨a, cap, rfl, h1, h2, h3, hc⟩ := h
  refine ⟨a, cap, rfl, h1, h2, h3, fun i hi => ?_⟩
  obtain ⟨b, off, rfl, hcell⟩ := hc i hi
  exact ⟨b, off, rfl, hk.cell hcell (show ¬ T b from hv ⟨b, off, none⟩ _ _ rfl)⟩

/-- The program's disk in memory: block p; V: the files' slices; T: the blocks that are its own. -/
structure DV (T : Nat → Prop) (w : World) (p : Nat) (S : DS) (V : Nat → Value) : Prop where
  blk : ∃ cs, w.heap[p]? = some (.cells cs 55 (0, 0)) ∧ cs.size = 134
  own : T p
  live : ∀ k, T k → k < w.heap.size
  cnt : w.cell? ⟨p, 130, none⟩ = some (.int .i64 S.n)
  rm : w.cell? ⟨p, 131, none⟩ = some (.int .i64 S.room)
  fu : w.cell? ⟨p, 132, none⟩ = some (.int .i64 S.fuse)
  dn : w.cell? ⟨p, 133, none⟩ = some (.bool S.down)
  file : ∀ i, i < 65 → w.cell? ⟨p, i * 2, none⟩ = some (V i) ∧ w.cell? ⟨p, i * 2 + 1, none⟩ = some (.int .i64 (S.fs i).s) ∧ w.ownsRow 0 5 1 (V i) (S.fs i).b.length (bvs (S.fs i).b)
  mine : ∀ i g, i < 65 → (V i).ownBlock = some g → T g ∧ g ≠ p
  apart : ∀ i j g, i < 65 → j < 65 → i ≠ j → (V i).ownBlock = some g → (V j).ownBlock ≠ some g

def DK (T : Nat → Prop) (w : World) (p : Nat) (S : DS) : Prop := ∃ V, DV T w p S V

/-- What touches none of a disk's blocks leaves it. -/
theorem DV.kept {T T' : Nat → Prop} {w w' : World} {p : Nat} {S : DS} {V : Nat → Value} (h : DV T w p S V) (hk : Kp T' w w') (hT : ∀ k, T k → ¬ T' k) : DV T w' p S V := by
  have hp := hT p h.own
  obtain ⟨cs, hb, hcs⟩ := h.blk
  refine ⟨⟨cs, ?_, hcs⟩, h.own, fun k hk2 => Nat.lt_of_lt_of_le (h.live k hk2) hk.size, hk.cell h.cnt hp, hk.cell h.rm hp, hk.cell h.fu hp, hk.cell h.dn hp, fun i hi => ?_, h.mine, h.apart⟩
  · rw [hk.block p (h.live p h.own) hp]
    exact hb
  · obtain ⟨h1, h2, h3⟩ := h.file i hi
    exact ⟨hk.cell h1 hp, hk.cell h2 hp, owns_kept hk h3 (fun g hg => hT g (h.mine i g hi hg).1)⟩

theorem DV.later {T : Nat → Prop} {w w' : World} {p : Nat} {S : DS} {V : Nat → Value} (h : DV T w p S V) (hb : Below w.heap.size w w') : DV T w' p S V :=
  h.kept (Kp.of_below (fun _ => False) hb) (fun _ _ h => h)

theorem DK.later {T : Nat → Prop} {w w' : World} {p : Nat} {S : DS} (h : DK T w p S) (hb : Below w.heap.size w w') : DK T w' p S := by
  obtain ⟨V, h⟩ := h
  exact ⟨V, h.later hb⟩

theorem DK.kept {T T' : Nat → Prop} {w w' : World} {p : Nat} {S : DS} (h : DK T w p S) (hk : Kp T' w w') (hT : ∀ k, T k → ¬ T' k) : DK T w' p S := by
  obtain ⟨V, h⟩ := h
  exact ⟨V, h.kept hk hT⟩

/-- More blocks may be a disk's own. -/
theorem DK.wide {T T' : Nat → Prop} {w : World} {p : Nat} {S : DS} (h : DK T w p S) (hT : ∀ k, T k → T' k) (hl : ∀ k, T' k → k < w.heap.size) : DK T' w p S := by
  obtain ⟨V, h⟩ := h
  exact ⟨V, h.blk, hT _ h.own, hl, h.cnt, h.rm, h.fu, h.dn, h.file, fun i g hi hg => ⟨hT _ (h.mine i g hi hg).1, (h.mine i g hi hg).2⟩, h.apart⟩
end Go.Proofs.Ytbbmbjlpccdclaa
