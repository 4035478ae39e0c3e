/- Texts of the seat, packed: SSa SSb SSc SSe SRc. -/
import Derived.Test.YtlegmmhacnbnlaaGreatDoorP01
import Derived.Test.YtlegmmhacnbnlaaGreatDoorRows
import Derived.BigQuiet
import Derived.Deep.QuietTactic
import Derived.Deep.RegionWith
import Derived.WalkLawsBesides
import Derived.WalkSpells
import Derived.Deep.RegionLaw
import Derived.Maps.AppendAt
import Derived.Maps.OwnIn
/- The program's reader: where it stands; now, name, word, mark, mayWord, mayMark. -/
namespace Go.Proofs.YtlegmmhacnbnlaaGreatDoor.Sx

open Go.RowKit

/-- All blocks but one are as they were. -/
structure Ke (rb : Nat) (w w' : World) : Prop where
  os : w'.os = w.os
  tape : w'.tape = w.tape
  output : w'.output = w.output
  size : w.heap.size ≤ w'.heap.size
  block : ∀ k, k < w.heap.size → k ≠ rb → w'.heap[k]? = w.heap[k]?

theorem Ke.refl (rb : Nat) (w : World) : Ke rb w w := ⟨rfl, rfl, rfl, Nat.le_refl _, fun _ _ _ => rfl⟩

theorem Ke.trans {rb : Nat} {x y z : World} (h : Ke rb x y) (k : Ke rb y z) : Ke rb x z :=
  ⟨k.os.trans h.os, k.tape.trans h.tape, k.output.trans h.output, Nat.le_trans h.size k.size, fun i hi hn => (k.block i (Nat.lt_of_lt_of_le hi h.size) hn).trans (h.block i hi hn)⟩

theorem Ke.of_below {rb : Nat} {x y : World} (h : Below x.heap.size x y) : Ke rb x y := ⟨h.os, h.tape, h.output, h.size, fun i hi _ => h.block i hi⟩

theorem Ke.below {rb B : Nat} {x y : World} (h : Ke rb x y) (h1 : B ≤ rb) (h2 : B ≤ x.heap.size) : Below B x y :=
  ⟨h.os, h.tape, h.output, h.size, fun k hk => h.block k (by omega) (by omega)⟩

theorem Ke.setCell (rb : Nat) (w : World) (i : Nat) (v : Value) : Ke rb w (w.setCell ⟨rb, i, none⟩ v) :=
  ⟨rfl, rfl, rfl, by simp, fun k _ hn => Below.heap_setCell w ⟨rb, i, none⟩ v k hn⟩

theorem Ke.drewN {rb : Nat} {x y : World} (h : Ke rb x y) (n : Nat) : Ke rb x (y.drewN n) := ⟨h.os, h.tape, h.output, h.size, h.block⟩

theorem Ke.drew {rb : Nat} {x y : World} (h : Ke rb x y) : Ke rb x y.drew := ⟨h.os, h.tape, h.output, h.size, h.block⟩

theorem Ke.alloc {rb : Nat} {x y : World} (h : Ke rb x y) (o : Obj) : Ke rb x (y.alloc o) :=
  h.trans (Ke.of_below ((Below.refl _ _).alloc (Nat.le_refl _) o))

/-- A piece: what it is, its text, its place. -/
structure Pc where
  ty : Nat
  text : By
  at_ : Nat

def pcv (p : Pc) : Value := .iface p.ty (.agg #[Value.string ⟨p.text.toArray⟩, .int .i64 (p.at_ : Int)])

/-- The reader's block and its pieces; the i-th is next. -/
structure RD (w : World) (rb pb cap : Nat) (ps : List Pc) (i : Nat) : Prop where
  blk : w.heap[rb]? = some (.cells #[.slice (some ⟨pb, 0, none⟩) ps.length cap, .int .i64 (i : Int)] 75 (0, 0))
  pcs : ∀ j p, ps[j]? = some p → w.cell? ⟨pb, j, none⟩ = some (pcv p)
  ne : pb ≠ rb
  lt : pb < w.heap.size
  few : ps.length ≤ 100000
  cp : ps.length ≤ cap

theorem RD.keep {w w' : World} {rb pb cap i : Nat} {ps : List Pc} (h : RD w rb pb cap ps i) (hk : Ke rb w w') (hb : w'.heap[rb]? = w.heap[rb]?) : RD w' rb pb cap ps i :=
  ⟨hb.trans h.blk, fun j p hj => (World.cell?_of_block (a := ⟨pb, j, none⟩) (hk.block pb h.lt h.ne)).trans (h.pcs j p hj), h.ne, Nat.lt_of_lt_of_le h.lt hk.size, h.few, h.cp⟩

theorem RD.below {w w' : World} {rb pb cap i : Nat} {ps : List Pc} (h : RD w rb pb cap ps i) (hk : Below w.heap.size w w') : RD w' rb pb cap ps i :=
  h.keep (Ke.of_below hk) (hk.block rb (Array.getElem?_eq_some_iff.1 h.blk).1)

theorem RD.rlt {w : World} {rb pb cap i : Nat} {ps : List Pc} (h : RD w rb pb cap ps i) : rb < w.heap.size := (Array.getElem?_eq_some_iff.1 h.blk).1

theorem cell_row {w : World} {b : Nat} {cs : Array Value} {t : TypeId} (h : w.heap[b]? = some (.cells cs t (0, 0))) (i : Nat) : w.cell? ⟨b, i, none⟩ = cs[i]? := by
  simp [World.cell?, h]

theorem froz_row {w : World} {b : Nat} {cs : Array Value} {t : TypeId} (h : w.heap[b]? = some (.cells cs t (0, 0))) (i : Nat) : w.frozen? ⟨b, i, none⟩ = false := by
  simp [World.frozen?, h]

theorem RD.c0 {w : World} {rb pb cap i : Nat} {ps : List Pc} (h : RD w rb pb cap ps i) : w.cell? ⟨rb, 0, none⟩ = some (.slice (some ⟨pb, 0, none⟩) ps.length cap) := (cell_row h.blk 0).trans rfl

theorem RD.c1 {w : World} {rb pb cap i : Nat} {ps : List Pc} (h : RD w rb pb cap ps i) : w.cell? ⟨rb, 1, none⟩ = some (.int .i64 (i : Int)) := (cell_row h.blk 1).trans rfl

theorem RD.f1 {w : World} {rb pb cap i : Nat} {ps : List Pc} (h : RD w rb pb cap ps i) : w.frozen? ⟨rb, 1, none⟩ = false := froz_row h.blk 1

/-- The reader goes on by one. -/
theorem RD.on {w : World} {rb pb cap i : Nat} {ps : List Pc} (h : RD w rb pb cap ps i) : RD (w.setCell ⟨rb, 1, none⟩ (.int .i64 ((i + 1 : Nat) : Int))) rb pb cap ps (i + 1) := by
  refine ⟨?_, fun j p hj => ?_, h.ne, by simpa using h.lt, h.few, h.cp⟩
  · have hb := h.blk
    have hlt := h.rlt
    simp only [World.setCell]
    rw [Array.getElem?_eq_getElem (by rw [Array.size_modify]; exact hlt), Array.getElem_modify_self]
    obtain ⟨_, hk'⟩ := Array.getElem?_eq_some_iff.1 hb
    rw [hk']
    simp
  · rw [World.cell?_of_block (a := ⟨pb, j, none⟩) (w := w)]
    · exact h.pcs j p hj
    · exact Below.heap_setCell w ⟨rb, 1, none⟩ _ pb h.ne

theorem Ke.on (rb : Nat) (w : World) (v : Value) : Ke rb w (w.setCell ⟨rb, 1, none⟩ v) := Ke.setCell rb w 1 v

theorem RD.drewN {w : World} {rb pb cap i : Nat} {ps : List Pc} (h : RD w rb pb cap ps i) (n : Nat) : RD (w.drewN n) rb pb cap ps i := ⟨h.blk, h.pcs, h.ne, h.lt, h.few, h.cp⟩

theorem RD.alloc {w : World} {rb pb cap i : Nat} {ps : List Pc} (h : RD w rb pb cap ps i) (o : Obj) : RD (w.alloc o) rb pb cap ps i := h.below ((Below.refl _ _).alloc (Nat.le_refl _) o)

end Go.Proofs.YtlegmmhacnbnlaaGreatDoor.Sx

/- The program's reader: leanings and steps. -/
namespace Go.Proofs.YtlegmmhacnbnlaaGreatDoor.Sx

open Go.RowKit

def Got.map {α β : Type} (h : α → β) : Got α → Got β
  | .ok x i => .ok (h x) i
  | .no i => .no i

theorem Ke.grown {rb : Nat} {w w' : World} (h : Ke rb w w') : w.grownBy w' (some rb) := ⟨h.os, h.tape, h.output, h.size, fun k hk hn => h.block k hk (fun e => hn (by rw [e]))⟩

theorem Ke.push {rb : Nat} {w w4 w5 : World} {o : Obj} {row : Option Nat} (k : Ke rb w w4) (hg : (w4.alloc o).grownBy w5 row) (hrow : ∀ j, row = some j → w.heap.size ≤ j) : Ke rb w w5 := by
  have hz := k.size
  refine ⟨hg.os.trans k.os, hg.tape.trans k.tape, hg.output.trans k.output, by have := hg.size; simp at this; omega, fun i hi hn => ?_⟩
  rw [hg.block i (by simp; omega) (fun e => by have := hrow i e.symm; omega), Below.heap_alloc _ _ _ (by omega)]
  exact k.block i hi hn

theorem RD.push {w4 w5 : World} {rb pb cap i : Nat} {ps : List Pc} {o : Obj} {row : Option Nat} (h : RD w4 rb pb cap ps i) (hg : (w4.alloc o).grownBy w5 row) (hrow : ∀ j, row = some j → j ≠ rb ∧ j ≠ pb) : RD w5 rb pb cap ps i := by
  have h1 := h.alloc o
  have hz := hg.size
  refine ⟨(hg.block rb h1.rlt (fun e => (hrow rb e.symm).1 rfl)).trans h1.blk, fun j p hj => (World.cell?_of_block (a := ⟨pb, j, none⟩) (hg.block pb h1.lt (fun e => (hrow pb e.symm).2 rfl))).trans (h1.pcs j p hj), h.ne, by have := h1.lt; omega, h.few, h.cp⟩

end Go.Proofs.YtlegmmhacnbnlaaGreatDoor.Sx

/- The program's reader: steps. -/
namespace Go.Proofs.YtlegmmhacnbnlaaGreatDoor.Sx

open Go.RowKit

theorem row_set {w : World} {b : Nat} {cs : Array Value} {t : TypeId} (h : w.heap[b]? = some (.cells cs t (0, 0))) (i : Nat) (v : Value) : (w.setCell ⟨b, i, none⟩ v).heap[b]? = some (.cells (cs.setIfInBounds i v) t (0, 0)) := by
  obtain ⟨hlt, hk'⟩ := Array.getElem?_eq_some_iff.1 h
  simp only [World.setCell]
  rw [Array.getElem?_eq_getElem (by rw [Array.size_modify]; exact hlt), Array.getElem_modify_self, hk']
  rfl

theorem row_new (w : World) (cs : Array Value) (t : TypeId) : (w.alloc (.cells cs t)).heap[w.heap.size]? = some (.cells cs t (0, 0)) := by
  show (w.heap.push _)[w.heap.size]? = _
  simp

theorem row_alloc {w : World} {b : Nat} {x : Obj} (h : w.heap[b]? = some x) (o : Obj) : (w.alloc o).heap[b]? = some x :=
  (Below.heap_alloc _ _ _ (Array.getElem?_eq_some_iff.1 h).1).trans h

theorem row_other {w : World} {b c i : Nat} {x : Obj} (h : w.heap[b]? = some x) (v : Value) (hn : b ≠ c) : (w.setCell ⟨c, i, none⟩ v).heap[b]? = some x :=
  (Below.heap_setCell w ⟨c, i, none⟩ v b hn).trans h

theorem Ke.setFar {rb : Nat} {w w' : World} (h : Ke rb w w') {c i : Nat} (v : Value) (hc : w.heap.size ≤ c) : Ke rb w (w'.setCell ⟨c, i, none⟩ v) :=
  ⟨h.os, h.tape, h.output, by simpa using h.size, fun k hk hn => (Below.heap_setCell w' ⟨c, i, none⟩ v k (by show k ≠ c; omega)).trans (h.block k hk hn)⟩

theorem RD.setFar {w : World} {rb pb cap i : Nat} {ps : List Pc} (h : RD w rb pb cap ps i) {c j : Nat} (v : Value) (h1 : c ≠ rb) (h2 : c ≠ pb) : RD (w.setCell ⟨c, j, none⟩ v) rb pb cap ps i :=
  ⟨row_other h.blk v (fun e => h1 e.symm), fun q p hq => (World.cell?_of_block (a := ⟨pb, q, none⟩) (Below.heap_setCell w ⟨c, j, none⟩ v pb (by show pb ≠ c; omega))).trans (h.pcs q p hq), h.ne, by simpa using h.lt, h.few, h.cp⟩

theorem Keeps.setCell {P : Nat → Prop} (w : World) {c i : Nat} (v : Value) (hc : ¬ P c) : Keeps P w (w.setCell ⟨c, i, none⟩ v) := fun b hb _ => Below.heap_setCell w ⟨c, i, none⟩ v b (by rintro rfl; exact hc hb)

theorem Keeps.trans {P : Nat → Prop} {a b c : World} (h : Keeps P a b) (k : Keeps P b c) (hz : a.heap.size ≤ b.heap.size) : Keeps P a c := fun i hi hl => (k i hi (by omega)).trans (h i hi hl)

end Go.Proofs.YtlegmmhacnbnlaaGreatDoor.Sx

/- The program's reader: a body. -/
namespace Go.Proofs.YtlegmmhacnbnlaaGreatDoor.Sx

open Go.RowKit

theorem add_zero' (g j : Nat) : (⟨g, 0, none⟩ : Addr).add j = ⟨g, j, none⟩ := by unfold Addr.add; split <;> simp_all

theorem new_cells (w : World) (l : List Value) (t : TypeId) : ∀ j u, l[j]? = some u → (w.alloc (.cells l.toArray t)).cell? ((⟨w.heap.size, 0, none⟩ : Addr).add j) = some u := fun j u h => by
  rw [add_zero', World.cell?_alloc_new]
  simpa using h

theorem RD.drew {w : World} {rb pb cap i : Nat} {ps : List Pc} (h : RD w rb pb cap ps i) : RD w.drew rb pb cap ps i := ⟨h.blk, h.pcs, h.ne, h.lt, h.few, h.cp⟩

theorem ownsRow_succ' {W : World} {base : Nat} {e : TypeId} {size : Nat} {v : Value} {k : Nat} {xs : List Value} (h : W.ownsRow base e size v (k + 1) xs) : ∃ g cap, v = .slice (some ⟨g, 0, none⟩) (k + 1) cap := by
  rcases h.2 with ⟨_, h0⟩ | ⟨g, cap, cur, rfl, _⟩
  · omega
  · exact ⟨g, cap, rfl⟩

end Go.Proofs.YtlegmmhacnbnlaaGreatDoor.Sx

/- The program's iterator over a saga's nodes: the walk. -/
namespace Go.Proofs.YtlegmmhacnbnlaaGreatDoor.Sx

open Go.RowKit Go.Shelf

attribute [local go_sem] Oper.semAt_some

/-- All below n0 is as in w0. -/
def Low (n0 : Nat) (w0 w : World) : Prop := ∀ k, k < n0 → w.heap[k]? = w0.heap[k]?

theorem Low.cell {n0 : Nat} {w0 w : World} (h : Low n0 w0 w) {b i : Nat} {v : Value} (hb : b < n0) (hc : w0.cell? ⟨b, i, none⟩ = some v) : w.cell? ⟨b, i, none⟩ = some v :=
  (World.cell?_of_block (a := ⟨b, i, none⟩) (h b hb)).trans hc

theorem Tryz.info176 : (Tryz.prog.info? 176).map (fun i => (i.zero, i.size, i.bytes)) = some (some (.agg #[.int .i64 0, .slice none 0 0]), 2, 32) := by kernel_rfl

/-- What the iterator has handed on, and what waits, is all. -/
def AllOf (pre : List Nd) (mid : List (Nat × Lab × Tr)) (stk : List En) (t : Tr) : Prop := (pre.map Nd.key ++ (mid ++ efl stk)).Perm (fltn 1 t)

theorem own_block {w w' : World} {B n : Nat} {e : TypeId} {sz : Nat} {v : Value} {xs : List Value} (h : w.ownsRow B e sz v n xs) (hb : ∀ g, v.ownBlock = some g → w'.heap[g]? = w.heap[g]?) : w'.ownsRow B e sz v n xs := by
  refine ⟨h.1, ?_⟩
  rcases h.2 with hn | ⟨g, cap, cur, hv, h1, h2, h3⟩
  · exact .inl hn
  · exact .inr ⟨g, cap, cur, hv, h1, (hb g (by rw [hv]; rfl)).trans h2, h3⟩

theorem ew_len (l : List En) : l.length ≤ ew l := by
  induction l with
  | nil => exact Nat.le_refl _
  | cons e l ih => simp [ew]; omega

theorem Wt.kept {n0 : Nat} {w0 : World} {n1 D : Nat} {lv : Value} {A B : World} {s : List En} (h : Wt n0 w0 n1 D lv A s) (hk : Kr n0 n1 A B) : Wt n0 w0 n1 D lv B s :=
  ⟨own_block h.1 (fun g hg => hk.high g (h.1.lt g hg).1 (h.1.lt g hg).2), h.2⟩

theorem Low.kept {n0 n1 : Nat} {w0 A B : World} (h : Low n0 w0 A) (hk : Kr n0 n1 A B) : Low n0 w0 B := fun k hkk => (hk.low k hkk).trans (h k hkk)

theorem Low.alloc {n0 : Nat} {w0 A : World} (h : Low n0 w0 A) (o : Obj) (hn : n0 ≤ A.heap.size) : Low n0 w0 (A.alloc o) := fun k hkk => (Below.heap_alloc _ _ _ (by omega)).trans (h k hkk)

theorem Wt.alloc {n0 : Nat} {w0 : World} {n1 D : Nat} {lv : Value} {A : World} {s : List En} (h : Wt n0 w0 n1 D lv A s) (o : Obj) : Wt n0 w0 n1 D lv (A.alloc o) s := ⟨h.1.alloc o, h.2⟩

theorem allOf_next {pre : List Nd} {x : Nd} {m1 m2 : List (Nat × Lab × Tr)} {stk : List En} {t : Tr} (h : AllOf pre (x.key :: (m1 ++ m2)) stk t) : AllOf (pre ++ [x]) (m1 ++ m2) stk t := by
  unfold AllOf at *
  refine List.Perm.trans ?_ h
  simp

theorem allOf_push {pre : List Nd} {e : En} {m2 : List (Nat × Lab × Tr)} {stk : List En} {t : Tr} (h : AllOf pre (fltn e.deep e.tree ++ m2) stk t) : AllOf pre m2 (stk ++ [e]) t := by
  unfold AllOf at *
  refine List.Perm.trans ?_ h
  rw [efl_snoc]
  refine List.Perm.append_left _ ?_
  rw [List.append_assoc]
  exact ((List.Perm.append_left m2 List.perm_append_comm).trans (by rw [← List.append_assoc, ← List.append_assoc]; exact List.Perm.append_right _ List.perm_append_comm))

theorem allOf_pop {pre : List Nd} {e : En} {stk : List En} {t : Tr} (h : AllOf pre [] (stk ++ [e]) t) : AllOf pre (fltn e.deep e.tree) stk t := by
  unfold AllOf at *
  refine List.Perm.trans ?_ h
  rw [efl_snoc]
  refine List.Perm.append_left _ ?_
  exact List.perm_append_comm

set_option maxRecDepth 1000000 in
set_option maxHeartbeats 8000000 in
theorem nodes1_in (F : Fence) (n : Nat) (h67 : F.fn 109) (hro : F.round = none) (hn : 1 ≤ n) (hd : F.depth = none) (n0 D gb : Nat) (w0 w : World) (t : Tr) (av : Option Addr) (am ac : Nat) (hlow : Low n0 w0 w) (hn0 : n0 ≤ w.heap.size)
    (hgc : w.cell? ⟨gb, 1, none⟩ = some (.slice av am ac)) (ht : TAt (· < n0) w0 true t av 0 am) (hD : 1 + t.dep ≤ D) (hDb : D ≤ 1000000000) (hmb : tw t ≤ 200000) (hsz : t.sz ≤ 1000000000 ∧ t.afs) :
    MySeq F n Tryz.prog 109 #[.pointer (some ⟨gb, 0, none⟩)] Nd.enc (Nd.ok n0 w0 D) n0 (fltn 1 t).length (fun xs => (xs.map Nd.key).Perm (fltn 1 t)) (fun pre => ∃ rest, (pre.map Nd.key ++ rest).Perm (fltn 1 t)) w := by
  intro l J Jx W hW hJ hJx hY h0
  have hzW := hW.size
  have hlW : Low n0 w0 W := fun k hk => (hW.block k (by omega)).trans (hlow k hk)
  have hgW : W.cell? ⟨gb, 1, none⟩ = some (.slice av am ac) := (hW.cell (lt_of_cell? hgc)).trans hgc
  obtain ⟨i0, hi0, hz0, hz1, hz2⟩ := info_parts Tryz.info176
  have hst0 : Wt n0 w0 W.heap.size D (.slice (some ⟨W.heap.size, 0, none⟩) 1 1) (W.alloc (.cells #[.int .i64 1, .slice av am ac] 176)) [⟨1, t, av, am, ac⟩] := by
    refine ⟨?_, fun e he => ?_⟩
    · exact World.ownsRow_lit W #[.int .i64 1, .slice av am ac] 1 (Nat.le_refl _) (by decide) rfl
    · simp at he
      subst he
      exact ⟨ht, hD, hsz⟩
  have hJ0 : J [] (W.alloc (.cells #[.int .i64 1, .slice av am ac] 176)) := hJ _ _ _ h0 ((Below.refl _ _).alloc (Nat.le_refl _) _)
  have hl0 : Low n0 w0 (W.alloc (.cells #[.int .i64 1, .slice av am ac] 176)) := fun k hk => (Below.heap_alloc _ _ _ (by omega)).trans (hlW k hk)
  have hall0 : AllOf [] [] [⟨1, t, av, am, ac⟩] t := by simp [AllOf, efl]
  refine callsIn_of_wp Tryz.func109 rfl h67 ?_ hro
  simp only [Tryz.ntmps109, List.size_toArray, List.length_cons, List.length_nil, Nat.reduceAdd, Nat.reduceSub, Array.replicate_succ, Array.replicate_zero, List.push_toArray, List.append_toArray, List.nil_append, List.cons_append]
  gi_wp2
  gi_loopw [3] (fun lv wr => ∃ (stk : List En) (pre : List Nd), Hid (Wt n0 w0 W.heap.size D lv wr stk) ∧ Hid (Low n0 w0 wr) ∧ Hid (J pre wr) ∧ Hid (AllOf pre [] stk t) ∧ Hid (ew stk ≤ 1 + tw t) ∧ W.heap.size ≤ wr.heap.size)
    (fun lv wr => mu n0 w0 W.heap.size D lv wr)
  case atStart => exact ⟨_, [], hst0, hl0, hJ0, hall0, by show ew [(⟨1, t, av, am, ac⟩ : En)] ≤ 1 + tw t; simp [ew], by simp⟩
  case round =>
    rename World => w1
    obtain ⟨stk, pre, HW, HL, HJ, HA, HE, hzr⟩ := hrel
    clear hst0 hl0 hJ0 hall0
    rcases List.eq_nil_or_concat stk with rfl | ⟨s, e, rfl⟩
    · have hG : (pre.map Nd.key).Perm (fltn 1 t) := by have := HA.out; simpa [AllOf, efl] using this
      obtain ⟨a, c, hva⟩ : ∃ a c, u3 = .slice a 0 c := by
        rcases HW.out.1.2 with ⟨h, _⟩ | ⟨g, cap, cur, h, _⟩
        · exact ⟨_, _, h⟩
        · exact ⟨_, _, h⟩
      subst hva
      gi_wp2
      go_end0
      exact ⟨⟨_, rfl⟩, .inl ⟨pre, hG, HJ.out⟩⟩
    · rw [List.concat_eq_append] at *
      have ho := HW.out.1
      rw [show (s ++ [e]).length = s.length + 1 by simp, evs_snoc] at ho
      obtain ⟨g, cap, hvg⟩ := ownsRow_succ' ho
      subst hvg
      have hmu := mu_eq HW.out
      have heo := HW.out.2 e (by simp)
      have hle2 := evs_len s
      have q0 : w1.cell? ⟨g, s.length * 2, none⟩ = some (.int .i64 (e.deep : Int)) := by
        rw [ho.cellAt _ (by omega), List.getElem?_append_right (by omega), hle2]
        simp [En.val]
      have q1 : w1.cell? ⟨g, s.length * 2 + 1, none⟩ = some (.slice e.av e.am e.ac) := by
        rw [ho.cellAt _ (by omega), List.getElem?_append_right (by omega), hle2]
        simp [En.val]
      have hpop := ownsRow_pop hle2 ho
      have hcap : s.length + 1 ≤ cap := by
        rcases ho.2 with ⟨h, _⟩ | ⟨g', cap', cur, h, _, _, hc, _⟩
        · cases h
        · simp at h; omega
      have hcm : cap ≤ maxLen := by
        rcases ho.2 with ⟨h, _⟩ | ⟨g', cap', cur, h, _, _, _, hc, _⟩
        · cases h
        · simp at h; omega
      unfold maxLen at hcm
      have hkm : s.length < 9223372036854775807 := by omega
      clear hle2
      have hea : e.am ≤ 1000000000 := by have := heo.1.len; have := e.tree.len_sz; have := heo.2.2.1; omega
      have HMU : Hid (mu n0 w0 W.heap.size D (.slice (some ⟨g, 0, none⟩) (s.length + 1) cap) w1 = ew s + 1 + tw e.tree) := by
        show _ = _
        rw [hmu, ew_snoc]
      have hEb : ew s + 1 + tw e.tree ≤ 1 + tw t := by have := HE.out; rwa [ew_snoc] at this
      obtain ⟨b4, hb4⟩ : ∃ b4, b4 = w1.heap.size := ⟨_, rfl⟩
      have hg4 : g < w1.heap.size := (ho.lt g rfl).2
      have hW2 : Wt n0 w0 W.heap.size D (.slice (some ⟨g, 0, none⟩) s.length cap) (w1.alloc (.cells #[.int .i64 (e.deep : Int), .slice e.av e.am e.ac] 176)) s := ⟨hpop.alloc _, fun x hx => HW.out.2 x (by simp [hx])⟩
      have hL2 := HL.out.alloc (.cells #[.int .i64 (e.deep : Int), .slice e.av e.am e.ac] 176) (by omega)
      have hJ2 := hJ _ _ (w1.alloc (.cells #[.int .i64 (e.deep : Int), .slice e.av e.am e.ac] 176)) HJ.out ((Below.refl _ _).alloc hzr _)
      have hA2 := allOf_pop HA.out
      have h42 := row_new w1 #[.int .i64 (e.deep : Int), .slice e.av e.am e.ac] 176
      clear hmu HW HL HJ HA HE hpop ho
      gi_wp2
      gi_loopw [3, 30] (fun lv iv w2 => ∃ (stk : List En) (pre : List Nd) (rest : Tr) (i : Nat), iv = .int .i64 i ∧ i ≤ e.am ∧ Hid (Wt n0 w0 W.heap.size D lv w2 stk) ∧ Hid (TAt (· < n0) w0 true rest e.av i e.am) ∧ Hid (Low n0 w0 w2) ∧ Hid (J pre w2) ∧ Hid (AllOf pre (fltn e.deep rest) stk t) ∧
          Hid (ew stk + tw rest = ew s + tw e.tree) ∧ Hid (w2.heap[w1.heap.size]? = some (.cells #[.int .i64 (e.deep : Int), .slice e.av e.am e.ac] 176 (0, 0))) ∧ Hid (lv.ownBlock ≠ some w1.heap.size) ∧ Hid (e.deep + rest.dep ≤ D) ∧ Hid (rest.sz ≤ 1000000000 ∧ rest.afs) ∧ W.heap.size ≤ w2.heap.size)
        (fun _ iv _ => e.am - (intOf iv).toNat)
      case atStart => exact ⟨s, pre, e.tree, 0, rfl, Nat.zero_le _, hW2, heo.1, hL2, hJ2, hA2, rfl, h42, by show Value.ownBlock _ ≠ _; simp [Value.ownBlock]; omega, heo.2.1, heo.2.2, by simp; omega⟩
      case round =>
        obtain ⟨stk2, pre2, rest2, i2, rfl, hi2, HW2, HT2, HL2, HJ2, HA2, HC2, H42, HN2, HD2, HS2, hz2'⟩ := hrel
        clear hW2 hL2 hJ2 hA2 h42
        cases rest2 with
        | e =>
          have hie : i2 = e.am := HT2.out
          subst hie
          gi_wp2
          go_roundw
          case rel => exact ⟨stk2, pre2, HW2, HL2, HJ2, HA2, by show ew stk2 ≤ 1 + tw t; have := HC2.out; simp [tw] at this; omega, hz2'⟩
          case measure =>
            rw [mu_eq HW2.out, HMU.out]
            have := HC2.out
            simp [tw] at this
            omega
        | n ln tn rn => have := HT2.out.1; simp at this
        | b x r =>
          obtain ⟨_, hlt2, ⟨bb, boff, bv, bm, bc, hav, hbp, hbc, hbx⟩, hrr⟩ := HT2.out
          have cb := HL2.out.cell hbp hbc
          rename World => w2
          have hfl : fltn e.deep (.b x r) = fltn e.deep x ++ fltn e.deep r := rfl
          have hdx : e.deep + x.dep ≤ D ∧ e.deep + r.dep ≤ D := by have := HD2.out; simp [Tr.dep] at this; omega
          have hsx : (x.sz ≤ 1000000000 ∧ x.afs) ∧ (r.sz ≤ 1000000000 ∧ r.afs) := by
            have h := HS2.out
            have h1 := h.1
            simp only [Tr.sz] at h1
            exact ⟨⟨by omega, h.2.1⟩, ⟨by omega, h.2.2⟩⟩
          have hbm : bm ≤ 1000000000 := by have := hbx.len; have := x.len_sz; have := hsx.1.1; omega
          have hC : ew stk2 + tw x + tw r = ew s + tw e.tree := by have := HC2.out; simp [tw] at this; omega
          have hA3 := HA2.out
          rw [hfl] at hA3
          have hW3 := HW2.out.alloc (.cells #[.slice bv bm bc] 145)
          have hL3 := HL2.out.alloc (.cells #[.slice bv bm bc] 145) (by omega)
          have hJ3 := hJ _ _ (w2.alloc (.cells #[.slice bv bm bc] 145)) HJ2.out ((Below.refl _ _).alloc hz2' _)
          have h43 := row_alloc H42.out (.cells #[.slice bv bm bc] 145)
          have hil : (i2 : Int) < (e.am : Int) := by omega
          obtain ⟨ed, et, eav, eam, eac⟩ := e
          dsimp only at *
          subst hav
          clear HT2 HW2 HL2 HJ2 HA2 HC2 H42 hfl
          gi_wp2
          gi_loopw [3, 37] (fun lv iv w3 => ∃ (stk : List En) (pre : List Nd) (rn : Tr) (k : Nat), iv = .int .i64 k ∧ k ≤ bm ∧ Hid (Wt n0 w0 W.heap.size D lv w3 stk) ∧ Hid (TAt (· < n0) w0 false rn bv k bm) ∧ Hid (Low n0 w0 w3) ∧ Hid (J pre w3) ∧ Hid (AllOf pre (fltn ed rn ++ fltn ed r) stk t) ∧
              Hid (ew stk + tw rn + tw r = ew s + tw et) ∧ Hid (w3.heap[w1.heap.size]? = some (.cells #[.int .i64 (ed : Int), .slice (some ⟨bb, boff, none⟩) eam eac] 176 (0, 0))) ∧ Hid (lv.ownBlock ≠ some w1.heap.size) ∧ Hid (ed + rn.dep ≤ D) ∧ Hid (rn.sz ≤ 1000000000 ∧ rn.afs) ∧ W.heap.size ≤ w3.heap.size)
            (fun _ iv _ => bm - (intOf iv).toNat)
          case atStart => exact ⟨stk2, pre2, x, 0, rfl, Nat.zero_le _, hW3, hbx, hL3, hJ3, hA3, hC, h43, HN2, hdx.1, hsx.1, by simp; omega⟩
          case round =>
            obtain ⟨stk3, pre3, rn3, k3, rfl, hk3, HW3, HT3, HL3, HJ3, HA3, HC3, H43, HN3, HD3, HS3, hz3⟩ := hrel
            clear hW3 hL3 hJ3 hA3 h43
            rename World => w3
            cases rn3 with
            | b _ _ => have := HT3.out.1; simp at this
            | e =>
              have hie : k3 = bm := HT3.out
              subst hie
              gi_wp2
              go_roundw
              case rel => exact ⟨stk3, pre3, r, i2 + 1, by go_num, by omega, HW3, hrr, HL3, HJ3, HA3, by show ew stk3 + tw r = _; have := HC3.out; simp [tw] at this; omega, H43, HN3, hdx.2, hsx.2, hz3⟩
              case measure => simp [intOf]; omega
            | n ln tn rn =>
              obtain ⟨_, hlt3, ⟨nb, noff, sv, sm, sc, nav, nam, nac, hbv, hnp, c0, c1, c2, c3, c4, c5, hss, htn⟩, hrn⟩ := HT3.out
              have d0 := HL3.out.cell hnp c0
              have d1 := HL3.out.cell hnp c1
              have d2 := HL3.out.cell hnp c2
              have d3 := HL3.out.cell hnp c3
              have d4 := HL3.out.cell hnp c4
              have d5 := HL3.out.cell hnp c5
              subst hbv
              have hkl : (k3 : Int) < (bm : Int) := by omega
              obtain ⟨o8, ho8⟩ : ∃ o8 : Obj, o8 = .cells #[.string ⟨ln.name.toArray⟩, .string ⟨ln.undo.toArray⟩, .slice sv sm sc, .bool ln.sub, .bool ln.vital, .slice nav nam nac] 148 := ⟨_, rfl⟩
              have hW4 := HW3.out.alloc o8
              have hL4 := HL3.out.alloc o8 (by omega)
              have hJ4 := hJ _ _ (w3.alloc o8) HJ3.out ((Below.refl _ _).alloc hz3 _)
              have h44 := row_alloc H43.out o8
              have e0 := (cell_row h44 0).trans rfl
              have hde : ed + (if ln.sub then tn.dep + 1 else 0) ≤ D ∧ ed + rn.dep ≤ D := by
                have h := HD3.out
                have l1 := Nat.le_max_left (if ln.sub then tn.dep + 1 else 0) rn.dep
                have l2 := Nat.le_max_right (if ln.sub then tn.dep + 1 else 0) rn.dep
                rw [show (Tr.n ln tn rn).dep = max (if ln.sub then tn.dep + 1 else 0) rn.dep from rfl] at h
                omega
              have hsz4 : (tn.sz ≤ 1000000000 ∧ tn.afs) ∧ (rn.sz ≤ 1000000000 ∧ rn.afs) := by
                have h := HS3.out
                have h1 := h.1
                simp only [Tr.sz] at h1
                exact ⟨⟨by omega, h.2.2.1⟩, ⟨by omega, h.2.2.2⟩⟩
              obtain ⟨fn, tmps, assign, body, hy, hR⟩ := hY pre3 ⟨ed, ln, tn, sv, sm, sc, nav, nam, nac⟩ (w3.alloc o8) hJ4 ⟨hss, htn, by show ed ≤ D; omega, HS3.out.2.1⟩ (by have := HA3.out.length_eq; simp [fltn] at this; omega)
              dsimp only [Nd.enc] at hy
              rw [ho8] at hy hR hW4 hL4 hJ4 h44 e0
              gi_wp2
              refine hR.mono ?_
              rintro e5 w5 (⟨rfl, hJ5, hk5⟩ | ⟨rfl, hJx5⟩)
              · have hA5 : AllOf (pre3 ++ [⟨ed, ln, tn, sv, sm, sc, nav, nam, nac⟩]) ((if ln.sub then fltn (ed + 1) tn else []) ++ (fltn ed rn ++ fltn ed r)) stk3 t := by
                  have h := HA3.out
                  have h2 := allOf_next (x := ⟨ed, ln, tn, sv, sm, sc, nav, nam, nac⟩) (m1 := (if ln.sub then fltn (ed + 1) tn else []) ++ fltn ed rn) (m2 := fltn ed r) h
                  rwa [List.append_assoc] at h2
                have hW5 := hW4.kept hk5
                have hL5 := hL4.kept hk5
                have hw1 : w1.heap.size < w3.heap.size := (Array.getElem?_eq_some_iff.1 H43.out).1
                have hz5 := hk5.size
                simp at hz5
                have h45 := (hk5.high w1.heap.size (by omega) (by simp; omega)).trans h44
                have h85 := (hk5.high w3.heap.size (by omega) (by simp)).trans (row_new w3 #[.string ⟨ln.name.toArray⟩, .string ⟨ln.undo.toArray⟩, .slice sv sm sc, .bool ln.sub, .bool ln.vital, .slice nav nam nac] 148)
                have s3 := (cell_row h85 3).trans rfl
                have s5 := (cell_row h85 5).trans rfl
                have e05 := (cell_row h45 0).trans rfl
                have hC5 : ew stk3 + ((if ln.sub then 1 + tw tn else 0) + tw rn) + tw r = ew s + tw et := HC3.out
                have hsl : stk3.length ≤ 1000000 := by have := ew_len stk3; omega
                clear hW4 hL4 hJ4 h44 hy hR HA3 HC3 HW3 HL3 HJ3 HT3 d0 d1 d2 d3 d4 d5 c0 c1 c2 c3 c4 c5 e0
                cases hsb : ln.sub with
                | true =>
                  rw [hsb] at hde hA5 hC5 s3
                  simp only [if_true] at hde hA5 hC5
                  gi_wp2_with (gi_at_builtin; refine wpListIn_append_own_at _ rfl _ _ 177 rfl W.heap.size 176 i0 _ 2 32 Tryz.underlying177 hi0 hz0 hz1 hz2 rfl (by decide) _ stk3.length (evs stk3) rfl (hW5.1.alloc _) ⟨w5.heap.size, 0, none⟩ 1 1 [.int .i64 ((ed : Int) + 1), .slice nav nam nac] rfl rfl (new_cells w5 [.int .i64 ((ed : Int) + 1), .slice nav nam nac] 176) (by simp [Value.oneCell']) (by unfold maxLen; omega) (by omega) (by simp; omega) ?_; intro v6 w6 ho6 hg6 _ hat6; obtain ⟨g6, cap6, rfl⟩ := ownsRow_succ' ho6)
                  have hob : ∀ q, u3.ownBlock = some q → W.heap.size ≤ q ∧ q < w5.heap.size := fun q hq => hW5.1.lt q hq
                  have hg6' : (w5.alloc (.cells #[.int .i64 ((ed : Int) + 1), .slice nav nam nac] 176)).grownBy w6 u3.ownBlock := hg6
                  have hat6' : (Value.slice (some ⟨g6, 0, none⟩) (stk3.length + 1) cap6).ownBlock = u3.ownBlock ∨ (Value.slice (some ⟨g6, 0, none⟩) (stk3.length + 1) cap6).ownBlock = some (w5.alloc (.cells #[.int .i64 ((ed : Int) + 1), .slice nav nam nac] 176)).heap.size := hat6
                  have hz6 : w5.heap.size ≤ w6.heap.size := by have := hg6'.size; simp at this; omega
                  have hbk : ∀ q, q < w5.heap.size → u3.ownBlock ≠ some q → w6.heap[q]? = w5.heap[q]? := fun q hq hn => by
                    rw [hg6'.block q (by simp; omega) (fun h => hn h.symm), Below.heap_alloc _ _ _ hq]
                  clear hg6 hat6
                  go_roundw
                  case rel =>
                    refine ⟨stk3 ++ [(⟨ed + 1, tn, nav, nam, nac⟩ : En)], pre3 ++ [(⟨ed, ln, tn, sv, sm, sc, nav, nam, nac⟩ : Nd)], rn, k3 + 1, by go_num, by omega, ?_, hrn, ?_, ?_, ?_, ?_, ?_, ?_, hde.2, hsz4.2, by omega⟩
                    · refine ⟨?_, fun y hy => ?_⟩
                      · rw [evs_snoc, show (stk3 ++ [(⟨ed + 1, tn, nav, nam, nac⟩ : En)]).length = stk3.length + 1 by simp]
                        exact ho6
                      · rcases List.mem_append.1 hy with hy | hy
                        · exact hW5.2 y hy
                        · simp at hy
                          subst hy
                          exact ⟨htn, by show ed + 1 + tn.dep ≤ D; omega, hsz4.1⟩
                    · exact fun q hq => (hbk q (by omega) (fun h => by have := (hob q h).1; omega)).trans (hL5 q hq)
                    · exact hJ _ _ _ hJ5 ⟨hg6'.os, hg6'.tape, hg6'.output, hz6, fun q hq => hbk q (by omega) (fun h => by have := (hob q h).1; omega)⟩
                    · exact allOf_push (e := ⟨ed + 1, tn, nav, nam, nac⟩) hA5
                    · show ew (stk3 ++ [(⟨ed + 1, tn, nav, nam, nac⟩ : En)]) + tw rn + tw r = _
                      rw [ew_snoc]
                      show ew stk3 + 1 + tw tn + tw rn + tw r = _
                      omega
                    · exact (hbk w1.heap.size (by omega) HN3.out).trans h45
                    · show Value.ownBlock _ ≠ _
                      rcases hat6' with h | h
                      · rw [h]; exact HN3.out
                      · rw [h]; simp; omega
                  case measure => simp [intOf]; omega
                | false =>
                  rw [hsb] at hde hA5 hC5 s3
                  simp only [Bool.false_eq_true, if_false, List.nil_append] at hde hA5 hC5
                  gi_wp2
                  go_roundw
                  case rel => exact ⟨stk3, pre3 ++ [(⟨ed, ln, tn, sv, sm, sc, nav, nam, nac⟩ : Nd)], rn, k3 + 1, by go_num, by omega, hW5, hrn, hL5, hJ5, hA5, by show _ = _; omega, h45, HN3, hde.2, hsz4.2, by omega⟩
                  case measure => simp [intOf]; omega
              · have hA5 : AllOf (pre3 ++ [⟨ed, ln, tn, sv, sm, sc, nav, nam, nac⟩]) ((if ln.sub then fltn (ed + 1) tn else []) ++ fltn ed rn ++ fltn ed r) stk3 t := allOf_next (x := ⟨ed, ln, tn, sv, sm, sc, nav, nam, nac⟩) (m1 := (if ln.sub then fltn (ed + 1) tn else []) ++ fltn ed rn) (m2 := fltn ed r) HA3.out
                gi_wp2
                refine bodyPost_ret (results_none rfl _ _ _) rfl ?_
                exact ⟨⟨_, rfl⟩, .inr ⟨_, ⟨_, hA5⟩, hJx5⟩⟩

end Go.Proofs.YtlegmmhacnbnlaaGreatDoor.Sx

