/- Texts of the seat, packed: Zc Zd. -/
import Derived.Test.YteghapmlnkhepaaDoorP01
import Derived.Test.YteghapmlnkhepaaDoorP13
import Derived.Test.YteghapmlnkhepaaDoorChecked
import Derived.Test.YteghapmlnkhepaaDoorP08
import Derived.LoopIn
import Derived.LoopNIn
import Derived.OwnWalkIn
import Derived.Shelf.Abstract
import Derived.Shelf.RegionOpen
import Derived.TacticsInMore
import Derived.WalkKit
/- The nodes of a saga by their numbers, as they lie in memory; marks of ranges over functions. -/
namespace Go.Proofs.YteghapmlnkhepaaDoor

open Go.RowKit Go.Proofs.YteghapmlnkhepaaDoor.Sx

/-- How many nodes there are, those within others, too. -/
def cntA : Tr → Nat
  | .e => 0
  | .b x r => cntA x + cntA r
  | .n _ t r => 1 + cntA t + cntA r

/-- All parts. -/
def szA : Tr → Nat
  | .e => 0
  | .b x r => 1 + szA x + szA r
  | .n _ t r => 1 + szA t + szA r

/-- A node, its number, its body; where what it has lies. -/
structure Pd where
  num : Nat
  lab : Lab
  alts : Tr
  sv : Option Addr
  sm : Nat
  sc : Nat
  av : Option Addr
  am : Nat
  ac : Nat
  inn : Nat
  alt : Nat

def Pd.node (x : Pd) : List Value := [.string ⟨x.lab.name.toArray⟩, .string ⟨x.lab.undo.toArray⟩, .slice x.sv x.sm x.sc, .bool x.lab.sub, .bool x.lab.vital, .slice x.av x.am x.ac]

def Pd.enc (x : Pd) : Array Value := #[.int .i64 (x.num : Int), .agg #[.string ⟨x.lab.name.toArray⟩, .string ⟨x.lab.undo.toArray⟩, .slice x.sv x.sm x.sc, .bool x.lab.sub, .bool x.lab.vital, .slice x.av x.am x.ac, .int .i64 (x.inn : Int), .int .i64 (x.alt : Int)]]

/-- Bodies (true), or nodes (false), as they lie in a slice, and their nodes by numbers. -/
def XAt (P : Nat → Prop) (w : World) : Bool → Tr → Option Addr → Nat → Nat → Nat → Nat → Nat → List Pd → Prop
  | _, .e, _, i, n, _, _, _, xs => i = n ∧ xs = []
  | k, .b x r, a, i, n, inn, alt, last, xs => k = true ∧ i < n ∧ ∃ ys zs, xs = ys ++ zs ∧ (∃ b off v m c, a = some ⟨b, off, none⟩ ∧ P b ∧ w.cell? ⟨b, off + i, none⟩ = some (.slice v m c) ∧ XAt P w false x v 0 m inn alt last ys) ∧ XAt P w true r a (i + 1) n inn (alt + 1) (last + cntA x) zs
  | k, .n l t r, a, i, n, inn, alt, last, xs => k = false ∧ i < n ∧ ∃ sv sm sc av am ac ys zs, xs = ⟨last + 1, l, t, sv, sm, sc, av, am, ac, inn, alt⟩ :: (ys ++ zs) ∧
      (∃ b off, a = some ⟨b, off, none⟩ ∧ P b ∧ w.cell? ⟨b, off + i * 6, none⟩ = some (Value.string ⟨l.name.toArray⟩) ∧ w.cell? ⟨b, off + i * 6 + 1, none⟩ = some (Value.string ⟨l.undo.toArray⟩) ∧
      w.cell? ⟨b, off + i * 6 + 2, none⟩ = some (.slice sv sm sc) ∧ w.cell? ⟨b, off + i * 6 + 3, none⟩ = some (.bool l.sub) ∧ w.cell? ⟨b, off + i * 6 + 4, none⟩ = some (.bool l.vital) ∧ w.cell? ⟨b, off + i * 6 + 5, none⟩ = some (.slice av am ac)) ∧
      SAt P w l.after sv sm ∧ TAt P w true t av 0 am ∧ XAt P w true t av 0 am (last + 1) 0 (last + 1) ys ∧ XAt P w false r a (i + 1) n inn alt (last + 1 + cntA t) zs

theorem TAt.xat {P : Nat → Prop} {w : World} (t : Tr) : ∀ (k : Bool) (a : Option Addr) (i n inn alt last : Nat), TAt P w k t a i n → ∃ xs, XAt P w k t a i n inn alt last xs := by
  induction t with
  | e => intro k a i n inn alt last h; exact ⟨[], h, rfl⟩
  | b x r ih1 ih2 =>
    rintro k a i n inn alt last ⟨h0, h1, ⟨b, off, v, m, c, ha, hp, hc, hx⟩, hr⟩
    obtain ⟨ys, hy⟩ := ih1 _ _ _ _ inn alt last hx
    obtain ⟨zs, hz⟩ := ih2 _ _ _ _ inn (alt + 1) (last + cntA x) hr
    exact ⟨ys ++ zs, h0, h1, ys, zs, rfl, ⟨b, off, v, m, c, ha, hp, hc, hy⟩, hz⟩
  | n l t r ih1 ih2 =>
    rintro k a i n inn alt last ⟨h0, h1, ⟨b, off, sv, sm, sc, av, am, ac, ha, hp, c0, c1, c2, c3, c4, c5, hs, ht⟩, hr⟩
    obtain ⟨ys, hy⟩ := ih1 _ _ _ _ (last + 1) 0 (last + 1) ht
    obtain ⟨zs, hz⟩ := ih2 _ _ _ _ inn alt (last + 1 + cntA t) hr
    exact ⟨_, h0, h1, sv, sm, sc, av, am, ac, ys, zs, rfl, ⟨b, off, ha, hp, c0, c1, c2, c3, c4, c5⟩, hs, ht, hy, hz⟩

theorem XAt.count {P : Nat → Prop} {w : World} (t : Tr) : ∀ (k : Bool) (a : Option Addr) (i n inn alt last : Nat) (xs : List Pd), XAt P w k t a i n inn alt last xs → xs.length = cntA t ∧ n = i + t.len ∧ ∀ (j : Nat) (x : Pd), xs[j]? = some x → x.num = last + 1 + j := by
  induction t with
  | e => rintro k a i n inn alt last xs ⟨h, rfl⟩; exact ⟨rfl, by simp [Tr.len]; omega, by simp⟩
  | b x r ih1 ih2 =>
    rintro k a i n inn alt last xs ⟨_, _, ys, zs, rfl, ⟨b, off, v, m, c, _, _, _, hx⟩, hr⟩
    obtain ⟨l1, _, n1⟩ := ih1 _ _ _ _ _ _ _ _ hx
    obtain ⟨l2, e2, n2⟩ := ih2 _ _ _ _ _ _ _ _ hr
    refine ⟨by simp [cntA, l1, l2], by simp only [Tr.len]; omega, fun j y hj => ?_⟩
    by_cases hjl : j < ys.length
    · rw [List.getElem?_append_left hjl] at hj
      exact n1 j y hj
    · rw [List.getElem?_append_right (by omega)] at hj
      have := n2 _ y hj
      omega
  | n l t r ih1 ih2 =>
    rintro k a i n inn alt last xs ⟨_, _, sv, sm, sc, av, am, ac, ys, zs, rfl, _, _, _, hx, hr⟩
    obtain ⟨l1, _, n1⟩ := ih1 _ _ _ _ _ _ _ _ hx
    obtain ⟨l2, e2, n2⟩ := ih2 _ _ _ _ _ _ _ _ hr
    refine ⟨by simp [cntA, l1, l2]; omega, by simp only [Tr.len]; omega, fun j y hj => ?_⟩
    cases j with
    | zero => simp at hj; subst hj; rfl
    | succ j =>
      rw [List.getElem?_cons_succ] at hj
      by_cases hjl : j < ys.length
      · rw [List.getElem?_append_left hjl] at hj
        have := n1 j y hj
        omega
      · rw [List.getElem?_append_right (by omega)] at hj
        have := n2 _ y hj
        omega

def mark (D : Nat) : Deferred := { target := .collected D, args := #[] }

/-- The marks of the ranges that were gone through: each block is the iterator's own, and holds no call. -/
def Marks (T : Nat → Prop) (w : World) (Ds : List Nat) : Prop := Ds.Nodup ∧ ∀ D ∈ Ds, T D ∧ w.heap[D]? = some (.deferred (some []))

theorem Marks.nil (T : Nat → Prop) (w : World) : Marks T w [] := ⟨by simp, by simp⟩

theorem Marks.mono {T T' : Nat → Prop} {w w' : World} {Ds : List Nat} (h : Marks T w Ds) (hT : ∀ D, T D → T' D) (hk : ∀ D, T D → w.heap[D]? = some (.deferred (some [])) → w'.heap[D]? = some (.deferred (some []))) : Marks T' w' Ds :=
  ⟨h.1, fun D hD => ⟨hT D (h.2 D hD).1, hk D (h.2 D hD).1 (h.2 D hD).2⟩⟩

theorem Marks.cons {T : Nat → Prop} {w : World} {Ds : List Nat} {D : Nat} (h : Marks T w Ds) (hT : T D) (hD : w.heap[D]? = some (.deferred (some []))) (hn : D ∉ Ds) : Marks T w (D :: Ds) :=
  ⟨List.nodup_cons.2 ⟨hn, h.1⟩, fun X hX => by
    rcases List.mem_cons.1 hX with rfl | hX
    · exact ⟨hT, hD⟩
    · exact h.2 X hX⟩

theorem leaves_marks {P : Program} {fn : Func} {tmps : Array Value} {R : Ending → World → Prop} {u : FrameMode} (hu : u ≠ .run) {T : Nat → Prop} (K : World → Prop) (hK : ∀ A D, T D → K A → K (A.putObj D (.deferred none)))
    (hend : ∀ A, K A → LeavesIn Fence.wide 0 P fn tmps R [] u A) : ∀ (Ds : List Nat) (w : World), Marks T w Ds → K w → LeavesInM Fence.wide 0 P fn tmps R (Ds.map mark) u w := by
  intro Ds
  induction Ds with
  | nil => intro w _ hk; exact hend w hk
  | cons D Ds ih =>
    intro w hm hk
    obtain ⟨hT, hD⟩ := hm.2 D (by simp)
    refine ⟨hu, .inl ⟨D, _, rfl, run_takeDeferred hD, ?_⟩⟩
    have hn := List.nodup_cons.1 hm.1
    refine ih _ ⟨hn.2, fun X hX => ?_⟩ (hK _ _ hT hk)
    obtain ⟨h1, h2⟩ := hm.2 X (by simp [hX])
    exact ⟨h1, (World.putObj_heap_other (fun (e : X = D) => hn.1 (e ▸ hX))).trans h2⟩

end Go.Proofs.YteghapmlnkhepaaDoor

/- The program's iterator over the nodes of an item's bodies. -/
namespace Go.Proofs.YteghapmlnkhepaaDoor

open Go.RowKit Go.Shelf Go.Proofs.YteghapmlnkhepaaDoor.Sx

attribute [local go_sem] Oper.semAt_some

theorem wpE_of_wp {P : Program} {f : FuncId} {c : Code} {Q : Exit → Act → World → Prop} {a : Act} {w : World} (h : c.wp P Q a w) : wpE P none f c Q a w :=
  wpE_of (n := 0) ((wpIn_wide (n := 0)).2 h)

theorem wpE_seq_wp {P : Program} {f : FuncId} {x y : Code} {Q : Exit → Act → World → Prop} {a : Act} {w : World} (h : ∀ K : Act → World → Prop, (∀ a w, wpE P none f y Q a w → K a w) → x.wp P (Exit.then K Q) a w) : wpE P none f (Code.seq x y) Q a w :=
  wpE_seq (wpE_of_wp (h _ fun _ _ h => h))

/-- What is known of the iterator and of its caller between two steps. -/
structure NSt (n0 : Nat) (w0 : World) (bi bb bq bl l inn am ac : Nat) (a : Option Addr) (J : Nat → World → (Nat → Prop) → Prop) (W0 : World) (T0 : Nat → Prop) (last k : Nat) (T : Nat → Prop) (Wr : World) (Ds : List Nat) : Prop where
  j : J k Wr T
  low : ∀ b, b < n0 → Wr.heap[b]? = w0.heap[b]?
  le : n0 ≤ Wr.heap.size
  own : ∀ b, T b → n0 ≤ b ∧ b < Wr.heap.size
  hbi : Wr.heap[bi]? = some (.cells #[.int .i64 (inn : Int)] 3 (0, 0))
  hbb : Wr.heap[bb]? = some (.cells #[.slice a am ac] 22 (0, 0))
  hbq : Wr.heap[bq]? = some (.cells #[.func (.yield l) #[] #[]] 106 (0, 0))
  hbl : Wr.heap[bl]? = some (.cells #[.int .i64 (last : Int)] 3 (0, 0))
  ti : T bi
  tb : T bb
  tq : T bq
  tl : T bl
  ni : bl ≠ bi
  nb : bl ≠ bb
  nq : bl ≠ bq
  mks : Marks T Wr Ds
  old : ∀ b, b < W0.heap.size → (T b ↔ T0 b)
  sz : W0.heap.size ≤ Wr.heap.size

section

variable {n0 : Nat} {w0 : World} {bi bb bq bl l inn am ac : Nat} {a : Option Addr} {J : Nat → World → (Nat → Prop) → Prop} {W0 : World} {T0 : Nat → Prop} {last k : Nat} {T : Nat → Prop} {Wr : World} {Ds : List Nat}

theorem NSt.alloc (h : NSt n0 w0 bi bb bq bl l inn am ac a J W0 T0 last k T Wr Ds) (hJ : ∀ k A TA B TB, J k A TA → Mv TA A TB B → J k B TB) (o : Obj) : NSt n0 w0 bi bb bq bl l inn am ac a J W0 T0 last k (fun b => T b ∨ b = Wr.heap.size) (Wr.alloc o) Ds := by
  have al : ∀ {b x}, Wr.heap[b]? = some x → (Wr.alloc o).heap[b]? = some x := fun hx => (Below.heap_alloc _ _ _ (Array.getElem?_eq_some_iff.1 hx).1).trans hx
  refine ⟨hJ _ _ _ _ _ h.j (Mv.alloc _ _ _), fun b hb => (Below.heap_alloc _ _ _ (by have := h.le; omega)).trans (h.low b hb), by have := h.le; simp; omega, fun b hb => ?_, al h.hbi, al h.hbb, al h.hbq, al h.hbl, .inl h.ti, .inl h.tb, .inl h.tq, .inl h.tl, h.ni, h.nb, h.nq, h.mks.mono (fun _ => .inl) (fun D _ hD => al hD), fun b hb => ?_, by have := h.sz; simp; omega⟩
  · rcases hb with hb | rfl
    · have := h.own b hb; simp; omega
    · have := h.le; simp; omega
  · have := h.sz
    exact ⟨fun hx => (h.old b hb).1 (hx.resolve_right (by omega)), fun hx => .inl ((h.old b hb).2 hx)⟩

theorem NSt.step (h : NSt n0 w0 bi bb bq bl l inn am ac a J W0 T0 last k T Wr Ds) (hJ : ∀ k A TA B TB, J k A TA → Mv TA A TB B → J k B TB) (z : Nat) : NSt n0 w0 bi bb bq bl l inn am ac a J W0 T0 z k T (Wr.setCell ⟨bl, 0, none⟩ (.int .i64 (z : Int))) Ds := by
  have ne : ∀ {b}, b ≠ bl → (Wr.setCell ⟨bl, 0, none⟩ (.int .i64 (z : Int))).heap[b]? = Wr.heap[b]? := fun hb => Below.heap_setCell Wr ⟨bl, 0, none⟩ _ _ hb
  have hlow := (h.own bl h.tl).1
  refine ⟨hJ _ _ _ _ _ h.j (Mv.setCell _ _ h.tl), fun b hb => (ne (by omega)).trans (h.low b hb), by simpa using h.le, fun b hb => by simpa using h.own b hb, (ne (Ne.symm h.ni)).trans h.hbi, (ne (Ne.symm h.nb)).trans h.hbb, (ne (Ne.symm h.nq)).trans h.hbq, Dg.row_set h.hbl 0 _, h.ti, h.tb, h.tq, h.tl, h.ni, h.nb, h.nq, h.mks.mono (fun _ => id) (fun D _ hD => (ne ?_).trans hD), h.old, by simpa using h.sz⟩
  intro e
  rw [e, h.hbl] at hD
  cases hD

theorem NSt.round (h : NSt n0 w0 bi bb bq bl l inn am ac a J W0 T0 last k T Wr Ds) {W' : World} {k' : Nat} (hj : J k' W' T) (hr : Rv n0 T Wr W') : NSt n0 w0 bi bb bq bl l inn am ac a J W0 T0 last k' T W' Ds := by
  have kp : ∀ {b x}, T b → Wr.heap[b]? = some x → W'.heap[b]? = some x := fun hb hx => (hr.keep _ hb (Array.getElem?_eq_some_iff.1 hx).1).trans hx
  exact ⟨hj, fun b hb => (hr.low b hb).trans (h.low b hb), Nat.le_trans h.le hr.size, fun b hb => ⟨(h.own b hb).1, Nat.lt_of_lt_of_le (h.own b hb).2 hr.size⟩, kp h.ti h.hbi, kp h.tb h.hbb, kp h.tq h.hbq, kp h.tl h.hbl, h.ti, h.tb, h.tq, h.tl, h.ni, h.nb, h.nq, h.mks.mono (fun _ => id) (fun D hT hD => kp hT hD), h.old, Nat.le_trans h.sz hr.size⟩

theorem NSt.cell (h : NSt n0 w0 bi bb bq bl l inn am ac a J W0 T0 last k T Wr Ds) {b i : Nat} {v : Value} (hb : b < n0) (hc : w0.cell? ⟨b, i, none⟩ = some v) : Wr.cell? ⟨b, i, none⟩ = some v :=
  (World.cell?_of_block (a := ⟨b, i, none⟩) (h.low b hb)).trans hc

end

end Go.Proofs.YteghapmlnkhepaaDoor

