/- What is known of bytes in memory, and of texts (as in the layer of frames). -/
import Derived.Test.YtfemfekhpfkafaaDoorMa
import Derived.Test.YtfemfekhpfkafaaDoorRows
import Derived.BigQuiet
import Derived.Deep.QuietTactic
import Derived.Deep.RegionHeld
import Derived.Laws.AppendOwnNone
import Derived.Laws.BytesArg
import Derived.Laws.IdiomStrings
import Derived.Laws.MakeOwn
import Derived.Laws.Rows
import Derived.Lib.SliceRun
import Derived.WalkKit
import Derived.WalkLawsBesides
import Derived.WalkSpells
namespace Go.Proofs.YtfemfekhpfkafaaDoor

open Go.RowKit

set_option linter.unusedVariables false

/-- A slice of bytes that reads as a list. -/
def RB (w : World) (v : Value) (l : List UInt8) : Prop :=
  ∃ a cap, v = .slice a l.length cap ∧ l.length ≤ cap ∧ cap ≤ maxLen ∧ (a = none → cap = 0) ∧ ∀ i, i < l.length → ∃ b off, a = some ⟨b, off, none⟩ ∧ w.cell? ⟨b, off + i, none⟩ = some (.int .u8 ((l.getD i 0).toNat : Nat))

theorem size_list (s : ByteArray) : s.data.toList.length = s.size := by rw [Array.length_toList]; rfl

theorem Tryd.info5 : (Tryd.prog.info? 5).map (fun i => (i.zero, i.size, i.bytes)) = some (some (.int .u8 0), 1, 1) := by kernel_rfl

/-- Bytes as they lie in memory. -/
def bvs (l : List UInt8) : List Value := l.map fun b => Value.int .u8 (b.toNat : Int)

theorem bvs_append (a b : List UInt8) : bvs (a ++ b) = bvs a ++ bvs b := by simp [bvs]

theorem bvs_len (a : List UInt8) : (bvs a).length = a.length := by simp [bvs]

theorem below_drewN {B : Nat} {a w : World} (h : Below B a w) (n : Nat) : Below B a (w.drewN n) := h.trans ⟨rfl, rfl, rfl, Nat.le_refl _, fun _ _ => rfl⟩

theorem cell_later {w wx : World} (hb : Below w.heap.size w wx) {a : Addr} {v : Value} (h : w.cell? a = some v) : wx.cell? a = some v := by
  rw [hb.cell (World.block_lt_of_cell? w a h)]
  exact h

theorem RB.later {w wx : World} {v : Value} {l : List UInt8} (h : RB w v l) (hb : Below w.heap.size w wx) : RB wx v l := by
  obtain ⟨a, cap, hv, h1, h2, h3, hc⟩ := h
  refine ⟨a, cap, hv, h1, h2, h3, fun i hi => ?_⟩
  obtain ⟨b, off, ha, hcell⟩ := hc i hi
  exact ⟨b, off, ha, cell_later hb hcell⟩

theorem RB.of_owns {w : World} {B : Nat} {v : Value} {n : Nat} {l : List UInt8} (hown : w.ownsRow B 5 1 v n (bvs l)) (hn : n = l.length) : RB w v l := by
  subst hn
  rcases hown.2 with ⟨rfl, h0⟩ | ⟨g, cap, cur, rfl, _, _, h1, h2, _⟩
  · have h1 : l = [] := List.eq_nil_of_length_eq_zero h0
    subst h1
    exact ⟨none, 0, rfl, by simp, by unfold maxLen; omega, fun _ => rfl, by simp⟩
  · refine ⟨_, cap, rfl, h1, h2, (fun h => by cases h), fun i hi => ⟨g, 0, rfl, ?_⟩⟩
    have h := hown.cellAt i (by omega)
    rw [Nat.zero_add, h]
    simp [bvs, hi]

theorem RB.nil (w : World) : RB w (.slice none 0 0) [] := ⟨none, 0, rfl, by simp, by unfold maxLen; omega, fun _ => rfl, by simp⟩

/-- A part of a slice. -/
theorem RB.sub {w : World} {a : Option Addr} {len cap : Nat} {l : List UInt8} (h : RB w (.slice a len cap) l) (lo hi m : Nat) (h1 : lo ≤ hi) (h2 : hi ≤ l.length) (h3 : hi ≤ m) (h4 : m ≤ cap) :
    RB w (sliced a lo hi m 1) ((l.take hi).drop lo) := by
  obtain ⟨a', cap', he, g1, g2, g3, hc⟩ := h
  simp only [Value.slice.injEq] at he
  obtain ⟨rfl, rfl, rfl⟩ := he
  have hl : ((l.take hi).drop lo).length = hi - lo := by simp; omega
  unfold sliced
  by_cases hm : m = lo
  · rw [if_pos hm]
    refine ⟨a, m - lo, by rw [hl], by rw [hl]; omega, by omega, fun hn => by have := g3 hn; omega, fun i hi2 => ?_⟩
    rw [hl] at hi2
    omega
  · rw [if_neg hm]
    refine ⟨_, m - lo, by rw [hl], by rw [hl]; omega, by omega, fun hn => ?_, fun i hi2 => ?_⟩
    · cases a with
      | none => have := g3 rfl; omega
      | some a => simp at hn
    · rw [hl] at hi2
      obtain ⟨b, off, rfl, hcell⟩ := hc (lo + i) (by omega)
      refine ⟨b, off + lo, ?_, ?_⟩
      · simp [Go.WideShapes.add_plain]
      · rw [Nat.add_assoc, hcell]
        congr 3
        simp only [List.getD_eq_getElem?_getD, List.getElem?_drop, List.getElem?_take]
        rw [if_pos (by omega)]

theorem string_of_RB {w : World} {v : Value} {l : List UInt8} (h : RB w v l) : (convert 22 9 v).run Tryd.prog w = .ok (.string ⟨l.toArray⟩) w := by
  obtain ⟨a, cap, rfl, _, _, h3, hc⟩ := h
  cases a with
  | none =>
    have hl : l = [] := by
      cases l with
      | nil => rfl
      | cons y l =>
        obtain ⟨b, off, hb, _⟩ := hc 0 (by simp)
        cases hb
    subst hl
    exact run_convert_bytes_nil w 22 5 Tryd.underlying22 Tryd.underlying5 _ _ 9 Tryd.underlying9
  | some a =>
    refine run_convert_bytes_back w 22 9 5 _ cap l Tryd.underlying22 Tryd.underlying5 Tryd.underlying9 ?_
    intro j hj
    obtain ⟨b, off, hb, hcell⟩ := hc j hj
    simp only [Option.some.injEq] at hb
    subst hb
    rw [Go.WideShapes.add_plain, hcell]
    simp [hj]

theorem ret_agg {a b : Value} (h : a = b) : Ending.returned a = .returned b := by rw [h]

theorem bvs_get {l : List UInt8} {j : Nat} {u : Value} (h : (bvs l)[j]? = some u) : j < l.length ∧ u = .int .u8 ((l.getD j 0).toNat : Nat) := by
  have hj : j < l.length := by
    have := (List.getElem?_eq_some_iff.1 h).1
    simpa [bvs] using this
  refine ⟨hj, ?_⟩
  simp [bvs, hj] at h
  rw [← h]
  simp [hj]

theorem RB.cells {w : World} {x : Addr} {n cap : Nat} {l : List UInt8} (h : RB w (.slice (some x) n cap) l) : n = l.length ∧ ∀ j u, (bvs l)[j]? = some u → w.cell? (x.add j) = some u := by
  obtain ⟨a, ca, he, _, _, _, hc⟩ := h
  simp only [Value.slice.injEq] at he
  obtain ⟨rfl, rfl, rfl⟩ := he
  refine ⟨rfl, fun j u hj => ?_⟩
  obtain ⟨hj2, rfl⟩ := bvs_get hj
  obtain ⟨b, off, hb, hcell⟩ := hc j hj2
  simp only [Option.some.injEq] at hb
  subst hb
  rw [Go.WideShapes.add_plain, hcell]

theorem bvs_one {l : List UInt8} : ∀ u ∈ bvs l, u.oneCell' = true := by
  intro u hu
  obtain ⟨x, _, rfl⟩ := List.mem_map.1 hu
  rfl

/-- Bytes of the call's own, in a block of their own. -/
def OB (B : Nat) (w : World) (g n cap : Nat) (bs : List UInt8) : Prop := w.ownsRow B 5 1 (.slice (some ⟨g, 0, none⟩) n cap) n (bvs bs)

theorem OB.rb {B : Nat} {w : World} {g n cap : Nat} {bs : List UInt8} (h : OB B w g n cap bs) : n = bs.length ∧ RB w (.slice (some ⟨g, 0, none⟩) n cap) bs := by
  have h0 : n = bs.length := by have := h.1; rw [bvs_len] at this; omega
  exact ⟨h0, RB.of_owns h h0⟩

theorem OB.lt {B : Nat} {w : World} {g n cap : Nat} {bs : List UInt8} (h : OB B w g n cap bs) : B ≤ g ∧ g < w.heap.size := World.ownsRow.lt h g rfl

theorem OB.later {B : Nat} {w w' : World} {g n cap : Nat} {bs : List UInt8} (h : OB B w g n cap bs) (hb : Below w.heap.size w w') : OB B w' g n cap bs := by
  refine ⟨h.1, ?_⟩
  rcases h.2 with hn | ⟨g', cap', cur, e1, e2, e3, rest⟩
  · exact .inl hn
  · refine .inr ⟨g', cap', cur, e1, e2, ?_, rest⟩
    rw [hb.block g' (Array.getElem?_eq_some_iff.1 e3).1]
    exact e3

theorem OB.below {B : Nat} {w w' : World} {g n cap : Nat} {bs : List UInt8} (h : OB B w g n cap bs) (hB : B ≤ w.heap.size) (hg : w.grownBy w' (some g)) : Below B w w' :=
  Below.grown (Below.refl _ _) hg hB (fun k hk => by cases hk; exact h.lt.1)

theorem append_bytes {w : World} {ops : Array Oper} {rest : List Oper} {o : Oper} {a : Act} {Q : Exit → Act → World → Prop} (hgd : o.guard = none) (s x : Operand)
    (ho : o.op = .call { callee := .builtin .append, args := #[s, x], argTypes := #[22, 22] }) (base g n cap : Nat) (bs : List UInt8)
    (hs : a.eval s = .slice (some ⟨g, 0, none⟩) n cap) (hown : OB base w g n cap bs) (xv : Value) (l : List UInt8) (hx : a.eval x = xv) (hr : RB w xv l)
    (hn : n ≤ 10000000) (hl : l.length ≤ 1000000) (hbase : base ≤ w.heap.size) (n2 : Nat) (bs2 : List UInt8) (hn2 : n2 = n + l.length) (hbs2 : bs2 = bs ++ l)
    (h : ∀ g' cap' w', OB base w' g' n2 cap' bs2 → w.grownBy w' (some g) → wpList Tryd.prog ops Q rest (a.put o.dst (.slice (some ⟨g', 0, none⟩) n2 cap')) w') : wpList Tryd.prog ops Q (o :: rest) a w := by
  subst hn2 hbs2
  obtain ⟨i0, hi, hz0, hz1, hz2⟩ := info_parts Tryd.info5
  have hr2 := hr
  obtain ⟨ad, cp, rfl, _, _, hnone, hc⟩ := hr
  cases ad with
  | none =>
    have h0 := hnone rfl
    subst h0
    have hl0 : l = [] := by
      cases l with
      | nil => rfl
      | cons y l =>
        obtain ⟨b, off, hb, _⟩ := hc 0 (by simp)
        cases hb
    subst hl0
    refine wpList_append_own_none hgd s x 22 ho base 5 i0 1 Tryd.underlying22 hi _ n _ hs hown hx ?_
    have := h g cap w (by rw [List.append_nil]; exact hown) ⟨rfl, rfl, rfl, Nat.le_refl _, fun _ _ _ => rfl⟩
    simpa using this
  | some ad =>
    refine wpList_append_own _ hgd s x 22 ho base 5 i0 (.int .u8 0) 1 1 Tryd.underlying22 hi hz0 hz1 hz2 rfl (by decide) _ n _ hs hown ad l.length cp (bvs l) hx (by rw [bvs_len]; omega) hr2.cells.2 bvs_one (by unfold maxLen; omega) (by omega) hbase ?_
    intro v' w' h1 h2 h3
    rcases h1.2 with ⟨rfl, h5⟩ | ⟨g', cap', cur, rfl, hrest⟩
    · have h6 := h3.1 rfl
      simp at h6
    · exact h g' cap' w' (by unfold OB; rw [bvs_append]; exact h1) h2

/-- A slice of no bytes, made anew. -/
theorem OB.made (w : World) (cap : Nat) (cur : Array Value) (hm : cap ≤ maxLen) (hs : cur.size = cap) : OB w.heap.size (w.alloc (.cells cur 5)) w.heap.size 0 cap [] :=
  World.ownsRow_made w cur cap (Nat.le_refl _) hm (by rw [hs, Nat.mul_one])

/-- Bytes that lie in a block made anew. -/
theorem RB.new (w : World) (l : List UInt8) (cs : Array Value) (t : TypeId) (h : cs.toList = bvs l) (hl : l.length ≤ 1000000) : RB (w.alloc (.cells cs t)) (.slice (some ⟨w.heap.size, 0, none⟩) l.length l.length) l := by
  refine ⟨_, _, rfl, Nat.le_refl _, by unfold maxLen; omega, (fun h => by cases h), fun i hi => ⟨_, _, rfl, ?_⟩⟩
  rw [Nat.zero_add, cell_of_row _ _ _ cs t (0, 0) (heap_alloc_new _ _), ← Array.getElem?_toList, h]
  simp [bvs, hi]

theorem OB.cap {B : Nat} {w : World} {g n cap : Nat} {bs : List UInt8} (h : OB B w g n cap bs) : n ≤ cap ∧ cap ≤ maxLen := by
  obtain ⟨a', cap', he, g1, g2, _⟩ := h.rb.2
  simp only [Value.slice.injEq] at he
  obtain ⟨rfl, e1, rfl⟩ := he
  exact ⟨by omega, g2⟩

theorem OB.sub {B : Nat} {w : World} {g n cap : Nat} {bs : List UInt8} (h : OB B w g n cap bs) (lo : Nat) (h1 : lo ≤ n) (h2 : ¬ cap = lo) : RB w (.slice (some ⟨g, lo, none⟩) (n - lo) (cap - lo)) (bs.drop lo) := by
  have hr := h.rb
  have := hr.2.sub lo n cap h1 (by omega) h.cap.1 (Nat.le_refl _)
  unfold sliced at this
  rw [if_neg h2, Option.map_some, Go.WideShapes.add_plain, Nat.mul_one, Nat.zero_add, hr.1, List.take_length] at this
  rw [hr.1]
  exact this

theorem slice_from {w : World} {a : Option Addr} {n ca : Nat} {l : List UInt8} (h : RB w (.slice a n ca) l) (p : Nat) (hp : p ≤ l.length) :
    ∃ V, RB w V (l.drop p) ∧ ∀ wx : World, (Instr.sliceAt 22 (.slice a n ca) (some (.int .i64 p)) none none).run Tryd.prog wx = .ok V wx := by
  have h0 := h
  obtain ⟨a', ca', he, h1, _, _⟩ := h0
  simp only [Value.slice.injEq] at he
  obtain ⟨rfl, rfl, rfl⟩ := he
  have hs := h.sub p l.length ca hp (Nat.le_refl _) h1 (Nat.le_refl _)
  rw [List.take_length] at hs
  refine ⟨_, hs, fun wx => ?_⟩
  rw [run_sliceAt_slice wx 22 _ _ _ _ Tryd.underlying22, run_slice_l wx 22 a l.length ca Tryd.underlying22 .i64 p (by omega) (by omega)]
  have : (sizeOf (Tryd.prog.elem 22)).run Tryd.prog wx = .ok 1 wx := by kernel_rfl
  rw [this]
  simp

theorem slice_to {w : World} {a : Option Addr} {n ca : Nat} {l : List UInt8} (h : RB w (.slice a n ca) l) (hi : Nat) (h2 : hi ≤ l.length) (e : Int) (he : e = hi) :
    ∃ V, RB w V (l.take hi) ∧ ∀ wx : World, (Instr.sliceAt 22 (.slice a n ca) none (some (.int .i64 e)) none).run Tryd.prog wx = .ok V wx := by
  subst he
  have h0 := h
  obtain ⟨a', ca', he, h3, _, _⟩ := h0
  simp only [Value.slice.injEq] at he
  obtain ⟨rfl, rfl, rfl⟩ := he
  have hs := h.sub 0 hi ca (by omega) h2 (by omega) (Nat.le_refl _)
  rw [List.drop_zero] at hs
  refine ⟨_, hs, fun wx => ?_⟩
  rw [run_sliceAt_slice wx 22 _ _ _ _ Tryd.underlying22, run_slice_h wx 22 a l.length ca Tryd.underlying22 .i64 hi (by omega) (by omega)]
  have : (sizeOf (Tryd.prog.elem 22)).run Tryd.prog wx = .ok 1 wx := by kernel_rfl
  rw [this]
  simp

theorem owns_low {w : World} {B B' : Nat} {e : TypeId} {size : Nat} {v : Value} {n : Nat} {xs : List Value} (h : w.ownsRow B e size v n xs) (hB : B' ≤ B) : w.ownsRow B' e size v n xs := by
  obtain ⟨h1, h2⟩ := h
  refine ⟨h1, ?_⟩
  rcases h2 with h2 | ⟨g, cap, cur, a, b, c⟩
  · exact .inl h2
  · exact .inr ⟨g, cap, cur, a, by omega, c⟩

theorem bcat (a b : List UInt8) : (⟨a.toArray⟩ : ByteArray) ++ ⟨b.toArray⟩ = ⟨(a ++ b).toArray⟩ := by
  apply ByteArray.ext
  rw [ByteArray.data_append]
  simp

theorem bsize (a : List UInt8) : (⟨a.toArray⟩ : ByteArray).size = a.length := by simp [ByteArray.size]

theorem bext (l : List UInt8) (i j : Nat) : (⟨l.toArray⟩ : ByteArray).extract i j = ⟨((l.take j).drop i).toArray⟩ := by
  apply ByteArray.ext
  simp [ByteArray.data_extract, List.extract_toArray, List.extract_eq_take_drop, List.drop_take]

theorem str_from (l : List UInt8) (p : Nat) (hp : p ≤ l.length) (wx : World) : (Instr.sliceAt 9 (.string ⟨l.toArray⟩) (some (.int .i64 p)) none none).run Tryd.prog wx = .ok (.string ⟨(l.drop p).toArray⟩) wx := by
  rw [run_sliceAt_string wx 9 _ _ _ _ Tryd.underlying9, run_slice_string_l wx 9 _ Tryd.underlying9 .i64 p (by omega) (by rw [bsize]; omega), bext, bsize, List.take_length, Int.toNat_natCast]

theorem str_to (l : List UInt8) (p : Nat) (e : Int) (he : e = p) (hp : p ≤ l.length) (wx : World) : (Instr.sliceAt 9 (.string ⟨l.toArray⟩) none (some (.int .i64 e)) none).run Tryd.prog wx = .ok (.string ⟨(l.take p).toArray⟩) wx := by
  subst he
  rw [run_sliceAt_string wx 9 _ _ _ _ Tryd.underlying9, run_slice_string_h wx 9 _ Tryd.underlying9 .i64 p (by omega) (by rw [bsize]; omega), bext, List.drop_zero, Int.toNat_natCast]

theorem str_mid (l : List UInt8) (i p : Nat) (e0 e : Int) (he0 : e0 = i) (he : e = p) (hi : i ≤ p) (hp : p ≤ l.length) (wx : World) : (Instr.sliceAt 9 (.string ⟨l.toArray⟩) (some (.int .i64 e0)) (some (.int .i64 e)) none).run Tryd.prog wx = .ok (.string ⟨((l.take p).drop i).toArray⟩) wx := by
  subst he he0
  rw [run_sliceAt_string wx 9 _ _ _ _ Tryd.underlying9, run_slice_string wx 9 _ .i64 .i64 i p Tryd.underlying9 (by omega) (by omega) (by rw [bsize]; omega), bext, Int.toNat_natCast, Int.toNat_natCast]

theorem str_at (l : List UInt8) (i : Nat) (e : Int) (he : e = i) (hi : i < l.length) (wx : World) : (Instr.index 9 (.string ⟨l.toArray⟩) (.int .i64 e)).run Tryd.prog wx = .ok (.int .u8 ((l.getD i 0).toNat : Nat)) wx := by
  subst he
  rw [run_index_string wx 9 _ .i64 i Tryd.underlying9, dif_pos ⟨by omega, by rw [bsize]; omega⟩]
  congr 3
  show ((l.toArray)[(i : Int).toNat]'_).toNat = _
  simp [hi]

theorem ret_b {a b : Bool} (h : a = b) : Ending.returned (.bool a) = .returned (.bool b) := by rw [h]

theorem OB.cell {B : Nat} {w : World} {g n cap : Nat} {bs : List UInt8} (h : OB B w g n cap bs) (j : Nat) (hj : j < n) : w.cell? ⟨g, j, none⟩ = some (.int .u8 ((bs.getD j 0).toNat : Nat)) := by
  have h0 := h.rb.1
  rw [World.ownsRow.cellAt h j (by omega)]
  have hj2 : j < bs.length := by omega
  simp [bvs, hj2]

end Go.Proofs.YtfemfekhpfkafaaDoor
