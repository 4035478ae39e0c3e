/- Texts of the seat, packed: JWa JWe JWi JSi JKz. -/
import Derived.Test.YtlegmmhacnbnlaaGreatDoorRows
import Derived.BigQuiet
import Derived.Deep.QuietTactic
import Derived.Deep.RegionHeld
import Derived.Laws.AppendOwnNone
import Derived.Laws.BytesArg
import Derived.Laws.IdiomStrings
import Derived.Laws.MakeOwn
import Derived.Laws.Rows
import Derived.Lib.SliceRun
import Derived.WalkKit
import Derived.WalkLawsBesides
import Derived.WalkSpells
import Derived.Test.YtlegmmhacnbnlaaGreatDoorChecked
import Derived.Deep.RegionHeldLaw
import Derived.OwnWalkIn
import Derived.TacticsInMore
/- What is known of bytes in memory, and of texts (as in the layer of frames). -/
namespace Go.Proofs.YtlegmmhacnbnlaaGreatDoor.J

set_option maxRecDepth 1000000

open Go.RowKit

set_option linter.unusedVariables false

theorem ret_i {k : IntKind} {a b : Int} (h : a = b) : Ending.returned (.int k a) = .returned (.int k b) := by rw [h]

/-- A slice of bytes that reads as a list. -/
def RB (w : World) (v : Value) (l : List UInt8) : Prop :=
  ∃ a cap, v = .slice a l.length cap ∧ l.length ≤ cap ∧ cap ≤ maxLen ∧ (a = none → cap = 0) ∧ ∀ i, i < l.length → ∃ b off, a = some ⟨b, off, none⟩ ∧ w.cell? ⟨b, off + i, none⟩ = some (.int .u8 ((l.getD i 0).toNat : Nat))

/-- Bytes as they lie in memory. -/
def bvs (l : List UInt8) : List Value := l.map fun b => Value.int .u8 (b.toNat : Int)

theorem bvs_len (a : List UInt8) : (bvs a).length = a.length := by simp [bvs]

theorem below_drewN {B : Nat} {a w : World} (h : Below B a w) (n : Nat) : Below B a (w.drewN n) := h.trans ⟨rfl, rfl, rfl, Nat.le_refl _, fun _ _ => rfl⟩

theorem cell_later {w wx : World} (hb : Below w.heap.size w wx) {a : Addr} {v : Value} (h : w.cell? a = some v) : wx.cell? a = some v := by
  rw [hb.cell (World.block_lt_of_cell? w a h)]
  exact h

theorem RB.later {w wx : World} {v : Value} {l : List UInt8} (h : RB w v l) (hb : Below w.heap.size w wx) : RB wx v l := by
  obtain ⟨a, cap, hv, h1, h2, h3, hc⟩ := h
  refine ⟨a, cap, hv, h1, h2, h3, fun i hi => ?_⟩
  obtain ⟨b, off, ha, hcell⟩ := hc i hi
  exact ⟨b, off, ha, cell_later hb hcell⟩

theorem RB.of_owns {w : World} {B : Nat} {v : Value} {n : Nat} {l : List UInt8} (hown : w.ownsRow B 5 1 v n (bvs l)) (hn : n = l.length) : RB w v l := by
  subst hn
  rcases hown.2 with ⟨rfl, h0⟩ | ⟨g, cap, cur, rfl, _, _, h1, h2, _⟩
  · have h1 : l = [] := List.eq_nil_of_length_eq_zero h0
    subst h1
    exact ⟨none, 0, rfl, by simp, by unfold maxLen; omega, fun _ => rfl, by simp⟩
  · refine ⟨_, cap, rfl, h1, h2, (fun h => by cases h), fun i hi => ⟨g, 0, rfl, ?_⟩⟩
    have h := hown.cellAt i (by omega)
    rw [Nat.zero_add, h]
    simp [bvs, hi]

theorem RB.nil (w : World) : RB w (.slice none 0 0) [] := ⟨none, 0, rfl, by simp, by unfold maxLen; omega, fun _ => rfl, by simp⟩

theorem ret_agg {a b : Value} (h : a = b) : Ending.returned a = .returned b := by rw [h]

theorem bvs_get {l : List UInt8} {j : Nat} {u : Value} (h : (bvs l)[j]? = some u) : j < l.length ∧ u = .int .u8 ((l.getD j 0).toNat : Nat) := by
  have hj : j < l.length := by
    have := (List.getElem?_eq_some_iff.1 h).1
    simpa [bvs] using this
  refine ⟨hj, ?_⟩
  simp [bvs, hj] at h
  rw [← h]
  simp [hj]

theorem RB.cells {w : World} {x : Addr} {n cap : Nat} {l : List UInt8} (h : RB w (.slice (some x) n cap) l) : n = l.length ∧ ∀ j u, (bvs l)[j]? = some u → w.cell? (x.add j) = some u := by
  obtain ⟨a, ca, he, _, _, _, hc⟩ := h
  simp only [Value.slice.injEq] at he
  obtain ⟨rfl, rfl, rfl⟩ := he
  refine ⟨rfl, fun j u hj => ?_⟩
  obtain ⟨hj2, rfl⟩ := bvs_get hj
  obtain ⟨b, off, hb, hcell⟩ := hc j hj2
  simp only [Option.some.injEq] at hb
  subst hb
  rw [Go.WideShapes.add_plain, hcell]

/-- Bytes of the call's own, in a block of their own. -/
def OB (B : Nat) (w : World) (g n cap : Nat) (bs : List UInt8) : Prop := w.ownsRow B 5 1 (.slice (some ⟨g, 0, none⟩) n cap) n (bvs bs)

theorem OB.rb {B : Nat} {w : World} {g n cap : Nat} {bs : List UInt8} (h : OB B w g n cap bs) : n = bs.length ∧ RB w (.slice (some ⟨g, 0, none⟩) n cap) bs := by
  have h0 : n = bs.length := by have := h.1; rw [bvs_len] at this; omega
  exact ⟨h0, RB.of_owns h h0⟩

theorem OB.lt {B : Nat} {w : World} {g n cap : Nat} {bs : List UInt8} (h : OB B w g n cap bs) : B ≤ g ∧ g < w.heap.size := World.ownsRow.lt h g rfl

theorem OB.later {B : Nat} {w w' : World} {g n cap : Nat} {bs : List UInt8} (h : OB B w g n cap bs) (hb : Below w.heap.size w w') : OB B w' g n cap bs := by
  refine ⟨h.1, ?_⟩
  rcases h.2 with hn | ⟨g', cap', cur, e1, e2, e3, rest⟩
  · exact .inl hn
  · refine .inr ⟨g', cap', cur, e1, e2, ?_, rest⟩
    rw [hb.block g' (Array.getElem?_eq_some_iff.1 e3).1]
    exact e3

theorem OB.below {B : Nat} {w w' : World} {g n cap : Nat} {bs : List UInt8} (h : OB B w g n cap bs) (hB : B ≤ w.heap.size) (hg : w.grownBy w' (some g)) : Below B w w' :=
  Below.grown (Below.refl _ _) hg hB (fun k hk => by cases hk; exact h.lt.1)

/-- A slice of no bytes, made anew. -/
theorem OB.made (w : World) (cap : Nat) (cur : Array Value) (hm : cap ≤ maxLen) (hs : cur.size = cap) : OB w.heap.size (w.alloc (.cells cur 5)) w.heap.size 0 cap [] :=
  World.ownsRow_made w cur cap (Nat.le_refl _) hm (by rw [hs, Nat.mul_one])

theorem OB.cap {B : Nat} {w : World} {g n cap : Nat} {bs : List UInt8} (h : OB B w g n cap bs) : n ≤ cap ∧ cap ≤ maxLen := by
  obtain ⟨a', cap', he, g1, g2, _⟩ := h.rb.2
  simp only [Value.slice.injEq] at he
  obtain ⟨rfl, e1, rfl⟩ := he
  exact ⟨by omega, g2⟩

theorem ret_b {a b : Bool} (h : a = b) : Ending.returned (.bool a) = .returned (.bool b) := by rw [h]

theorem OB.cell {B : Nat} {w : World} {g n cap : Nat} {bs : List UInt8} (h : OB B w g n cap bs) (j : Nat) (hj : j < n) : w.cell? ⟨g, j, none⟩ = some (.int .u8 ((bs.getD j 0).toNat : Nat)) := by
  have h0 := h.rb.1
  rw [World.ownsRow.cellAt h j (by omega)]
  have hj2 : j < bs.length := by omega
  simp [bvs, hj2]

end Go.Proofs.YtlegmmhacnbnlaaGreatDoor.J

/- Whole numbers in memory; the walks over wire.Puts and wire.Takes. -/
namespace Go.Proofs.YtlegmmhacnbnlaaGreatDoor.J

set_option maxRecDepth 1000000

open Go.RowKit

set_option linter.unusedVariables false

theorem Tryz.info3 : (Tryz.prog.info? 3).map (fun i => (i.zero, i.size, i.bytes)) = some (some (.int .i64 0), 1, 8) := by kernel_rfl

/-- A slice of ints that reads as a list. -/
def RI (w : World) (v : Value) (l : List Int) : Prop :=
  ∃ a cap, v = .slice a l.length cap ∧ l.length ≤ cap ∧ cap ≤ maxLen ∧ ∀ i, i < l.length → ∃ b off, a = some ⟨b, off, none⟩ ∧ w.cell? ⟨b, off + i, none⟩ = some (.int .i64 (l.getD i 0))

theorem RI.later {w w' : World} {v : Value} {l : List Int} (h : RI w v l) (hb : Below w.heap.size w w') : RI w' v l := by
  obtain ⟨a, cap, rfl, h1, h2, hc⟩ := h
  refine ⟨a, cap, rfl, h1, h2, fun i hi => ?_⟩
  obtain ⟨b, off, rfl, hcell⟩ := hc i hi
  exact ⟨b, off, rfl, cell_later hb hcell⟩

theorem RI.nil (w : World) : RI w (.slice none 0 0) [] := ⟨none, 0, rfl, by simp, by unfold maxLen; omega, by simp⟩

def ivs (l : List Int) : List Value := l.map fun x => .int .i64 x

theorem cell_row {w : World} {b : Nat} {cs : Array Value} {t : TypeId} (h : w.heap[b]? = some (.cells cs t (0, 0))) (i : Nat) : w.cell? ⟨b, i, none⟩ = cs[i]? := by
  simp [World.cell?, h]

theorem froz_row {w : World} {b : Nat} {cs : Array Value} {t : TypeId} (h : w.heap[b]? = some (.cells cs t (0, 0))) (i : Nat) : w.frozen? ⟨b, i, none⟩ = false := by
  simp [World.frozen?, h]

theorem row_set {w : World} {b : Nat} {cs : Array Value} {t : TypeId} (h : w.heap[b]? = some (.cells cs t (0, 0))) (i : Nat) (v : Value) : (w.setCell ⟨b, i, none⟩ v).heap[b]? = some (.cells (cs.setIfInBounds i v) t (0, 0)) := by
  obtain ⟨hlt, hk'⟩ := Array.getElem?_eq_some_iff.1 h
  simp only [World.setCell]
  rw [Array.getElem?_eq_getElem (by rw [Array.size_modify]; exact hlt), Array.getElem_modify_self, hk']
  rfl

theorem row_new (w : World) (cs : Array Value) (t : TypeId) : (w.alloc (.cells cs t)).heap[w.heap.size]? = some (.cells cs t (0, 0)) := by
  show (w.heap.push _)[w.heap.size]? = _
  simp

/-- Ints of the call's own, in a block. -/
def RowI (w : World) (b : Nat) (L : List Int) : Prop := w.heap[b]? = some (.cells (ivs L).toArray 3 (0, 0))

theorem RowI.get {w : World} {b : Nat} {L : List Int} (h : RowI w b L) (t : Nat) (ht : t < L.length) : w.cell? ⟨b, t, none⟩ = some (.int .i64 (L.getD t 0)) ∧ w.frozen? ⟨b, t, none⟩ = false := by
  have hg : L[t]? = some (L.getD t 0) := by rw [List.getD_eq_getElem?_getD, List.getElem?_eq_getElem ht]; rfl
  refine ⟨?_, froz_row h t⟩
  rw [cell_row h t, List.getElem?_toArray, ivs, List.getElem?_map, hg]
  rfl

theorem RowI.set {w : World} {b : Nat} {L : List Int} (h : RowI w b L) (t : Nat) (x : Int) : RowI (w.setCell ⟨b, t, none⟩ (.int .i64 x)) b (L.set t x) := by
  have := row_set h t (.int .i64 x)
  rw [show (ivs L).toArray.setIfInBounds t (.int .i64 x) = (ivs (L.set t x)).toArray by simp [ivs, List.map_set]] at this
  exact this

theorem RowI.below {w w' : World} {b : Nat} {L : List Int} (h : RowI w b L) (hb : Below w.heap.size w w') : RowI w' b L := (hb.block b (Array.getElem?_eq_some_iff.1 h).1).trans h

theorem RowI.ri {w : World} {b : Nat} {L : List Int} (h : RowI w b L) (hl : L.length ≤ 1000000) : RI w (.slice (some ⟨b, 0, none⟩) L.length L.length) L := by
  refine ⟨_, _, rfl, Nat.le_refl _, by unfold maxLen; omega, fun i hi => ⟨b, 0, rfl, ?_⟩⟩
  rw [Nat.zero_add]
  exact (h.get i hi).1

end Go.Proofs.YtlegmmhacnbnlaaGreatDoor.J

/- The walks over the document's Takes, and over Same of whole numbers. -/
namespace Go.Proofs.YtlegmmhacnbnlaaGreatDoor.J

set_option maxRecDepth 1000000

open Go.RowKit

set_option linter.unusedVariables false

theorem RI.of_owns {w : World} {B : Nat} {v : Value} {n : Nat} {l : List Int} (hown : w.ownsRow B 3 1 v n (ivs l)) (hn : n = l.length) : RI w v l := by
  subst hn
  rcases hown.2 with ⟨rfl, h0⟩ | ⟨g, cap, cur, rfl, _, _, h1, h2, _⟩
  · have h1 : l = [] := List.eq_nil_of_length_eq_zero h0
    subst h1
    exact RI.nil w
  · refine ⟨_, cap, rfl, h1, h2, fun i hi => ⟨g, 0, rfl, ?_⟩⟩
    have h := hown.cellAt i (by omega)
    rw [Nat.zero_add, h]
    simp [ivs, hi]

theorem owns_later {w w' : World} {B : Nat} {t : TypeId} {v : Value} {n : Nat} {xs : List Value} (h : w.ownsRow B t 1 v n xs) (hb : Below w.heap.size w w') : w'.ownsRow B t 1 v n xs := by
  refine ⟨h.1, ?_⟩
  rcases h.2 with hn | ⟨g', cap', cur, e1, e2, e3, rest⟩
  · exact .inl hn
  · refine .inr ⟨g', cap', cur, e1, e2, ?_, rest⟩
    rw [hb.block g' (Array.getElem?_eq_some_iff.1 e3).1]
    exact e3

set_option maxRecDepth 1000000 in
set_option maxHeartbeats 1000000 in
theorem same_any (l m : List Int) (v u : Value) (w : World) (hl : RI w v l) (hm : RI w u m) (hn : l.length ≤ 1000000) (hn' : m.length ≤ 1000000) :
    Calls Tryz.prog 12 #[v, u] w fun e w' => e = .returned (.bool (decide (l = m))) ∧ Below w.heap.size w w' := by
  obtain ⟨a, cap, rfl, hc, _, hr⟩ := hl
  obtain ⟨a', cap', rfl, hc', _, hr'⟩ := hm
  have HR : Hid _ := hr
  have HR' : Hid _ := hr'
  obtain ⟨n, HN⟩ : ∃ n, Hid (l.length = n) := ⟨_, rfl⟩
  obtain ⟨n', HN'⟩ : ∃ n, Hid (m.length = n) := ⟨_, rfl⟩
  rw [HN.out] at hn hc ⊢
  rw [HN'.out] at hn' hc' ⊢
  clear hr hr'
  by_cases hnn : n = n'
  · subst hnn
    go_enter Tryz.func12, Tryz.ntmps12
    go_wp2_with fail
    go_loopw [5] (fun iv wr => ∃ (k : Nat), k ≤ n ∧ iv = .int .i64 k ∧ Hid (∀ i, i < k → l.getD i 0 = m.getD i 0) ∧ Hid (Below w.heap.size w wr)) (fun iv _ => n - (intOf iv).toNat)
    case atStart => exact ⟨0, Nat.zero_le _, rfl, fun i hi => by omega, Below.refl _ _⟩
    case round =>
      obtain ⟨k, hk, rfl, HX, HB⟩ := hrel
      rename World => w1
      by_cases hlt : k < n
      · obtain ⟨b, off, rfl, c0⟩ := HR.out k (by rw [HN.out]; exact hlt)
        obtain ⟨b', off', rfl, c1⟩ := HR'.out k (by rw [HN'.out]; exact hlt)
        have d0 := cell_later HB.out c0
        have d1 := cell_later HB.out c1
        obtain ⟨y, HYy⟩ : ∃ y, Hid (y = l.getD k 0) := ⟨_, rfl⟩
        obtain ⟨z, HZz⟩ : ∃ z, Hid (z = m.getD k 0) := ⟨_, rfl⟩
        rw [← HYy.out] at d0
        rw [← HZz.out] at d1
        have hki : (k : Int) < (n : Int) := by omega
        have HB2 : Hid (Below w.heap.size w w1.drew) := HB.out.drew
        by_cases hyz : y = z
        · have hb : (y == z) = true := by simp [hyz]
          have HX2 : Hid (∀ i, i < k + 1 → l.getD i 0 = m.getD i 0) := by
            show ∀ i, _
            intro i hi
            by_cases hik : i = k
            · subst hik; rw [← HYy.out, ← HZz.out, hyz]
            · exact HX.out i (by omega)
          clear HYy HZz hyz c0 c1 HX
          go_wp2_with fail
          go_region
          all_goals
            go_wp2_with fail
            go_roundw
            case rel => exact ⟨k + 1, by omega, by go_num, HX2, HB2⟩
            case measure => simp [intOf]; omega
        · have hb : (y == z) = false := by simp [hyz]
          have HF : Hid (decide (l = m) = false) := decide_eq_false (by
            rintro rfl
            exact hyz (HYy.out.trans HZz.out.symm))
          clear HYy HZz hyz c0 c1 HX
          go_wp2_with fail
          go_region
          all_goals
            go_wp2_with fail
            go_ret
            exact ⟨by rw [HF.out]; rfl, HB2.out⟩
      · have hkn : k = n := by omega
        subst hkn
        have HT2 : Hid (decide (l = m) = true) := by
          refine decide_eq_true (List.ext_getElem (by rw [HN.out, HN'.out]) fun i h1 h2 => ?_)
          have := HX.out i (by rw [← HN.out]; exact h1)
          simpa [h1, h2] using this
        go_wp2_with fail
        go_ret
        exact ⟨by rw [HT2.out]; rfl, HB.out⟩
  · have HF : Hid (decide (l = m) = false) := decide_eq_false (by rintro rfl; exact hnn (HN.out.symm.trans HN'.out))
    have hb : ((n : Int) == (n' : Int)) = false := by simp; omega
    go_enter Tryz.func12, Tryz.ntmps12
    go_wp2_with fail
    go_ret
    exact ⟨by rw [HF.out]; rfl, Below.refl _ _⟩

end Go.Proofs.YtlegmmhacnbnlaaGreatDoor.J

/- Appends to ints of the call's own; slices.Clone. -/
namespace Go.Proofs.YtlegmmhacnbnlaaGreatDoor.J

open Go.RowKit

set_option linter.unusedVariables false

theorem append_int {w : World} {ops : Array Oper} {rest : List Oper} {o : Oper} {a : Act} {Q : Exit → Act → World → Prop} (hgd : o.guard = none) (s x : Operand)
    (ho : o.op = .call { callee := .builtin .append, args := #[s, x], argTypes := #[32, 32] }) (base : Nat) (v : Value) (n : Nat) (l : List Int)
    (hs : a.eval s = v) (hown : w.ownsRow base 3 1 v n (ivs l)) (ad : Addr) (z : Int) (hx : a.eval x = .slice (some ad) 1 1) (hc : w.cell? ad = some (.int .i64 z))
    (hn : n ≤ 1000000) (hbase : base ≤ w.heap.size)
    (h : ∀ v' w', w'.ownsRow base 3 1 v' (n + 1) (ivs (l ++ [z])) → Below base w w' → wpList Tryz.prog ops Q rest (a.put o.dst v') w') : wpList Tryz.prog ops Q (o :: rest) a w := by
  obtain ⟨i0, hi, hz0, hz1, hz2⟩ := info_parts Tryz.info3
  have hsp : ad.add 0 = ad := by cases ad; rfl
  refine wpList_append_own _ hgd s x 32 ho base 3 i0 (.int .i64 0) 1 8 Tryz.underlying32 hi hz0 hz1 hz2 rfl (by decide) v n (ivs l) hs hown ad 1 1 (ivs [z]) hx rfl ?_ ?_ (by unfold maxLen; omega) (by omega) hbase ?_
  · intro j u hj
    match j, hj with
    | 0, hj =>
      simp [ivs] at hj
      subst hj
      rw [hsp]
      exact hc
    | j + 1, hj => simp [ivs] at hj
  · intro u hu
    simp [ivs] at hu
    subst hu
    rfl
  · intro v' w' h1 h2 h3
    refine h v' w' ?_ (Below.grown (Below.refl _ _) h2 hbase (fun k hk => (hown.lt k hk).1))
    have e : ivs (l ++ [z]) = ivs l ++ ivs [z] := by simp [ivs]
    rw [e]
    exact h1

theorem cell_new (w : World) (z : Int) : (w.alloc (.cells #[.int .i64 z] 3)).cell? ⟨w.heap.size, 0, none⟩ = some (.int .i64 z) := by
  rw [cell_row (row_new w _ 3)]
  rfl

theorem ivs_len (l : List Int) : (ivs l).length = l.length := by simp [ivs]

/-- Ints of the call's own, in a block of their own. -/
def OI (B : Nat) (w : World) (g n cap : Nat) (l : List Int) : Prop := w.ownsRow B 3 1 (.slice (some ⟨g, 0, none⟩) n cap) n (ivs l)

theorem OI.ri {B : Nat} {w : World} {g n cap : Nat} {l : List Int} (h : OI B w g n cap l) : n = l.length ∧ RI w (.slice (some ⟨g, 0, none⟩) n cap) l := by
  have h0 : n = l.length := by have := h.1; rw [ivs_len] at this; omega
  exact ⟨h0, RI.of_owns h h0⟩

theorem OI.lt {B : Nat} {w : World} {g n cap : Nat} {l : List Int} (h : OI B w g n cap l) : B ≤ g ∧ g < w.heap.size := World.ownsRow.lt h g rfl

theorem OI.below {B : Nat} {w w' : World} {g n cap : Nat} {l : List Int} (h : OI B w g n cap l) (hB : B ≤ w.heap.size) (hg : w.grownBy w' (some g)) : Below B w w' :=
  Below.grown (Below.refl _ _) hg hB (fun k hk => by cases hk; exact h.lt.1)

theorem OI.made (w : World) : OI w.heap.size (w.alloc (.cells #[] 3)) w.heap.size 0 0 [] :=
  World.ownsRow_made w #[] 0 (Nat.le_refl _) (Nat.zero_le _) rfl

theorem OI.frozen {B : Nat} {w : World} {g n cap : Nat} {l : List Int} (h : OI B w g n cap l) (i : Nat) : w.frozen? ⟨g, i, none⟩ = false := by
  rcases h.2 with ⟨e, _⟩ | ⟨g', cap', cur, e, _, hb, _⟩
  · cases e
  · simp only [Value.slice.injEq, Option.some.injEq, Addr.mk.injEq] at e
    obtain ⟨⟨rfl, _, _⟩, _, _⟩ := e
    exact froz_row hb i

theorem OI.cell {B : Nat} {w : World} {g n cap : Nat} {l : List Int} (h : OI B w g n cap l) (i : Nat) (hi : i < n) : w.cell? ⟨g, i, none⟩ = some (.int .i64 (l.getD i 0)) := by
  obtain ⟨h1, a, c, e, _, _, hc⟩ := h.ri
  simp only [Value.slice.injEq] at e
  obtain ⟨rfl, _, _⟩ := e
  obtain ⟨b, off, e2, h2⟩ := hc i (by omega)
  simp only [Option.some.injEq, Addr.mk.injEq] at e2
  obtain ⟨rfl, rfl, _⟩ := e2
  rw [Nat.zero_add] at h2
  exact h2

theorem RI.set {w : World} {g n cap : Nat} {l : List Int} (h : RI w (.slice (some ⟨g, 0, none⟩) n cap) l) (i : Nat) (hi : i < l.length) (x : Int) : RI (w.setCell ⟨g, i, none⟩ (.int .i64 x)) (.slice (some ⟨g, 0, none⟩) n cap) (l.set i x) := by
  obtain ⟨a, c, e, h1, h2, hc⟩ := h
  simp only [Value.slice.injEq] at e
  obtain ⟨rfl, rfl, rfl⟩ := e
  refine ⟨_, _, by rw [List.length_set], by rw [List.length_set]; exact h1, h2, fun j hj => ⟨g, 0, rfl, ?_⟩⟩
  rw [List.length_set] at hj
  obtain ⟨b, off, e2, h3⟩ := hc j hj
  simp only [Option.some.injEq, Addr.mk.injEq] at e2
  obtain ⟨rfl, rfl, _⟩ := e2
  rw [Nat.zero_add] at h3 ⊢
  by_cases hij : i = j
  · subst hij
    rw [World.cell?_setCell_same' w _ _ (by rw [h3]; rfl)]
    simp [hi]
  · rw [World.cell?_setCell_other _ _ _ _ (by intro h; cases h; exact hij rfl), h3]
    simp [hij]

theorem append_ints {w : World} {ops : Array Oper} {rest : List Oper} {o : Oper} {a : Act} {Q : Exit → Act → World → Prop} (hgd : o.guard = none) (s x : Operand)
    (ho : o.op = .call { callee := .builtin .append, args := #[s, x], argTypes := #[32, 32] }) (base g n cap : Nat) (l0 : List Int)
    (hs : a.eval s = .slice (some ⟨g, 0, none⟩) n cap) (hown : OI base w g n cap l0) (xv : Value) (l : List Int) (hx : a.eval x = xv) (hr : RI w xv l) (hnil : ∀ k c, xv = .slice none k c → c = 0)
    (hn : n ≤ 10000000) (hl : l.length ≤ 1000000) (hbase : base ≤ w.heap.size) (n2 : Nat) (l2 : List Int) (hn2 : n2 = n + l.length) (hl2 : l2 = l0 ++ l)
    (h : ∀ g' cap' w', OI base w' g' n2 cap' l2 → w.grownBy w' (some g) → wpList Tryz.prog ops Q rest (a.put o.dst (.slice (some ⟨g', 0, none⟩) n2 cap')) w') : wpList Tryz.prog ops Q (o :: rest) a w := by
  subst hn2 hl2
  obtain ⟨i0, hi, hz0, hz1, hz2⟩ := info_parts Tryz.info3
  obtain ⟨ad, cp, rfl, _, _, hc⟩ := hr
  cases ad with
  | none =>
    have h0 := hnil _ _ rfl
    subst h0
    have hl0 : l = [] := by
      cases l with
      | nil => rfl
      | cons y l =>
        obtain ⟨b, off, hb, _⟩ := hc 0 (by simp)
        cases hb
    subst hl0
    refine wpList_append_own_none hgd s x 32 ho base 3 i0 1 Tryz.underlying32 hi _ n _ hs hown hx ?_
    have := h g cap w (by rw [List.append_nil]; exact hown) ⟨rfl, rfl, rfl, Nat.le_refl _, fun _ _ _ => rfl⟩
    simpa using this
  | some ad =>
    refine wpList_append_own _ hgd s x 32 ho base 3 i0 (.int .i64 0) 1 8 Tryz.underlying32 hi hz0 hz1 hz2 rfl (by decide) _ n _ hs hown ad l.length cp (ivs l) hx (by rw [ivs_len]; omega) ?_ ?_ (by unfold maxLen; omega) (by omega) hbase ?_
    · intro j u hj
      simp only [ivs, List.getElem?_map, Option.map_eq_some_iff] at hj
      obtain ⟨z, hz, rfl⟩ := hj
      obtain ⟨hjl, hz2⟩ := List.getElem?_eq_some_iff.1 hz
      obtain ⟨b, off, hb, hcell⟩ := hc j hjl
      simp only [Option.some.injEq] at hb
      subst hb
      rw [Go.WideShapes.add_plain, hcell]
      simp [hjl, hz2]
    · intro u hu
      obtain ⟨z, _, rfl⟩ := List.mem_map.1 hu
      rfl
    · intro v' w' h1 h2 h3
      rcases h1.2 with ⟨rfl, h5⟩ | ⟨g', cap', cur, rfl, hrest⟩
      · have h6 := h3.1 rfl
        simp at h6
      · refine h g' cap' w' ?_ h2
        have e : ivs (l0 ++ l) = ivs l0 ++ ivs l := by simp [ivs]
        unfold OI
        rw [e]
        exact h1

end Go.Proofs.YtlegmmhacnbnlaaGreatDoor.J

/- Tools for regions that draw their order. -/
namespace Go.Proofs.YtlegmmhacnbnlaaGreatDoor.J

open Go.RowKit

set_option linter.unusedVariables false

/-- An operation that yields in every such world is taken first; its slot is named. -/
theorem takeD {P : Program} {ops : Array Oper} {Q : Exit → Act → World → Prop} {md : Region.Mode} {S : World → Prop} {i : Nat} {oi : Oper} {d : Tmp} {v : Value} {fuel : Nat} {listed : Array Bool} {a : Act} {w : World} (hi : ops[i]? = some oi) (hd : oi.dst = some d)
    (hs : Region.noSelect ops = true) (hf : Region.free md ops listed i = true) (hr : (Region.ready md ops listed).contains i = true)
    (hQ : ∀ c a w, Q (.panic c) { tmps := a.tmps.setIfInBounds d v, defers := a.defers } w → Q (.panic c) a w) (hy : YieldsIf P ops S oi v a) (hS : S w)
    (h : wpAnyH P md ops Q S fuel (listed.setIfInBounds i true) { tmps := a.tmps.setIfInBounds d v, defers := a.defers } w) : wpAnyH P md ops Q S (fuel + 1) listed a w := by
  have hp : ∀ a : Act, a.put oi.dst v = { tmps := a.tmps.setIfInBounds d v, defers := a.defers } := fun a => by rw [hd]; rfl
  refine wpAnyH_take hi hs hf hr (fun c a w h => hQ c a w (by rw [hp] at h; exact h)) hy hS ?_
  rw [hp]
  exact h

/-- takeD in short. -/
theorem tV {P : Program} {ops : Array Oper} {Q : Exit → Act → World → Prop} {md : Region.Mode} {S : World → Prop} {listed : Array Bool} {a : Act} {w : World} {oi : Oper} {ts : Array Value} (i : Nat) (d : Tmp) (v : Value) (fuel : Nat) (hi : ops[i]? = some oi) (hS : S w)
    (h : wpAnyH P md ops Q S fuel (listed.setIfInBounds i true) { tmps := ts, defers := a.defers } w) (hy : ∀ w, S w → (execOp a.eval oi).run P w = .ok (.value v) w)
    (hw : Region.wanted oi (yielded ops a.tmps) = true := by kernel_rfl) (hd : oi.dst = some d := by rfl) (hs : Region.noSelect ops = true := by kernel_rfl) (hf : Region.free md ops listed i = true := by kernel_rfl) (hr : (Region.ready md ops listed).contains i = true := by kernel_rfl)
    (hQ : ∀ c a w, Q (.panic c) { tmps := a.tmps.setIfInBounds d v, defers := a.defers } w → Q (.panic c) a w := by first | (intro _ _ _ h; cases h.1) | exact fun _ _ _ h => h)
    (ht : a.tmps.setIfInBounds d v = ts := by simp only [List.setIfInBounds_toArray, List.set_cons_succ, List.set_cons_zero] <;> rfl) : wpAnyH P md ops Q S (fuel + 1) listed a w := by
  subst ht
  exact takeD hi hd hs hf hr hQ (.inl ⟨hw, hy⟩) hS h

theorem tK {P : Program} {ops : Array Oper} {Q : Exit → Act → World → Prop} {md : Region.Mode} {S : World → Prop} {listed : Array Bool} {a : Act} {w : World} {oi : Oper} {ts : Array Value} (i : Nat) (d : Tmp) (v : Value) (fuel : Nat) (hi : ops[i]? = some oi) (hS : S w)
    (h : wpAnyH P md ops Q S fuel (listed.setIfInBounds i true) { tmps := ts, defers := a.defers } w) (hy : ∀ w, S w → (execOp a.eval oi).run P w = .ok (.value v) w := by intro _ _; kernel_rfl)
    (hw : Region.wanted oi (yielded ops a.tmps) = true := by kernel_rfl) (hd : oi.dst = some d := by rfl) (hs : Region.noSelect ops = true := by kernel_rfl) (hf : Region.free md ops listed i = true := by kernel_rfl) (hr : (Region.ready md ops listed).contains i = true := by kernel_rfl)
    (hQ : ∀ c a w, Q (.panic c) { tmps := a.tmps.setIfInBounds d v, defers := a.defers } w → Q (.panic c) a w := by first | (intro _ _ _ h; cases h.1) | exact fun _ _ _ h => h)
    (ht : a.tmps.setIfInBounds d v = ts := by simp only [List.setIfInBounds_toArray, List.set_cons_succ, List.set_cons_zero] <;> rfl) : wpAnyH P md ops Q S (fuel + 1) listed a w := by
  subst ht
  exact takeD hi hd hs hf hr hQ (.inl ⟨hw, hy⟩) hS h

theorem tG {P : Program} {ops : Array Oper} {Q : Exit → Act → World → Prop} {md : Region.Mode} {S : World → Prop} {listed : Array Bool} {a : Act} {w : World} {oi : Oper} {ts : Array Value} (i : Nat) (d : Tmp) (v : Value) (fuel : Nat) (hi : ops[i]? = some oi) (hS : S w)
    (h : wpAnyH P md ops Q S fuel (listed.setIfInBounds i true) { tmps := ts, defers := a.defers } w) (hy : ∀ w, S w → (execOp a.eval oi).run P w = .ok (.value v) w := by intro _ _; go_simp)
    (hw : Region.wanted oi (yielded ops a.tmps) = true := by kernel_rfl) (hd : oi.dst = some d := by rfl) (hs : Region.noSelect ops = true := by kernel_rfl) (hf : Region.free md ops listed i = true := by kernel_rfl) (hr : (Region.ready md ops listed).contains i = true := by kernel_rfl)
    (hQ : ∀ c a w, Q (.panic c) { tmps := a.tmps.setIfInBounds d v, defers := a.defers } w → Q (.panic c) a w := by first | (intro _ _ _ h; cases h.1) | exact fun _ _ _ h => h)
    (ht : a.tmps.setIfInBounds d v = ts := by simp only [List.setIfInBounds_toArray, List.set_cons_succ, List.set_cons_zero] <;> rfl) : wpAnyH P md ops Q S (fuel + 1) listed a w := by
  subst ht
  exact takeD hi hd hs hf hr hQ (.inl ⟨hw, hy⟩) hS h

theorem tU {P : Program} {ops : Array Oper} {Q : Exit → Act → World → Prop} {md : Region.Mode} {S : World → Prop} {listed : Array Bool} {a : Act} {w : World} {oi : Oper} {ts : Array Value} (i : Nat) (d : Tmp) (fuel : Nat) (hi : ops[i]? = some oi) (hS : S w)
    (h : wpAnyH P md ops Q S fuel (listed.setIfInBounds i true) { tmps := ts, defers := a.defers } w)
    (hw : Region.wanted oi (yielded ops a.tmps) = false := by kernel_rfl) (hd : oi.dst = some d := by rfl) (hs : Region.noSelect ops = true := by kernel_rfl) (hf : Region.free md ops listed i = true := by kernel_rfl) (hr : (Region.ready md ops listed).contains i = true := by kernel_rfl)
    (hQ : ∀ c a w, Q (.panic c) { tmps := a.tmps.setIfInBounds d undef, defers := a.defers } w → Q (.panic c) a w := by first | (intro _ _ _ h; cases h.1) | exact fun _ _ _ h => h)
    (ht : a.tmps.setIfInBounds d undef = ts := by simp only [List.setIfInBounds_toArray, List.set_cons_succ, List.set_cons_zero] <;> rfl) : wpAnyH P md ops Q S (fuel + 1) listed a w := by
  subst ht
  exact takeD hi hd hs hf hr hQ (.inr ⟨hw, rfl⟩) hS h

theorem wpOp_calls {P : Program} {ops : Array Oper} {Q : Exit → Act → World → Prop} {i : Nat} {K : Act → World → Prop} {a : Act} {w : World} {o : Oper} {d : Tmp} {f : FuncId} {args : Array Value} (hi : ops[i]? = some o) (hd : o.dst = some d) (hw : Region.wanted o (yielded ops a.tmps) = true)
    (hrun : (execOp a.eval o).run P w = .ok (.enter f args) w) (R : Ending → World → Prop) (h : Calls P f args w R) (hR : ∀ v w'', R (.returned v) w'' → K { tmps := a.tmps.setIfInBounds d v, defers := a.defers } w'') (hP : ∀ ch w'', R (.panicked ch) w'' → Q (.panic ch) a w'') (hO : ∀ w'', ¬ R .outgrown w'') : wpOp P ops Q i K a w := by
  have hp : ∀ v, a.put o.dst v = { tmps := a.tmps.setIfInBounds d v, defers := a.defers } := fun v => by rw [hd]; rfl
  unfold wpOp
  simp only [hi]
  rw [if_pos hw]
  refine .inl ?_
  unfold Oper.wp
  rw [hrun]
  exact h.mono fun e w'' he => by
    cases e with
    | returned v => show K (a.put o.dst v) w''; rw [hp]; exact hR v w'' he
    | panicked ch => exact hP ch w'' he
    | outgrown => exact absurd he (hO w'')

theorem wpOp_value {P : Program} {ops : Array Oper} {Q : Exit → Act → World → Prop} {i : Nat} {K : Act → World → Prop} {a : Act} {w w' : World} {o : Oper} {d : Tmp} {v : Value} (hi : ops[i]? = some o) (hd : o.dst = some d) (hw : Region.wanted o (yielded ops a.tmps) = true)
    (hrun : (execOp a.eval o).run P w = .ok (.value v) w') (hK : K { tmps := a.tmps.setIfInBounds d v, defers := a.defers } w') : wpOp P ops Q i K a w := by
  have hp : a.put o.dst v = { tmps := a.tmps.setIfInBounds d v, defers := a.defers } := by rw [hd]; rfl
  unfold wpOp
  simp only [hi]
  rw [if_pos hw]
  refine .inl ?_
  unfold Oper.wp
  rw [hrun]
  show K (a.put o.dst v) w'
  rw [hp]
  exact hK

def setAll (tm : Array Value) : List (Nat × Value) → Array Value
  | [] => tm
  | (d, v) :: r => setAll (tm.setIfInBounds d v) r

theorem oneC {P : Program} {ops : Array Oper} {Q : Exit → Act → World → Prop} {md : Region.Mode} {S : World → Prop} {i : Nat} {o : Oper} {d : Tmp} {f : FuncId} {args : Array Value} {v : Value} {fuel : Nat} {listed : Array Bool} {a : Act} {w : World}
    (hi : ops[i]? = some o) (hd : o.dst = some d) (hr : Region.ready md ops listed = [i]) (hw : Region.wanted o (yielded ops a.tmps) = true) (hrun : ∀ wx, (execOp a.eval o).run P wx = .ok (.enter f args) wx)
    (hS : S w) (hc : ∀ wx, S wx → Calls P f args wx fun e w' => e = .returned v ∧ S w')
    (h : ∀ w', S w' → wpAnyH P md ops Q S fuel (listed.setIfInBounds i true) { tmps := a.tmps.setIfInBounds d v, defers := a.defers } w') : wpAnyH P md ops Q S (fuel + 1) listed a w := by
  refine wpAnyH_all hr (by simp) (List.forall_mem_singleton.2 ?_)
  refine wpOp_calls hi hd hw (hrun w) _ (hc w hS) ?_ (fun _ _ h => by cases h.1) (fun _ h => by cases h.1)
  rintro v' w'' ⟨h1, h2⟩
  cases h1
  exact ⟨h2, h w'' h2⟩

/-- A region that draws, ended with the same slots in all its orders. -/
theorem region_thenF {P : Program} {id : Nat} {ops : Array Oper} {dr : Bool} {Q : Exit → Act → World → Prop} {K : Act → World → Prop} {a : Act} {w : World} (L : List (Nat × Value)) (F : World → Prop)
    (h : (Code.region id ops dr).wp P (fun e a' w' => e = .normal ∧ a' = { tmps := setAll a.tmps L, defers := a.defers } ∧ F w') a w)
    (h2 : ∀ w', F w' → K { tmps := setAll a.tmps L, defers := a.defers } w') : (Code.region id ops dr).wp P (Exit.then K Q) a w := by
  refine wp_mono h ?_
  rintro e a' w' ⟨rfl, rfl, hF⟩
  exact h2 w' hF

theorem oneW {P : Program} {ops : Array Oper} {Q : Exit → Act → World → Prop} {md : Region.Mode} {S : World → Prop} {i : Nat} {o : Oper} {d : Tmp} {f : FuncId} {args : Array Value} {v : Value} {fuel : Nat} {listed : Array Bool} {a : Act} {w : World} {R : World → Prop}
    (hi : ops[i]? = some o) (hd : o.dst = some d) (hr : Region.ready md ops listed = [i]) (hw : Region.wanted o (yielded ops a.tmps) = true) (hrun : ∀ wx, (execOp a.eval o).run P wx = .ok (.enter f args) wx)
    (hc : Calls P f args w fun e w' => e = .returned v ∧ R w') (hRS : ∀ w', R w' → S w')
    (h : ∀ w', R w' → wpAnyH P md ops Q S fuel (listed.setIfInBounds i true) { tmps := a.tmps.setIfInBounds d v, defers := a.defers } w') : wpAnyH P md ops Q S (fuel + 1) listed a w := by
  refine wpAnyH_all hr (by simp) (List.forall_mem_singleton.2 ?_)
  refine wpOp_calls hi hd hw (hrun w) _ hc ?_ (fun _ _ h => by cases h.1) (fun _ h => by cases h.1)
  rintro v' w'' ⟨h1, h2⟩
  cases h1
  exact ⟨hRS w'' h2, h w'' h2⟩

theorem oneX {P : Program} {ops : Array Oper} {Q : Exit → Act → World → Prop} {md : Region.Mode} {S : World → Prop} {i : Nat} {o : Oper} {d : Tmp} {f : FuncId} {args : Array Value} {β : Type} {V : β → Value} {fuel : Nat} {listed : Array Bool} {a : Act} {w : World} {R : β → World → Prop}
    (hi : ops[i]? = some o) (hd : o.dst = some d) (hr : Region.ready md ops listed = [i]) (hw : Region.wanted o (yielded ops a.tmps) = true) (hrun : ∀ wx, (execOp a.eval o).run P wx = .ok (.enter f args) wx)
    (hc : Calls P f args w fun e w' => ∃ z, e = .returned (V z) ∧ R z w') (hRS : ∀ z w', R z w' → S w')
    (h : ∀ z w', R z w' → wpAnyH P md ops Q S fuel (listed.setIfInBounds i true) { tmps := a.tmps.setIfInBounds d (V z), defers := a.defers } w') : wpAnyH P md ops Q S (fuel + 1) listed a w := by
  refine wpAnyH_all hr (by simp) (List.forall_mem_singleton.2 ?_)
  refine wpOp_calls hi hd hw (hrun w) _ hc ?_ (fun _ _ h => by obtain ⟨_, h1, _⟩ := h; cases h1) (fun _ h => by obtain ⟨_, h1, _⟩ := h; cases h1)
  rintro v' w'' ⟨z, h1, h2⟩
  cases h1
  exact ⟨hRS z w'' h2, h z w'' h2⟩

/-- A region that draws, ended with slots of a kind in all its orders. -/
theorem region_thenG {P : Program} {id : Nat} {ops : Array Oper} {dr : Bool} {Q : Exit → Act → World → Prop} {K : Act → World → Prop} {a : Act} {w : World} {β : Type} (L : β → List (Nat × Value)) (F : β → World → Prop)
    (h : (Code.region id ops dr).wp P (fun e a' w' => e = .normal ∧ ∃ z, a' = { tmps := setAll a.tmps (L z), defers := a.defers } ∧ F z w') a w)
    (h2 : ∀ z w', F z w' → K { tmps := setAll a.tmps (L z), defers := a.defers } w') : (Code.region id ops dr).wp P (Exit.then K Q) a w := by
  refine wp_mono h ?_
  rintro e a' w' ⟨rfl, z, rfl, hF⟩
  exact h2 z w' hF

end Go.Proofs.YtlegmmhacnbnlaaGreatDoor.J

