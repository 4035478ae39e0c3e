/- What is known of bytes in memory; two arrays of four bytes held against each other; the walk over frame.seal. -/
import Derived.Test.YtnekaflanaleeaaWa
import Derived.Test.YtnekaflanaleeaaMb
import Derived.Laws.Rows
import Derived.Laws.IdiomStrings
import Derived.Laws.BytesArg
import Derived.Laws.StructEq
import Derived.Laws.AppendOwnNone
import Derived.Lib.SliceRun
namespace Go.Proofs.Ytnekaflanaleeaa
open Go.RowKit

theorem Try.info5 : (Try.prog.info? 5).map (fun i => (i.zero, i.size, i.bytes)) = some (some (.int .u8 0), 1, 1) := by kernel_rfl

/-- Bytes as they lie in memory. -/
def bvs (l : List UInt8) : List Value := l.map fun b => Value.int .u8 (b.toNat : Int)

theorem bvs_append (a b : List UInt8) : bvs (a ++ b) = bvs a ++ bvs b := by simp [bvs]
theorem bvs_len (a : List UInt8) : (bvs a).length = a.length := by simp [bvs]

theorem below_drewN {B : Nat} {a w : World} (h : Below B a w) (n : Nat) : Below B a (w.drewN n) := h.trans ⟨rfl, rfl, rfl, Nat.le_refl _, fun _ _ => rfl⟩

theorem cell_later {w wx : World} (hb : Below w.heap.size w wx) {a : Addr} {v : Value} (h : w.cell? a = some v) : wx.cell? a = some v := by
  rw [hb.cell (World.block_lt_of_cell? w a h)]
  exact h

theorem RB.later {w wx : World} {v : Value} {l : List UInt8} (h : RB w v l) (hb : Below w.heap.size w wx) : RB wx v l := by
  obtain ⟨a, cap, hv, h1, h2, h3, hc⟩ := h
  refine ⟨a, cap, hv, h1, h2, h3, fun i hi => ?_⟩
  obtain ⟨b, off, ha, hcell⟩ := hc i hi
  exact ⟨b, off, ha, cell_later hb hcell⟩

theorem RB.of_owns {w : World} {B : Nat} {v : Value} {n : Nat} {l : List UInt8} (hown : w.ownsRow B 5 1 v n (bvs l)) (hn : n = l.length) : RB w v l := by
  subst hn
  rcases hown.2 with ⟨rfl, h0⟩ | ⟨g, cap, cur, rfl, _, _, h1, h2, _⟩
  · have h1 : l = [] := List.eq_nil_of_length_eq_zero h0
    subst h1
    exact ⟨none, 0, rfl, by simp, by unfold maxLen; omega, fun _ => rfl, by simp⟩
  · refine ⟨_, cap, rfl, h1, h2, (fun h => by cases h), fun i hi => ⟨g, 0, rfl, ?_⟩⟩
    have h := hown.cellAt i (by omega)
    rw [Nat.zero_add, h]
    simp [bvs, hi]

theorem RB.nil (w : World) : RB w (.slice none 0 0) [] := ⟨none, 0, rfl, by simp, by unfold maxLen; omega, fun _ => rfl, by simp⟩

/-- A part of a slice. -/
theorem RB.sub {w : World} {a : Option Addr} {len cap : Nat} {l : List UInt8} (h : RB w (.slice a len cap) l) (lo hi m : Nat) (h1 : lo ≤ hi) (h2 : hi ≤ l.length) (h3 : hi ≤ m) (h4 : m ≤ cap) :
    RB w (sliced a lo hi m 1) ((l.take hi).drop lo) := by
  obtain ⟨a', cap', he, g1, g2, g3, hc⟩ := h
  simp only [Value.slice.injEq] at he
  obtain ⟨rfl, rfl, rfl⟩ := he
  have hl : ((l.take hi).drop lo).length = hi - lo := by simp; omega
  unfold sliced
  by_cases hm : m = lo
  · rw [if_pos hm]
    refine ⟨a, m - lo, by rw [hl], by rw [hl]; omega, by omega, fun hn => by have := g3 hn; omega, fun i hi2 => ?_⟩
    rw [hl] at hi2
    omega
  · rw [if_neg hm]
    refine ⟨_, m - lo, by rw [hl], by rw [hl]; omega, by omega, fun hn => ?_, fun i hi2 => ?_⟩
    · cases a with
      | none => have := g3 rfl; omega
      | some a => simp at hn
    · rw [hl] at hi2
      obtain ⟨b, off, rfl, hcell⟩ := hc (lo + i) (by omega)
      refine ⟨b, off + lo, ?_, ?_⟩
      · simp [Go.WideShapes.add_plain]
      · rw [Nat.add_assoc, hcell]
        congr 3
        simp only [List.getD_eq_getElem?_getD, List.getElem?_drop, List.getElem?_take]
        rw [if_pos (by omega)]

theorem string_of_RB {w : World} {v : Value} {l : List UInt8} (h : RB w v l) : (convert 22 9 v).run Try.prog w = .ok (.string ⟨l.toArray⟩) w := by
  obtain ⟨a, cap, rfl, _, _, h3, hc⟩ := h
  cases a with
  | none =>
    have hl : l = [] := by
      cases l with
      | nil => rfl
      | cons y l =>
        obtain ⟨b, off, hb, _⟩ := hc 0 (by simp)
        cases hb
    subst hl
    exact run_convert_bytes_nil w 22 5 Try.underlying22 Try.underlying5 _ _ 9 Try.underlying9
  | some a =>
    refine run_convert_bytes_back w 22 9 5 _ cap l Try.underlying22 Try.underlying5 Try.underlying9 ?_
    intro j hj
    obtain ⟨b, off, hb, hcell⟩ := hc j hj
    simp only [Option.some.injEq] at hb
    subst hb
    rw [Go.WideShapes.add_plain, hcell]
    simp [hj]

theorem part5 (w : World) (cs : Array Value) (k : Nat) (v : Value) (h : cs[k]? = some v) : (part 5 cs k).run Try.prog w = .ok v w := by
  have hi : (isAgg 5).run Try.prog w = .ok false w := by kernel_rfl
  simp [part, hi, h]

theorem size5 (w : World) : (sizeOf 5).run Try.prog w = .ok 1 w := by kernel_rfl

theorem arr_eq (w : World) (a0 a1 a2 a3 b0 b1 b2 b3 : Int) :
    (Op.equalIn 10000 51 (.agg #[.int .u8 a0, .int .u8 a1, .int .u8 a2, .int .u8 a3]) (.agg #[.int .u8 b0, .int .u8 b1, .int .u8 b2, .int .u8 b3])).run Try.prog w = .ok (decide (a0 = b0 ∧ a1 = b1 ∧ a2 = b2 ∧ a3 = b3)) w := by
  have p0 := fun w => part5 w #[.int .u8 a0, .int .u8 a1, .int .u8 a2, .int .u8 a3] 0 _ rfl
  have p1 := fun w => part5 w #[.int .u8 a0, .int .u8 a1, .int .u8 a2, .int .u8 a3] 1 _ rfl
  have p2 := fun w => part5 w #[.int .u8 a0, .int .u8 a1, .int .u8 a2, .int .u8 a3] 2 _ rfl
  have p3 := fun w => part5 w #[.int .u8 a0, .int .u8 a1, .int .u8 a2, .int .u8 a3] 3 _ rfl
  have q0 := fun w => part5 w #[.int .u8 b0, .int .u8 b1, .int .u8 b2, .int .u8 b3] 0 _ rfl
  have q1 := fun w => part5 w #[.int .u8 b0, .int .u8 b1, .int .u8 b2, .int .u8 b3] 1 _ rfl
  have q2 := fun w => part5 w #[.int .u8 b0, .int .u8 b1, .int .u8 b2, .int .u8 b3] 2 _ rfl
  have q3 := fun w => part5 w #[.int .u8 b0, .int .u8 b1, .int .u8 b2, .int .u8 b3] 3 _ rfl
  have hE := fun w a b => run_equalIn_int (P := Try.prog) w 9998 5 .u8 .u8 a b Try.underlying5
  show (Op.equalIn (9999 + 1) 51 _ _).run Try.prog w = _
  unfold Op.equalIn
  simp only [Sem.run_bind, run_underlying Try.underlying51, Result.andThen_ok, size5, Nat.mul_one]
  simp only [Std.Legacy.Range.forIn_eq_forIn_range', Std.Legacy.Range.size, Nat.sub_zero, Nat.add_sub_cancel, Nat.div_one, List.range']
  simp [List.forIn_cons, p0, q0, p1, q1, p2, q2, p3, q3, hE]
  clear p0 p1 p2 p3 q0 q1 q2 q3 hE
  by_cases e0 : a0 = b0 <;> by_cases e1 : a1 = b1 <;> by_cases e2 : a2 = b2 <;> by_cases e3 : a3 = b3 <;> simp [e0, e1, e2, e3]

theorem arr_neq (w : World) (a0 a1 a2 a3 b0 b1 b2 b3 : Int) :
    (binOp .neq 51 (.agg #[.int .u8 a0, .int .u8 a1, .int .u8 a2, .int .u8 a3]) (.agg #[.int .u8 b0, .int .u8 b1, .int .u8 b2, .int .u8 b3])).run Try.prog w = .ok (.bool (!decide (a0 = b0 ∧ a1 = b1 ∧ a2 = b2 ∧ a3 = b3))) w := by
  rw [run_neq_struct, arr_eq]
  rfl

theorem ret_agg {a b : Value} (h : a = b) : Ending.returned a = .returned b := by rw [h]

/-- The sum as an array of four bytes. -/
def sealV (n : Nat) : Value := .agg #[.int .u8 ((n % 256 : Nat) : Int), .int .u8 ((n / 256 % 256 : Nat) : Int), .int .u8 ((n / 65536 % 256 : Nat) : Int), .int .u8 ((n / 16777216 % 256 : Nat) : Int)]

set_option maxRecDepth 1000000 in
set_option maxHeartbeats 1000000 in
theorem seal_any (x : Value) (l : List UInt8) (w : World) (hx : RB w x l) (hl : l.length ≤ 1000000) :
    Calls Try.prog 20 #[x] w fun e w' => e = .returned (sealV (sumP l)) ∧ Below w.heap.size w w' := by
  have HS : Hid (∀ wx, RB wx x l → Calls Try.prog 11 #[x] wx fun e w' => e = .returned (.int .u32 (sumP l : Nat)) ∧ w' = wx) := fun wx h => sum_any x l wx h hl
  have hlt := sumP_lt l
  have HX : Hid (RB w x l) := hx
  clear hx
  obtain ⟨n, HN⟩ : ∃ n, Hid (n = sumP l) := ⟨_, rfl⟩
  rw [← HN.out] at hlt HS ⊢
  go_enter Try.func20, Try.ntmps20
  go_wp2_with (first | (go_at_call 11; refine Calls.mono (HS.out _ (HX.out.later ((Below.refl _ _).alloc (Nat.le_refl _) _))) ?_; rintro e w' ⟨rfl, rfl⟩))
  refine bodyPost_ret_by (results_cell_row rfl _ _ w.heap.size 51 _ (0, 0) _ rfl (heap_alloc_new _ _) Try.underlying51 rfl (by kernel_rfl)) rfl ⟨ret_agg ?_, (Below.refl _ _).alloc (Nat.le_refl _) _⟩
  unfold sealV
  have e3 : (n : Int) / 16777216 = ((n / 16777216 % 256 : Nat) : Int) := by omega
  rw [e3]
  rfl

theorem bvs_get {l : List UInt8} {j : Nat} {u : Value} (h : (bvs l)[j]? = some u) : j < l.length ∧ u = .int .u8 ((l.getD j 0).toNat : Nat) := by
  have hj : j < l.length := by
    have := (List.getElem?_eq_some_iff.1 h).1
    simpa [bvs] using this
  refine ⟨hj, ?_⟩
  simp [bvs, hj] at h
  rw [← h]
  simp [hj]

theorem RB.cells {w : World} {x : Addr} {n cap : Nat} {l : List UInt8} (h : RB w (.slice (some x) n cap) l) : n = l.length ∧ ∀ j u, (bvs l)[j]? = some u → w.cell? (x.add j) = some u := by
  obtain ⟨a, ca, he, _, _, _, hc⟩ := h
  simp only [Value.slice.injEq] at he
  obtain ⟨rfl, rfl, rfl⟩ := he
  refine ⟨rfl, fun j u hj => ?_⟩
  obtain ⟨hj2, rfl⟩ := bvs_get hj
  obtain ⟨b, off, hb, hcell⟩ := hc j hj2
  simp only [Option.some.injEq] at hb
  subst hb
  rw [Go.WideShapes.add_plain, hcell]

theorem bvs_one {l : List UInt8} : ∀ u ∈ bvs l, u.oneCell' = true := by
  intro u hu
  obtain ⟨x, _, rfl⟩ := List.mem_map.1 hu
  rfl

/-- Bytes of the call's own, in a block of their own. -/
def OB (B : Nat) (w : World) (g n cap : Nat) (bs : List UInt8) : Prop := w.ownsRow B 5 1 (.slice (some ⟨g, 0, none⟩) n cap) n (bvs bs)

theorem OB.rb {B : Nat} {w : World} {g n cap : Nat} {bs : List UInt8} (h : OB B w g n cap bs) : n = bs.length ∧ RB w (.slice (some ⟨g, 0, none⟩) n cap) bs := by
  have h0 : n = bs.length := by have := h.1; rw [bvs_len] at this; omega
  exact ⟨h0, RB.of_owns h h0⟩

theorem OB.lt {B : Nat} {w : World} {g n cap : Nat} {bs : List UInt8} (h : OB B w g n cap bs) : B ≤ g ∧ g < w.heap.size := World.ownsRow.lt h g rfl

theorem OB.later {B : Nat} {w w' : World} {g n cap : Nat} {bs : List UInt8} (h : OB B w g n cap bs) (hb : Below w.heap.size w w') : OB B w' g n cap bs := by
  refine ⟨h.1, ?_⟩
  rcases h.2 with hn | ⟨g', cap', cur, e1, e2, e3, rest⟩
  · exact .inl hn
  · refine .inr ⟨g', cap', cur, e1, e2, ?_, rest⟩
    rw [hb.block g' (Array.getElem?_eq_some_iff.1 e3).1]
    exact e3

theorem OB.below {B : Nat} {w w' : World} {g n cap : Nat} {bs : List UInt8} (h : OB B w g n cap bs) (hB : B ≤ w.heap.size) (hg : w.grownBy w' (some g)) : Below B w w' :=
  Below.grown (Below.refl _ _) hg hB (fun k hk => by cases hk; exact h.lt.1)

theorem append_bytes {w : World} {ops : Array Oper} {rest : List Oper} {o : Oper} {a : Act} {Q : Exit → Act → World → Prop} (hgd : o.guard = none) (s x : Operand)
    (ho : o.op = .call { callee := .builtin .append, args := #[s, x], argTypes := #[22, 22] }) (base g n cap : Nat) (bs : List UInt8)
    (hs : a.eval s = .slice (some ⟨g, 0, none⟩) n cap) (hown : OB base w g n cap bs) (xv : Value) (l : List UInt8) (hx : a.eval x = xv) (hr : RB w xv l)
    (hn : n ≤ 10000000) (hl : l.length ≤ 1000000) (hbase : base ≤ w.heap.size) (n2 : Nat) (bs2 : List UInt8) (hn2 : n2 = n + l.length) (hbs2 : bs2 = bs ++ l)
    (h : ∀ g' cap' w', OB base w' g' n2 cap' bs2 → w.grownBy w' (some g) → wpList Try.prog ops Q rest (a.put o.dst (.slice (some ⟨g', 0, none⟩) n2 cap')) w') : wpList Try.prog ops Q (o :: rest) a w := by
  subst hn2 hbs2
  obtain ⟨i0, hi, hz0, hz1, hz2⟩ := info_parts Try.info5
  have hr2 := hr
  obtain ⟨ad, cp, rfl, _, _, hnone, hc⟩ := hr
  cases ad with
  | none =>
    have h0 := hnone rfl
    subst h0
    have hl0 : l = [] := by
      cases l with
      | nil => rfl
      | cons y l =>
        obtain ⟨b, off, hb, _⟩ := hc 0 (by simp)
        cases hb
    subst hl0
    refine wpList_append_own_none hgd s x 22 ho base 5 i0 1 Try.underlying22 hi _ n _ hs hown hx ?_
    have := h g cap w (by rw [List.append_nil]; exact hown) ⟨rfl, rfl, rfl, Nat.le_refl _, fun _ _ _ => rfl⟩
    simpa using this
  | some ad =>
    refine wpList_append_own _ hgd s x 22 ho base 5 i0 (.int .u8 0) 1 1 Try.underlying22 hi hz0 hz1 hz2 rfl (by decide) _ n _ hs hown ad l.length cp (bvs l) hx (by rw [bvs_len]; omega) hr2.cells.2 bvs_one (by unfold maxLen; omega) (by omega) hbase ?_
    intro v' w' h1 h2 h3
    rcases h1.2 with ⟨rfl, h5⟩ | ⟨g', cap', cur, rfl, hrest⟩
    · have h6 := h3.1 rfl
      simp at h6
    · exact h g' cap' w' (by unfold OB; rw [bvs_append]; exact h1) h2

/-- A slice of no bytes, made anew. -/
theorem OB.made (w : World) (cap : Nat) (cur : Array Value) (hm : cap ≤ maxLen) (hs : cur.size = cap) : OB w.heap.size (w.alloc (.cells cur 5)) w.heap.size 0 cap [] :=
  World.ownsRow_made w cur cap (Nat.le_refl _) hm (by rw [hs, Nat.mul_one])

set_option maxRecDepth 1000000 in
set_option maxHeartbeats 1000000 in
theorem clone_any (x : Value) (l : List UInt8) (w : World) (hx : RB w x l) (hl : l.length ≤ 1000000) :
    Calls Try.prog 25 #[x] w fun e w' => ∃ v, e = .returned v ∧ w'.ownsRow w.heap.size 5 1 v l.length (bvs l) ∧ Below w.heap.size w w' := by
  have HX : Hid (RB w x l) := hx
  obtain ⟨a, cap, rfl, _, _, h3, hr⟩ := hx
  cases a with
  | none =>
    have hl0 : l = [] := by
      cases l with
      | nil => rfl
      | cons x l =>
        obtain ⟨b, off, h9, _⟩ := hr 0 (by simp)
        cases h9
    subst hl0
    have h0 := h3 rfl
    subst h0
    have hE : ∀ w, (binOp .eql 22 (.slice none 0 0) (.slice none 0 0)).run Try.prog w = .ok (.bool true) w := fun w => Lib.run_eql_slice_nil w 22 5 none 0 0 0 0 Try.underlying22
    have HO : Hid (w.ownsRow w.heap.size 5 1 (.slice none 0 0) 0 []) := World.ownsRow_nil _ _ _ _
    clear HX hr h3
    go_enter Try.func25, Try.ntmps25
    go_wp2_with fail
    go_ret
    exact ⟨_, rfl, HO.out, Below.refl _ _⟩
  | some ad =>
    have hE : ∀ w, (binOp .eql 22 (.slice (some ad) l.length cap) (.slice none 0 0)).run Try.prog w = .ok (.bool false) w := fun w => Lib.run_eql_slice_nil w 22 5 (some ad) l.length cap 0 0 Try.underlying22
    have HB : Hid (Below w.heap.size w (w.alloc (.cells #[] 5))) := (Below.refl _ _).alloc (Nat.le_refl _) _
    have HOwn : Hid (OB w.heap.size (w.alloc (.cells #[] 5)) w.heap.size 0 0 []) := OB.made w 0 #[] (Nat.zero_le _) rfl
    have HR : Hid (RB (w.alloc (.cells #[] 5)) (.slice (some ad) l.length cap) l) := HX.out.later HB.out
    clear HX hr h3
    go_enter Try.func25, Try.ntmps25
    go_wp2_with (at_builtin; refine append_bytes rfl _ _ rfl w.heap.size w.heap.size 0 0 [] rfl HOwn.out _ l rfl HR.out (by omega) hl (by simp) l.length l (by omega) rfl ?_; intro g7 c7 w7 ho7 hg7)
    go_ret
    have hb7 : Below w.heap.size w w7 := HB.out.trans (HOwn.out.below (by simp) hg7)
    exact ⟨_, rfl, ho7, hb7⟩
end Go.Proofs.Ytnekaflanaleeaa
