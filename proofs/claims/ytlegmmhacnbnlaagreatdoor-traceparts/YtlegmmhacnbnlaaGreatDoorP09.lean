/- Texts of the seat, packed: DPa DQa DQb DQc DQd. -/
import Derived.Laws.Bits64b
import Derived.Lib.TrailingZeros
import Derived.Test.YtlegmmhacnbnlaaGreatDoorChecked
import Derived.Below
import Derived.BigQuiet
import Derived.Deep.QuietTactic
import Derived.Deep.RegionLaw
import Derived.Laws.OwnMore
import Derived.Maps.AppendAt
import Derived.Shelf.Spec.TrailingZeros
import Derived.WalkKit
import Derived.Defers
/- Sets of nodes as bits of one number (plain words; no program is named). -/
namespace Go.Proofs.YtlegmmhacnbnlaaGreatDoor.Dg

/-- Those of a that are not in b. -/
def dif (a b : Nat) : Nat := a ^^^ (a &&& b)

theorem dif_bit (a b i : Nat) : (dif a b).testBit i = (a.testBit i && !b.testBit i) := by
  simp only [dif, Nat.testBit_xor, Nat.testBit_and]
  cases a.testBit i <;> cases b.testBit i <;> rfl

theorem eq_zero {a : Nat} (h : ∀ i, a.testBit i = false) : a = 0 := Nat.eq_of_testBit_eq (fun i => by rw [h i, Nat.zero_testBit])

theorem dif_zero {a b : Nat} : dif a b = 0 ↔ ∀ i, a.testBit i = true → b.testBit i = true := by
  constructor
  · intro h i ha
    have := dif_bit a b i
    rw [h, Nat.zero_testBit, ha] at this
    cases hb : b.testBit i with
    | true => rfl
    | false => rw [hb] at this; cases this
  · intro h
    refine eq_zero fun i => ?_
    rw [dif_bit]
    cases ha : a.testBit i with
    | false => rfl
    | true => rw [h i ha]; rfl

theorem bit_lt {a i : Nat} (ha : a < 18446744073709551616) (h : a.testBit i = true) : i < 64 := by
  rcases Nat.lt_or_ge i 64 with h1 | h1
  · exact h1
  · have h3 : 2 ^ 64 ≤ 2 ^ i := Nat.pow_le_pow_right (by decide) h1
    have : a.testBit i = false := Nat.testBit_lt_two_pow (by omega)
    rw [this] at h
    cases h

theorem dif_lt {a b : Nat} (ha : a < 18446744073709551616) : dif a b < 18446744073709551616 := by
  have : dif a b < 2 ^ 64 := by
    refine Nat.lt_pow_two_of_testBit _ fun i hi => ?_
    rw [dif_bit]
    have h3 : 2 ^ 64 ≤ 2 ^ i := Nat.pow_le_pow_right (by decide) hi
    rw [Nat.testBit_lt_two_pow (show a < 2 ^ i by omega)]
    rfl
  omega

theorem bits_andNot_u64_nat (a b : Nat) (ha : a < 18446744073709551616) (hb : b < 18446744073709551616) :
    bits .andNot .u64 (a : Int) (b : Int) = ((dif a b : Nat) : Int) := by
  have h1 : (BitVec.ofInt 64 (a : Int)).toNat = a := by
    rw [BitVec.ofInt_natCast, BitVec.toNat_ofNat]; exact Nat.mod_eq_of_lt (by omega)
  have h2 : (BitVec.ofInt 64 (b : Int)).toNat = b := by
    rw [BitVec.ofInt_natCast, BitVec.toNat_ofNat]; exact Nat.mod_eq_of_lt (by omega)
  have h3 : a &&& (2 ^ 64 - 1 - b) = dif a b := by
    apply Nat.eq_of_testBit_eq
    intro i
    rw [Nat.testBit_and, dif_bit, show 2 ^ 64 - 1 - b = 2 ^ 64 - (b + 1) by omega, Nat.testBit_two_pow_sub_succ (by omega)]
    cases hi : a.testBit i with
    | false => rfl
    | true => simp [bit_lt ha hi]
  have h4 := dif_lt (b := b) ha
  show IntKind.u64.wrap ((BitVec.ofInt 64 (a : Int) &&& ~~~ BitVec.ofInt 64 (b : Int)).toNat : Int) = _
  rw [BitVec.toNat_and, BitVec.toNat_not, h1, h2, h3, IntKind.wrap_u64]
  omega

/-- The least one. -/
def low (x : Nat) : Nat := Lib.ctz 64 x

theorem low_form {x : Nat} (h0 : x ≠ 0) (hx : x < 18446744073709551616) : ∃ m, x = 2 ^ low x * (2 * m + 1) ∧ low x < 64 := by
  unfold low Lib.ctz
  rw [if_neg h0]
  exact Lib.ctzFrom_spec 64 x (by omega) (by omega)

theorem low_bit {x : Nat} (h0 : x ≠ 0) (hx : x < 18446744073709551616) : x.testBit (low x) = true ∧ (∀ i, i < low x → x.testBit i = false) ∧ low x < 64 := by
  obtain ⟨m, hm, hk⟩ := low_form h0 hx
  generalize low x = k at *
  refine ⟨?_, fun i hi => ?_, hk⟩
  · rw [hm, Nat.mul_comm, Nat.testBit_mul_two_pow]
    simp
  · rw [hm, Nat.mul_comm, Nat.testBit_mul_two_pow]
    simp
    omega

/-- Without the least one. -/
theorem drop_low {x : Nat} (h0 : x ≠ 0) (hx : x < 18446744073709551616) (i : Nat) : (x &&& (x - 1)).testBit i = (x.testBit i && decide (i ≠ low x)) := by
  obtain ⟨h1, h2, h3⟩ := low_bit h0 hx
  obtain ⟨m, hm, _⟩ := low_form h0 hx
  rw [Nat.testBit_and]
  generalize low x = k at *
  rcases Nat.lt_trichotomy i k with hi | hi | hi
  · rw [h2 i hi]; rfl
  · subst hi
    have hp : 0 < 2 ^ i := Nat.two_pow_pos i
    have e : x - 1 = 2 * m * 2 ^ i + (2 ^ i - 1) := by rw [hm, Nat.mul_add, Nat.mul_comm (2 ^ i) (2 * m)]; omega
    have : (x - 1).testBit i = false := by
      rw [Nat.testBit_eq_decide_div_mod_eq, e]
      have : (2 * m * 2 ^ i + (2 ^ i - 1)) / 2 ^ i = 2 * m := by
        rw [Nat.mul_comm, Nat.mul_add_div hp, Nat.div_eq_of_lt (by omega), Nat.add_zero]
      rw [this]
      simp
    rw [this]
    simp
  · have hp : 0 < 2 ^ (k + 1) := Nat.two_pow_pos _
    have e1 : x / 2 ^ (k + 1) = m := by
      rw [hm, show 2 ^ k * (2 * m + 1) = 2 ^ (k + 1) * m + 2 ^ k by rw [Nat.pow_succ, Nat.mul_add, Nat.mul_assoc]; omega, Nat.mul_add_div hp, Nat.div_eq_of_lt (by rw [Nat.pow_succ]; have := Nat.two_pow_pos k; omega), Nat.add_zero]
    have e2 : (x - 1) / 2 ^ (k + 1) = m := by
      have hk : 0 < 2 ^ k := Nat.two_pow_pos k
      rw [hm, show 2 ^ k * (2 * m + 1) - 1 = 2 ^ (k + 1) * m + (2 ^ k - 1) by rw [Nat.pow_succ, Nat.mul_add, Nat.mul_assoc]; omega, Nat.mul_add_div hp, Nat.div_eq_of_lt (by rw [Nat.pow_succ]; omega), Nat.add_zero]
    have e3 : (x - 1).testBit i = x.testBit i := by
      obtain ⟨j, rfl⟩ : ∃ j, i = (k + 1) + j := ⟨i - (k + 1), by omega⟩
      rw [Nat.testBit_eq_decide_div_mod_eq, Nat.testBit_eq_decide_div_mod_eq, Nat.pow_add, ← Nat.div_div_eq_div_mul, ← Nat.div_div_eq_div_mul, e1, e2]
    rw [e3]
    have : decide (i ≠ k) = true := by simp; omega
    rw [this]
    cases x.testBit i <;> rfl

/-- The nodes of a set, rising. -/
def bitsOf (s : Nat) : List Nat := (List.range 64).filter fun i => s.testBit i

theorem mem_bitsOf {s i : Nat} (hs : s < 18446744073709551616) : i ∈ bitsOf s ↔ s.testBit i = true := by
  unfold bitsOf
  rw [List.mem_filter, List.mem_range]
  exact ⟨fun h => h.2, fun h => ⟨bit_lt hs h, h⟩⟩

theorem bitsOf_zero : bitsOf 0 = [] := by simp [bitsOf]

theorem bitsOf_len (s : Nat) : (bitsOf s).length ≤ 64 := by
  have := List.length_filter_le (fun i => s.testBit i) (List.range 64)
  simpa [bitsOf] using this

theorem range_at (k : Nat) (h : k < 64) : List.range 64 = List.range k ++ (k :: List.range' (k + 1) (63 - k)) := by
  rw [List.range_eq_range', List.range_eq_range']
  have h1 : List.range' 0 64 = List.range' 0 k ++ List.range' (0 + k) (64 - k) := by
    rw [List.range'_append_1]
    congr 1
    omega
  rw [h1, Nat.zero_add, show 64 - k = (63 - k) + 1 by omega, List.range'_succ]

theorem bitsOf_step {s : Nat} (h0 : s ≠ 0) (hs : s < 18446744073709551616) : bitsOf s = low s :: bitsOf (s &&& (s - 1)) := by
  obtain ⟨h1, h2, h3⟩ := low_bit h0 hs
  have hd := drop_low h0 hs
  unfold bitsOf
  generalize low s = k at *
  rw [range_at k h3, List.filter_append, List.filter_append, List.filter_cons, List.filter_cons]
  have e1 : (List.range k).filter (fun i => s.testBit i) = [] := by
    rw [List.filter_eq_nil_iff]
    intro i hi
    rw [h2 i (List.mem_range.1 hi)]
    decide
  have e2 : (List.range k).filter (fun i => (s &&& (s - 1)).testBit i) = [] := by
    rw [List.filter_eq_nil_iff]
    intro i hi
    rw [hd, h2 i (List.mem_range.1 hi)]
    simp
  have e3 : (List.range' (k + 1) (63 - k)).filter (fun i => (s &&& (s - 1)).testBit i) = (List.range' (k + 1) (63 - k)).filter (fun i => s.testBit i) := by
    apply List.filter_congr
    intro i hi
    rw [List.mem_range'_1] at hi
    rw [hd]
    have : decide (i ≠ k) = true := by simp; omega
    rw [this, Bool.and_true]
  have e4 : (s &&& (s - 1)).testBit k = false := by rw [hd]; simp
  rw [e1, e2, e3, h1, e4]
  simp

theorem sub_lt64 {s : Nat} (hs : s < 18446744073709551616) : s &&& (s - 1) < 18446744073709551616 := by
  have : s &&& (s - 1) < 2 ^ 64 := Nat.and_lt_two_pow _ (by omega)
  omega

theorem or_bit (a k i : Nat) : (a ||| 2 ^ k).testBit i = (a.testBit i || decide (i = k)) := by
  rw [Nat.testBit_or, Nat.testBit_two_pow]
  congr 1
  exact decide_eq_decide.2 ⟨fun h => h.symm, fun h => h.symm⟩

theorem or_lt {a b : Nat} (ha : a < 18446744073709551616) (hb : b < 18446744073709551616) : a ||| b < 18446744073709551616 := by
  have : a ||| b < 2 ^ 64 := Nat.or_lt_two_pow (by omega) (by omega)
  omega

theorem two_lt {k : Nat} (h : k < 64) : 2 ^ k < 18446744073709551616 := by
  have : 2 ^ k < 2 ^ 64 := Nat.pow_lt_pow_right (by decide) h
  omega

/-- Of the first k nodes those that lean on none but those. -/
def freeTo (W : List Nat) (those : Nat) : Nat → Nat
  | 0 => 0
  | k + 1 => if dif (W.getD k 0) those = 0 then freeTo W those k ||| 2 ^ k else freeTo W those k

theorem freeTo_bit (W : List Nat) (those : Nat) : ∀ k i, (freeTo W those k).testBit i = (decide (i < k) && decide (dif (W.getD i 0) those = 0)) := by
  intro k
  induction k with
  | zero => intro i; simp [freeTo]
  | succ k ih =>
    intro i
    unfold freeTo
    split
    · rename_i h
      rw [or_bit, ih]
      by_cases hi : i = k
      · subst hi
        rw [decide_eq_true h]
        simp
      · have : decide (i < k + 1) = decide (i < k) := by simp; omega
        rw [this]
        simp [hi]
    · rename_i h
      rw [ih]
      by_cases hi : i = k
      · subst hi
        rw [decide_eq_false h]
        simp
      · have : decide (i < k + 1) = decide (i < k) := by simp; omega
        rw [this]

theorem freeTo_lt (W : List Nat) (those : Nat) (k : Nat) (hk : k ≤ 64) : freeTo W those k < 18446744073709551616 := by
  have : freeTo W those k < 2 ^ 64 := by
    refine Nat.lt_pow_two_of_testBit _ fun i hi => ?_
    rw [freeTo_bit]
    have : decide (i < k) = false := by simp; omega
    rw [this]
    rfl
  omega

end Go.Proofs.YtlegmmhacnbnlaaGreatDoor.Dg

/- The program's small functions over bits: TrailingZeros64, only, has, isNode. -/
namespace Go.Proofs.YtlegmmhacnbnlaaGreatDoor.Dg

open Go.RowKit

theorem lt_of_cell? {w : World} {a : Addr} {v : Value} (h : w.cell? a = some v) : a.block < w.heap.size := by
  unfold World.cell? at h
  cases ho : w.heap[a.block]? with
  | none => simp [ho] at h
  | some o => exact (Array.getElem?_eq_some_iff.1 ho).1

theorem cell_row {w : World} {b : Nat} {cs : Array Value} {t : TypeId} (h : w.heap[b]? = some (.cells cs t (0, 0))) (i : Nat) : w.cell? ⟨b, i, none⟩ = cs[i]? := by
  simp [World.cell?, h]

theorem froz_row {w : World} {b : Nat} {cs : Array Value} {t : TypeId} (h : w.heap[b]? = some (.cells cs t (0, 0))) (i : Nat) : w.frozen? ⟨b, i, none⟩ = false := by
  simp [World.frozen?, h]

theorem row_set {w : World} {b : Nat} {cs : Array Value} {t : TypeId} (h : w.heap[b]? = some (.cells cs t (0, 0))) (i : Nat) (v : Value) : (w.setCell ⟨b, i, none⟩ v).heap[b]? = some (.cells (cs.setIfInBounds i v) t (0, 0)) := by
  obtain ⟨hlt, hk'⟩ := Array.getElem?_eq_some_iff.1 h
  simp only [World.setCell]
  rw [Array.getElem?_eq_getElem (by rw [Array.size_modify]; exact hlt), Array.getElem_modify_self, hk']
  rfl

theorem row_new (w : World) (cs : Array Value) (t : TypeId) : (w.alloc (.cells cs t)).heap[w.heap.size]? = some (.cells cs t (0, 0)) := by
  show (w.heap.push _)[w.heap.size]? = _
  simp

theorem row_alloc {w : World} {b : Nat} {x : Obj} (h : w.heap[b]? = some x) (o : Obj) : (w.alloc o).heap[b]? = some x :=
  (Below.heap_alloc _ _ _ (Array.getElem?_eq_some_iff.1 h).1).trans h

theorem row_other {w : World} {b c i : Nat} {x : Obj} (h : w.heap[b]? = some x) (v : Value) (hn : b ≠ c) : (w.setCell ⟨c, i, none⟩ v).heap[b]? = some x :=
  (Below.heap_setCell w ⟨c, i, none⟩ v b hn).trans h

theorem cell_later {w w' : World} {b i : Nat} {v : Value} (hb : Below w.heap.size w w') (h : w.cell? ⟨b, i, none⟩ = some v) : w'.cell? ⟨b, i, none⟩ = some v :=
  (World.cell?_of_block (a := ⟨b, i, none⟩) (hb.block b (lt_of_cell? h))).trans h

theorem bl_drawn1 {B : Nat} {w w' : World} (h : Below B w w') : Below B w w'.drew := ⟨h.os, h.tape, h.output, h.size, h.block⟩

theorem add_zero' (g j : Nat) : (⟨g, 0, none⟩ : Addr).add j = ⟨g, j, none⟩ := by unfold Addr.add; split <;> simp_all

theorem new_cells (w : World) (l : List Value) (t : TypeId) : ∀ j u, l[j]? = some u → (w.alloc (.cells l.toArray t)).cell? ((⟨w.heap.size, 0, none⟩ : Addr).add j) = some u := fun j u h => by
  rw [add_zero', World.cell?_alloc_new]
  simpa using h

theorem ownsRow_succ' {W : World} {base : Nat} {e : TypeId} {size : Nat} {v : Value} {k : Nat} {xs : List Value} (h : W.ownsRow base e size v (k + 1) xs) : ∃ g cap, v = .slice (some ⟨g, 0, none⟩) (k + 1) cap := by
  rcases h.2 with ⟨_, h0⟩ | ⟨g, cap, cur, rfl, _⟩
  · omega
  · exact ⟨g, cap, rfl⟩

/-- The table that TrailingZeros64 reads lies as its initialiser lays it. -/
def Tab (w : World) : Prop := TabAt 0 Lib.deBruijn64tab w

theorem Tab.later {w w' : World} (h : Tab w) (hb : Below w.heap.size w w') : Tab w' := fun j hj => cell_later hb (h j hj)

set_option maxHeartbeats 1000000 in
set_option maxRecDepth 1000000 in
theorem tz_core (x k idx : Nat) (w : World) (hx0 : ((x : Int) == 0) = false)
    (key : IntKind.u64.wrap (bits BinOp.and IntKind.u64 (x : Int) (IntKind.u64.wrap (-(x : Int))) * 285870213051353865) / 288230376151711744 = (idx : Int))
    (hi : idx < 64) (hk : k < 64) (hcell : w.cell? ⟨0, idx, none⟩ = some (.int .u8 k)) :
    Calls Tryz.prog 71 #[.int .u64 x] w fun e w' => e = .returned (.int .i64 k) ∧ w' = w := by
  go_enter Tryz.func71, Tryz.ntmps71
  go_wp2_with (simp only [key])
  go_ret
  exact ⟨rfl, rfl⟩

theorem tz_any (x : Nat) (h0 : x ≠ 0) (hx : x < 18446744073709551616) (w : World) (hT : Tab w) :
    Calls Tryz.prog 71 #[.int .u64 x] w fun e w' => e = .returned (.int .i64 (low x : Nat)) ∧ w' = w := by
  obtain ⟨hlow, hk⟩ := Lib.lowest_bit 64 x h0 hx
  obtain ⟨hi, htab⟩ := Lib.deBruijn64_at _ hk
  have hcell := hT _ hi
  rw [htab] at hcell
  exact tz_core x _ _ w (by simp; omega) (tz64_key x _ hx h0 hlow) hi hk hcell

theorem wrap_pow {k : Nat} (h : k < 64) : IntKind.u64.wrap ((2 : Int) ^ k) = ((2 ^ k : Nat) : Int) := by
  have h1 : ((2 : Int) ^ k) = ((2 ^ k : Nat) : Int) := by push_cast; rfl
  have h2 := two_lt h
  rw [h1, IntKind.wrap_u64]
  generalize 2 ^ k = p at *
  omega

set_option maxRecDepth 1000000 in
theorem only_any (k : Nat) (hk : k < 64) (w : World) : Calls Tryz.prog 68 #[.int .i64 (k : Int)] w fun e w' => e = .returned (.int .u64 ((2 ^ k : Nat) : Int)) ∧ w' = w := by
  go_enter Tryz.func68, Tryz.ntmps68
  go_wp2
  go_ret
  exact ⟨by rw [wrap_pow hk]; rfl, rfl⟩

set_option maxRecDepth 1000000 in
theorem isNode_any (k n : Int) (w : World) : Calls Tryz.prog 67 #[.int .i64 k, .int .i64 n] w fun e w' => e = .returned (.bool (decide (0 ≤ k ∧ k < n))) ∧ w' = w := by
  by_cases h : 0 ≤ k
  · have hd : decide (0 ≤ k ∧ k < n) = decide (k < n) := by simp [h]
    go_enter Tryz.func67, Tryz.ntmps67
    go_wp2_with fail
    go_ret
    exact ⟨by rw [hd]; rfl, rfl⟩
  · have hd : decide (0 ≤ k ∧ k < n) = false := by simp [h]
    have hd2 : decide (0 ≤ k) = false := by simp; omega
    go_enter Tryz.func67, Tryz.ntmps67
    go_wp2_with fail
    go_ret
    exact ⟨rfl, rfl⟩

/-- A slice of sets. -/
def RdU (w : World) (v : Value) (W : List Nat) : Prop := ∃ a cap, v = .slice a W.length cap ∧ W.length ≤ cap ∧ (∀ x ∈ W, x < 18446744073709551616) ∧ ∀ (i : Nat) (x : Nat), W[i]? = some x → ∃ b off, a = some ⟨b, off, none⟩ ∧ w.cell? ⟨b, off + i, none⟩ = some (.int .u64 (x : Int))

/-- A slice of nodes. -/
def RdI (w : World) (v : Value) (l : List Nat) : Prop := ∃ a cap, v = .slice a l.length cap ∧ l.length ≤ cap ∧ ∀ (i : Nat) (x : Nat), l[i]? = some x → ∃ b off, a = some ⟨b, off, none⟩ ∧ w.cell? ⟨b, off + i, none⟩ = some (.int .i64 (x : Int))

theorem RdU.later {w w' : World} {v : Value} {W : List Nat} (h : RdU w v W) (hb : Below w.heap.size w w') : RdU w' v W := by
  obtain ⟨a, cap, hv, hc, hl, hr⟩ := h
  refine ⟨a, cap, hv, hc, hl, fun i x hi => ?_⟩
  obtain ⟨b, off, ha, c0⟩ := hr i x hi
  exact ⟨b, off, ha, cell_later hb c0⟩

theorem RdI.later {w w' : World} {v : Value} {l : List Nat} (h : RdI w v l) (hb : Below w.heap.size w w') : RdI w' v l := by
  obtain ⟨a, cap, hv, hc, hr⟩ := h
  refine ⟨a, cap, hv, hc, fun i x hi => ?_⟩
  obtain ⟨b, off, ha, c0⟩ := hr i x hi
  exact ⟨b, off, ha, cell_later hb c0⟩

def ivs (l : List Nat) : List Value := l.map fun (x : Nat) => .int .i64 (x : Int)

theorem RdI.of_own {w : World} {B : Nat} {v : Value} {l : List Nat} (h : w.ownsRow B 3 1 v l.length (ivs l)) : RdI w v l := by
  rcases h.2 with ⟨rfl, h0⟩ | ⟨g, cap, cur, rfl, hb, hg, hnc, hcm, _⟩
  · have h1 : l = [] := List.eq_nil_of_length_eq_zero h0
    subst h1
    exact ⟨none, 0, rfl, Nat.le_refl _, by simp⟩
  · refine ⟨_, cap, rfl, hnc, fun i x hi => ⟨g, 0, rfl, ?_⟩⟩
    have := h.cells (g := g) rfl i (.int .i64 (x : Int)) (by simp [ivs, hi])
    rw [add_zero'] at this
    rw [Nat.zero_add]
    exact this

set_option maxRecDepth 1000000 in
set_option maxHeartbeats 1000000 in
theorem free_any (W : List Nat) (v : Value) (those : Nat) (w : World) (hW : RdU w v W) (hn : W.length ≤ 64) (ht : those < 18446744073709551616) :
    Calls Tryz.prog 85 #[v, .int .u64 (those : Int)] w fun e w' => e = .returned (.int .u64 (freeTo W those W.length : Int)) ∧ w' = w := by
  obtain ⟨a, cap, rfl, hc, hl, hr⟩ := hW
  have HR : Hid _ := hr
  have HL : Hid _ := hl
  obtain ⟨n, HN⟩ : ∃ n, Hid (W.length = n) := ⟨_, rfl⟩
  rw [HN.out] at hn hc ⊢
  clear hr hl
  go_enter Tryz.func85, Tryz.ntmps85
  go_wp2_with fail
  go_loopw [5, 6, 7, 10] (fun sv _ _ iv wr => ∃ (k : Nat), k ≤ n ∧ iv = .int .i64 k ∧ sv = .int .u64 (freeTo W those k : Int) ∧ wr = w) (fun _ _ _ iv _ => n - (intOf iv).toNat)
  case atStart => exact ⟨0, Nat.zero_le _, rfl, rfl, rfl⟩
  case round =>
    obtain ⟨k, hk, rfl, rfl, rfl⟩ := hrel
    by_cases hlt : k < n
    · obtain ⟨x, hx⟩ : ∃ x, W[k]? = some x := ⟨_, List.getElem?_eq_getElem (by rw [HN.out]; exact hlt)⟩
      obtain ⟨b, off, rfl, c0⟩ := HR.out k x hx
      have hx64 := HL.out x (List.mem_of_getElem? hx)
      have hki : (k : Int) < (n : Int) := by omega
      have e1 := bits_andNot_u64_nat x those hx64 ht
      have hg : W.getD k 0 = x := by rw [List.getD_eq_getElem?_getD, hx]; rfl
      have hf := freeTo_lt W those k (by omega)
      have h2 := two_lt (show k < 64 by omega)
      have e2 := bits_or_u64_nat (freeTo W those k) (2 ^ k) hf h2
      by_cases hd : dif x those = 0
      · have HS : Hid (freeTo W those (k + 1) = freeTo W those k ||| 2 ^ k) := by show _ = _; rw [freeTo, hg, if_pos hd]
        have M1 : Hid _ := only_any k (by omega) wr
        rw [hd] at e1
        generalize freeTo W those k = fk at *
        generalize 2 ^ k = pk at *
        clear hx hg
        go_wp2_with fail
        refine Calls.mono M1.out ?_
        rintro e w1 ⟨rfl, rfl⟩
        go_wp2_with fail
        go_roundw
        case rel => exact ⟨k + 1, by omega, by go_num, by rw [HS.out], trivial⟩
        case measure => simp [intOf]; omega
      · have HS : Hid (freeTo W those (k + 1) = freeTo W those k) := by show _ = _; rw [freeTo, hg, if_neg hd]
        have hdn : (((dif x those : Nat) : Int) == 0) = false := by simp; omega
        generalize freeTo W those k = fk at *
        generalize 2 ^ k = pk at *
        clear hx hg
        go_wp2_with fail
        go_roundw
        case rel => exact ⟨k + 1, by omega, by go_num, by rw [HS.out], trivial⟩
        case measure => simp [intOf]; omega
    · have hkn : k = n := by omega
      subst hkn
      go_wp2_with fail
      go_ret
      exact ⟨rfl, rfl⟩

end Go.Proofs.YtlegmmhacnbnlaaGreatDoor.Dg

/- The program's nodes and order. -/
namespace Go.Proofs.YtlegmmhacnbnlaaGreatDoor.Dg

open Go.RowKit

theorem Tryz.info3 : (Tryz.prog.info? 3).map (fun i => (i.zero, i.size, i.bytes)) = some (some (.int .i64 0), 1, 8) := by kernel_rfl

theorem ivs_snoc (l : List Nat) (x : Nat) : ivs (l ++ [x]) = ivs l ++ [.int .i64 (x : Int)] := by simp [ivs]

set_option maxRecDepth 1000000 in
set_option maxHeartbeats 1000000 in
theorem nodes_any (s : Nat) (hs : s < 18446744073709551616) (w : World) (hT : Tab w) :
    Calls Tryz.prog 47 #[.int .u64 (s : Int)] w fun e w' => ∃ v, e = .returned v ∧ Below w.heap.size w w' ∧ w'.ownsRow w.heap.size 3 1 v (bitsOf s).length (ivs (bitsOf s)) := by
  obtain ⟨i0, hi0, hz0, hz1, hz2⟩ := info_parts Tryz.info3
  obtain ⟨G, HG⟩ : ∃ G, Hid (bitsOf s = G) := ⟨_, rfl⟩
  rw [HG.out]
  have hG64 : G.length ≤ 64 := by rw [← HG.out]; exact bitsOf_len s
  have HT : Hid (Tab w) := hT
  have HB0 : Hid (Below w.heap.size w w) := Below.refl _ _
  have HA0 : Hid (([] : List Nat) ++ bitsOf s = G) := HG
  clear hT
  go_enter Tryz.func47, Tryz.ntmps47
  go_wp2_with fail
  go_loopw [0, 3] (fun sv lv wr => ∃ (t : Nat) (acc : List Nat), t < 18446744073709551616 ∧ sv = .int .u64 (t : Int) ∧ Hid (wr.ownsRow w.heap.size 3 1 lv acc.length (ivs acc)) ∧ Hid (acc ++ bitsOf t = G) ∧ Hid (Below w.heap.size w wr)) (fun sv _ _ => (bitsOf (intOf sv).toNat).length)
  case atStart => exact ⟨s, [], hs, rfl, World.ownsRow_nil _ _ _ _, HA0, HB0⟩
  case round =>
    obtain ⟨t, acc, ht, rfl, HO, HA, HB⟩ := hrel
    rename World => w1
    clear HB0 HA0
    by_cases h0 : t = 0
    · subst h0
      have hacc : acc = G := by have := HA.out; rwa [bitsOf_zero, List.append_nil] at this
      subst hacc
      go_wp2_with fail
      go_ret
      exact ⟨_, rfl, HB.out, HO.out⟩
    · have h0b : (((t : Nat) : Int) != 0) = true := by simp; omega
      have hb := bitsOf_step h0 ht
      have hlow := (low_bit h0 ht).2.2
      have M1 : Hid _ := tz_any t h0 ht w1 (HT.out.later HB.out)
      have hz := HB.out.size
      have hal : acc.length ≤ 64 := by have := congrArg List.length HA.out; simp at this; omega
      have e1 : IntKind.u64.wrap ((t : Int) - 1) = ((t - 1 : Nat) : Int) := by rw [IntKind.wrap_u64]; omega
      have e2 := bits_and_u64_nat t (t - 1) ht (by omega)
      have ho := HO.out
      have HA2 : Hid ((acc ++ [low t]) ++ bitsOf (t &&& (t - 1)) = G) := by
        show _ = _
        rw [← HA.out, hb]
        simp
      have HM : Hid ((bitsOf t).length = (bitsOf (t &&& (t - 1))).length + 1) := by show _ = _; rw [hb]; rfl
      have ht2 := sub_lt64 ht
      clear hb HA HO
      generalize low t = lo at *
      go_wp2_with fail
      refine Calls.mono M1.out ?_
      rintro e w2 ⟨rfl, rfl⟩
      go_wp2_with (at_builtin; refine wpList_append_own_at _ rfl _ _ 32 rfl w.heap.size 3 i0 _ 1 8 Tryz.underlying32 hi0 hz0 hz1 hz2 rfl (by decide) _ acc.length (ivs acc) rfl (ho.alloc _) ⟨w2.heap.size, 0, none⟩ 1 1 [.int .i64 (lo : Int)] rfl rfl (new_cells w2 [.int .i64 (lo : Int)] 3) (by simp [Value.oneCell']) (by unfold maxLen; omega) (by omega) (by simp; omega) ?_; intro v5 w5 ho5 hg5 _ hat5; obtain ⟨g5, cap5, rfl⟩ := ownsRow_succ' ho5)
      have HB5 : Hid (Below w.heap.size w w5) := Below.grown (HB.out.alloc hz _) hg5 (by simp; omega) (fun j hj => (ho.lt _ hj).1)
      have HO5 : Hid (w5.ownsRow w.heap.size 3 1 (.slice (some ⟨g5, 0, none⟩) (acc.length + 1) cap5) (acc ++ [lo]).length (ivs (acc ++ [lo]))) := by
        show World.ownsRow _ _ _ _ _ _ _
        rw [ivs_snoc]
        simpa using ho5
      clear ho hg5 hat5 ho5 HB
      go_wp2_with fail
      go_roundw
      case rel => exact ⟨t &&& (t - 1), acc ++ [lo], ht2, rfl, HO5, HA2, HB5⟩
      case measure =>
        have := HM.out
        simp [intOf]
        omega

end Go.Proofs.YtlegmmhacnbnlaaGreatDoor.Dg

/- The program's order. -/
namespace Go.Proofs.YtlegmmhacnbnlaaGreatDoor.Dg

open Go.RowKit

/-- Those that may come next. -/
def nextS (W : List Nat) (there : Nat) : Nat := dif (freeTo W there W.length) there

/-- So many more are put behind those that are there; none: there is a circle. -/
def ordGo (W : List Nat) : Nat → Nat → List Nat → Option (List Nat)
  | 0, _, acc => some acc
  | k + 1, there, acc => if nextS W there = 0 then none else ordGo W k (there ||| 2 ^ low (nextS W there)) (acc ++ [low (nextS W there)])

def ordW (W : List Nat) : Option (List Nat) := ordGo W W.length 0 []

/-- How order ends. -/
def OrdC (W : List Nat) (w : World) (e : Ending) (w' : World) : Prop := Below w.heap.size w w' ∧
  ((∃ l v, ordW W = some l ∧ e = .returned v ∧ w'.ownsRow w.heap.size 3 1 v l.length (ivs l) ∧ l.length = W.length) ∨ (ordW W = none ∧ e = .panicked [{ v := .iface 28 (.int .i64 13), recovered := false }]))

theorem Tryz.cells3 : Tryz.prog.cellsOf 3 = 1 := by kernel_rfl

set_option maxRecDepth 1000000 in
set_option maxHeartbeats 1000000 in
theorem order_any (W : List Nat) (v : Value) (w : World) (hW : RdU w v W) (hn : W.length ≤ 64) (hT : Tab w) :
    Calls Tryz.prog 70 #[v] w fun e w' => OrdC W w e w' := by
  obtain ⟨i0, hi0, hz0, hz1, hz2⟩ := info_parts Tryz.info3
  have HW : Hid (RdU w v W) := hW
  obtain ⟨a, cap, rfl, hc, hl, hr⟩ := hW
  have HT : Hid (Tab w) := hT
  obtain ⟨n, HN⟩ : ∃ n, Hid (W.length = n) := ⟨_, rfl⟩
  rw [HN.out] at hn hc HW ⊢
  have hmk := run_make (P := Tryz.prog) w 32 3 i0 _ Tryz.underlying32 hi0 hz0 .i64 .i64 0 (n : Int) (by omega) (by omega) (by rw [hz2]; omega) (by omega)
  rw [hz1] at hmk
  simp only [Int.toNat_zero, Int.toNat_natCast] at hmk
  have HO0 : Hid ((w.alloc (.cells (madeCells #[Value.int .i64 0] n) 3)).ownsRow w.heap.size 3 1 (.slice (some ⟨w.heap.size, 0, none⟩) 0 n) ([] : List Nat).length (ivs [])) := World.ownsRow_made w _ n (Nat.le_refl _) (by unfold maxLen; omega) (by rw [size_madeCells, Nat.mul_one])
  have HB0 : Hid (Below w.heap.size w (w.alloc (.cells (madeCells #[Value.int .i64 0] n) 3))) := (Below.refl _ _).alloc (Nat.le_refl _) _
  have HE0 : Hid (ordW W = ordGo W n 0 []) := by show _ = _; unfold ordW; rw [HN.out]
  clear hr hl hT
  go_enter Tryz.func70, Tryz.ntmps70
  go_wp2_with fail
  go_loopw [3, 4, 5, 6, 12] (fun tv ov _ _ iv wr => ∃ (k there : Nat) (acc : List Nat), k ≤ n ∧ there < 18446744073709551616 ∧ iv = .int .i64 k ∧ tv = .int .u64 (there : Int) ∧ Hid (wr.ownsRow w.heap.size 3 1 ov acc.length (ivs acc)) ∧ Hid (acc.length = k) ∧ Hid (ordW W = ordGo W (n - k) there acc) ∧ Hid (Below w.heap.size w wr)) (fun _ _ _ _ iv _ => n - (intOf iv).toNat)
  case atStart => exact ⟨0, 0, [], Nat.zero_le _, by omega, rfl, rfl, HO0, rfl, HE0, HB0⟩
  case round =>
    obtain ⟨k, there, acc, hk, hth, rfl, rfl, HO, HL, HE, HB⟩ := hrel
    rename World => w1
    rename_i ov _ _
    clear HO0 HE0 HB0 hmk
    by_cases hlt : k < n
    · have hki : (k : Int) < (n : Int) := by omega
      have M1 : Hid _ := free_any W (.slice a n cap) there w1 (HW.out.later HB.out) (by rw [HN.out]; exact hn) hth
      have hfr := freeTo_lt W there n hn
      have e1 := bits_andNot_u64_nat (freeTo W there n) there hfr hth
      have hnx : nextS W there = dif (freeTo W there n) there := by unfold nextS; rw [HN.out]
      have hnl : dif (freeTo W there n) there < 18446744073709551616 := dif_lt hfr
      have HES : Hid (ordW W = if nextS W there = 0 then none else ordGo W (n - (k + 1)) (there ||| 2 ^ low (nextS W there)) (acc ++ [low (nextS W there)])) := by
        show _ = _
        rw [HE.out, show n - k = (n - (k + 1)) + 1 by omega]
        rfl
      rw [hnx] at HES
      rw [HN.out] at M1
      clear HE hnx
      generalize dif (freeTo W there n) there = nx at *
      generalize freeTo W there n = fr at *
      by_cases h0 : nx = 0
      · subst h0
        have HE2 : Hid (ordW W = none) := by have := HES.out; rwa [if_pos rfl] at this
        go_wp2_with fail
        refine Calls.mono M1.out ?_
        rintro e w2 ⟨rfl, rfl⟩
        go_wp2_with fail
        exact ⟨rfl, HB.out, .inr ⟨HE2.out, rfl⟩⟩
      · have HE2 : Hid (ordW W = ordGo W (n - (k + 1)) (there ||| 2 ^ low nx) (acc ++ [low nx])) := by have := HES.out; rwa [if_neg h0] at this
        have h0b : (((nx : Nat) : Int) == 0) = false := by simp; omega
        have hlow := (low_bit h0 hnl).2.2
        have M2 : Hid _ := tz_any nx h0 hnl w1 (HT.out.later HB.out)
        have M3 : Hid (∀ wx, Calls Tryz.prog 68 #[.int .i64 ((low nx : Nat) : Int)] wx fun e w' => e = .returned (.int .u64 ((2 ^ low nx : Nat) : Int)) ∧ w' = wx) := fun wx => only_any (low nx) hlow wx
        have h2 := two_lt hlow
        have e2 := bits_or_u64_nat there (2 ^ low nx) hth h2
        have hor := or_lt hth h2
        have hal : acc.length ≤ 64 := by have := HL.out; omega
        have ho := HO.out
        have hz := HB.out.size
        clear HES HO
        generalize low nx = lo at *
        generalize 2 ^ lo = pw at *
        go_wp2_with fail
        refine Calls.mono M1.out ?_
        rintro e w2 ⟨rfl, rfl⟩
        go_wp2_with fail
        refine Calls.mono M2.out ?_
        rintro e w3 ⟨rfl, rfl⟩
        go_wp2_with (at_builtin; refine wpList_append_own_at _ rfl _ _ 32 rfl w.heap.size 3 i0 _ 1 8 Tryz.underlying32 hi0 hz0 hz1 hz2 rfl (by decide) _ acc.length (ivs acc) rfl (ho.alloc _) ⟨w3.heap.size, 0, none⟩ 1 1 [.int .i64 (lo : Int)] rfl rfl (new_cells w3 [.int .i64 (lo : Int)] 3) (by simp [Value.oneCell']) (by unfold maxLen; omega) (by omega) (by simp; omega) ?_; intro v5 w5 ho5 hg5 _ hat5; obtain ⟨g5, cap5, rfl⟩ := ownsRow_succ' ho5)
        have HB5 : Hid (Below w.heap.size w w5) := Below.grown (HB.out.alloc hz _) hg5 (by simp; omega) (fun j hj => (ho.lt _ hj).1)
        have HO5 : Hid (w5.ownsRow w.heap.size 3 1 (.slice (some ⟨g5, 0, none⟩) (acc.length + 1) cap5) (acc ++ [lo]).length (ivs (acc ++ [lo]))) := by
          show World.ownsRow _ _ _ _ _ _ _
          rw [ivs_snoc]
          simpa using ho5
        have HL5 : Hid ((acc ++ [lo]).length = k + 1) := by show _ = _; simp; exact HL.out
        clear ho hg5 hat5 ho5 HB HL
        refine Calls.mono (M3.out _) ?_
        rintro e w6 ⟨rfl, rfl⟩
        go_wp2_with fail
        go_roundw
        case rel => exact ⟨k + 1, there ||| pw, acc ++ [lo], by omega, hor, by go_num, rfl, HO5, HL5, HE2, HB5⟩
        case measure => simp [intOf]; omega
    · have hkn : k = n := by omega
      subst hkn
      have HE2 : Hid (ordW W = some acc) := by have := HE.out; rwa [Nat.sub_self] at this
      go_wp2_with fail
      go_ret
      exact ⟨HB.out, .inl ⟨acc, _, HE2.out, rfl, HO.out, by rw [HL.out, HN.out]⟩⟩

end Go.Proofs.YtlegmmhacnbnlaaGreatDoor.Dg

/- The program's weave. -/
namespace Go.Proofs.YtlegmmhacnbnlaaGreatDoor.Dg

open Go.RowKit

/-- Arcs as they lie in a slice. -/
def RdA (w : World) (v : Value) (l : List (Int × Int)) : Prop := ∃ a cap, v = .slice a l.length cap ∧ l.length ≤ cap ∧ (∀ p ∈ l, (-9223372036854775808 ≤ p.1 ∧ p.1 ≤ 9223372036854775807) ∧ -9223372036854775808 ≤ p.2 ∧ p.2 ≤ 9223372036854775807) ∧
  ∀ (i : Nat) (p : Int × Int), l[i]? = some p → ∃ b off, a = some ⟨b, off, none⟩ ∧ w.cell? ⟨b, off + i * 2, none⟩ = some (.int .i64 p.1) ∧ w.cell? ⟨b, off + i * 2 + 1, none⟩ = some (.int .i64 p.2)

theorem RdA.later {w w' : World} {v : Value} {l : List (Int × Int)} (h : RdA w v l) (hb : Below w.heap.size w w') : RdA w' v l := by
  obtain ⟨a, cap, hv, hc, hl, hr⟩ := h
  refine ⟨a, cap, hv, hc, hl, fun i x hi => ?_⟩
  obtain ⟨b, off, ha, c0, c1⟩ := hr i x hi
  exact ⟨b, off, ha, cell_later hb c0, cell_later hb c1⟩

/-- Are both ends nodes? -/
def endsOk (n : Nat) (p : Int × Int) : Bool := decide ((0 ≤ p.1 ∧ p.1 < n) ∧ 0 ≤ p.2 ∧ p.2 < n)

/-- One arc more. -/
def putArc (W : List Nat) (p : Int × Int) : List Nat := W.set p.2.toNat (W.getD p.2.toNat 0 ||| 2 ^ p.1.toNat)

/-- What leans on what. -/
def webOf (n : Nat) (l : List (Int × Int)) : List Nat := l.foldl putArc (List.replicate n 0)

inductive Wv where
  | bad : Int → Wv
  | ok : List Nat → List Nat → Wv

def weaveP (n : Int) (l : List (Int × Int)) : Wv := if n < 0 ∨ 64 < n ∨ 4096 < l.length ∨ l.all (endsOk n.toNat) = false then .bad 2 else match ordW (webOf n.toNat l) with
  | none => .bad 13
  | some o => .ok (webOf n.toNat l) o

def uvs (W : List Nat) : List Value := W.map fun (x : Nat) => .int .u64 (x : Int)

/-- How weave ends. -/
def WvC (n : Int) (l : List (Int × Int)) (w : World) (e : Ending) (w' : World) : Prop := Below w.heap.size w w' ∧ match weaveP n l with
  | .bad c => e = .returned (.tuple #[.slice none 0 0, .slice none 0 0, .int .i64 c])
  | .ok W o => ∃ v1 v2, e = .returned (.tuple #[v1, v2, .int .i64 0]) ∧ RdU w' v1 W ∧ RdI w' v2 o ∧ W.length = n.toNat ∧ o.length = n.toNat

theorem Tryz.info103 : (Tryz.prog.info? 103).map (fun i => (i.zero, i.size, i.bytes)) = some (some (.int .u64 0), 1, 8) := by kernel_rfl

set_option maxRecDepth 1000000 in
theorem catch_cycle (b4 b5 b6 : Nat) (c4 c5 c6 : Value) (t4 t5 t6 : TypeId) (older : List PanicEntry) (w : World) (h4 : w.heap[b4]? = some (.cells #[c4] t4 (0, 0))) (h5 : w.heap[b5]? = some (.cells #[c5] t5 (0, 0))) (h6 : w.heap[b6]? = some (.cells #[c6] t6 (0, 0))) (h45 : b4 ≠ b5) (h46 : b4 ≠ b6) (h56 : b5 ≠ b6) :
    CallsD Tryz.prog 69 #[.pointer (some ⟨b4, 0, none⟩), .pointer (some ⟨b5, 0, none⟩), .pointer (some ⟨b6, 0, none⟩)] (.panicking ({ v := .iface 28 (.int .i64 13), recovered := false } :: older)) w fun e u' w' =>
      e = .returned (.tuple #[]) ∧ u' = .panicking ({ v := .iface 28 (.int .i64 13), recovered := true } :: older) ∧ w' = (((w.setCell ⟨b4, 0, none⟩ (.slice none 0 0)).setCell ⟨b5, 0, none⟩ (.slice none 0 0)).setCell ⟨b6, 0, none⟩ (.int .i64 13)).drew := by
  have g4 := (cell_row h4 0).trans rfl
  have f4 := froz_row h4 0
  have g5 := (cell_row h5 0).trans rfl
  have f5 := froz_row h5 0
  have g6 := (cell_row h6 0).trans rfl
  have f6 := froz_row h6 0
  refine callsD_of_wpS Tryz.func69 rfl fun c₀ cs hu => ?_
  apply wpS_seq
  apply wpS_region
  simp [wpOpsS, go_sem, recoverD, hu, Tryz.ntmps69, Exit.thenS]
  refine wpS_of_wp ?_
  simp only [Array.replicate_succ, Array.replicate_zero, List.push_toArray, List.append_toArray, List.nil_append, List.cons_append, List.setIfInBounds_toArray, List.set_cons_zero, List.set_cons_succ]
  have hta : ∀ (v : Value) (w : World), (Instr.typeAssert (.iface 28 v) 20 28 false).run Tryz.prog w = .ok v w := fun v w => by simp [Instr.typeAssert, run_underlying Tryz.underlying28, go_sem, Result.andThen]
  have n1 : b5 ≠ b4 := fun h => h45 h.symm
  have n2 : b6 ≠ b4 := fun h => h46 h.symm
  have n3 : b6 ≠ b5 := fun h => h56 h.symm
  go_wp2_with fail
  go_region
  show bodyPostS Tryz.prog Tryz.f69 _ _ _ Exit.normal _ _ _
  simp [bodyPostS, results, Tryz.results69]

set_option maxRecDepth 1000000 in
theorem catch_idle (b4 b5 b6 : Nat) (w : World) :
    CallsD Tryz.prog 69 #[.pointer (some ⟨b4, 0, none⟩), .pointer (some ⟨b5, 0, none⟩), .pointer (some ⟨b6, 0, none⟩)] .returning w fun e u' w' => e = .returned (.tuple #[]) ∧ u' = .returning ∧ w' = w := by
  refine callsD_of_wpS Tryz.func69 rfl fun c₀ cs hu => ?_
  apply wpS_seq
  apply wpS_region
  simp [wpOpsS, go_sem, recoverD, hu, Tryz.ntmps69, Exit.thenS]
  refine wpS_of_wp ?_
  simp only [Array.replicate_succ, Array.replicate_zero, List.push_toArray, List.append_toArray, List.nil_append, List.cons_append, List.setIfInBounds_toArray, List.set_cons_zero, List.set_cons_succ]
  go_wp2_with fail
  cases c₀
  simp_all [bodyPostS, results, Tryz.results69]

end Go.Proofs.YtlegmmhacnbnlaaGreatDoor.Dg

