/- The program's small functions over bits: TrailingZeros64, only, has, isNode. -/
import Derived.Test.YtdbohfpkhidfiaaDoorRRPa
import Derived.Test.YtdbohfpkhidfiaaDoorRRChecked
import Derived.WalkKit
import Derived.Laws.OwnMore
import Derived.Below
import Derived.Shelf.Spec.TrailingZeros
import Derived.BigQuiet
import Derived.Deep.QuietTactic
import Derived.Maps.AppendAt
import Derived.Deep.RegionLaw
namespace Go.Proofs.YtdbohfpkhidfiaaDoorRR
open Go.RowKit

theorem lt_of_cell? {w : World} {a : Addr} {v : Value} (h : w.cell? a = some v) : a.block < w.heap.size := by
  unfold World.cell? at h
  cases ho : w.heap[a.block]? with
  | none => simp [ho] at h
  | some o => exact (Array.getElem?_eq_some_iff.1 ho).1

theorem cell_row {w : World} {b : Nat} {cs : Array Value} {t : TypeId} (h : w.heap[b]? = some (.cells cs t (0, 0))) (i : Nat) : w.cell? ⟨b, i, none⟩ = cs[i]? := by
  simp [World.cell?, h]
theorem froz_row {w : World} {b : Nat} {cs : Array Value} {t : TypeId} (h : w.heap[b]? = some (.cells cs t (0, 0))) (i : Nat) : w.frozen? ⟨b, i, none⟩ = false := by
  simp [World.frozen?, h]

theorem row_set {w : World} {b : Nat} {cs : Array Value} {t : TypeId} (h : w.heap[b]? = some (.cells cs t (0, 0))) (i : Nat) (v : Value) : (w.setCell ⟨b, i, none⟩ v).heap[b]? = some (.cells (cs.setIfInBounds i v) t (0, 0)) := by
  obtain ⟨hlt, hk'⟩ := Array.getElem?_eq_some_iff.1 h
  simp only [World.setCell]
  rw [Array.getElem?_eq_getElem (by rw [Array.size_modify]; exact hlt), Array.getElem_modify_self, hk']
  rfl

theorem row_new (w : World) (cs : Array Value) (t : TypeId) : (w.alloc (.cells cs t)).heap[w.heap.size]? = some (.cells cs t (0, 0)) := by
  show (w.heap.push _)[w.heap.size]? = _
  simp

theorem row_alloc {w : World} {b : Nat} {x : Obj} (h : w.heap[b]? = some x) (o : Obj) : (w.alloc o).heap[b]? = some x :=
  (Below.heap_alloc _ _ _ (Array.getElem?_eq_some_iff.1 h).1).trans h

theorem row_other {w : World} {b c i : Nat} {x : Obj} (h : w.heap[b]? = some x) (v : Value) (hn : b ≠ c) : (w.setCell ⟨c, i, none⟩ v).heap[b]? = some x :=
  (Below.heap_setCell w ⟨c, i, none⟩ v b hn).trans h

theorem cell_later {w w' : World} {b i : Nat} {v : Value} (hb : Below w.heap.size w w') (h : w.cell? ⟨b, i, none⟩ = some v) : w'.cell? ⟨b, i, none⟩ = some v :=
  (World.cell?_of_block (a := ⟨b, i, none⟩) (hb.block b (lt_of_cell? h))).trans h

theorem bl_drawn {B : Nat} {w w' : World} (h : Below B w w') (n : Nat) : Below B w (w'.drewN n) := ⟨h.os, h.tape, h.output, h.size, h.block⟩
theorem bl_drawn1 {B : Nat} {w w' : World} (h : Below B w w') : Below B w w'.drew := ⟨h.os, h.tape, h.output, h.size, h.block⟩

theorem add_zero' (g j : Nat) : (⟨g, 0, none⟩ : Addr).add j = ⟨g, j, none⟩ := by unfold Addr.add; split <;> simp_all

theorem new_cells (w : World) (l : List Value) (t : TypeId) : ∀ j u, l[j]? = some u → (w.alloc (.cells l.toArray t)).cell? ((⟨w.heap.size, 0, none⟩ : Addr).add j) = some u := fun j u h => by
  rw [add_zero', World.cell?_alloc_new]
  simpa using h

theorem ownsRow_succ' {W : World} {base : Nat} {e : TypeId} {size : Nat} {v : Value} {k : Nat} {xs : List Value} (h : W.ownsRow base e size v (k + 1) xs) : ∃ g cap, v = .slice (some ⟨g, 0, none⟩) (k + 1) cap := by
  rcases h.2 with ⟨_, h0⟩ | ⟨g, cap, cur, rfl, _⟩
  · omega
  · exact ⟨g, cap, rfl⟩

/-- The table that TrailingZeros64 reads lies as its initialiser lays it. -/
def Tab (w : World) : Prop := TabAt 0 Lib.deBruijn64tab w

theorem Tab.later {w w' : World} (h : Tab w) (hb : Below w.heap.size w w') : Tab w' := fun j hj => cell_later hb (h j hj)

set_option maxHeartbeats 1000000 in
set_option maxRecDepth 1000000 in
theorem tz_core (x k idx : Nat) (w : World) (hx0 : ((x : Int) == 0) = false)
    (key : IntKind.u64.wrap (bits BinOp.and IntKind.u64 (x : Int) (IntKind.u64.wrap (-(x : Int))) * 285870213051353865) / 288230376151711744 = (idx : Int))
    (hi : idx < 64) (hk : k < 64) (hcell : w.cell? ⟨0, idx, none⟩ = some (.int .u8 k)) :
    Calls Tryd.prog 29 #[.int .u64 x] w fun e w' => e = .returned (.int .i64 k) ∧ w' = w := by
  go_enter Tryd.func29, Tryd.ntmps29
  go_wp2_with (simp only [key])
  go_ret
  exact ⟨rfl, rfl⟩

theorem tz_any (x : Nat) (h0 : x ≠ 0) (hx : x < 18446744073709551616) (w : World) (hT : Tab w) :
    Calls Tryd.prog 29 #[.int .u64 x] w fun e w' => e = .returned (.int .i64 (low x : Nat)) ∧ w' = w := by
  obtain ⟨hlow, hk⟩ := Lib.lowest_bit 64 x h0 hx
  obtain ⟨hi, htab⟩ := Lib.deBruijn64_at _ hk
  have hcell := hT _ hi
  rw [htab] at hcell
  exact tz_core x _ _ w (by simp; omega) (tz64_key x _ hx h0 hlow) hi hk hcell

theorem wrap_pow {k : Nat} (h : k < 64) : IntKind.u64.wrap ((2 : Int) ^ k) = ((2 ^ k : Nat) : Int) := by
  have h1 : ((2 : Int) ^ k) = ((2 ^ k : Nat) : Int) := by push_cast; rfl
  have h2 := two_lt h
  rw [h1, IntKind.wrap_u64]
  generalize 2 ^ k = p at *
  omega

set_option maxRecDepth 1000000 in
theorem only_any (k : Nat) (hk : k < 64) (w : World) : Calls Tryd.prog 25 #[.int .i64 (k : Int)] w fun e w' => e = .returned (.int .u64 ((2 ^ k : Nat) : Int)) ∧ w' = w := by
  go_enter Tryd.func25, Tryd.ntmps25
  go_wp2
  go_ret
  exact ⟨by rw [wrap_pow hk]; rfl, rfl⟩

theorem and_two_pow (s k : Nat) : ((s &&& 2 ^ k) != 0) = s.testBit k := by
  cases hb : s.testBit k with
  | true =>
    have : s &&& 2 ^ k ≠ 0 := by
      intro h
      have h1 : (s &&& 2 ^ k).testBit k = true := by rw [Nat.testBit_and, hb, Nat.testBit_two_pow_self]; rfl
      rw [h, Nat.zero_testBit] at h1
      cases h1
    simpa using this
  | false =>
    have : s &&& 2 ^ k = 0 := by
      refine eq_zero fun i => ?_
      rw [Nat.testBit_and, Nat.testBit_two_pow]
      by_cases hi : k = i
      · subst hi; rw [hb]; rfl
      · simp [hi]
    simp [this]

set_option maxRecDepth 1000000 in
theorem has_any (s k : Nat) (hs : s < 18446744073709551616) (hk : k < 64) (w : World) : Calls Tryd.prog 23 #[.int .u64 (s : Int), .int .i64 (k : Int)] w fun e w' => e = .returned (.bool (s.testBit k)) ∧ w' = w := by
  have M1 : Hid _ := only_any k hk w
  have h2 := two_lt hk
  have e1 := bits_and_u64_nat s (2 ^ k) hs h2
  have e2 : (((s &&& 2 ^ k : Nat) : Int) != 0) = s.testBit k := by
    rw [← and_two_pow s k]
    rw [Bool.eq_iff_iff]
    simp
  generalize 2 ^ k = p at *
  go_enter Tryd.func23, Tryd.ntmps23
  go_wp2_with fail
  refine Calls.mono M1.out ?_
  rintro e w1 ⟨rfl, rfl⟩
  go_wp2_with fail
  go_ret
  exact ⟨rfl, rfl⟩

set_option maxRecDepth 1000000 in
theorem isNode_any (k n : Int) (w : World) : Calls Tryd.prog 24 #[.int .i64 k, .int .i64 n] w fun e w' => e = .returned (.bool (decide (0 ≤ k ∧ k < n))) ∧ w' = w := by
  by_cases h : 0 ≤ k
  · have hd : decide (0 ≤ k ∧ k < n) = decide (k < n) := by simp [h]
    go_enter Tryd.func24, Tryd.ntmps24
    go_wp2_with fail
    go_ret
    exact ⟨by rw [hd]; rfl, rfl⟩
  · have hd : decide (0 ≤ k ∧ k < n) = false := by simp [h]
    have hd2 : decide (0 ≤ k) = false := by simp; omega
    go_enter Tryd.func24, Tryd.ntmps24
    go_wp2_with fail
    go_ret
    exact ⟨rfl, rfl⟩

/-- A slice of sets. -/
def RdU (w : World) (v : Value) (W : List Nat) : Prop := ∃ a cap, v = .slice a W.length cap ∧ W.length ≤ cap ∧ (∀ x ∈ W, x < 18446744073709551616) ∧ ∀ (i : Nat) (x : Nat), W[i]? = some x → ∃ b off, a = some ⟨b, off, none⟩ ∧ w.cell? ⟨b, off + i, none⟩ = some (.int .u64 (x : Int))

/-- A slice of nodes. -/
def RdI (w : World) (v : Value) (l : List Nat) : Prop := ∃ a cap, v = .slice a l.length cap ∧ l.length ≤ cap ∧ ∀ (i : Nat) (x : Nat), l[i]? = some x → ∃ b off, a = some ⟨b, off, none⟩ ∧ w.cell? ⟨b, off + i, none⟩ = some (.int .i64 (x : Int))

theorem RdU.later {w w' : World} {v : Value} {W : List Nat} (h : RdU w v W) (hb : Below w.heap.size w w') : RdU w' v W := by
  obtain ⟨a, cap, hv, hc, hl, hr⟩ := h
  refine ⟨a, cap, hv, hc, hl, fun i x hi => ?_⟩
  obtain ⟨b, off, ha, c0⟩ := hr i x hi
  exact ⟨b, off, ha, cell_later hb c0⟩

theorem RdI.later {w w' : World} {v : Value} {l : List Nat} (h : RdI w v l) (hb : Below w.heap.size w w') : RdI w' v l := by
  obtain ⟨a, cap, hv, hc, hr⟩ := h
  refine ⟨a, cap, hv, hc, fun i x hi => ?_⟩
  obtain ⟨b, off, ha, c0⟩ := hr i x hi
  exact ⟨b, off, ha, cell_later hb c0⟩

def ivs (l : List Nat) : List Value := l.map fun (x : Nat) => .int .i64 (x : Int)

theorem RdI.of_own {w : World} {B : Nat} {v : Value} {l : List Nat} (h : w.ownsRow B 3 1 v l.length (ivs l)) : RdI w v l := by
  rcases h.2 with ⟨rfl, h0⟩ | ⟨g, cap, cur, rfl, hb, hg, hnc, hcm, _⟩
  · have h1 : l = [] := List.eq_nil_of_length_eq_zero h0
    subst h1
    exact ⟨none, 0, rfl, Nat.le_refl _, by simp⟩
  · refine ⟨_, cap, rfl, hnc, fun i x hi => ⟨g, 0, rfl, ?_⟩⟩
    have := h.cells (g := g) rfl i (.int .i64 (x : Int)) (by simp [ivs, hi])
    rw [add_zero'] at this
    rw [Nat.zero_add]
    exact this

set_option maxRecDepth 1000000 in
set_option maxHeartbeats 1000000 in
theorem free_any (W : List Nat) (v : Value) (those : Nat) (w : World) (hW : RdU w v W) (hn : W.length ≤ 64) (ht : those < 18446744073709551616) :
    Calls Tryd.prog 26 #[v, .int .u64 (those : Int)] w fun e w' => e = .returned (.int .u64 (freeTo W those W.length : Int)) ∧ w' = w := by
  obtain ⟨a, cap, rfl, hc, hl, hr⟩ := hW
  have HR : Hid _ := hr
  have HL : Hid _ := hl
  obtain ⟨n, HN⟩ : ∃ n, Hid (W.length = n) := ⟨_, rfl⟩
  rw [HN.out] at hn hc ⊢
  clear hr hl
  go_enter Tryd.func26, Tryd.ntmps26
  go_wp2_with fail
  go_loopw [5, 6, 7, 10] (fun sv _ _ iv wr => ∃ (k : Nat), k ≤ n ∧ iv = .int .i64 k ∧ sv = .int .u64 (freeTo W those k : Int) ∧ wr = w) (fun _ _ _ iv _ => n - (intOf iv).toNat)
  case atStart => exact ⟨0, Nat.zero_le _, rfl, rfl, rfl⟩
  case round =>
    obtain ⟨k, hk, rfl, rfl, rfl⟩ := hrel
    by_cases hlt : k < n
    · obtain ⟨x, hx⟩ : ∃ x, W[k]? = some x := ⟨_, List.getElem?_eq_getElem (by rw [HN.out]; exact hlt)⟩
      obtain ⟨b, off, rfl, c0⟩ := HR.out k x hx
      have hx64 := HL.out x (List.mem_of_getElem? hx)
      have hki : (k : Int) < (n : Int) := by omega
      have e1 := bits_andNot_u64_nat x those hx64 ht
      have hg : W.getD k 0 = x := by rw [List.getD_eq_getElem?_getD, hx]; rfl
      have hf := freeTo_lt W those k (by omega)
      have h2 := two_lt (show k < 64 by omega)
      have e2 := bits_or_u64_nat (freeTo W those k) (2 ^ k) hf h2
      by_cases hd : dif x those = 0
      · have HS : Hid (freeTo W those (k + 1) = freeTo W those k ||| 2 ^ k) := by show _ = _; rw [freeTo, hg, if_pos hd]
        have M1 : Hid _ := only_any k (by omega) wr
        rw [hd] at e1
        generalize freeTo W those k = fk at *
        generalize 2 ^ k = pk at *
        clear hx hg
        go_wp2_with fail
        refine Calls.mono M1.out ?_
        rintro e w1 ⟨rfl, rfl⟩
        go_wp2_with fail
        go_roundw
        case rel => exact ⟨k + 1, by omega, by go_num, by rw [HS.out], trivial⟩
        case measure => simp [intOf]; omega
      · have HS : Hid (freeTo W those (k + 1) = freeTo W those k) := by show _ = _; rw [freeTo, hg, if_neg hd]
        have hdn : (((dif x those : Nat) : Int) == 0) = false := by simp; omega
        generalize freeTo W those k = fk at *
        generalize 2 ^ k = pk at *
        clear hx hg
        go_wp2_with fail
        go_roundw
        case rel => exact ⟨k + 1, by omega, by go_num, by rw [HS.out], trivial⟩
        case measure => simp [intOf]; omega
    · have hkn : k = n := by omega
      subst hkn
      go_wp2_with fail
      go_ret
      exact ⟨rfl, rfl⟩
end Go.Proofs.YtdbohfpkhidfiaaDoorRR
