/- The walks over pairs and its iterator. -/
import Derived.RangeFuncNested
import Derived.RangeFuncBound
import Derived.RangeFuncCalls
import Derived.RangeFuncLeaves
import Derived.RangeFuncBox
import Derived.Shelf.Abstract
import Derived.Shelf.RegionOpen
import Derived.WalkKit
import Derived.OwnWalkIn
import Derived.TacticsInMore
import Derived.LoopNIn
import Derived.LoopIn
import Derived.Maps.AppendAt
import Derived.Test.YtamfpmpooaejkaaSa
namespace Go.Proofs.Ytamfpmpooaejkaa
open Go.RowKit Go.Shelf
set_option linter.unusedVariables false
attribute [local go_sem] Oper.semAt_some

/-- What has come when k rounds are over. -/
def upto {α : Type} (f : Nat → α) (k : Nat) : List α := (List.range k).map f
theorem upto_succ {α : Type} (f : Nat → α) (k : Nat) : upto f (k + 1) = upto f k ++ [f k] := by simp [upto, List.range_succ]
theorem upto_length {α : Type} (f : Nat → α) (k : Nat) : (upto f k).length = k := by simp [upto]

/-- Two stamps' counts of one branch. -/
def pf (la lb : List Int) (k : Nat) : Nat × Int × Int := (k, la.getD k 0, lb.getD k 0)
def encP (x : Nat × Int × Int) : Array Value := #[.agg #[.int .i64 (x.1 : Int), .int .i64 x.2.1, .int .i64 x.2.2]]

/-- What a round keeps: what lay ahead of the call, and the iterator's two boxes. -/
structure Kq (n0 A B : Nat) (va vb : Value) (W W' : World) : Prop where
  below : Below n0 W W'
  a : Boxed W A 26 va → Boxed W' A 26 va
  b : Boxed W B 26 vb → Boxed W' B 26 vb

theorem Kq.trans {n0 A B : Nat} {va vb : Value} {U V W : World} (h : Kq n0 A B va vb U V) (k : Kq n0 A B va vb V W) : Kq n0 A B va vb U W :=
  ⟨h.below.trans k.below, fun x => k.a (h.a x), fun x => k.b (h.b x)⟩

theorem Kq.put {n0 A B : Nat} {va vb : Value} {w : World} (hn : n0 ≤ w.heap.size) (hA : A < w.heap.size) (hB : B < w.heap.size) (W : World) (l : Nat) (o o' : Obj) (hl : w.heap.size ≤ l) (h : W.heap[l]? = some o) (hc : o.isCells = false) (hw : o.isWalk = false) : Kq n0 A B va vb W (W.putObj l o') :=
  ⟨belowK_b hn W l o o' hl h hc hw, fun x => x.kept (grownBy_putObj' W l o') (by simp; omega), fun x => x.kept (grownBy_putObj' W l o') (by simp; omega)⟩

theorem RI.uniq {w : World} {v : Value} {l m : List Int} (h : RI w v l) (k : RI w v m) : l = m := by
  obtain ⟨a, cap, rfl, _, _, hl⟩ := h
  obtain ⟨a', cap', e, _, _, hm⟩ := k
  simp only [Value.slice.injEq] at e
  obtain ⟨rfl, e, rfl⟩ := e
  refine List.ext_getElem e fun i h1 h2 => ?_
  obtain ⟨b, off, e1, c1⟩ := hl i h1
  obtain ⟨b', off', e2, c2⟩ := hm i h2
  have e3 := e1.symm.trans e2
  simp only [Option.some.injEq, Addr.mk.injEq] at e3
  obtain ⟨rfl, rfl, _⟩ := e3
  have := c1.symm.trans c2
  simpa [h1, h2] using this

/-- At, of either of two slices. -/
theorem at_two (w0 : World) (va vb : Value) (la lb : List Int) (ha : RI w0 va la) (hb : RI w0 vb lb) (hla : la.length ≤ 9223372036854775807) (hlb : lb.length ≤ 9223372036854775807) :
    ∃ fa : Nat → Value → Int, (∀ k, encP (pf la lb k) = #[.agg #[.int .i64 (k : Int), .int .i64 (fa k va), .int .i64 (fa k vb)]]) ∧
      ∀ (k : Nat) (v : Value) (wx : World), (v = va ∨ v = vb) → Below w0.heap.size w0 wx → Calls Try.prog 48 #[v, .int .i64 (k : Int)] wx fun e w' => e = .returned (.int .i64 (fa k v)) ∧ w' = wx := by
  classical
  have hu : vb = va → lb = la := fun h => by subst h; exact hb.uniq ha
  refine ⟨fun k v => if v = va then la.getD k 0 else lb.getD k 0, fun k => ?_, fun k v wx hv hbl => ?_⟩
  · unfold encP pf
    by_cases h : vb = va
    · simp only [h, if_true, hu h]
    · simp only [if_neg h, if_true]
  · by_cases h : v = va
    · simp only [if_pos h]
      have := at_any v la (k : Int) wx (by rw [h]; exact ha.later hbl) hla
      rw [atZ_nat] at this
      exact this
    · simp only [if_neg h]
      have h2 : v = vb := hv.resolve_left h
      have := at_any v lb (k : Int) wx (by rw [h2]; exact hb.later hbl) hlb
      rw [atZ_nat] at this
      exact this

theorem boxed_drew {W : World} {B : Nat} {t : TypeId} {v : Value} (h : Boxed W B t v) : Boxed W.drew B t v := h

set_option maxRecDepth 1000000 in
theorem pairs_any (aa : Option Addr) (na ca : Nat) (ab : Option Addr) (nb cb : Nat) (w : World) : Calls Try.prog 47 #[.slice aa na ca, .slice ab nb cb] w fun e w' => e = .returned (.func (.func 50) #[] #[.pointer (some ⟨w.heap.size, 0, none⟩), .pointer (some ⟨w.heap.size + 1, 0, none⟩)]) ∧ w' = (w.alloc (.cells #[.slice aa na ca] 26)).alloc (.cells #[.slice ab nb cb] 26) := by
  go_enter Try.func47, Try.ntmps47
  go_wp2_with fail
  go_ret
  exact ⟨rfl, rfl⟩

set_option maxRecDepth 1000000 in
set_option maxHeartbeats 4000000 in
theorem pairs1_in (n : Nat) (hn : 1 ≤ n) (l A B : Nat) (w0 : World) (va vb : Value) (la lb : List Int) (ha : RI w0 va la) (hb : RI w0 vb lb) (hla : la.length ≤ 9223372036854775807) (hlb : lb.length ≤ 9223372036854775807) (N : Nat) (hN : N = max la.length lb.length)
    (J Jx : List (Nat × Int × Int) → World → Prop) (hJ : ∀ s W, J s W → J s W.drew)
    (hY : ∀ pre x W, J pre W → pre.length < N → YieldAt Fence.wide (n - 1) Try.prog l (encP x) W fun e W' => (e = .returned (.bool true) ∧ J (pre ++ [x]) W' ∧ Kq w0.heap.size A B va vb W W') ∨ (e = .returned (.bool false) ∧ Jx (pre ++ [x]) W'))
    (W : World) (hbl : Below w0.heap.size w0 W) (hA : Boxed W A 26 va) (hB : Boxed W B 26 vb) (h0 : J [] W) :
    CallsIn Fence.wide n Try.prog 50 #[.func (.yield l) #[] #[], .pointer (some ⟨A, 0, none⟩), .pointer (some ⟨B, 0, none⟩)] W fun e W' => (∃ v, e = .returned v) ∧
      ((∃ ys, ys = upto (pf la lb) N ∧ J ys W') ∨ (∃ pre, (∃ k, k < N ∧ pre = upto (pf la lb) (k + 1)) ∧ Jx pre W')) := by
  have HRa : Hid (RI w0 va la) := ha
  have HRb : Hid (RI w0 vb lb) := hb
  obtain ⟨aa, ca, rfl, _, _, _⟩ := ha
  obtain ⟨ab, cb, rfl, _, _, _⟩ := hb
  have HLa : Hid (la.length ≤ 9223372036854775807) := hla
  have HLb : Hid (lb.length ≤ 9223372036854775807) := hlb
  obtain ⟨fa, hfe, hat⟩ := at_two w0 _ _ la lb HRa.out HRb.out hla hlb
  have HFE : Hid _ := hfe
  have HAT : Hid _ := hat
  clear hfe hat
  generalize hna : la.length = na at *
  generalize hnb : lb.length = nb at *
  have HNa : Hid (la.length = na) := hna
  have HNb : Hid (lb.length = nb) := hnb
  have cA := hA.cell
  have cB := hB.cell
  have hN2 : N ≤ 9223372036854775807 := by omega
  obtain ⟨R, HR⟩ : ∃ R : Ending → World → Prop, Hid (R = fun e W' => (∃ v, e = .returned v) ∧ ((∃ ys, ys = upto (pf la lb) N ∧ J ys W') ∨ (∃ pre, (∃ k, k < N ∧ pre = upto (pf la lb) (k + 1)) ∧ Jx pre W'))) := ⟨_, rfl⟩
  rw [← HR.out]
  have hsp : (na < nb ∧ N = nb) ∨ (¬ na < nb ∧ N = na) := by omega
  have HHA : Hid (Boxed W A 26 (.slice aa na ca)) := hA
  have HHB : Hid (Boxed W B 26 (.slice ab nb cb)) := hB
  have HBL : Hid (Below w0.heap.size w0 W) := hbl
  have HYY : Hid _ := hY
  obtain ⟨KQ, HKQ⟩ : ∃ KQ, Hid (KQ = Kq w0.heap.size A B (.slice aa na ca) (.slice ab nb cb)) := ⟨_, rfl⟩
  rw [← HKQ.out] at HYY
  have HKt : Hid (∀ U V X, KQ U.drew V → KQ X U → KQ X V) := by
    show ∀ U V X, _
    intro U V X h1 h2
    rw [HKQ.out] at *
    exact h2.trans (Kq.trans ⟨(Below.refl _ _).drew, fun h => h, fun h => h⟩ h1)
  have HKr : Hid (KQ W W) := by show KQ W W; rw [HKQ.out]; exact ⟨Below.refl _ _, fun h => h, fun h => h⟩
  have HKl : Hid (∀ V, KQ W V → Below w0.heap.size w0 V) := by
    show ∀ V, _
    intro V h
    rw [HKQ.out] at h
    exact hbl.trans h.below
  have HKc : Hid (∀ V : World, KQ W V → V.drew.cell? ⟨A, 0, none⟩ = some (.slice aa na ca) ∧ V.drew.cell? ⟨B, 0, none⟩ = some (.slice ab nb cb)) := by
    show ∀ V, _
    intro V h
    rw [HKQ.out] at h
    exact ⟨(boxed_drew (h.a hA)).cell, (boxed_drew (h.b hB)).cell⟩
  clear hN hna hnb hA hB hbl hY HKQ HHA HHB
  rename_i q1 q2 q3 q4 q5 q6
  clear q3 q6 q1 q2 q4 q5 hla hlb
  rcases hsp with ⟨hlt, rfl⟩ | ⟨hlt, rfl⟩
  all_goals
    refine callsIn_of_wp Try.func50 rfl trivial ?_ rfl
    simp only [Try.ntmps50, List.size_toArray, List.length_cons, List.length_nil, Nat.reduceAdd, Nat.reduceSub, Array.replicate_succ, Array.replicate_zero, List.push_toArray, List.append_toArray, List.nil_append, List.cons_append]
    gi_wp2
    clear cA cB
    gi_loopw [10] (fun iv wr => ∃ k : Nat, k ≤ N ∧ iv = .int .i64 k ∧ Hid (J (upto (pf la lb) k) wr) ∧ Hid (KQ W wr)) (fun iv _ => N - (intOf iv).toNat)
    case atStart => exact ⟨0, Nat.zero_le _, rfl, h0, HKr⟩
    case round =>
      obtain ⟨k, hk, rfl, HJs, HKw⟩ := hrel
      by_cases hkl : k < N
      · obtain ⟨fn, tmps, assign, body, hy, hR0⟩ := HYY.out _ (pf la lb k) wr.drew (hJ _ _ HJs.out) (by rw [upto_length]; exact hkl)
        rw [HFE.out k] at hy
        rw [← upto_succ] at hR0
        have hR : RoundIn Fence.wide (n - 1) Try.prog l fn tmps assign body wr.drew fun e W' => ∃ t : Bool, e = .returned (.bool t) ∧ Hid ((t = true ∧ J (upto (pf la lb) (k + 1)) W' ∧ KQ wr.drew W') ∨ (t = false ∧ Jx (upto (pf la lb) (k + 1)) W')) := by
          refine hR0.mono ?_
          rintro e W3 (⟨rfl, h1, h2⟩ | ⟨rfl, h1⟩)
          · exact ⟨true, rfl, .inl ⟨rfl, h1, h2⟩⟩
          · exact ⟨false, rfl, .inr ⟨rfl, h1⟩⟩
        have HAT2 : Hid _ := fun v hv => HAT.out k v wr.drew hv (HKl.out _ HKw.out).drew
        obtain ⟨cA, cB⟩ := HKc.out _ HKw.out
        have hmx : Try.prog.follows .mixedOrders = true := by kernel_rfl
        have hn1 : 1 ≤ n - 1 ∨ n = 1 := by omega
        clear hR0 HAT HFE
        gi_wp2
        gi_region_with_o (first
          | (refine ⟨trivial, ?_⟩; gi_at_call 48; refine (callsIn_wide.2 (HAT2.out _ (by first | exact .inl rfl | exact .inr rfl))).mono ?_; rintro e w' ⟨rfl, rfl⟩)
          | (refine hR.mono ?_; rintro e W3 ⟨t, rfl, HT⟩))
        all_goals
          cases t with
          | true =>
            obtain ⟨_, h1, h2⟩ : true = true ∧ J (upto (pf la lb) (k + 1)) W3 ∧ KQ wr.drew W3 := HT.out.resolve_right (by rintro ⟨h, _⟩; cases h)
            have HJ3 : Hid _ := h1
            have HK3 : Hid _ := HKt.out _ _ _ h2 HKw.out
            clear h1 h2 hR hy HT
            gi_wp2
            go_roundw
            case rel => exact ⟨k + 1, by omega, by go_num, HJ3, HK3⟩
            case measure => simp [intOf]; omega
          | false =>
            have h1 : Jx (upto (pf la lb) (k + 1)) W3 := (HT.out.resolve_left (by rintro ⟨h, _⟩; cases h)).2
            have HJ3 : Hid _ := h1
            clear h1 hR hy HT
            gi_wp2
            refine bodyPost_ret (results_none rfl _ _ _) rfl ?_
            rw [HR.out]
            exact ⟨⟨_, rfl⟩, .inr ⟨_, ⟨k, hkl, rfl⟩, HJ3.out⟩⟩
      · obtain rfl : k = N := by omega
        gi_wp2
        go_end0
        rw [HR.out]
        exact ⟨⟨_, rfl⟩, .inl ⟨_, rfl, HJs.out⟩⟩
end Go.Proofs.Ytamfpmpooaejkaa
