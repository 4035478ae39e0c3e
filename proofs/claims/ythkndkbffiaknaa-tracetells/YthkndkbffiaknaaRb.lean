/- slices.Backward: its maker, and the iterator. -/
import Derived.Test.YthkndkbffiaknaaRa
import Derived.RangeFuncBox
import Derived.BigQuiet
import Derived.Shelf.Abstract
import Derived.TacticsInMore
import Derived.LoopIn
import Derived.BigRegionIn
import Derived.RegionIn
import Derived.OwnWalkIn
namespace Go.Proofs.Ythkndkbffiaknaa.Tz
open Go.RowKit Go.Shelf Go.Proofs.Ythkndkbffiaknaa
set_option maxRecDepth 1000000
set_option linter.unusedVariables false

theorem backward_any (a : Option Addr) (n c : Nat) (w : World) : Calls Try.prog 30 #[.slice a n c] w fun e w' => e = .returned (.func (.func 34) #[] #[.pointer (some ⟨w.heap.size, 0, none⟩)]) ∧ w' = w.alloc (.cells #[.slice a n c] 22) := by
  go_enter Try.func30, Try.ntmps30
  go_wp2_with fail
  go_ret
  exact ⟨rfl, rfl⟩
theorem fromBehind_any (a : Option Addr) (n c : Nat) (w : World) : Calls Try.prog 21 #[.slice a n c] w fun e w' => e = .returned (.func (.func 29) #[] #[.pointer (some ⟨w.heap.size, 0, none⟩)]) ∧ w' = w.alloc (.cells #[.slice a n c] 22) := by
  go_enter Try.func21, Try.ntmps21
  go_wp2_with fail
  go_ret
  exact ⟨rfl, rfl⟩

/-- The places, the last one first. -/
def brev (n : Nat) : List Nat := (List.range n).map fun k => n - 1 - k
theorem brev_len (n : Nat) : (brev n).length = n := by simp [brev]
theorem brev_at {n k : Nat} (h : k < n) : (brev n)[k]? = some (n - 1 - k) := by simp [brev, h]

def encB (l : List Ef) (x : Nat) (_ : Nat) (_ : World) (_ : Nat → Prop) (args : Array Value) : Prop := args = #[.int .i64 (x : Int), EV (l.getD x default)]

/-- What the iterator knows between two rounds. -/
structure BwS (bp : Nat) (v : Value) (l : List Ef) (J : Nat → World → (Nat → Prop) → Prop) (T : Nat → Prop) (k : Nat) (W : World) : Prop where
  j : J k W T
  qp : Boxed W bp 22 v
  tp : T bp
  g : RE W v l
  own : ∀ b, T b → b < W.heap.size

theorem results_none9 {P : Program} {fn : Func} (h : fn.results = #[]) (tmps : Array Value) (w : World) : (results fn tmps).run P w = .ok (.tuple #[]) w := by
  simp [results, h, go_sem]

attribute [local go_sem] Oper.semAt_some

set_option maxHeartbeats 8000000 in
theorem backward_itr (l : List Ef) (a : Option Addr) (c bp : Nat) (hl : l.length ≤ 1000000) (T : Nat → Prop) (w : World) (hbp : Boxed w bp 22 (.slice a l.length c)) (tp : T bp) (hown : ∀ b, T b → b < w.heap.size) :
    Rl.Itr Try.prog 34 #[.pointer (some ⟨bp, 0, none⟩)] (encB l) (brev l.length) 0 0 (fun A => RE A (.slice a l.length c) l) T w := by
  intro li J Jx W hW hJ hJx hG hY hJ0
  have HY : Hid _ := hY
  have HJ : Hid _ := hJ
  have HG : Hid _ := hG
  have H0 : Hid (BwS bp (.slice a l.length c) l J T 0 W) := ⟨hJ0, (hW.block bp hbp.lt).trans hbp, tp, hG _ _ _ hJ0, fun b hb => Nat.lt_of_lt_of_le (hown b hb) hW.size⟩
  obtain ⟨n, hn⟩ : ∃ n, l.length = n := ⟨_, rfl⟩
  obtain ⟨xs, HX⟩ : ∃ xs, Hid (xs = brev n) := ⟨_, rfl⟩
  have HXL : Hid (xs.length = n) := by show _ = _; rw [HX.out]; exact brev_len n
  have HXA : Hid (∀ i, i < n → xs[i]? = some (n - 1 - i)) := fun i hi => by rw [HX.out]; exact brev_at hi
  rw [hn] at H0 hl HY HG ⊢
  rw [← HX.out] at HY ⊢
  obtain ⟨R, HR⟩ : ∃ R : Ending → World → Prop, Hid (R = fun e W2 => ∃ v T2, e = .returned v ∧ (J xs.length W2 T2 ∨ ∃ k, k < xs.length ∧ Jx (k + 1) W2 T2) ∧ (∀ b, b < W.heap.size → (T2 b ↔ T b)) ∧ (∀ b, T2 b → b < W2.heap.size)) := ⟨_, rfl⟩
  rw [← HR.out]
  have c0 := H0.out.qp.cell
  have HN : Hid (l.length = n) := hn
  clear hJ hJx hG hY hJ0 hW hbp tp hown HX hn
  refine callsIn_of_wp Try.func34 rfl trivial ?_ rfl
  simp only [Try.ntmps34, List.size_toArray, List.length_cons, List.length_nil, Nat.reduceAdd, Nat.reduceSub, Array.replicate_succ, Array.replicate_zero, List.push_toArray, List.append_toArray, List.nil_append, List.cons_append]
  gi_wp2
  clear c0
  gi_loopw [3] (fun iv wr => ∃ (k : Nat) (i : Int), iv = .int .i64 i ∧ i = (n : Int) - 1 - k ∧ k ≤ n ∧ Hid (BwS bp (.slice a n c) l J T k wr)) (fun iv _ => (intOf iv + 1).toNat)
  case atStart => exact ⟨0, _, rfl, by simp <;> omega, Nat.zero_le _, H0⟩
  case round =>
    obtain ⟨k, i, rfl, hi, hk, HF⟩ := hrel
    rename World => wr
    clear H0
    by_cases hlt : k < n
    · obtain ⟨x, hx⟩ : ∃ x : Nat, x = n - 1 - k := ⟨_, rfl⟩
      obtain rfl : i = (x : Int) := by omega
      have hxn : x < n := by omega
      have hxi : (x : Int) < (n : Int) := by omega
      have y0 := HF.out.qp.cell
      obtain ⟨hwf, b, off, ha, y1, y2, y3, y4⟩ := HF.out.g.at' (i := x) (by have := HN.out; omega)
      subst ha
      have HXI : Hid (xs[k]? = some x) := by rw [hx]; exact HXA.out k hlt
      have HE : Hid (EV (l.getD x default) = .agg #[.int .i64 (l.getD x default).i, .bool (l.getD x default).u, .int .i64 (l.getD x default).t, .bool (l.getD x default).ok]) := rfl
      obtain ⟨fnn, tms, asg, bdy, hy, hR⟩ := HY.out k x #[.int .i64 (x : Int), EV (l.getD x default)] wr.heap.size wr T HXI.out rfl ⟨wr, T, HF.out.j, rfl, Rl.Mv.refl _ _⟩ HF.out.j HF.out.own 0
      rw [HE.out] at hy
      have HIX : Hid ((x : Int) = (n : Int) - 1 - k) := hi
      clear hx hwf HY hi
      generalize l.getD x default = e at *
      gi_wp2
      refine ⟨rfl, hR.mono ?_⟩
      rintro e5 W5 ⟨t, rfl, ht1, ht2⟩
      cases t with
      | true =>
        obtain ⟨hj5, hrv⟩ := ht1 rfl
        have HF5 : Hid (BwS bp (.slice (some ⟨b, off, none⟩) n c) l J T (k + 1) W5) := by
          have h1 := HF.out
          exact ⟨hj5, (hrv.keep bp h1.tp h1.qp.lt).trans h1.qp, h1.tp, HG.out _ _ _ hj5, fun b hb => Nat.lt_of_lt_of_le (h1.own b hb) hrv.size⟩
        clear ht1 ht2 hrv hj5 hy hR HF y0 y1 y2 y3 y4
        gi_wp2
        go_roundw
        have hi := HIX.out
        case rel => exact ⟨k + 1, _, rfl, by have hi := HIX.out; simp <;> omega, by omega, HF5⟩
        case measure => simp [intOf] <;> omega
      | false =>
        obtain ⟨hj5, hrv⟩ := ht2 rfl
        have HJ5 : Hid _ := hj5
        have HO5 : Hid (∀ b, T b → b < W5.heap.size) := fun b hb => Nat.lt_of_lt_of_le (HF.out.own b hb) hrv.size
        clear ht1 ht2 hrv hj5 hy hR HF y0 y1 y2 y3 y4
        gi_wp2
        refine bodyPost_ret (results_none9 rfl _ _) rfl ?_
        rw [HR.out]
        exact ⟨_, T, rfl, .inr ⟨k, by rw [HXL.out]; exact hlt, HJ5.out⟩, fun _ _ => Iff.rfl, HO5.out⟩
    · obtain rfl : i = -1 := by omega
      gi_wp2
      refine bodyPost_ret (results_none9 rfl _ _) rfl ?_
      rw [HR.out]
      refine ⟨_, T, rfl, .inl ?_, fun _ _ => Iff.rfl, HF.out.own⟩
      have := HF.out.j
      rw [show k = xs.length by rw [HXL.out]; omega] at this
      exact this
end Go.Proofs.Ythkndkbffiaknaa.Tz
