/- The workers in a circle: the maker of the iterator, and the iterator. -/
import Derived.Test.YtfhmmiilenonkaaQa
import Derived.Test.YtfhmmiilenonkaaRb
import Derived.Test.YtfhmmiilenonkaaPq
import Derived.RangeFuncBox
import Derived.BigQuiet
import Derived.Shelf.Abstract
import Derived.TacticsInMore
import Derived.LoopIn
import Derived.BigRegionIn
import Derived.RegionIn
import Derived.OwnWalkIn
namespace Go.Proofs.Ytfhmmiilenonkaa
open Go.RowKit Go.Shelf
set_option maxRecDepth 1000000
set_option linter.unusedVariables false

/-- The worker from which on. -/
def frm (pick : Int) (n : Nat) : Nat := (pick % (n : Int)).toNat
theorem frm_tmod {pick : Int} {n : Nat} (hn : 0 < n) : pick.tmod n = (frm pick n : Int) ∨ pick.tmod n = (frm pick n : Int) - n := by
  have h0 : 0 ≤ pick % (n : Int) := Int.emod_nonneg _ (by omega)
  have e : (frm pick n : Int) = pick % (n : Int) := by unfold frm; exact Int.toNat_of_nonneg h0
  rw [e, Int.tmod_eq_emod]
  split
  · left; omega
  · right; simp
theorem frm_lt {pick : Int} {n : Nat} (hn : 0 < n) : frm pick n < n := by
  have h0 : 0 ≤ pick % (n : Int) := Int.emod_nonneg _ (by omega)
  have h1 : pick % (n : Int) < n := Int.emod_lt_of_pos _ (by omega)
  unfold frm
  omega
theorem frm_at {pick : Int} {n : Nat} (i : Nat) (hn : 0 < n) : (pick.tmod n + n + i).tmod n = (((frm pick n + i) % n : Nat) : Int) := by
  rcases frm_tmod (pick := pick) hn with h | h
  · rw [h, Int.tmod_eq_emod_of_nonneg (by omega), show (frm pick n : Int) + n + i = (frm pick n + i : Int) + n by omega, Int.add_emod_right]
    simp
  · rw [h, show (frm pick n : Int) - n + n + i = (frm pick n + i : Int) by omega, Int.tmod_eq_emod_of_nonneg (by omega)]
    simp

theorem circle_any (pv : Value) (hpv : pv = .pointer none ∨ ∃ a, pv = .pointer (some a)) (pick : Int) (w : World) : Calls Try.prog 24 #[pv, .int .i64 pick] w fun e w' => e = .returned (.func (.func 44) #[] #[.pointer (some ⟨w.heap.size, 0, none⟩), .pointer (some ⟨w.heap.size + 1, 0, none⟩)]) ∧ w' = (w.alloc (.cells #[pv] 25)).alloc (.cells #[.int .i64 pick] 3) := by
  rcases hpv with rfl | ⟨a, rfl⟩
  · go_enter Try.func24, Try.ntmps24
    go_wp2_with fail
    go_ret
    exact ⟨rfl, rfl⟩
  · go_enter Try.func24, Try.ntmps24
    go_wp2_with fail
    go_ret
    exact ⟨rfl, rfl⟩

theorem results_none9 {P : Program} {fn : Func} (h : fn.results = #[]) (tmps : Array Value) (w : World) : (results fn tmps).run P w = .ok (.tuple #[]) w := by
  simp [results, h, go_sem]

/-- What the iterator needs. -/
def CirG (p n : Nat) (A : World) : Prop := A.cell? ⟨p, 0, none⟩ = some (.int .i64 (n : Int))
def encW (p : Nat) (v : Nat) (_ : Nat) (_ : World) (_ : Nat → Prop) (args : Array Value) : Prop := args = #[.int .i64 (v : Int), .pointer (some ⟨p, 1 + v * 2, none⟩)]

/-- What the iterator knows between two workers. -/
structure CiS (bp bk p n : Nat) (pick : Int) (J : Nat → World → (Nat → Prop) → Prop) (T : Nat → Prop) (k : Nat) (W : World) : Prop where
  j : J k W T
  qp : Boxed W bp 25 (.pointer (some ⟨p, 0, none⟩))
  qk : Boxed W bk 3 (.int .i64 pick)
  tp : T bp
  tk : T bk
  g : CirG p n W
  own : ∀ b, T b → b < W.heap.size

attribute [local go_sem] Oper.semAt_some

set_option maxHeartbeats 8000000 in
theorem circle_itr (p n bp bk : Nat) (pick : Int) (h0 : 0 < n) (h64 : n ≤ 64) (hpk : -9223372036854775808 ≤ pick ∧ pick ≤ 9223372036854775807) (T : Nat → Prop) (w : World) (hbp : Boxed w bp 25 (.pointer (some ⟨p, 0, none⟩))) (hbk : Boxed w bk 3 (.int .i64 pick)) (tp : T bp) (tk : T bk) (hown : ∀ b, T b → b < w.heap.size) :
    Rl.Itr Try.prog 44 #[.pointer (some ⟨bp, 0, none⟩), .pointer (some ⟨bk, 0, none⟩)] (encW p) (Pq.circ n (frm pick n)) 0 0 (CirG p n) T w := by
  intro li J Jx W hW hJ hJx hG hY hJ0
  have HY : Hid _ := hY
  have HJ : Hid _ := hJ
  have HG : Hid _ := hG
  have H0 : Hid (CiS bp bk p n pick J T 0 W) := ⟨hJ0, (hW.block bp hbp.lt).trans hbp, (hW.block bk hbk.lt).trans hbk, tp, tk, hG _ _ _ hJ0, fun b hb => Nat.lt_of_lt_of_le (hown b hb) hW.size⟩
  obtain ⟨xs, HX⟩ : ∃ xs, Hid (xs = Pq.circ n (frm pick n)) := ⟨_, rfl⟩
  have HXL : Hid (xs.length = n) := by show _ = _; rw [HX.out]; simp [Pq.circ]
  have HXA : Hid (∀ i, i < n → xs[i]? = some ((frm pick n + i) % n)) := fun i hi => by rw [HX.out]; simp [Pq.circ, hi]
  rw [← HX.out] at HY ⊢
  obtain ⟨R, HR⟩ : ∃ R : Ending → World → Prop, Hid (R = fun e W2 => ∃ v T2, e = .returned v ∧ (J xs.length W2 T2 ∨ ∃ k, k < xs.length ∧ Jx (k + 1) W2 T2) ∧ (∀ b, b < W.heap.size → (T2 b ↔ T b)) ∧ (∀ b, T2 b → b < W2.heap.size)) := ⟨_, rfl⟩
  rw [← HR.out]
  have c0 := H0.out.qp.cell
  have g0 : W.cell? ⟨p, 0, none⟩ = some (.int .i64 (n : Int)) := H0.out.g
  have HPK : Hid _ := hpk
  clear hJ hJx hG hY hJ0 hW hbp hbk tp tk hown HX hpk
  refine callsIn_of_wp Try.func44 rfl trivial ?_ rfl
  simp only [Try.ntmps44, List.size_toArray, List.length_cons, List.length_nil, Nat.reduceAdd, Nat.reduceSub, Array.replicate_succ, Array.replicate_zero, List.push_toArray, List.append_toArray, List.nil_append, List.cons_append]
  gi_wp2
  clear c0 g0
  gi_loopw [12] (fun iv wr => ∃ (i : Nat), iv = .int .i64 i ∧ i ≤ n ∧ Hid (CiS bp bk p n pick J T i wr)) (fun iv _ => n - (intOf iv).toNat)
  case atStart => exact ⟨0, rfl, Nat.zero_le _, H0⟩
  case round =>
    obtain ⟨i, rfl, hi, HF⟩ := hrel
    rename World => wr
    clear H0
    by_cases hlt : i < n
    · have y0 := HF.out.qp.cell
      have y1 := HF.out.qk.cell
      have y2 : wr.cell? ⟨p, 0, none⟩ = some (.int .i64 (n : Int)) := HF.out.g
      have hii : (i : Int) < (n : Int) := by omega
      obtain ⟨v, hv⟩ : ∃ v : Nat, v = (frm pick n + i) % n := ⟨_, rfl⟩
      have hvn : v < n := by rw [hv]; exact Nat.mod_lt _ h0
      have hw : (wrap64 (wrap64 (pick.tmod n + n) + i)).tmod n = (v : Int) := by
        have h1 := frm_tmod (pick := pick) h0
        have h2 := frm_lt (pick := pick) h0
        rw [Go.IntWalk.wrap64_in (pick.tmod n + n) (by omega), Go.IntWalk.wrap64_in _ (by omega), frm_at i h0, ← hv]
      have HXI : Hid (xs[i]? = some v) := by rw [hv]; exact HXA.out i hlt
      have hv1 : (v : Int) < 64 := by omega
      clear hv
      gi_wp2
      gi_region
      have HFd : Hid (CiS bp bk p n pick J T i wr.drew) := by
        have h1 := HF.out
        exact ⟨HJ.out _ _ _ _ _ h1.j (Rl.Mv.drew _ _), h1.qp, h1.qk, h1.tp, h1.tk, h1.g, h1.own⟩
      obtain ⟨fnn, tms, asg, bdy, hy, hR⟩ := HY.out i v #[.int .i64 (v : Int), .pointer (some ⟨p, 1 + v * 2, none⟩)] wr.drew.heap.size wr.drew T HXI.out rfl ⟨wr.drew, T, HFd.out.j, rfl, Rl.Mv.refl _ _⟩ HFd.out.j HFd.out.own 0
      clear HF HY
      gi_wp2
      refine ⟨rfl, hR.mono ?_⟩
      rintro e W5 ⟨t, rfl, ht1, ht2⟩
      cases t with
      | true =>
        obtain ⟨hj5, hrv⟩ := ht1 rfl
        have HF5 : Hid (CiS bp bk p n pick J T (i + 1) W5) := by
          have h1 := HFd.out
          exact ⟨hj5, (hrv.keep bp h1.tp h1.qp.lt).trans h1.qp, (hrv.keep bk h1.tk h1.qk.lt).trans h1.qk, h1.tp, h1.tk, HG.out _ _ _ hj5, fun b hb => Nat.lt_of_lt_of_le (h1.own b hb) hrv.size⟩
        clear ht1 ht2 hrv hj5 hy hR HFd
        gi_wp2
        go_roundw
        case rel => exact ⟨i + 1, by go_num, by omega, HF5⟩
        case measure => simp [intOf] <;> omega
      | false =>
        obtain ⟨hj5, hrv⟩ := ht2 rfl
        have HJ5 : Hid _ := hj5
        have HO5 : Hid (∀ b, T b → b < W5.heap.size) := fun b hb => Nat.lt_of_lt_of_le (HFd.out.own b hb) hrv.size
        clear ht1 ht2 hrv hj5 hy hR HFd
        gi_wp2
        refine bodyPost_ret (results_none9 rfl _ _) rfl ?_
        rw [HR.out]
        exact ⟨_, T, rfl, .inr ⟨i, by rw [HXL.out]; exact hlt, HJ5.out⟩, fun _ _ => Iff.rfl, HO5.out⟩
    · gi_wp2
      refine bodyPost_ret (results_none9 rfl _ _) rfl ?_
      rw [HR.out]
      refine ⟨_, T, rfl, .inl ?_, fun _ _ => Iff.rfl, HF.out.own⟩
      have := HF.out.j
      rw [show i = xs.length by rw [HXL.out]; omega] at this
      exact this

set_option maxHeartbeats 4000000 in
/-- Of no pool, and of one that nothing made, none is gone through. -/
theorem circle_itr0 (pv : Value) (bp bk : Nat) (enc : Nat → Nat → World → (Nat → Prop) → Array Value → Prop) (G : World → Prop) (hpv : pv = .pointer none ∨ ∃ p, pv = .pointer (some ⟨p, 0, none⟩) ∧ ∀ A, G A → CirG p 0 A) (T : Nat → Prop) (w : World) (hbp : Boxed w bp 25 pv) (hown : ∀ b, T b → b < w.heap.size) :
    Rl.Itr Try.prog 44 #[.pointer (some ⟨bp, 0, none⟩), .pointer (some ⟨bk, 0, none⟩)] enc [] 0 0 G T w := by
  intro li J Jx W hW hJ hJx hG hY hJ0
  have HJ0 : Hid _ := hJ0
  have HO : Hid (∀ b, T b → b < W.heap.size) := fun b hb => Nat.lt_of_lt_of_le (hown b hb) hW.size
  have hg := hG _ _ _ hJ0
  have hbp2 : Boxed W bp 25 pv := (hW.block bp hbp.lt).trans hbp
  have c0 := hbp2.cell
  obtain ⟨R, HR⟩ : ∃ R : Ending → World → Prop, Hid (R = fun e W2 => ∃ v T2, e = .returned v ∧ (J ([] : List Nat).length W2 T2 ∨ ∃ k, k < ([] : List Nat).length ∧ Jx (k + 1) W2 T2) ∧ (∀ b, b < W.heap.size → (T2 b ↔ T b)) ∧ (∀ b, T2 b → b < W2.heap.size)) := ⟨_, rfl⟩
  rw [← HR.out]
  clear hJ hJx hG hY hJ0 hW hbp hown hbp2
  rcases hpv with rfl | ⟨p, rfl, hp⟩
  · refine callsIn_of_wp Try.func44 rfl trivial ?_ rfl
    simp only [Try.ntmps44, List.size_toArray, List.length_cons, List.length_nil, Nat.reduceAdd, Nat.reduceSub, Array.replicate_succ, Array.replicate_zero, List.push_toArray, List.append_toArray, List.nil_append, List.cons_append]
    gi_wp2
    refine bodyPost_ret (results_none9 rfl _ _) rfl ?_
    rw [HR.out]
    exact ⟨_, T, rfl, .inl HJ0.out, fun _ _ => Iff.rfl, HO.out⟩
  · have g0 : W.cell? ⟨p, 0, none⟩ = some (.int .i64 0) := hp _ hg
    refine callsIn_of_wp Try.func44 rfl trivial ?_ rfl
    simp only [Try.ntmps44, List.size_toArray, List.length_cons, List.length_nil, Nat.reduceAdd, Nat.reduceSub, Array.replicate_succ, Array.replicate_zero, List.push_toArray, List.append_toArray, List.nil_append, List.cons_append]
    clear hp hg
    gi_wp2
    gi_loopw [12] (fun iv wr => iv = .int .i64 0 ∧ wr = W) (fun iv _ => 0)
    case atStart => exact ⟨rfl, rfl⟩
    case round =>
      obtain ⟨rfl, rfl⟩ := hrel
      gi_wp2
      refine bodyPost_ret (results_none9 rfl _ _) rfl ?_
      rw [HR.out]
      exact ⟨_, T, rfl, .inl HJ0.out, fun _ _ => Iff.rfl, HO.out⟩
end Go.Proofs.Ytfhmmiilenonkaa
