/- The laws' small functions: few, short, ev; events laid by a literal; the example. -/
import Derived.Test.YtamfpmpooaejkaaNp
namespace Go.Proofs.Ytamfpmpooaejkaa
open Go.RowKit Go.Shelf
set_option maxRecDepth 1000000
set_option linter.unusedVariables false

/-- Each log is as long as a log may be. -/
def Fit (R : List (List Ev)) : Prop := ∀ L ∈ R, L.length ≤ 4611686018427387904
def fewB (R : List (List Ev)) : Bool := decide (R.length ≤ 70 ∧ Mg.tot R ≤ 150)

def totR (R : List (List Ev)) (i : Nat) : Nat := ((R.take i).map List.length).sum
theorem totR_succ {R : List (List Ev)} {i : Nat} (h : i < R.length) : totR R (i + 1) = totR R i + (R.getD i []).length := by
  unfold totR
  rw [List.take_add_one, getD_row h]
  simp
theorem totR_le (R : List (List Ev)) (i : Nat) : totR R i ≤ Mg.tot R := by
  unfold totR Mg.tot
  conv => rhs; rw [← List.take_append_drop i R]
  rw [List.map_append, List.sum_append]
  omega
theorem totR_all (R : List (List Ev)) : totR R R.length = Mg.tot R := by unfold totR Mg.tot; rw [List.take_length]

set_option maxHeartbeats 2000000 in
theorem few_any (lv : Value) (R : List (List Ev)) (w : World) (hl : RRE w lv R) (hf : Fit R) : Calls Try.prog 9 #[lv] w fun e w' => e = .returned (.bool (fewB R)) ∧ w' = w := by
  obtain ⟨la, lc, rfl, q1, q2, hcs⟩ := hl
  have HCS : Hid _ := hcs
  have HFT : Hid (∀ i, i < R.length → (R.getD i []).length ≤ 4611686018427387904) := fun i hi => hf _ (List.mem_of_getElem? (getD_row hi))
  have HTS : Hid (∀ i, i < R.length → totR R (i + 1) = totR R i + (R.getD i []).length) := fun i hi => totR_succ hi
  have HTL : Hid (∀ i, totR R i ≤ Mg.tot R) := totR_le R
  have HTA : Hid (totR R R.length = Mg.tot R) := totR_all R
  obtain ⟨n, HN⟩ : ∃ n, Hid (R.length = n) := ⟨_, rfl⟩
  obtain ⟨F, HF⟩ : ∃ F, Hid (F = fewB R) := ⟨_, rfl⟩
  rw [← HF.out]
  unfold fewB at HF
  rw [HN.out] at HFT HTS HTA HF q1 ⊢
  unfold maxLen at q2
  clear hcs hf
  by_cases h70 : n ≤ 70
  · go_enter Try.func9, Try.ntmps9
    go_wp2_with fail
    go_loopw [3, 4] (fun tv iv wr => ∃ (i t : Nat), i ≤ n ∧ iv = .int .i64 i ∧ tv = .int .i64 (t : Int) ∧ Hid (t = totR R i) ∧ t ≤ 4611686018427388054 ∧ wr = w) (fun _ iv _ => n - (intOf iv).toNat)
    case atStart => exact ⟨0, 0, Nat.zero_le _, rfl, rfl, rfl, by omega, rfl⟩
    case round =>
      obtain ⟨i, t, hi, rfl, rfl, HT, ht, rfl⟩ := hrel
      by_cases hlt : i < n
      · by_cases h150 : t ≤ 150
        · obtain ⟨lb, lo, sv, rfl, c0, hrow⟩ := HCS.out i _ (getD_row (by rw [HN.out]; exact hlt))
          obtain ⟨ra, rc, rfl⟩ := hrow.slice
          have HS2 : Hid _ := HTS.out i hlt
          have hfi := HFT.out i hlt
          have HT2 : Hid (t + (R.getD i []).length = totR R (i + 1)) := by show _ = _; rw [HS2.out, HT.out]
          clear hrow HT HS2
          generalize (R.getD i []).length = ln at *
          go_wp2_with fail
          go_roundw
          case rel => exact ⟨i + 1, t + ln, by omega, by go_num, by go_num, HT2, by omega, trivial⟩
          case measure => simp [intOf]; omega
        · have HF2 : Hid (F = false) := by
            show _ = _
            rw [HF.out]
            refine decide_eq_false (fun h => ?_)
            have h9 := HTL.out i
            rw [← HT.out] at h9
            omega
          clear HF
          go_wp2_with fail
          go_ret
          exact ⟨by rw [HF2.out]; first | rfl | (simp; omega), rfl⟩
      · obtain rfl : n = i := by omega
        have HF2 : Hid (F = decide (t ≤ 150)) := by
          show _ = _
          rw [HF.out, ← HTA.out, ← HT.out]
          by_cases h : t ≤ 150
          · rw [decide_eq_true h]; exact decide_eq_true ⟨h70, h⟩
          · rw [decide_eq_false h]; exact decide_eq_false (fun h' => h h'.2)
        clear HF
        by_cases h150 : t ≤ 150
        · rw [decide_eq_true h150] at HF2
          go_wp2_with fail
          go_ret
          exact ⟨by rw [HF2.out]; first | rfl | (simp; omega), rfl⟩
        · rw [decide_eq_false h150] at HF2
          go_wp2_with fail
          go_ret
          exact ⟨by rw [HF2.out]; first | rfl | (simp; omega), rfl⟩
  · have HF2 : Hid (F = false) := by show _ = _; rw [HF.out]; exact decide_eq_false (fun h => h70 h.1)
    clear HF
    go_enter Try.func9, Try.ntmps9
    go_wp2_with fail
    go_ret
    exact ⟨by rw [HF2.out]; rfl, rfl⟩

theorem short_any (a : Option Addr) (n c : Nat) (w : World) : Calls Try.prog 15 #[.slice a n c] w fun e w' => e = .returned (.bool (decide (n ≤ 150))) ∧ w' = w := by
  by_cases h : n ≤ 150
  · rw [decide_eq_true h]
    go_enter Try.func15, Try.ntmps15
    go_wp2_with fail
    go_ret
    exact ⟨by first | rfl | (simp; omega), rfl⟩
  · rw [decide_eq_false h]
    go_enter Try.func15, Try.ntmps15
    go_wp2_with fail
    go_ret
    exact ⟨by first | rfl | (simp; omega), rfl⟩

theorem ev_any (a : Option Addr) (n c : Nat) (w : World) : Calls Try.prog 23 #[.slice a n c] w fun e w' => e = .returned (.agg #[.int .i64 1, .int .i64 1, .int .i64 0, .slice a n c]) ∧ Below w.heap.size w w' := by
  go_enter Try.func23, Try.ntmps23
  go_wp2_with fail
  refine ⟨rfl, _, results_cell_row (p := 2) (ty := 45) rfl _ _ w.heap.size 45 #[.int .i64 1, .int .i64 1, .int .i64 0, .slice a n c] (0, 0) _ rfl (row_new w _ _) Try.underlying45 rfl (by kernel_rfl), rfl, ?_⟩
  exact (Below.refl _ _).alloc (Nat.le_refl _) _

theorem two_new (w : World) (x y : Int) : RI (w.alloc (.cells #[.int .i64 x, .int .i64 y] 3)) (.slice (some ⟨w.heap.size, 0, none⟩) 2 2) [x, y] := by
  refine ⟨_, 2, rfl, Nat.le_refl _, by unfold maxLen; omega, fun i hi => ⟨w.heap.size, 0, rfl, ?_⟩⟩
  rw [Nat.zero_add, cell_row (row_new w _ _)]
  match i, hi with
  | 0, _ => rfl
  | 1, _ => rfl
  | i + 2, hi => simp at hi; omega

/-- Events laid in a block. -/
theorem RE.of_row {w : World} {b : Nat} (P : List (Ev × Value)) (cs : Array Value) (h : w.heap[b]? = some (.cells cs 45 (0, 0))) (hcs : cs.toList = evRows P) (hP : ∀ p ∈ P, RI w p.2 p.1.s) (hl : P.length ≤ 1000) (n : Nat) (hn : n = P.length) : RE w (.slice (some ⟨b, 0, none⟩) n n) (P.map Prod.fst) := by
  subst hn
  refine ⟨_, P.length, by rw [List.length_map], by rw [List.length_map]; exact Nat.le_refl _, by unfold maxLen; omega, fun i x hx => ?_⟩
  rw [List.getElem?_map] at hx
  obtain ⟨p, hp, rfl⟩ := Option.map_eq_some_iff.1 hx
  have cell : ∀ j, j < 4 → w.cell? ⟨b, 0 + i * 4 + j, none⟩ = (evRow p)[j]? := fun j hj => by
    rw [← evRows_get P i p hp j hj, Nat.zero_add, cell_row h, ← Array.getElem?_toList, hcs]
  have k0 := cell 0 (by omega)
  rw [Nat.add_zero] at k0
  exact ⟨b, 0, p.2, rfl, k0, cell 1 (by omega), cell 2 (by omega), cell 3 (by omega), hP p (List.mem_of_getElem? hp)⟩

/-- Two rows laid in a block. -/
theorem RRE.two {w : World} {b : Nat} {u v : Value} {K L : List Ev} (h : w.heap[b]? = some (.cells #[u, v] 25 (0, 0))) (hu : RE w u K) (hv : RE w v L) : RRE w (.slice (some ⟨b, 0, none⟩) 2 2) [K, L] := by
  refine ⟨_, 2, rfl, Nat.le_refl _, by unfold maxLen; omega, fun i x hx => ?_⟩
  match i, hx with
  | 0, hx =>
    simp at hx
    subst hx
    exact ⟨b, 0, u, rfl, (cell_row h 0).trans rfl, hu⟩
  | 1, hx =>
    simp at hx
    subst hx
    exact ⟨b, 0, v, rfl, (cell_row h 1).trans rfl, hv⟩
  | i + 2, hx => simp at hx

def exE (x y : Int) : Ev := ⟨1, 1, 0, [x, y]⟩
def ex1 : List (List Ev) := [[exE 1 0, exE 2 1], [exE 0 1, exE 2 2]]
def ex2 : List (List Ev) := [[exE 1 0, exE 2 1], []]
theorem ex_h : mgH ex1 = [exE 1 0, exE 0 1, exE 2 1, exE 2 2] := by kernel_rfl
theorem ex_n : mgN ex1 = [2, 2] := by kernel_rfl
theorem ex_g : (mgH ex2).length = 1 := by kernel_rfl
theorem ex_c : chkN 2 [exE 1 0, exE 0 1, exE 2 1, exE 2 2] = 0 := by kernel_rfl
theorem ex_a : ahd [exE 1 0, exE 0 1, exE 2 1, exE 2 2] 0 2 = true := by kernel_rfl
theorem ex_b : ahd [exE 1 0, exE 0 1, exE 2 1, exE 2 2] 0 1 = false := by kernel_rfl
end Go.Proofs.Ytamfpmpooaejkaa
