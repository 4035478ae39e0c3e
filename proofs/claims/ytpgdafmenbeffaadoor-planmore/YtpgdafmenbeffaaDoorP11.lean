/- Texts of the seat, packed: DQi DQn DPk DPc DPd DPe DPf. -/
import Derived.Test.YtpgdafmenbeffaaDoorP10
/- The program's Reach. -/
namespace Go.Proofs.YtpgdafmenbeffaaDoor.Dg
open Go.RowKit

theorem Tryd.info40 : (Tryd.prog.info? 40).map (fun i => (i.zero, i.size, i.bytes)) = some (some (.slice none 0 0), 1, 24) := by kernel_rfl

/-- A slice of nodes that lies behind a block. -/
def RdF (w : World) (q : Nat) (v : Value) (l : List Nat) : Prop := ∃ a cap, v = .slice a l.length cap ∧ l.length ≤ cap ∧ ∀ (i : Nat) (x : Nat), l[i]? = some x → ∃ b off, a = some ⟨b, off, none⟩ ∧ q < b ∧ w.cell? ⟨b, off + i, none⟩ = some (.int .i64 (x : Int))

theorem RdF.rd {w : World} {q : Nat} {v : Value} {l : List Nat} (h : RdF w q v l) : RdI w v l := by
  obtain ⟨a, cap, hv, hc, hr⟩ := h
  refine ⟨a, cap, hv, hc, fun i x hi => ?_⟩
  obtain ⟨b, off, ha, _, c0⟩ := hr i x hi
  exact ⟨b, off, ha, c0⟩

theorem RdF.later {w w' : World} {q : Nat} {v : Value} {l : List Nat} (h : RdF w q v l) (hb : Below w.heap.size w w') : RdF w' q v l := by
  obtain ⟨a, cap, hv, hc, hr⟩ := h
  refine ⟨a, cap, hv, hc, fun i x hi => ?_⟩
  obtain ⟨b, off, ha, hq, c0⟩ := hr i x hi
  exact ⟨b, off, ha, hq, cell_later hb c0⟩

theorem RdF.set {w : World} {q j : Nat} {u v : Value} {l : List Nat} (h : RdF w q v l) : RdF (w.setCell ⟨q, j, none⟩ u) q v l := by
  obtain ⟨a, cap, hv, hc, hr⟩ := h
  refine ⟨a, cap, hv, hc, fun i x hi => ?_⟩
  obtain ⟨b, off, ha, hq, c0⟩ := hr i x hi
  exact ⟨b, off, ha, hq, (World.cell?_of_block (a := ⟨b, off + i, none⟩) (Below.heap_setCell w ⟨q, j, none⟩ u b (by show b ≠ q; omega))).trans c0⟩

theorem RdF.of_own {w : World} {B q : Nat} {v : Value} {l : List Nat} (hq : q < B) (h : w.ownsRow B 3 1 v l.length (ivs l)) : RdF w q v l := by
  obtain ⟨a, cap, hv, hc, hr⟩ := RdI.of_own h
  refine ⟨a, cap, hv, hc, fun i x hi => ?_⟩
  obtain ⟨b, off, ha, c0⟩ := hr i x hi
  have := (h.lt b (by rw [hv, ha]; rfl)).1
  exact ⟨b, off, ha, by omega, c0⟩

/-- The first k rows of so many lie. -/
def RowsI (w : World) (q k n : Nat) (L : List (List Nat)) : Prop := ∃ Vs : List Value, w.heap[q]? = some (.cells Vs.toArray 40 (0, 0)) ∧ Vs.length = n ∧ ∀ (i : Nat), i < k → ∃ v, Vs[i]? = some v ∧ RdF w q v (L.getD i [])

theorem RowsI.later {w w' : World} {q k n : Nat} {L : List (List Nat)} (h : RowsI w q k n L) (hb : Below w.heap.size w w') : RowsI w' q k n L := by
  obtain ⟨Vs, h1, h2, h3⟩ := h
  refine ⟨Vs, (hb.block q (Array.getElem?_eq_some_iff.1 h1).1).trans h1, h2, fun i hi => ?_⟩
  obtain ⟨v, a, b⟩ := h3 i hi
  exact ⟨v, a, b.later hb⟩

theorem RowsI.get {w : World} {q k n : Nat} {L : List (List Nat)} (h : RowsI w q k n L) (t : Nat) (ht : t < n) : ∃ v, w.cell? ⟨q, t, none⟩ = some v ∧ w.frozen? ⟨q, t, none⟩ = false := by
  obtain ⟨Vs, h1, h2, h3⟩ := h
  exact ⟨Vs[t]'(by omega), by rw [cell_row h1 t, List.getElem?_toArray, List.getElem?_eq_getElem (by omega)], froz_row h1 t⟩

theorem RowsI.set {w : World} {q k n : Nat} {L : List (List Nat)} (h : RowsI w q k n L) (v : Value) (hk : k < n) (hv : RdF w q v (L.getD k [])) : RowsI (w.setCell ⟨q, k, none⟩ v) q (k + 1) n L := by
  obtain ⟨Vs, h1, h2, h3⟩ := h
  refine ⟨Vs.set k v, ?_, by simpa using h2, fun i hi => ?_⟩
  · have := row_set h1 k v
    rw [List.setIfInBounds_toArray] at this
    exact this
  · by_cases hik : i = k
    · subst hik
      exact ⟨v, List.getElem?_set_self (by omega), hv.set⟩
    · obtain ⟨u, a, b⟩ := h3 i (by omega)
      exact ⟨u, by rw [List.getElem?_set_ne (fun h => hik h.symm)]; exact a, b.set⟩

/-- Rows of nodes in a slice. -/
def RdL (w : World) (v : Value) (L : List (List Nat)) : Prop := ∃ a cap, v = .slice a L.length cap ∧ L.length ≤ cap ∧ ∀ (i : Nat) (x : List Nat), L[i]? = some x → ∃ b off u, a = some ⟨b, off, none⟩ ∧ w.cell? ⟨b, off + i, none⟩ = some u ∧ RdI w u x

theorem RdL.later {w w' : World} {v : Value} {L : List (List Nat)} (h : RdL w v L) (hb : Below w.heap.size w w') : RdL w' v L := by
  obtain ⟨a, cap, hv, hc, hr⟩ := h
  refine ⟨a, cap, hv, hc, fun i x hi => ?_⟩
  obtain ⟨b, off, u, ha, c0, c1⟩ := hr i x hi
  exact ⟨b, off, u, ha, cell_later hb c0, c1.later hb⟩

theorem RowsI.rd {w : World} {q : Nat} {L : List (List Nat)} (h : RowsI w q L.length L.length L) : RdL w (.slice (some ⟨q, 0, none⟩) L.length L.length) L := by
  obtain ⟨Vs, h1, h2, h3⟩ := h
  refine ⟨_, _, rfl, Nat.le_refl _, fun i x hi => ?_⟩
  obtain ⟨u, a, b⟩ := h3 i (List.getElem?_eq_some_iff.1 hi).1
  refine ⟨q, 0, u, rfl, by rw [Nat.zero_add, cell_row h1 i, List.getElem?_toArray, a], ?_⟩
  rw [List.getD_eq_getElem?_getD, hi] at b
  exact b.rd

theorem made_nil (m : Nat) : madeCells #[Value.slice none 0 0] m = (List.replicate m (Value.slice none 0 0)).toArray := by
  apply Array.toList_inj.1
  rw [toList_madeCells_one]

/-- What Reach tells. -/
def reachL (W o : List Nat) : List (List Nat) := (reachP W o).map bitsOf

/-- How Reach ends. -/
def ReachC (n : Int) (l : List (Int × Int)) (w : World) (e : Ending) (w' : World) : Prop := Below w.heap.size w w' ∧ match weaveP n l with
  | .bad c => e = .returned (.tuple #[.slice none 0 0, .int .i64 c])
  | .ok W o => ∃ v, e = .returned (.tuple #[v, .int .i64 0]) ∧ RdL w' v (reachL W o) ∧ (reachL W o).length = n.toNat

theorem weaveP_code {n : Int} {l : List (Int × Int)} {c : Int} (h : weaveP n l = .bad c) : c = 2 ∨ c = 13 := by
  unfold weaveP at h
  split at h
  · cases h; exact .inl rfl
  · split at h
    · cases h; exact .inr rfl
    · cases h

set_option maxRecDepth 1000000 in
set_option maxHeartbeats 2000000 in
theorem Reach_any (n : Int) (v : Value) (l : List (Int × Int)) (w : World) (hl : RdA w v l) (hT : Tab w) :
    Calls Tryd.prog 38 #[.int .i64 n, v] w fun e w' => ReachC n l w e w' := by
  have M : Hid (Calls Tryd.prog 56 #[.int .i64 n, v] w fun e w' => WvC n l w e w') := weave_any n v l w hl hT
  have HT : Hid (Tab w) := hT
  obtain ⟨a, cap, rfl, _⟩ := hl
  clear hT
  unfold WvC at M
  unfold ReachC
  cases hP : weaveP n l with
  | bad c =>
    rw [hP] at M
    have hc : ((c == 0)) = false := by rcases weaveP_code hP with rfl | rfl <;> rfl
    go_enter Tryd.func38, Tryd.ntmps38
    go_wp2_with fail
    refine Calls.mono M.out ?_
    rintro e w1 ⟨hb, rfl⟩
    go_wp2_with fail
    go_ret2
    exact ⟨hb, rfl⟩
  | ok W o =>
    rw [hP] at M
    obtain ⟨⟨hn0, hn64⟩, _, _, hWok, hWl, hOk, hol⟩ := weave_facts hP
    obtain ⟨m, rfl⟩ : ∃ m : Nat, n = (m : Int) := ⟨n.toNat, by omega⟩
    simp only [Int.toNat_natCast] at hWl hol M ⊢
    have hm : m ≤ 64 := by omega
    obtain ⟨i0, hi0, hz0, hz1, hz2⟩ := info_parts Tryd.info40
    clear hn0 hn64
    go_enter Tryd.func38, Tryd.ntmps38
    go_wp2_with fail
    refine Calls.mono M.out ?_
    rintro e w1 ⟨hb, v1, v2, rfl, hU, hI, h1, h2⟩
    have hmk := run_make (P := Tryd.prog) w1 83 40 i0 _ Tryd.underlying83 hi0 hz0 .i64 .i64 (m : Int) (m : Int) (by omega) (by omega) (by rw [hz2]; omega) (by omega)
    simp only [hz1, Int.toNat_natCast, Nat.mul_one] at hmk
    have HB1 : Hid (Below w.heap.size w w1) := hb
    have hBA : Below w1.heap.size w1 (w1.alloc (.cells (madeCells #[Value.slice none 0 0] m) 40)) := (Below.refl _ _).alloc (Nat.le_refl _) _
    have HB2 : Hid (Below w1.heap.size w1 (w1.alloc (.cells (madeCells #[Value.slice none 0 0] m) 40))) := hBA
    have HR0 : Hid (RowsI (w1.alloc (.cells (madeCells #[Value.slice none 0 0] m) 40)) w1.heap.size 0 m (reachL W o)) := ⟨List.replicate m (.slice none 0 0), by rw [← made_nil]; exact row_new w1 _ 40, by simp, fun i hi => by omega⟩
    have HZ0 : Hid (w1.heap.size < (w1.alloc (.cells (madeCells #[Value.slice none 0 0] m) 40)).heap.size) := by show _ < _; simp
    have M2 : Hid _ := reach_any W o v1 v2 _ (hU.later hBA) (hI.later hBA) (by omega) (by omega) hWok (fun x hx => hOk.lt x hx) ((HT.out.later hb).later hBA)
    have HT1 : Hid (Tab w1) := HT.out.later hb
    obtain ⟨a1, cap1, rfl, _⟩ := hU
    obtain ⟨a2, cap2, rfl, _⟩ := hI
    clear hBA
    rw [hWl] at M2 ⊢
    rw [hol] at M2 ⊢
    go_wp2_with fail
    generalize w1.alloc (.cells (madeCells #[Value.slice none 0 0] m) 40) = w2 at *
    refine Calls.mono M2.out ?_
    rintro e w3 ⟨hb3, b, hbq, rfl, hRow, hRl⟩
    have HRow : Hid (RowU w3 b (reachP W o)) := hRow
    have HLL : Hid ((reachL W o).length = m) := by show _ = _; unfold reachL; rw [List.length_map, hRl]
    have HGet : Hid (∀ i, i < m → (reachL W o).getD i [] = bitsOf ((reachP W o).getD i 0)) := by
      show ∀ i, _
      intro i hi
      unfold reachL
      rw [List.getD_eq_getElem?_getD, List.getElem?_map, List.getD_eq_getElem?_getD, List.getElem?_eq_getElem (by rw [hRl]; exact hi)]
      rfl
    have HB3 : Hid (Below w1.heap.size w1 w3) := HB2.out.trans (hb3.mono HB2.out.size)
    have HR3 : Hid (RowsI w3 w1.heap.size 0 m (reachL W o)) := HR0.out.later hb3
    have HZ3 : Hid (w1.heap.size < w3.heap.size) := by have := hb3.size; have := HZ0.out; show _ < _; omega
    have HBq : Hid (w1.heap.size < b) := by have := HZ0.out; show _ < _; omega
    have HRl : Hid ((reachP W o).length = m) := hRl
    clear hRow hbq hb3 HR0 HZ0 M2 HB2 M
    generalize reachP W o = R at *
    go_wp2_with fail
    go_loopw [10, 11, 28] (fun _ _ iv wr => ∃ (k : Nat), k ≤ m ∧ iv = .int .i64 k ∧ Hid (RowsI wr w1.heap.size k m (reachL W o)) ∧ Hid (RowU wr b R) ∧ Hid (Below w1.heap.size w1 wr) ∧ Hid (w1.heap.size < wr.heap.size)) (fun _ _ iv _ => m - (intOf iv).toNat)
    case atStart => exact ⟨0, Nat.zero_le _, rfl, HR3, HRow, HB3, HZ3⟩
    case round =>
      obtain ⟨k, hk, rfl, HRs, HRw, HBk, HZk⟩ := hrel
      rename World => w4
      clear HR3 HRow HB3 HZ3
      by_cases hlt : k < m
      · obtain ⟨r1, r2, r3⟩ := HRw.out.get k (by rw [HRl.out]; exact hlt)
        have M4 : Hid _ := nodes_any (R.getD k 0) r3 w4 (HT1.out.later HBk.out)
        have HGk := HGet.out k hlt
        generalize R.getD k 0 = y at *
        have hki : (k : Int) < (m : Int) := by omega
        go_wp2_with fail
        refine Calls.mono M4.out ?_
        rintro e w5 ⟨nv, rfl, hb5, hown⟩
        obtain ⟨u, c1, c2⟩ := (HRs.out.later hb5).get k hlt
        obtain ⟨na, nc, hnv, _⟩ := RdI.of_own hown
        have HR5 : Hid (RowsI (w5.setCell ⟨w1.heap.size, k, none⟩ nv) w1.heap.size (k + 1) m (reachL W o)) := (HRs.out.later hb5).set nv hlt (by rw [HGk]; exact RdF.of_own HZk.out hown)
        have HW5 : Hid (RowU (w5.setCell ⟨w1.heap.size, k, none⟩ nv) b R) := ⟨row_other (HRw.out.below hb5).row nv (by have := HBq.out; omega), HRw.out.lt⟩
        have HB5 : Hid (Below w1.heap.size w1 (w5.setCell ⟨w1.heap.size, k, none⟩ nv)) := (HBk.out.trans (hb5.mono HBk.out.size)).setCell (p := ⟨w1.heap.size, k, none⟩) (Nat.le_refl _) _
        have HZ5 : Hid (w1.heap.size < (w5.setCell ⟨w1.heap.size, k, none⟩ nv).heap.size) := by have := hb5.size; have := HZk.out; show _ < _; simp; omega
        clear hown hb5 HRs HRw HBk HZk
        subst hnv
        go_wp2_with fail
        go_roundw
        case rel => exact ⟨k + 1, by omega, by go_num, HR5, HW5, HB5, HZ5⟩
        case measure => simp [intOf]; omega
      · have hkm : k = m := by omega
        subst hkm
        go_wp2_with fail
        go_ret2
        refine ⟨HB1.out.trans (HBk.out.mono HB1.out.size), _, rfl, ?_, HLL.out⟩
        have h9 := HRs.out
        rw [← HLL.out] at h9 ⊢
        exact h9.rd
end Go.Proofs.YtpgdafmenbeffaaDoor.Dg

/- The document's In, Same of numbers, SameRows. -/
namespace Go.Proofs.YtpgdafmenbeffaaDoor.Dg
open Go.RowKit


set_option maxRecDepth 1000000 in
set_option maxHeartbeats 1000000 in
theorem sameI_any (l m : List Nat) (v u : Value) (w : World) (hl : RdI w v l) (hm : RdI w u m) (hn : l.length ≤ 100000) (hn' : m.length ≤ 100000) :
    Calls Tryd.prog 13 #[v, u] w fun e w' => e = .returned (.bool (decide (l = m))) ∧ Below w.heap.size w w' := by
  obtain ⟨a, cap, rfl, hc, hr⟩ := hl
  obtain ⟨a', cap', rfl, hc', hr'⟩ := hm
  have HR : Hid _ := hr
  have HR' : Hid _ := hr'
  obtain ⟨n, HN⟩ : ∃ n, Hid (l.length = n) := ⟨_, rfl⟩
  obtain ⟨n', HN'⟩ : ∃ n, Hid (m.length = n) := ⟨_, rfl⟩
  rw [HN.out] at hn hc ⊢
  rw [HN'.out] at hn' hc' ⊢
  clear hr hr'
  by_cases hnn : n = n'
  · subst hnn
    go_enter Tryd.func13, Tryd.ntmps13
    go_wp2_with fail
    go_loopw [5] (fun iv wr => ∃ (k : Nat), k ≤ n ∧ iv = .int .i64 k ∧ Hid (l.take k = m.take k) ∧ Hid (Below w.heap.size w wr)) (fun iv _ => n - (intOf iv).toNat)
    case atStart => exact ⟨0, Nat.zero_le _, rfl, by show l.take 0 = m.take 0; simp, Below.refl _ _⟩
    case round =>
      obtain ⟨k, hk, rfl, HX, HB⟩ := hrel
      rename World => w1
      by_cases hlt : k < n
      · obtain ⟨y, hy⟩ : ∃ y, l[k]? = some y := ⟨_, List.getElem?_eq_getElem (by rw [HN.out]; exact hlt)⟩
        obtain ⟨z, hz⟩ : ∃ y, m[k]? = some y := ⟨_, List.getElem?_eq_getElem (by rw [HN'.out]; exact hlt)⟩
        obtain ⟨b, off, rfl, c0⟩ := HR.out k y hy
        obtain ⟨b', off', rfl, c1⟩ := HR'.out k z hz
        have d0 := cell_later HB.out c0
        have d1 := cell_later HB.out c1
        have hki : (k : Int) < (n : Int) := by omega
        have HB2 : Hid (Below w.heap.size w w1.drew) := bl_drawn1 HB.out
        by_cases hyz : y = z
        · have hb : ((y : Int) == (z : Int)) = true := by simp; omega
          have HX2 : Hid (l.take (k + 1) = m.take (k + 1)) := by
            show _ = _
            rw [List.take_add_one, List.take_add_one, hy, hz, HX.out, hyz]
          clear hy hz hyz c0 c1 HX
          go_wp2_with fail
          go_region
          all_goals
            go_wp2_with fail
            go_roundw
            case rel => exact ⟨k + 1, by omega, by go_num, HX2, HB2⟩
            case measure => simp [intOf]; omega
        · have hb : ((y : Int) == (z : Int)) = false := by simp; omega
          have HF : Hid (decide (l = m) = false) := decide_eq_false (by rintro rfl; rw [hy] at hz; cases hz; exact hyz rfl)
          clear hy hz hyz c0 c1 HX
          go_wp2_with fail
          go_region
          all_goals
            go_wp2_with fail
            go_ret
            exact ⟨by rw [HF.out]; rfl, HB2.out⟩
      · have hkn : k = n := by omega
        subst hkn
        have HT2 : Hid (decide (l = m) = true) := by
          have h1 := HX.out
          rw [List.take_of_length_le (by rw [HN.out]; exact Nat.le_refl _), List.take_of_length_le (by rw [HN'.out]; exact Nat.le_refl _)] at h1
          exact decide_eq_true h1
        go_wp2_with fail
        go_ret
        exact ⟨by rw [HT2.out]; rfl, HB.out⟩
  · have HF : Hid (decide (l = m) = false) := decide_eq_false (by rintro rfl; exact hnn (HN.out.symm.trans HN'.out))
    have hb : ((n : Int) == (n' : Int)) = false := by simp; omega
    go_enter Tryd.func13, Tryd.ntmps13
    go_wp2_with fail
    go_ret
    exact ⟨by rw [HF.out]; rfl, Below.refl _ _⟩
end Go.Proofs.YtpgdafmenbeffaaDoor.Dg

/- Arcs in a row of the call's own. -/
namespace Go.Proofs.YtpgdafmenbeffaaDoor.Dg
open Go.RowKit

theorem Tryd.info110 : (Tryd.prog.info? 110).map (fun i => (i.zero, i.size, i.bytes)) = some (some (.agg #[.int .i64 0, .int .i64 0]), 2, 16) := by kernel_rfl

def av (p : Int × Int) : List Value := [.int .i64 p.1, .int .i64 p.2]

def avs : List (Int × Int) → List Value
  | [] => []
  | p :: l => av p ++ avs l

theorem avs_append (a b : List (Int × Int)) : avs (a ++ b) = avs a ++ avs b := by
  induction a with
  | nil => rfl
  | cons t a ih => simp [avs, ih]

theorem avs_len (a : List (Int × Int)) : (avs a).length = a.length * 2 := by
  induction a with
  | nil => rfl
  | cons t a ih => simp [avs, av, ih]; omega

theorem avs_one (t : Int × Int) : avs [t] = av t := by simp [avs]

theorem avs_at (a : List (Int × Int)) : ∀ (i j : Nat) (t : Int × Int), a[i]? = some t → j < 2 → (avs a)[i * 2 + j]? = (av t)[j]? := by
  induction a with
  | nil => intro i j t h; simp at h
  | cons p a ih =>
    intro i j t h hj
    cases i with
    | zero =>
      simp at h
      subst h
      simp only [avs, Nat.zero_mul, Nat.zero_add]
      rw [List.getElem?_append_left (by simp [av]; omega)]
    | succ i =>
      simp only [avs]
      rw [List.getElem?_append_right (by simp [av]; omega), show (i + 1) * 2 + j - (av p).length = i * 2 + j by simp [av]; omega]
      exact ih i j t (by simpa using h) hj

def Small (l : List (Int × Int)) : Prop := ∀ p ∈ l, (-9223372036854775808 ≤ p.1 ∧ p.1 ≤ 9223372036854775807) ∧ -9223372036854775808 ≤ p.2 ∧ p.2 ≤ 9223372036854775807

theorem RdA.of_own {w : World} {B : Nat} {v : Value} {l : List (Int × Int)} (h : w.ownsRow B 110 2 v l.length (avs l)) (hl : Small l) : RdA w v l := by
  rcases h.2 with ⟨rfl, h0⟩ | ⟨g, cap, cur, rfl, hb, hg, hnc, hcm, _⟩
  · have h1 : l = [] := List.eq_nil_of_length_eq_zero h0
    subst h1
    exact ⟨none, 0, rfl, Nat.le_refl _, by simp, by simp⟩
  · refine ⟨_, cap, rfl, hnc, hl, fun i x hi => ⟨g, 0, rfl, ?_, ?_⟩⟩
    · have := h.cells (g := g) rfl (i * 2 + 0) (.int .i64 x.1) (by rw [avs_at l i 0 x hi (by omega)]; rfl)
      rw [add_zero'] at this
      rw [Nat.zero_add]
      exact this
    · have := h.cells (g := g) rfl (i * 2 + 1) (.int .i64 x.2) (by rw [avs_at l i 1 x hi (by omega)]; rfl)
      rw [add_zero'] at this
      rw [Nat.zero_add]
      exact this

theorem own_mono {w : World} {B B' : Nat} {e : TypeId} {size : Nat} {v : Value} {n : Nat} {xs : List Value} (hB : B' ≤ B) (h : w.ownsRow B e size v n xs) : w.ownsRow B' e size v n xs := by
  obtain ⟨h1, h2⟩ := h
  refine ⟨h1, ?_⟩
  rcases h2 with h3 | ⟨g, cap, cur, h4, h5, h6⟩
  · exact .inl h3
  · exact .inr ⟨g, cap, cur, h4, Nat.le_trans hB h5, h6⟩
end Go.Proofs.YtpgdafmenbeffaaDoor.Dg

/- What reach tells (plain words). -/
namespace Go.Proofs.YtpgdafmenbeffaaDoor.Dg


theorem getD_set (l : List Nat) (v x a : Nat) : (l.set v a).getD x 0 = if x = v ∧ v < l.length then a else l.getD x 0 := by
  rw [List.getD_eq_getElem?_getD, List.getElem?_set]
  by_cases h : v = x
  · subst h
    by_cases hl : v < l.length
    · simp [hl]
    · rw [if_pos rfl, if_neg hl, if_neg (fun h => hl h.2), List.getD_eq_getElem?_getD, List.getElem?_eq_none (by omega)]
  · rw [if_neg h, if_neg (fun h2 => h h2.1.symm), List.getD_eq_getElem?_getD]

/-- Sets put into one node's: no other one's turns; it holds what they hold. -/
theorem orIn_fold (v : Nat) : ∀ (l : List Nat) (R : List Nat), v < R.length → v ∉ l → (∀ x, x ≠ v → (l.foldl (orIn v) R).getD x 0 = R.getD x 0) ∧ ∀ y, ((l.foldl (orIn v) R).getD v 0).testBit y = true ↔ (R.getD v 0).testBit y = true ∨ ∃ f ∈ l, (R.getD f 0).testBit y = true := by
  intro l
  induction l with
  | nil => intro R _ _; exact ⟨fun _ _ => rfl, fun y => by simp⟩
  | cons f l ih =>
    intro R hv hn
    have hfv : f ≠ v := fun h => hn (by simp [h])
    obtain ⟨h1, h2⟩ := ih (orIn v R f) (by simpa [orIn] using hv) (fun h => hn (by simp [h]))
    have hset : ∀ x, (orIn v R f).getD x 0 = if x = v then R.getD v 0 ||| R.getD f 0 else R.getD x 0 := by
      intro x
      unfold orIn
      rw [getD_set]
      by_cases hx : x = v
      · rw [if_pos ⟨hx, hv⟩, if_pos hx]
      · rw [if_neg (fun h => hx h.1), if_neg hx]
    refine ⟨fun x hx => ?_, fun y => ?_⟩
    · rw [List.foldl_cons, h1 x hx, hset, if_neg hx]
    · rw [List.foldl_cons, h2 y, hset, if_pos rfl, Nat.testBit_or, Bool.or_eq_true]
      constructor
      · rintro ((h | h) | ⟨g, hg, h⟩)
        · exact .inl h
        · exact .inr ⟨f, by simp, h⟩
        · have hgv : g ≠ v := fun e => hn (by simp [← e, hg])
          rw [hset, if_neg hgv] at h
          exact .inr ⟨g, by simp [hg], h⟩
      · rintro (h | ⟨g, hg, h⟩)
        · exact .inl (.inl h)
        · rcases List.mem_cons.1 hg with rfl | hg
          · exact .inl (.inr h)
          · have hgv : g ≠ v := fun e => hn (by simp [← e, hg])
            exact .inr ⟨g, hg, by rw [hset, if_neg hgv]; exact h⟩

theorem reachOne_at (W R : List Nat) (v : Nat) (hv : v < R.length) (hn : v ∉ bitsOf (W.getD v 0)) : (∀ x, x ≠ v → (reachOne W R v).getD x 0 = R.getD x 0) ∧ ∀ y, ((reachOne W R v).getD v 0).testBit y = true ↔ (W.getD v 0).testBit y = true ∨ ∃ f ∈ bitsOf (W.getD v 0), (R.getD f 0).testBit y = true := by
  obtain ⟨h1, h2⟩ := orIn_fold v (bitsOf (W.getD v 0)) (R.set v (W.getD v 0)) (by simpa using hv) hn
  refine ⟨fun x hx => ?_, fun y => ?_⟩
  · unfold reachOne
    rw [h1 x hx, getD_set, if_neg (fun h => hx h.1)]
  · unfold reachOne
    rw [h2 y, getD_set, if_pos ⟨rfl, hv⟩]
    constructor
    · rintro (h | ⟨f, hf, h⟩)
      · exact .inl h
      · rw [getD_set, if_neg (fun (e : f = v ∧ _) => hn (e.1 ▸ hf))] at h
        exact .inr ⟨f, hf, h⟩
    · rintro (h | ⟨f, hf, h⟩)
      · exact .inl h
      · exact .inr ⟨f, hf, by rw [getD_set, if_neg (fun (e : f = v ∧ _) => hn (e.1 ▸ hf))]; exact h⟩

theorem filter_lt (p q : Nat → Bool) (f : Nat) (hp : p f = true) (hq : q f = false) : ∀ l : List Nat, (∀ x ∈ l, q x = true → p x = true) → (l.filter q).length ≤ (l.filter p).length ∧ (f ∈ l → (l.filter q).length + 1 ≤ (l.filter p).length) := by
  intro l
  induction l with
  | nil => intro _; simp
  | cons x l ih =>
    intro h
    obtain ⟨h1, h2⟩ := ih (fun y hy => h y (by simp [hy]))
    rw [List.filter_cons, List.filter_cons]
    have hx := h x (by simp)
    by_cases hqx : q x = true
    · rw [if_pos hqx, if_pos (hx hqx)]
      refine ⟨by simp; omega, fun hf => ?_⟩
      rcases List.mem_cons.1 hf with rfl | hf
      · rw [hq] at hqx; cases hqx
      · have := h2 hf
        simp; omega
    · rw [if_neg hqx]
      by_cases hpx : p x = true
      · rw [if_pos hpx]
        refine ⟨by simp; omega, fun _ => by simp; omega⟩
      · rw [if_neg hpx]
        refine ⟨h1, fun hf => ?_⟩
        rcases List.mem_cons.1 hf with rfl | hf
        · exact absurd hp hpx
        · exact h2 hf

theorem bitsOf_grow {s t f : Nat} (hf : f < 64) (hs : s.testBit f = false) (ht : t.testBit f = true) (h : ∀ y, s.testBit y = true → t.testBit y = true) : (bitsOf s).length + 1 ≤ (bitsOf t).length :=
  (filter_lt (fun i => t.testBit i) (fun i => s.testBit i) f ht hs (List.range 64) (fun x _ => h x)).2 (List.mem_range.2 hf)

theorem of_bitsOf {s i : Nat} (h : i ∈ bitsOf s) : s.testBit i = true := by
  unfold bitsOf at h
  exact (List.mem_filter.1 h).2

theorem mem_take_at {o : List Nat} {i x : Nat} (h : x ∈ o.take i) : ∃ j, j < i ∧ o[j]? = some x := by
  obtain ⟨j, hj⟩ := List.mem_iff_getElem?.1 h
  have hlt := (List.getElem?_eq_some_iff.1 hj).1
  rw [List.length_take] at hlt
  exact ⟨j, by omega, by rw [List.getElem?_take_of_lt (by omega)] at hj; exact hj⟩

theorem at_mem_take {o : List Nat} {i j x : Nat} (h : o[j]? = some x) (hj : j < i) : x ∈ o.take i := by
  refine List.mem_of_getElem? (i := j) ?_
  rw [List.getElem?_take_of_lt hj]
  exact h

theorem take_sub {o : List Nat} {i j x : Nat} (h : x ∈ o.take j) (hj : j ≤ i) : x ∈ o.take i := by
  obtain ⟨k, hk, hx⟩ := mem_take_at h
  exact at_mem_take hx (by omega)

theorem nodup_at {o : List Nat} (h : o.Nodup) {i v : Nat} (hi : o[i]? = some v) : v ∉ o.take i := by
  intro hm
  obtain ⟨j, hj, hx⟩ := mem_take_at hm
  have := (List.getElem?_inj (by have := (List.getElem?_eq_some_iff.1 hx).1; exact this) h).1 (hx.trans hi.symm)
  omega
end Go.Proofs.YtpgdafmenbeffaaDoor.Dg

/- Which nodes are free, while an order is there (plain words). -/
namespace Go.Proofs.YtpgdafmenbeffaaDoor.Dg


def overP (l : List Nat) : Nat := l.foldl (fun s d => s ||| 2 ^ d) 0

theorem overP_snoc (l : List Nat) (x : Nat) : overP (l ++ [x]) = overP l ||| 2 ^ x := by unfold overP; rw [List.foldl_append]; rfl

theorem overP_bit (l : List Nat) (i : Nat) : (overP l).testBit i = true ↔ i ∈ l := by
  have : ∀ (l : List Nat) (s : Nat), (l.foldl (fun s d => s ||| 2 ^ d) s).testBit i = true ↔ s.testBit i = true ∨ i ∈ l := by
    intro l
    induction l with
    | nil => intro s; simp
    | cons x l ih =>
      intro s
      rw [List.foldl_cons, ih, or_bit, Bool.or_eq_true, decide_eq_true_eq, List.mem_cons, or_assoc]
  unfold overP
  rw [this]
  simp

theorem overP_lt (l : List Nat) (h : ∀ x ∈ l, x < 64) : overP l < 18446744073709551616 := by
  have : ∀ (l : List Nat) (s : Nat), (∀ x ∈ l, x < 64) → s < 18446744073709551616 → l.foldl (fun s d => s ||| 2 ^ d) s < 18446744073709551616 := by
    intro l
    induction l with
    | nil => intro s _ hs; exact hs
    | cons x l ih =>
      intro s h hs
      rw [List.foldl_cons]
      exact ih _ (fun y hy => h y (by simp [hy])) (or_lt hs (two_lt (h x (by simp))))
  exact this l 0 h (by omega)

def readyP (W done : List Nat) : List Nat := bitsOf (dif (freeTo W (overP done) W.length) (overP done))

theorem readyP_mem {W done : List Nat} (hn : W.length ≤ 64) {x : Nat} : x ∈ readyP W done ↔ (x < W.length ∧ ∀ i, (W.getD x 0).testBit i = true → i ∈ done) ∧ x ∉ done := by
  have hb : (dif (freeTo W (overP done) W.length) (overP done)).testBit x = true ↔ (x < W.length ∧ ∀ i, (W.getD x 0).testBit i = true → i ∈ done) ∧ x ∉ done := by
    rw [dif_bit, freeTo_bit]
    simp only [Bool.and_eq_true, decide_eq_true_eq, Bool.not_eq_true']
    constructor
    · rintro ⟨⟨h1, h2⟩, h3⟩
      refine ⟨⟨h1, fun i hi => (overP_bit done i).1 (dif_zero.1 h2 i hi)⟩, fun hm => ?_⟩
      rw [(overP_bit done x).2 hm] at h3
      cases h3
    · rintro ⟨⟨h1, h2⟩, h3⟩
      refine ⟨⟨h1, dif_zero.2 fun i hi => (overP_bit done i).2 (h2 i hi)⟩, ?_⟩
      cases hc : (overP done).testBit x with
      | false => rfl
      | true => exact absurd ((overP_bit done x).1 hc) h3
  rw [← hb]
  unfold readyP
  constructor
  · exact of_bitsOf
  · intro h
    unfold bitsOf
    refine List.mem_filter.2 ⟨List.mem_range.2 ?_, h⟩
    have := (hb.1 h).1.1
    omega

theorem erase_mem {l : List Nat} {x y : Nat} (h : y ∈ l) (hne : y ≠ x) : y ∈ l.filter (fun z => decide (z ≠ x)) := List.mem_filter.2 ⟨h, by simpa using hne⟩

/-- Different ones that all stand in a list are no more than it has. -/
theorem pigeon : ∀ (a b : List Nat), a.Nodup → (∀ x ∈ a, x ∈ b) → a.length ≤ b.length := by
  intro a
  induction a with
  | nil => intro b _ _; simp
  | cons x a ih =>
    intro b hn hs
    rw [List.nodup_cons] at hn
    have h1 := ih (b.filter fun z => decide (z ≠ x)) hn.2 (fun y hy => erase_mem (hs y (by simp [hy])) (fun e => hn.1 (e ▸ hy)))
    have h2 : (b.filter fun z => decide (z ≠ x)).length < b.length := by
      have h3 := (filter_lt (fun _ => true) (fun z => decide (z ≠ x)) x rfl (by simp) b (fun _ _ _ => rfl)).2 (hs x (by simp))
      have h4 : (b.filter fun _ => true).length = b.length := by rw [List.filter_eq_self.2 (by simp)]
      omega
    simp only [List.length_cons]
    omega

/-- While fewer than all are done, one is ready. -/
theorem ready_some {W o done : List Nat} (hn : W.length ≤ 64) (hO : OrdOk W o) (hol : o.length = W.length) (hlt : done.length < W.length) : readyP W done ≠ [] := by
  have hex : ∃ k x, o[k]? = some x ∧ x ∉ done ∧ ∀ y ∈ o.take k, y ∈ done := by
    have key : ∀ i, i ≤ o.length → (∀ y ∈ o.take i, y ∈ done) ∨ ∃ k x, o[k]? = some x ∧ x ∉ done ∧ ∀ y ∈ o.take k, y ∈ done := by
      intro i
      induction i with
      | zero => intro _; exact .inl (by simp)
      | succ i ih =>
        intro hi
        rcases ih (by omega) with h | h
        · have hx : o[i]? = some o[i] := List.getElem?_eq_getElem (by omega)
          by_cases hd : o[i] ∈ done
          · refine .inl fun y hy => ?_
            rw [List.take_add_one, hx] at hy
            rcases List.mem_append.1 hy with h1 | h1
            · exact h y h1
            · simp at h1; rw [h1]; exact hd
          · exact .inr ⟨i, _, hx, hd, h⟩
        · exact .inr h
    rcases key o.length (Nat.le_refl _) with h | h
    · rw [List.take_length] at h
      have := pigeon o done hO.nodup h
      omega
    · exact h
  obtain ⟨k, x, hx, hd, hall⟩ := hex
  have : x ∈ readyP W done := (readyP_mem hn).2 ⟨⟨hO.lt x (List.mem_of_getElem? hx), fun i hi => hall i (hO.ahead k x hx i hi)⟩, hd⟩
  intro he
  rw [he] at this
  cases this
end Go.Proofs.YtpgdafmenbeffaaDoor.Dg

/- Chains (plain words). -/
namespace Go.Proofs.YtpgdafmenbeffaaDoor.Dg


/-- A chain of arcs leads from one node to another one. -/
inductive Chain (W : List Nat) : Nat → Nat → Prop
  | one {f t : Nat} : (W.getD t 0).testBit f = true → Chain W f t
  | more {f g t : Nat} : Chain W f g → (W.getD t 0).testBit g = true → Chain W f t

theorem Chain.trans {W : List Nat} {f g t : Nat} (h : Chain W f g) (k : Chain W g t) : Chain W f t := by
  induction k with
  | one e => exact .more h e
  | more _ e ih => exact .more ih e

/-- What reach tells of the first i nodes of an order: what they lean on, and what these were told. -/
theorem reach_eq {W o : List Nat} (hn : W.length ≤ 64) (hO : OrdOk W o) : ∀ i, i ≤ o.length → ((o.take i).foldl (reachOne W) (List.replicate W.length 0)).length = W.length ∧ ∀ (j x : Nat), j < i → o[j]? = some x → ∀ y, (((o.take i).foldl (reachOne W) (List.replicate W.length 0)).getD x 0).testBit y = true ↔ (W.getD x 0).testBit y = true ∨ ∃ f, (W.getD x 0).testBit f = true ∧ (((o.take i).foldl (reachOne W) (List.replicate W.length 0)).getD f 0).testBit y = true := by
  intro i
  induction i with
  | zero => intro _; exact ⟨by simp, by omega⟩
  | succ i ih =>
    intro hi
    obtain ⟨hl, ih⟩ := ih (by omega)
    have hv : o[i]? = some o[i] := List.getElem?_eq_getElem (by omega)
    generalize o[i] = v at hv
    rw [List.take_add_one, hv]
    simp only [Option.toList_some, List.foldl_append, List.foldl_cons, List.foldl_nil]
    generalize (o.take i).foldl (reachOne W) (List.replicate W.length 0) = R at *
    have hvn : v < W.length := hO.lt v (List.mem_of_getElem? hv)
    have hnew := nodup_at hO.nodup hv
    have hvf : v ∉ bitsOf (W.getD v 0) := fun hm => hnew (hO.ahead i v hv v (of_bitsOf hm))
    obtain ⟨r1, r2⟩ := reachOne_at W R v (by rw [hl]; exact hvn) hvf
    refine ⟨by rw [reachOne_len]; exact hl, ?_⟩
    intro j x hj hx y
    have hfne : ∀ k, k ≤ i → o[k]? = some x → ∀ f, (W.getD x 0).testBit f = true → f ≠ v := fun k hk hxk f hf e => hnew (take_sub (hO.ahead k x hxk v (e ▸ hf)) hk)
    by_cases hji : j = i
    · subst hji
      have hxv : x = v := Option.some.inj (hx.symm.trans hv)
      subst hxv
      rw [r2 y]
      constructor
      · rintro (h | ⟨f, hf, h⟩)
        · exact .inl h
        · exact .inr ⟨f, of_bitsOf hf, by rw [r1 f (hfne j (by omega) hx f (of_bitsOf hf))]; exact h⟩
      · rintro (h | ⟨f, hf, h⟩)
        · exact .inl h
        · have hf64 : f < 64 := by
            have := hO.lt f (List.mem_of_mem_take (hO.ahead j x hv f hf))
            omega
          refine .inr ⟨f, List.mem_filter.2 ⟨List.mem_range.2 hf64, hf⟩, ?_⟩
          rw [r1 f (hfne j (by omega) hx f hf)] at h
          exact h
    · have hxv : x ≠ v := fun e => hnew (e ▸ at_mem_take hx (by omega))
      rw [r1 x hxv, ih j x (by omega) hx y]
      constructor
      · rintro (h | ⟨f, hf, h⟩)
        · exact .inl h
        · exact .inr ⟨f, hf, by rw [r1 f (hfne j (by omega) hx f hf)]; exact h⟩
      · rintro (h | ⟨f, hf, h⟩)
        · exact .inl h
        · exact .inr ⟨f, hf, by rw [r1 f (hfne j (by omega) hx f hf)] at h; exact h⟩

/-- All nodes stand in an order that is as long. -/
theorem ord_all {W o : List Nat} (hO : OrdOk W o) (hl : o.length = W.length) {x : Nat} (hx : x < W.length) : x ∈ o := by
  apply Classical.byContradiction
  intro hm
  have := pigeon (x :: o) (List.range W.length) (List.nodup_cons.2 ⟨hm, hO.nodup⟩) (fun y hy => by
    rcases List.mem_cons.1 hy with rfl | hy
    · exact List.mem_range.2 hx
    · exact List.mem_range.2 (hO.lt y hy))
  simp at this
  omega

/-- What reach tells: the chains. -/
theorem reach_chain {W o : List Nat} (hn : W.length ≤ 64) (hO : OrdOk W o) (hl : o.length = W.length) {x : Nat} (hx : x < W.length) (y : Nat) : ((reachP W o).getD x 0).testBit y = true ↔ Chain W y x := by
  have heq : ∀ x, x < W.length → ∀ y, ((reachP W o).getD x 0).testBit y = true ↔ (W.getD x 0).testBit y = true ∨ ∃ f, (W.getD x 0).testBit f = true ∧ ((reachP W o).getD f 0).testBit y = true := by
    intro x hx y
    obtain ⟨j, hj⟩ := List.mem_iff_getElem?.1 (ord_all hO hl hx)
    have hjl := (List.getElem?_eq_some_iff.1 hj).1
    have := (reach_eq hn hO o.length (Nat.le_refl _)).2 j x hjl hj y
    rw [List.take_length] at this
    exact this
  have hlt : ∀ t, t ∈ o → ∀ f, (W.getD t 0).testBit f = true → f ∈ o := by
    intro t ht f hf
    obtain ⟨j, hj⟩ := List.mem_iff_getElem?.1 ht
    exact List.mem_of_mem_take (hO.ahead j t hj f hf)
  constructor
  · obtain ⟨i, hi⟩ := List.mem_iff_getElem?.1 (ord_all hO hl hx)
    revert x y
    induction i using Nat.strongRecOn with
    | ind i ih =>
      intro x hx y hi h
      rcases (heq x hx y).1 h with h1 | ⟨f, hf, h1⟩
      · exact .one h1
      · obtain ⟨j, hj, hjf⟩ := mem_take_at (hO.ahead i x hi f hf)
        exact .more (ih j hj (hO.lt f (List.mem_of_getElem? hjf)) y hjf h1) hf
  · intro h
    induction h with
    | one e => exact (heq _ hx _).2 (.inl e)
    | more c e ih =>
      exact (heq _ hx _).2 (.inr ⟨_, e, ih (hO.lt _ (hlt _ (ord_all hO hl hx) _ e))⟩)

/-- Where there is an order, one is told. -/
theorem ordGo_some {W o : List Nat} (hn : W.length ≤ 64) (hO : OrdOk W o) (hl : o.length = W.length) : ∀ (k there : Nat) (acc : List Nat), there = overP acc → there < 18446744073709551616 → acc.length + k = W.length → ∃ r, ordGo W k there acc = some r := by
  intro k
  induction k with
  | zero => intro there acc _ _ _; exact ⟨acc, rfl⟩
  | succ k ih =>
    intro there acc hth hlt hlen
    have hne : nextS W there ≠ 0 := by
      intro h0
      refine ready_some (done := acc) hn hO hl (by omega) ?_
      unfold readyP
      unfold nextS at h0
      rw [← hth, h0, bitsOf_zero]
    have hnl : nextS W there < 18446744073709551616 := dif_lt (freeTo_lt W there _ hn)
    obtain ⟨_, _, b3⟩ := low_bit hne hnl
    obtain ⟨r, hr⟩ := ih (there ||| 2 ^ low (nextS W there)) (acc ++ [low (nextS W there)]) (by rw [overP_snoc, hth]) (or_lt hlt (two_lt b3)) (by rw [List.length_append]; simp; omega)
    refine ⟨r, ?_⟩
    rw [ordGo, if_neg hne]
    exact hr

theorem ordW_some {W o : List Nat} (hn : W.length ≤ 64) (hO : OrdOk W o) (hl : o.length = W.length) : ∃ r, ordW W = some r := ordGo_some hn hO hl W.length 0 [] rfl (by omega) (by simp)
end Go.Proofs.YtpgdafmenbeffaaDoor.Dg

/- Arcs that are turned round (plain words). -/
namespace Go.Proofs.YtpgdafmenbeffaaDoor.Dg


def swapA (l : List (Int × Int)) : List (Int × Int) := l.map fun p => (p.2, p.1)

theorem swapA_swapA (l : List (Int × Int)) : swapA (swapA l) = l := by
  unfold swapA
  rw [List.map_map]
  exact (List.map_congr_left (fun p _ => rfl)).trans (List.map_id l)

theorem swapA_len (l : List (Int × Int)) : (swapA l).length = l.length := by simp [swapA]

theorem swapA_mem {l : List (Int × Int)} {a b : Int} : (a, b) ∈ swapA l ↔ (b, a) ∈ l := by
  unfold swapA
  rw [List.mem_map]
  constructor
  · rintro ⟨⟨p, q⟩, h, e⟩
    cases e
    exact h
  · intro h
    exact ⟨(b, a), h, rfl⟩

theorem swapA_ends (n : Nat) (l : List (Int × Int)) : (swapA l).all (endsOk n) = l.all (endsOk n) := by
  unfold swapA
  rw [List.all_map]
  congr 1
  funext p
  simp only [Function.comp, endsOk]
  congr 1
  exact propext ⟨fun h => ⟨h.2, h.1⟩, fun h => ⟨h.2, h.1⟩⟩

theorem web_turn {n : Nat} {l : List (Int × Int)} (h : l.all (endsOk n) = true) (t f : Nat) : ((webOf n (swapA l)).getD t 0).testBit f = true ↔ ((webOf n l).getD f 0).testBit t = true := by
  rw [webOf_bit n (swapA l) (by rw [swapA_ends]; exact h), webOf_bit n l h, swapA_mem]
  constructor
  · rintro ⟨h1, _⟩
    have := List.all_eq_true.1 h _ h1
    simp only [endsOk, decide_eq_true_eq] at this
    exact ⟨h1, by omega⟩
  · rintro ⟨h1, _⟩
    have := List.all_eq_true.1 h _ h1
    simp only [endsOk, decide_eq_true_eq] at this
    exact ⟨h1, by omega⟩

theorem ord_turn {n : Nat} {l : List (Int × Int)} (h : l.all (endsOk n) = true) {o : List Nat} (hO : OrdOk (webOf n l) o) (hl : o.length = n) : OrdOk (webOf n (swapA l)) o.reverse := by
  have hW := webOf_len n l
  have hW' := webOf_len n (swapA l)
  refine ⟨List.pairwise_reverse.2 (List.Pairwise.imp (fun h => fun e => h e.symm) hO.nodup), ?_, ?_⟩
  · intro x hx
    rw [hW', ← hW]
    exact hO.lt x (List.mem_reverse.1 hx)
  · intro k x hk i hi
    rw [web_turn h] at hi
    have hkl : k < o.length := by have := (List.getElem?_eq_some_iff.1 hk).1; simpa using this
    rw [List.getElem?_reverse hkl] at hk
    have hin : i < n := by
      apply Classical.byContradiction
      intro hc
      rw [List.getD_eq_getElem?_getD, List.getElem?_eq_none (by rw [hW]; omega)] at hi
      simp at hi
    obtain ⟨j, hj⟩ := List.mem_iff_getElem?.1 (ord_all hO (by rw [hW]; exact hl) (by rw [hW]; exact hin))
    have hjl := (List.getElem?_eq_some_iff.1 hj).1
    obtain ⟨j', hj', hx'⟩ := mem_take_at (hO.ahead j i hj x hi)
    have he := (List.getElem?_inj (by omega) hO.nodup).1 (hk.trans hx'.symm)
    refine at_mem_take (j := o.length - 1 - j) ?_ (by omega)
    rw [List.getElem?_reverse (by omega), show o.length - 1 - (o.length - 1 - j) = j by omega]
    exact hj

theorem ordW_turn {n : Nat} {l : List (Int × Int)} (hn : n ≤ 64) (h : l.all (endsOk n) = true) {o : List Nat} (ho : ordW (webOf n l) = some o) : ∃ o', ordW (webOf n (swapA l)) = some o' := by
  have hW := webOf_len n l
  have hW' := webOf_len n (swapA l)
  obtain ⟨h1, h2⟩ := ordGo_ok (webOf n l) (by omega) _ 0 [] _ (by omega) (by simp) ⟨by simp, by simp, by simp⟩ ho
  simp only [List.length_nil, Nat.zero_add, hW] at h2
  exact ordW_some (by omega) (ord_turn h h1 h2) (by rw [List.length_reverse, h2, hW'])

/-- The turned arcs have the same error, or none. -/
theorem weave_turn (n : Int) (l : List (Int × Int)) : (∃ c, weaveP n l = .bad c ∧ weaveP n (swapA l) = .bad c) ∨ ∃ o o', weaveP n l = .ok (webOf n.toNat l) o ∧ weaveP n (swapA l) = .ok (webOf n.toNat (swapA l)) o' := by
  unfold weaveP
  rw [swapA_len, swapA_ends]
  by_cases hc : n < 0 ∨ 64 < n ∨ 4096 < l.length ∨ l.all (endsOk n.toNat) = false
  · rw [if_pos hc, if_pos hc]
    exact .inl ⟨2, rfl, rfl⟩
  · rw [if_neg hc, if_neg hc]
    have hall : l.all (endsOk n.toNat) = true := by
      cases ha : l.all (endsOk n.toNat) with
      | true => rfl
      | false => exact absurd (.inr (.inr (.inr ha))) hc
    have hn : n.toNat ≤ 64 := by
      have : ¬ 64 < n := fun h1 => hc (.inr (.inl h1))
      omega
    cases ho : ordW (webOf n.toNat l) with
    | some o =>
      obtain ⟨o', ho'⟩ := ordW_turn hn hall ho
      rw [ho']
      exact .inr ⟨o, o', rfl, rfl⟩
    | none =>
      cases ho' : ordW (webOf n.toNat (swapA l)) with
      | none => exact .inl ⟨13, rfl, rfl⟩
      | some o' =>
        obtain ⟨o'', h3⟩ := ordW_turn hn (by rw [swapA_ends]; exact hall) ho'
        rw [swapA_swapA, ho] at h3
        cases h3

theorem chain_turn {n : Nat} {l : List (Int × Int)} (h : l.all (endsOk n) = true) {x y : Nat} (hc : Chain (webOf n l) x y) : Chain (webOf n (swapA l)) y x := by
  induction hc with
  | one e => exact .one ((web_turn h _ _).2 e)
  | more _ e ih => exact Chain.trans (.one ((web_turn h _ _).2 e)) ih

/-- Of turned arcs a node reaches just those from which it was reached. -/
theorem reach_turn {n : Int} {l : List (Int × Int)} {W o W' o' : List Nat} (h1 : weaveP n l = .ok W o) (h2 : weaveP n (swapA l) = .ok W' o') {x y : Nat} (hx : x < n.toNat) (hy : y < n.toNat) : ((reachP W o).getD x 0).testBit y = ((reachP W' o').getD y 0).testBit x := by
  obtain ⟨⟨_, hn⟩, rfl, ha, _, hl, hO, hol⟩ := weave_facts h1
  obtain ⟨_, rfl, ha', _, hl', hO', hol'⟩ := weave_facts h2
  rw [Bool.eq_iff_iff, reach_chain (by omega) hO (by omega) (by omega), reach_chain (by omega) hO' (by omega) (by omega)]
  constructor
  · exact chain_turn ha
  · intro h
    have := chain_turn ha' h
    rw [swapA_swapA] at this
    exact this
end Go.Proofs.YtpgdafmenbeffaaDoor.Dg

