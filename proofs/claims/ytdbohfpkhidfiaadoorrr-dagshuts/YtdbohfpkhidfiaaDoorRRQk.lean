/- The program's Reduce. -/
import Derived.Test.YtdbohfpkhidfiaaDoorRRQj
namespace Go.Proofs.YtdbohfpkhidfiaaDoorRR
open Go.RowKit

theorem Tryd.info46 : (Tryd.prog.info? 46).map (fun i => (i.zero, i.size, i.bytes)) = some (some (.agg #[.int .i64 0, .int .i64 0]), 2, 16) := by kernel_rfl

def av (p : Int × Int) : List Value := [.int .i64 p.1, .int .i64 p.2]
def avs : List (Int × Int) → List Value
  | [] => []
  | p :: l => av p ++ avs l

theorem avs_append (a b : List (Int × Int)) : avs (a ++ b) = avs a ++ avs b := by
  induction a with
  | nil => rfl
  | cons t a ih => simp [avs, ih]

theorem avs_len (a : List (Int × Int)) : (avs a).length = a.length * 2 := by
  induction a with
  | nil => rfl
  | cons t a ih => simp [avs, av, ih]; omega

theorem avs_one (t : Int × Int) : avs [t] = av t := by simp [avs]

theorem avs_at (a : List (Int × Int)) : ∀ (i j : Nat) (t : Int × Int), a[i]? = some t → j < 2 → (avs a)[i * 2 + j]? = (av t)[j]? := by
  induction a with
  | nil => intro i j t h; simp at h
  | cons p a ih =>
    intro i j t h hj
    cases i with
    | zero =>
      simp at h
      subst h
      simp only [avs, Nat.zero_mul, Nat.zero_add]
      rw [List.getElem?_append_left (by simp [av]; omega)]
    | succ i =>
      simp only [avs]
      rw [List.getElem?_append_right (by simp [av]; omega), show (i + 1) * 2 + j - (av p).length = i * 2 + j by simp [av]; omega]
      exact ih i j t (by simpa using h) hj

def Small (l : List (Int × Int)) : Prop := ∀ p ∈ l, (-9223372036854775808 ≤ p.1 ∧ p.1 ≤ 9223372036854775807) ∧ -9223372036854775808 ≤ p.2 ∧ p.2 ≤ 9223372036854775807

theorem RdA.of_own {w : World} {B : Nat} {v : Value} {l : List (Int × Int)} (h : w.ownsRow B 46 2 v l.length (avs l)) (hl : Small l) : RdA w v l := by
  rcases h.2 with ⟨rfl, h0⟩ | ⟨g, cap, cur, rfl, hb, hg, hnc, hcm, _⟩
  · have h1 : l = [] := List.eq_nil_of_length_eq_zero h0
    subst h1
    exact ⟨none, 0, rfl, Nat.le_refl _, by simp, by simp⟩
  · refine ⟨_, cap, rfl, hnc, hl, fun i x hi => ⟨g, 0, rfl, ?_, ?_⟩⟩
    · have := h.cells (g := g) rfl (i * 2 + 0) (.int .i64 x.1) (by rw [avs_at l i 0 x hi (by omega)]; rfl)
      rw [add_zero'] at this
      rw [Nat.zero_add]
      exact this
    · have := h.cells (g := g) rfl (i * 2 + 1) (.int .i64 x.2) (by rw [avs_at l i 1 x hi (by omega)]; rfl)
      rw [add_zero'] at this
      rw [Nat.zero_add]
      exact this

/-- The arcs that must be, from one node to the first k ones. -/
def redRow (N : List Nat) (f k : Nat) : List (Int × Int) := ((List.range k).filter fun t => (N.getD t 0).testBit f).map fun (t : Nat) => ((f : Int), (t : Int))
def redTo (N : List Nat) (n f : Nat) : List (Int × Int) := (List.range f).flatMap fun f => redRow N f n
def redP (N : List Nat) : List (Int × Int) := redTo N N.length N.length

theorem redRow_succ (N : List Nat) (f k : Nat) : redRow N f (k + 1) = redRow N f k ++ (if (N.getD k 0).testBit f then [((f : Int), (k : Int))] else []) := by
  unfold redRow
  rw [List.range_succ, List.filter_append, List.map_append]
  congr 1
  by_cases h : (N.getD k 0).testBit f = true
  · rw [if_pos h, List.filter_cons_of_pos (by exact h)]; rfl
  · rw [if_neg h, List.filter_cons_of_neg (by exact h)]; rfl

theorem redTo_succ (N : List Nat) (n f : Nat) : redTo N n (f + 1) = redTo N n f ++ redRow N f n := by
  unfold redTo
  rw [List.range_succ, List.flatMap_append]
  simp

theorem redRow_len (N : List Nat) (f k : Nat) : (redRow N f k).length ≤ k := by
  unfold redRow
  rw [List.length_map]
  have := List.length_filter_le (fun t => (N.getD t 0).testBit f) (List.range k)
  simp at this
  exact this

theorem redTo_len (N : List Nat) (n : Nat) : ∀ f, (redTo N n f).length ≤ f * n := by
  intro f
  induction f with
  | zero => simp [redTo]
  | succ f ih =>
    rw [redTo_succ, List.length_append]
    have := redRow_len N f n
    rw [Nat.add_mul]
    omega

theorem redRow_mem {N : List Nat} {f k : Nat} {p : Int × Int} (h : p ∈ redRow N f k) : ∃ t : Nat, t < k ∧ (N.getD t 0).testBit f = true ∧ p = ((f : Int), (t : Int)) := by
  unfold redRow at h
  obtain ⟨t, ht, rfl⟩ := List.mem_map.1 h
  rw [List.mem_filter, List.mem_range] at ht
  exact ⟨t, ht.1, ht.2, rfl⟩

theorem redP_mem {N : List Nat} {p : Int × Int} : p ∈ redP N ↔ ∃ f t : Nat, f < N.length ∧ t < N.length ∧ (N.getD t 0).testBit f = true ∧ p = ((f : Int), (t : Int)) := by
  unfold redP redTo
  rw [List.mem_flatMap]
  constructor
  · rintro ⟨f, hf, h⟩
    obtain ⟨t, h1, h2, h3⟩ := redRow_mem h
    exact ⟨f, t, List.mem_range.1 hf, h1, h2, h3⟩
  · rintro ⟨f, t, h1, h2, h3, rfl⟩
    refine ⟨f, List.mem_range.2 h1, ?_⟩
    unfold redRow
    exact List.mem_map.2 ⟨t, List.mem_filter.2 ⟨List.mem_range.2 h2, h3⟩, rfl⟩

theorem redP_small {N : List Nat} (hN : N.length ≤ 64) : Small (redP N) := by
  intro p hp
  obtain ⟨f, t, h1, h2, _, rfl⟩ := redP_mem.1 hp
  simp only
  omega

theorem own_mono {w : World} {B B' : Nat} {e : TypeId} {size : Nat} {v : Value} {n : Nat} {xs : List Value} (hB : B' ≤ B) (h : w.ownsRow B e size v n xs) : w.ownsRow B' e size v n xs := by
  obtain ⟨h1, h2⟩ := h
  refine ⟨h1, ?_⟩
  rcases h2 with h3 | ⟨g, cap, cur, h4, h5, h6⟩
  · exact .inl h3
  · exact .inr ⟨g, cap, cur, h4, Nat.le_trans hB h5, h6⟩

/-- How Reduce ends. -/
def RedC (n : Int) (l : List (Int × Int)) (w : World) (e : Ending) (w' : World) : Prop := Below w.heap.size w w' ∧ match weaveP n l with
  | .bad c => e = .returned (.tuple #[.slice none 0 0, .int .i64 c])
  | .ok W o => ∃ v, e = .returned (.tuple #[v, .int .i64 0]) ∧ w'.ownsRow w.heap.size 46 2 v (redP (needP W (reachP W o))).length (avs (redP (needP W (reachP W o)))) ∧ (needP W (reachP W o)).length = n.toNat

set_option maxRecDepth 1000000 in
set_option maxHeartbeats 1000000 in
theorem Reduce_any (n : Int) (v : Value) (l : List (Int × Int)) (w : World) (hl : RdA w v l) (hT : Tab w) :
    Calls Tryd.prog 13 #[.int .i64 n, v] w fun e w' => RedC n l w e w' := by
  have M : Hid (Calls Tryd.prog 19 #[.int .i64 n, v] w fun e w' => WvC n l w e w') := weave_any n v l w hl hT
  have HT : Hid (Tab w) := hT
  obtain ⟨a, cap, rfl, _⟩ := hl
  clear hT
  unfold WvC at M
  unfold RedC
  cases hP : weaveP n l with
  | bad c =>
    rw [hP] at M
    have hc : ((c == 0)) = false := by rcases weaveP_code hP with rfl | rfl <;> rfl
    go_enter Tryd.func13, Tryd.ntmps13
    go_wp2_with fail
    refine Calls.mono M.out ?_
    rintro e w1 ⟨hb, rfl⟩
    go_wp2_with fail
    go_ret2
    exact ⟨hb, rfl⟩
  | ok W o =>
    rw [hP] at M
    obtain ⟨⟨hn0, hn64⟩, _, _, hWok, hWl, hOk, hol⟩ := weave_facts hP
    obtain ⟨m, rfl⟩ : ∃ m : Nat, n = (m : Int) := ⟨n.toNat, by omega⟩
    simp only [Int.toNat_natCast] at hWl hol M ⊢
    have hm : m ≤ 64 := by omega
    obtain ⟨i0, hi0, hz0, hz1, hz2⟩ := info_parts Tryd.info46
    clear hn0 hn64
    go_enter Tryd.func13, Tryd.ntmps13
    go_wp2_with fail
    refine Calls.mono M.out ?_
    rintro e w1 ⟨hb, v1, v2, rfl, hU, hI, h1, h2⟩
    have HB1 : Hid (Below w.heap.size w w1) := hb
    have M2 : Hid _ := reach_any W o v1 v2 w1 hU hI (by omega) (by omega) hWok (fun x hx => hOk.lt x hx) (HT.out.later hb)
    have HU : Hid (RdU w1 v1 W) := hU
    have HT1 : Hid (Tab w1) := HT.out.later hb
    obtain ⟨a1, cap1, rfl, _⟩ := hU
    obtain ⟨a2, cap2, rfl, _⟩ := hI
    rw [hWl] at M2 HU ⊢
    rw [hol] at M2 ⊢
    go_wp2_with fail
    refine Calls.mono M2.out ?_
    rintro e w2 ⟨hb2, b, hbq, rfl, hRow, hRl⟩
    have hRd := hRow.rd
    rw [hRl] at hRd
    have M3 : Hid _ := needed_any W (reachP W o) _ _ w2 (HU.out.later hb2) hRd (by omega) (hRl.trans hWl.symm) hWok (HT1.out.later hb2)
    have HB2 : Hid (Below w.heap.size w w2) := HB1.out.trans (hb2.mono HB1.out.size)
    have hNl : (needP W (reachP W o)).length = m := by unfold needP; rw [List.length_map, hWl]
    rw [hWl] at M3
    clear hRd hRow hRl hbq hb2 M2 M
    go_wp2_with fail
    refine Calls.mono M3.out ?_
    rintro e w3 ⟨hb3, b', hbq, rfl, hRow⟩
    have HB3 : Hid (Below w.heap.size w w3) := HB2.out.trans (hb3.mono HB2.out.size)
    have HRow : Hid (RowU w3 b' (needP W (reachP W o))) := hRow
    have HBq : Hid (w2.heap.size ≤ b') := hbq
    have HBl : Hid (b' < w3.heap.size) := (Array.getElem?_eq_some_iff.1 hRow.row).1
    have HNl : Hid ((needP W (reachP W o)).length = m) := hNl
    have HW3 : Hid (w.heap.size ≤ w3.heap.size) := by have := hb3.size; have := HB2.out.size; show _ ≤ _; omega
    clear M3 hb3 hRow hNl hbq HB2 HU
    obtain ⟨N, HNN⟩ : ∃ N, Hid (needP W (reachP W o) = N) := ⟨_, rfl⟩
    rw [HNN.out] at HRow HNl
    have HO0 : Hid (w3.ownsRow w3.heap.size 46 2 (.slice none 0 0) (redTo N m 0).length (avs (redTo N m 0))) := World.ownsRow_nil _ _ _ _
    go_wp2_with fail
    go_loopw [10, 11, 12, 29, 33] (fun lv _ _ iv _ wr => ∃ (k : Nat), k ≤ m ∧ iv = .int .i64 k ∧ Hid (wr.ownsRow w3.heap.size 46 2 lv (redTo N m k).length (avs (redTo N m k))) ∧ Hid (Below w3.heap.size w3 wr)) (fun _ _ _ iv _ _ => m - (intOf iv).toNat)
    case atStart => exact ⟨0, Nat.zero_le _, rfl, HO0, Below.refl _ _⟩
    case round =>
      obtain ⟨k, hk, rfl, HO, HB⟩ := hrel
      rename World => w4
      clear HO0
      by_cases hlt : k < m
      · have hki : (k : Int) < (m : Int) := by omega
        have HLk : Hid ((redTo N m k).length ≤ k * m) := redTo_len N m k
        have HO1 : Hid (w4.ownsRow w3.heap.size 46 2 u10 (redTo N m k ++ redRow N k 0).length (avs (redTo N m k ++ redRow N k 0))) := by
          have h0 : redRow N k 0 = [] := rfl
          show World.ownsRow _ _ _ _ _ _ _
          rw [h0, List.append_nil]
          exact HO.out
        clear HO
        go_wp2_with fail
        go_loopw [10, 12, 33] (fun lv _ jv wr => ∃ (j : Nat), j ≤ m ∧ jv = .int .i64 j ∧ Hid (wr.ownsRow w3.heap.size 46 2 lv (redTo N m k ++ redRow N k j).length (avs (redTo N m k ++ redRow N k j))) ∧ Hid (Below w3.heap.size w3 wr)) (fun _ _ jv _ => m - (intOf jv).toNat)
        case atStart => exact ⟨0, Nat.zero_le _, rfl, HO1, HB⟩
        case round =>
          obtain ⟨j, hj, rfl, HOj, HBj⟩ := hrel
          rename World => w5
          clear HO1
          by_cases hjl : j < m
          · obtain ⟨r1, r2, r3⟩ := (HRow.out.below HBj.out).get j (by rw [HNl.out]; exact hjl)
            have M4 : Hid _ := has_any (N.getD j 0) k r3 (by omega) w5
            have hji : (j : Int) < (m : Int) := by omega
            have HLj : Hid ((redRow N k j).length ≤ j) := redRow_len N k j
            have hmul : k * m ≤ 64 * 64 := Nat.mul_le_mul (by omega) hm
            have hS := redRow_succ N k j
            generalize hy : N.getD j 0 = y at *
            cases hbit : y.testBit k with
            | false =>
              rw [hbit] at M4
              rw [hbit, if_neg (by simp), List.append_nil] at hS
              have HO6 : Hid (w5.ownsRow w3.heap.size 46 2 u10 (redTo N m k ++ redRow N k (j + 1)).length (avs (redTo N m k ++ redRow N k (j + 1)))) := by rw [hS]; exact HOj
              clear HOj hS
              go_wp2_with fail
              refine Calls.mono M4.out ?_
              rintro e w6 ⟨rfl, rfl⟩
              go_wp2_with fail
              go_roundw
              case rel => exact ⟨j + 1, by omega, by go_num, HO6, HBj⟩
              case measure => simp [intOf]; omega
            | true =>
              rw [hbit] at M4
              rw [hbit, if_pos rfl] at hS
              have HS : Hid (redTo N m k ++ redRow N k (j + 1) = (redTo N m k ++ redRow N k j) ++ [((k : Int), (j : Int))]) := by show _ = _; rw [hS, List.append_assoc]
              have hlen : (redTo N m k ++ redRow N k j).length ≤ 8192 := by
                rw [List.length_append]
                have := HLk.out
                have := HLj.out
                omega
              clear hS
              generalize redTo N m k ++ redRow N k j = acc at *
              have ho := HOj.out
              have hz := HBj.out.size
              clear HOj
              go_wp2_with fail
              refine Calls.mono M4.out ?_
              rintro e w6 ⟨rfl, rfl⟩
              go_wp2_with (at_builtin; refine wpList_append_own_at _ rfl _ _ 22 rfl w3.heap.size 46 i0 _ 2 16 Tryd.underlying22 hi0 hz0 hz1 hz2 rfl (by decide) _ acc.length (avs acc) rfl (ho.alloc _) ⟨w6.heap.size, 0, none⟩ 1 1 [.int .i64 (k : Int), .int .i64 (j : Int)] rfl rfl (new_cells w6 [.int .i64 (k : Int), .int .i64 (j : Int)] 46) (by simp [Value.oneCell']) (by unfold maxLen; omega) (by omega) (by simp; omega) ?_; intro v7 w7 ho7 hg7 _ hat7; obtain ⟨g7, cap7, rfl⟩ := ownsRow_succ' ho7)
              have HB7 : Hid (Below w3.heap.size w3 w7) := Below.grown (HBj.out.alloc hz _) hg7 (by simp; omega) (fun j hj => (ho.lt _ hj).1)
              have HO7 : Hid (w7.ownsRow w3.heap.size 46 2 (.slice (some ⟨g7, 0, none⟩) (acc.length + 1) cap7) (redTo N m k ++ redRow N k (j + 1)).length (avs (redTo N m k ++ redRow N k (j + 1)))) := by
                show World.ownsRow _ _ _ _ _ _ _
                rw [HS.out, avs_append, avs_one, List.length_append]
                exact ho7
              clear ho hg7 hat7 ho7 HBj
              go_wp2_with fail
              go_roundw
              case rel => exact ⟨j + 1, by omega, by go_num, HO7, HB7⟩
              case measure => simp [intOf]; omega
          · have hjm : j = m := by omega
            subst hjm
            have HO3 : Hid (w5.ownsRow w3.heap.size 46 2 u10 (redTo N j (k + 1)).length (avs (redTo N j (k + 1)))) := by rw [redTo_succ]; exact HOj
            go_wp2_with fail
            go_roundw
            case rel => exact ⟨k + 1, by omega, by go_num, HO3, HBj⟩
            case measure => simp [intOf]; omega
      · have hkm : k = m := by omega
        subst hkm
        go_wp2_with fail
        go_ret2
        have hrp : redP N = redTo N k k := by unfold redP; rw [HNl.out]
        refine ⟨HB3.out.trans (HB.out.mono HB3.out.size), _, rfl, ?_, by rw [HNN.out]; exact HNl.out⟩
        rw [HNN.out, hrp]
        exact own_mono HW3.out HO.out
end Go.Proofs.YtdbohfpkhidfiaaDoorRR
