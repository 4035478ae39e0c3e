/- Find: the program's, and the document's. -/
import Derived.Test.YthkndkbffiaknaaRe
namespace Go.Proofs.Ythkndkbffiaknaa.Tz
open Go.RowKit Go.Shelf Go.Proofs.Ythkndkbffiaknaa
set_option maxRecDepth 1000000
set_option linter.unusedVariables false

theorem eq_if' {α : Type} {b : Prop} [Decidable b] {x : Bool → α} : (if b then x true else x false) = x (decide b) := by
  by_cases h : b <;> simp [h]

theorem eq_key (k k' : Kx) (w : World) : (Go.binOp .eql 24 (KV k) (KV k')).run Try.prog w = .ok (.bool (decide (k = k'))) w := by
  obtain ⟨i, u, t⟩ := k
  obtain ⟨i', u', t'⟩ := k'
  rw [← eq_if' (x := fun b => Result.ok (Value.bool b) w)]
  unfold KV
  go_simp
  by_cases h1 : i = i' <;> by_cases h2 : u = u' <;> by_cases h3 : t = t' <;> simp [h1, h2, h3]
theorem eq_exec (k k' : Kx) {o : Oper} {x y : Operand} {a : Act} {w : World} {q : Bool} {ty : TypeId} (ho : o.op = .binOp .eql 24 x y ty) (hx : a.eval x = KV k) (hy : a.eval y = KV k') (hq : decide (k = k') = q) : (execOp a.eval o).run Try.prog w = .ok (.value (.bool q)) w := by
  unfold execOp
  subst hq
  have hg : (eqGuard BinOp.eql 24 x y (KV k) (KV k')).run Try.prog w = .ok () w := by
    have hk : Try.prog.eqGuardType Try.prog.depth 24 = false := by kernel_rfl
    unfold eqGuard KV
    simp [hk]
  simp only [ho, hx, hy, Sem.run_bind, eq_key, hg, Result.andThen_ok]
  rfl

/-- Where a key was done first. -/
def findV (k : Kx) (l : List Ef) : Int := match findE k l with
  | some i => i
  | none => -1

/-- Is an effect one of a key? -/
def isK (k : Kx) (e : Ef) : Bool := decide (e.key = k)

set_option maxHeartbeats 1000000 in
theorem isK_any (k : Kx) (e : Ef) (bk : Nat) (w : World) (hk : w.heap[bk]? = some (.cells #[.int .i64 k.1, .bool k.2.1, .int .i64 k.2.2] 24 (0, 0))) :
    Calls Try.prog 23 #[EV e, .pointer (some ⟨bk, 0, none⟩)] w fun x w' => x = .returned (.bool (isK k e)) ∧ Below w.heap.size w w' := by
  have c0 : w.cell? ⟨bk, 0, none⟩ = some (.int .i64 k.1) := (cell_row hk 0).trans rfl
  have c1 : w.cell? ⟨bk, 1, none⟩ = some (.bool k.2.1) := (cell_row hk 1).trans rfl
  have c2 : w.cell? ⟨bk, 2, none⟩ = some (.int .i64 k.2.2) := (cell_row hk 2).trans rfl
  unfold isK EV Ef.key
  obtain ⟨ki, ku, kt⟩ := k
  obtain ⟨ei, eu, et, eb⟩ := e
  dsimp only at *
  have d0 : ∀ o : Obj, (w.alloc o).cell? ⟨bk, 0, none⟩ = some (.int .i64 ki) := fun o => cell_later (bl1 w o) c0
  have d1 : ∀ o : Obj, (w.alloc o).cell? ⟨bk, 1, none⟩ = some (.bool ku) := fun o => cell_later (bl1 w o) c1
  have d2 : ∀ o : Obj, (w.alloc o).cell? ⟨bk, 2, none⟩ = some (.int .i64 kt) := fun o => cell_later (bl1 w o) c2
  clear hk c0 c1 c2
  go_enter Try.func23, Try.ntmps23
  go_wp2_with fail
  all_goals
    go_ret
    exact ⟨ret_b (by simp_all), bl1 _ _⟩

set_option maxHeartbeats 4000000 in
theorem index_any (k : Kx) (l : List Ef) (v : Value) (bk : Nat) (w : World) (h : RE w v l) (hk : w.heap[bk]? = some (.cells #[.int .i64 k.1, .bool k.2.1, .int .i64 k.2.2] 24 (0, 0))) (hl : l.length ≤ 1000000) :
    Calls Try.prog 22 #[v, .func (.func 23) #[] #[.pointer (some ⟨bk, 0, none⟩)]] w fun x w' => x = .returned (.int .i64 (findV k l)) ∧ Below w.heap.size w w' := by
  obtain ⟨a, c, rfl, hc1⟩ := h.slice
  obtain ⟨n, HN⟩ : ∃ n, Hid (l.length = n) := ⟨_, rfl⟩
  have HK : Hid (∀ w1 e, Below w.heap.size w w1 → Calls Try.prog 23 #[EV e, .pointer (some ⟨bk, 0, none⟩)] w1 fun x w' => x = .returned (.bool (isK k e)) ∧ Below w1.heap.size w1 w') := fun w1 e hb => isK_any k e bk w1 (row_later hk hb)
  have HV : Hid (RE w (.slice a n c) l) := by have h9 := h; rw [HN.out] at h9; exact h9
  rw [HN.out] at hl hc1 ⊢
  clear h hk
  go_enter Try.func22, Try.ntmps22
  go_wp2_with fail
  go_loopw [8, 5] (fun s8 s5 wr => ∃ (j : Nat), s8 = .int .i64 j ∧ j ≤ n ∧ Hid (Below w.heap.size w wr) ∧ Hid (∀ i, i < j → (l.getD i default).key ≠ k)) (fun s8 _ _ => n - (intOf s8).toNat)
  case atStart => exact ⟨0, rfl, Nat.zero_le _, Below.refl _ _, fun i hi => by omega⟩
  case round =>
    obtain ⟨j, rfl, hj, HB, HX⟩ := hrel
    rename World => wr
    by_cases hlt : j < n
    · obtain ⟨hwf, b, off, ha, d0, d1, d2, d3⟩ := (HV.out.later HB.out).at' (i := j) (by rw [HN.out]; exact hlt)
      subst ha
      have hji : (j : Int) < (n : Int) := by omega
      obtain ⟨e, he⟩ : ∃ e, l.getD j default = e := ⟨_, rfl⟩
      have HE : Hid (l.getD j default = e) := he
      obtain ⟨q, hq⟩ : ∃ q, isK k e = q := ⟨_, rfl⟩
      have HQ : Hid _ := hq
      have HC : Hid _ := HK.out wr e HB.out
      rw [hq] at HC
      rw [he] at d0 d1 d2 d3
      unfold EV at HC
      clear hq he hwf
      cases q with
      | true =>
        go_wp2_with fail
        refine Calls.mono HC.out ?_
        rintro x w2 ⟨rfl, hb2⟩
        have HB2 : Hid _ := HB.out.trans (hb2.mono HB.out.size)
        have HF : Hid (findV k l = j) := by
          have := find_some (k := k) (i := j) (by rw [HN.out]; exact hlt) (by rw [HE.out]; simpa [isK] using HQ.out) HX.out
          show findV _ _ = _
          unfold findV
          rw [this]
        clear hb2 HC d0 d1 d2 d3
        go_wp2_with fail
        go_ret
        exact ⟨(congrArg (fun z => Ending.returned (.int .i64 z)) HF.out.symm), HB2.out⟩
      | false =>
        go_wp2_with fail
        refine Calls.mono HC.out ?_
        rintro x w2 ⟨rfl, hb2⟩
        have HB2 : Hid _ := HB.out.trans (hb2.mono HB.out.size)
        have HX2 : Hid (∀ i, i < j + 1 → (l.getD i default).key ≠ k) := by
          intro i hi
          by_cases e9 : i = j
          · rw [e9, HE.out]
            simpa [isK] using HQ.out
          · exact HX.out i (by omega)
        clear hb2 HC HX d0 d1 d2 d3
        go_wp2_with fail
        go_roundw
        case rel => exact ⟨j + 1, by go_num, by omega, HB2, HX2⟩
        case measure => simp [intOf]; omega
    · have HF : Hid (findV k l = -1) := by
        have := find_none (k := k) (l := l) (fun i hi => HX.out i (by rw [HN.out] at hi; omega))
        show findV _ _ = _
        unfold findV
        rw [this]
      clear HX
      go_wp2_with fail
      go_ret
      exact ⟨(congrArg (fun z => Ending.returned (.int .i64 z)) HF.out.symm), HB.out⟩

set_option maxHeartbeats 1000000 in
theorem find_any (k : Kx) (l : List Ef) (v : Value) (w : World) (h : RE w v l) (hl : l.length ≤ 1000000) :
    Calls Try.prog 11 #[v, KV k] w fun x w' => x = .returned (.int .i64 (findV k l)) ∧ Below w.heap.size w w' := by
  obtain ⟨a, c, rfl, hc1⟩ := h.slice
  have HC : Hid _ := index_any k l _ w.heap.size (w.alloc (.cells #[.int .i64 k.1, .bool k.2.1, .int .i64 k.2.2] 24)) (h.later (bl1 _ _)) (heap_alloc_new _ _) hl
  unfold KV
  clear h
  go_enter Try.func11, Try.ntmps11
  go_wp2_with fail
  refine Calls.mono HC.out ?_
  rintro x w2 ⟨rfl, hb2⟩
  have HB2 : Hid (Below w.heap.size w w2) := (bl1 w _).trans (hb2.mono (by simp))
  clear hb2 HC
  go_wp2_with fail
  go_ret
  exact ⟨rfl, HB2.out⟩

set_option maxHeartbeats 4000000 in
theorem rfind_any (k : Kx) (l : List Ef) (v : Value) (w : World) (h : RE w v l) (hl : l.length ≤ 1000000) :
    Calls Try.prog 12 #[v, KV k] w fun x w' => x = .returned (.int .i64 (findV k l)) ∧ Below w.heap.size w w' := by
  obtain ⟨a, c, rfl, hc1⟩ := h.slice
  obtain ⟨n, HN⟩ : ∃ n, Hid (l.length = n) := ⟨_, rfl⟩
  have HV : Hid (RE w (.slice a n c) l) := by have h9 := h; rw [HN.out] at h9; exact h9
  obtain ⟨ki, ku, kt⟩ := k
  obtain ⟨w1, hw1⟩ : ∃ w1, w.alloc (.cells #[.int .i64 ki, .bool ku, .int .i64 kt] 24) = w1 := ⟨_, rfl⟩
  have HW1 : Hid (w.alloc (.cells #[.int .i64 ki, .bool ku, .int .i64 kt] 24) = w1) := hw1
  have HB1 : Hid (Below w.heap.size w w1) := by rw [← hw1]; exact bl1 _ _
  have HE1 : Hid (EC w1 w.heap.size 0 ⟨ki, ku, kt, false⟩ ∨ w1.heap[w.heap.size]? = some (.cells #[.int .i64 ki, .bool ku, .int .i64 kt] 24 (0, 0))) := by rw [← hw1]; exact .inr (heap_alloc_new _ _)
  have HR1 : Hid (w1.heap[w.heap.size]? = some (.cells #[.int .i64 ki, .bool ku, .int .i64 kt] 24 (0, 0))) := by rw [← hw1]; exact heap_alloc_new _ _
  rw [HN.out] at hl hc1 ⊢
  unfold KV
  clear h hw1 HE1
  go_enter Try.func12, Try.ntmps12
  go_wp2_with fail
  rw [HW1.out]
  clear HW1
  go_loopw [5] (fun s5 wr => ∃ (j : Nat), s5 = .int .i64 j ∧ j ≤ n ∧ Hid (Below w1.heap.size w1 wr) ∧ Hid (∀ i, i < j → (l.getD i default).key ≠ (ki, ku, kt))) (fun s5 _ => n - (intOf s5).toNat)
  case atStart => exact ⟨0, rfl, Nat.zero_le _, Below.refl _ _, fun i hi => by omega⟩
  case round =>
    obtain ⟨j, rfl, hj, HB, HX⟩ := hrel
    rename World => wr
    have HB9 : Hid (Below w.heap.size w wr) := HB1.out.trans (HB.out.mono HB1.out.size)
    by_cases hlt : j < n
    · obtain ⟨hwf, b, off, ha, d0, d1, d2, d3⟩ := (HV.out.later HB9.out).at' (i := j) (by rw [HN.out]; exact hlt)
      subst ha
      have hji : (j : Int) < (n : Int) := by omega
      obtain ⟨e, he⟩ : ∃ e, l.getD j default = e := ⟨_, rfl⟩
      have HE : Hid (l.getD j default = e) := he
      rw [he] at d0 d1 d2
      obtain ⟨q, hq⟩ : ∃ q, decide (e.key = (ki, ku, kt)) = q := ⟨_, rfl⟩
      have HQ : Hid _ := hq
      have hrow := row_later HR1.out HB.out
      have k0 : wr.cell? ⟨w.heap.size, 0, none⟩ = some (.int .i64 ki) := (cell_row hrow 0).trans rfl
      have k1 : wr.cell? ⟨w.heap.size, 1, none⟩ = some (.bool ku) := (cell_row hrow 1).trans rfl
      have k2 : wr.cell? ⟨w.heap.size, 2, none⟩ = some (.int .i64 kt) := (cell_row hrow 2).trans rfl
      clear he hwf hrow d3
      go_wp2_with fail
      refine region_thenF [(12, .slice (some ⟨b, off, none⟩) n c), (13, .int .i64 (j : Int)), (14, .pointer (some ⟨b, off + j * 4, none⟩)), (15, .pointer (some ⟨b, off + j * 4, none⟩)), (16, KV e.key), (17, KV (ki, ku, kt)), (18, .bool q)] (fun w' => w' = wr.drew) ?_ ?_
      · refine wp_region_held (S := fun wx => wx = wr.drew) (by kernel_rfl) ?_
        have hS0 : wr.drew = wr.drew := rfl
        simp only [List.size_toArray, List.length_cons, List.length_nil, Nat.reduceAdd, Array.replicate_succ, Array.replicate_zero, List.push_toArray, List.nil_append, List.cons_append]
        refine tG 0 12 (.slice (some ⟨b, off, none⟩) n c) 6 rfl hS0 ?_
        refine tG 1 13 (.int .i64 (j : Int)) 5 rfl hS0 ?_
        refine tG 2 14 (.pointer (some ⟨b, off + j * 4, none⟩)) 4 rfl hS0 ?_
        refine tG 3 15 (.pointer (some ⟨b, off + j * 4, none⟩)) 3 rfl hS0 ?_
        refine tV 4 16 (KV e.key) 2 rfl hS0 ?_ (fun wx h => by subst h; have d0' : wr.drew.cell? _ = _ := d0; have d1' : wr.drew.cell? _ = _ := d1; have d2' : wr.drew.cell? _ = _ := d2; unfold KV; go_simp)
        refine tV 5 17 (KV (ki, ku, kt)) 1 rfl hS0 ?_ (fun wx h => by subst h; have d0' : wr.drew.cell? _ = _ := k0; have d1' : wr.drew.cell? _ = _ := k1; have d2' : wr.drew.cell? _ = _ := k2; unfold KV; go_simp)
        refine tV 6 18 (.bool q) 0 rfl hS0 ?_ (fun wx h => eq_exec e.key (ki, ku, kt) (x := .tmp 16) (y := .tmp 17) rfl rfl rfl hq)
        refine wpAnyH_done (by kernel_rfl) ?_ _
        exact ⟨rfl, by kernel_rfl, rfl⟩
      rintro w9 rfl
      simp only [setAll, List.setIfInBounds_toArray, List.set_cons_succ, List.set_cons_zero]
      have HB2 : Hid (Below w1.heap.size w1 wr.drew) := HB.out.drew
      clear hq d0 d1 d2 k0 k1 k2
      cases q with
      | true =>
        have HF : Hid (findV (ki, ku, kt) l = j) := by
          have := find_some (k := (ki, ku, kt)) (i := j) (by rw [HN.out]; exact hlt) (by rw [HE.out]; simpa using HQ.out) HX.out
          show findV _ _ = _
          unfold findV
          rw [this]
        have HB8 : Hid (Below w.heap.size w wr.drew) := HB9.out.drew
        clear HX
        go_wp2_with fail
        go_ret
        exact ⟨(congrArg (fun z => Ending.returned (.int .i64 z)) HF.out.symm), HB8.out⟩
      | false =>
        have HX2 : Hid (∀ i, i < j + 1 → (l.getD i default).key ≠ (ki, ku, kt)) := by
          intro i hi
          by_cases e9 : i = j
          · rw [e9, HE.out]
            simpa using HQ.out
          · exact HX.out i (by omega)
        clear HX
        go_wp2_with fail
        go_roundw
        case rel => exact ⟨j + 1, by go_num, by omega, HB2, HX2⟩
        case measure => simp [intOf]; omega
    · have HF : Hid (findV (ki, ku, kt) l = -1) := by
        have := find_none (k := (ki, ku, kt)) (l := l) (fun i hi => HX.out i (by rw [HN.out] at hi; omega))
        show findV _ _ = _
        unfold findV
        rw [this]
      clear HX
      go_wp2_with fail
      go_ret
      exact ⟨(congrArg (fun z => Ending.returned (.int .i64 z)) HF.out.symm), HB9.out⟩
end Go.Proofs.Ythkndkbffiaknaa.Tz
