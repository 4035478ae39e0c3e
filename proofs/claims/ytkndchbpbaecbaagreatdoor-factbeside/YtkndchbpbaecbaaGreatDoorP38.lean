/- Texts of the seat, packed: Kk. -/
import Derived.Test.YtkndchbpbaecbaaGreatDoorP37
/- The laws' small, ev and one; the document's comparing of facts and keys. -/
namespace Go.Proofs.YtkndchbpbaecbaaGreatDoor.Fc
open Go.RowKit Go.Shelf Go.Proofs.YtkndchbpbaecbaaGreatDoor.Sx
set_option maxRecDepth 1000000
set_option linter.unusedVariables false

def okIt (x : It) : Bool := decide (x.name.length ≤ 200) && (decide (x.undo.length ≤ 200) && decide (x.after.length ≤ 100))
/-- Is a plan small? -/
def smallI (its : List It) : Bool := (its.take 70).all okIt && decide (its.length ≤ 70)

theorem small_no {its : List It} {i : Nat} {x : It} (hx : its[i]? = some x) (hi : i < 70) (h : okIt x = false) : smallI its = false := by
  unfold smallI
  have : (its.take 70).all okIt = false := by
    rw [List.all_eq_false]
    exact ⟨x, List.mem_of_getElem? (i := i) (by rw [List.getElem?_take, if_pos hi]; exact hx), by rw [h]; simp⟩
  rw [this]
  rfl

set_option maxRecDepth 1000000 in
set_option maxHeartbeats 1000000 in
theorem small_any (its : List It) (v : Value) (w : World) (hIt : RdIt w v its) (hmx : its.length ≤ maxLen) (hnm : ∀ x ∈ its, x.name.length ≤ maxLen ∧ x.undo.length ≤ maxLen ∧ x.after.length ≤ maxLen) :
    Calls Tryz.prog 6 #[.agg #[v]] w fun e w' => e = .returned (.bool (smallI its)) ∧ Below w.heap.size w w' := by
  obtain ⟨ia, icap, rfl, hic, hir⟩ := hIt
  have HIR : Hid _ := hir
  have HNM : Hid _ := hnm
  obtain ⟨il, HIL⟩ : ∃ il, Hid (its.length = il) := ⟨_, rfl⟩
  rw [HIL.out] at hic hmx ⊢
  unfold maxLen at hmx
  clear hir hnm
  have hb1 : Below w.heap.size w (w.alloc (.cells #[.slice ia il icap] 24)) := (Below.refl _ w).alloc (Nat.le_refl _) _
  have r1 := Dg.row_new w #[.slice ia il icap] 24
  have hg0 := (Dg.cell_row r1 0).trans rfl
  go_enter Tryz.func6, Tryz.ntmps6
  go_wp2_with fail
  generalize w.alloc (.cells #[.slice ia il icap] 24) = w0 at *
  have HB0 : Hid _ := hb1
  clear hb1 r1
  go_loopw [3] (fun iv wr => ∃ (i : Nat), i ≤ il ∧ i ≤ 70 ∧ iv = .int .i64 i ∧ Hid (∀ x ∈ its.take i, okIt x = true) ∧ Hid (Below w0.heap.size w0 wr)) (fun iv _ => il - (intOf iv).toNat)
  case atStart => exact ⟨0, Nat.zero_le _, by omega, rfl, by show ∀ x ∈ its.take 0, _; simp, Below.refl _ _⟩
  case round =>
    obtain ⟨i, hi, hi70, rfl, HF, HB⟩ := hrel
    rename World => w1
    have g0 := Dg.cell_later HB.out hg0
    by_cases hlt : i < il ∧ i < 70
    rotate_left
    · have HT : Hid (smallI its = decide (il ≤ 70)) := by
        show _ = _
        unfold smallI
        have : (its.take 70).all okIt = true := by
          rw [List.all_eq_true]
          intro x hx
          refine HF.out x ?_
          by_cases h7 : i = 70
          · rw [h7]; exact hx
          · have : i = il := by omega
            rw [List.take_of_length_le (by rw [HIL.out, this]; exact Nat.le_refl _)]
            exact List.mem_of_mem_take hx
        rw [this, HIL.out]
        rfl
      by_cases h7 : il ≤ 70
      · have hie : i = il := by omega
        subst hie
        have HT2 : Hid (smallI its = true) := HT.out.trans (decide_eq_true h7)
        go_wp2_with fail
        go_ret
        exact ⟨by rw [HT2.out]; show Ending.returned (.bool (decide ((i : Int) ≤ 70))) = _; rw [decide_eq_true (by omega)], HB0.out.trans (HB.out.mono HB0.out.size)⟩
      · have hie : i = 70 := by omega
        subst hie
        have hii : (70 : Int) < (il : Int) := by omega
        have HT2 : Hid (smallI its = false) := HT.out.trans (decide_eq_false h7)
        go_wp2_with fail
        go_ret
        exact ⟨by rw [HT2.out]; show Ending.returned (.bool (decide ((il : Int) ≤ 70))) = _; rw [decide_eq_false (by omega)], HB0.out.trans (HB.out.mono HB0.out.size)⟩
    obtain ⟨hlt, hlt7⟩ := hlt
    obtain ⟨y, hy⟩ : ∃ y, its[i]? = some y := ⟨_, List.getElem?_eq_getElem (by rw [HIL.out]; exact hlt)⟩
    obtain ⟨m0, m1, m2⟩ := HNM.out y (List.mem_of_getElem? hy)
    unfold maxLen at m0 m1 m2
    obtain ⟨b1, off1, yav, yam, yac, rfl, k0, k1, k2, k3, k4, k5, k6, k7, hz⟩ := HIR.out i y hy
    have hBT : Below w.heap.size w w1 := HB0.out.trans (HB.out.mono HB0.out.size)
    have j0 := Dg.cell_later hBT k0
    have j1 := Dg.cell_later hBT k1
    have j2 := Dg.cell_later hBT k2
    have j3 := Dg.cell_later hBT k3
    have j4 := Dg.cell_later hBT k4
    have j5 := Dg.cell_later hBT k5
    have j6 := Dg.cell_later hBT k6
    have j7 := Dg.cell_later hBT k7
    obtain ⟨za, zcap, hze, hzc, hzr⟩ := hz
    cases hze
    have hii : (i : Int) < (il : Int) := by omega
    have hi7 : (i : Int) < 70 := by omega
    have HTk : Hid (its.take (i + 1) = its.take i ++ [y]) := by show _ = _; rw [List.take_add_one, hy]; rfl
    have HNo : Hid (okIt y = false → smallI its = false) := fun h => small_no hy hlt7 h
    have s0 : (⟨y.name.toArray⟩ : ByteArray).size = y.name.length := by simp [ByteArray.size]
    have s1 : (⟨y.undo.toArray⟩ : ByteArray).size = y.undo.length := by simp [ByteArray.size]
    have HBT : Hid _ := hBT
    clear k0 k1 k2 k3 k4 k5 k6 k7 hzr hy hBT
    by_cases hok : okIt y = true
    · have HF2 : Hid (∀ x ∈ its.take (i + 1), okIt x = true) := by
        show ∀ x ∈ its.take (i + 1), _
        rw [HTk.out]
        intro x hx
        rcases List.mem_append.1 hx with h | h
        · exact HF.out x h
        · simp at h; subst h; exact hok
      simp only [okIt, Bool.and_eq_true, decide_eq_true_eq] at hok
      obtain ⟨o0, o1, o2⟩ := hok
      generalize (⟨y.name.toArray⟩ : ByteArray) = N at *
      generalize (⟨y.undo.toArray⟩ : ByteArray) = U at *
      generalize y.name.length = n0 at *
      generalize y.undo.length = n1 at *
      generalize y.after.length = n2 at *
      go_wp2_with fail
      go_roundw
      case rel => exact ⟨i + 1, by omega, by omega, by go_num, HF2, HB.out.alloc HB.out.size _⟩
      case measure => simp [intOf]; omega
    · have HX : Hid (smallI its = false) := HNo.out (by simpa using hok)
      have hk2 : ¬ (y.name.length ≤ 200 ∧ y.undo.length ≤ 200 ∧ y.after.length ≤ 100) := fun h => hok (by simp [okIt, h.1, h.2.1, h.2.2])
      clear hok HNo HTk
      generalize (⟨y.name.toArray⟩ : ByteArray) = N at *
      generalize (⟨y.undo.toArray⟩ : ByteArray) = U at *
      generalize y.name.length = n0 at *
      generalize y.undo.length = n1 at *
      generalize y.after.length = n2 at *
      by_cases o0 : n0 ≤ 200
      · by_cases o1 : n1 ≤ 200
        · have o2 : ¬ n2 ≤ 100 := fun h => hk2 ⟨o0, o1, h⟩
          clear hk2
          go_wp2_with fail
          go_ret
          exact ⟨by rw [HX.out]; rfl, HBT.out.alloc HBT.out.size _⟩
        · clear hk2
          go_wp2_with fail
          go_ret
          exact ⟨by rw [HX.out]; rfl, HBT.out.alloc HBT.out.size _⟩
      · clear hk2
        go_wp2_with fail
        go_ret
        exact ⟨by rw [HX.out]; rfl, HBT.out.alloc HBT.out.size _⟩
theorem small_fair {its : List It} (h : smallI its = true) : FairI its ∧ its.length ≤ 70 := by
  unfold smallI at h
  rw [Bool.and_eq_true, decide_eq_true_eq] at h
  obtain ⟨h1, h2⟩ := h
  rw [List.take_of_length_le h2, List.all_eq_true] at h1
  have h3 : ∀ x ∈ its, x.name.length ≤ 200 ∧ x.undo.length ≤ 200 ∧ x.after.length ≤ 100 := by
    intro x hx
    have := h1 x hx
    simp only [okIt, Bool.and_eq_true, decide_eq_true_eq] at this
    exact this
  exact ⟨⟨fun x hx => by have := h3 x hx; omega, fun x hx => by have := h3 x hx; omega⟩, h2⟩


set_option maxHeartbeats 1000000 in
theorem sameF_any (l : List Fa) (u v : Value) (w : World) (hu : RF w u l) (hv : RF w v l) (hl : l.length ≤ 1000000000) :
    Calls Tryz.prog 10 #[u, v] w fun e w' => e = .returned (.bool true) ∧ Below w.heap.size w w' := by
  obtain ⟨a, ca, rfl, h1, _, ha⟩ := hu
  obtain ⟨b, cb, rfl, h2, _, hb⟩ := hv
  have HA : Hid _ := ha
  have HB : Hid _ := hb
  obtain ⟨m, HM⟩ : ∃ m, Hid (l.length = m) := ⟨_, rfl⟩
  rw [HM.out] at hl h1 h2 ⊢
  clear ha hb
  go_enter Tryz.func10, Tryz.ntmps10
  go_wp2_with fail
  go_loopw [5] (fun i wr => ∃ (k n : Nat), k ≤ m ∧ i = .int .i64 k ∧ wr = w.drewN n) (fun i _ => m - (intOf i).toNat)
  case atStart => exact ⟨0, 0, Nat.zero_le _, rfl, rfl⟩
  case round =>
    obtain ⟨k, n, hk, rfl, rfl⟩ := hrel
    by_cases hlt : k < m
    · obtain ⟨f, hf⟩ : ∃ f, l[k]? = some f := ⟨_, List.getElem?_eq_getElem (by rw [HM.out]; exact hlt)⟩
      obtain ⟨b1, o1, rfl, c0, c1, c2, c3⟩ := HA.out k f hf
      obtain ⟨b2, o2, rfl, d0, d1, d2, d3⟩ := HB.out k f hf
      have c0' : ∀ m, (w.drewN m).cell? ⟨b1, o1 + k * 4, none⟩ = some (.int .i64 f.run) := fun _ => c0
      have c1' : ∀ m, (w.drewN m).cell? ⟨b1, o1 + k * 4 + 1, none⟩ = some (.int .i64 f.tries) := fun _ => c1
      have c2' : ∀ m, (w.drewN m).cell? ⟨b1, o1 + k * 4 + 2, none⟩ = some (.int .i64 f.slips) := fun _ => c2
      have c3' : ∀ m, (w.drewN m).cell? ⟨b1, o1 + k * 4 + 3, none⟩ = some (.bool f.un) := fun _ => c3
      have d0' : ∀ m, (w.drewN m).cell? ⟨b2, o2 + k * 4, none⟩ = some (.int .i64 f.run) := fun _ => d0
      have d1' : ∀ m, (w.drewN m).cell? ⟨b2, o2 + k * 4 + 1, none⟩ = some (.int .i64 f.tries) := fun _ => d1
      have d2' : ∀ m, (w.drewN m).cell? ⟨b2, o2 + k * 4 + 2, none⟩ = some (.int .i64 f.slips) := fun _ => d2
      have d3' : ∀ m, (w.drewN m).cell? ⟨b2, o2 + k * 4 + 3, none⟩ = some (.bool f.un) := fun _ => d3
      have hli : (k : Int) < (m : Int) := by omega
      clear hf c0 c1 c2 c3 d0 d1 d2 d3
      go_wp2_with fail
      go_quiet (fail)
      go_wp2_with fail
      go_roundw
      case rel => exact ⟨k + 1, _, by omega, by go_num, rfl⟩
      case measure => simp [intOf]; omega
    · go_wp2_with fail
      go_ret
      exact ⟨rfl, Ek.bl_drawn (Below.refl _ _) _⟩

set_option maxHeartbeats 1000000 in
theorem sameK_any (l : List (Nat × Bool × Int)) (u v : Value) (w : World) (hu : RK w u l) (hv : RK w v l) (hl : l.length ≤ 1000000000) :
    Calls Tryz.prog 15 #[u, v] w fun e w' => e = .returned (.bool true) ∧ Below w.heap.size w w' := by
  obtain ⟨a, ca, rfl, h1, _, ha⟩ := hu
  obtain ⟨b, cb, rfl, h2, _, hb⟩ := hv
  have HA : Hid _ := ha
  have HB : Hid _ := hb
  obtain ⟨m, HM⟩ : ∃ m, Hid (l.length = m) := ⟨_, rfl⟩
  rw [HM.out] at hl h1 h2 ⊢
  clear ha hb
  go_enter Tryz.func15, Tryz.ntmps15
  go_wp2_with fail
  go_loopw [5] (fun i wr => ∃ (k n : Nat), k ≤ m ∧ i = .int .i64 k ∧ wr = w.drewN n) (fun i _ => m - (intOf i).toNat)
  case atStart => exact ⟨0, 0, Nat.zero_le _, rfl, rfl⟩
  case round =>
    obtain ⟨k, n, hk, rfl, rfl⟩ := hrel
    by_cases hlt : k < m
    · obtain ⟨f, hf⟩ : ∃ f, l[k]? = some f := ⟨_, List.getElem?_eq_getElem (by rw [HM.out]; exact hlt)⟩
      obtain ⟨b1, o1, rfl, c0, c1, c2⟩ := HA.out k f hf
      obtain ⟨b2, o2, rfl, d0, d1, d2⟩ := HB.out k f hf
      have c0' : ∀ m, (w.drewN m).cell? ⟨b1, o1 + k * 3, none⟩ = some (.int .i64 (f.1 : Int)) := fun _ => c0
      have c1' : ∀ m, (w.drewN m).cell? ⟨b1, o1 + k * 3 + 1, none⟩ = some (.bool f.2.1) := fun _ => c1
      have c2' : ∀ m, (w.drewN m).cell? ⟨b1, o1 + k * 3 + 2, none⟩ = some (.int .i64 f.2.2) := fun _ => c2
      have d0' : ∀ m, (w.drewN m).cell? ⟨b2, o2 + k * 3, none⟩ = some (.int .i64 (f.1 : Int)) := fun _ => d0
      have d1' : ∀ m, (w.drewN m).cell? ⟨b2, o2 + k * 3 + 1, none⟩ = some (.bool f.2.1) := fun _ => d1
      have d2' : ∀ m, (w.drewN m).cell? ⟨b2, o2 + k * 3 + 2, none⟩ = some (.int .i64 f.2.2) := fun _ => d2
      have hli : (k : Int) < (m : Int) := by omega
      clear hf c0 c1 c2 d0 d1 d2
      go_wp2_with fail
      go_quiet (fail)
      go_wp2_with fail
      go_roundw
      case rel => exact ⟨k + 1, _, by omega, by go_num, rfl⟩
      case measure => simp [intOf]; omega
    · go_wp2_with fail
      go_ret
      exact ⟨rfl, Ek.bl_drawn (Below.refl _ _) _⟩

/-- An event of the step 1. -/
def evP (k t : Int) : Ek.Ev := ⟨k, 1, t, [1]⟩

theorem RI.one {w : World} {g : Nat} {t : TypeId} (h : w.heap[g]? = some (.cells #[.int .i64 1] t (0, 0))) : Ek.RI w (.slice (some ⟨g, 0, none⟩) 1 1) [1] := by
  refine ⟨_, 1, rfl, by simp, by unfold maxLen; omega, fun i hi => ⟨g, 0, rfl, ?_⟩⟩
  have : i = 0 := by simp at hi; omega
  subst this
  exact Dg.cell_row h 0

set_option maxHeartbeats 1000000 in
theorem ev_any (k t : Int) (w : World) : Calls Tryz.prog 14 #[.int .i64 k, .int .i64 t] w fun x w' => Below w.heap.size w w' ∧ ∃ g, x = .returned (.agg #[.int .i64 k, .int .i64 1, .int .i64 t, .slice (some ⟨g, 0, none⟩) 1 1]) ∧ Ek.RI w' (.slice (some ⟨g, 0, none⟩) 1 1) [1] := by
  go_enter Tryz.func14, Tryz.ntmps14
  go_wp2_with fail
  have r2 := Dg.row_new (w.alloc (.cells #[.int .i64 k, .int .i64 1, .int .i64 t, .slice (some ⟨w.heap.size + 1, 0, none⟩) 1 1] 29)) #[.int .i64 1] 3
  rw [World.size_alloc] at r2
  refine ⟨rfl, _, results_cell_row (p := 4) (ty := 29) rfl _ _ w.heap.size 29 #[_, _, _, _] (0, 0) _ rfl (Dg.row_alloc (Dg.row_new w _ 29) _) Tryz.underlying29 rfl (by kernel_rfl), (bl1 _ _).alloc (by simp) _, _, rfl, RI.one r2⟩

/-- The bodies of the laws' saga of one step. -/
def tOne : Tr := .b (.n ⟨[97], [98], [], false, false⟩ .e .e) .e
/-- Its items. -/
def iOne : List It := [⟨[116], [], true, true, 1, -1, 0, []⟩, ⟨[97], [98], false, false, 0, 0, 0, []⟩]

theorem right_one : rightS [116] tOne = true := by
  unfold rightS Sx.okL
  rw [nm_t]
  have hb : bigL (fltn 1 tOne) = false := by decide +kernel
  rw [hb]
  simp [tOne, fltn, nodeOk, nm_a, nm_b, Tr.len]

theorem fit_one : fitS [116] tOne = true := by
  unfold fitS codeS
  rw [right_one]
  decide +kernel

theorem plan_one : planT [116] tOne = some iOne := by
  unfold planT planP
  rw [if_pos ⟨fit_one, by decide +kernel, by decide +kernel, by kernel_rfl⟩]
  kernel_rfl

theorem saga_one : sagaP iOne = some ([116], tOne) := by
  have h1 : nameI iOne 0 = [116] := by kernel_rfl
  have h2 : bodS iOne = tOne := by kernel_rfl
  unfold sagaP
  rw [h1, h2, if_pos ⟨by decide +kernel, plan_one⟩]

theorem one_tree (W : World) (b1 b2 : Nat)
    (r1 : W.heap[b1]? = some (.cells #[.string ⟨#[97]⟩, .string ⟨#[98]⟩, .slice none 0 0, .bool false, .bool false, .slice none 0 0] 66 (0, 0)))
    (r2 : W.heap[b2]? = some (.cells #[.slice (some ⟨b1, 0, none⟩) 1 1] 69 (0, 0))) :
    TAt (· < W.heap.size) W true tOne (some ⟨b2, 0, none⟩) 0 1 := by
  have l1 := (Array.getElem?_eq_some_iff.1 r1).1
  have l2 := (Array.getElem?_eq_some_iff.1 r2).1
  have nl : SAt (· < W.heap.size) W [] none 0 := ⟨rfl, fun i x hx => by simp at hx⟩
  exact ⟨rfl, by omega, ⟨b2, 0, _, 1, 1, rfl, l2, (Dg.cell_row r2 0).trans rfl, ⟨rfl, by omega, ⟨b1, 0, none, 0, 0, none, 0, 0, rfl, l1, (Dg.cell_row r1 0).trans rfl, (Dg.cell_row r1 1).trans rfl, (Dg.cell_row r1 2).trans rfl, (Dg.cell_row r1 3).trans rfl, (Dg.cell_row r1 4).trans rfl, (Dg.cell_row r1 5).trans rfl, nl, rfl⟩, rfl⟩⟩, rfl⟩

theorem fair_one : Fair tOne := Fair.of (by decide) (by simp [AllL, tOne])

theorem three (w : World) (o0 o1 o2 : Obj) :
    let W := ((w.alloc o0).alloc o1).alloc o2
    W.heap[w.heap.size]? = some o0 ∧ W.heap[w.heap.size + 1]? = some o1 ∧ W.heap[w.heap.size + 1 + 1]? = some o2 ∧ Below w.heap.size w W := by
  refine ⟨?_, ?_, ?_, ?_⟩
  · exact old1 (old1 (new1 w o0 _ rfl) _) _
  · exact old1 (new1 _ o1 _ (by simp)) _
  · exact new1 _ o2 _ (by simp)
  · exact (((Below.refl _ w).alloc (Nat.le_refl _) _).alloc (by simp) _).alloc (by simp; omega) _

set_option maxHeartbeats 1000000 in
theorem one_any (w : World) (hT : Dg.Tab w) : Calls Tryz.prog 12 #[] w fun x w' => Below w.heap.size w w' ∧ ∃ v, x = .returned (.agg #[v]) ∧ RdIt w' v iOne := by
  obtain ⟨q0, q1, q2, hb⟩ := three w (.cells #[.slice none 0 0] 24) (.cells #[.string ⟨#[97]⟩, .string ⟨#[98]⟩, .slice none 0 0, .bool false, .bool false, .slice none 0 0] 66) (.cells #[.slice (some ⟨w.heap.size + 1, 0, none⟩) 1 1] 69)
  have M : Hid _ := Make_any _ [116] tOne (some ⟨w.heap.size + 1 + 1, 0, none⟩) 1 (one_tree _ _ _ q1 q2) fair_one (hT.later hb)
  have HB : Hid _ := hb
  have Q0 : Hid _ := q0
  clear q0 q1 q2 hb
  go_enter Tryz.func12, Tryz.ntmps12
  go_wp2_with fail
  generalize ((w.alloc (.cells #[.slice none 0 0] 24)).alloc (.cells #[.string ⟨#[97]⟩, .string ⟨#[98]⟩, .slice none 0 0, .bool false, .bool false, .slice none 0 0] 66)).alloc (.cells #[.slice (some ⟨w.heap.size + 1, 0, none⟩) 1 1] 69) = w0 at *
  refine Calls.mono M.out ?_
  rintro x w1 ⟨hb1, hx⟩
  rw [plan_one] at hx
  obtain ⟨v, rfl, hst⟩ := hx
  have r0 := (hb1.block _ (Array.getElem?_eq_some_iff.1 Q0.out).1).trans Q0.out
  obtain ⟨ia, ic, rfl, hrr⟩ := hst.rd
  have HST : Hid _ := hst
  have HB1 : Hid (Below w.heap.size w w1) := HB.out.trans (hb1.mono HB.out.size)
  have HZ : Hid (w.heap.size < w0.heap.size ∧ w0.heap.size ≤ w1.heap.size) := ⟨(Array.getElem?_eq_some_iff.1 Q0.out).1, hb1.size⟩
  have r1 := Dg.row_alloc r0 (.cells #[.slice ia iOne.length ic] 24)
  have z0 := (Dg.cell_row r1 0).trans rfl
  have f0 := Dg.froz_row r1 0
  have R0 : Hid _ := r1
  clear M hb1 hrr hst r0 r1
  go_wp2_with fail
  have r2 := Dg.row_set R0.out 0 (.slice ia iOne.length ic)
  refine ⟨rfl, _, results_cell_row (p := 0) (ty := 24) rfl _ _ w.heap.size 24 #[_] (0, 0) _ rfl r2 Tryz.underlying24 rfl (by kernel_rfl), (HB1.out.alloc HB1.out.size _).setCell (Nat.le_refl _) _, _, rfl, ?_⟩
  refine HST.out _ fun b h1 h2 => ?_
  have h3 := HZ.out
  rw [Below.heap_setCell _ _ _ b (by show b ≠ w.heap.size; omega)]
  exact Below.heap_alloc _ _ _ h2
end Go.Proofs.YtkndchbpbaecbaaGreatDoor.Fc

