/- Texts of the seat, packed: Kk Lp Ki. -/
import Derived.Test.YtgdnlceliiekkaaGreatDoorP19
import Derived.Test.YtgdnlceliiekkaaGreatDoorP43
import Derived.Test.YtgdnlceliiekkaaGreatDoorP32
import Derived.BigQuiet
import Derived.Test.YtgdnlceliiekkaaGreatDoorP40
import Derived.Laws.MakeOwn
/- The laws' small, ev and one; the document's comparing of facts and keys. -/
namespace Go.Proofs.YtgdnlceliiekkaaGreatDoor.Fc

open Go.RowKit Go.Shelf Go.Proofs.YtgdnlceliiekkaaGreatDoor.Sx

set_option maxRecDepth 1000000

set_option linter.unusedVariables false

def okIt (x : It) : Bool := decide (x.name.length ≤ 200) && (decide (x.undo.length ≤ 200) && decide (x.after.length ≤ 100))

/-- Is a plan small? -/
def smallI (its : List It) : Bool := (its.take 70).all okIt && decide (its.length ≤ 70)

theorem small_no {its : List It} {i : Nat} {x : It} (hx : its[i]? = some x) (hi : i < 70) (h : okIt x = false) : smallI its = false := by
  unfold smallI
  have : (its.take 70).all okIt = false := by
    rw [List.all_eq_false]
    exact ⟨x, List.mem_of_getElem? (i := i) (by rw [List.getElem?_take, if_pos hi]; exact hx), by rw [h]; simp⟩
  rw [this]
  rfl

set_option maxRecDepth 1000000 in
set_option maxHeartbeats 1000000 in
theorem small_any (its : List It) (v : Value) (w : World) (hIt : RdIt w v its) (hmx : its.length ≤ maxLen) (hnm : ∀ x ∈ its, x.name.length ≤ maxLen ∧ x.undo.length ≤ maxLen ∧ x.after.length ≤ maxLen) :
    Calls Tryz.prog 7 #[.agg #[v]] w fun e w' => e = .returned (.bool (smallI its)) ∧ Below w.heap.size w w' := by
  obtain ⟨ia, icap, rfl, hic, hir⟩ := hIt
  have HIR : Hid _ := hir
  have HNM : Hid _ := hnm
  obtain ⟨il, HIL⟩ : ∃ il, Hid (its.length = il) := ⟨_, rfl⟩
  rw [HIL.out] at hic hmx ⊢
  unfold maxLen at hmx
  clear hir hnm
  have hb1 : Below w.heap.size w (w.alloc (.cells #[.slice ia il icap] 24)) := (Below.refl _ w).alloc (Nat.le_refl _) _
  have r1 := Dg.row_new w #[.slice ia il icap] 24
  have hg0 := (Dg.cell_row r1 0).trans rfl
  go_enter Tryz.func7, Tryz.ntmps7
  go_wp2_with fail
  generalize w.alloc (.cells #[.slice ia il icap] 24) = w0 at *
  have HB0 : Hid _ := hb1
  clear hb1 r1
  go_loopw [3] (fun iv wr => ∃ (i : Nat), i ≤ il ∧ i ≤ 70 ∧ iv = .int .i64 i ∧ Hid (∀ x ∈ its.take i, okIt x = true) ∧ Hid (Below w0.heap.size w0 wr)) (fun iv _ => il - (intOf iv).toNat)
  case atStart => exact ⟨0, Nat.zero_le _, by omega, rfl, by show ∀ x ∈ its.take 0, _; simp, Below.refl _ _⟩
  case round =>
    obtain ⟨i, hi, hi70, rfl, HF, HB⟩ := hrel
    rename World => w1
    have g0 := Dg.cell_later HB.out hg0
    by_cases hlt : i < il ∧ i < 70
    rotate_left
    · have HT : Hid (smallI its = decide (il ≤ 70)) := by
        show _ = _
        unfold smallI
        have : (its.take 70).all okIt = true := by
          rw [List.all_eq_true]
          intro x hx
          refine HF.out x ?_
          by_cases h7 : i = 70
          · rw [h7]; exact hx
          · have : i = il := by omega
            rw [List.take_of_length_le (by rw [HIL.out, this]; exact Nat.le_refl _)]
            exact List.mem_of_mem_take hx
        rw [this, HIL.out]
        rfl
      by_cases h7 : il ≤ 70
      · have hie : i = il := by omega
        subst hie
        have HT2 : Hid (smallI its = true) := HT.out.trans (decide_eq_true h7)
        go_wp2_with fail
        go_ret
        exact ⟨by rw [HT2.out]; show Ending.returned (.bool (decide ((i : Int) ≤ 70))) = _; rw [decide_eq_true (by omega)], HB0.out.trans (HB.out.mono HB0.out.size)⟩
      · have hie : i = 70 := by omega
        subst hie
        have hii : (70 : Int) < (il : Int) := by omega
        have HT2 : Hid (smallI its = false) := HT.out.trans (decide_eq_false h7)
        go_wp2_with fail
        go_ret
        exact ⟨by rw [HT2.out]; show Ending.returned (.bool (decide ((il : Int) ≤ 70))) = _; rw [decide_eq_false (by omega)], HB0.out.trans (HB.out.mono HB0.out.size)⟩
    obtain ⟨hlt, hlt7⟩ := hlt
    obtain ⟨y, hy⟩ : ∃ y, its[i]? = some y := ⟨_, List.getElem?_eq_getElem (by rw [HIL.out]; exact hlt)⟩
    obtain ⟨m0, m1, m2⟩ := HNM.out y (List.mem_of_getElem? hy)
    unfold maxLen at m0 m1 m2
    obtain ⟨b1, off1, yav, yam, yac, rfl, k0, k1, k2, k3, k4, k5, k6, k7, hz⟩ := HIR.out i y hy
    have hBT : Below w.heap.size w w1 := HB0.out.trans (HB.out.mono HB0.out.size)
    have j0 := Dg.cell_later hBT k0
    have j1 := Dg.cell_later hBT k1
    have j2 := Dg.cell_later hBT k2
    have j3 := Dg.cell_later hBT k3
    have j4 := Dg.cell_later hBT k4
    have j5 := Dg.cell_later hBT k5
    have j6 := Dg.cell_later hBT k6
    have j7 := Dg.cell_later hBT k7
    obtain ⟨za, zcap, hze, hzc, hzr⟩ := hz
    cases hze
    have hii : (i : Int) < (il : Int) := by omega
    have hi7 : (i : Int) < 70 := by omega
    have HTk : Hid (its.take (i + 1) = its.take i ++ [y]) := by show _ = _; rw [List.take_add_one, hy]; rfl
    have HNo : Hid (okIt y = false → smallI its = false) := fun h => small_no hy hlt7 h
    have s0 : (⟨y.name.toArray⟩ : ByteArray).size = y.name.length := by simp [ByteArray.size]
    have s1 : (⟨y.undo.toArray⟩ : ByteArray).size = y.undo.length := by simp [ByteArray.size]
    have HBT : Hid _ := hBT
    clear k0 k1 k2 k3 k4 k5 k6 k7 hzr hy hBT
    by_cases hok : okIt y = true
    · have HF2 : Hid (∀ x ∈ its.take (i + 1), okIt x = true) := by
        show ∀ x ∈ its.take (i + 1), _
        rw [HTk.out]
        intro x hx
        rcases List.mem_append.1 hx with h | h
        · exact HF.out x h
        · simp at h; subst h; exact hok
      simp only [okIt, Bool.and_eq_true, decide_eq_true_eq] at hok
      obtain ⟨o0, o1, o2⟩ := hok
      generalize (⟨y.name.toArray⟩ : ByteArray) = N at *
      generalize (⟨y.undo.toArray⟩ : ByteArray) = U at *
      generalize y.name.length = n0 at *
      generalize y.undo.length = n1 at *
      generalize y.after.length = n2 at *
      go_wp2_with fail
      go_roundw
      case rel => exact ⟨i + 1, by omega, by omega, by go_num, HF2, HB.out.alloc HB.out.size _⟩
      case measure => simp [intOf]; omega
    · have HX : Hid (smallI its = false) := HNo.out (by simpa using hok)
      have hk2 : ¬ (y.name.length ≤ 200 ∧ y.undo.length ≤ 200 ∧ y.after.length ≤ 100) := fun h => hok (by simp [okIt, h.1, h.2.1, h.2.2])
      clear hok HNo HTk
      generalize (⟨y.name.toArray⟩ : ByteArray) = N at *
      generalize (⟨y.undo.toArray⟩ : ByteArray) = U at *
      generalize y.name.length = n0 at *
      generalize y.undo.length = n1 at *
      generalize y.after.length = n2 at *
      by_cases o0 : n0 ≤ 200
      · by_cases o1 : n1 ≤ 200
        · have o2 : ¬ n2 ≤ 100 := fun h => hk2 ⟨o0, o1, h⟩
          clear hk2
          go_wp2_with fail
          go_ret
          exact ⟨by rw [HX.out]; rfl, HBT.out.alloc HBT.out.size _⟩
        · clear hk2
          go_wp2_with fail
          go_ret
          exact ⟨by rw [HX.out]; rfl, HBT.out.alloc HBT.out.size _⟩
      · clear hk2
        go_wp2_with fail
        go_ret
        exact ⟨by rw [HX.out]; rfl, HBT.out.alloc HBT.out.size _⟩

theorem small_fair {its : List It} (h : smallI its = true) : FairI its ∧ its.length ≤ 70 := by
  unfold smallI at h
  rw [Bool.and_eq_true, decide_eq_true_eq] at h
  obtain ⟨h1, h2⟩ := h
  rw [List.take_of_length_le h2, List.all_eq_true] at h1
  have h3 : ∀ x ∈ its, x.name.length ≤ 200 ∧ x.undo.length ≤ 200 ∧ x.after.length ≤ 100 := by
    intro x hx
    have := h1 x hx
    simp only [okIt, Bool.and_eq_true, decide_eq_true_eq] at this
    exact this
  exact ⟨⟨fun x hx => by have := h3 x hx; omega, fun x hx => by have := h3 x hx; omega⟩, h2⟩

theorem RI.one {w : World} {g : Nat} {t : TypeId} (h : w.heap[g]? = some (.cells #[.int .i64 1] t (0, 0))) : Ek.RI w (.slice (some ⟨g, 0, none⟩) 1 1) [1] := by
  refine ⟨_, 1, rfl, by simp, by unfold maxLen; omega, fun i hi => ⟨g, 0, rfl, ?_⟩⟩
  have : i = 0 := by simp at hi; omega
  subst this
  exact Dg.cell_row h 0

/-- The bodies of the laws' saga of one step. -/
def tOne : Tr := .b (.n ⟨[97], [98], [], false, false⟩ .e .e) .e

/-- Its items. -/
def iOne : List It := [⟨[116], [], true, true, 1, -1, 0, []⟩, ⟨[97], [98], false, false, 0, 0, 0, []⟩]

theorem right_one : rightS [116] tOne = true := by
  unfold rightS Sx.okL
  rw [nm_t]
  have hb : bigL (fltn 1 tOne) = false := by decide +kernel
  rw [hb]
  simp [tOne, fltn, nodeOk, nm_a, nm_b, Tr.len]

theorem fit_one : fitS [116] tOne = true := by
  unfold fitS codeS
  rw [right_one]
  decide +kernel

theorem plan_one : planT [116] tOne = some iOne := by
  unfold planT planP
  rw [if_pos ⟨fit_one, by decide +kernel, by decide +kernel, by kernel_rfl⟩]
  kernel_rfl

theorem saga_one : sagaP iOne = some ([116], tOne) := by
  have h1 : nameI iOne 0 = [116] := by kernel_rfl
  have h2 : bodS iOne = tOne := by kernel_rfl
  unfold sagaP
  rw [h1, h2, if_pos ⟨by decide +kernel, plan_one⟩]

theorem one_tree (W : World) (b1 b2 : Nat)
    (r1 : W.heap[b1]? = some (.cells #[.string ⟨#[97]⟩, .string ⟨#[98]⟩, .slice none 0 0, .bool false, .bool false, .slice none 0 0] 78 (0, 0)))
    (r2 : W.heap[b2]? = some (.cells #[.slice (some ⟨b1, 0, none⟩) 1 1] 81 (0, 0))) :
    TAt (· < W.heap.size) W true tOne (some ⟨b2, 0, none⟩) 0 1 := by
  have l1 := (Array.getElem?_eq_some_iff.1 r1).1
  have l2 := (Array.getElem?_eq_some_iff.1 r2).1
  have nl : SAt (· < W.heap.size) W [] none 0 := ⟨rfl, fun i x hx => by simp at hx⟩
  exact ⟨rfl, by omega, ⟨b2, 0, _, 1, 1, rfl, l2, (Dg.cell_row r2 0).trans rfl, ⟨rfl, by omega, ⟨b1, 0, none, 0, 0, none, 0, 0, rfl, l1, (Dg.cell_row r1 0).trans rfl, (Dg.cell_row r1 1).trans rfl, (Dg.cell_row r1 2).trans rfl, (Dg.cell_row r1 3).trans rfl, (Dg.cell_row r1 4).trans rfl, (Dg.cell_row r1 5).trans rfl, nl, rfl⟩, rfl⟩⟩, rfl⟩

theorem three (w : World) (o0 o1 o2 : Obj) :
    let W := ((w.alloc o0).alloc o1).alloc o2
    W.heap[w.heap.size]? = some o0 ∧ W.heap[w.heap.size + 1]? = some o1 ∧ W.heap[w.heap.size + 1 + 1]? = some o2 ∧ Below w.heap.size w W := by
  refine ⟨?_, ?_, ?_, ?_⟩
  · exact old1 (old1 (new1 w o0 _ rfl) _) _
  · exact old1 (new1 _ o1 _ (by simp)) _
  · exact new1 _ o2 _ (by simp)
  · exact (((Below.refl _ w).alloc (Nat.le_refl _) _).alloc (by simp) _).alloc (by simp; omega) _

end Go.Proofs.YtgdnlceliiekkaaGreatDoor.Fc

/- The laws' small examples: either, is. -/
namespace Go.Proofs.YtgdnlceliiekkaaGreatDoor.Sa
open Go.RowKit Go.Shelf Go.Proofs.YtgdnlceliiekkaaGreatDoor.Fc Go.Proofs.YtgdnlceliiekkaaGreatDoor.St Go.Proofs.YtgdnlceliiekkaaGreatDoor.Sx
set_option maxRecDepth 1000000
set_option linter.unusedVariables false

/-- The bodies of the laws' saga of two bodies. -/
def tTwo : Tr := .b (.n ⟨[97], [120], [], false, false⟩ .e .e) (.b (.n ⟨[98], [121], [], false, false⟩ .e .e) .e)
/-- Its items. -/
def iTwo : List It := [⟨[116], [], true, true, 2, -1, 0, []⟩, ⟨[97], [120], false, false, 0, 0, 0, []⟩, ⟨[98], [121], false, false, 0, 0, 1, []⟩]

theorem nm_x : nmP [120] = true := by
  rw [nmP, (isName_iff _).2 (name1 120 120 (by decide +kernel) (by decide +kernel) (by decide +kernel))]; rfl
theorem nm_y : nmP [121] = true := by
  rw [nmP, (isName_iff _).2 (name1 121 121 (by decide +kernel) (by decide +kernel) (by decide +kernel))]; rfl

theorem right_two : rightS [116] tTwo = true := by
  unfold rightS Sx.okL
  rw [nm_t]
  have hb : bigL (fltn 1 tTwo) = false := by decide +kernel
  rw [hb]
  simp [tTwo, fltn, nodeOk, nm_a, nm_b, nm_x, nm_y, Tr.len]

theorem fit_two : fitS [116] tTwo = true := by
  unfold fitS codeS
  rw [right_two]
  decide +kernel

theorem plan_two : planT [116] tTwo = some iTwo := by
  unfold planT planP
  rw [if_pos ⟨fit_two, by decide +kernel, by decide +kernel, by kernel_rfl⟩]
  kernel_rfl

theorem saga_two : sagaP iTwo = some ([116], tTwo) := by
  have h1 : nameI iTwo 0 = [116] := by kernel_rfl
  have h2 : bodS iTwo = tTwo := by kernel_rfl
  unfold sagaP
  rw [h1, h2, if_pos ⟨by decide +kernel, plan_two⟩]

theorem fair_two : Fair tTwo := Fair.of (by decide) (by simp [AllL, tTwo])

theorem two_tree (W : World) (b1 b3 b5 : Nat)
    (r1 : W.heap[b1]? = some (.cells #[.string ⟨#[97]⟩, .string ⟨#[120]⟩, .slice none 0 0, .bool false, .bool false, .slice none 0 0] 78 (0, 0)))
    (r3 : W.heap[b3]? = some (.cells #[.string ⟨#[98]⟩, .string ⟨#[121]⟩, .slice none 0 0, .bool false, .bool false, .slice none 0 0] 78 (0, 0)))
    (r5 : W.heap[b5]? = some (.cells #[.slice (some ⟨b1, 0, none⟩) 1 1, .slice (some ⟨b3, 0, none⟩) 1 1] 81 (0, 0))) :
    TAt (· < W.heap.size) W true tTwo (some ⟨b5, 0, none⟩) 0 2 := by
  have l1 := (Array.getElem?_eq_some_iff.1 r1).1
  have l3 := (Array.getElem?_eq_some_iff.1 r3).1
  have l5 := (Array.getElem?_eq_some_iff.1 r5).1
  have nl : SAt (· < W.heap.size) W [] none 0 := ⟨rfl, fun i x hx => by simp at hx⟩
  exact ⟨rfl, by omega, ⟨b5, 0, _, 1, 1, rfl, l5, (Dg.cell_row r5 0).trans rfl, ⟨rfl, by omega, ⟨b1, 0, none, 0, 0, none, 0, 0, rfl, l1, (Dg.cell_row r1 0).trans rfl, (Dg.cell_row r1 1).trans rfl, (Dg.cell_row r1 2).trans rfl, (Dg.cell_row r1 3).trans rfl, (Dg.cell_row r1 4).trans rfl, (Dg.cell_row r1 5).trans rfl, nl, rfl⟩, rfl⟩⟩,
    ⟨rfl, by omega, ⟨b5, 0, _, 1, 1, rfl, l5, (Dg.cell_row r5 1).trans rfl, ⟨rfl, by omega, ⟨b3, 0, none, 0, 0, none, 0, 0, rfl, l3, (Dg.cell_row r3 0).trans rfl, (Dg.cell_row r3 1).trans rfl, (Dg.cell_row r3 2).trans rfl, (Dg.cell_row r3 3).trans rfl, (Dg.cell_row r3 4).trans rfl, (Dg.cell_row r3 5).trans rfl, nl, rfl⟩, rfl⟩⟩, rfl⟩⟩

theorem six (w : World) (o0 o1 o2 o3 o4 o5 : Obj) :
    let W := (((((w.alloc o0).alloc o1).alloc o2).alloc o3).alloc o4).alloc o5
    W.heap[w.heap.size]? = some o0 ∧ W.heap[w.heap.size + 1]? = some o1 ∧ W.heap[w.heap.size + 1 + 1 + 1]? = some o3 ∧ W.heap[w.heap.size + 1 + 1 + 1 + 1 + 1]? = some o5 ∧ Below w.heap.size w W := by
  refine ⟨?_, ?_, ?_, ?_, ?_⟩
  · exact old1 (old1 (old1 (old1 (old1 (new1 w o0 _ rfl) _) _) _) _) _
  · exact old1 (old1 (old1 (old1 (new1 _ o1 _ (by simp)) _) _) _) _
  · exact old1 (old1 (new1 _ o3 _ (by simp)) _) _
  · exact new1 _ o5 _ (by simp)
  · exact ((((((Below.refl _ w).alloc (Nat.le_refl _) _).alloc (by simp) _).alloc (by simp; omega) _).alloc (by simp; omega) _).alloc (by simp; omega) _).alloc (by simp; omega) _

set_option maxHeartbeats 2000000 in
theorem either_any (w : World) (hT : Dg.Tab w) : Calls Tryz.prog 23 #[] w fun x w' => Below w.heap.size w w' ∧ ∃ v, x = .returned (.agg #[v]) ∧ RdIt w' v iTwo := by
  obtain ⟨q0, q1, q3, q5, hb⟩ := six w (.cells #[.slice none 0 0] 24) (.cells #[.string ⟨#[97]⟩, .string ⟨#[120]⟩, .slice none 0 0, .bool false, .bool false, .slice none 0 0] 78) (.cells #[.slice (some ⟨w.heap.size + 1, 0, none⟩) 1 1] 81) (.cells #[.string ⟨#[98]⟩, .string ⟨#[121]⟩, .slice none 0 0, .bool false, .bool false, .slice none 0 0] 78) (.cells #[.slice (some ⟨w.heap.size + 1 + 1 + 1, 0, none⟩) 1 1] 81) (.cells #[.slice (some ⟨w.heap.size + 1, 0, none⟩) 1 1, .slice (some ⟨w.heap.size + 1 + 1 + 1, 0, none⟩) 1 1] 81)
  have M : Hid _ := Make_any _ [116] tTwo (some ⟨w.heap.size + 1 + 1 + 1 + 1 + 1, 0, none⟩) 2 (two_tree _ _ _ _ q1 q3 q5) fair_two (hT.later hb)
  have HB : Hid _ := hb
  have Q0 : Hid _ := q0
  clear q0 q1 q3 q5 hb
  go_enter Tryz.func23, Tryz.ntmps23
  go_wp2_with fail
  generalize (((((w.alloc (.cells #[.slice none 0 0] 24)).alloc (.cells #[.string ⟨#[97]⟩, .string ⟨#[120]⟩, .slice none 0 0, .bool false, .bool false, .slice none 0 0] 78)).alloc (.cells #[.slice (some ⟨w.heap.size + 1, 0, none⟩) 1 1] 81)).alloc (.cells #[.string ⟨#[98]⟩, .string ⟨#[121]⟩, .slice none 0 0, .bool false, .bool false, .slice none 0 0] 78)).alloc (.cells #[.slice (some ⟨w.heap.size + 1 + 1 + 1, 0, none⟩) 1 1] 81)).alloc (.cells #[.slice (some ⟨w.heap.size + 1, 0, none⟩) 1 1, .slice (some ⟨w.heap.size + 1 + 1 + 1, 0, none⟩) 1 1] 81) = w0 at *
  refine Calls.mono M.out ?_
  rintro x w1 ⟨hb1, hx⟩
  rw [plan_two] at hx
  obtain ⟨v, rfl, hst⟩ := hx
  have r0 := (hb1.block _ (Array.getElem?_eq_some_iff.1 Q0.out).1).trans Q0.out
  obtain ⟨ia, ic, rfl, hrr⟩ := hst.rd
  have HST : Hid _ := hst
  have HB1 : Hid (Below w.heap.size w w1) := HB.out.trans (hb1.mono HB.out.size)
  have HZ : Hid (w.heap.size < w0.heap.size ∧ w0.heap.size ≤ w1.heap.size) := ⟨(Array.getElem?_eq_some_iff.1 Q0.out).1, hb1.size⟩
  have r1 := Dg.row_alloc r0 (.cells #[.slice ia iTwo.length ic] 24)
  have z0 := (Dg.cell_row r1 0).trans rfl
  have f0 := Dg.froz_row r1 0
  have R0 : Hid _ := r1
  clear M hb1 hrr hst r0 r1
  go_wp2_with fail
  have r2 := Dg.row_set R0.out 0 (.slice ia iTwo.length ic)
  refine ⟨rfl, _, results_cell_row (p := 0) (ty := 24) rfl _ _ w.heap.size 24 #[_] (0, 0) _ rfl r2 Tryz.underlying24 rfl (by kernel_rfl), (HB1.out.alloc HB1.out.size _).setCell (Nat.le_refl _) _, _, rfl, ?_⟩
  refine HST.out _ fun b h1 h2 => ?_
  have h3 := HZ.out
  rw [Below.heap_setCell _ _ _ b (by show b ≠ w.heap.size; omega)]
  exact Below.heap_alloc _ _ _ h2

set_option maxHeartbeats 2000000 in
theorem is_any (l : List Int) (u v : Value) (w : World) (hu : RS w u l) {k : List Int} (hv : RS w v k) (hl : l.length ≤ 1000000) (hk : k.length ≤ 1000000) :
    Calls Tryz.prog 21 #[u, v] w fun e w' => e = .returned (.bool (decide (l = k))) ∧ Below w.heap.size w w' := by
  obtain ⟨E, HE⟩ : ∃ E, Hid (E = decide (l = k)) := ⟨_, rfl⟩
  rw [← HE.out]
  obtain ⟨ua, uc, rfl, huc, hur⟩ := hu
  obtain ⟨va, vc, rfl, hvc, hvr⟩ := hv
  obtain ⟨n, HN⟩ : ∃ n, Hid (l.length = n) := ⟨_, rfl⟩
  obtain ⟨m, HM⟩ : ∃ m, Hid (k.length = m) := ⟨_, rfl⟩
  have HU : Hid _ := hur
  have HV : Hid _ := hvr
  clear hur hvr
  rw [HN.out] at hl huc ⊢
  rw [HM.out] at hk hvc ⊢
  by_cases hnm : n = m
  rotate_left
  · have hne : ((n : Int) != (m : Int)) = true := by simp; omega
    have HX : Hid (E = false) := HE.out.trans (decide_eq_false (fun h => hnm (by rw [← HN.out, ← HM.out, h])))
    go_enter Tryz.func21, Tryz.ntmps21
    go_wp2_with fail
    go_ret
    exact ⟨by rw [HX.out]; rfl, Below.refl _ _⟩
  subst hnm
  have hne : ((n : Int) != (n : Int)) = false := by simp
  go_enter Tryz.func21, Tryz.ntmps21
  go_wp2_with fail
  go_loopw [5] (fun iv wr => ∃ (i : Nat), i ≤ n ∧ iv = .int .i64 i ∧ Hid (∀ j, j < i → l[j]? = k[j]?) ∧ Hid (Below w.heap.size w wr)) (fun iv _ => n - (intOf iv).toNat)
  case atStart => exact ⟨0, Nat.zero_le _, by go_num, fun j hj => by omega, Below.refl _ _⟩
  case round =>
    obtain ⟨i, hi, rfl, HA, HW⟩ := hrel
    rename World => wr
    by_cases hlt : i < n
    rotate_left
    · have HX : Hid (E = true) := HE.out.trans (decide_eq_true (List.ext_getElem? fun j => by
        by_cases hj : j < i
        · exact HA.out j hj
        · rw [List.getElem?_eq_none (by rw [HN.out]; omega), List.getElem?_eq_none (by rw [HM.out]; omega)]))
      clear HA
      go_wp2_with fail
      go_ret
      exact ⟨by rw [HX.out]; rfl, HW.out⟩
    · obtain ⟨x, hx⟩ : ∃ x, l[i]? = some x := ⟨_, List.getElem?_eq_getElem (by rw [HN.out]; exact hlt)⟩
      obtain ⟨y, hy⟩ : ∃ y, k[i]? = some y := ⟨_, List.getElem?_eq_getElem (by rw [HM.out]; exact hlt)⟩
      obtain ⟨ub, uo, rfl, cu⟩ := HU.out i x hx
      obtain ⟨vb, vo, rfl, cv⟩ := HV.out i y hy
      have c0 := Dg.cell_later HW.out cu
      have c1 := Dg.cell_later HW.out cv
      have hii : (i : Int) < (n : Int) := by omega
      have HNO : Hid (¬ x = y → E = false) := fun h => HE.out.trans (decide_eq_false (fun h9 => h (by subst h9; rw [hx] at hy; cases hy; rfl)))
      have HYES : Hid (x = y → ∀ j, j < i + 1 → l[j]? = k[j]?) := fun h j hj => by
        by_cases hji : j = i
        · subst hji; rw [hx, hy, h]
        · exact HA.out j (by omega)
      clear hx hy cu cv HA
      by_cases hxy : x = y
      · have HY : Hid _ := HYES.out hxy
        have e1 : (x != y) = false := by simp [hxy]
        clear HYES HNO hxy
        go_wp2_with fail
        go_quiet (fail)
        go_wp2_with fail
        go_roundw
        case rel => exact ⟨i + 1, by omega, by go_num, HY, drawn_below HW.out _⟩
        case measure => simp [intOf] <;> omega
      · have HX : Hid _ := HNO.out hxy
        have e1 : (x != y) = true := by simpa using hxy
        clear HYES HNO hxy
        go_wp2_with fail
        go_quiet (fail)
        go_wp2_with fail
        go_ret
        exact ⟨by rw [HX.out]; rfl, drawn_below HW.out _⟩
end Go.Proofs.YtgdnlceliiekkaaGreatDoor.Sa

/- The walks over None and All. -/
namespace Go.Proofs.YtgdnlceliiekkaaGreatDoor.Fc

open Go.RowKit Go.Shelf

set_option maxRecDepth 1000000

set_option linter.unusedVariables false

theorem made_facts (n : Nat) : madeCells #[Value.int .i64 0, .int .i64 0, .int .i64 0, .bool false] (n * 4) = (rowsF (List.replicate n Fa.z)).toArray := by
  apply Array.toList_inj.1
  apply List.ext_getElem?
  intro j
  by_cases hj : j < n * 4
  · have hf : (List.replicate n Fa.z)[j / 4]? = some Fa.z := by rw [List.getElem?_replicate, if_pos (by omega)]
    have hg := rowsF_get _ (j / 4) Fa.z hf (j % 4) (by omega)
    rw [show j / 4 * 4 + j % 4 = j by omega] at hg
    show _ = (rowsF (List.replicate n Fa.z))[j]?
    rw [hg]
    simp only [madeCells, Array.toList_map, List.getElem?_map]
    have hr : (Array.range (n * 4)).toList[j]? = some j := by simp [hj]
    rw [hr]
    have hm : j % 4 = 0 ∨ j % 4 = 1 ∨ j % 4 = 2 ∨ j % 4 = 3 := by omega
    show some ((#[Value.int .i64 0, .int .i64 0, .int .i64 0, .bool false] : Array Value)[j % 4]!) = _
    rcases hm with h | h | h | h <;> rw [h] <;> rfl
  · rw [List.getElem?_eq_none (by rw [Array.length_toList, size_madeCells]; omega)]
    show none = (rowsF (List.replicate n Fa.z))[j]?
    rw [List.getElem?_eq_none (by rw [rowsF_len, List.length_replicate]; omega)]

theorem make_facts (n : Nat) (hn : n ≤ 64) : ∃ C : Array Value, Hid (C = (rowsF (List.replicate n Fa.z)).toArray) ∧ ∀ wx : World, (Instr.makeSlice 25 (.int .i64 (n : Int)) (.int .i64 (n : Int))).run Tryz.prog wx = .ok (.slice (some ⟨wx.heap.size, 0, none⟩) n n) (wx.alloc (.cells C 65)) := by
  obtain ⟨i0, hi0, hz0, hz1, hz2⟩ := info_parts info38
  refine ⟨_, rfl, fun wx => ?_⟩
  have hmk := run_make (P := Tryz.prog) wx 25 65 i0 _ Tryz.underlying25 hi0 hz0 .i64 .i64 (n : Int) (n : Int) (by omega) (by omega) (by rw [hz2]; omega) (by omega)
  simp only [hz1, Int.toNat_natCast] at hmk
  rw [hmk, ← made_facts]
  rfl

/-- How None ends. -/
def NonC (its : List It) (w : World) (x : Ending) (w' : World) : Prop := Below w.heap.size w w' ∧ match (sagaP its).isSome with
  | false => x = .returned (.slice none 0 0)
  | true => ∃ g, x = .returned (.slice (some ⟨g, 0, none⟩) its.length its.length) ∧ OF w.heap.size w' (.slice (some ⟨g, 0, none⟩) its.length its.length) (List.replicate its.length Fa.z)

theorem NonC.no {its : List It} {w w' : World} (h : (sagaP its).isSome = false) (hb : Below w.heap.size w w') : NonC its w (.returned (.slice none 0 0)) w' := by
  unfold NonC
  rw [h]
  exact ⟨hb, rfl⟩

theorem NonC.yes {its : List It} {w w' : World} {g : Nat} (h : (sagaP its).isSome = true) (hb : Below w.heap.size w w') (ho : OF w.heap.size w' (.slice (some ⟨g, 0, none⟩) its.length its.length) (List.replicate its.length Fa.z)) : NonC its w (.returned (.slice (some ⟨g, 0, none⟩) its.length its.length)) w' := by
  unfold NonC
  rw [h]
  exact ⟨hb, g, rfl, ho⟩

set_option maxHeartbeats 1000000 in
theorem noneF_any (its : List It) (v : Value) (w : World) (hIt : RdIt w v its) (hF : FairI its) (hT : Dg.Tab w) :
    Calls Tryz.prog 22 #[.agg #[v]] w fun x w' => NonC its w x w' := by
  have hc0 : ChS w v (w.alloc (.cells #[v] 24)) := ⟨bl1 _ _, Dg.row_new w _ 24⟩
  have M0 := Right_any its v _ (hIt.later hc0.bel) hF (hT.later hc0.bel)
  obtain ⟨ia, icap, rfl, _, _⟩ := hIt
  have HC0 : Hid (ChS w (.slice ia its.length icap) _) := hc0
  obtain ⟨q, HQ⟩ : ∃ q, Hid ((sagaP its).isSome = q) := ⟨_, rfl⟩
  rw [HQ.out] at M0
  have M : Hid (Calls Tryz.prog 31 #[.agg #[.slice ia its.length icap]] _ fun e w' => e = .returned (.bool q) ∧ Below _ _ w') := M0
  clear M0 hc0
  go_enter Tryz.func22, Tryz.ntmps22
  go_wp2_with fail
  generalize w.alloc (.cells #[.slice ia its.length icap] 24) = w0 at *
  refine Calls.mono M.out ?_
  rintro x w1 ⟨rfl, hb1⟩
  have HC1 : Hid _ := HC0.out.later hb1
  clear M HC0 hb1
  cases q with
  | false =>
    go_wp2_with fail
    go_ret
    exact NonC.no HQ.out HC1.out.bel
  | true =>
    have hn := (root_len HQ.out).2
    obtain ⟨C, HCC, hmk⟩ := make_facts its.length hn
    have z0 := (Dg.cell_row HC1.out.box 0).trans rfl
    go_wp2_with fail
    go_ret
    have hz := HC1.out.bel.size
    have h := World.ownsRow_lit (base := w.heap.size) (e := 65) (size := 4) w1 C its.length hz (by unfold maxLen; omega) (by rw [HCC.out]; simp [rowsF_len])
    refine NonC.yes HQ.out (HC1.out.bel.alloc hz _) ?_
    unfold OF
    rw [List.length_replicate]
    rw [HCC.out] at h ⊢
    exact h

theorem hap_ok {its : List It} {l : List Fa} {e : Ek.Ev} (hl : okL (subs its) l) : okL (subs its) (hap its l e).2 := by
  unfold hap
  split
  · split
    · exact hl
    · rename_i m hm
      exact (does_right hl hm).1
  · exact hl

/-- What All knows between two events. -/
structure AlS (its : List It) (w : World) (v u : Value) (L : List Fa) (W : World) : Prop where
  bel : Below w.heap.size w W
  box : W.heap[w.heap.size]? = some (.cells #[v] 24 (0, 0))
  own : OF (w.heap.size + 1) W u L
  ok : okL (subs its) L

theorem AlS.later {its : List It} {w : World} {v u : Value} {L : List Fa} {W W' : World} (h : AlS its w v u L W) (hb : Below W.heap.size W W') : AlS its w v u L W' :=
  ⟨h.bel.trans (hb.mono h.bel.size), (hb.block _ (Array.getElem?_eq_some_iff.1 h.box).1).trans h.box, h.own.later hb, h.ok⟩

theorem AlS.hap {its : List It} {w : World} {v u : Value} {L : List Fa} {W W' : World} {e : Ek.Ev} (h : AlS its w v u L W) (ho : OF (w.heap.size + 1) W' u (hap its L e).2) (hg : W.grownBy W' u.ownBlock) : AlS its w v u (hap its L e).2 W' := by
  have hlt : ∀ k, u.ownBlock = some k → w.heap.size + 1 ≤ k := fun k hk => (World.ownsRow.lt h.own k hk).1
  refine ⟨Below.grown h.bel hg h.bel.size (fun k hk => by have := hlt k hk; omega), ?_, ho, hap_ok h.ok⟩
  rw [hg.block _ (Array.getElem?_eq_some_iff.1 h.box).1 (fun e => by have := hlt _ e.symm; omega)]
  exact h.box

end Go.Proofs.YtgdnlceliiekkaaGreatDoor.Fc

