/- Texts of the seat, packed: Lq Lr. -/
import Derived.Test.YtgdnlceliiekkaaGreatDoorP44
/- The laws' lives. -/
namespace Go.Proofs.YtgdnlceliiekkaaGreatDoor.Sa
open Go.RowKit Go.Shelf Go.Proofs.YtgdnlceliiekkaaGreatDoor.Fc Go.Proofs.YtgdnlceliiekkaaGreatDoor.St Go.Proofs.YtgdnlceliiekkaaGreatDoor.Sx
set_option maxRecDepth 1000000
set_option linter.unusedVariables false

def lN : List Fa := [Fa.z, Fa.z, Fa.z]
def lO : List Fa := [Fa.z, ⟨3, 0, 0, false⟩, Fa.z]
def lB : List Fa := [Fa.z, ⟨3, 0, 0, false⟩, ⟨3, 0, 0, false⟩]
def lK : List Fa := [Fa.z, ⟨3, 0, 0, false⟩, ⟨2, 0, 0, false⟩]

theorem chk_two {l : List Fa} (h : okL (subs iTwo) l) : chkF iTwo l = 0 := chkF_ok (by rw [saga_two]; rfl) h
theorem ok3 {a b c : Fa} (ha : a = Fa.z) (hb : okF b) (hc : okF c) : okL (subs iTwo) [a, b, c] := by
  subst ha
  refine ⟨rfl, fun i hi => ?_⟩
  have : i = 0 ∨ i = 1 ∨ i = 2 := by simp at hi; omega
  rcases this with rfl | rfl | rfl
  · exact ⟨okF_z, fun _ => rfl⟩
  · exact ⟨hb, fun h => by cases h⟩
  · exact ⟨hc, fun h => by cases h⟩
theorem chkN : chkF iTwo lN = 0 := chk_two (ok3 rfl (by decide) (by decide))
theorem chkO : chkF iTwo lO = 0 := chk_two (ok3 rfl (by decide) (by decide))
theorem chkB : chkF iTwo lB = 0 := chk_two (ok3 rfl (by decide) (by decide))
theorem chkK : chkF iTwo lK = 0 := chk_two (ok3 rfl (by decide) (by decide))
theorem allN : allS iTwo lN = [0, 0, 0] := by unfold allS; rw [if_pos chkN]; decide +kernel
theorem allO : allS iTwo lO = [1, 3, 0] := by unfold allS; rw [if_pos chkO]; decide +kernel
theorem atO : atS iTwo lO 0 = 1 := by unfold atS; rw [if_pos chkO]; decide +kernel
theorem verB : verS iTwo lB = 3 := by unfold verS; rw [if_pos chkB]; decide +kernel
theorem verK : verS iTwo lK = 2 := by unfold verS; rw [if_pos chkK]; decide +kernel
theorem verN : verS iTwo lN = 1 := by unfold verS; rw [if_pos chkN]; decide +kernel
theorem falO : falS iTwo lO 0 0 = true := by unfold falS; rw [if_pos chkO]; decide +kernel

theorem fairI_two : FairI iTwo := by
  have : smallI iTwo = true := by decide +kernel
  exact (small_fair this).1

/-- Three facts in a row. -/
theorem RF.three {w : World} {g : Nat} {a b c : Fa} (h : w.heap[g]? = some (.cells (rowsF [a, b, c]).toArray 65 (0, 0))) : RF w (.slice (some ⟨g, 0, none⟩) 3 3) [a, b, c] := by
  refine ⟨_, 3, rfl, by simp, by unfold maxLen; omega, fun i f hf => ⟨g, 0, rfl, ?_⟩⟩
  have hi : i < 3 := by have := (List.getElem?_eq_some_iff.1 hf).1; simpa using this
  have hc : ∀ j, j < 4 → w.cell? ⟨g, 0 + i * 4 + j, none⟩ = f.cells[j]? := fun j hj => by
    rw [Dg.cell_row h, List.getElem?_toArray, Nat.zero_add]
    exact rowsF_get _ i f hf j hj
  exact ⟨hc 0 (by omega), hc 1 (by omega), hc 2 (by omega), hc 3 (by omega)⟩

theorem RS.three {w : World} {g : Nat} {a b c : Int} {t : TypeId} (h : w.heap[g]? = some (.cells #[.int .i64 a, .int .i64 b, .int .i64 c] t (0, 0))) : RS w (.slice (some ⟨g, 0, none⟩) 3 3) [a, b, c] := by
  refine ⟨_, 3, rfl, by simp, fun i z hz => ⟨g, 0, rfl, ?_⟩⟩
  have hi : i < 3 := by have := (List.getElem?_eq_some_iff.1 hz).1; simpa using this
  rw [Dg.cell_row h, Nat.zero_add]
  have : i = 0 ∨ i = 1 ∨ i = 2 := by omega
  rcases this with rfl | rfl | rfl <;> (cases hz; rfl)

/-- What lives knows. -/
structure LvS (w : World) (v : Value) (p : Nat) (W : World) : Prop where
  bel : Below w.heap.size w W
  rd : RdIt W v iTwo
  tab : Dg.Tab W
  box : W.heap[p]? = some (.cells #[v] 24 (0, 0))
  n : RF W (.slice (some ⟨p + 1, 0, none⟩) 3 3) lN
  o : RF W (.slice (some ⟨p + 1 + 1, 0, none⟩) 3 3) lO
  b : RF W (.slice (some ⟨p + 1 + 1 + 1, 0, none⟩) 3 3) lB
  k : RF W (.slice (some ⟨p + 1 + 1 + 1 + 1, 0, none⟩) 3 3) lK

theorem LvS.later {w : World} {v : Value} {p : Nat} {W W' : World} (h : LvS w v p W) (hb : Below W.heap.size W W') : LvS w v p W' :=
  ⟨h.bel.trans (hb.mono h.bel.size), h.rd.later hb, h.tab.later hb, (hb.block _ (Array.getElem?_eq_some_iff.1 h.box).1).trans h.box, h.n.later hb, h.o.later hb, h.b.later hb, h.k.later hb⟩

theorem LvS.pf {w : World} {v : Value} {p : Nat} {W : World} (h : LvS w v p W) {lv : Value} {l : List Fa} (hl : RF W lv l) (h3 : l.length ≤ 1000) : PF iTwo l v lv W :=
  ⟨h.rd, fairI_two, h.tab, hl, by decide, by omega⟩

theorem five (w : World) (o0 o1 o2 o3 o4 : Obj) :
    let W := ((((w.alloc o0).alloc o1).alloc o2).alloc o3).alloc o4
    W.heap[w.heap.size]? = some o0 ∧ W.heap[w.heap.size + 1]? = some o1 ∧ W.heap[w.heap.size + 1 + 1]? = some o2 ∧ W.heap[w.heap.size + 1 + 1 + 1]? = some o3 ∧ W.heap[w.heap.size + 1 + 1 + 1 + 1]? = some o4 ∧ Below w.heap.size w W := by
  refine ⟨?_, ?_, ?_, ?_, ?_, ?_⟩
  · exact old1 (old1 (old1 (old1 (new1 w o0 _ rfl) _) _) _) _
  · exact old1 (old1 (old1 (new1 _ o1 _ (by simp)) _) _) _
  · exact old1 (old1 (new1 _ o2 _ (by simp)) _) _
  · exact old1 (new1 _ o3 _ (by simp)) _
  · exact new1 _ o4 _ (by simp)
  · exact (((((Below.refl _ w).alloc (Nat.le_refl _) _).alloc (by simp) _).alloc (by simp; omega) _).alloc (by simp; omega) _).alloc (by simp; omega) _

set_option maxHeartbeats 8000000 in
theorem lives_any (w : World) (hT : Dg.Tab w) : Calls Tryz.prog 8 #[] w fun e w' => e = .returned (.bool true) ∧ Below w.heap.size w w' := by
  have HE : Hid _ := either_any w hT
  have HT : Hid (Dg.Tab w) := hT
  obtain ⟨C, HCC, hmk0⟩ := make_facts 3 (by omega)
  have hmk : ∀ wx : World, (Instr.makeSlice 25 (.int .i64 3) (.int .i64 3)).run Tryz.prog wx = .ok (.slice (some ⟨wx.heap.size, 0, none⟩) 3 3) (wx.alloc (.cells C 65)) := hmk0
  clear hT hmk0
  go_enter Tryz.func8, Tryz.ntmps8
  go_wp2_with fail
  refine Calls.mono HE.out ?_
  rintro e w1 ⟨hb1, v, rfl, hrd⟩
  obtain ⟨ia, ic, rfl, _⟩ := id hrd
  obtain ⟨q0, q1, q2, q3, q4, hb2⟩ := five w1 (.cells #[.slice ia iTwo.length ic] 24) (.cells C 65) (.cells #[.int .i64 0, .int .i64 0, .int .i64 0, .bool false, .int .i64 3, .int .i64 0, .int .i64 0, .bool false, .int .i64 0, .int .i64 0, .int .i64 0, .bool false] 65) (.cells #[.int .i64 0, .int .i64 0, .int .i64 0, .bool false, .int .i64 3, .int .i64 0, .int .i64 0, .bool false, .int .i64 3, .int .i64 0, .int .i64 0, .bool false] 65) (.cells #[.int .i64 0, .int .i64 0, .int .i64 0, .bool false, .int .i64 3, .int .i64 0, .int .i64 0, .bool false, .int .i64 2, .int .i64 0, .int .i64 0, .bool false] 65)
  rw [HCC.out] at q1
  have HL0 : Hid (LvS w (.slice ia iTwo.length ic) w1.heap.size (((((w1.alloc (.cells #[.slice ia iTwo.length ic] 24)).alloc (.cells C 65)).alloc (.cells #[.int .i64 0, .int .i64 0, .int .i64 0, .bool false, .int .i64 3, .int .i64 0, .int .i64 0, .bool false, .int .i64 0, .int .i64 0, .int .i64 0, .bool false] 65)).alloc (.cells #[.int .i64 0, .int .i64 0, .int .i64 0, .bool false, .int .i64 3, .int .i64 0, .int .i64 0, .bool false, .int .i64 3, .int .i64 0, .int .i64 0, .bool false] 65)).alloc (.cells #[.int .i64 0, .int .i64 0, .int .i64 0, .bool false, .int .i64 3, .int .i64 0, .int .i64 0, .bool false, .int .i64 2, .int .i64 0, .int .i64 0, .bool false] 65))) := ⟨hb1.trans (hb2.mono hb1.size), hrd.later hb2, Dg.Tab.later (Dg.Tab.later HT.out hb1) hb2, q0, by rw [HCC.out]; exact RF.three q1, RF.three q2, RF.three q3, RF.three q4⟩
  clear HE hb1 hrd q0 q1 q2 q3 q4 hb2
  go_wp2_with fail
  generalize ((((w1.alloc (.cells #[.slice ia iTwo.length ic] 24)).alloc (.cells C 65)).alloc (.cells #[.int .i64 0, .int .i64 0, .int .i64 0, .bool false, .int .i64 3, .int .i64 0, .int .i64 0, .bool false, .int .i64 0, .int .i64 0, .int .i64 0, .bool false] 65)).alloc (.cells #[.int .i64 0, .int .i64 0, .int .i64 0, .bool false, .int .i64 3, .int .i64 0, .int .i64 0, .bool false, .int .i64 3, .int .i64 0, .int .i64 0, .bool false] 65)).alloc (.cells #[.int .i64 0, .int .i64 0, .int .i64 0, .bool false, .int .i64 3, .int .i64 0, .int .i64 0, .bool false, .int .i64 2, .int .i64 0, .int .i64 0, .bool false] 65) = w2 at *
  generalize w1.heap.size = p at *
  generalize iTwo.length = n3 at *
  have HAN : Hid (∀ W, LvS w (.slice ia n3 ic) p W → Calls Tryz.prog 9 #[.agg #[.slice ia n3 ic], .slice (some ⟨p + 1, 0, none⟩) 3 3] W fun e w' => LvS w (.slice ia n3 ic) p w' ∧ ∃ a c, e = .returned (.tuple #[.slice a 3 c, .int .i64 0]) ∧ RS w' (.slice a 3 c) [0, 0, 0]) := fun W h => Calls.mono (All_any (h.pf h.n (by decide))) (by rintro e w' ⟨hb, a, c, rfl, hr⟩; rw [allN] at hr ⊢; rw [chkN]; exact ⟨h.later hb, a, c, rfl, hr⟩)
  have HAO : Hid (∀ W, LvS w (.slice ia n3 ic) p W → Calls Tryz.prog 9 #[.agg #[.slice ia n3 ic], .slice (some ⟨p + 1 + 1, 0, none⟩) 3 3] W fun e w' => Below W.heap.size W w' ∧ ∃ a c, e = .returned (.tuple #[.slice a 3 c, .int .i64 0]) ∧ RS w' (.slice a 3 c) [1, 3, 0]) := fun W h => Calls.mono (All_any (h.pf h.o (by decide))) (by rintro e w' ⟨hb, a, c, rfl, hr⟩; rw [allO] at hr ⊢; rw [chkO]; exact ⟨hb, a, c, rfl, hr⟩)
  have HTO : Hid (∀ W, LvS w (.slice ia n3 ic) p W → Calls Tryz.prog 12 #[.agg #[.slice ia n3 ic], .slice (some ⟨p + 1 + 1, 0, none⟩) 3 3, .int .i64 0] W fun e w' => e = .returned (.int .i64 1) ∧ LvS w (.slice ia n3 ic) p w') := fun W h => Calls.mono (At_any (h.pf h.o (by decide)) 0) (by rintro e w' ⟨rfl, hb⟩; rw [atO]; exact ⟨rfl, h.later hb⟩)
  have HVB : Hid (∀ W, LvS w (.slice ia n3 ic) p W → Calls Tryz.prog 10 #[.agg #[.slice ia n3 ic], .slice (some ⟨p + 1 + 1 + 1, 0, none⟩) 3 3] W fun e w' => e = .returned (.int .i64 3) ∧ LvS w (.slice ia n3 ic) p w') := fun W h => Calls.mono (Verdict_any (h.pf h.b (by decide))) (by rintro e w' ⟨rfl, hb⟩; rw [verB]; exact ⟨rfl, h.later hb⟩)
  have HVK : Hid (∀ W, LvS w (.slice ia n3 ic) p W → Calls Tryz.prog 10 #[.agg #[.slice ia n3 ic], .slice (some ⟨p + 1 + 1 + 1 + 1, 0, none⟩) 3 3] W fun e w' => e = .returned (.int .i64 2) ∧ LvS w (.slice ia n3 ic) p w') := fun W h => Calls.mono (Verdict_any (h.pf h.k (by decide))) (by rintro e w' ⟨rfl, hb⟩; rw [verK]; exact ⟨rfl, h.later hb⟩)
  have HVN : Hid (∀ W, LvS w (.slice ia n3 ic) p W → Calls Tryz.prog 10 #[.agg #[.slice ia n3 ic], .slice (some ⟨p + 1, 0, none⟩) 3 3] W fun e w' => e = .returned (.int .i64 1) ∧ LvS w (.slice ia n3 ic) p w') := fun W h => Calls.mono (Verdict_any (h.pf h.n (by decide))) (by rintro e w' ⟨rfl, hb⟩; rw [verN]; exact ⟨rfl, h.later hb⟩)
  have HFO : Hid (∀ W, LvS w (.slice ia n3 ic) p W → Calls Tryz.prog 14 #[.agg #[.slice ia n3 ic], .slice (some ⟨p + 1 + 1, 0, none⟩) 3 3, .int .i64 0, .int .i64 0] W fun e w' => e = .returned (.bool true) ∧ LvS w (.slice ia n3 ic) p w') := fun W h => Calls.mono (Falling_any (h.pf h.o (by decide)) 0 0) (by rintro e w' ⟨rfl, hb⟩; rw [falO]; exact ⟨rfl, h.later hb⟩)
  refine Calls.mono (HAN.out _ HL0.out) ?_
  rintro e w3 ⟨hl3, a1, c1, rfl, hr1⟩
  have HL3 : Hid _ := hl3
  have HR1 : Hid (RS w3 (.slice a1 3 c1) [0, 0, 0]) := hr1
  have z3 := (Dg.cell_row hl3.box 0).trans rfl
  clear hl3 hr1 HL0 HAN hmk HCC
  go_wp2_with fail
  refine Calls.mono (HAO.out _ HL3.out) ?_
  rintro e w4 ⟨hb4, a2, c2, rfl, hr2⟩
  have HL4 : Hid _ := HL3.out.later hb4
  have HR14 : Hid (RS w4 (.slice a1 3 c1) [0, 0, 0]) := RS.later HR1.out hb4
  have HR2 : Hid (RS w4 (.slice a2 3 c2) [1, 3, 0]) := hr2
  have z4 := (Dg.cell_row HL4.out.box 0).trans rfl
  clear hb4 hr2 HR1 HL3 HAO z3
  have hb5 := bl1 w4 (.cells #[.int .i64 0, .int .i64 0, .int .i64 0] 32)
  have HL5 : Hid _ := HL4.out.later hb5
  have HR25 : Hid (RS _ (.slice a2 3 c2) [1, 3, 0]) := RS.later HR2.out hb5
  have HI1 : Hid _ := is_any [0, 0, 0] _ _ _ (RS.later HR14.out hb5) (RS.three (Dg.row_new w4 #[.int .i64 0, .int .i64 0, .int .i64 0] 32)) (by decide) (by decide)
  clear hb5
  go_wp2_with fail
  refine Calls.mono HI1.out ?_
  rintro e w6 ⟨rfl, hb6⟩
  have HL6 : Hid _ := HL5.out.later hb6
  have HR26 : Hid (RS w6 (.slice a2 3 c2) [1, 3, 0]) := RS.later HR25.out hb6
  clear hb6 HI1 HL5 HR25 z4 HR14 HR2 HL4
  have hb7 := bl1 w6 (.cells #[.int .i64 1, .int .i64 3, .int .i64 0] 32)
  have HL7 : Hid _ := HL6.out.later hb7
  have HI2 : Hid _ := is_any [1, 3, 0] _ _ _ (RS.later HR26.out hb7) (RS.three (Dg.row_new w6 #[.int .i64 1, .int .i64 3, .int .i64 0] 32)) (by decide) (by decide)
  clear hb7
  go_wp2_with fail
  refine Calls.mono HI2.out ?_
  rintro e w8 ⟨rfl, hb8⟩
  have HL8 : Hid _ := HL7.out.later hb8
  have z8 := (Dg.cell_row HL8.out.box 0).trans rfl
  clear hb8 HI2 HL7 HR26 HL6
  go_wp2_with fail
  refine Calls.mono (HTO.out _ HL8.out) ?_
  rintro e w9 ⟨rfl, hl9⟩
  have HL9 : Hid _ := hl9
  have z9 := (Dg.cell_row hl9.box 0).trans rfl
  clear hl9 z8 HL8 HTO
  go_wp2_with fail
  refine Calls.mono (HVB.out _ HL9.out) ?_
  rintro e w10 ⟨rfl, hl10⟩
  have HL10 : Hid _ := hl10
  have z10 := (Dg.cell_row hl10.box 0).trans rfl
  clear hl10 z9 HL9 HVB
  go_wp2_with fail
  refine Calls.mono (HVK.out _ HL10.out) ?_
  rintro e w11 ⟨rfl, hl11⟩
  have HL11 : Hid _ := hl11
  have z11 := (Dg.cell_row hl11.box 0).trans rfl
  clear hl11 z10 HL10 HVK
  go_wp2_with fail
  refine Calls.mono (HVN.out _ HL11.out) ?_
  rintro e w12 ⟨rfl, hl12⟩
  have HL12 : Hid _ := hl12
  have z12 := (Dg.cell_row hl12.box 0).trans rfl
  clear hl12 z11 HL11 HVN
  go_wp2_with fail
  refine Calls.mono (HFO.out _ HL12.out) ?_
  rintro e w13 ⟨rfl, hl13⟩
  have HL13 : Hid _ := hl13
  clear hl13 z12 HL12 HFO
  go_wp2_with fail
  go_ret
  exact ⟨rfl, HL13.out.bel⟩
end Go.Proofs.YtgdnlceliiekkaaGreatDoor.Sa

/- StateIdle's walk. -/
namespace Go.Proofs.YtgdnlceliiekkaaGreatDoor.Sa
open Go.RowKit Go.Shelf Go.Proofs.YtgdnlceliiekkaaGreatDoor.Fc Go.Proofs.YtgdnlceliiekkaaGreatDoor.St Go.Proofs.YtgdnlceliiekkaaGreatDoor.Sx
set_option maxRecDepth 1000000
set_option linter.unusedVariables false

/-- No facts are none of a plan of one item. -/
theorem chk_none {its : List It} (l : List Fa) (h : (sagaP its).isSome = false) : chkF its l = 2 := chkF_no fun h9 => by rw [h] at h9; exact absurd h9.1 (by decide)

theorem ok_rep {its : List It} : okL (subs its) (List.replicate its.length Fa.z) := by
  refine ⟨by unfold subs; rw [List.length_map, List.length_replicate], fun i hi => ?_⟩
  rw [List.length_replicate] at hi
  have : (List.replicate its.length Fa.z).getD i Fa.z = Fa.z := by rw [List.getD_eq_getElem?_getD, List.getElem?_replicate]; split <;> rfl
  rw [this]
  exact ⟨okF_z, fun _ => rfl⟩

theorem fOf_rep (n i : Nat) : fOf (List.replicate n Fa.z) i = Fa.z := by
  unfold fOf
  rw [List.getD_eq_getElem?_getD, List.getElem?_replicate]
  split <;> rfl

/-- With no step that began. -/
structure Idl (its : List It) : Prop where
  all : allS its (List.replicate its.length Fa.z) = List.replicate its.length 0
  cle : ∀ i : Nat, i < its.length → cleS its (List.replicate its.length Fa.z) i = true
  at1 : ∀ (i : Nat) (x : It), its[i]? = some x → x.sub = true → atS its (List.replicate its.length Fa.z) i = 0
  fal : ∀ (i : Nat) (x : It), its[i]? = some x → x.sub = true → falS its (List.replicate its.length Fa.z) i 0 = false
  at0 : ∀ (i : Nat) (x : It), its[i]? = some x → x.sub = false → atS its (List.replicate its.length Fa.z) i = -1
  ver : verS its (List.replicate its.length Fa.z) = 1

theorem idle_of {its : List It} (h : (sagaP its).isSome = true) : Idl its := by
  have hc : chkF its (List.replicate its.length Fa.z) = 0 := chkF_ok h ok_rep
  obtain ⟨q, hq⟩ := Option.isSome_iff_exists.1 h
  have hp := plan_ok hq
  have hpos := (root_len h).1
  have hf : ∀ i, i < (plOf its).n → fOf (List.replicate its.length Fa.z) i = Fa.z := fun i _ => fOf_rep _ i
  have hI := fun i (hi : i < its.length) => state_idle hp hf _ i (Nat.le_refl _) hi
  have hS : ∀ i, i < its.length → St.S (plOf its) (fOf (List.replicate its.length Fa.z)) i = 0 := fun i hi => by
    unfold St.S
    split
    · unfold sagaS
      rw [if_pos (hI i hi).1]
    · rw [fOf_rep]
      rfl
  have hsub : ∀ (i : Nat) (x : It), its[i]? = some x → (plOf its).sub i = x.sub := fun i x hx => by
    show (its.getD i It.z).sub = _
    rw [getD_it hx]
  refine ⟨?_, fun i hi => ?_, fun i x hx hs => ?_, fun i x hx hs => ?_, fun i x hx hs => ?_, ?_⟩
  · unfold allS
    rw [if_pos hc]
    refine List.eq_replicate_iff.2 ⟨by rw [List.length_map, List.length_range], fun z hz => ?_⟩
    obtain ⟨i, hi, rfl⟩ := List.mem_map.1 hz
    exact hS i (List.mem_range.1 hi)
  · unfold cleS
    rw [if_pos hc, decide_eq_true ⟨by omega, by omega⟩, Int.toNat_natCast, (hI i hi).2.1]
    rfl
  · have hi := (List.getElem?_eq_some_iff.1 hx).1
    unfold atS
    rw [if_pos hc, if_pos ⟨by omega, by omega⟩, Int.toNat_natCast]
    unfold atP
    rw [hsub i x hx, hs, if_pos rfl, ((hI i hi).2.2 ((hsub i x hx).trans hs)).2.1]
    rfl
  · have hi := (List.getElem?_eq_some_iff.1 hx).1
    unfold falS
    rw [if_pos hc, Int.toNat_natCast]
    unfold Mf
    rw [idle_halted hp hf i hi, ((hI i hi).2.2 ((hsub i x hx).trans hs)).2.2]
    simp
  · have hi := (List.getElem?_eq_some_iff.1 hx).1
    unfold atS
    rw [if_pos hc, if_pos ⟨by omega, by omega⟩, Int.toNat_natCast]
    unfold atP
    rw [hsub i x hx, hs, if_neg (by decide)]
  · unfold verS
    rw [if_pos hc, hS 0 (by omega), if_pos rfl]

set_option maxHeartbeats 16000000 in
theorem idle_walk (its : List It) (v : Value) (w : World) (hT : Dg.Tab w) (hIt : RdIt w v its) (hil : its.length ≤ maxLen) (hnm : ∀ x ∈ its, x.name.length ≤ maxLen ∧ x.undo.length ≤ maxLen ∧ x.after.length ≤ maxLen) :
    Calls Tryz.prog 6 #[.agg #[v]] w fun x w' => x = .returned (.bool true) ∧ Below w.heap.size w w' := by
  have h0 : ChS w v (w.alloc (.cells #[v] 24)) := ⟨bl1 _ _, Dg.row_new w _ 24⟩
  have MS0 := small_any its v _ (hIt.later h0.bel) hil hnm
  have HIt : Hid (∀ W, Below w.heap.size w W → RdIt W v its) := fun W hb => hIt.later hb
  have HLV : Hid (∀ W, Below w.heap.size w W → Calls Tryz.prog 8 #[] W fun x w' => x = .returned (.bool true) ∧ Below W.heap.size W w') := fun W hb => lives_any W (hT.later hb)
  have HT : Hid (∀ W, Below w.heap.size w W → Dg.Tab W) := fun W hb => hT.later hb
  obtain ⟨ia, icap, rfl, hic, hir⟩ := hIt
  have HIR : Hid _ := hir
  clear hnm hir
  obtain ⟨q, HQ⟩ : ∃ q, Hid (smallI its = q) := ⟨_, rfl⟩
  rw [HQ.out] at MS0
  obtain ⟨n, HN⟩ : ∃ n, Hid (its.length = n) := ⟨_, rfl⟩
  have H0 : Hid (ChS w (.slice ia n icap) (w.alloc (.cells #[.slice ia n icap] 24))) := by show ChS _ _ _; rw [← HN.out]; exact h0
  have MS : Hid (Calls Tryz.prog 7 #[.agg #[.slice ia n icap]] (w.alloc (.cells #[.slice ia n icap] 24)) fun x w' => x = .returned (.bool q) ∧ Below (w.alloc (.cells #[.slice ia n icap] 24)).heap.size (w.alloc (.cells #[.slice ia n icap] 24)) w') := by show Calls _ _ _ _ _; rw [← HN.out]; exact MS0
  rw [HN.out] at HIt hic ⊢
  have c0 := (Dg.cell_row H0.out.box 0).trans rfl
  clear h0 MS0 hT
  go_enter Tryz.func6, Tryz.ntmps6
  go_wp2_with fail
  generalize w.alloc (.cells #[.slice ia n icap] 24) = w0 at *
  refine Calls.mono MS.out ?_
  rintro x w1 ⟨rfl, hb1⟩
  have H1 : Hid _ := H0.out.later hb1
  clear MS hb1 H0 c0
  cases q with
  | false =>
    go_wp2_with fail
    refine Calls.mono (HLV.out _ H1.out.bel) ?_
    rintro x w2 ⟨rfl, hb2⟩
    have H2 : Hid _ := H1.out.later hb2
    clear hb2
    go_wp2_with fail
    go_ret
    exact ⟨rfl, H2.out.bel⟩
  | true =>
    obtain ⟨hfair, h70⟩ := small_fair HQ.out
    rw [HN.out] at h70
    have HFA : Hid _ := hfair
    have z1 := (Dg.cell_row H1.out.box 0).trans rfl
    have HNO : Hid _ := noneF_any its (.slice ia n icap) w1 (HIt.out _ H1.out.bel) hfair (HT.out _ H1.out.bel)
    have HPF : Hid (∀ W lv l, Below w.heap.size w W → RF W lv l → l.length ≤ 1000 → PF its l (.slice ia n icap) lv W) := fun W lv l hb hr h3 => ⟨HIt.out W hb, HFA.out, HT.out W hb, hr, by rw [HN.out]; omega, by omega⟩
    clear hfair
    go_wp2_with fail
    refine Calls.mono HNO.out ?_
    rintro x w2 ⟨hb2, hx⟩
    have H2 : Hid _ := H1.out.later hb2
    clear hb2 HNO z1
    cases hP : (sagaP its).isSome with
    | false =>
      rw [hP] at hx
      obtain rfl : x = .returned (.slice none 0 0) := hx
      have hr0 : RF w2 (.slice none 0 0) [] := ⟨none, 0, rfl, by simp, by unfold maxLen; omega, fun i f h => by cases h⟩
      have HA : Hid (Calls Tryz.prog 9 #[.agg #[.slice ia n icap], .slice none 0 0] w2 fun e w' => Below w2.heap.size w2 w' ∧ ∃ a c, e = .returned (.tuple #[.slice a 0 c, .int .i64 2])) := Calls.mono (All_any (HPF.out w2 _ _ H2.out.bel hr0 (by simp))) (by
        rintro e w' ⟨hb, a, c, rfl, hr⟩
        have h9 := chk_none [] hP
        have h8 : allS its [] = [] := by unfold allS; rw [if_neg (by rw [h9]; decide)]
        rw [h8, h9]
        exact ⟨hb, a, c, rfl⟩)
      have z2 := (Dg.cell_row H2.out.box 0).trans rfl
      clear hP hr0
      go_wp2_with fail
      refine Calls.mono HA.out ?_
      rintro x w3 ⟨hb3, a3, c3, rfl⟩
      have H3 : Hid _ := H2.out.later hb3
      clear hb3 HA z2
      go_wp2_with fail
      refine Calls.mono (HLV.out _ H3.out.bel) ?_
      rintro x w4 ⟨rfl, hb4⟩
      have H4 : Hid _ := H3.out.later hb4
      clear hb4
      go_wp2_with fail
      go_ret
      exact ⟨rfl, H4.out.bel⟩
    | true =>
      rw [hP] at hx
      obtain ⟨g, rfl, hof⟩ := hx
      have hid := idle_of hP
      have hpos := (root_len hP).1
      have h64 := (root_len hP).2
      rw [HN.out] at hpos h64
      have HIDL : Hid _ := hid
      have HL : Hid (∀ W, Below w2.heap.size w2 W → RF W (.slice (some ⟨g, 0, none⟩) n n) (List.replicate its.length Fa.z)) := fun W hb => by
        have h9 := hof.rf
        rw [HN.out] at h9 ⊢
        exact h9.later hb
      have HPF2 : Hid (∀ W, Below w2.heap.size w2 W → PF its (List.replicate its.length Fa.z) (.slice ia n icap) (.slice (some ⟨g, 0, none⟩) n n) W) := fun W hb => HPF.out W _ _ (H2.out.bel.trans (hb.mono H2.out.bel.size)) (HL.out W hb) (by rw [List.length_replicate, HN.out]; omega)
      have HA : Hid (Calls Tryz.prog 9 #[.agg #[.slice ia n icap], .slice (some ⟨g, 0, none⟩) n n] w2 fun e w' => Below w2.heap.size w2 w' ∧ ∃ a c, e = .returned (.tuple #[.slice a n c, .int .i64 0]) ∧ n ≤ c ∧ ∀ i, i < n → ∃ b off, a = some ⟨b, off, none⟩ ∧ w'.cell? ⟨b, off + i, none⟩ = some (.int .i64 0)) := Calls.mono (All_any (HPF2.out w2 (Below.refl _ _))) (by
        rintro e w' ⟨hb, a, c, rfl, hr⟩
        rw [HIDL.out.all, List.length_replicate] at hr ⊢
        rw [chkF_ok hP ok_rep, HN.out]
        rw [HN.out] at hr
        refine ⟨hb, a, c, rfl, ?_⟩
        obtain ⟨a', c', e', hc', hr'⟩ := hr
        rw [List.length_replicate] at e' hc'
        cases e'
        exact ⟨hc', fun i hi => hr' i 0 (by rw [List.getElem?_replicate, if_pos hi])⟩)
      have z2 := (Dg.cell_row H2.out.box 0).trans rfl
      have hn0 : ((n : Int) == 0) = false := by simp; omega
      rw [HN.out]
      clear hP hof hid
      go_wp2_with fail
      refine Calls.mono HA.out ?_
      rintro x w3 ⟨hb3, a3, c3, rfl, hc3, hs3⟩
      have HB3 : Hid _ := hb3
      have HS3 : Hid _ := hs3
      clear hb3 HA z2 hs3
      go_wp2_with fail
      go_loopw [6] (fun iv wr => ∃ (k : Nat), k ≤ n ∧ iv = .int .i64 k ∧ Hid (Below w3.heap.size w3 wr)) (fun iv _ => n - (intOf iv).toNat)
      case atStart => exact ⟨0, Nat.zero_le _, by go_num, Below.refl _ _⟩
      case round =>
        obtain ⟨k, hk, rfl, HW⟩ := hrel
        rename World => wr
        have HBW : Hid (Below w2.heap.size w2 wr) := HB3.out.trans (HW.out.mono HB3.out.size)
        have HR : Hid _ := H2.out.later HBW.out
        have zr := (Dg.cell_row HR.out.box 0).trans rfl
        by_cases hlt : k < n
        rotate_left
        · have hnn : ((n : Int) == (n : Int)) = true := by simp
          have HV : Hid (Calls Tryz.prog 10 #[.agg #[.slice ia n icap], .slice (some ⟨g, 0, none⟩) n n] wr fun e w' => e = .returned (.int .i64 1) ∧ Below wr.heap.size wr w') := Calls.mono (Verdict_any (HPF2.out wr HBW.out)) (by rintro e w' ⟨rfl, hb⟩; rw [HIDL.out.ver]; exact ⟨rfl, hb⟩)
          go_wp2_with fail
          refine Calls.mono HV.out ?_
          rintro x w5 ⟨rfl, hb5⟩
          have H5 : Hid _ := HR.out.later hb5
          clear hb5 HV
          go_wp2_with fail
          refine Calls.mono (HLV.out _ H5.out.bel) ?_
          rintro x w6 ⟨rfl, hb6⟩
          have H6 : Hid _ := H5.out.later hb6
          clear hb6
          go_wp2_with fail
          go_ret
          exact ⟨rfl, H6.out.bel⟩
        · obtain ⟨y, hy⟩ : ∃ y, its[k]? = some y := ⟨_, List.getElem?_eq_getElem (by rw [HN.out]; exact hlt)⟩
          obtain ⟨sb, so, rfl, sc⟩ := HS3.out k hlt
          have s0 := Dg.cell_later HW.out sc
          obtain ⟨xb, xo, xav, xam, xac, rfl, k0, k1, k2, k3, k4, k5, k6, k7, _⟩ := HIR.out k y hy
          have HK2 : Hid _ := k2
          have HCL : Hid (Calls Tryz.prog 11 #[.agg #[.slice (some ⟨xb, xo, none⟩) n icap], .slice (some ⟨g, 0, none⟩) n n, .int .i64 (k : Int)] wr fun e w' => e = .returned (.bool true) ∧ Below wr.heap.size wr w') := Calls.mono (Clean_any (HPF2.out wr HBW.out) k) (by rintro e w' ⟨rfl, hb⟩; rw [HIDL.out.cle k (by rw [HN.out]; exact hlt)]; exact ⟨rfl, hb⟩)
          have hii : (k : Int) < (n : Int) := by omega
          clear k0 k1 k2 k3 k4 k5 k6 k7 sc
          go_wp2_with fail
          refine Calls.mono HCL.out ?_
          rintro x w5 ⟨rfl, hb5⟩
          have HB5 : Hid (Below w3.heap.size w3 w5) := HW.out.trans (hb5.mono HW.out.size)
          have HB25 : Hid (Below w2.heap.size w2 w5) := HBW.out.trans (hb5.mono HBW.out.size)
          have H5 : Hid _ := HR.out.later hb5
          have z5 := (Dg.cell_row H5.out.box 0).trans rfl
          have m5 := Dg.cell_later H5.out.bel HK2.out
          clear hb5 HCL zr s0 HR HBW
          cases hsub : y.sub with
          | true =>
            rw [hsub] at m5
            have HAT : Hid (Calls Tryz.prog 12 #[.agg #[.slice (some ⟨xb, xo, none⟩) n icap], .slice (some ⟨g, 0, none⟩) n n, .int .i64 (k : Int)] w5 fun e w' => e = .returned (.int .i64 0) ∧ Below w5.heap.size w5 w') := Calls.mono (At_any (HPF2.out w5 HB25.out) k) (by rintro e w' ⟨rfl, hb⟩; rw [HIDL.out.at1 k y hy hsub]; exact ⟨rfl, hb⟩)
            have HFL : Hid (∀ W, Below w2.heap.size w2 W → Calls Tryz.prog 14 #[.agg #[.slice (some ⟨xb, xo, none⟩) n icap], .slice (some ⟨g, 0, none⟩) n n, .int .i64 (k : Int), .int .i64 0] W fun e w' => e = .returned (.bool false) ∧ Below W.heap.size W w') := fun W hb => Calls.mono (Falling_any (HPF2.out W hb) k 0) (by rintro e w' ⟨rfl, hb⟩; rw [HIDL.out.fal k y hy hsub]; exact ⟨rfl, hb⟩)
            clear hsub hy
            go_wp2_with fail
            refine Calls.mono HAT.out ?_
            rintro x w6 ⟨rfl, hb6⟩
            have HB6 : Hid (Below w3.heap.size w3 w6) := HB5.out.trans (hb6.mono HB5.out.size)
            have HB26 : Hid (Below w2.heap.size w2 w6) := HB25.out.trans (hb6.mono HB25.out.size)
            have H6 : Hid _ := H5.out.later hb6
            have z6 := (Dg.cell_row H6.out.box 0).trans rfl
            have m6 := Dg.cell_later hb6 m5
            clear hb6 HAT z5 m5 H5 HB5 HB25
            go_wp2_with fail
            refine Calls.mono (HFL.out _ HB26.out) ?_
            rintro x w7 ⟨rfl, hb7⟩
            have HB7 : Hid (Below w3.heap.size w3 w7) := HB6.out.trans (hb7.mono HB6.out.size)
            have H7 : Hid _ := H6.out.later hb7
            have z7 := (Dg.cell_row H7.out.box 0).trans rfl
            have m7 := Dg.cell_later hb7 m6
            clear hb7 HFL z6 m6 H6 HB6 HB26
            go_wp2_with fail
            go_roundw
            case rel => exact ⟨k + 1, by omega, by go_num, HB7⟩
            case measure => simp [intOf] <;> omega
          | false =>
            rw [hsub] at m5
            have HAT : Hid (Calls Tryz.prog 12 #[.agg #[.slice (some ⟨xb, xo, none⟩) n icap], .slice (some ⟨g, 0, none⟩) n n, .int .i64 (k : Int)] w5 fun e w' => e = .returned (.int .i64 (-1)) ∧ Below w5.heap.size w5 w') := Calls.mono (At_any (HPF2.out w5 HB25.out) k) (by rintro e w' ⟨rfl, hb⟩; rw [HIDL.out.at0 k y hy hsub]; exact ⟨rfl, hb⟩)
            clear hsub hy
            go_wp2_with fail
            refine Calls.mono HAT.out ?_
            rintro x w6 ⟨rfl, hb6⟩
            have HB6 : Hid (Below w3.heap.size w3 w6) := HB5.out.trans (hb6.mono HB5.out.size)
            clear hb6 HAT z5 m5 H5 HB5 HB25
            go_wp2_with fail
            go_roundw
            case rel => exact ⟨k + 1, by omega, by go_num, HB6⟩
            case measure => simp [intOf] <;> omega
end Go.Proofs.YtgdnlceliiekkaaGreatDoor.Sa

