/- Texts of the seat, packed: Lu. -/
import Derived.Test.YtgdnlceliiekkaaGreatDoorP45
import Derived.Test.YtgdnlceliiekkaaGreatDoorP47
import Derived.Laws.AppendOwnNone
/- Statuses and boards that are new; facts appended. -/
namespace Go.Proofs.YtgdnlceliiekkaaGreatDoor.Sa
open Go.RowKit Go.Shelf Go.Proofs.YtgdnlceliiekkaaGreatDoor.Fc Go.Proofs.YtgdnlceliiekkaaGreatDoor.St Go.Proofs.YtgdnlceliiekkaaGreatDoor.Sx
set_option maxRecDepth 1000000
set_option linter.unusedVariables false

/-- A row lies in a new block. -/
def Frs (B : Nat) (a : Option Addr) : Prop := ∀ b o, a = some ⟨b, o, none⟩ → B ≤ b

set_option maxHeartbeats 1000000 in
theorem cloneS2_any (l : List Int) (w : World) (d off n cap : Nat) (hN : l.length = n) (h0 : 0 < n) (hn : n ≤ 1000000) (hc : n ≤ cap) (hcap : cap ≤ 1000000) (hl : ∀ (i : Nat) (z : Int), l[i]? = some z → w.cell? ⟨d, off + i, none⟩ = some (.int .i64 z)) :
    Calls Tryz.prog 28 #[.slice (some ⟨d, off, none⟩) n cap] w fun e w' => Below w.heap.size w w' ∧ ∃ a c, e = .returned (.slice a n c) ∧ RS w' (.slice a n c) l ∧ Frs w.heap.size a := by
  obtain ⟨i0, hi0, hz0, hz1, hz2⟩ := info_parts info32
  have HNews : Hid (∀ j u, (rowS l)[j]? = some u → (w.alloc (.cells #[] 32)).cell? ((⟨d, off, none⟩ : Addr).add j) = some u) := fun j u hu => by
    have hj : j < l.length := by rw [← rowS_len]; exact (List.getElem?_eq_some_iff.1 hu).1
    obtain ⟨z, hz⟩ : ∃ z, l[j]? = some z := ⟨_, List.getElem?_eq_getElem hj⟩
    rw [rowS_get hz] at hu
    cases hu
    have h7 : (⟨d, off, none⟩ : Addr).add j = ⟨d, off + j, none⟩ := by unfold Addr.add; split <;> simp_all
    rw [h7]
    exact Dg.cell_later (bl1 _ _) (hl j z hz)
  have HOwn : Hid ((w.alloc (.cells #[] 32)).ownsRow w.heap.size 32 1 (.slice (some ⟨w.heap.size, 0, none⟩) 0 0) 0 []) :=
    ⟨rfl, .inr ⟨w.heap.size, 0, #[], rfl, Nat.le_refl _, Dg.row_new _ _ _, Nat.le_refl _, Nat.zero_le _, rfl, rfl⟩⟩
  have HLn : Hid ((rowS l).length = n * 1) := by show _ = _; rw [rowS_len, hN, Nat.mul_one]
  have HOne : Hid (∀ u ∈ rowS l, u.oneCell' = true) := rowS_one l
  have HN : Hid _ := hN
  clear hl hN
  have hE : ∀ w, (binOp .eql 28 (.slice (some ⟨d, off, none⟩) n cap) (.slice none 0 0)).run Tryz.prog w = .ok (.bool false) w := fun w => Lib.run_eql_slice_nil w 28 32 (some ⟨d, off, none⟩) n cap 0 0 Tryz.underlying28
  go_enter Tryz.func28, Tryz.ntmps28
  go_wp2_with (at_builtin; refine wpList_append_own_at _ rfl _ _ 28 rfl w.heap.size 32 i0 _ 1 8 Tryz.underlying28 hi0 hz0 hz1 hz2 rfl (by decide) _ 0 [] rfl HOwn.out ⟨d, off, none⟩ n cap (rowS l) rfl HLn.out HNews.out HOne.out (by unfold maxLen; omega) (by omega) (by simp) ?_; intro v7 w7 ho7 hg7 _ hat7)
  have HB7 : Hid (Below w.heap.size w w7) := Below.grown ((Below.refl _ _).alloc (Nat.le_refl _) _) hg7 (by simp) (fun k hk => (HOwn.out.lt _ hk).1)
  have HF : Hid (w7.ownsRow w.heap.size 32 1 v7 n (rowS l)) := by
    have h := ho7
    rw [Nat.zero_add, List.nil_append] at h
    exact h
  clear ho7 hg7 hat7
  go_wp2_with fail
  go_ret
  have hl := HF.out
  rcases HF.out.2 with ⟨_, h9⟩ | ⟨g, cap', cur, rfl, hB9, _, q1, q2, _⟩
  · omega
  · refine ⟨HB7.out, _, cap', rfl, ⟨_, cap', by rw [HN.out], by rw [HN.out]; exact q1, fun i z hz => ⟨g, 0, rfl, ?_⟩⟩, fun b o h => by cases h; exact hB9⟩
    have hi : i < l.length := (List.getElem?_eq_some_iff.1 hz).1
    have := hl.cellAt i (by rw [HN.out] at hi; omega)
    rw [Nat.zero_add, this, rowS_get hz]


set_option maxHeartbeats 2000000 in
theorem bAll2_any {w : World} {v : Value} {o : Option Bo} (h : RB w v o) : Calls Tryz.prog 15 #[v] w fun e w' => Below w.heap.size w w' ∧ ∃ a c, e = .returned (.slice a (o.getD Bo.z).c c) ∧ RS w' (.slice a (o.getD Bo.z).c c) (o.getD Bo.z).all ∧ Frs w.heap.size a := by
  have HM : Hid _ := made_any h
  by_cases hc : (o.getD Bo.z).c = 0
  · have hd : decide (0 < (o.getD Bo.z).c) = false := decide_eq_false (by omega)
    rw [hd] at HM
    have HE : Hid (∀ w', RS w' (.slice none (o.getD Bo.z).c 0) (o.getD Bo.z).all) := fun w' => by
      have : (o.getD Bo.z).all = [] := by unfold Bo.all; rw [hc]; rfl
      rw [this, hc]
      exact ⟨none, 0, rfl, by simp, fun i z hz => by cases hz⟩
    have HC : Hid _ := hc
    clear hd hc h
    go_enter Tryz.func15, Tryz.ntmps15
    go_wp2_with fail
    refine Calls.mono HM.out ?_
    rintro e w2 ⟨rfl, hb2⟩
    have HB2 : Hid _ := hb2
    clear HM hb2
    go_wp2_with fail
    go_ret
    exact ⟨HB2.out, none, 0, by rw [HC.out]; rfl, HE.out w2, fun b o h => by cases h⟩
  · have hd : decide (0 < (o.getD Bo.z).c) = true := decide_eq_true (by omega)
    rw [hd] at HM
    cases o with
    | none => exact absurd rfl hc
    | some B =>
      obtain ⟨d, rfl, h1, h2⟩ := h
      show Calls _ _ _ _ fun e w' => Below w.heap.size w w' ∧ ∃ a c, e = .returned (.slice a B.c c) ∧ RS w' (.slice a B.c c) B.all ∧ Frs w.heap.size a
      have hpos : 0 < B.c := by have : ¬ B.c = 0 := hc; omega
      have HCL : Hid (∀ wx, Below w.heap.size w wx → Calls Tryz.prog 28 #[.slice (some ⟨d, 1, none⟩) B.c 64] wx fun e w' => ∃ z : Option Addr × Nat, e = .returned (.slice z.1 B.c z.2) ∧ Below w.heap.size w w' ∧ RS w' (.slice z.1 B.c z.2) B.all ∧ Frs w.heap.size z.1) := fun wx hb => by
        have hl : B.all.length = B.c := by unfold Bo.all; rw [List.length_map, List.length_range]
        refine Calls.mono (cloneS2_any B.all wx d 1 B.c 64 hl hpos (by omega) h1 (by omega) (fun i z hz => ?_)) (by rintro e w' ⟨hb', a, c, rfl, hr, hf⟩; exact ⟨(a, c), rfl, hb.trans (hb'.mono hb.size), hr, fun b o h => Nat.le_trans hb.size (hf b o h)⟩)
        unfold Bo.all at hz
        rw [List.getElem?_map] at hz
        have hi : i < B.c := by
          apply Classical.byContradiction
          intro h9
          rw [List.getElem?_eq_none (by simp; omega)] at hz
          cases hz
        rw [List.getElem?_range hi] at hz
        cases hz
        exact Dg.cell_later hb (brd_cellS h2 (by omega))
      have HC0 : Hid _ := brd_cell0 h2
      clear h2 hc hd
      generalize B.all = L at *
      generalize B.c = c at *
      go_enter Tryz.func15, Tryz.ntmps15
      go_wp2_with fail
      refine Calls.mono HM.out ?_
      rintro e w2 ⟨rfl, hb2⟩
      have HB2 : Hid _ := hb2
      clear HM hb2
      go_wp2_with fail
      have hCUR : Below w.heap.size w w2.drew := HB2.out.trans ((Below.refl _ _).drew.mono HB2.out.size)
      have hS0 := hCUR
      refine region_thenG (β := Option Addr × Nat) (fun z => [(6, .pointer (some ⟨d, 0, none⟩)), (7, .pointer (some ⟨d, 0, none⟩)), (8, .pointer (some ⟨d, 1, none⟩)), (9, .pointer (some ⟨d, 0, none⟩)), (10, .pointer (some ⟨d, 0, none⟩)), (11, .pointer (some ⟨d, 0, none⟩)), (12, .int .i64 (c : Int)), (13, .slice (some ⟨d, 1, none⟩) c 64), (14, .slice z.1 c z.2), (2, .slice z.1 c z.2)]) (fun z w' => Below w.heap.size w w' ∧ RS w' (.slice z.1 c z.2) L ∧ Frs w.heap.size z.1) ?_ ?_
      · refine wp_region_held (S := fun w' => Below w.heap.size w w') (by kernel_rfl) ?_
        simp only [List.size_toArray, List.length_cons, List.length_nil, Nat.reduceAdd, Array.replicate_succ, Array.replicate_zero, List.push_toArray, List.nil_append, List.cons_append]
        refine takeD (i := 0) (d := 6) (v := .pointer (some ⟨d, 0, none⟩)) (fuel := 9) rfl rfl (by kernel_rfl) (by kernel_rfl) (by kernel_rfl) (fun _ _ _ h => by cases h.1) (.inl ⟨by kernel_rfl, fun _ _ => by kernel_rfl⟩) hS0 ?_
        simp only [List.setIfInBounds_toArray, List.set_cons_succ, List.set_cons_zero]
        refine takeD (i := 1) (d := 7) (v := .pointer (some ⟨d, 0, none⟩)) (fuel := 8) rfl rfl (by kernel_rfl) (by kernel_rfl) (by kernel_rfl) (fun _ _ _ h => by cases h.1) (.inl ⟨by kernel_rfl, fun _ _ => by go_simp⟩) hS0 ?_
        simp only [List.setIfInBounds_toArray, List.set_cons_succ, List.set_cons_zero]
        refine takeD (i := 2) (d := 8) (v := .pointer (some ⟨d, 1, none⟩)) (fuel := 7) rfl rfl (by kernel_rfl) (by kernel_rfl) (by kernel_rfl) (fun _ _ _ h => by cases h.1) (.inl ⟨by kernel_rfl, fun _ _ => by go_simp⟩) hS0 ?_
        simp only [List.setIfInBounds_toArray, List.set_cons_succ, List.set_cons_zero]
        refine takeD (i := 3) (d := 9) (v := .pointer (some ⟨d, 0, none⟩)) (fuel := 6) rfl rfl (by kernel_rfl) (by kernel_rfl) (by kernel_rfl) (fun _ _ _ h => by cases h.1) (.inl ⟨by kernel_rfl, fun _ _ => by kernel_rfl⟩) hS0 ?_
        simp only [List.setIfInBounds_toArray, List.set_cons_succ, List.set_cons_zero]
        refine takeD (i := 4) (d := 10) (v := .pointer (some ⟨d, 0, none⟩)) (fuel := 5) rfl rfl (by kernel_rfl) (by kernel_rfl) (by kernel_rfl) (fun _ _ _ h => by cases h.1) (.inl ⟨by kernel_rfl, fun _ _ => by go_simp⟩) hS0 ?_
        simp only [List.setIfInBounds_toArray, List.set_cons_succ, List.set_cons_zero]
        refine takeD (i := 5) (d := 11) (v := .pointer (some ⟨d, 0, none⟩)) (fuel := 4) rfl rfl (by kernel_rfl) (by kernel_rfl) (by kernel_rfl) (fun _ _ _ h => by cases h.1) (.inl ⟨by kernel_rfl, fun _ _ => by go_simp⟩) hS0 ?_
        simp only [List.setIfInBounds_toArray, List.set_cons_succ, List.set_cons_zero]
        refine takeD (i := 6) (d := 12) (v := .int .i64 (c : Int)) (fuel := 3) rfl rfl (by kernel_rfl) (by kernel_rfl) (by kernel_rfl) (fun _ _ _ h => by cases h.1) (.inl ⟨by kernel_rfl, fun wx h => by have z0 := Dg.cell_later h HC0.out; go_simp⟩) hS0 ?_
        simp only [List.setIfInBounds_toArray, List.set_cons_succ, List.set_cons_zero]
        refine takeD (i := 7) (d := 13) (v := .slice (some ⟨d, 1, none⟩) c 64) (fuel := 2) rfl rfl (by kernel_rfl) (by kernel_rfl) (by kernel_rfl) (fun _ _ _ h => by cases h.1) (.inl ⟨by kernel_rfl, fun wx h => by have h9 := slice47 wx d c h1; go_simp⟩) hS0 ?_
        simp only [List.setIfInBounds_toArray, List.set_cons_succ, List.set_cons_zero]
        refine oneX (β := Option Addr × Nat) (V := fun z => .slice z.1 c z.2) (R := fun z w' => Below w.heap.size w w' ∧ RS w' (.slice z.1 c z.2) L ∧ Frs w.heap.size z.1) (i := 8) (d := 14) (f := 28) (args := #[.slice (some ⟨d, 1, none⟩) c 64]) (fuel := 1) rfl rfl (by kernel_rfl) (by kernel_rfl) (fun _ => by kernel_rfl) (HCL.out _ hCUR) (fun z w' h => h.1) (fun z wz hR8 => ?_)
        simp only [List.setIfInBounds_toArray, List.set_cons_succ, List.set_cons_zero]
        refine takeD (i := 9) (d := 2) (v := .slice z.1 c z.2) (fuel := 0) rfl rfl (by kernel_rfl) (by kernel_rfl) (by kernel_rfl) (fun _ _ _ h => by cases h.1) (.inl ⟨by kernel_rfl, fun _ _ => by kernel_rfl⟩) (hR8.1) ?_
        simp only [List.setIfInBounds_toArray, List.set_cons_succ, List.set_cons_zero]
        refine wpAnyH_done (by kernel_rfl) ?_ _
        exact ⟨rfl, z, by kernel_rfl, hR8⟩
      · rintro z w9 hF
        simp only [setAll, List.setIfInBounds_toArray, List.set_cons_succ, List.set_cons_zero]
        obtain ⟨za, zc⟩ := z
        dsimp only at hF ⊢
        have HF9 : Hid _ := hF
        clear hF
        go_wp2_with fail
        go_ret
        exact ⟨HF9.out.1, _, _, rfl, HF9.out.2.1, HF9.out.2.2⟩

set_option maxHeartbeats 2000000 in
theorem see2_any {its : List It} {l : List Fa} {v lv : Value} {w : World} (h : PF its l v lv w) :
    Calls Tryz.prog 20 #[.agg #[v], lv] w fun e w' => Below w.heap.size w w' ∧ ∃ bv o, e = .returned (.tuple #[bv, .int .i64 (chkF its l)]) ∧ RB w' bv o ∧ SeeO its l o ∧ ∀ d o', bv = .pointer (some ⟨d, o', none⟩) → w.heap.size ≤ d := by
  have hb1 := bl1 w (.cells #[v] 24)
  have r1 := Dg.row_new w #[v] 24
  have h1 := h.later hb1
  have HC : Hid _ := checkF_any its v lv l _ h1.it h1.fair h1.tab h1.fa h1.il h1.ll
  have c0 := (Dg.cell_row r1 0).trans rfl
  have HB1 : Hid _ := hb1
  have HR1 : Hid _ := r1
  have hc2 : chkF its l = 0 ∨ chkF its l = 2 := by unfold chkF; split <;> simp
  by_cases hc : chkF its l = 0
  · obtain ⟨xb, xo, icap, fb, fo, lcap, rfl, rfl, hBs⟩ := bs_of h1.it h1.fa hc
    have HBO : Hid (∀ wx, Below (w.alloc (.cells #[.slice (some ⟨xb, xo, none⟩) its.length icap] 24)).heap.size (w.alloc (.cells #[.slice (some ⟨xb, xo, none⟩) its.length icap] 24)) wx → Calls Tryz.prog 30 #[.agg #[.slice (some ⟨xb, xo, none⟩) its.length icap], .slice (some ⟨fb, fo, none⟩) its.length lcap] wx fun e w' => ∃ d, e = .returned (.pointer (some ⟨d, 0, none⟩)) ∧ BdIs (plOf its) (fOf l) wx d w') := fun wx hb => boardOf_any (hBs.later hb) rfl
    have HN : Hid (its.length ≤ 64) := hBs.le
    rw [hc] at HC ⊢
    have HCC : Hid _ := hc
    clear hBs h h1 hb1 r1 hc hc2
    go_enter Tryz.func20, Tryz.ntmps20
    go_wp2_with fail
    refine Calls.mono HC.out ?_
    rintro e w2 ⟨rfl, hb2⟩
    have HB2 : Hid _ := HB1.out.trans (hb2.mono HB1.out.size)
    have HBO2 : Hid _ := HBO.out w2 hb2
    have c2 := Dg.cell_later hb2 c0
    clear HC hb2 c0 HBO HB1
    go_wp2_with fail
    refine Calls.mono HBO2.out ?_
    rintro e w3 ⟨d, rfl, hbd⟩
    have HB3 : Hid _ := HB2.out.trans (hbd.bel.mono HB2.out.size)
    have HLO : Hid (w.heap.size ≤ d) := Nat.le_trans HB2.out.size hbd.low
    have HBD : Hid _ := hbd
    clear HBO2 hbd c2
    go_wp2_with fail
    go_ret2
    obtain ⟨S, A, C, q1, q2, q3⟩ := HBD.out.ex
    refine ⟨HB3.out, _, some ⟨its.length, S, A, Mf (plOf its) (fOf l), C⟩, rfl, ⟨d, rfl, HN.out, q1⟩, ?_, fun d' o' h => by cases h; exact HLO.out⟩
    unfold SeeO
    rw [if_pos HCC.out]
    exact ⟨_, rfl, rfl, q2.s, q2.a, rfl, q3⟩
  · have hc9 : chkF its l = 2 := by omega
    have HCC : Hid _ := hc
    rw [hc9] at HC ⊢
    clear h h1 hb1 r1 hc hc2 hc9
    go_enter Tryz.func20, Tryz.ntmps20
    go_wp2_with fail
    refine Calls.mono HC.out ?_
    rintro e w2 ⟨rfl, hb2⟩
    have HB2 : Hid _ := HB1.out.trans (hb2.mono HB1.out.size)
    clear HC hb2 c0 HB1
    go_wp2_with fail
    go_ret2
    refine ⟨HB2.out, _, none, rfl, rfl, ?_, fun d o' h => by cases h⟩
    unfold SeeO
    rw [if_neg HCC.out]


set_option maxHeartbeats 2000000 in
theorem All2_any {its : List It} {l : List Fa} {v lv : Value} {w : World} (h : PF its l v lv w) :
    Calls Tryz.prog 9 #[.agg #[v], lv] w fun e w' => Below w.heap.size w w' ∧ ∃ a c, e = .returned (.tuple #[.slice a (allS its l).length c, .int .i64 (chkF its l)]) ∧ RS w' (.slice a (allS its l).length c) (allS its l) ∧ Frs w.heap.size a := by
  have hb1 := bl1 w (.cells #[v] 24)
  have HSE : Hid _ := see_any (h.later hb1)
  have c0 := (Dg.cell_row (Dg.row_new w #[v] 24) 0).trans rfl
  have HB1 : Hid _ := hb1
  clear h hb1
  go_enter Tryz.func9, Tryz.ntmps9
  go_wp2_with fail
  refine Calls.mono HSE.out ?_
  rintro e w2 ⟨hb2, bv, o, rfl, hrb, hso⟩
  have HB2 : Hid _ := HB1.out.trans (hb2.mono HB1.out.size)
  have HA : Hid _ := bAll2_any hrb
  have HSO : Hid _ := hso
  clear HSE hb2 c0 hrb hso HB1
  go_wp2_with fail
  refine Calls.mono HA.out ?_
  rintro e w3 ⟨hb3, a, c, rfl, hr, hfr⟩
  have HB3 : Hid _ := HB2.out.trans (hb3.mono HB2.out.size)
  have HR : Hid _ := hr
  have HFR : Hid (Frs w.heap.size a) := fun b o h => Nat.le_trans HB2.out.size (hfr b o h)
  clear HA hb3 hr hfr HB2
  go_wp2_with fail
  go_ret2
  have e1 := see_all HSO.out
  have e2 : (o.getD Bo.z).c = (allS its l).length := by rw [← e1]; unfold Bo.all; rw [List.length_map, List.length_range]
  refine ⟨HB3.out, a, c, by rw [← e2]; rfl, ?_, HFR.out⟩
  have h9 := HR.out
  rw [e1, e2] at h9
  exact h9


theorem open_facts2 {H : Type} {enc : TypeId × Value → H} {w : World} {base : Nat} {spare : Nat → Bool} {held : Bool} {fuel : Nat} {cs : List Value} {x : DataW H × List MemPlace} (h : DataW.trod enc Tryz.prog w base spare held fuel 25 cs = some x) :
    ∃ v l, cs = [v] ∧ RF w v l ∧ ∀ len cap, v = .slice none len cap → cap = 0 := by
  obtain ⟨v, l, rfl, hr⟩ := open_facts h
  refine ⟨v, l, rfl, hr, ?_⟩
  rcases Go.Deep.open_slice Tryz.underlying25 h with ⟨hcs, _⟩ | ⟨ad, len, cap, m, n, D, Pl, hcs, _⟩
  · cases hcs
    intro len cap e
    cases e
    rfl
  · cases hcs
    intro l c e
    cases e

/-- Facts appended to a new row. -/
theorem append_facts {w : World} {ops : Array Oper} {rest : List Oper} {o : Oper} {a : Act} {Q : Exit → Act → World → Prop} (hgd : o.guard = none) (s x : Operand)
    (ho : o.op = .call { callee := .builtin .append, args := #[s, x], argTypes := #[25, 25] }) (g : Nat)
    (hs : a.eval s = .slice (some ⟨g, 0, none⟩) 0 0) (hown : w.ownsRow g 65 4 (.slice (some ⟨g, 0, none⟩) 0 0) 0 []) (la : Option Addr) (m c : Nat) (l : List Fa) (hx : a.eval x = .slice la m c) (hr : RF w (.slice la m c) l) (hnone : la = none → c = 0) (hm : m ≤ 1000)
    (hbase : g ≤ w.heap.size)
    (h : ∀ g' cap' w', OF g w' (.slice (some ⟨g', 0, none⟩) m cap') l → w.grownBy w' (some g) → wpList Tryz.prog ops Q rest (a.put o.dst (.slice (some ⟨g', 0, none⟩) m cap')) w') : wpList Tryz.prog ops Q (o :: rest) a w := by
  obtain ⟨i0, hi, hz0, hz1, hz2⟩ := info_parts info38
  have hml : m = l.length := by obtain ⟨a', c', e, _⟩ := hr; cases e; rfl
  cases la with
  | none =>
    have h0 := hnone rfl
    subst h0
    have hl0 : m = 0 := by obtain ⟨a', c', e, hc, _⟩ := hr; cases e; omega
    subst hl0
    have hl : l = [] := List.eq_nil_of_length_eq_zero hml.symm
    subst hl
    refine wpList_append_own_none hgd s x 25 ho g 65 i0 4 Tryz.underlying25 hi _ 0 _ hs hown hx ?_
    exact h g 0 w hown ⟨rfl, rfl, rfl, Nat.le_refl _, fun _ _ _ => rfl⟩
  | some ad =>
    have hnews : ∀ j u, (rowsF l)[j]? = some u → w.cell? (ad.add j) = some u := by
      cases l with
      | nil => intro j u hu; cases hu
      | cons f l' =>
        have hr' := hr
        obtain ⟨a', c', e, _, _, hcl⟩ := hr
        cases e
        obtain ⟨b, off, e2, _⟩ := hcl 0 f rfl
        cases e2
        exact hr'.news
    refine wpList_append_own_at _ hgd s x 25 ho g 65 i0 _ 4 32 Tryz.underlying25 hi hz0 hz1 hz2 rfl (by decide) _ 0 [] hs hown ad m c (rowsF l) hx (by rw [rowsF_len, hml]) hnews (rowsF_one l) (by unfold maxLen; omega) (by omega) hbase ?_
    intro v' w' h1 h2 h3 _
    rw [Nat.zero_add, List.nil_append] at h1
    rcases h1.2 with ⟨rfl, h5⟩ | ⟨g', cap', cur, rfl, hrest⟩
    · have h6 := h3.1 rfl
      simp at h6
    · refine h g' cap' w' ?_ h2
      show World.ownsRow _ _ _ _ _ _ _
      rw [← hml]
      exact h1

/-- What lies in other blocks than the one that is written stays. -/
theorem RS.grown {w w' : World} {a : Option Addr} {n c : Nat} {l : List Int} {g : Nat} (h : RS w (.slice a n c) l) (hg : w.grownBy w' (some g)) (hf : Frs (g + 1) a) : RS w' (.slice a n c) l := by
  obtain ⟨a', c', e, hc, hr⟩ := h
  cases e
  refine ⟨_, _, rfl, hc, fun i z hz => ?_⟩
  obtain ⟨b, off, rfl, hcl⟩ := hr i z hz
  refine ⟨b, off, rfl, ?_⟩
  have hb := hf b off rfl
  have hlt : b < w.heap.size := World.block_lt_of_cell? w _ hcl
  have hk := hg.block b hlt (by intro h9; cases h9; omega)
  rw [← hcl]
  unfold World.cell?
  rw [show w'.heap[b]? = w.heap[b]? from hk]

theorem RB.grown {w w' : World} {v : Value} {o : Option Bo} {g : Nat} (h : RB w v o) (hg : w.grownBy w' (some g)) (hf : ∀ d o', v = .pointer (some ⟨d, o', none⟩) → g + 1 ≤ d) : RB w' v o := by
  cases o with
  | none => exact h
  | some B =>
    obtain ⟨d, rfl, h1, h2⟩ := h
    have hd := hf d 0 rfl
    exact ⟨d, rfl, h1, (hg.block d (Array.getElem?_eq_some_iff.1 h2).1 (by intro h9; cases h9; omega)).trans h2⟩
end Go.Proofs.YtgdnlceliiekkaaGreatDoor.Sa

