/- Texts of the seat, packed: Kg. -/
import Derived.Test.YtgdnlceliiekkaaGreatDoorP38
/- The walk over happen. -/
namespace Go.Proofs.YtgdnlceliiekkaaGreatDoor.Fc

open Go.RowKit Go.Shelf

set_option maxRecDepth 1000000

set_option linter.unusedVariables false

/-- What happen tells, and the facts then. -/
def hap (its : List It) (l : List Fa) (e : Ek.Ev) : Int × List Fa :=
  if Ek.okE e = true then (match does (subs its) l e.k e.t e.i.toNat with | none => (14, l) | some m => (0, m)) else (2, l)

theorem hap_bad {its : List It} {l : List Fa} {e : Ek.Ev} (h : Ek.okE e = false) : hap its l e = (2, l) := by
  unfold hap
  rw [if_neg (by rw [h]; decide)]

theorem hap_none {its : List It} {l : List Fa} {e : Ek.Ev} (h : Ek.okE e = true) (h2 : does (subs its) l e.k e.t e.i.toNat = none) : hap its l e = (14, l) := by
  unfold hap
  rw [if_pos h, h2]

theorem hap_some {its : List It} {l m : List Fa} {e : Ek.Ev} (h : Ek.okE e = true) (h2 : does (subs its) l e.k e.t e.i.toNat = some m) : hap its l e = (0, m) := by
  unfold hap
  rw [if_pos h, h2]

theorem ok_parts {e : Ek.Ev} (h : Ek.okE e = true) : 1 ≤ e.i ∧ e.i ≤ 63 ∧ 0 ≤ e.t ∧ e.t ≤ 3 ∧ 1 ≤ e.k ∧ e.k ≤ 6 := by
  unfold Ek.okE at h
  rw [Bool.and_eq_true] at h
  have := of_decide_eq_true h.1
  omega

/-- What happen knows. -/
structure HaS (w : World) (v : Value) (e : Ek.Ev) (sv : Value) (W : World) : Prop where
  bel : Below w.heap.size w W
  bp : W.heap[w.heap.size]? = some (.cells #[v] 24 (0, 0))
  be : W.heap[w.heap.size + 1]? = some (.cells #[.int .i64 e.k, .int .i64 e.i, .int .i64 e.t, sv] 44 (0, 0))

theorem HaS.later {w : World} {v : Value} {e : Ek.Ev} {sv : Value} {W W' : World} (h : HaS w v e sv W) (hb : Below W.heap.size W W') : HaS w v e sv W' :=
  ⟨h.bel.trans (hb.mono h.bel.size), (hb.block _ (Array.getElem?_eq_some_iff.1 h.bp).1).trans h.bp, (hb.block _ (Array.getElem?_eq_some_iff.1 h.be).1).trans h.be⟩

theorem HaS.init (w : World) (v : Value) (e : Ek.Ev) (sv : Value) : HaS w v e sv ((w.alloc (.cells #[v] 24)).alloc (.cells #[.int .i64 e.k, .int .i64 e.i, .int .i64 e.t, sv] 44)) := by
  refine ⟨(bl1 _ _).alloc (by simp) _, Dg.row_alloc (Dg.row_new w _ 24) _, ?_⟩
  have r2 := Dg.row_new (w.alloc (.cells #[v] 24)) #[.int .i64 e.k, .int .i64 e.i, .int .i64 e.t, sv] 44
  rw [World.size_alloc] at r2
  exact r2

theorem HaS.ev {w : World} {v : Value} {e : Ek.Ev} {sv : Value} {W : World} (h : HaS w v e sv W) : W.cell? ⟨w.heap.size + 1, 0, none⟩ = some (.int .i64 e.k) ∧ W.cell? ⟨w.heap.size + 1, 1, none⟩ = some (.int .i64 e.i) ∧ W.cell? ⟨w.heap.size + 1, 2, none⟩ = some (.int .i64 e.t) ∧ W.cell? ⟨w.heap.size + 1, 3, none⟩ = some sv ∧ W.cell? ⟨w.heap.size, 0, none⟩ = some v :=
  ⟨Dg.cell_row h.be 0, Dg.cell_row h.be 1, Dg.cell_row h.be 2, Dg.cell_row h.be 3, Dg.cell_row h.bp 0⟩

theorem grown_of {B : Nat} {w w' : World} (h : Below w.heap.size w w') (r : Option Nat) : w.grownBy w' r := ⟨h.os, h.tape, h.output, h.size, fun k hk _ => h.block k hk⟩

theorem OF.later {B : Nat} {w w' : World} {v : Value} {l : List Fa} (h : OF B w v l) (hb : Below w.heap.size w w') : OF B w' v l := by
  refine ⟨h.1, ?_⟩
  rcases h.2 with hn | ⟨g, cap, cur, rfl, hB, hg, rest⟩
  · exact .inl hn
  · exact .inr ⟨g, cap, cur, rfl, hB, (hb.block g (Array.getElem?_eq_some_iff.1 hg).1).trans hg, rest⟩

theorem call_meth (k : Int) (args : Array Value) (w : World) : (callFunc (methN k) args).run Tryz.prog w = .ok (.enter (methN k) args) w := by
  rcases k_cases k with rfl | rfl | rfl | rfl | rfl | rfl | h
  · show (callFunc 59 args).run Tryz.prog w = .ok (.enter 59 args) w; go_simp
  · show (callFunc 60 args).run Tryz.prog w = .ok (.enter 60 args) w; go_simp
  · show (callFunc 61 args).run Tryz.prog w = .ok (.enter 61 args) w; go_simp
  · show (callFunc 62 args).run Tryz.prog w = .ok (.enter 62 args) w; go_simp
  · show (callFunc 63 args).run Tryz.prog w = .ok (.enter 63 args) w; go_simp
  · show (callFunc 64 args).run Tryz.prog w = .ok (.enter 64 args) w; go_simp
  · obtain ⟨h1, h2, h3, h4, h5, h6⟩ := h
    have : methN k = 65 := by simp only [methN, h1, h2, h3, h4, h5, h6, if_false]
    rw [this]
    go_simp

theorem grown_trans {a b c : World} {r : Option Nat} (h1 : a.grownBy b r) (h2 : b.grownBy c r) : a.grownBy c r :=
  ⟨h2.os.trans h1.os, h2.tape.trans h1.tape, h2.output.trans h1.output, Nat.le_trans h1.size h2.size, fun k hk hr => (h2.block k (Nat.lt_of_lt_of_le hk h1.size) hr).trans (h1.block k hk hr)⟩

/-- A fact of a row is put. -/
theorem own_set4 {B : Nat} {W : World} {g n cap : Nat} {l : List Fa} (h : W.ownsRow B 65 4 (.slice (some ⟨g, 0, none⟩) n cap) n (rowsF l)) (hl : l.length = n) {i : Nat} (hi : i < n) (f : Fa) :
    OF B ((((W.setCell ⟨g, i * 4, none⟩ (.int .i64 f.run)).setCell ⟨g, i * 4 + 1, none⟩ (.int .i64 f.tries)).setCell ⟨g, i * 4 + 2, none⟩ (.int .i64 f.slips)).setCell ⟨g, i * 4 + 3, none⟩ (.bool f.un)) (.slice (some ⟨g, 0, none⟩) n cap) (l.set i f) ∧
    W.grownBy ((((W.setCell ⟨g, i * 4, none⟩ (.int .i64 f.run)).setCell ⟨g, i * 4 + 1, none⟩ (.int .i64 f.tries)).setCell ⟨g, i * 4 + 2, none⟩ (.int .i64 f.slips)).setCell ⟨g, i * 4 + 3, none⟩ (.bool f.un)) (some g) := by
  obtain ⟨a1, b1⟩ := h.stored (i * 4) (.int .i64 f.run)
  obtain ⟨a2, b2⟩ := a1.stored (i * 4 + 1) (.int .i64 f.tries)
  obtain ⟨a3, b3⟩ := a2.stored (i * 4 + 2) (.int .i64 f.slips)
  obtain ⟨a4, b4⟩ := a3.stored (i * 4 + 3) (.bool f.un)
  refine ⟨?_, grown_trans b1 (grown_trans b2 (grown_trans b3 b4))⟩
  unfold OF
  rw [List.length_set, hl, rowsF_set l i f (by omega)]
  exact a4

/-- How happen ends. -/
def HapC (its : List It) (l : List Fa) (e : Ek.Ev) (B : Nat) (lv : Value) (w : World) (x : Ending) (w' : World) : Prop :=
  x = .returned (.int .i64 (hap its l e).1) ∧ OF B w' lv (hap its l e).2 ∧ w.grownBy w' lv.ownBlock

theorem HapC.same {its : List It} {l : List Fa} {e : Ek.Ev} {B : Nat} {lv : Value} {w w' : World} {c : Int} (h : hap its l e = (c, l)) (ho : OF B w lv l) (hb : Below w.heap.size w w') : HapC its l e B lv w (.returned (.int .i64 c)) w' := by
  unfold HapC
  rw [h]
  exact ⟨rfl, ho.later hb, grown_of (B := 0) hb _⟩

set_option maxHeartbeats 4000000 in
theorem happen_any (its : List It) (v lv sv : Value) (l : List Fa) (e : Ek.Ev) (B : Nat) (w : World) (hIt : RdIt w v its) (ho : OF B w lv l) (hl : okL (subs its) l) (hs : Ek.RI w sv e.s) (hsl : e.s.length ≤ 1000000) (hil : its.length ≤ 1000000000) :
    Calls Tryz.prog 26 #[.agg #[v], lv, Ek.EvV e sv] w fun x w' => HapC its l e B lv w x w' := by
  have hln : l.length = its.length := by rw [hl.1]; unfold subs; rw [List.length_map]
  have h0 := HaS.init w v e sv
  have M0 := Ek.check_ev e sv _ (hs.later h0.bel) hsl
  have HOW : Hid (OF B w lv l) := ho
  obtain ⟨sa, sc, rfl, _, _, _⟩ := hs
  obtain ⟨ia, icap, rfl, hic, hir⟩ := hIt
  have HIR : Hid _ := hir
  obtain ⟨la, lcap, rfl, hlc, hlm, hlr⟩ := ho.rf
  have HLR : Hid _ := hlr
  have HOK : Hid (okL (subs its) l) := hl
  clear hl hir hlr ho
  obtain ⟨sn, HSN⟩ : ∃ n, Hid (e.s.length = n) := ⟨_, rfl⟩
  obtain ⟨n, HN⟩ : ∃ n, Hid (its.length = n) := ⟨_, rfl⟩
  have HM : Hid (l.length = n) := hln.trans HN.out
  clear hln
  unfold Ek.EvV at M0 ⊢
  rw [HSN.out] at h0 M0 hsl ⊢
  rw [HN.out] at h0 M0 hil hic ⊢
  rw [HM.out] at hlc HOW ⊢
  have H0 : Hid (HaS w (.slice ia n icap) e (.slice sa sn sc) ((w.alloc (.cells #[.slice ia n icap] 24)).alloc (.cells #[.int .i64 e.k, .int .i64 e.i, .int .i64 e.t, .slice sa sn sc] 44))) := h0
  have M : Hid (∀ c : Int, ((Ek.evE e : Nat) : Int) = c → Calls Tryz.prog 34 #[.agg #[.int .i64 e.k, .int .i64 e.i, .int .i64 e.t, .slice sa sn sc]] ((w.alloc (.cells #[.slice ia n icap] 24)).alloc (.cells #[.int .i64 e.k, .int .i64 e.i, .int .i64 e.t, .slice sa sn sc] 44)) fun x w' => x = .returned (.int .i64 c) ∧ Below ((w.alloc (.cells #[.slice ia n icap] 24)).alloc (.cells #[.int .i64 e.k, .int .i64 e.i, .int .i64 e.t, .slice sa sn sc] 44)).heap.size ((w.alloc (.cells #[.slice ia n icap] 24)).alloc (.cells #[.int .i64 e.k, .int .i64 e.i, .int .i64 e.t, .slice sa sn sc] 44)) w') := by
    show ∀ c, _
    rintro c rfl
    exact M0
  clear M0 h0
  cases hE : Ek.okE e with
  | false =>
    have HH : Hid _ := hap_bad (its := its) (l := l) hE
    replace M : Hid _ := M.out 2 (by unfold Ek.evE; rw [hE]; rfl)
    clear hE
    go_enter Tryz.func26, Tryz.ntmps26
    go_wp2_with fail
    generalize (w.alloc (.cells #[.slice ia n icap] 24)).alloc (.cells #[.int .i64 e.k, .int .i64 e.i, .int .i64 e.t, .slice sa sn sc] 44) = w0 at *
    refine Calls.mono M.out ?_
    rintro x w1 ⟨rfl, hb1⟩
    have H1 : Hid _ := H0.out.later hb1
    clear M hb1
    go_wp2_with fail
    go_ret
    exact HapC.same HH.out HOW.out H1.out.bel
  | true =>
    have HH0 : Hid (does (subs its) l e.k e.t e.i.toNat = none → hap its l e = (14, l)) := fun h => hap_none hE h
    have HH1 : Hid (∀ m, does (subs its) l e.k e.t e.i.toNat = some m → hap its l e = (0, m)) := fun m h => hap_some hE h
    obtain ⟨e1, e2, e3, e4, e5, e6⟩ := ok_parts hE
    replace M : Hid _ := M.out 0 (by unfold Ek.evE; rw [hE]; rfl)
    clear hE
    obtain ⟨ik, HI⟩ : ∃ j : Nat, Hid (e.i = (j : Int)) := ⟨e.i.toNat, by show _ = _; omega⟩
    have HIN : Hid (e.i.toNat = ik) := by show _ = _; rw [HI.out]; rfl
    have hi1 : 1 ≤ ik := by have := HI.out; omega
    go_enter Tryz.func26, Tryz.ntmps26
    go_wp2_with fail
    generalize (w.alloc (.cells #[.slice ia n icap] 24)).alloc (.cells #[.int .i64 e.k, .int .i64 e.i, .int .i64 e.t, .slice sa sn sc] 44) = w0 at *
    refine Calls.mono M.out ?_
    rintro x w1 ⟨rfl, hb1⟩
    have H1 : Hid _ := H0.out.later hb1
    clear M hb1 H0
    obtain ⟨z0, z1, z2, z3, z4⟩ := H1.out.ev
    rw [HI.out] at z1
    by_cases hlt : ik < n
    rotate_left
    · have HH : Hid _ := HH0.out (by unfold does; rw [if_neg]; rintro ⟨_, h, _⟩; rw [HM.out, HIN.out] at h; exact hlt h)
      have hge : (n : Int) ≤ (ik : Int) := by omega
      clear HH0 HH1 hlt
      go_wp2_with fail
      go_ret
      exact HapC.same HH.out HOW.out H1.out.bel
    obtain ⟨x, hx⟩ : ∃ x, its[ik]? = some x := ⟨_, List.getElem?_eq_getElem (by rw [HN.out]; exact hlt)⟩
    obtain ⟨f, hf⟩ : ∃ f, l[ik]? = some f := ⟨_, List.getElem?_eq_getElem (by rw [HM.out]; exact hlt)⟩
    obtain ⟨xb, xo, xav, xam, xac, rfl, k0, k1, k2, k3, k4, k5, k6, k7, _⟩ := HIR.out ik x hx
    have hsub := Dg.cell_later H1.out.bel k2
    have HSB : Hid ((subs its).getD ik true = x.sub) := subs_getD hx
    have hii : (ik : Int) < (n : Int) := by omega
    clear k0 k1 k2 k3 k4 k5 k6 k7
    cases hsu : x.sub with
    | true =>
      have HH : Hid _ := HH0.out (by unfold does; rw [if_neg]; rintro ⟨_, _, h⟩; rw [HIN.out, HSB.out, hsu] at h; cases h)
      rw [hsu] at hsub
      clear HH0 HH1 hsu HSB hx hf
      go_wp2_with fail
      go_ret
      exact HapC.same HH.out HOW.out H1.out.bel
    | false =>
      rw [hsu] at hsub
      have hgd : l.getD ik Fa.z = f := by rw [List.getD_eq_getElem?_getD, hf]; rfl
      have HOKF : Hid (okF f) := by
        have := (HOK.out.2 ik (by rw [HM.out]; exact hlt)).1
        rw [hgd] at this
        exact this
      have HD : Hid (does (subs its) l e.k e.t e.i.toNat = if (codeF e.k e.t f).2 = true then some (l.set ik (codeF e.k e.t f).1) else none) := by
        show _ = _
        unfold does
        rw [HIN.out, if_pos ⟨hi1, by rw [HM.out]; exact hlt, HSB.out.trans hsu⟩, hgd, fit_code HOKF.out e3]
        split <;> rfl
      obtain ⟨fb, fo, hfa, f0, f1, f2, f3⟩ := HLR.out ik f hf
      subst hfa
      have HFC : Hid (∀ W, Below w.heap.size w W → W.cell? ⟨fb, fo + ik * 4, none⟩ = some (.int .i64 f.run) ∧ W.cell? ⟨fb, fo + ik * 4 + 1, none⟩ = some (.int .i64 f.tries) ∧ W.cell? ⟨fb, fo + ik * 4 + 2, none⟩ = some (.int .i64 f.slips) ∧ W.cell? ⟨fb, fo + ik * 4 + 3, none⟩ = some (.bool f.un)) := fun W hb => ⟨Dg.cell_later hb f0, Dg.cell_later hb f1, Dg.cell_later hb f2, Dg.cell_later hb f3⟩
      have hfo : fo = 0 := by
        rcases HOW.out.2 with ⟨h, _⟩ | ⟨g', cap', cur', h, _⟩
        · cases h
        · simp only [Value.slice.injEq, Option.some.injEq, Addr.mk.injEq] at h
          exact h.1.2.1
      subst hfo
      obtain ⟨gf, q, HGQ⟩ : ∃ gf q, Hid (codeF e.k e.t f = (gf, q)) := ⟨_, _, rfl⟩
      rw [HGQ.out] at HD
      have HBY : Hid _ := by_any e.k f e.t
      have HME : Hid (∀ w : World, Calls Tryz.prog (methN e.k) #[TuV f e.t] w fun x w' => x = .returned (.tuple #[.agg #[.int .i64 gf.run, .int .i64 gf.tries, .int .i64 gf.slips, .bool gf.un], .bool q]) ∧ Below w.heap.size w w') := fun w => by
        have h := meth_any e.k f e.t w e3 e4
        rw [HGQ.out] at h
        exact h
      have hcf : ∀ wx, (callFunc (methN e.k) #[TuV f e.t]).run Tryz.prog wx = .ok (.enter (methN e.k) #[TuV f e.t]) wx := fun wx => call_meth e.k _ wx
      have HF : Hid (FaV f = .agg #[.int .i64 f.run, .int .i64 f.tries, .int .i64 f.slips, .bool f.un]) := rfl
      clear HSB hsu hx hf f0 f1 f2 f3 hgd
      go_wp2_with fail
      have hS0 : HaS w (.slice (some ⟨xb, xo, none⟩) n icap) e (.slice sa sn sc) w1.drew := H1.out.later (Below.refl _ _).drew
      refine region_thenF [(28, .slice (some ⟨fb, 0, none⟩) n lcap), (29, .pointer (some ⟨w.heap.size + 1, 1, none⟩)), (30, .int .i64 ik), (31, .pointer (some ⟨fb, ik * 4, none⟩)), (32, FaV f), (33, .pointer (some ⟨w.heap.size + 1, 2, none⟩)), (34, .int .i64 e.t), (35, TuV f e.t), (36, .pointer (some ⟨w.heap.size + 1, 0, none⟩)), (37, .int .i64 e.k), (38, .func (Fn.func (methN e.k)) #[TuV f e.t] #[]), (7, .func (Fn.func (methN e.k)) #[TuV f e.t] #[])] (fun w' => HaS w (.slice (some ⟨xb, xo, none⟩) n icap) e (.slice sa sn sc) w') ?_ ?_
      · refine wp_region_held (S := fun w' => HaS w (.slice (some ⟨xb, xo, none⟩) n icap) e (.slice sa sn sc) w') (by kernel_rfl) ?_
        simp only [List.size_toArray, List.length_cons, List.length_nil, Nat.reduceAdd, Array.replicate_succ, Array.replicate_zero, List.push_toArray, List.nil_append, List.cons_append]
        refine takeD (i := 0) (d := 28) (v := .slice (some ⟨fb, 0, none⟩) n lcap) (fuel := 11) rfl rfl (by kernel_rfl) (by kernel_rfl) (by kernel_rfl) (fun _ _ _ h => by cases h.1) (.inl ⟨by kernel_rfl, fun _ _ => by kernel_rfl⟩) hS0 ?_
        simp only [List.setIfInBounds_toArray, List.set_cons_succ, List.set_cons_zero]
        refine takeD (i := 1) (d := 29) (v := .pointer (some ⟨w.heap.size + 1, 1, none⟩)) (fuel := 10) rfl rfl (by kernel_rfl) (by kernel_rfl) (by kernel_rfl) (fun _ _ _ h => by cases h.1) (.inl ⟨by kernel_rfl, fun _ _ => by go_simp⟩) hS0 ?_
        simp only [List.setIfInBounds_toArray, List.set_cons_succ, List.set_cons_zero]
        refine takeD (i := 2) (d := 30) (v := .int .i64 ik) (fuel := 9) rfl rfl (by kernel_rfl) (by kernel_rfl) (by kernel_rfl) (fun _ _ _ h => by cases h.1) (.inl ⟨by kernel_rfl, fun wx h => by obtain ⟨y0, y1, y2, y3, y4⟩ := h.ev; rw [HI.out] at y1; go_simp⟩) hS0 ?_
        simp only [List.setIfInBounds_toArray, List.set_cons_succ, List.set_cons_zero]
        refine takeD (i := 3) (d := 31) (v := .pointer (some ⟨fb, ik * 4, none⟩)) (fuel := 8) rfl rfl (by kernel_rfl) (by kernel_rfl) (by kernel_rfl) (fun _ _ _ h => by cases h.1) (.inl ⟨by kernel_rfl, fun _ _ => by go_simp⟩) hS0 ?_
        simp only [List.setIfInBounds_toArray, List.set_cons_succ, List.set_cons_zero]
        refine takeD (i := 4) (d := 32) (v := FaV f) (fuel := 7) rfl rfl (by kernel_rfl) (by kernel_rfl) (by kernel_rfl) (fun _ _ _ h => by cases h.1) (.inl ⟨by kernel_rfl, fun wx h => by rw [HF.out]; obtain ⟨y0, y1, y2, y3⟩ := HFC.out wx h.bel; rw [Nat.zero_add] at y0 y1 y2 y3; go_simp⟩) hS0 ?_
        simp only [List.setIfInBounds_toArray, List.set_cons_succ, List.set_cons_zero]
        refine takeD (i := 5) (d := 33) (v := .pointer (some ⟨w.heap.size + 1, 2, none⟩)) (fuel := 6) rfl rfl (by kernel_rfl) (by kernel_rfl) (by kernel_rfl) (fun _ _ _ h => by cases h.1) (.inl ⟨by kernel_rfl, fun _ _ => by go_simp⟩) hS0 ?_
        simp only [List.setIfInBounds_toArray, List.set_cons_succ, List.set_cons_zero]
        refine takeD (i := 6) (d := 34) (v := .int .i64 e.t) (fuel := 5) rfl rfl (by kernel_rfl) (by kernel_rfl) (by kernel_rfl) (fun _ _ _ h => by cases h.1) (.inl ⟨by kernel_rfl, fun wx h => by obtain ⟨y0, y1, y2, y3, y4⟩ := h.ev; go_simp⟩) hS0 ?_
        simp only [List.setIfInBounds_toArray, List.set_cons_succ, List.set_cons_zero]
        refine takeD (i := 7) (d := 35) (v := TuV f e.t) (fuel := 4) rfl rfl (by kernel_rfl) (by kernel_rfl) (by kernel_rfl) (fun _ _ _ h => by cases h.1) (.inl ⟨by kernel_rfl, fun wx h => by rw [HF.out]; unfold TuV; go_simp⟩) hS0 ?_
        simp only [List.setIfInBounds_toArray, List.set_cons_succ, List.set_cons_zero]
        refine takeD (i := 8) (d := 36) (v := .pointer (some ⟨w.heap.size + 1, 0, none⟩)) (fuel := 3) rfl rfl (by kernel_rfl) (by kernel_rfl) (by kernel_rfl) (fun _ _ _ h => by cases h.1) (.inl ⟨by kernel_rfl, fun _ _ => by go_simp⟩) hS0 ?_
        simp only [List.setIfInBounds_toArray, List.set_cons_succ, List.set_cons_zero]
        refine takeD (i := 9) (d := 37) (v := .int .i64 e.k) (fuel := 2) rfl rfl (by kernel_rfl) (by kernel_rfl) (by kernel_rfl) (fun _ _ _ h => by cases h.1) (.inl ⟨by kernel_rfl, fun wx h => by obtain ⟨y0, y1, y2, y3, y4⟩ := h.ev; go_simp⟩) hS0 ?_
        simp only [List.setIfInBounds_toArray, List.set_cons_succ, List.set_cons_zero]
        refine oneC (i := 10) (d := 38) (f := 35) (args := #[TuV f e.t, .int .i64 e.k]) (v := .func (Fn.func (methN e.k)) #[TuV f e.t] #[]) (fuel := 1) rfl rfl (by kernel_rfl) (by kernel_rfl) (fun _ => by kernel_rfl) hS0 (fun wx h => Calls.mono (HBY.out wx) (by rintro x w2 ⟨rfl, hb⟩; exact ⟨rfl, h.later hb⟩)) (fun wz hS110 => ?_)
        simp only [List.setIfInBounds_toArray, List.set_cons_succ, List.set_cons_zero]
        refine takeD (i := 11) (d := 7) (v := .func (Fn.func (methN e.k)) #[TuV f e.t] #[]) (fuel := 0) rfl rfl (by kernel_rfl) (by kernel_rfl) (by kernel_rfl) (fun _ _ _ h => by cases h.1) (.inl ⟨by kernel_rfl, fun _ _ => by kernel_rfl⟩) hS110 ?_
        simp only [List.setIfInBounds_toArray, List.set_cons_succ, List.set_cons_zero]
        refine wpAnyH_done (by kernel_rfl) ?_ _
        exact ⟨rfl, by kernel_rfl, hS110⟩
      · intro w9 hF
        simp only [setAll, List.setIfInBounds_toArray, List.set_cons_succ, List.set_cons_zero]
        have HF9 : Hid _ := hF
        clear hF
        go_wp2_with fail
        refine Calls.mono (HME.out w9) ?_
        rintro x w2 ⟨rfl, hb2⟩
        have H2 : Hid _ := HF9.out.later hb2
        clear hb2 HF9 HME HBY z0 z1 z2 z3 z4
        have HCL : Hid (∀ W, Below w.heap.size w W → W.cell? ⟨fb, ik * 4, none⟩ = some (.int .i64 f.run) ∧ W.cell? ⟨fb, ik * 4 + 1, none⟩ = some (.int .i64 f.tries) ∧ W.cell? ⟨fb, ik * 4 + 2, none⟩ = some (.int .i64 f.slips) ∧ W.cell? ⟨fb, ik * 4 + 3, none⟩ = some (.bool f.un)) := fun W hb => by
          have h := HFC.out W hb
          rw [Nat.zero_add] at h
          exact h
        cases q with
        | false =>
          have HH : Hid _ := HH0.out (HD.out.trans (if_neg (by decide)))
          clear HH0 HH1 HD HCL
          go_wp2_with fail
          go_ret
          exact HapC.same HH.out HOW.out (H2.out.bel.alloc H2.out.bel.size _)
        | true =>
          have HH : Hid _ := HH1.out _ (HD.out.trans (if_pos rfl))
          have hb3 : Below w.heap.size w (w2.alloc (.cells #[.int .i64 gf.run, .int .i64 gf.tries, .int .i64 gf.slips, .bool gf.un] 65)) := H2.out.bel.alloc H2.out.bel.size _
          have hO : (w2.alloc (.cells #[.int .i64 gf.run, .int .i64 gf.tries, .int .i64 gf.slips, .bool gf.un] 65)).ownsRow B 65 4 (.slice (some ⟨fb, 0, none⟩) n lcap) n (rowsF l) := by
            have h := HOW.out.later hb3
            unfold OF at h
            rw [HM.out] at h
            exact h
          have HO : Hid _ := hO
          have HB3 : Hid _ := hb3
          obtain ⟨c0, c1, c2, c3⟩ := HCL.out _ hb3
          have d0 := hO.frozenAt (ik * 4)
          have d1 := hO.frozenAt (ik * 4 + 1)
          have d2 := hO.frozenAt (ik * 4 + 2)
          have d3 := hO.frozenAt (ik * 4 + 3)
          obtain ⟨y0, y1, y2, y3, y4⟩ := (H2.out.later (bl1 _ (.cells #[.int .i64 gf.run, .int .i64 gf.tries, .int .i64 gf.slips, .bool gf.un] 65))).ev
          rw [HI.out] at y1
          clear HH0 HH1 HD HCL hO hb3
          go_wp2_with fail
          go_ret
          obtain ⟨p1, p2⟩ := own_set4 HO.out HM.out hlt gf
          unfold HapC
          rw [HH.out]
          exact ⟨rfl, p1, grown_trans (grown_of (B := 0) HB3.out _) p2⟩

end Go.Proofs.YtgdnlceliiekkaaGreatDoor.Fc

