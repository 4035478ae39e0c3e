/- Texts of the seat, packed: Kc Lf Lg. -/
import Derived.Test.YtgdnlceliiekkaaGreatDoorP11
import Derived.Test.YtgdnlceliiekkaaGreatDoorP14
import Derived.Laws.CopyOwn
import Derived.Laws.Tables
import Derived.Test.YtgdnlceliiekkaaGreatDoorP13
import Derived.Deep.RegionHeld
import Derived.Deep.RegionHeldLaw
import Derived.BigQuiet
/- A turn in memory. -/
namespace Go.Proofs.YtgdnlceliiekkaaGreatDoor.Fc

open Go.RowKit Go.Shelf

set_option maxRecDepth 1000000

set_option linter.unusedVariables false

theorem wpOp_skip {P : Program} {ops : Array Oper} {Q : Exit → Act → World → Prop} {i : Nat} {K : Act → World → Prop} {a : Act} {w w' : World} {o : Oper} (hi : ops[i]? = some o) (hd : o.dst = none) (hw : Region.wanted o (yielded ops a.tmps) = true)
    (hrun : (execOp a.eval o).run P w = .ok .skip w') (hK : K a w') : wpOp P ops Q i K a w := by
  have hp : a.put o.dst undef = a := by rw [hd]; rfl
  unfold wpOp
  simp only [hi]
  rw [if_pos hw]
  refine .inl ?_
  unfold Oper.wp
  rw [hrun]
  show K (a.put o.dst undef) w'
  rw [hp]
  exact hK

/-- Two facts held against each other. -/
theorem eq_if (r t s : Int) (u : Bool) (r' t' s' : Int) (u' : Bool) {α : Type} (x : Bool → α) : (if r = r' then if t = t' then if s = s' then if u = u' then x true else x false else x false else x false else x false) = x (decide ((⟨r, t, s, u⟩ : Fa) = ⟨r', t', s', u'⟩)) := by
  simp only [Fa.mk.injEq]
  repeat' split
  all_goals simp_all

theorem eq_fact (f g : Fa) (w : World) : (Go.binOp .eql 65 (FaV f) (FaV g)).run Tryz.prog w = .ok (.bool (decide (f = g))) w := by
  obtain ⟨r, t, s, u⟩ := f
  obtain ⟨r', t', s', u'⟩ := g
  rw [← eq_if (x := fun b => Result.ok (Value.bool b) w)]
  unfold FaV
  go_simp

theorem eq_exec (f g : Fa) {o : Oper} {x y : Operand} {a : Act} {w : World} {q : Bool} {ty : TypeId} (ho : o.op = .binOp .eql 65 x y ty) (hx : a.eval x = FaV f) (hy : a.eval y = FaV g) (hq : decide (f = g) = q) : (execOp a.eval o).run Tryz.prog w = .ok (.value (.bool q)) w := by
  unfold execOp
  subst hq
  have hg : (eqGuard BinOp.eql 65 x y (FaV f) (FaV g)).run Tryz.prog w = .ok () w := by
    have hk : Tryz.prog.eqGuardType Tryz.prog.depth 65 = false := by kernel_rfl
    unfold eqGuard FaV
    simp [hk]
  simp only [ho, hx, hy, Sem.run_bind, eq_fact, hg, Result.andThen_ok]
  rfl

/-- A turn: what is known, and the try. -/
def TuV (f : Fa) (t : Int) : Value := .agg #[.int .i64 f.run, .int .i64 f.tries, .int .i64 f.slips, .bool f.un, .int .i64 t]

theorem results_fa2 {fn : Func} {p u : Tmp} (h : fn.results = #[.cell p 65, .tmp u]) (tmps : Array Value) (w : World) {g : Nat} {f : Fa}
    (hp : tmps.getD p undef = .pointer (some ⟨g, 0, none⟩)) (hg : w.heap[g]? = some (.cells f.cells.toArray 65 (0, 0))) :
    (results fn tmps).run Tryz.prog w = .ok (.tuple #[FaV f, tmps.getD u undef]) w := by
  have hp' : tmps[p]?.getD undef = .pointer (some ⟨g, 0, none⟩) := by simpa using hp
  simp [results, h, hp', asAddr, run_loadVar_row (P := Tryz.prog) w g 65 65 _ (0, 0) _ hg Tryz.underlying65 rfl (by kernel_rfl)]
  rfl

theorem row_cells {W : World} {n : Nat} {f : Fa} (h : W.heap[n]? = some (.cells f.cells.toArray 65 (0, 0))) : W.cell? ⟨n, 0, none⟩ = some (.int .i64 f.run) ∧ W.cell? ⟨n, 1, none⟩ = some (.int .i64 f.tries) ∧ W.cell? ⟨n, 2, none⟩ = some (.int .i64 f.slips) ∧ W.cell? ⟨n, 3, none⟩ = some (.bool f.un) :=
  ⟨Dg.cell_row h 0, Dg.cell_row h 1, Dg.cell_row h 2, Dg.cell_row h 3⟩

/-- What a method of a turn knows. -/
structure MeS (w : World) (f : Fa) (t : Int) (W : World) : Prop where
  bel : Below w.heap.size w W
  box : W.heap[w.heap.size]? = some (.cells #[.int .i64 f.run, .int .i64 f.tries, .int .i64 f.slips, .bool f.un, .int .i64 t] 90 (0, 0))
  res : ∃ g : Fa, W.heap[w.heap.size + 1]? = some (.cells g.cells.toArray 65 (0, 0))

theorem MeS.later {w : World} {f : Fa} {t : Int} {W W' : World} (h : MeS w f t W) (hb : Below W.heap.size W W') : MeS w f t W' := by
  obtain ⟨g, hg⟩ := h.res
  exact ⟨h.bel.trans (hb.mono h.bel.size), (hb.block _ (Array.getElem?_eq_some_iff.1 h.box).1).trans h.box, g, (hb.block _ (Array.getElem?_eq_some_iff.1 hg).1).trans hg⟩

theorem MeS.c {w : World} {f : Fa} {t : Int} {W : World} (h : MeS w f t W) (i : Nat) : W.cell? ⟨w.heap.size, i, none⟩ = (#[Value.int .i64 f.run, .int .i64 f.tries, .int .i64 f.slips, .bool f.un, .int .i64 t] : Array Value)[i]? := Dg.cell_row h.box i

theorem MeS.init_res (w : World) (f : Fa) (t : Int) : ((w.alloc (.cells #[.int .i64 f.run, .int .i64 f.tries, .int .i64 f.slips, .bool f.un, .int .i64 t] 90)).alloc (.cells #[.int .i64 0, .int .i64 0, .int .i64 0, .bool false] 65)).heap[w.heap.size + 1]? = some (.cells Fa.z.cells.toArray 65 (0, 0)) := by
  have r2 := Dg.row_new (w.alloc (.cells #[.int .i64 f.run, .int .i64 f.tries, .int .i64 f.slips, .bool f.un, .int .i64 t] 90)) #[.int .i64 0, .int .i64 0, .int .i64 0, .bool false] 65
  rw [World.size_alloc] at r2
  exact r2

theorem MeS.init (w : World) (f : Fa) (t : Int) : MeS w f t ((w.alloc (.cells #[.int .i64 f.run, .int .i64 f.tries, .int .i64 f.slips, .bool f.un, .int .i64 t] 90)).alloc (.cells #[.int .i64 0, .int .i64 0, .int .i64 0, .bool false] 65)) :=
  ⟨(bl1 _ _).alloc (by simp) _, Dg.row_alloc (Dg.row_new w _ 90) _, _, MeS.init_res w f t⟩

theorem size38 : (Tryz.prog.info? 65).map (·.size) = some 4 := by kernel_rfl

theorem store_fact {W : World} {n : Nat} {g : Fa} (h : W.heap[n]? = some (.cells g.cells.toArray 65 (0, 0))) (k : Fa) {o : Oper} {x y : Operand} {a : Act} (ho : o.op = .store 65 x y) (hx : a.eval x = .pointer (some ⟨n, 0, none⟩)) (hy : a.eval y = FaV k) : (execOp a.eval o).run Tryz.prog W = .ok .skip (W.setRow n k.cells.toArray) := by
  unfold execOp
  have hy' : a.eval y = .agg k.cells.toArray := hy
  simp only [ho, hx, hy', Instr.storeAt, Instr.sureAddr, Sem.run_bind, Sem.run_pure, Result.andThen_ok, run_storeVar_row W n 65 65 g.cells.toArray k.cells.toArray h size38 rfl (by simp [Fa.cells, Value.oneCell'])]

theorem MeS.step {w : World} {f : Fa} {t : Int} {W : World} {ops : Array Oper} {Q : Exit → Act → World → Prop} {i : Nat} {K : Act → World → Prop} {o : Oper} {x y : Operand} {a : Act} (h : MeS w f t W) (k : Fa) (hi : ops[i]? = some o) (hd : o.dst = none) (hw : Region.wanted o (yielded ops a.tmps) = true) (ho : o.op = .store 65 x y) (hx : a.eval x = .pointer (some ⟨w.heap.size + 1, 0, none⟩)) (hy : a.eval y = FaV k)
    (hK : ∀ W', MeS w f t W' → W'.heap[w.heap.size + 1]? = some (.cells k.cells.toArray 65 (0, 0)) → K a W') : wpOp Tryz.prog ops Q i K a W := by
  obtain ⟨g, hg⟩ := h.res
  have h2 := setRow_heap W (w.heap.size + 1) _ k.cells.toArray 65 (0, 0) hg
  refine wpOp_skip hi hd hw (store_fact hg k ho hx hy) (hK _ ⟨below_setRow h.bel (by omega) _, ?_, k, h2⟩ h2)
  rw [setRow_other _ _ _ _ (by omega)]
  exact h.box

end Go.Proofs.YtgdnlceliiekkaaGreatDoor.Fc

/- What is asked of a step; mark: from the last item on. -/
namespace Go.Proofs.YtgdnlceliiekkaaGreatDoor.Sa
open Go.RowKit Go.Shelf Go.Proofs.YtgdnlceliiekkaaGreatDoor.Fc Go.Proofs.YtgdnlceliiekkaaGreatDoor.St
set_option maxRecDepth 1000000
set_option linter.unusedVariables false

variable {p : Pl} {f : Nat → Fa} {xb xo icap fb fo lcap : Nat} {w0 : World} {b : Nat} {m : Nat → Nat → Bool} {w : World} {n : Nat}

set_option maxHeartbeats 1000000 in
theorem hasBegun_any (x : Fa) (w : World) : Calls Tryz.prog 37 #[FaV x] w fun e w' => e = .returned (.bool (decide (0 < x.run))) ∧ Below w.heap.size w w' := by
  have r := row_cells (Dg.row_new w x.cells.toArray 65)
  obtain ⟨c0, c1, c2, c3⟩ := r
  unfold FaV
  unfold Fa.cells at c0
  have HB : Hid _ := bl1 w (.cells #[.int .i64 x.run, .int .i64 x.tries, .int .i64 x.slips, .bool x.un] 65)
  go_enter Tryz.func37, Tryz.ntmps37
  go_wp2_with fail
  go_ret
  exact ⟨by first | rfl | simp [gt_iff_lt], HB.out⟩

set_option maxHeartbeats 1000000 in
theorem never_any (x : Fa) (w : World) : Calls Tryz.prog 41 #[FaV x] w fun e w' => e = .returned (.bool false) ∧ Below w.heap.size w w' := by
  unfold FaV
  have HB : Hid _ := bl1 w (.cells #[.int .i64 x.run, .int .i64 x.tries, .int .i64 x.slips, .bool x.un] 65)
  go_enter Tryz.func41, Tryz.ntmps41
  go_wp2_with fail
  go_ret
  exact ⟨rfl, HB.out⟩

set_option maxHeartbeats 1000000 in
theorem stepDone_any (x : Fa) (w : World) : Calls Tryz.prog 43 #[FaV x] w fun e w' => e = .returned (.bool (decide (x.run = 2) && decide (x.tries = 0))) ∧ Below w.heap.size w w' := by
  obtain ⟨c0, c1, c2, c3⟩ := row_cells (Dg.row_new w x.cells.toArray 65)
  unfold FaV
  unfold Fa.cells at c0 c1 c2 c3
  have HB : Hid _ := bl1 w (.cells #[.int .i64 x.run, .int .i64 x.tries, .int .i64 x.slips, .bool x.un] 65)
  by_cases h : x.run = 2
  · rw [h] at c0 c1 c2 c3 HB ⊢
    go_enter Tryz.func43, Tryz.ntmps43
    go_wp2_with fail
    go_ret
    exact ⟨by by_cases h2 : x.tries = 0 <;> simp [h2], HB.out⟩
  · have e1 : (x.run == 2) = false := by simpa using h
    go_enter Tryz.func43, Tryz.ntmps43
    go_wp2_with fail
    go_ret
    exact ⟨by simp [h], HB.out⟩

set_option maxHeartbeats 1000000 in
theorem stepClean_any (x : Fa) (w : World) : Calls Tryz.prog 39 #[FaV x] w fun e w' => e = .returned (.bool (decide (x.run = 0) || decide (x.run = 3) || x.un)) ∧ Below w.heap.size w w' := by
  obtain ⟨c0, c1, c2, c3⟩ := row_cells (Dg.row_new w x.cells.toArray 65)
  unfold FaV
  unfold Fa.cells at c0 c1 c2 c3
  have HB : Hid _ := bl1 w (.cells #[.int .i64 x.run, .int .i64 x.tries, .int .i64 x.slips, .bool x.un] 65)
  by_cases h : x.run = 0
  · rw [h] at c0 c1 c2 c3 HB ⊢
    go_enter Tryz.func39, Tryz.ntmps39
    go_wp2_with fail
    go_ret
    exact ⟨rfl, HB.out⟩
  · by_cases h3 : x.run = 3
    · rw [h3] at c0 c1 c2 c3 HB ⊢
      go_enter Tryz.func39, Tryz.ntmps39
      go_wp2_with fail
      go_ret
      exact ⟨rfl, HB.out⟩
    · have e1 : (x.run == 0) = false := by simpa using h
      have e2 : (x.run == 3) = false := by simpa using h3
      go_enter Tryz.func39, Tryz.ntmps39
      go_wp2_with fail
      go_ret
      exact ⟨by simp [h, h3], HB.out⟩

/-- The marks of this kind are known from an item on, the others are as they were. -/
structure Agr (n k : Nat) (T : Nat → Bool) (j : Nat) (m m' : Nat → Nat → Bool) : Prop where
  rest : ∀ k' i', k' ≠ k → m' k' i' = m k' i'
  from_ : ∀ i', j ≤ i' → i' < n → m' k i' = T i'

theorem Agr.put {n k i : Nat} {T : Nat → Bool} {m m' : Nat → Nat → Bool} (h : Agr n k T (i + 1) m m') : Agr n k T i m (put2 m' k i (T i)) := by
  refine ⟨fun k' i' hk => ?_, fun i' h1 h2 => ?_⟩
  · unfold put2
    rw [if_neg (fun h9 => hk h9.1)]
    exact h.rest k' i' hk
  · unfold put2
    by_cases hi : i' = i
    · subst hi; rw [if_pos ⟨rfl, rfl⟩]
    · rw [if_neg (fun h9 => hi h9.2)]
      exact h.from_ i' (by omega) h2

/-- A region that draws, ended with the same slots in all its orders, whatever follows. -/
theorem region_thenQ {P : Program} {id : Nat} {ops : Array Oper} {dr : Bool} {Q : Exit → Act → World → Prop} {a : Act} {w : World} (L : List (Nat × Value)) (F : World → Prop)
    (h : (Code.region id ops dr).wp P (fun e a' w' => e = .normal ∧ a' = { tmps := setAll a.tmps L, defers := a.defers } ∧ F w') a w)
    (h2 : ∀ w', F w' → Q .normal { tmps := setAll a.tmps L, defers := a.defers } w') : (Code.region id ops dr).wp P Q a w := by
  refine wp_mono h ?_
  rintro e a' w' ⟨rfl, rfl, hF⟩
  exact h2 w' hF

set_option maxHeartbeats 8000000 in
theorem mark_any (hB : Bs p f xb xo icap fb fo lcap w0) (hn : p.n = n) (hS : Sd w0 b (.slice (some ⟨xb, xo, none⟩) n icap) (.slice (some ⟨fb, fo, none⟩) n lcap) m w) (k o : Nat) (hk : k < 4) (ho : o = 2 + 64 * k) (g h : Nat) (T : Nat → Bool)
    (hcg : ∀ (i : Int) (wx : World), (callFunc g #[.pointer (some ⟨b, 0, none⟩), .int .i64 i]).run Tryz.prog wx = .ok (.enter g #[.pointer (some ⟨b, 0, none⟩), .int .i64 i]) wx)
    (hch : ∀ (x : Fa) (wx : World), (callFunc h #[FaV x]).run Tryz.prog wx = .ok (.enter h #[FaV x]) wx)
    (hg : ∀ (wx : World) (m' : Nat → Nat → Bool) (i : Nat), Sd w0 b (.slice (some ⟨xb, xo, none⟩) n icap) (.slice (some ⟨fb, fo, none⟩) n lcap) m' wx → Agr n k T (i + 1) m m' → i < n → p.sub i = true → Calls Tryz.prog g #[.pointer (some ⟨b, 0, none⟩), .int .i64 (i : Int)] wx fun e w' => e = .returned (.bool (T i)) ∧ Below wx.heap.size wx w')
    (hh : ∀ (wx : World) (i : Nat), i < n → p.sub i = false → Calls Tryz.prog h #[FaV (f i)] wx fun e w' => e = .returned (.bool (T i)) ∧ Below wx.heap.size wx w') :
    Calls Tryz.prog 36 #[.pointer (some ⟨b, 0, none⟩), .pointer (some ⟨b, o, none⟩), .func (Fn.func h) #[] #[], .func (Fn.func g) #[.pointer (some ⟨b, 0, none⟩)] #[]] w fun e w' => e = .returned (.tuple #[]) ∧ ∃ m', Sd w0 b (.slice (some ⟨xb, xo, none⟩) n icap) (.slice (some ⟨fb, fo, none⟩) n lcap) m' w' ∧ Agr n k T 0 m m' := by
  have hle : n ≤ 64 := by have := hB.le; omega
  have hic : n ≤ icap := by have := hB.icap; omega
  have hlc : n ≤ lcap := by have := hB.lcap; omega
  have hpos : 1 ≤ n := by have := hB.ok.pos; omega
  have HB : Hid _ := hB
  have HG : Hid _ := hg
  have HH : Hid _ := hh
  have HO : Hid _ := ho
  have HK : Hid _ := hk
  have HN : Hid _ := hn
  have HS : Hid _ := hS
  have c0 := hS.c0
  clear hB hS hg hh hn ho hk
  go_enter Tryz.func36, Tryz.ntmps36
  go_wp2_with fail
  go_loopw [8] (fun iv wr => ∃ (j : Nat) (z : Int), j ≤ n ∧ z = (j : Int) - 1 ∧ iv = .int .i64 z ∧ Hid (∃ m', Sd w0 b (.slice (some ⟨xb, xo, none⟩) n icap) (.slice (some ⟨fb, fo, none⟩) n lcap) m' wr ∧ Agr n k T j m m')) (fun iv _ => (intOf iv + 1).toNat)
  case atStart => exact ⟨n, (n : Int) - 1, by omega, rfl, by go_num, m, HS.out, fun _ _ _ => rfl, fun i h1 h2 => by omega⟩
  case round =>
    obtain ⟨j, z, hj, hz, rfl, HM⟩ := hrel
    rename World => wr
    cases j with
    | zero =>
      have hz2 : ¬ 0 ≤ z := by omega
      go_wp2_with fail
      go_end0
      exact ⟨rfl, HM.out⟩
    | succ i =>
      obtain rfl : z = (i : Int) := by omega
      clear hz
      have hz2 : (0 : Int) ≤ (i : Int) := by omega
      obtain ⟨m', hS1, hA⟩ := HM.out
      obtain ⟨s1, s2, zi, za, av, am, ac, k0, k1, k2, k3, k4, k5, k6, k7, _⟩ := (HB.out.later hS1.bel).it i (by have := HN.out; omega)
      have z0 := hS1.c0
      have hii : (i : Int) < (n : Int) := by omega
      have hii2 : (i : Int) < 64 := by omega
      have HS1 : Hid _ := hS1
      have HA : Hid _ := hA
      clear k0 k1 k3 k4 k5 k6 k7 hS1 hA HM
      have hS0 : ∃ m9, Sd w0 b (.slice (some ⟨xb, xo, none⟩) n icap) (.slice (some ⟨fb, fo, none⟩) n lcap) m9 wr.drew := ⟨m', HS1.out.later (Below.refl _ _).drew⟩
      have hCUR : Sd w0 b (.slice (some ⟨xb, xo, none⟩) n icap) (.slice (some ⟨fb, fo, none⟩) n lcap) m' wr.drew := HS1.out.later (Below.refl _ _).drew
      cases hsub : p.sub i with
      | true =>
        rw [hsub] at k2
        have HGI : Hid (Calls Tryz.prog g #[.pointer (some ⟨b, 0, none⟩), .int .i64 (i : Int)] wr.drew fun e w' => e = .returned (.bool (T i)) ∧ Sd w0 b (.slice (some ⟨xb, xo, none⟩) n icap) (.slice (some ⟨fb, fo, none⟩) n lcap) m' w') := Calls.mono (HG.out _ _ i hCUR HA.out (by omega) hsub) (by rintro e w2 ⟨rfl, hb⟩; exact ⟨rfl, hCUR.later hb⟩)
        clear hsub
        go_wp2_with fail
        refine region_thenQ [(27, .pointer (some ⟨b, o, none⟩)), (28, .int .i64 i), (29, .func (Fn.func g) #[.pointer (some ⟨b, 0, none⟩)] #[]), (30, .int .i64 i), (31, .bool (T i)), (32, .pointer (some ⟨b, o, none⟩)), (33, .pointer (some ⟨b, o + i, none⟩))] (fun w' => Sd w0 b (.slice (some ⟨xb, xo, none⟩) n icap) (.slice (some ⟨fb, fo, none⟩) n lcap) (put2 m' k i (T i)) w') ?_ ?_
        · refine wp_region_held (S := fun w' => ∃ m9, Sd w0 b (.slice (some ⟨xb, xo, none⟩) n icap) (.slice (some ⟨fb, fo, none⟩) n lcap) m9 w') (by kernel_rfl) ?_
          simp only [List.size_toArray, List.length_cons, List.length_nil, Nat.reduceAdd, Array.replicate_succ, Array.replicate_zero, List.push_toArray, List.nil_append, List.cons_append]
          refine takeD (i := 0) (d := 27) (v := .pointer (some ⟨b, o, none⟩)) (fuel := 7) rfl rfl (by kernel_rfl) (by kernel_rfl) (by kernel_rfl) (fun _ _ _ h => by cases h.1) (.inl ⟨by kernel_rfl, fun _ _ => by kernel_rfl⟩) hS0 ?_
          simp only [List.setIfInBounds_toArray, List.set_cons_succ, List.set_cons_zero]
          refine takeD (i := 1) (d := 28) (v := .int .i64 i) (fuel := 6) rfl rfl (by kernel_rfl) (by kernel_rfl) (by kernel_rfl) (fun _ _ _ h => by cases h.1) (.inl ⟨by kernel_rfl, fun _ _ => by kernel_rfl⟩) hS0 ?_
          simp only [List.setIfInBounds_toArray, List.set_cons_succ, List.set_cons_zero]
          refine takeD (i := 2) (d := 29) (v := .func (Fn.func g) #[.pointer (some ⟨b, 0, none⟩)] #[]) (fuel := 5) rfl rfl (by kernel_rfl) (by kernel_rfl) (by kernel_rfl) (fun _ _ _ h => by cases h.1) (.inl ⟨by kernel_rfl, fun _ _ => by kernel_rfl⟩) hS0 ?_
          simp only [List.setIfInBounds_toArray, List.set_cons_succ, List.set_cons_zero]
          refine takeD (i := 3) (d := 30) (v := .int .i64 i) (fuel := 4) rfl rfl (by kernel_rfl) (by kernel_rfl) (by kernel_rfl) (fun _ _ _ h => by cases h.1) (.inl ⟨by kernel_rfl, fun _ _ => by kernel_rfl⟩) hS0 ?_
          simp only [List.setIfInBounds_toArray, List.set_cons_succ, List.set_cons_zero]
          refine takeD (i := 5) (d := 32) (v := .pointer (some ⟨b, o, none⟩)) (fuel := 3) rfl rfl (by kernel_rfl) (by kernel_rfl) (by kernel_rfl) (fun _ _ _ h => by cases h.1) (.inl ⟨by kernel_rfl, fun _ _ => by go_simp⟩) hS0 ?_
          simp only [List.setIfInBounds_toArray, List.set_cons_succ, List.set_cons_zero]
          refine oneW (R := fun w' => Sd w0 b (.slice (some ⟨xb, xo, none⟩) n icap) (.slice (some ⟨fb, fo, none⟩) n lcap) m' w') (i := 4) (d := 31) (f := g) (args := #[.pointer (some ⟨b, 0, none⟩), .int .i64 i]) (v := .bool (T i)) (fuel := 2) rfl rfl (by kernel_rfl) (by kernel_rfl) (fun wx => by have h9 := hcg i wx; go_simp) (HGI.out) (fun w' h => ⟨_, h⟩) (fun wz hR4 => ?_)
          simp only [List.setIfInBounds_toArray, List.set_cons_succ, List.set_cons_zero]
          refine takeD (i := 6) (d := 33) (v := .pointer (some ⟨b, o + i, none⟩)) (fuel := 1) rfl rfl (by kernel_rfl) (by kernel_rfl) (by kernel_rfl) (fun _ _ _ h => by cases h.1) (.inl ⟨by kernel_rfl, fun _ _ => by go_simp⟩) (⟨_, hR4⟩) ?_
          simp only [List.setIfInBounds_toArray, List.set_cons_succ, List.set_cons_zero]
          refine wpAnyH_all (fuel := 0) (rs := [7]) (by kernel_rfl) (by decide) (List.forall_mem_singleton.2 ?_)
          have hP := hR4.put (o := o + i) (T i) HK.out (show i < 64 by omega) (by have := HO.out; omega)
          have c9 : wz.cell? ⟨b, o + i, none⟩ = some (.bool (m' k i)) := by rw [HO.out]; exact hR4.mark HK.out (by omega)
          have f9 := Dg.froz_row hR4.sb (o + i)
          refine wpOp_skip (i := 7) (w' := wz.setCell ⟨b, o + i, none⟩ (.bool (T i))) rfl rfl (by kernel_rfl) (by go_simp) ⟨⟨_, hP⟩, ?_⟩
          refine wpAnyH_done (by kernel_rfl) ?_ _
          exact ⟨rfl, by kernel_rfl, hP⟩
        · intro w9 hF
          simp only [setAll, List.setIfInBounds_toArray, List.set_cons_succ, List.set_cons_zero, Exit.inBlock, Exit.then]
          have HF9 : Hid _ := hF
          clear hF
          go_wp2_with fail
          go_roundw
          case rel => exact ⟨i, (i : Int) - 1, by omega, rfl, by go_num, _, HF9.out, HA.out.put⟩
          case measure => simp [intOf] <;> omega
      | false =>
        rw [hsub] at k2
        have HHI : Hid (Calls Tryz.prog h #[FaV (f i)] wr.drew fun e w' => e = .returned (.bool (T i)) ∧ Sd w0 b (.slice (some ⟨xb, xo, none⟩) n icap) (.slice (some ⟨fb, fo, none⟩) n lcap) m' w') := Calls.mono (HH.out _ i (by omega) hsub) (by rintro e w2 ⟨rfl, hb⟩; exact ⟨rfl, hCUR.later hb⟩)
        have HFC : Hid (∀ W, Below w0.heap.size w0 W → W.cell? ⟨fb, fo + i * 4, none⟩ = some (.int .i64 (f i).run) ∧ W.cell? ⟨fb, fo + i * 4 + 1, none⟩ = some (.int .i64 (f i).tries) ∧ W.cell? ⟨fb, fo + i * 4 + 2, none⟩ = some (.int .i64 (f i).slips) ∧ W.cell? ⟨fb, fo + i * 4 + 3, none⟩ = some (.bool (f i).un)) := fun W hb => (HB.out.later hb).fa i (by have := HN.out; omega)
        have HF : Hid (FaV (f i) = .agg #[.int .i64 (f i).run, .int .i64 (f i).tries, .int .i64 (f i).slips, .bool (f i).un]) := rfl
        clear hsub
        go_wp2_with fail
        refine region_thenQ [(34, .pointer (some ⟨b, o, none⟩)), (35, .int .i64 i), (36, .func (Fn.func h) #[] #[]), (37, .pointer (some ⟨b, 0, none⟩)), (38, .pointer (some ⟨b, 0, none⟩)), (39, .pointer (some ⟨b, 1, none⟩)), (40, .slice (some ⟨fb, fo, none⟩) n lcap), (41, .int .i64 i), (42, .pointer (some ⟨fb, fo + i * 4, none⟩)), (43, FaV (f i)), (44, .bool (T i)), (45, .pointer (some ⟨b, o, none⟩)), (46, .pointer (some ⟨b, o + i, none⟩))] (fun w' => Sd w0 b (.slice (some ⟨xb, xo, none⟩) n icap) (.slice (some ⟨fb, fo, none⟩) n lcap) (put2 m' k i (T i)) w') ?_ ?_
        · refine wp_region_held (S := fun w' => ∃ m9, Sd w0 b (.slice (some ⟨xb, xo, none⟩) n icap) (.slice (some ⟨fb, fo, none⟩) n lcap) m9 w') (by kernel_rfl) ?_
          simp only [List.size_toArray, List.length_cons, List.length_nil, Nat.reduceAdd, Array.replicate_succ, Array.replicate_zero, List.push_toArray, List.nil_append, List.cons_append]
          refine takeD (i := 0) (d := 34) (v := .pointer (some ⟨b, o, none⟩)) (fuel := 13) rfl rfl (by kernel_rfl) (by kernel_rfl) (by kernel_rfl) (fun _ _ _ h => by cases h.1) (.inl ⟨by kernel_rfl, fun _ _ => by kernel_rfl⟩) hS0 ?_
          simp only [List.setIfInBounds_toArray, List.set_cons_succ, List.set_cons_zero]
          refine takeD (i := 1) (d := 35) (v := .int .i64 i) (fuel := 12) rfl rfl (by kernel_rfl) (by kernel_rfl) (by kernel_rfl) (fun _ _ _ h => by cases h.1) (.inl ⟨by kernel_rfl, fun _ _ => by kernel_rfl⟩) hS0 ?_
          simp only [List.setIfInBounds_toArray, List.set_cons_succ, List.set_cons_zero]
          refine takeD (i := 2) (d := 36) (v := .func (Fn.func h) #[] #[]) (fuel := 11) rfl rfl (by kernel_rfl) (by kernel_rfl) (by kernel_rfl) (fun _ _ _ h => by cases h.1) (.inl ⟨by kernel_rfl, fun _ _ => by kernel_rfl⟩) hS0 ?_
          simp only [List.setIfInBounds_toArray, List.set_cons_succ, List.set_cons_zero]
          refine takeD (i := 3) (d := 37) (v := .pointer (some ⟨b, 0, none⟩)) (fuel := 10) rfl rfl (by kernel_rfl) (by kernel_rfl) (by kernel_rfl) (fun _ _ _ h => by cases h.1) (.inl ⟨by kernel_rfl, fun _ _ => by kernel_rfl⟩) hS0 ?_
          simp only [List.setIfInBounds_toArray, List.set_cons_succ, List.set_cons_zero]
          refine takeD (i := 4) (d := 38) (v := .pointer (some ⟨b, 0, none⟩)) (fuel := 9) rfl rfl (by kernel_rfl) (by kernel_rfl) (by kernel_rfl) (fun _ _ _ h => by cases h.1) (.inl ⟨by kernel_rfl, fun _ _ => by go_simp⟩) hS0 ?_
          simp only [List.setIfInBounds_toArray, List.set_cons_succ, List.set_cons_zero]
          refine takeD (i := 5) (d := 39) (v := .pointer (some ⟨b, 1, none⟩)) (fuel := 8) rfl rfl (by kernel_rfl) (by kernel_rfl) (by kernel_rfl) (fun _ _ _ h => by cases h.1) (.inl ⟨by kernel_rfl, fun _ _ => by go_simp⟩) hS0 ?_
          simp only [List.setIfInBounds_toArray, List.set_cons_succ, List.set_cons_zero]
          refine takeD (i := 6) (d := 40) (v := .slice (some ⟨fb, fo, none⟩) n lcap) (fuel := 7) rfl rfl (by kernel_rfl) (by kernel_rfl) (by kernel_rfl) (fun _ _ _ h => by cases h.1) (.inl ⟨by kernel_rfl, fun wx h => by obtain ⟨m9, h9⟩ := h; have z1 := h9.c1; go_simp⟩) hS0 ?_
          simp only [List.setIfInBounds_toArray, List.set_cons_succ, List.set_cons_zero]
          refine takeD (i := 7) (d := 41) (v := .int .i64 i) (fuel := 6) rfl rfl (by kernel_rfl) (by kernel_rfl) (by kernel_rfl) (fun _ _ _ h => by cases h.1) (.inl ⟨by kernel_rfl, fun _ _ => by kernel_rfl⟩) hS0 ?_
          simp only [List.setIfInBounds_toArray, List.set_cons_succ, List.set_cons_zero]
          refine takeD (i := 8) (d := 42) (v := .pointer (some ⟨fb, fo + i * 4, none⟩)) (fuel := 5) rfl rfl (by kernel_rfl) (by kernel_rfl) (by kernel_rfl) (fun _ _ _ h => by cases h.1) (.inl ⟨by kernel_rfl, fun _ _ => by go_simp⟩) hS0 ?_
          simp only [List.setIfInBounds_toArray, List.set_cons_succ, List.set_cons_zero]
          refine takeD (i := 9) (d := 43) (v := FaV (f i)) (fuel := 4) rfl rfl (by kernel_rfl) (by kernel_rfl) (by kernel_rfl) (fun _ _ _ h => by cases h.1) (.inl ⟨by kernel_rfl, fun wx h => by rw [HF.out]; obtain ⟨m9, h9⟩ := h; obtain ⟨y0, y1, y2, y3⟩ := HFC.out wx h9.bel; go_simp⟩) hS0 ?_
          simp only [List.setIfInBounds_toArray, List.set_cons_succ, List.set_cons_zero]
          refine takeD (i := 11) (d := 45) (v := .pointer (some ⟨b, o, none⟩)) (fuel := 3) rfl rfl (by kernel_rfl) (by kernel_rfl) (by kernel_rfl) (fun _ _ _ h => by cases h.1) (.inl ⟨by kernel_rfl, fun _ _ => by go_simp⟩) hS0 ?_
          simp only [List.setIfInBounds_toArray, List.set_cons_succ, List.set_cons_zero]
          refine oneW (R := fun w' => Sd w0 b (.slice (some ⟨xb, xo, none⟩) n icap) (.slice (some ⟨fb, fo, none⟩) n lcap) m' w') (i := 10) (d := 44) (f := h) (args := #[FaV (f i)]) (v := .bool (T i)) (fuel := 2) rfl rfl (by kernel_rfl) (by kernel_rfl) (fun wx => by have h9 := hch (f i) wx; go_simp) (HHI.out) (fun w' h => ⟨_, h⟩) (fun wz hR10 => ?_)
          simp only [List.setIfInBounds_toArray, List.set_cons_succ, List.set_cons_zero]
          refine takeD (i := 12) (d := 46) (v := .pointer (some ⟨b, o + i, none⟩)) (fuel := 1) rfl rfl (by kernel_rfl) (by kernel_rfl) (by kernel_rfl) (fun _ _ _ h => by cases h.1) (.inl ⟨by kernel_rfl, fun _ _ => by go_simp⟩) (⟨_, hR10⟩) ?_
          simp only [List.setIfInBounds_toArray, List.set_cons_succ, List.set_cons_zero]
          refine wpAnyH_all (fuel := 0) (rs := [13]) (by kernel_rfl) (by decide) (List.forall_mem_singleton.2 ?_)
          have hP := hR10.put (o := o + i) (T i) HK.out (show i < 64 by omega) (by have := HO.out; omega)
          have c9 : wz.cell? ⟨b, o + i, none⟩ = some (.bool (m' k i)) := by rw [HO.out]; exact hR10.mark HK.out (by omega)
          have f9 := Dg.froz_row hR10.sb (o + i)
          refine wpOp_skip (i := 13) (w' := wz.setCell ⟨b, o + i, none⟩ (.bool (T i))) rfl rfl (by kernel_rfl) (by go_simp) ⟨⟨_, hP⟩, ?_⟩
          refine wpAnyH_done (by kernel_rfl) ?_ _
          exact ⟨rfl, by kernel_rfl, hP⟩
        · intro w9 hF
          simp only [setAll, List.setIfInBounds_toArray, List.set_cons_succ, List.set_cons_zero, Exit.inBlock, Exit.then]
          have HF9 : Hid _ := hF
          clear hF
          go_wp2_with fail
          go_roundw
          case rel => exact ⟨i, (i : Int) - 1, by omega, rfl, by go_num, _, HF9.out, HA.out.put⟩
          case measure => simp [intOf] <;> omega
end Go.Proofs.YtgdnlceliiekkaaGreatDoor.Sa

/- The statuses; the body in which an item stands. -/
namespace Go.Proofs.YtgdnlceliiekkaaGreatDoor.Sa
open Go.RowKit Go.Shelf Go.Proofs.YtgdnlceliiekkaaGreatDoor.Fc Go.Proofs.YtgdnlceliiekkaaGreatDoor.St
set_option maxRecDepth 1000000
set_option linter.unusedVariables false

variable {p : Pl} {f : Nat → Fa} {xb xo icap fb fo lcap : Nat} {w0 : World} {b : Nat} {m : Nat → Nat → Bool} {w : World} {n : Nat}

set_option maxHeartbeats 2000000 in
theorem stepStatus_any (x : Fa) (hx : okF x) (w : World) : Calls Tryz.prog 46 #[FaV x] w fun e w' => e = .returned (.int .i64 (stepS x)) ∧ Below w.heap.size w w' := by
  obtain ⟨c0, c1, c2, c3⟩ := row_cells (Dg.row_new w x.cells.toArray 65)
  obtain ⟨a1, a2, a3, a4, a5, a6, a7⟩ := hx
  obtain ⟨E, HE⟩ : ∃ E, Hid (E = stepS x) := ⟨_, rfl⟩
  rw [← HE.out]
  have HD : Hid _ := stepDone_any x
  have HF : Hid (FaV x = .agg #[.int .i64 x.run, .int .i64 x.tries, .int .i64 x.slips, .bool x.un]) := rfl
  unfold FaV at *
  unfold Fa.cells at c0 c1 c2 c3
  have HB : Hid _ := bl1 w (.cells #[.int .i64 x.run, .int .i64 x.tries, .int .i64 x.slips, .bool x.un] 65)
  have hr : x.run = 0 ∨ x.run = 1 ∨ x.run = 3 ∨ x.run = 2 := by omega
  rcases hr with h | h | h | h
  · rw [h] at c0 c1 c2 c3 HB HF HD ⊢
    have HX : Hid (E = 0) := by show _ = _; rw [HE.out]; simp [stepS, h]
    go_enter Tryz.func46, Tryz.ntmps46
    go_wp2_with fail
    go_ret
    exact ⟨by rw [HX.out]; rfl, HB.out⟩
  · rw [h] at c0 c1 c2 c3 HB HF HD ⊢
    have HX : Hid (E = 1) := by show _ = _; rw [HE.out]; simp [stepS, h]
    go_enter Tryz.func46, Tryz.ntmps46
    go_wp2_with fail
    go_ret
    exact ⟨by rw [HX.out]; rfl, HB.out⟩
  · rw [h] at c0 c1 c2 c3 HB HF HD ⊢
    have HX : Hid (E = 3) := by show _ = _; rw [HE.out]; simp [stepS, h]
    go_enter Tryz.func46, Tryz.ntmps46
    go_wp2_with fail
    go_ret
    exact ⟨by rw [HX.out]; rfl, HB.out⟩
  · rw [h] at c0 c1 c2 c3 HB HF HD ⊢
    have HX : Hid (E = if decide (x.tries = 0) = true then 2 else if x.un = true then 5 else 4) := by show _ = _; rw [HE.out]; simp [stepS, h]
    have HD2 : Hid (∀ w : World, Calls Tryz.prog 43 #[.agg #[.int .i64 2, .int .i64 x.tries, .int .i64 x.slips, .bool x.un]] w fun e w' => e = .returned (.bool (decide (x.tries = 0))) ∧ Below w.heap.size w w') := fun w => HD.out w
    generalize decide (x.tries = 0) = q at *
    generalize x.un = un at *
    clear a1 a2 a3 a4 a5 a6 a7 HD HE HF
    go_enter Tryz.func46, Tryz.ntmps46
    go_wp2_with fail
    refine Calls.mono (HD2.out _) ?_
    rintro e w2 ⟨rfl, hb2⟩
    have HB2 : Hid _ := HB.out.trans (hb2.mono HB.out.size)
    have d3 := Dg.cell_later hb2 c3
    clear HD2 HB hb2 c0 c1 c2 c3
    cases q with
    | true =>
      go_wp2_with fail
      go_ret
      exact ⟨by rw [HX.out]; rfl, HB2.out⟩
    | false =>
      cases un with
      | true =>
        go_wp2_with fail
        go_ret
        exact ⟨by rw [HX.out]; rfl, HB2.out⟩
      | false =>
        go_wp2_with fail
        go_ret
        exact ⟨by rw [HX.out]; rfl, HB2.out⟩

/-- What holds of an item, by its marks. -/
def iwM (m : Nat → Nat → Bool) (i : Nat) : IW := ⟨m 1 i, m 2 i, m 3 i, m 0 i, 0⟩

set_option maxHeartbeats 4000000 in
theorem sagaStatus_any {v lv : Value} (hS : Sd w0 b v lv m w) {s : Nat} (hs : s < 64) (hl : Bool) :
    Calls Tryz.prog 48 #[.pointer (some ⟨b, 0, none⟩), .int .i64 (s : Int), .bool hl] w fun e w' => e = .returned (.int .i64 (sagaS (iwM m s) hl)) ∧ Below w.heap.size w w' := by
  obtain ⟨E, HE⟩ : ∃ E, Hid (E = sagaS (iwM m s) hl) := ⟨_, rfl⟩
  rw [← HE.out]
  have HX : Hid (E = if m 0 s = false then 0 else if m 3 s then 2 else if m 2 s then 3 else if hl = false then 1 else if m 1 s then 5 else 4) := HE.out
  have c0 := hS.m0 hs
  have c1 := hS.m1 hs
  have c2 := hS.m2 hs
  have c3 := hS.m3 hs
  have hii : (s : Int) < 64 := by omega
  clear hS HE
  generalize m 0 s = q0 at *
  generalize m 1 s = q1 at *
  generalize m 2 s = q2 at *
  generalize m 3 s = q3 at *
  cases q0 with
  | false =>
    go_enter Tryz.func48, Tryz.ntmps48
    go_wp2_with fail
    go_ret
    exact ⟨by rw [HX.out]; rfl, Below.refl _ _⟩
  | true =>
    cases q3 with
    | true =>
      go_enter Tryz.func48, Tryz.ntmps48
      go_wp2_with fail
      go_ret
      exact ⟨by rw [HX.out]; rfl, Below.refl _ _⟩
    | false =>
      cases q2 with
      | true =>
        go_enter Tryz.func48, Tryz.ntmps48
        go_wp2_with fail
        go_ret
        exact ⟨by rw [HX.out]; rfl, Below.refl _ _⟩
      | false =>
        cases hl with
        | false =>
          go_enter Tryz.func48, Tryz.ntmps48
          go_wp2_with fail
          go_ret
          exact ⟨by rw [HX.out]; rfl, Below.refl _ _⟩
        | true =>
          cases q1 with
          | true =>
            go_enter Tryz.func48, Tryz.ntmps48
            go_wp2_with fail
            go_ret
            exact ⟨by rw [HX.out]; rfl, Below.refl _ _⟩
          | false =>
            go_enter Tryz.func48, Tryz.ntmps48
            go_wp2_with fail
            go_ret
            exact ⟨by rw [HX.out]; rfl, Below.refl _ _⟩

theorem drawn_below {B : Nat} {w w' : World} (h : Below B w w') (n : Nat) : Below B w (w'.drewN n) := ⟨h.os, h.tape, h.output, h.size, h.block⟩

/-- An item as a value. -/
def ItA (s1 s2 : ByteArray) (sub vi : Bool) (al zi za : Int) (zv : Value) : Value := .agg #[.string s1, .string s2, .bool sub, .bool vi, .int .i64 al, .int .i64 zi, .int .i64 za, zv]

set_option maxHeartbeats 4000000 in
theorem around_any (c o i : Nat) (s1 s2 : ByteArray) (sub vi : Bool) (al zi za : Int) (av : Option Addr) (am ac : Nat) (r : Bool) (hi : i < 64)
    (hM : 1 ≤ i → ∃ s a : Nat, zi = (s : Int) ∧ za = (a : Int) ∧ s < 64 ∧ a < 4 ∧ w.cell? ⟨c, o + s * 4 + a, none⟩ = some (.bool r)) :
    Calls Tryz.prog 49 #[.pointer (some ⟨c, o, none⟩), .int .i64 (i : Int), ItA s1 s2 sub vi al zi za (.slice av am ac)] w fun e w' => e = .returned (.bool (decide (0 < i) && r)) ∧ Below w.heap.size w w' := by
  have hb1 := bl1 w (.cells #[.string s1, .string s2, .bool sub, .bool vi, .int .i64 al, .int .i64 zi, .int .i64 za, .slice av am ac] 37)
  have r1 := Dg.row_new w #[.string s1, .string s2, .bool sub, .bool vi, .int .i64 al, .int .i64 zi, .int .i64 za, .slice av am ac] 37
  have c5 := (Dg.cell_row r1 5).trans rfl
  have c6 := (Dg.cell_row r1 6).trans rfl
  have HB : Hid _ := hb1
  unfold ItA
  by_cases h0 : 1 ≤ i
  · obtain ⟨s, a, rfl, rfl, hs, ha, hc⟩ := hM h0
    have hc2 := Dg.cell_later hb1 hc
    have h0' : decide (0 < i) = true := decide_eq_true h0
    have hg : decide ((i : Int) > 0) = true := decide_eq_true (by omega)
    have hs2 : (s : Int) < 64 := by omega
    have ha2 : (a : Int) < 4 := by omega
    rw [h0']
    clear hM hb1 r1 h0 hc
    go_enter Tryz.func49, Tryz.ntmps49
    go_wp2_with fail
    go_quiet (fail)
    go_wp2_with fail
    go_ret
    exact ⟨rfl, drawn_below HB.out _⟩
  · obtain rfl : i = 0 := by omega
    have hg : decide ((0 : Int) > 0) = false := rfl
    clear hM hb1 r1 h0
    go_enter Tryz.func49, Tryz.ntmps49
    go_wp2_with fail
    go_quiet (fail)
    go_wp2_with fail
    go_ret
    exact ⟨rfl, drawn_below HB.out _⟩
end Go.Proofs.YtgdnlceliiekkaaGreatDoor.Sa

