/- Texts of the seat, packed: Kc. -/
import Derived.Test.YtkndchbpbaecbaaGreatDoorP11
import Derived.Test.YtkndchbpbaecbaaGreatDoorP12
import Derived.Laws.CopyOwn
import Derived.Laws.Tables
/- A turn in memory. -/
namespace Go.Proofs.YtkndchbpbaecbaaGreatDoor.Fc
open Go.RowKit Go.Shelf
set_option maxRecDepth 1000000
set_option linter.unusedVariables false

theorem wpOp_skip {P : Program} {ops : Array Oper} {Q : Exit → Act → World → Prop} {i : Nat} {K : Act → World → Prop} {a : Act} {w w' : World} {o : Oper} (hi : ops[i]? = some o) (hd : o.dst = none) (hw : Region.wanted o (yielded ops a.tmps) = true)
    (hrun : (execOp a.eval o).run P w = .ok .skip w') (hK : K a w') : wpOp P ops Q i K a w := by
  have hp : a.put o.dst undef = a := by rw [hd]; rfl
  unfold wpOp
  simp only [hi]
  rw [if_pos hw]
  refine .inl ?_
  unfold Oper.wp
  rw [hrun]
  show K (a.put o.dst undef) w'
  rw [hp]
  exact hK

/-- Two facts held against each other. -/
theorem eq_if (r t s : Int) (u : Bool) (r' t' s' : Int) (u' : Bool) {α : Type} (x : Bool → α) : (if r = r' then if t = t' then if s = s' then if u = u' then x true else x false else x false else x false else x false) = x (decide ((⟨r, t, s, u⟩ : Fa) = ⟨r', t', s', u'⟩)) := by
  simp only [Fa.mk.injEq]
  repeat' split
  all_goals simp_all

theorem eq_fact (f g : Fa) (w : World) : (Go.binOp .eql 38 (FaV f) (FaV g)).run Tryz.prog w = .ok (.bool (decide (f = g))) w := by
  obtain ⟨r, t, s, u⟩ := f
  obtain ⟨r', t', s', u'⟩ := g
  rw [← eq_if (x := fun b => Result.ok (Value.bool b) w)]
  unfold FaV
  go_simp

theorem eq_exec (f g : Fa) {o : Oper} {x y : Operand} {a : Act} {w : World} {q : Bool} {ty : TypeId} (ho : o.op = .binOp .eql 38 x y ty) (hx : a.eval x = FaV f) (hy : a.eval y = FaV g) (hq : decide (f = g) = q) : (execOp a.eval o).run Tryz.prog w = .ok (.value (.bool q)) w := by
  unfold execOp
  subst hq
  have hg : (eqGuard BinOp.eql 38 x y (FaV f) (FaV g)).run Tryz.prog w = .ok () w := by
    have hk : Tryz.prog.eqGuardType Tryz.prog.depth 38 = false := by kernel_rfl
    unfold eqGuard FaV
    simp [hk]
  simp only [ho, hx, hy, Sem.run_bind, eq_fact, hg, Result.andThen_ok]
  rfl

/-- A turn: what is known, and the try. -/
def TuV (f : Fa) (t : Int) : Value := .agg #[.int .i64 f.run, .int .i64 f.tries, .int .i64 f.slips, .bool f.un, .int .i64 t]

theorem results_fa2 {fn : Func} {p u : Tmp} (h : fn.results = #[.cell p 38, .tmp u]) (tmps : Array Value) (w : World) {g : Nat} {f : Fa}
    (hp : tmps.getD p undef = .pointer (some ⟨g, 0, none⟩)) (hg : w.heap[g]? = some (.cells f.cells.toArray 38 (0, 0))) :
    (results fn tmps).run Tryz.prog w = .ok (.tuple #[FaV f, tmps.getD u undef]) w := by
  have hp' : tmps[p]?.getD undef = .pointer (some ⟨g, 0, none⟩) := by simpa using hp
  simp [results, h, hp', asAddr, run_loadVar_row (P := Tryz.prog) w g 38 38 _ (0, 0) _ hg Tryz.underlying38 rfl (by kernel_rfl)]
  rfl

theorem row_cells {W : World} {n : Nat} {f : Fa} (h : W.heap[n]? = some (.cells f.cells.toArray 38 (0, 0))) : W.cell? ⟨n, 0, none⟩ = some (.int .i64 f.run) ∧ W.cell? ⟨n, 1, none⟩ = some (.int .i64 f.tries) ∧ W.cell? ⟨n, 2, none⟩ = some (.int .i64 f.slips) ∧ W.cell? ⟨n, 3, none⟩ = some (.bool f.un) :=
  ⟨Dg.cell_row h 0, Dg.cell_row h 1, Dg.cell_row h 2, Dg.cell_row h 3⟩

/-- What a method of a turn knows. -/
structure MeS (w : World) (f : Fa) (t : Int) (W : World) : Prop where
  bel : Below w.heap.size w W
  box : W.heap[w.heap.size]? = some (.cells #[.int .i64 f.run, .int .i64 f.tries, .int .i64 f.slips, .bool f.un, .int .i64 t] 76 (0, 0))
  res : ∃ g : Fa, W.heap[w.heap.size + 1]? = some (.cells g.cells.toArray 38 (0, 0))

theorem MeS.later {w : World} {f : Fa} {t : Int} {W W' : World} (h : MeS w f t W) (hb : Below W.heap.size W W') : MeS w f t W' := by
  obtain ⟨g, hg⟩ := h.res
  exact ⟨h.bel.trans (hb.mono h.bel.size), (hb.block _ (Array.getElem?_eq_some_iff.1 h.box).1).trans h.box, g, (hb.block _ (Array.getElem?_eq_some_iff.1 hg).1).trans hg⟩

theorem MeS.c {w : World} {f : Fa} {t : Int} {W : World} (h : MeS w f t W) (i : Nat) : W.cell? ⟨w.heap.size, i, none⟩ = (#[Value.int .i64 f.run, .int .i64 f.tries, .int .i64 f.slips, .bool f.un, .int .i64 t] : Array Value)[i]? := Dg.cell_row h.box i

theorem MeS.init_res (w : World) (f : Fa) (t : Int) : ((w.alloc (.cells #[.int .i64 f.run, .int .i64 f.tries, .int .i64 f.slips, .bool f.un, .int .i64 t] 76)).alloc (.cells #[.int .i64 0, .int .i64 0, .int .i64 0, .bool false] 38)).heap[w.heap.size + 1]? = some (.cells Fa.z.cells.toArray 38 (0, 0)) := by
  have r2 := Dg.row_new (w.alloc (.cells #[.int .i64 f.run, .int .i64 f.tries, .int .i64 f.slips, .bool f.un, .int .i64 t] 76)) #[.int .i64 0, .int .i64 0, .int .i64 0, .bool false] 38
  rw [World.size_alloc] at r2
  exact r2

theorem MeS.init (w : World) (f : Fa) (t : Int) : MeS w f t ((w.alloc (.cells #[.int .i64 f.run, .int .i64 f.tries, .int .i64 f.slips, .bool f.un, .int .i64 t] 76)).alloc (.cells #[.int .i64 0, .int .i64 0, .int .i64 0, .bool false] 38)) :=
  ⟨(bl1 _ _).alloc (by simp) _, Dg.row_alloc (Dg.row_new w _ 76) _, _, MeS.init_res w f t⟩

theorem size38 : (Tryz.prog.info? 38).map (·.size) = some 4 := by kernel_rfl

theorem store_fact {W : World} {n : Nat} {g : Fa} (h : W.heap[n]? = some (.cells g.cells.toArray 38 (0, 0))) (k : Fa) {o : Oper} {x y : Operand} {a : Act} (ho : o.op = .store 38 x y) (hx : a.eval x = .pointer (some ⟨n, 0, none⟩)) (hy : a.eval y = FaV k) : (execOp a.eval o).run Tryz.prog W = .ok .skip (W.setRow n k.cells.toArray) := by
  unfold execOp
  have hy' : a.eval y = .agg k.cells.toArray := hy
  simp only [ho, hx, hy', Instr.storeAt, Instr.sureAddr, Sem.run_bind, Sem.run_pure, Result.andThen_ok, run_storeVar_row W n 38 38 g.cells.toArray k.cells.toArray h size38 rfl (by simp [Fa.cells, Value.oneCell'])]

theorem MeS.step {w : World} {f : Fa} {t : Int} {W : World} {ops : Array Oper} {Q : Exit → Act → World → Prop} {i : Nat} {K : Act → World → Prop} {o : Oper} {x y : Operand} {a : Act} (h : MeS w f t W) (k : Fa) (hi : ops[i]? = some o) (hd : o.dst = none) (hw : Region.wanted o (yielded ops a.tmps) = true) (ho : o.op = .store 38 x y) (hx : a.eval x = .pointer (some ⟨w.heap.size + 1, 0, none⟩)) (hy : a.eval y = FaV k)
    (hK : ∀ W', MeS w f t W' → W'.heap[w.heap.size + 1]? = some (.cells k.cells.toArray 38 (0, 0)) → K a W') : wpOp Tryz.prog ops Q i K a W := by
  obtain ⟨g, hg⟩ := h.res
  have h2 := setRow_heap W (w.heap.size + 1) _ k.cells.toArray 38 (0, 0) hg
  refine wpOp_skip hi hd hw (store_fact hg k ho hx hy) (hK _ ⟨below_setRow h.bel (by omega) _, ?_, k, h2⟩ h2)
  rw [setRow_other _ _ _ _ (by omega)]
  exact h.box

end Go.Proofs.YtkndchbpbaecbaaGreatDoor.Fc

