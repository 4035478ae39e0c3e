/- The walks over take, Pop, Steal. -/
import Derived.Test.YtfhmmiilenonkaaRf
namespace Go.Proofs.Ytfhmmiilenonkaa

open Go.RowKit

set_option maxRecDepth 1000000

set_option linter.unusedVariables false

/-- The job that nothing put. -/
def zJ : Jb := ⟨0, false, 0, false, 0, []⟩

set_option maxHeartbeats 4000000 in
theorem take1_none (T : Nat → Prop) (w w1 : World) (p bd bp bj : Nat) (fv v : Value) (h : DV T w p v []) (hb : Below w.heap.size w w1) (hbd : w1.heap[bd]? = some (.cells #[.pointer (some ⟨p, 0, none⟩)] 53 (0, 0))) :
    Calls Try.prog 69 #[.pointer (some ⟨bd, 0, none⟩), .pointer (some ⟨bp, 0, none⟩), .pointer (some ⟨bj, 0, none⟩)] w1 fun x w' => x = .returned (.int .i64 6) ∧ w' = w1 := by
  have cd := (cell_row hbd 0).trans rfl
  have c1 := (cell_row (row_later h.blk hb) 1).trans rfl
  obtain ⟨ra, rc, rfl, _, _⟩ := h.row.slice
  simp at cd c1
  clear h hbd
  go_enter Try.func69, Try.ntmps69
  go_wp2_with fail
  go_ret
  exact ⟨rfl, rfl⟩

set_option maxHeartbeats 4000000 in
theorem take1_some (T : Nat → Prop) (w w1 : World) (p bd bp bj gp : Nat) (v tv lv : Value) (M M' : List JbP) (x : JbP) (h : DV T w p v M) (hb : Below w.heap.size w w1) (hbd : w1.heap[bd]? = some (.cells #[.pointer (some ⟨p, 0, none⟩)] 53 (0, 0))) (hbp : w1.heap[bp]? = some (.cells #[.func (.func gp) #[] #[]] 111 (0, 0)))
    (hbj : w1.heap[bj]? = some (.cells (jrow (zJ, .slice none 0 0)).toArray 37 (0, 0))) (hlj : w.heap.size ≤ bj) (hld : w.heap.size ≤ bd) (hn1 : bd ≠ bj) (hM0 : M.length ≤ 1000000) (hM1 : 1 ≤ M.length) (hent : Ent gp)
    (hpart : ∀ wx, Calls Try.prog gp #[v] wx fun e w' => e = .returned (.tuple #[tv, lv]) ∧ ∃ q, w' = wx.drewN q) (hP : PartR w v x M' tv lv) (hM : ∀ y ∈ M', y ∈ M) (hx : x ∈ M) :
    Calls Try.prog 69 #[.pointer (some ⟨bd, 0, none⟩), .pointer (some ⟨bp, 0, none⟩), .pointer (some ⟨bj, 0, none⟩)] w1 fun y w' => y = .returned (.int .i64 0) ∧ w'.heap[bj]? = some (.cells (jrow x).toArray 37 (0, 0)) ∧ WS T w p (M'.map Prod.fst) w' ∧ RS T w' x.2 x.1.s ∧ Kp (fun k => T k ∨ k = bj) w1 w' := by
  obtain ⟨g, ot, ct, ol, cl, cur, q1, rfl, rfl, q4, q5, q6, _⟩ := id hP.at'
  have eg : ∀ args w, (callFunc gp args).run Try.prog w = .ok (.enter gp args) w := hent
  have HPt : Hid _ := hpart
  obtain ⟨ra, rc, rfl, hrc1, hrc2⟩ := h.row.slice
  have hgm := h.mine g q1
  have hgl := h.live g hgm.1
  have hpl := h.live p h.own
  have HB : Hid _ := hb
  have hxs : x.2.oneCell' = true := (h.st x hx).one
  obtain ⟨xa, xn, xc, hxv⟩ : ∃ a n c, x.2 = .slice a n c := by obtain ⟨⟨a, c, e, _⟩, _⟩ := h.st x hx; exact ⟨_, _, _, e⟩
  have HE : Hid (∀ vs : List Value, ∀ n, vs.length = 6 → _) := fun vs n hvs => by
    have h9 := take_end (w1 := w1.drewN n) (vs := vs) (bj := bj) (ot := ot) h (below_drewN hb n) (hP.later (below_drewN hb n)) hM hx hlj (cs := (jrow (zJ, .slice none 0 0)).toArray) hbj rfl q1 ⟨ct, rfl⟩ hvs
    exact (⟨h9.1, h9.2.1, h9.2.2.1, ((Kp.refl _ _).drewN n).trans h9.2.2.2 (fun _ h _ => h)⟩ : _ ∧ _ ∧ _ ∧ Kp (fun k => T k ∨ k = bj) w1 _)
  have hgn : ∀ n, (w1.drewN n).heap[g]? = some (.cells cur 37 (0, 0)) := fun n => row_later (row_later q4 hb) (below_drewN (Below.refl _ _) n)
  have cd : ∀ n, (w1.drewN n).cell? ⟨bd, 0, none⟩ = some (.pointer (some ⟨p, 0, none⟩)) := fun n => (cell_row hbd 0).trans rfl
  have cp : ∀ n, (w1.drewN n).cell? ⟨bp, 0, none⟩ = some (.func (.func gp) #[] #[]) := fun n => (cell_row hbp 0).trans rfl
  have c1 : ∀ n, (w1.drewN n).cell? ⟨p, 1, none⟩ = some (.slice ra M.length rc) := fun n => (cell_row (row_later h.blk hb) 1).trans rfl
  have cd0 := cd 0
  have c10 := c1 0
  have hz : ((M.length : Int) == 0) = false := beq_eq_false_iff_ne.2 (by omega)
  have hz2 : ¬ (M.length : Int) = 0 := by omega
  generalize hml : M.length = ml at *
  have cd1 : w1.cell? ⟨bd, 0, none⟩ = some (.pointer (some ⟨p, 0, none⟩)) := cd0
  have c11 : w1.cell? ⟨p, 1, none⟩ = some (.slice ra ml rc) := c10
  have HQ6 : Hid _ := q6
  have HGN : Hid _ := hgn
  have HBJ : Hid _ := hbj
  have HBP : Hid (w1.heap[p]? = some (.cells #[.bool true, .slice ra ml rc] 93 (0, 0))) := row_later h.blk hb
  have HML : Hid _ := hml
  obtain ⟨⟨xi, xu, xt, xb, xk, xs⟩, xv⟩ := x
  dsimp only at hxv
  subst hxv
  have HG6 : Hid (∀ n, JC (w1.drewN n) g ot (⟨xi, xu, xt, xb, xk, xs⟩, .slice xa xn xc)) := fun n => JC.of fun j hj => by rw [cell_row (hgn n)]; exact q6 j hj
  have HB6 : Hid (∀ n, JC (w1.drewN n) bj 0 (zJ, .slice none 0 0) ∧ ∀ o, (w1.drewN n).frozen? ⟨bj, o, none⟩ = false) := fun n => ⟨JC.of_row hbj, fun o => froz_row hbj o⟩
  have HPf : Hid (∀ n, (w1.drewN n).frozen? ⟨p, 1, none⟩ = false) := fun n => froz_row HBP.out 1
  have HCL : Hid (∀ n, ∃ vs : List Value, vs.length = 6 ∧ ∀ ty, (Builtin.clear_ #[91] ty #[.slice (some ⟨g, ot, none⟩) 1 ct]).run Try.prog ((set6 (w1.drewN n) bj 0 (⟨xi, xu, xt, xb, xk, xs⟩, .slice xa xn xc)).setCell ⟨p, 1, none⟩ (.slice (some ⟨g, ol, none⟩) M'.length cl)) = .ok (.tuple #[]) (((set6 (w1.drewN n) bj 0 (⟨xi, xu, xt, xb, xk, xs⟩, .slice xa xn xc)).setCell ⟨p, 1, none⟩ (.slice (some ⟨g, ol, none⟩) M'.length cl)).setCells g ot vs)) := fun n => by
    have k1 : Kp (fun k => k = bj ∨ k = p) (w1.drewN n) ((set6 (w1.drewN n) bj 0 (⟨xi, xu, xt, xb, xk, xs⟩, .slice xa xn xc)).setCell ⟨p, 1, none⟩ (.slice (some ⟨g, ol, none⟩) M'.length cl)) := (set6_kept _ _ _ _ _ (.inl rfl)).set _ _ (.inr rfl)
    have hg2 := k1.row (hgn n) (by rintro (rfl | rfl); omega; exact hgm.2 rfl)
    obtain ⟨vs, hv, hr⟩ := run_clear_j 91 91 Try.underlying91 (n := 1) (c := ct) hg2 (by omega)
    refine ⟨vs, hv, fun ty => ?_⟩
    rw [← hr]
    rfl
  clear h hb hbd hbp hbj hpart hP hM hx q4 q6 hgn hml cd0 c10
  go_enter Try.func69, Try.ntmps69
  go_wp2_with fail
  go_quiet ((go_at_fn gp; exact Calls.quiet_of (HPt.out _)))
  obtain ⟨vs, hvs, hcl⟩ := HCL.out (nq + 1)
  have HE2 := HE.out vs (nq + 1) hvs
  obtain ⟨e0, e1, e2, e3, e4, e5⟩ := HG6.out nq
  obtain ⟨⟨b0, b1, b2, b3, b4, b5⟩, bf⟩ := HB6.out nq
  have hpf := HPf.out nq
  have cd2 := cd nq
  have c12 := c1 nq
  rw [show w1.drewN (nq + 1) = (w1.drewN nq).drew from rfl] at hcl HE2
  simp only [set6, Nat.zero_add, World.setCell_drew] at hcl HE2 b1 b2 b3 b4 b5
  have HE3 : Hid _ := HE2
  have n1 : ¬ p = bj := by omega
  have n2 : ¬ bj = p := by omega
  have n3 : ¬ g = bj := by omega
  have n4 : ¬ bj = g := by omega
  have n5 : ¬ bj = bd := fun e => hn1 e.symm
  have n6 : ¬ bd = bj := hn1
  clear cd cp c1 cd1 c11 HE HG6 HB6 HPf HCL HGN HBJ HBP HPt HML HQ6 eg HE2 hxs hent HB hlj hld hrc1 hrc2 hz hz2
  generalize w1.drewN nq = W at *
  go_wp2_with fail
  go_region
  clear e0 e1 e2 e3 e4 e5 b0 b1 b2 b3 b4 b5 bf hpf cd2 c12 n1 n2 n3 n4 n5 n6
  go_wp2_with fail
  go_ret
  exact ⟨rfl, HE3.out⟩

/-- How a deque is taken from. -/
def takeP (pop : Bool) (L : List Jb) : (Jb × Int) × List Jb := if L = [] then ((zJ, 6), []) else if pop = true then ((L.getLastD zJ, 0), L.dropLast) else ((L.headD zJ, 0), L.tail)

theorem results_j2 {fn : Func} {p u : Tmp} (h : fn.results = #[.cell p 37, .tmp u]) (tmps : Array Value) (w : World) {g : Nat} {e : Jb} {v : Value}
    (hp : tmps.getD p undef = .pointer (some ⟨g, 0, none⟩)) (hg : w.heap[g]? = some (.cells (jrow (e, v)).toArray 37 (0, 0))) :
    (results fn tmps).run Try.prog w = .ok (.tuple #[JV e v, tmps.getD u undef]) w := by
  have hp' : tmps[p]?.getD undef = .pointer (some ⟨g, 0, none⟩) := by simpa using hp
  simp [results, h, hp', asAddr, run_loadVar_row (P := Try.prog) w g 37 37 _ (0, 0) _ hg Try.underlying37 rfl (by kernel_rfl)]
  rfl

/-- What a call that takes answers. -/
def TakeC (T : Nat → Prop) (w : World) (p : Nat) (r : (Jb × Int) × List Jb) (e : Ending) (w' : World) : Prop := ∃ sv, e = .returned (.tuple #[JV r.1.1 sv, .int .i64 r.1.2]) ∧ RS T w' sv r.1.1.s ∧ WS T w p r.2 w'

theorem bl4 (w : World) (a b c d : Obj) : Below w.heap.size w ((((w.alloc a).alloc b).alloc c).alloc d) := (bl3 w a b c).alloc (by simp; omega) d

/-- The closure's call. -/
theorem take_call (T : Nat → Prop) (w w1 : World) (p bd bp bj : Nat) (pop : Bool) (L : List Jb) (h : DQ T w p L) (hb : Below w.heap.size w w1) (hbd : w1.heap[bd]? = some (.cells #[.pointer (some ⟨p, 0, none⟩)] 53 (0, 0))) (hbp : w1.heap[bp]? = some (.cells #[.func (.func (if pop = true then 65 else 70)) #[] #[]] 111 (0, 0)))
    (hbj : w1.heap[bj]? = some (.cells (jrow (zJ, .slice none 0 0)).toArray 37 (0, 0))) (hlj : w.heap.size ≤ bj) (hld : w.heap.size ≤ bd) (hn1 : bd ≠ bj) (hl : L.length ≤ 1000000) :
    Calls Try.prog 56 #[.pointer (some ⟨p, 0, none⟩), .func (.func 69) #[] #[.pointer (some ⟨bd, 0, none⟩), .pointer (some ⟨bp, 0, none⟩), .pointer (some ⟨bj, 0, none⟩)]] w1 fun e w' => ∃ k : Int, e = .returned (.int .i64 k) ∧ ∃ sv, k = (takeP pop L).1.2 ∧ w'.heap[bj]? = some (.cells (jrow ((takeP pop L).1.1, sv)).toArray 37 (0, 0)) ∧ RS T w' sv (takeP pop L).1.1.s ∧ WS T w p (takeP pop L).2 w' ∧ Kp (fun k => T k ∨ k = bj) w1 w' := by
  have hmade : w1.cell? ⟨p, 0, none⟩ = some (.bool true) := (h.later hb).made
  refine call_any p 69 #[] _ w1 (fun k w' => ∃ sv, k = (takeP pop L).1.2 ∧ w'.heap[bj]? = some (.cells (jrow ((takeP pop L).1.1, sv)).toArray 37 (0, 0)) ∧ RS T w' sv (takeP pop L).1.1.s ∧ WS T w p (takeP pop L).2 w' ∧ Kp (fun k => T k ∨ k = bj) w1 w') hmade ent69 ?_
  obtain ⟨v, M, hv, rfl⟩ := h
  by_cases hM : M = []
  · subst hM
    refine Calls.mono (take1_none T w w1 p bd bp bj v v hv hb hbd) ?_
    rintro e w' ⟨rfl, h2⟩
    obtain rfl := h2.symm
    exact ⟨6, rfl, .slice none 0 0, rfl, hbj, RS.nil _ _, ⟨(DQ.later ⟨v, [], hv, rfl⟩ hb : DQ T w1 p ([].map Prod.fst)), Kp.of_below T hb⟩, Kp.refl _ _⟩
  · have h1 : 1 ≤ M.length := by
      cases M with
      | nil => exact absurd rfl hM
      | cons a b => simp
    have hl2 : M.length ≤ 1000000 := by rw [List.length_map] at hl; exact hl
    obtain ⟨z, hz⟩ : ∃ z, M[0]? = some z := ⟨_, List.getElem?_eq_getElem (by omega)⟩
    obtain ⟨g, o, c, hve⟩ := hv.row.at' hz
    subst hve
    obtain ⟨_, _, he, hc1, hc2⟩ := hv.row.slice
    simp only [Value.slice.injEq] at he
    obtain ⟨_, _, rfl⟩ := he
    have hmn : M.map Prod.fst ≠ [] := fun e => hM (List.map_eq_nil_iff.1 e)
    cases pop with
    | true =>
      rw [if_pos rfl] at hbp
      obtain ⟨M', x, rfl⟩ : ∃ M' x, M = M' ++ [x] := ⟨M.dropLast, M.getLast hM, (List.dropLast_concat_getLast hM).symm⟩
      have e1 : takeP true ((M' ++ [x]).map Prod.fst) = ((x.1, 0), M'.map Prod.fst) := by
        unfold takeP
        rw [if_neg hmn, if_pos rfl, List.map_append]
        simp
      rw [e1]
      refine Calls.mono (take1_some T w w1 p bd bp bj 65 _ _ _ _ M' x hv hb hbd hbp hbj hlj hld hn1 hl2 h1 ent65 (fun wx => pop1_any g o _ c wx h1 hc1 hc2) (part_pop hv.row) (fun y hy => List.mem_append.2 (.inl hy)) (by simp)) ?_
      rintro e w' ⟨rfl, q1, q2, q3, q4⟩
      exact ⟨0, rfl, x.2, rfl, q1, q3, q2, q4⟩
    | false =>
      rw [if_neg (by decide)] at hbp
      obtain ⟨x, M', rfl⟩ : ∃ x M', M = x :: M' := by
        cases M with
        | nil => exact absurd rfl hM
        | cons a b => exact ⟨a, b, rfl⟩
      have e1 : takeP false ((x :: M').map Prod.fst) = ((x.1, 0), M'.map Prod.fst) := by
        unfold takeP
        rw [if_neg hmn, if_neg (by decide)]
        rfl
      rw [e1]
      refine Calls.mono (take1_some T w w1 p bd bp bj 70 _ _ _ _ M' x hv hb hbd hbp hbj hlj hld hn1 hl2 h1 ent70 (fun wx => steal1_any g o _ c wx h1 hc1 hc2) (part_steal hv.row) (fun y hy => List.mem_cons_of_mem _ hy) (by simp)) ?_
      rintro e w' ⟨rfl, q1, q2, q3, q4⟩
      exact ⟨0, rfl, x.2, rfl, q1, q3, q2, q4⟩

set_option maxHeartbeats 4000000 in
theorem take_any (T : Nat → Prop) (w : World) (p : Nat) (pop : Bool) (L : List Jb) (h : DQ T w p L) (hl : L.length ≤ 1000000) :
    Calls Try.prog 64 #[.pointer (some ⟨p, 0, none⟩), .func (.func (if pop = true then 65 else 70)) #[] #[]] w fun e w' => TakeC T w p (takeP pop L) e w' := by
  generalize hgp : (if pop = true then 65 else 70) = gp at *
  have hmf : ∀ (fn : Fn) (first cap : Array Value) (w : World), (Instr.makeFunc fn first cap).run Try.prog w = .ok (.func fn first cap) w := fun _ _ _ _ => rfl
  have HB4 : Hid _ := bl4 w (.cells #[.pointer (some ⟨p, 0, none⟩)] 53) (.cells #[.func (.func gp) #[] #[]] 111) (.cells (jrow (zJ, .slice none 0 0)).toArray 37) (.cells (jrow (zJ, .slice none 0 0)).toArray 37)
  have hs : ∀ a b : Obj, ((w.alloc a).alloc b).heap.size = w.heap.size + 1 + 1 := fun a b => by rw [World.size_alloc, World.size_alloc]
  have R0 : Hid ((((((w.alloc (.cells #[.pointer (some ⟨p, 0, none⟩)] 53)).alloc (.cells #[.func (.func gp) #[] #[]] 111)).alloc (.cells (jrow (zJ, .slice none 0 0)).toArray 37)).alloc (.cells (jrow (zJ, .slice none 0 0)).toArray 37))).heap[w.heap.size]? = _) := row_later (row_new1 w _ _) (bl2 _ _ _)
  have R1 : Hid ((((((w.alloc (.cells #[.pointer (some ⟨p, 0, none⟩)] 53)).alloc (.cells #[.func (.func gp) #[] #[]] 111)).alloc (.cells (jrow (zJ, .slice none 0 0)).toArray 37)).alloc (.cells (jrow (zJ, .slice none 0 0)).toArray 37))).heap[w.heap.size + 1]? = _) := row_later (row_new2 w _ _) (bl2 _ _ _)
  have R2 : Hid ((((((w.alloc (.cells #[.pointer (some ⟨p, 0, none⟩)] 53)).alloc (.cells #[.func (.func gp) #[] #[]] 111)).alloc (.cells (jrow (zJ, .slice none 0 0)).toArray 37)).alloc (.cells (jrow (zJ, .slice none 0 0)).toArray 37))).heap[w.heap.size + 1 + 1]? = some (.cells (jrow (zJ, .slice none 0 0)).toArray 37 (0, 0))) := by
    have := row_new1 ((w.alloc (.cells #[.pointer (some ⟨p, 0, none⟩)] 53)).alloc (.cells #[.func (.func gp) #[] #[]] 111)) (.cells (jrow (zJ, .slice none 0 0)).toArray 37) (.cells (jrow (zJ, .slice none 0 0)).toArray 37)
    rw [hs] at this
    exact this
  have R3 : Hid ((((((w.alloc (.cells #[.pointer (some ⟨p, 0, none⟩)] 53)).alloc (.cells #[.func (.func gp) #[] #[]] 111)).alloc (.cells (jrow (zJ, .slice none 0 0)).toArray 37)).alloc (.cells (jrow (zJ, .slice none 0 0)).toArray 37))).heap[w.heap.size + 1 + 1 + 1]? = some (.cells (jrow (zJ, .slice none 0 0)).toArray 37 (0, 0))) := by
    have := row_new2 ((w.alloc (.cells #[.pointer (some ⟨p, 0, none⟩)] 53)).alloc (.cells #[.func (.func gp) #[] #[]] 111)) (.cells (jrow (zJ, .slice none 0 0)).toArray 37) (.cells (jrow (zJ, .slice none 0 0)).toArray 37)
    rw [hs] at this
    exact this
  have HC : Hid _ := take_call T w _ p w.heap.size (w.heap.size + 1) (w.heap.size + 1 + 1 + 1) pop L h HB4.out R0.out (by rw [hgp]; exact R1.out) R3.out (by omega) (Nat.le_refl _) (by omega) hl
  have hT := h.live
  clear h hs
  generalize takeP pop L = r at *
  obtain ⟨⟨rj, rk⟩, rl⟩ := r
  go_enter Try.func64, Try.ntmps64
  go_wp2_with fail
  refine Calls.mono HC.out ?_
  rintro e w2 ⟨k, rfl, sv, rfl, q1, q2, q3, q4⟩
  have r2 := q4.row R2.out (by rintro (hh | hh); have := hT _ hh; omega; omega)
  obtain ⟨c0, c1, c2, c3, c4, c5⟩ := JC.of_row q1
  obtain ⟨d0, d1, d2, d3, d4, d5⟩ := JC.of_row r2
  have f2 := froz_row r2
  obtain ⟨sa, sc, hsv, _⟩ := q2.1
  subst hsv
  have Q2 : Hid (RS T w2 (.slice sa rj.s.length sc) rj.s) := q2
  have Q3 : Hid _ := q3
  have RR : Hid _ := r2
  simp only [Nat.zero_add] at c0 c1 c2 c3 c4 c5 d0 d1 d2 d3 d4 d5
  clear q1 q2 q3 q4 r2 HC R0 R1 R2 R3 HB4
  obtain ⟨ji, ju, jt, jb, jk, js⟩ := rj
  dsimp only at *
  go_wp2_with fail
  have k9 : Kp (fun k => k = w.heap.size + 1 + 1) w2 (set6 w2 (w.heap.size + 1 + 1) 0 (⟨ji, ju, jt, jb, jk, js⟩, .slice sa js.length sc)) := set6_kept _ _ _ _ _ rfl
  refine bodyPost_ret (results_j2 rfl _ _ (e := ⟨ji, ju, jt, jb, jk, js⟩) (v := .slice sa js.length sc) rfl (set6_whole RR.out rfl (⟨ji, ju, jt, jb, jk, js⟩, .slice sa js.length sc))) rfl ?_
  refine ⟨.slice sa js.length sc, rfl, Q2.out.kept k9 (fun k hk e => by have := hT k hk; omega), Q3.out.1.kept k9 (fun k hk e => by have := hT k hk; omega), Q3.out.2.trans k9 (fun k hk hk2 => by omega)⟩

set_option maxHeartbeats 4000000 in
theorem pop_any (T : Nat → Prop) (w : World) (p : Nat) (L : List Jb) (h : DQ T w p L) (hl : L.length ≤ 1000000) :
    Calls Try.prog 52 #[.pointer (some ⟨p, 0, none⟩)] w fun e w' => TakeC T w p (takeP true L) e w' := by
  have HB1 : Hid _ := bl1 w (.cells (jrow (zJ, .slice none 0 0)).toArray 37)
  have HC : Hid _ := take_any T (w.alloc (.cells (jrow (zJ, .slice none 0 0)).toArray 37)) p true L (h.later HB1.out) hl
  have R0 : Hid ((w.alloc (.cells (jrow (zJ, .slice none 0 0)).toArray 37)).heap[w.heap.size]? = _) := row_new w (jrow (zJ, .slice none 0 0)).toArray 37
  have hT := h.live
  clear h
  generalize takeP true L = r at *
  obtain ⟨⟨rj, rk⟩, rl⟩ := r
  go_enter Try.func52, Try.ntmps52
  go_wp2_with fail
  refine Calls.mono HC.out ?_
  rintro e w2 ⟨sv, rfl, q2, q3, q4⟩
  have r2 := q4.row R0.out (fun hh => by have := hT _ hh; omega)
  obtain ⟨d0, d1, d2, d3, d4, d5⟩ := JC.of_row r2
  have f2 := froz_row r2
  obtain ⟨sa, sc, hsv, _⟩ := q2.1
  subst hsv
  have Q2 : Hid (RS T w2 (.slice sa rj.s.length sc) rj.s) := q2
  have Q3 : Hid _ := q3
  have Q4 : Hid _ := q4
  have RR : Hid _ := r2
  simp only [Nat.zero_add] at d0 d1 d2 d3 d4 d5
  clear q2 q3 q4 r2 HC R0
  obtain ⟨ji, ju, jt, jb, jk, js⟩ := rj
  unfold JV
  dsimp only at *
  go_wp2_with fail
  have k9 : Kp (fun k => k = w.heap.size) w2 (set6 w2 w.heap.size 0 (⟨ji, ju, jt, jb, jk, js⟩, .slice sa js.length sc)) := set6_kept _ _ _ _ _ rfl
  refine bodyPost_ret (results_j2 rfl _ _ (e := ⟨ji, ju, jt, jb, jk, js⟩) (v := .slice sa js.length sc) rfl (set6_whole RR.out rfl (⟨ji, ju, jt, jb, jk, js⟩, .slice sa js.length sc))) rfl ?_
  exact ⟨.slice sa js.length sc, rfl, Q2.out.kept k9 (fun k hk e => by have := hT k hk; omega), DQ.kept Q3.out k9 (fun k hk e => by have := hT k hk; omega), ((Kp.of_below T HB1.out).trans Q4.out (fun _ h _ => h)).trans k9 (fun k hk hk2 => by omega)⟩

set_option maxHeartbeats 4000000 in
theorem steal_any (T : Nat → Prop) (w : World) (p : Nat) (L : List Jb) (h : DQ T w p L) (hl : L.length ≤ 1000000) :
    Calls Try.prog 67 #[.pointer (some ⟨p, 0, none⟩)] w fun e w' => TakeC T w p (takeP false L) e w' := by
  have HB1 : Hid _ := bl1 w (.cells (jrow (zJ, .slice none 0 0)).toArray 37)
  have HC : Hid _ := take_any T (w.alloc (.cells (jrow (zJ, .slice none 0 0)).toArray 37)) p false L (h.later HB1.out) hl
  have R0 : Hid ((w.alloc (.cells (jrow (zJ, .slice none 0 0)).toArray 37)).heap[w.heap.size]? = _) := row_new w (jrow (zJ, .slice none 0 0)).toArray 37
  have hT := h.live
  clear h
  generalize takeP false L = r at *
  obtain ⟨⟨rj, rk⟩, rl⟩ := r
  go_enter Try.func67, Try.ntmps67
  go_wp2_with fail
  refine Calls.mono HC.out ?_
  rintro e w2 ⟨sv, rfl, q2, q3, q4⟩
  have r2 := q4.row R0.out (fun hh => by have := hT _ hh; omega)
  obtain ⟨d0, d1, d2, d3, d4, d5⟩ := JC.of_row r2
  have f2 := froz_row r2
  obtain ⟨sa, sc, hsv, _⟩ := q2.1
  subst hsv
  have Q2 : Hid (RS T w2 (.slice sa rj.s.length sc) rj.s) := q2
  have Q3 : Hid _ := q3
  have Q4 : Hid _ := q4
  have RR : Hid _ := r2
  simp only [Nat.zero_add] at d0 d1 d2 d3 d4 d5
  clear q2 q3 q4 r2 HC R0
  obtain ⟨ji, ju, jt, jb, jk, js⟩ := rj
  unfold JV
  dsimp only at *
  go_wp2_with fail
  have k9 : Kp (fun k => k = w.heap.size) w2 (set6 w2 w.heap.size 0 (⟨ji, ju, jt, jb, jk, js⟩, .slice sa js.length sc)) := set6_kept _ _ _ _ _ rfl
  refine bodyPost_ret (results_j2 rfl _ _ (e := ⟨ji, ju, jt, jb, jk, js⟩) (v := .slice sa js.length sc) rfl (set6_whole RR.out rfl (⟨ji, ju, jt, jb, jk, js⟩, .slice sa js.length sc))) rfl ?_
  exact ⟨.slice sa js.length sc, rfl, Q2.out.kept k9 (fun k hk e => by have := hT k hk; omega), DQ.kept Q3.out k9 (fun k hk e => by have := hT k hk; omega), ((Kp.of_below T HB1.out).trans Q4.out (fun _ h _ => h)).trans k9 (fun k hk hk2 => by omega)⟩

end Go.Proofs.Ytfhmmiilenonkaa
