/- Texts of the seat, packed: JRl JWl JRo. -/
import Derived.Test.YtlegmmhacnbnlaaGreatDoorP27
import Derived.Test.YtlegmmhacnbnlaaGreatDoorP14
import Derived.ChangeOld
import Derived.Deep.Strs
import Derived.OpenShut
import Derived.ProofKit
import Derived.ShutString
import Derived.Test.YtlegmmhacnbnlaaGreatDoorP18
import Derived.Deep.SlicePairs
/- The document's Same and In; the laws' example. -/
namespace Go.Proofs.YtlegmmhacnbnlaaGreatDoor.J.Tz
open Go.RowKit Go.Shelf Go.Proofs.YtlegmmhacnbnlaaGreatDoor.J
set_option maxRecDepth 1000000
set_option linter.unusedVariables false

theorem ne_if {α : Type} {b : Prop} [Decidable b] {x : Bool → α} : (if b then x false else x true) = x (!decide b) := by
  by_cases h : b <;> simp [h]

theorem neq_ev (e f : Ef) (w : World) : (Go.binOp .neq 38 (EV e) (EV f)).run Tryz.prog w = .ok (.bool (!decide (e = f))) w := by
  obtain ⟨i, u, t, o⟩ := e
  obtain ⟨i', u', t', o'⟩ := f
  unfold EV
  go_simp
  by_cases h1 : i = i' <;> by_cases h2 : u = u' <;> by_cases h3 : t = t' <;> by_cases h4 : o = o' <;> simp [h1, h2, h3, h4]
theorem neq_exec (e f : Ef) {o : Oper} {x y : Operand} {a : Act} {w : World} {q : Bool} {ty : TypeId} (ho : o.op = .binOp .neq 38 x y ty) (hx : a.eval x = EV e) (hy : a.eval y = EV f) (hq : (!decide (e = f)) = q) : (execOp a.eval o).run Tryz.prog w = .ok (.value (.bool q)) w := by
  unfold execOp
  subst hq
  have hg : (eqGuard BinOp.neq 38 x y (EV e) (EV f)).run Tryz.prog w = .ok () w := by
    have hk : Tryz.prog.eqGuardType Tryz.prog.depth 38 = false := by kernel_rfl
    unfold eqGuard EV
    simp [hk]
  simp only [ho, hx, hy, Sem.run_bind, neq_ev, hg, Result.andThen_ok]
  rfl

theorem take_same {l m : List Ef} {j : Nat} (hl : l.length = m.length) (h : ∀ i, i < j → l.getD i default = m.getD i default) (hj : l.length ≤ j) : l = m := by
  refine List.ext_getElem? fun i => ?_
  by_cases hi : i < l.length
  · have := h i (by omega)
    have e1 : l[i]? = some (l.getD i default) := by simp [List.getD, hi]
    have e2 : m[i]? = some (m.getD i default) := by simp [List.getD, show i < m.length by omega]
    rw [e1, e2, this]
  · rw [List.getElem?_eq_none (by omega), List.getElem?_eq_none (by omega)]

set_option maxHeartbeats 4000000 in
theorem same_e (l m : List Ef) (v u : Value) (w : World) (h : RE w v l) (k : RE w u m) (hl : l.length ≤ 1000000) (hm : m.length ≤ 1000000) :
    Calls Tryz.prog 10 #[v, u] w fun x w' => x = .returned (.bool (decide (l = m))) ∧ Below w.heap.size w w' := by
  obtain ⟨a, c, rfl, hc1⟩ := h.slice
  obtain ⟨a', c', rfl, hc2⟩ := k.slice
  obtain ⟨n, HN⟩ : ∃ n, Hid (l.length = n) := ⟨_, rfl⟩
  obtain ⟨n', HN'⟩ : ∃ n', Hid (m.length = n') := ⟨_, rfl⟩
  have HV : Hid (RE w (.slice a n c) l) := by have h9 := h; rw [HN.out] at h9; exact h9
  have HU : Hid (RE w (.slice a' n' c') m) := by have h9 := k; rw [HN'.out] at h9; exact h9
  rw [HN.out] at hl ⊢
  rw [HN'.out] at hm ⊢
  clear h k hc1 hc2
  by_cases hnn : n = n'
  · subst hnn
    go_enter Tryz.func10, Tryz.ntmps10
    go_wp2_with fail
    go_loopw [5] (fun s5 wr => ∃ (j : Nat), s5 = .int .i64 j ∧ j ≤ n ∧ Hid (Below w.heap.size w wr) ∧ Hid (∀ i, i < j → l.getD i default = m.getD i default)) (fun s5 _ => n - (intOf s5).toNat)
    case atStart => exact ⟨0, rfl, Nat.zero_le _, Below.refl _ _, fun i hi => by omega⟩
    case round =>
      obtain ⟨j, rfl, hj, HB, HX⟩ := hrel
      rename World => wr
      by_cases hlt : j < n
      · obtain ⟨hwf, b, off, ha, d0, d1, d2, d3⟩ := (HV.out.later HB.out).at' (i := j) (by rw [HN.out]; exact hlt)
        obtain ⟨hwf', b', off', ha', g0, g1, g2, g3⟩ := (HU.out.later HB.out).at' (i := j) (by rw [HN'.out]; exact hlt)
        subst ha
        subst ha'
        have hji : (j : Int) < (n : Int) := by omega
        obtain ⟨e, he⟩ : ∃ e, l.getD j default = e := ⟨_, rfl⟩
        obtain ⟨f, hf⟩ : ∃ e, m.getD j default = e := ⟨_, rfl⟩
        have HE : Hid (l.getD j default = e ∧ m.getD j default = f) := ⟨he, hf⟩
        rw [he] at d0 d1 d2 d3
        rw [hf] at g0 g1 g2 g3
        obtain ⟨q, hq⟩ : ∃ q, (!decide (e = f)) = q := ⟨_, rfl⟩
        have HQ : Hid _ := hq
        clear he hf hwf hwf'
        go_wp2_with fail
        refine region_thenF [(17, .slice (some ⟨b, off, none⟩) n c), (18, .int .i64 (j : Int)), (19, .pointer (some ⟨b, off + j * 4, none⟩)), (20, EV e), (21, .slice (some ⟨b', off', none⟩) n c'), (22, .int .i64 (j : Int)), (23, .pointer (some ⟨b', off' + j * 4, none⟩)), (24, EV f), (25, .bool q)] (fun w' => w' = wr.drew) ?_ ?_
        · refine wp_region_held (S := fun wx => wx = wr.drew) (by kernel_rfl) ?_
          have hS0 : wr.drew = wr.drew := rfl
          simp only [List.size_toArray, List.length_cons, List.length_nil, Nat.reduceAdd, Array.replicate_succ, Array.replicate_zero, List.push_toArray, List.nil_append, List.cons_append]
          refine tG 0 17 (.slice (some ⟨b, off, none⟩) n c) 8 rfl hS0 ?_
          refine tG 1 18 (.int .i64 (j : Int)) 7 rfl hS0 ?_
          refine tG 2 19 (.pointer (some ⟨b, off + j * 4, none⟩)) 6 rfl hS0 ?_
          refine tV 3 20 (EV e) 5 rfl hS0 ?_ (fun wx h => by subst h; have d0' : wr.drew.cell? _ = _ := d0; have d1' : wr.drew.cell? _ = _ := d1; have d2' : wr.drew.cell? _ = _ := d2; have d3' : wr.drew.cell? _ = _ := d3; unfold EV; go_simp)
          refine tG 4 21 (.slice (some ⟨b', off', none⟩) n c') 4 rfl hS0 ?_
          refine tG 5 22 (.int .i64 (j : Int)) 3 rfl hS0 ?_
          refine tG 6 23 (.pointer (some ⟨b', off' + j * 4, none⟩)) 2 rfl hS0 ?_
          refine tV 7 24 (EV f) 1 rfl hS0 ?_ (fun wx h => by subst h; have d0' : wr.drew.cell? _ = _ := g0; have d1' : wr.drew.cell? _ = _ := g1; have d2' : wr.drew.cell? _ = _ := g2; have d3' : wr.drew.cell? _ = _ := g3; unfold EV; go_simp)
          refine tV 8 25 (.bool q) 0 rfl hS0 ?_ (fun wx h => neq_exec e f (x := .tmp 20) (y := .tmp 24) rfl rfl rfl hq)
          refine wpAnyH_done (by kernel_rfl) ?_ _
          exact ⟨rfl, by kernel_rfl, rfl⟩
        rintro w9 rfl
        simp only [setAll, List.setIfInBounds_toArray, List.set_cons_succ, List.set_cons_zero]
        have HB2 : Hid (Below w.heap.size w wr.drew) := HB.out.drew
        clear hq d0 d1 d2 d3 g0 g1 g2 g3
        cases q with
        | true =>
          have HF : Hid (decide (l = m) = false) := by
            show _ = _
            rw [decide_eq_false_iff_not]
            intro h
            have h1 : ¬ e = f := by simpa using HQ.out
            exact h1 (by rw [← HE.out.1, ← HE.out.2, h])
          clear HX
          go_wp2_with fail
          go_ret
          exact ⟨ret_b HF.out.symm, HB2.out⟩
        | false =>
          have HX2 : Hid (∀ i, i < j + 1 → l.getD i default = m.getD i default) := by
            intro i hi
            by_cases e9 : i = j
            · rw [e9, HE.out.1, HE.out.2]
              simpa using HQ.out
            · exact HX.out i (by omega)
          clear HX
          go_wp2_with fail
          go_roundw
          case rel => exact ⟨j + 1, by go_num, by omega, HB2, HX2⟩
          case measure => simp [intOf]; omega
      · have HF : Hid (decide (l = m) = true) := decide_eq_true (take_same (by rw [HN.out, HN'.out]) HX.out (by rw [HN.out]; omega))
        clear HX
        go_wp2_with fail
        go_ret
        exact ⟨ret_b HF.out.symm, HB.out⟩
  · have HF : Hid (decide (l = m) = false) := by
      show _ = _
      rw [decide_eq_false_iff_not]
      intro h
      exact hnn (by rw [← HN.out, ← HN'.out, h])
    have hne : ¬ (n : Int) = (n' : Int) := by omega
    go_enter Tryz.func10, Tryz.ntmps10
    go_wp2_with fail
    go_ret
    exact ⟨ret_b HF.out.symm, Below.refl _ _⟩

theorem results_cell37 {fn : Func} {p : Nat} (h : fn.results = #[.cell p 38]) (tmps : Array Value) (w : World) (b : Nat) {e : Ef} (hp : tmps.getD p undef = .pointer (some ⟨b, 0, none⟩)) (hb : w.heap[b]? = some (.cells #[.int .i64 e.i, .bool e.u, .int .i64 e.t, .bool e.ok] 38 (0, 0))) :
    (results fn tmps).run Tryz.prog w = .ok (EV e) w := by
  have hp' : tmps[p]?.getD undef = .pointer (some ⟨b, 0, none⟩) := by simpa using hp
  simp [results, h, hp', asAddr, run_loadVar_row (P := Tryz.prog) w b 38 38 _ (0, 0) _ hb Tryz.underlying38 rfl (by kernel_rfl)]
  rfl
theorem ok_any (i : Int) (w : World) : Calls Tryz.prog 7 #[.int .i64 i] w fun e w' => e = .returned (.agg #[.int .i64 i, .bool false, .int .i64 0, .bool true]) ∧ Below w.heap.size w w' := by
  go_enter Tryz.func7, Tryz.ntmps7
  go_wp2_with fail
  exact bodyPost_ret (results_cell37 (e := ⟨i, false, 0, true⟩) rfl _ _ w.heap.size rfl (heap_alloc_new _ _)) rfl ⟨rfl, bl1 _ _⟩

/-- A literal's row. -/
theorem re_lit {w : World} {b : Nat} {L : List Ef} (h : w.heap[b]? = some (.cells (erows L).toArray 38 (0, 0))) (hl : L.length ≤ 1000000) (hw : ∀ e ∈ L, wfK e.key) : RE w (.slice (some ⟨b, 0, none⟩) L.length L.length) L :=
  ⟨_, _, rfl, Nat.le_refl _, by unfold maxLen; omega, fun i p hp => ⟨hw p (List.mem_of_getElem? hp), b, 0, rfl, EC.of fun j hj => by rw [cell_row h, Nat.zero_add, List.getElem?_toArray]; exact erows_get L i p hp j hj⟩⟩

def ok1 : Ef := ⟨1, false, 0, true⟩
def ok2 : Ef := ⟨2, false, 0, true⟩
def exL : List Ef := [ok1, ok2, ok1]
theorem wf_small {i : Int} (h0 : 0 ≤ i) (h1 : i ≤ 1000000) : (Lit.int .i64 i).wf = true := by
  simp only [Lit.wf, IntKind.min, IntKind.max, IntKind.signed, IntKind.bits, Bool.and_eq_true, decide_eq_true_eq, if_true]
  omega
theorem wf_ex : ∀ e ∈ exL, wfK e.key := by
  intro e he
  simp only [exL, List.mem_cons, List.not_mem_nil, or_false] at he
  rcases he with rfl | rfl | rfl <;> exact ⟨wf_small (by decide) (by decide), wf_small (by decide) (by decide)⟩
theorem ex_check : checkE exL := by unfold checkE; decide
theorem ex_again : agn [] exL = 1 := by decide
theorem ex_last : lastL exL = [ok2, ok1] := by decide
theorem ex_find2 : findV (2, false, 0) exL = 1 := by decide
theorem ex_find0 : findV (0, false, 0) exL = -1 := by decide
theorem ex_left (x : Int) : leftP exL x ↔ x = 1 ∨ x = 2 := by
  unfold leftP exL ok1 ok2
  simp
  omega
theorem ex_left12 {out : List Int} (h : out.Pairwise (· < ·)) (hm : ∀ x, x ∈ out ↔ leftP exL x) : out = [1, 2] :=
  rising_eq h (by decide) (fun x => by rw [hm, ex_left]; simp)

set_option maxHeartbeats 16000000 in
theorem lives_any (w : World) : Calls Tryz.prog 5 #[] w fun e w' => e = .returned (.bool true) ∧ Below w.heap.size w w' := by
  have HO : Hid (∀ i wx, Calls Tryz.prog 7 #[.int .i64 i] wx fun e w' => e = .returned (.agg #[.int .i64 i, .bool false, .int .i64 0, .bool true]) ∧ Below wx.heap.size wx w') := ok_any
  go_enter Tryz.func5, Tryz.ntmps5
  go_wp2_with fail
  refine Calls.mono (HO.out 1 _) ?_
  rintro e w1 ⟨rfl, hb1⟩
  have HB1 : Hid _ := hb1
  clear hb1
  go_wp2_with fail
  refine Calls.mono (HO.out 2 _) ?_
  rintro e w2 ⟨rfl, hb2⟩
  have HB2 : Hid _ := HB1.out.trans (hb2.mono HB1.out.size)
  clear hb2 HB1
  go_wp2_with fail
  refine Calls.mono (HO.out 1 _) ?_
  rintro e w3 ⟨rfl, hb3⟩
  have HB3 : Hid _ := HB2.out.trans (hb3.mono HB2.out.size)
  clear hb3 HB2
  obtain ⟨w4, hw4⟩ : ∃ w4, w3.alloc (.cells (erows exL).toArray 38) = w4 := ⟨_, rfl⟩
  have HW4 : Hid (w3.alloc (.cells #[.int .i64 1, .bool false, .int .i64 0, .bool true, .int .i64 2, .bool false, .int .i64 0, .bool true, .int .i64 1, .bool false, .int .i64 0, .bool true] 38) = w4) := hw4
  have HRE : Hid (∀ wx, Below w4.heap.size w4 wx → RE wx (.slice (some ⟨w3.heap.size, 0, none⟩) 3 3) exL) := fun wx hb => by
    have h1 : w4.heap[w3.heap.size]? = some (.cells (erows exL).toArray 38 (0, 0)) := by rw [← hw4]; exact heap_alloc_new _ _
    exact (re_lit (L := exL) h1 (by decide) wf_ex).later hb
  have HB4 : Hid (Below w.heap.size w w4) := by rw [← hw4]; exact HB3.out.trans ((bl1 w3 _).mono HB3.out.size)
  clear hw4 HB3
  go_wp2_with fail
  rw [HW4.out]
  refine Calls.mono (check_any exL _ (by decide) w4 (HRE.out _ (Below.refl _ _))) ?_
  rintro e w5 ⟨rfl, hb5⟩
  rw [chk_ok ex_check]
  have HB5 : Hid (Below w4.heap.size w4 w5) := hb5
  clear hb5 HW4
  go_wp2_with fail
  refine Calls.mono (again_any exL _ (by decide) w5 (HRE.out _ HB5.out)) ?_
  rintro e w6 ⟨rfl, hb6⟩
  rw [ex_again]
  have HB6 : Hid (Below w4.heap.size w4 w6) := HB5.out.trans (hb6.mono HB5.out.size)
  clear hb6 HB5
  go_wp2_with fail
  refine Calls.mono (last_any exL _ (by decide) w6 (HRE.out _ HB6.out)) ?_
  rintro e w7 ⟨rv, rfl, how, hb7, hrv⟩
  have hre7 := how.re (fun e he => wf_ex e (lastL_sub he))
  rw [ex_last] at hre7
  obtain ⟨ra, rc, hrs, _⟩ := hre7.slice
  subst hrs
  have HR7 : Hid (RE w7 (.slice ra 2 rc) [ok2, ok1]) := hre7
  have HB7 : Hid (Below w4.heap.size w4 w7) := HB6.out.trans (hb7.mono HB6.out.size)
  have e2 : ([ok2, ok1] : List Ef).length = 2 := rfl
  rw [e2]
  clear hb7 HB6 how hre7 hrv e2
  go_wp2_with fail
  refine Calls.mono (HO.out 2 _) ?_
  rintro e w8 ⟨rfl, hb8⟩
  have HB8 : Hid (Below w7.heap.size w7 w8) := hb8
  clear hb8
  go_wp2_with fail
  refine Calls.mono (HO.out 1 _) ?_
  rintro e w9 ⟨rfl, hb9⟩
  have HB9 : Hid (Below w7.heap.size w7 w9) := HB8.out.trans (hb9.mono HB8.out.size)
  clear hb9 HB8
  obtain ⟨wa, hwa⟩ : ∃ wa, w9.alloc (.cells (erows [ok2, ok1]).toArray 38) = wa := ⟨_, rfl⟩
  have HWA : Hid (w9.alloc (.cells #[.int .i64 2, .bool false, .int .i64 0, .bool true, .int .i64 1, .bool false, .int .i64 0, .bool true] 38) = wa) := hwa
  have HRA : Hid (RE wa (.slice (some ⟨w9.heap.size, 0, none⟩) 2 2) [ok2, ok1]) := by
    have h1 : wa.heap[w9.heap.size]? = some (.cells (erows [ok2, ok1]).toArray 38 (0, 0)) := by rw [← hwa]; exact heap_alloc_new _ _
    exact re_lit (L := [ok2, ok1]) h1 (by decide) (fun e he => wf_ex e (by simp only [exL, List.mem_cons, List.not_mem_nil, or_false] at he ⊢; rcases he with h | h <;> simp [h]))
  have HBA : Hid (Below w7.heap.size w7 wa) := by rw [← hwa]; exact HB9.out.trans ((bl1 w9 _).mono HB9.out.size)
  clear hwa HB9
  go_wp2_with fail
  rw [HWA.out]
  refine Calls.mono (same_e [ok2, ok1] [ok2, ok1] _ _ wa (HR7.out.later HBA.out) HRA.out (by decide) (by decide)) ?_
  rintro e wb ⟨rfl, hbb⟩
  have HBB : Hid (Below w4.heap.size w4 wb) := HB7.out.trans ((HBA.out.trans (hbb.mono HBA.out.size)).mono HB7.out.size)
  have ed : decide (([ok2, ok1] : List Ef) = [ok2, ok1]) = true := by decide
  rw [ed]
  clear hbb HBA HB7 HWA HRA HR7 ed
  go_wp2_with fail
  refine Calls.mono (left_any exL _ (by decide) wb (HRE.out _ HBB.out)) ?_
  rintro e wc ⟨rv, out, rfl, hri, hso, hme, hbc⟩
  obtain rfl := ex_left12 hso hme
  have HRI : Hid (RI wc rv [1, 2]) := hri
  have HBC : Hid (Below w4.heap.size w4 wc) := HBB.out.trans (hbc.mono HBB.out.size)
  obtain ⟨ra2, rc2, hrs2, _⟩ := hri
  subst hrs2
  have e2 : ([1, 2] : List Int).length = 2 := rfl
  rw [e2] at HRI ⊢
  clear hso hme hbc HBB e2
  obtain ⟨wd, hwd⟩ : ∃ wd, wc.alloc (.cells (ivs [1, 2]).toArray 3) = wd := ⟨_, rfl⟩
  have HWD : Hid (wc.alloc (.cells #[.int .i64 1, .int .i64 2] 3) = wd) := hwd
  have HRD : Hid (RI wd (.slice (some ⟨wc.heap.size, 0, none⟩) 2 2) [1, 2]) := by
    have h1 : RowI wd wc.heap.size [1, 2] := by rw [← hwd]; exact heap_alloc_new _ _
    exact h1.ri (by decide)
  have HBD : Hid (Below w4.heap.size w4 wd ∧ Below wc.heap.size wc wd) := by rw [← hwd]; exact ⟨HBC.out.trans ((bl1 wc _).mono HBC.out.size), bl1 _ _⟩
  clear hwd HBC
  go_wp2_with fail
  rw [HWD.out]
  refine Calls.mono (same_any [1, 2] [1, 2] _ _ wd (HRI.out.later HBD.out.2) HRD.out (by decide) (by decide)) ?_
  rintro e we ⟨rfl, hbe⟩
  have HBE : Hid (Below w4.heap.size w4 we) := HBD.out.1.trans (hbe.mono HBD.out.1.size)
  have ed : decide (([1, 2] : List Int) = [1, 2]) = true := by decide
  rw [ed]
  clear hbe HBD HRD HRI HWD ed
  go_wp2_with fail
  refine Calls.mono (find_any (2, false, 0) exL _ we (HRE.out _ HBE.out) (by decide)) ?_
  rintro e wf ⟨rfl, hbf⟩
  rw [ex_find2]
  have HBF : Hid (Below w4.heap.size w4 wf) := HBE.out.trans (hbf.mono HBE.out.size)
  clear hbf HBE
  go_wp2_with fail
  refine Calls.mono (find_any (0, false, 0) exL _ wf (HRE.out _ HBF.out) (by decide)) ?_
  rintro e wg ⟨rfl, hbg⟩
  rw [ex_find0]
  have HBG : Hid (Below w4.heap.size w4 wg) := HBF.out.trans (hbg.mono HBF.out.size)
  clear hbg HBF
  go_wp2_with fail
  go_ret
  exact ⟨rfl, HB4.out.trans (HBG.out.mono HB4.out.size)⟩
end Go.Proofs.YtlegmmhacnbnlaaGreatDoor.J.Tz

/- What came in: how it reads. -/
namespace Go.Proofs.YtlegmmhacnbnlaaGreatDoor.J

set_option maxRecDepth 1000000

open Go.RowKit Go.ChangeShapes Go.WideShapes Go.ChangeAt

set_option linter.unusedVariables false

variable {H : Type} {enc : TypeId × Value → H} {w : World} {base : Nat} {spare : Nat → Bool} {held : Bool}

theorem open_i64s {fuel : Nat} {cs : List Value} {x : DataW H × List MemPlace} (h : DataW.trod enc Tryz.prog w base spare held fuel 32 cs = some x) : ∃ v l, cs = [v] ∧ RI w v l := by
  rcases open_ints Tryz.underlying32 Tryz.underlying3 (by kernel_rfl) h with ⟨hcs, _⟩ | ⟨x, l, c, zs, hcs, _, hl, hm, hz, _, hcell, hwz⟩
  · exact ⟨_, [], hcs, RI.nil w⟩
  · have hlz : l ≤ zs.length := by rw [hz]; split <;> omega
    have hlen : (zs.take l).length = l := by simp; omega
    refine ⟨_, zs.take l, hcs, ⟨some x, c, by rw [hlen], by rw [hlen]; exact hl, hm, fun i hi => ?_⟩⟩
    rw [hlen] at hi
    obtain ⟨b, off, rfl, hcc⟩ := ints_at hcell (by omega)
    refine ⟨b, off, rfl, ?_⟩
    rw [hcc i (by omega)]
    congr 2
    simp only [List.getD_eq_getElem?_getD, List.getElem?_take]
    rw [if_pos hi]

end Go.Proofs.YtlegmmhacnbnlaaGreatDoor.J

/- Effects and keys that came in: how they read. -/
namespace Go.Proofs.YtlegmmhacnbnlaaGreatDoor.J.Tz
open Go.RowKit Go.ChangeShapes Go.WideShapes Go.ChangeAt Go.Proofs.YtlegmmhacnbnlaaGreatDoor.J
set_option linter.unusedVariables false
set_option maxRecDepth 1000000

theorem Tryz.cells38 : Tryz.prog.cellsOf 38 = 4 := by kernel_rfl

variable {H : Type} {enc : TypeId × Value → H} {w : World} {base : Nat} {spare : Nat → Bool} {held : Bool}

theorem open_key {fuel : Nat} {cs : List Value} {x : DataW H × List MemPlace} (h : DataW.trod enc Tryz.prog w base spare held fuel 36 cs = some x) :
    ∃ k : Kx, cs = [.int .i64 k.1, .bool k.2.1, .int .i64 k.2.2] ∧ wfK k := by
  obtain ⟨xs, n', hn', _, hcl, hxl, hfs⟩ := DataW.trod_struct Tryz.underlying36 h
  rw [cells24] at hcl
  have hx3 : xs.length = 3 := by simpa using hxl
  match cs, hcl with
  | [v0, v1, v2], _ =>
    have g0 := hfs 0 _ rfl
    have g1 := hfs 1 _ rfl
    have g2 := hfs 2 _ rfl
    simp [cells3] at g0
    simp [cells3, cells4'] at g1 g2
    rw [List.getElem?_eq_getElem (by omega)] at g0 g1 g2
    obtain ⟨n0, e0, _, z0⟩ := DataW.trod_int Tryz.underlying3 g0
    obtain ⟨n1, e1, _⟩ := DataW.trod_bool Tryz.underlying4 g1
    obtain ⟨n2, e2, _, z2⟩ := DataW.trod_int Tryz.underlying3 g2
    simp only [List.cons.injEq, and_true] at e0 e1 e2
    subst e0 e1 e2
    exact ⟨(n0, n1, n2), rfl, z0, z2⟩

theorem open_ef {fuel : Nat} {cs : List Value} {x : DataW H × List MemPlace} (h : DataW.trod enc Tryz.prog w base spare held fuel 38 cs = some x) :
    ∃ e : Ef, cs = [.int .i64 e.i, .bool e.u, .int .i64 e.t, .bool e.ok] ∧ wfK e.key := by
  obtain ⟨xs, n', hn', _, hcl, hxl, hfs⟩ := DataW.trod_struct Tryz.underlying38 h
  rw [Tryz.cells38] at hcl
  have hx2 : xs.length = 2 := by simpa using hxl
  match cs, hcl with
  | [v0, v1, v2, v3], _ =>
    have g0 := hfs 0 _ rfl
    have g1 := hfs 1 _ rfl
    simp [cells24, cells4'] at g0 g1
    rw [List.getElem?_eq_getElem (by omega)] at g0 g1
    obtain ⟨k, e0, hk⟩ := open_key g0
    obtain ⟨n1, e1, _⟩ := DataW.trod_bool Tryz.underlying4 g1
    simp only [List.cons.injEq, and_true] at e0 e1
    obtain ⟨rfl, rfl, rfl⟩ := e0
    subst e1
    exact ⟨⟨k.1, k.2.1, k.2.2, n1⟩, rfl, hk⟩

theorem open_effs {fuel : Nat} {a : Option Addr} {len cap : Nat} {x : DataW H × List MemPlace}
    (h : DataW.trod enc Tryz.prog w base spare held fuel 25 [.slice a len cap] = some x) : ∃ L, RE w (.slice a len cap) L := by
  rcases Go.Deep.open_slice Tryz.underlying25 h with ⟨hcs, _⟩ | ⟨ad, l2, c2, m, n, D, Pl, hcs, hb, hl, hm, hmm, rfl, hx⟩
  · simp at hcs
    obtain ⟨rfl, rfl, rfl⟩ := hcs
    exact ⟨[], RE.nil w⟩
  · simp at hcs
    obtain ⟨rfl, rfl, rfl⟩ := hcs
    have hlm : len ≤ m := by rw [hmm]; split <;> omega
    have each : ∀ i, i < len → ∃ t : Ef, w.cell? (ad.add (i * 4)) = some (.int .i64 t.i) ∧ w.cell? (ad.add (i * 4 + 1)) = some (.bool t.u) ∧ w.cell? (ad.add (i * 4 + 2)) = some (.int .i64 t.t) ∧ w.cell? (ad.add (i * 4 + 3)) = some (.bool t.ok) ∧ wfK t.key := by
      intro i hi
      obtain ⟨cs', h1, h2⟩ := hx i (by omega)
      rw [Tryz.cells38] at h1
      obtain ⟨_, hlen, hcell⟩ := World.cells?_some h1
      obtain ⟨y, rfl, q1⟩ := open_ef h2
      have k0 := hcell 0 (by omega)
      have k1 := hcell 1 (by omega)
      have k2 := hcell 2 (by omega)
      have k3 := hcell 3 (by omega)
      rw [Go.Deep.add_add] at k0 k1 k2 k3
      exact ⟨y, by simpa using k0, by simpa using k1, by simpa using k2, by simpa using k3, q1⟩
    obtain ⟨q, hq⟩ := Go.Deep.choose_lt each
    refine ⟨(List.range len).map fun i => q i, some ad, cap, by simp, by simpa using hl, hm, fun i t hi => ?_⟩
    have hil : i < len := by have := (List.getElem?_eq_some_iff.1 hi).1; simpa using this
    have ht : t = q i := by simp [hil] at hi; exact hi.symm
    subst ht
    obtain ⟨b, off, spot⟩ := ad
    have hspot : spot = none := by simpa [Addr.add] using World.cell?_spot (hq 0 (by omega)).1
    subst hspot
    obtain ⟨a0, a1, a2, a3, a9⟩ := hq i hil
    rw [add_at] at a0 a1 a2 a3
    exact ⟨a9, b, off, rfl, a0, by rw [Nat.add_assoc]; exact a1, by rw [Nat.add_assoc]; exact a2, by rw [Nat.add_assoc]; exact a3⟩
end Go.Proofs.YtlegmmhacnbnlaaGreatDoor.J.Tz

