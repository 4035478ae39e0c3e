/- The laws' few; step for each call. -/
import Derived.Test.YthbckfncpnobcaaRo
namespace Go.Proofs.Ythbckfncpnobcaa
open Go.RowKit
set_option maxRecDepth 1000000
set_option linter.unusedVariables false

/-- A call, as a value. -/
def AV (k : Int) (e : Jb) (sv : Value) : Value := .agg #[.int .i64 k, .int .i64 e.i, .bool e.u, .int .i64 e.t, .bool e.b, .int .i64 e.k, sv]
def arow (k : Int) (e : Jb) (sv : Value) : Array Value := #[.int .i64 k, .int .i64 e.i, .bool e.u, .int .i64 e.t, .bool e.b, .int .i64 e.k, sv]

/-- Where the document's rows lie: ahead of the call, or guarded. -/
def Gd (N : Nat) (F : Nat → Prop) : Nat → Prop := fun k => k < N ∨ F k

/-- Behind a step. -/
def StC (N : Nat) (w : World) (p : Nat) (L' : List Jb) (e : Ending) (w' : World) : Prop := ∃ (F' : Nat → Prop) (a : Option Addr) (n c : Nat) (M' : List JbP), e = .returned (.tuple #[.slice a n c, .bool true]) ∧ LD N F' w' p L' ∧ RJ (Gd N F') w' (.slice a n c) M' ∧ M'.map Prod.fst = L' ∧ Below N w w'

theorem takeP_few {b : Bool} {L : List Jb} (h : ∀ x ∈ L, x.s.length ≤ 1000000) : (takeP b L).1.1.s.length ≤ 1000000 := by
  unfold takeP
  split
  · simp [zJ]
  · rename_i h0
    cases b with
    | true =>
      rw [if_pos rfl]
      simp only
      rw [List.getLastD_eq_getLast?, List.getLast?_eq_some_getLast h0]
      exact h _ (List.getLast_mem h0)
    | false =>
      rw [if_neg (by decide)]
      cases L with
      | nil => exact absurd rfl h0
      | cons a b => exact h a (by simp)

set_option maxHeartbeats 8000000 in
theorem step_pop {N : Nat} {F : Nat → Prop} (w : World) (p : Nat) (rv sv0 : Value) (M : List JbP) (e0 : Jb) (hd : LD N F w p (M.map Prod.fst)) (hr : RJ (Gd N F) w rv M) (hl : M.length ≤ 128) (hfs : FewS M) (hsv : ∃ a n c, sv0 = .slice a n c) :
    Calls Try.prog 10 #[.pointer (some ⟨p, 0, none⟩), rv, AV 1 e0 sv0] w fun e w' => StC N w p (takeP true (M.map Prod.fst)).2 e w' := by
  obtain ⟨a0, n0, c0, rfl⟩ := hsv
  have hb0 : Below w.heap.size w (w.alloc (.cells (arow 1 e0 (.slice a0 n0 c0)) 37)) := bl1 _ _
  have HD0 : Hid _ := hd.guard hb0
  have HNN : Hid (N ≤ w.heap.size) := hd.le
  obtain ⟨ra, rc, rfl, _⟩ := id hr
  have HR0 : Hid (RJ (Gd N F) (w.alloc (.cells (arow 1 e0 (.slice a0 n0 c0)) 37)) (.slice ra M.length rc) M) := hr.later hb0
  have HB0 : Hid _ := hb0
  have HT : Hid _ := l_take HD0.out true (by rw [List.length_map]; omega)
  have HS0 : Hid ((w.alloc (.cells (arow 1 e0 (.slice a0 n0 c0)) 37)).heap.size = w.heap.size + 1) := by show _ = _; simp
  have HFS : Hid (∀ x ∈ M.map Prod.fst, x.s.length ≤ 1000000) := by
    show ∀ x ∈ _, _
    intro x hx
    obtain ⟨y, hy, rfl⟩ := List.mem_map.1 hx
    exact hfs y hy
  have HTS : Hid ((takeP true (M.map Prod.fst)).1.1.s.length ≤ 1000000) := takeP_few HFS.out
  obtain ⟨r, hrr⟩ : ∃ r, r = takeP true (M.map Prod.fst) := ⟨_, rfl⟩
  have HRR : Hid (r = takeP true (M.map Prod.fst)) := hrr
  rw [← hrr] at HT HTS ⊢
  obtain ⟨⟨⟨ji, ju, jt, jb, jk, js⟩, je⟩, jl⟩ := r
  obtain ⟨ml, hml⟩ : ∃ n, M.length = n := ⟨_, rfl⟩
  have HML : Hid _ := hml
  have HR1 : Hid (∀ W, RJ (Gd N F) W (.slice ra ml rc) M → Calls Try.prog 20 #[.slice ra ml rc] W fun e w' => ∃ a n c L' a' n' c', e = .returned (.tuple #[.slice a n c, .agg #[.int .i64 ji, .bool ju, .int .i64 jt, .bool jb, .int .i64 jk, .slice a' n' c'], .int .i64 je]) ∧ RJ (Gd N F) w' (.slice a n c) L' ∧ L'.map Prod.fst = jl ∧ RI w' (.slice a' n' c') js ∧ Below W.heap.size W w') := fun W hW => by
    refine Calls.mono (rpop_any (Gd N F) W (.slice ra ml rc) M hW (by omega)) ?_
    rw [← hrr]
    rintro e w' ⟨rv', L', sv', rfl, q1, q2, q3, q4⟩
    obtain ⟨a, c, rfl, _⟩ := id q1
    obtain ⟨⟨a', c', rfl, z1⟩, z2⟩ := q3
    exact ⟨a, _, c, L', a', _, c', rfl, q1, q2, ⟨a', c', rfl, z1⟩, q4⟩
  unfold AV
  rw [hml] at HR0 ⊢
  unfold JV at HT
  dsimp only at HT HTS ⊢
  clear hb0 hd hr hl hfs hrr hml
  go_enter Try.func10, Try.ntmps10
  go_wp2_with fail
  refine Calls.mono HT.out ?_
  rintro e w1 ⟨sv, rfl, hs1, hd1, hk1⟩
  obtain ⟨sa, sc, rfl, _⟩ := id hs1
  have HD1 : Hid _ := hd1
  have HB1 : Hid (Below N w w1) := (HB0.out.mono HNN.out).trans (Mv.below hk1 (Nat.le_trans HNN.out HB0.out.size))
  have HK1 : Hid _ := hk1.size
  have h1b := bl1 w1 (.cells #[.int .i64 ji, .bool ju, .int .i64 jt, .bool jb, .int .i64 jk, .slice sa js.length sc] 35)
  have HR2 : Hid (RJ (Gd N F) (w1.alloc (.cells #[.int .i64 ji, .bool ju, .int .i64 jt, .bool jb, .int .i64 jk, .slice sa js.length sc] 35)) (.slice ra ml rc) M) := (HR0.out.kept hk1 (fun k hk hk2 => by
    rcases hk with hk | hk
    · have := hk2.1; omega
    · exact hk2.2 (.inl hk))).later h1b
  have HC2 : Hid _ := HR1.out _ HR2.out
  have HS1 : Hid (RI w1 (.slice sa js.length sc) js) := hs1
  have HB1' : Hid _ := h1b
  have HRW : Hid ((w1.alloc (.cells #[.int .i64 ji, .bool ju, .int .i64 jt, .bool jb, .int .i64 jk, .slice sa js.length sc] 35)).heap[w1.heap.size]? = _) := row_new w1 _ 35
  clear hs1 hd1 hk1 h1b HT HR0 HR2
  go_wp2_with fail
  refine Calls.mono HC2.out ?_
  rintro e w2 ⟨qa, qn, qc, L', a', n', c', rfl, q1, q2, q3, q4⟩
  have HR3 : Hid (RJ (Gd N F) w2 (.slice qa qn qc) L') := q1
  have HL3 : Hid _ := q2
  have HBw : Hid (Below w1.heap.size w1 w2) := HB1'.out.trans (q4.mono HB1'.out.size)
  have r8 := row_later HRW.out q4
  have h2b := bl1 w2 (.cells #[.int .i64 ji, .bool ju, .int .i64 jt, .bool jb, .int .i64 jk, .slice a' n' c'] 35)
  have r8' := row_later r8 h2b
  obtain ⟨e0, e1, e2, e3, e4, e5⟩ := JC.of_row (e := ⟨ji, ju, jt, jb, jk, js⟩) (v := .slice sa js.length sc) r8'
  simp only [Nat.zero_add] at e0 e1 e2 e3 e4 e5
  have HSm : Hid _ := same_job ⟨ji, ju, jt, jb, jk, js⟩ ⟨ji, ju, jt, jb, jk, js⟩ (.slice sa js.length sc) (.slice a' n' c') _ ((HS1.out.later HBw.out).later h2b) (q3.later h2b) HTS.out HTS.out
  rw [decide_eq_true rfl] at HSm
  unfold JV at HSm
  dsimp only at HSm
  have H2B : Hid _ := h2b
  clear q1 q2 q3 q4 r8 r8' h2b HC2 HRW
  go_wp2_with fail
  refine Calls.mono HSm.out ?_
  rintro e w3 ⟨rfl, hb3⟩
  have HB3 : Hid (Below w2.heap.size w2 w3) := H2B.out.trans (hb3.mono H2B.out.size)
  clear hb3 HSm
  go_wp2_with fail
  go_ret2
  have hsz := HB0.out.size
  refine ⟨_, qa, qn, qc, L', rfl, (HD1.out.later HBw.out).later HB3.out, (HR3.out.mono (fun k _ hk => hk.imp id .inl)).later HB3.out, HL3.out, HB1.out.trans (((HBw.out.trans (HB3.out.mono HBw.out.size))).mono (Nat.le_trans HNN.out (Nat.le_trans hsz HK1.out)))⟩

set_option maxHeartbeats 8000000 in
theorem step_steal {N : Nat} {F : Nat → Prop} (w : World) (p : Nat) (rv sv0 : Value) (M : List JbP) (e0 : Jb) (hd : LD N F w p (M.map Prod.fst)) (hr : RJ (Gd N F) w rv M) (hl : M.length ≤ 128) (hfs : FewS M) (hsv : ∃ a n c, sv0 = .slice a n c) :
    Calls Try.prog 10 #[.pointer (some ⟨p, 0, none⟩), rv, AV 2 e0 sv0] w fun e w' => StC N w p (takeP false (M.map Prod.fst)).2 e w' := by
  obtain ⟨a0, n0, c0, rfl⟩ := hsv
  have hb0 : Below w.heap.size w (w.alloc (.cells (arow 2 e0 (.slice a0 n0 c0)) 37)) := bl1 _ _
  have HD0 : Hid _ := hd.guard hb0
  have HNN : Hid (N ≤ w.heap.size) := hd.le
  obtain ⟨ra, rc, rfl, _⟩ := id hr
  have HR0 : Hid (RJ (Gd N F) (w.alloc (.cells (arow 2 e0 (.slice a0 n0 c0)) 37)) (.slice ra M.length rc) M) := hr.later hb0
  have HB0 : Hid _ := hb0
  have HT : Hid _ := l_take HD0.out false (by rw [List.length_map]; omega)
  have HS0 : Hid ((w.alloc (.cells (arow 2 e0 (.slice a0 n0 c0)) 37)).heap.size = w.heap.size + 1) := by show _ = _; simp
  have HFS : Hid (∀ x ∈ M.map Prod.fst, x.s.length ≤ 1000000) := by
    show ∀ x ∈ _, _
    intro x hx
    obtain ⟨y, hy, rfl⟩ := List.mem_map.1 hx
    exact hfs y hy
  have HTS : Hid ((takeP false (M.map Prod.fst)).1.1.s.length ≤ 1000000) := takeP_few HFS.out
  obtain ⟨r, hrr⟩ : ∃ r, r = takeP false (M.map Prod.fst) := ⟨_, rfl⟩
  have HRR : Hid (r = takeP false (M.map Prod.fst)) := hrr
  rw [← hrr] at HT HTS ⊢
  obtain ⟨⟨⟨ji, ju, jt, jb, jk, js⟩, je⟩, jl⟩ := r
  obtain ⟨ml, hml⟩ : ∃ n, M.length = n := ⟨_, rfl⟩
  have HML : Hid _ := hml
  have HR1 : Hid (∀ W, RJ (Gd N F) W (.slice ra ml rc) M → Calls Try.prog 21 #[.slice ra ml rc] W fun e w' => ∃ a n c L' a' n' c', e = .returned (.tuple #[.slice a n c, .agg #[.int .i64 ji, .bool ju, .int .i64 jt, .bool jb, .int .i64 jk, .slice a' n' c'], .int .i64 je]) ∧ RJ (Gd N F) w' (.slice a n c) L' ∧ L'.map Prod.fst = jl ∧ RI w' (.slice a' n' c') js ∧ Below W.heap.size W w') := fun W hW => by
    refine Calls.mono (rsteal_any (Gd N F) W (.slice ra ml rc) M hW (by omega)) ?_
    rw [← hrr]
    rintro e w' ⟨rv', L', sv', rfl, q1, q2, q3, q4⟩
    obtain ⟨a, c, rfl, _⟩ := id q1
    obtain ⟨⟨a', c', rfl, z1⟩, z2⟩ := q3
    exact ⟨a, _, c, L', a', _, c', rfl, q1, q2, ⟨a', c', rfl, z1⟩, q4⟩
  unfold AV
  rw [hml] at HR0 ⊢
  unfold JV at HT
  dsimp only at HT HTS ⊢
  clear hb0 hd hr hl hfs hrr hml
  go_enter Try.func10, Try.ntmps10
  go_wp2_with fail
  refine Calls.mono HT.out ?_
  rintro e w1 ⟨sv, rfl, hs1, hd1, hk1⟩
  obtain ⟨sa, sc, rfl, _⟩ := id hs1
  have HD1 : Hid _ := hd1
  have HB1 : Hid (Below N w w1) := (HB0.out.mono HNN.out).trans (Mv.below hk1 (Nat.le_trans HNN.out HB0.out.size))
  have HK1 : Hid _ := hk1.size
  have h1b := bl1 w1 (.cells #[.int .i64 ji, .bool ju, .int .i64 jt, .bool jb, .int .i64 jk, .slice sa js.length sc] 35)
  have HR2 : Hid (RJ (Gd N F) (w1.alloc (.cells #[.int .i64 ji, .bool ju, .int .i64 jt, .bool jb, .int .i64 jk, .slice sa js.length sc] 35)) (.slice ra ml rc) M) := (HR0.out.kept hk1 (fun k hk hk2 => by
    rcases hk with hk | hk
    · have := hk2.1; omega
    · exact hk2.2 (.inl hk))).later h1b
  have HC2 : Hid _ := HR1.out _ HR2.out
  have HS1 : Hid (RI w1 (.slice sa js.length sc) js) := hs1
  have HB1' : Hid _ := h1b
  have HRW : Hid ((w1.alloc (.cells #[.int .i64 ji, .bool ju, .int .i64 jt, .bool jb, .int .i64 jk, .slice sa js.length sc] 35)).heap[w1.heap.size]? = _) := row_new w1 _ 35
  clear hs1 hd1 hk1 h1b HT HR0 HR2
  go_wp2_with fail
  refine Calls.mono HC2.out ?_
  rintro e w2 ⟨qa, qn, qc, L', a', n', c', rfl, q1, q2, q3, q4⟩
  have HR3 : Hid (RJ (Gd N F) w2 (.slice qa qn qc) L') := q1
  have HL3 : Hid _ := q2
  have HBw : Hid (Below w1.heap.size w1 w2) := HB1'.out.trans (q4.mono HB1'.out.size)
  have r8 := row_later HRW.out q4
  have h2b := bl1 w2 (.cells #[.int .i64 ji, .bool ju, .int .i64 jt, .bool jb, .int .i64 jk, .slice a' n' c'] 35)
  have r8' := row_later r8 h2b
  obtain ⟨e0, e1, e2, e3, e4, e5⟩ := JC.of_row (e := ⟨ji, ju, jt, jb, jk, js⟩) (v := .slice sa js.length sc) r8'
  simp only [Nat.zero_add] at e0 e1 e2 e3 e4 e5
  have HSm : Hid _ := same_job ⟨ji, ju, jt, jb, jk, js⟩ ⟨ji, ju, jt, jb, jk, js⟩ (.slice sa js.length sc) (.slice a' n' c') _ ((HS1.out.later HBw.out).later h2b) (q3.later h2b) HTS.out HTS.out
  rw [decide_eq_true rfl] at HSm
  unfold JV at HSm
  dsimp only at HSm
  have H2B : Hid _ := h2b
  clear q1 q2 q3 q4 r8 r8' h2b HC2 HRW
  go_wp2_with fail
  refine Calls.mono HSm.out ?_
  rintro e w3 ⟨rfl, hb3⟩
  have HB3 : Hid (Below w2.heap.size w2 w3) := H2B.out.trans (hb3.mono H2B.out.size)
  clear hb3 HSm
  go_wp2_with fail
  go_ret2
  have hsz := HB0.out.size
  refine ⟨_, qa, qn, qc, L', rfl, (HD1.out.later HBw.out).later HB3.out, (HR3.out.mono (fun k _ hk => hk.imp id .inl)).later HB3.out, HL3.out, HB1.out.trans (((HBw.out.trans (HB3.out.mono HBw.out.size))).mono (Nat.le_trans HNN.out (Nat.le_trans hsz HK1.out)))⟩

set_option maxHeartbeats 8000000 in
theorem step_drop {N : Nat} {F : Nat → Prop} (w : World) (p : Nat) (rv sv0 : Value) (M : List JbP) (e0 : Jb) (hd : LD N F w p (M.map Prod.fst)) (hr : RJ (Gd N F) w rv M) (hl : M.length ≤ 128) (hsv : ∃ a n c, sv0 = .slice a n c) :
    Calls Try.prog 10 #[.pointer (some ⟨p, 0, none⟩), rv, AV 3 e0 sv0] w fun e w' => StC N w p (dropP ⟨e0.i, e0.u, e0.t⟩ (M.map Prod.fst)) e w' := by
  obtain ⟨a0, n0, c0, rfl⟩ := hsv
  have hb0 : Below w.heap.size w (w.alloc (.cells (arow 3 e0 (.slice a0 n0 c0)) 37)) := bl1 _ _
  have HD0 : Hid _ := hd.guard hb0
  have HNN : Hid (N ≤ w.heap.size) := hd.le
  obtain ⟨ra, rc, rfl, _⟩ := id hr
  have HB0 : Hid _ := hb0
  have HS0 : Hid ((w.alloc (.cells (arow 3 e0 (.slice a0 n0 c0)) 37)).heap.size = w.heap.size + 1) := by show _ = _; simp
  have HRW : Hid ((w.alloc (.cells (arow 3 e0 (.slice a0 n0 c0)) 37)).heap[w.heap.size]? = some (.cells (arow 3 e0 (.slice a0 n0 c0)) 37 (0, 0))) := row_new w _ 37
  obtain ⟨D, hD⟩ : ∃ D, D = dropP ⟨e0.i, e0.u, e0.t⟩ (M.map Prod.fst) := ⟨_, rfl⟩
  have HC1 : Hid _ := rdrop_any (fun k => Gd N F k ∨ w.heap.size ≤ k) (w.alloc (.cells (arow 3 e0 (.slice a0 n0 c0)) 37)) (.slice ra M.length rc) M ⟨e0.i, e0.u, e0.t⟩ ((hr.mono (fun k _ hk => .inl hk)).later hb0) (fun b hb => .inr (Nat.le_trans hb0.size hb)) (by omega)
  have HLM : Hid ((M.map Prod.fst).length = M.length) := List.length_map _
  have HDP : Hid (∀ F' W, LD N F' W p (M.map Prod.fst) → Calls Try.prog 19 #[.pointer (some ⟨p, 0, none⟩), KV ⟨e0.i, e0.u, e0.t⟩] W fun x w' => x = .returned (.int .i64 ((M.length : Int) - (D.length : Int))) ∧ LD N F' w' p D ∧ Kp (Mv N F') W w') := fun F' W hW => by
    have := l_drop hW ⟨e0.i, e0.u, e0.t⟩ (by rw [List.length_map]; omega)
    rw [← hD, List.length_map] at this
    exact this
  rw [← hD] at HC1 ⊢
  obtain ⟨z, hz⟩ : ∃ z, (M.length : Int) - (D.length : Int) = z := ⟨_, rfl⟩
  rw [hz] at HC1 HDP
  obtain ⟨ml, hml⟩ : ∃ n, M.length = n := ⟨_, rfl⟩
  rw [hml] at HC1 ⊢
  obtain ⟨ei, eu, et, eb, ek, es⟩ := e0
  unfold KV at HC1 HDP
  unfold AV
  dsimp only at HC1 HDP ⊢
  clear hb0 hd hr hl hz hml hD HLM
  go_enter Try.func10, Try.ntmps10
  go_wp2_with fail
  refine Calls.mono HC1.out ?_
  rintro e w1 ⟨rv', L', rfl, q1, q2, q3⟩
  obtain ⟨qa, qc, rfl, _⟩ := id q1
  have HD1 : Hid _ := HD0.out.guard q3
  have HR1 : Hid (RJ (fun k => Gd N F k ∨ w.heap.size ≤ k) w1 (.slice qa L'.length qc) L') := q1
  have HL1 : Hid _ := q2
  have HB1 : Hid (Below w.heap.size w w1) := HB0.out.trans (q3.mono HB0.out.size)
  have r1 := row_later HRW.out q3
  have c0 : w1.cell? ⟨w.heap.size, 0, none⟩ = some (.int .i64 3) := (cell_row r1 0).trans rfl
  have c1 : w1.cell? ⟨w.heap.size, 1, none⟩ = some (.int .i64 ei) := (cell_row r1 1).trans rfl
  have c2 : w1.cell? ⟨w.heap.size, 2, none⟩ = some (.bool eu) := (cell_row r1 2).trans rfl
  have c3 : w1.cell? ⟨w.heap.size, 3, none⟩ = some (.int .i64 et) := (cell_row r1 3).trans rfl
  have HC2 : Hid _ := HDP.out _ w1 HD1.out
  clear q1 q2 q3 r1 HC1 HRW
  go_wp2_with fail
  refine Calls.mono HC2.out ?_
  rintro e w2 ⟨rfl, hd2, hk2⟩
  have HD2 : Hid _ := hd2
  have HK2 : Hid _ := hk2
  clear hd2 hk2 HC2
  go_wp2_with fail
  go_ret2
  have hs0 := HS0.out
  have hbz := HB1.out.size
  refine ⟨_, qa, _, qc, L', rfl, HD2.out, (HR1.out.mono (fun k hk hk1 => ?_)).kept HK2.out (fun k hk hk1 => ?_), HL1.out, (HB1.out.mono HNN.out).trans (Mv.below HK2.out (Nat.le_trans HNN.out hbz))⟩
  · rcases hk1 with (hk1 | hk1) | hk1
    · exact .inl hk1
    · exact .inr (.inl (.inl hk1))
    · by_cases h9 : k < w.heap.size + 1
      · exact .inr (.inl (.inr ⟨hk1, by omega⟩))
      · exact .inr (.inr ⟨by omega, hk⟩)
  · rcases hk with hk | hk
    · have := hk1.1; omega
    · exact hk1.2 hk
end Go.Proofs.Ythbckfncpnobcaa
