/- The walk over MergeLess. -/
import Derived.Test.YtamfpmpooaejkaaNu
namespace Go.Proofs.Ytamfpmpooaejkaa
open Go.RowKit Go.Shelf
set_option maxRecDepth 1000000
set_option linter.unusedVariables false

/-- The first events of a list that lies in memory. -/
theorem slice_evs {w : World} {a : Option Addr} {n ca : Nat} {L : List Ev} (h : RE w (.slice a n ca) L) (hi : Nat) (h2 : hi ≤ L.length) :
    ∃ va vc, RE w (.slice va hi vc) (L.take hi) ∧ ∀ wx : World, (Instr.sliceAt 25 (.slice a n ca) none (some (.int .i64 (hi : Int))) none).run Try.prog wx = .ok (.slice va hi vc) wx := by
  obtain ⟨a', ca', he, h3, h4, hc⟩ := h
  simp only [Value.slice.injEq] at he
  obtain ⟨rfl, rfl, rfl⟩ := he
  have hl : (L.take hi).length = hi := by rw [List.length_take]; omega
  refine ⟨if ca = 0 then a else a.map (·.add (0 * 4)), ca - 0, ?_, fun wx => ?_⟩
  · by_cases hm : ca = 0
    · rw [if_pos hm]
      refine ⟨a, ca - 0, by rw [hl], by rw [hl]; omega, by omega, fun i x hx => ?_⟩
      have := (List.getElem?_eq_some_iff.1 hx).1
      rw [hl] at this
      omega
    · rw [if_neg hm]
      refine ⟨_, ca - 0, by rw [hl], by rw [hl]; omega, by omega, fun i x hx => ?_⟩
      rw [List.getElem?_take] at hx
      split at hx
      · obtain ⟨b, off, sv, rfl, c0, c1, c2, c3, c4⟩ := hc i x hx
        refine ⟨b, off, sv, ?_, c0, c1, c2, c3, c4⟩
        simp [Go.WideShapes.add_plain]
      · cases hx
  · rw [run_sliceAt_slice wx 25 _ _ _ _ Try.underlying25, run_slice_h wx 25 a L.length ca Try.underlying25 .i64 hi (by omega) (by unfold maxLen at h4; omega)]
    have : (sizeOf (Try.prog.elem 25)).run Try.prog wx = .ok 4 wx := by kernel_rfl
    rw [this]
    simp [sliced]

/-- A row behind those of a row of one's own. -/
theorem row_push {base : Nat} {W : World} {v : Value} {k : Nat} {vs : List Value} (h : W.ownsRow base 25 1 v k vs) (hk : k ≤ 1000000) (hb : base ≤ W.heap.size) (ua : Option Addr) (un uc : Nat) :
    ∃ a c W', (Builtin.append_ #[22, 22] 22 #[v, .slice (some ⟨W.heap.size, 0, none⟩) 1 1]).run Try.prog (W.alloc (.cells #[.slice ua un uc] 25)) = .ok (.slice a (k + 1) c) W' ∧ W'.ownsRow base 25 1 (.slice a (k + 1) c) (k + 1) (vs ++ [.slice ua un uc]) ∧ Below base (W.alloc (.cells #[.slice ua un uc] 25)) W' := by
  obtain ⟨i0, hi, hz0, hz1, hz2⟩ := info_parts Try.info25
  have h2 := owns_later h ((Below.refl W.heap.size W).alloc (Nat.le_refl _) (.cells #[.slice ua un uc] 25))
  obtain ⟨v', W', r1, r2, r3, r4, r5⟩ := run_append_own_at (P := Try.prog) (W.alloc (.cells #[.slice ua un uc] 25)) base 22 22 25 i0 (.slice none 0 0) 1 24 Try.underlying22 hi hz0 hz1 hz2 rfl (by decide) v k vs h2 ⟨W.heap.size, 0, none⟩ 1 1 [.slice ua un uc] rfl (fun j u hj => by
      match j, hj with
      | 0, hj =>
        simp at hj
        subst hj
        exact (cell_row (row_new W _ _) 0).trans rfl) (by intro u hu; simp at hu; subst hu; rfl) (by unfold maxLen; omega) (by omega) (by simp; omega)
  obtain ⟨a, c, rfl⟩ : ∃ a c, v' = .slice a (k + 1) c := by
    rcases r2.2 with ⟨e1, e2⟩ | ⟨g', cap, cur, e1, _⟩
    · omega
    · exact ⟨_, _, e1⟩
  exact ⟨a, c, W', r1, r2, Below.grown (Below.refl _ _) r3 (by simp; omega) (fun q hq => (World.ownsRow.lt h2 q hq).1)⟩

/-- How many events of a log are left. -/
def ct (R : List (List Ev)) (C : List UInt8) (i : Nat) : Nat := if i < C.length then min (R.getD i []).length (C.getD i 0).toNat else (R.getD i []).length
theorem ct_le (R : List (List Ev)) (C : List UInt8) (i : Nat) : ct R C i ≤ (R.getD i []).length := by unfold ct; split <;> omega
def cutL (R : List (List Ev)) (C : List UInt8) (k : Nat) : List (List Ev) := (List.range k).map (fun i => (R.getD i []).take (ct R C i))
theorem cutL_len (R : List (List Ev)) (C : List UInt8) (k : Nat) : (cutL R C k).length = k := by simp [cutL]
theorem cutL_succ (R : List (List Ev)) (C : List UInt8) (k : Nat) : cutL R C (k + 1) = cutL R C k ++ [(R.getD k []).take (ct R C k)] := by simp [cutL, List.range_succ]
theorem cutL_get {R : List (List Ev)} {C : List UInt8} {k i : Nat} (h : i < k) : (cutL R C k).getD i [] = (R.getD i []).take (ct R C i) := by
  unfold cutL
  rw [List.getD_eq_getElem?_getD, List.getElem?_map, List.getElem?_range h]
  rfl
theorem cutL_tot (R : List (List Ev)) (C : List UInt8) : Mg.tot (cutL R C R.length) ≤ Mg.tot R := by
  unfold Mg.tot
  refine Mg.sum_le _ _ (by rw [List.length_map, List.length_map, cutL_len]) (fun i hi => ?_)
  rw [List.length_map, cutL_len] at hi
  rw [Mg.lens_get, Mg.lens_get, cutL_get hi, List.length_take]
  omega

/-- Rows as they read, in a row of one's own. -/
theorem RRE.of_owns {w : World} {B : Nat} {v : Value} {n : Nat} {vs : List Value} {R : List (List Ev)} (h : w.ownsRow B 25 1 v n vs) (hn : n = R.length) (hl : vs.length = R.length) (hr : ∀ (i : Nat) (u : Value) (L : List Ev), vs[i]? = some u → R[i]? = some L → RE w u L) : RRE w v R := by
  subst hn
  rcases h.2 with ⟨rfl, h0⟩ | ⟨g, cap, cur, rfl, _, _, q1, q2, _⟩
  · have : R = [] := List.eq_nil_of_length_eq_zero h0
    subst this
    exact ⟨none, 0, rfl, by simp, by unfold maxLen; omega, by simp⟩
  · refine ⟨_, cap, rfl, q1, q2, fun i L hL => ?_⟩
    have hi := (List.getElem?_eq_some_iff.1 hL).1
    obtain ⟨u, hu⟩ : ∃ u, vs[i]? = some u := ⟨_, List.getElem?_eq_getElem (by omega)⟩
    refine ⟨g, 0, u, rfl, ?_, hr i u L hu hL⟩
    have := h.cellAt i (by omega)
    rw [Nat.zero_add, this]
    exact hu

theorem less_plain {R : List (List Ev)} (C : List UInt8) (h : 1 ≤ R.length ∧ R.length ≤ 64) (i : Nat) (hi : i < R.length) : (mgN (cutL R C R.length)).getD i 0 ≤ (mgN R).getD i 0 := by
  unfold mgN
  rw [cutL_len, if_pos h, if_pos h, hadZ_get, hadZ_get]
  have := Mg.mer_less evS R (cutL R C R.length) (cutL_len _ _ _) (ct R C) (fun i hi => cutL_get hi) i hi
  omega
theorem half_plain {R : List (List Ev)} (h : 1 ≤ R.length ∧ R.length ≤ 64) (k : Nat) : chkN (R.length : Int) ((mgH R).take k) = 0 := by
  have hok := Mg.mer_ok evS R
  have e1 : mgH R = (Mg.mer evS R).1 := by unfold mgH; rw [if_pos h]
  have h3 : hist (R.length : Int) ((mgH R).take k) = true := by
    unfold hist
    rw [e1, Int.toNat_natCast, Mg.brs_take evS hok.1 k, decide_eq_true (by omega)]
    rfl
  unfold chkN
  rw [h3]
  rfl

/-- What MergeLess has when k rows are cut. -/
structure LsS (B : Nat) (w0 : World) (R : List (List Ev)) (C : List UInt8) (k : Nat) (v : Value) (W : World) : Prop where
  own : ∃ vs : List Value, W.ownsRow B 25 1 v k vs ∧ vs.length = k ∧ ∀ i u, vs[i]? = some u → RE w0 u ((R.getD i []).take (ct R C i))
  bel : Below w0.heap.size w0 W
theorem LsS.push {B : Nat} {w0 : World} {R : List (List Ev)} {C : List UInt8} {k : Nat} {v : Value} {W : World} (h : LsS B w0 R C k v W) (hB : B = w0.heap.size) (hk : k ≤ 1000000) (ua : Option Addr) (un uc : Nat) (hu : RE w0 (.slice ua un uc) ((R.getD k []).take (ct R C k))) :
    ∃ a c W', (Builtin.append_ #[22, 22] 22 #[v, .slice (some ⟨W.heap.size, 0, none⟩) 1 1]).run Try.prog (W.alloc (.cells #[.slice ua un uc] 25)) = .ok (.slice a (k + 1) c) W' ∧ LsS B w0 R C (k + 1) (.slice a (k + 1) c) W' := by
  obtain ⟨vs, h1, h2, h3⟩ := h.own
  have hs := h.bel.size
  obtain ⟨a, c, W', r1, r2, r3⟩ := row_push h1 hk (by omega) ua un uc
  refine ⟨a, c, W', r1, ⟨vs ++ [.slice ua un uc], r2, by simp [h2], fun i u hi => ?_⟩, ?_⟩
  · by_cases hik : i < vs.length
    · rw [List.getElem?_append_left hik] at hi
      exact h3 i u hi
    · rw [List.getElem?_append_right (by omega)] at hi
      have h0 : i - vs.length = 0 := by
        have := (List.getElem?_eq_some_iff.1 hi).1
        simp at this
        omega
      rw [h0] at hi
      simp at hi
      subst hi
      have : i = k := by omega
      subst this
      exact hu
  · subst hB
    exact (h.bel.alloc h.bel.size _).trans r3
theorem LsS.rre {B : Nat} {w0 : World} {R : List (List Ev)} {C : List UInt8} {v : Value} {W : World} (h : LsS B w0 R C R.length v W) : RRE W v (cutL R C R.length) := by
  obtain ⟨vs, h1, h2, h3⟩ := h.own
  refine RRE.of_owns h1 (cutL_len _ _ _).symm (by rw [cutL_len]; exact h2) (fun i u L hu hL => ?_)
  have hi := (List.getElem?_eq_some_iff.1 hL).1
  rw [cutL_len] at hi
  have hg : (cutL R C R.length)[i]? = some ((cutL R C R.length).getD i []) := getD_row (by rw [cutL_len]; exact hi)
  rw [hg] at hL
  cases hL
  rw [cutL_get hi]
  exact (h3 i u hu).later h.bel
end Go.Proofs.Ytamfpmpooaejkaa
