/- Events in memory with their stamps' values; the walk over the iterator of fronts. -/
import Derived.Test.YtamfpmpooaejkaaNb
import Derived.Test.YtamfpmpooaejkaaGq
namespace Go.Proofs.Ytamfpmpooaejkaa
open Go.RowKit Go.Shelf
set_option maxRecDepth 1000000
set_option linter.unusedVariables false
attribute [local go_sem] Oper.semAt_some

/-- Events in memory, each with the value of its stamp. -/
def REv (w : World) (v : Value) (L : List EvP) : Prop :=
  ∃ a cap, v = .slice a L.length cap ∧ L.length ≤ cap ∧ cap ≤ maxLen ∧ ∀ i x, L[i]? = some x → ∃ b off, a = some ⟨b, off, none⟩ ∧ w.cell? ⟨b, off + i * 4, none⟩ = some (.int .i64 x.1.k) ∧ w.cell? ⟨b, off + i * 4 + 1, none⟩ = some (.int .i64 x.1.i) ∧ w.cell? ⟨b, off + i * 4 + 2, none⟩ = some (.int .i64 x.1.t) ∧ w.cell? ⟨b, off + i * 4 + 3, none⟩ = some x.2 ∧ RI w x.2 x.1.s

theorem REv.later {w w' : World} {v : Value} {L : List EvP} (h : REv w v L) (hb : Below w.heap.size w w') : REv w' v L := by
  obtain ⟨a, cap, rfl, h1, h2, hc⟩ := h
  refine ⟨a, cap, rfl, h1, h2, fun i x hx => ?_⟩
  obtain ⟨b, off, ha, c0, c1, c2, c3, c4⟩ := hc i x hx
  exact ⟨b, off, ha, cell_later hb c0, cell_later hb c1, cell_later hb c2, cell_later hb c3, c4.later hb⟩

theorem REv.slice {w : World} {v : Value} {L : List EvP} (h : REv w v L) : ∃ a c, v = .slice a L.length c := by
  obtain ⟨a, cap, rfl, _⟩ := h
  exact ⟨_, _, rfl⟩

theorem REv.re {w : World} {v : Value} {L : List EvP} (h : REv w v L) : RE w v (L.map Prod.fst) := by
  obtain ⟨a, cap, rfl, h1, h2, hc⟩ := h
  refine ⟨a, cap, by rw [List.length_map], by rw [List.length_map]; exact h1, h2, fun i x hx => ?_⟩
  rw [List.getElem?_map] at hx
  obtain ⟨p, hp, rfl⟩ := Option.map_eq_some_iff.1 hx
  obtain ⟨b, off, ha, c0, c1, c2, c3, c4⟩ := hc i p hp
  exact ⟨b, off, p.2, ha, c0, c1, c2, c3, c4⟩

theorem RE.rev {w : World} {v : Value} {L : List Ev} (h : RE w v L) : ∃ M : List EvP, M.map Prod.fst = L ∧ REv w v M := by
  obtain ⟨a, cap, rfl, h1, h2, hc⟩ := h
  have key : ∃ M : List EvP, M.map Prod.fst = L ∧ ∀ i p, M[i]? = some p → ∃ b off, a = some ⟨b, off, none⟩ ∧ w.cell? ⟨b, off + i * 4, none⟩ = some (.int .i64 p.1.k) ∧ w.cell? ⟨b, off + i * 4 + 1, none⟩ = some (.int .i64 p.1.i) ∧ w.cell? ⟨b, off + i * 4 + 2, none⟩ = some (.int .i64 p.1.t) ∧ w.cell? ⟨b, off + i * 4 + 3, none⟩ = some p.2 ∧ RI w p.2 p.1.s := by
    have : ∀ (L' : List Ev) (j : Nat), (∀ i x, L'[i]? = some x → ∃ b off sv, a = some ⟨b, off, none⟩ ∧ w.cell? ⟨b, off + (j + i) * 4, none⟩ = some (.int .i64 x.k) ∧ w.cell? ⟨b, off + (j + i) * 4 + 1, none⟩ = some (.int .i64 x.i) ∧ w.cell? ⟨b, off + (j + i) * 4 + 2, none⟩ = some (.int .i64 x.t) ∧ w.cell? ⟨b, off + (j + i) * 4 + 3, none⟩ = some sv ∧ RI w sv x.s) →
        ∃ M : List EvP, M.map Prod.fst = L' ∧ ∀ i p, M[i]? = some p → ∃ b off, a = some ⟨b, off, none⟩ ∧ w.cell? ⟨b, off + (j + i) * 4, none⟩ = some (.int .i64 p.1.k) ∧ w.cell? ⟨b, off + (j + i) * 4 + 1, none⟩ = some (.int .i64 p.1.i) ∧ w.cell? ⟨b, off + (j + i) * 4 + 2, none⟩ = some (.int .i64 p.1.t) ∧ w.cell? ⟨b, off + (j + i) * 4 + 3, none⟩ = some p.2 ∧ RI w p.2 p.1.s := by
      intro L'
      induction L' with
      | nil => intro j _; exact ⟨[], rfl, fun i p h => by simp at h⟩
      | cons x L' ih =>
        intro j h
        obtain ⟨b, off, sv, q⟩ := h 0 x rfl
        obtain ⟨M, m1, m2⟩ := ih (j + 1) (fun i z hz => by
          have := h (i + 1) z (by simpa using hz)
          rw [show j + (i + 1) = j + 1 + i by omega] at this
          exact this)
        refine ⟨(x, sv) :: M, by rw [List.map_cons, m1], fun i p hp => ?_⟩
        cases i with
        | zero => simp at hp; subst hp; exact ⟨b, off, q⟩
        | succ i =>
          have := m2 i p (by simpa using hp)
          rw [show j + 1 + i = j + (i + 1) by omega] at this
          exact this
    have h0 := this L 0 (fun i x hx => by rw [Nat.zero_add]; exact hc i x hx)
    simp only [Nat.zero_add] at h0
    exact h0
  obtain ⟨M, m1, m2⟩ := key
  have hl : L.length = M.length := by rw [← m1, List.length_map]
  exact ⟨M, m1, a, cap, by rw [hl], by rw [← hl]; exact h1, h2, m2⟩

/-- Rows of events in memory, each with the values of its stamps. -/
def RREv (w : World) (v : Value) (R : List (List EvP)) : Prop :=
  ∃ a cap, v = .slice a R.length cap ∧ R.length ≤ cap ∧ cap ≤ maxLen ∧ ∀ i L, R[i]? = some L → ∃ b off sv, a = some ⟨b, off, none⟩ ∧ w.cell? ⟨b, off + i, none⟩ = some sv ∧ REv w sv L

theorem RREv.later {w w' : World} {v : Value} {R : List (List EvP)} (h : RREv w v R) (hb : Below w.heap.size w w') : RREv w' v R := by
  obtain ⟨a, cap, rfl, h1, h2, hc⟩ := h
  refine ⟨a, cap, rfl, h1, h2, fun i x hx => ?_⟩
  obtain ⟨b, off, sv, ha, c0, c1⟩ := hc i x hx
  exact ⟨b, off, sv, ha, cell_later hb c0, c1.later hb⟩
theorem RREv.slice {w : World} {v : Value} {L : List (List EvP)} (h : RREv w v L) : ∃ a c, v = .slice a L.length c := by
  obtain ⟨a, cap, rfl, _⟩ := h
  exact ⟨_, _, rfl⟩
theorem RREv.rre {w : World} {v : Value} {R : List (List EvP)} (h : RREv w v R) : RRE w v (R.map (List.map Prod.fst)) := by
  obtain ⟨a, cap, rfl, h1, h2, hc⟩ := h
  refine ⟨a, cap, by rw [List.length_map], by rw [List.length_map]; exact h1, h2, fun i x hx => ?_⟩
  rw [List.getElem?_map] at hx
  obtain ⟨p, hp, rfl⟩ := Option.map_eq_some_iff.1 hx
  obtain ⟨b, off, sv, ha, c0, c1⟩ := hc i p hp
  exact ⟨b, off, sv, ha, c0, c1.re⟩
theorem RRE.rev {w : World} {v : Value} {R : List (List Ev)} (h : RRE w v R) : ∃ M : List (List EvP), M.map (List.map Prod.fst) = R ∧ RREv w v M := by
  obtain ⟨a, cap, rfl, h1, h2, hc⟩ := h
  have key : ∀ (R' : List (List Ev)) (j : Nat), (∀ i L, R'[i]? = some L → ∃ b off sv, a = some ⟨b, off, none⟩ ∧ w.cell? ⟨b, off + (j + i), none⟩ = some sv ∧ RE w sv L) →
      ∃ M : List (List EvP), M.map (List.map Prod.fst) = R' ∧ ∀ i L, M[i]? = some L → ∃ b off sv, a = some ⟨b, off, none⟩ ∧ w.cell? ⟨b, off + (j + i), none⟩ = some sv ∧ REv w sv L := by
    intro R'
    induction R' with
    | nil => intro j _; exact ⟨[], rfl, fun i p h => by simp at h⟩
    | cons x R' ih =>
      intro j h
      obtain ⟨b, off, sv, q1, q2, q3⟩ := h 0 x rfl
      obtain ⟨X, x1, x2⟩ := q3.rev
      obtain ⟨M, m1, m2⟩ := ih (j + 1) (fun i z hz => by
        have := h (i + 1) z (by simpa using hz)
        rw [show j + (i + 1) = j + 1 + i by omega] at this
        exact this)
      refine ⟨X :: M, by rw [List.map_cons, m1, x1], fun i p hp => ?_⟩
      cases i with
      | zero => simp at hp; subst hp; exact ⟨b, off, sv, q1, q2, x2⟩
      | succ i =>
        have := m2 i p (by simpa using hp)
        rw [show j + 1 + i = j + (i + 1) by omega] at this
        exact this
  obtain ⟨M, m1, m2⟩ := key R 0 (fun i x hx => by rw [Nat.zero_add]; exact hc i x hx)
  simp only [Nat.zero_add] at m2
  have hl : R.length = M.length := by rw [← m1, List.length_map]
  exact ⟨M, m1, a, cap, by rw [hl], by rw [← hl]; exact h1, h2, m2⟩

theorem getD_rows {L : List (List EvP)} {k : Nat} (h : k < L.length) : L[k]? = some (L.getD k []) := by
  rw [List.getElem?_eq_getElem h, List.getD_eq_getElem?_getD, List.getElem?_eq_getElem h]
  rfl

/-- What the iterators yield. -/
def encM (x : Nat × EvP) (F : Nat) (W : World) (T : Nat → Prop) (args : Array Value) : Prop := args = #[.int .i64 (x.1 : Nat), EvV x.2.1 x.2.2]

theorem getElem_of_drop {α : Type} {xs r : List α} {k : Nat} {x : α} (h : xs.drop k = x :: r) : xs[k]? = some x ∧ xs.drop (k + 1) = r ∧ k < xs.length := by
  have h1 : (xs.drop k)[0]? = some x := by rw [h]; rfl
  rw [List.getElem?_drop, Nat.add_zero] at h1
  refine ⟨h1, ?_, (List.getElem?_eq_some_iff.1 h1).1⟩
  rw [← List.drop_drop, h]
  rfl
theorem drop_end {α : Type} {xs : List α} {k : Nat} (h : xs.drop k = []) (hk : k ≤ xs.length) : k = xs.length := by
  have := congrArg List.length h
  rw [List.length_drop] at this
  simp at this
  omega

/-- What is known between two rounds of fronts. -/
structure FSt (A B : Nat) (lv hv : Value) (w1 : World) (J : Nat → World → (Nat → Prop) → Prop) (T : Nat → Prop) (k : Nat) (Wr : World) : Prop where
  j : J k Wr T
  ba : Boxed Wr A 22 lv
  bb : Boxed Wr B 26 hv
  tA : T A
  tB : T B
  bel : Below w1.heap.size w1 Wr
  own : ∀ b, T b → b < Wr.heap.size

theorem FSt.round {A B : Nat} {lv hv : Value} {w1 : World} {J : Nat → World → (Nat → Prop) → Prop} {T : Nat → Prop} {k k' : Nat} {Wr W' : World} (h : FSt A B lv hv w1 J T k Wr) (hj : J k' W' T) (hr : Rv w1.heap.size T Wr W') : FSt A B lv hv w1 J T k' W' :=
  ⟨hj, (hr.keep A h.tA h.ba.lt).trans h.ba, (hr.keep B h.tB h.bb.lt).trans h.bb, h.tA, h.tB, h.bel.trans hr.below, fun b hb => Nat.lt_of_lt_of_le (h.own b hb) hr.size⟩

theorem results_none {P : Program} {fn : Func} (h : fn.results = #[]) (tmps : Array Value) (w : World) : (results fn tmps).run P w = .ok (.tuple #[]) w := by
  simp [results, h, go_sem]

set_option maxHeartbeats 4000000 in
theorem fronts_itr (A B : Nat) (lv hv : Value) (L : List (List EvP)) (had : List Nat) (w1 : World) (hl : RREv w1 lv L) (hh : RI w1 hv (hadZ had)) (hn : had.length = L.length) (hsm : ∀ i, had.getD i 0 ≤ 1000000) (hL : L.length ≤ 64)
    (T : Nat → Prop) (w : World) (hbl : Below w1.heap.size w1 w) (bA : Boxed w A 22 lv) (bB : Boxed w B 26 hv) (tA : T A) (tB : T B) (hown : ∀ b, T b → b < w.heap.size) :
    Itr Try.prog 44 #[.pointer (some ⟨A, 0, none⟩), .pointer (some ⟨B, 0, none⟩)] encM (fr L had) w1.heap.size T w := by
  intro l J Jx W hW hJ hJx hY hJ0
  have H0 : Hid (FSt A B lv hv w1 J T 0 W) := ⟨hJ0, (hW.block A bA.lt).trans bA, (hW.block B bB.lt).trans bB, tA, tB, hbl.trans (hW.mono hbl.size), fun b hb => Nat.lt_of_lt_of_le (hown b hb) hW.size⟩
  have HY : Hid _ := hY
  obtain ⟨xs, HX⟩ : ∃ xs, Hid (xs = fr L had) := ⟨_, rfl⟩
  rw [← HX.out] at HY ⊢
  have HRL : Hid _ := hl
  have HRH : Hid _ := hh
  obtain ⟨la, lc, rfl, hlc, _, hlr⟩ := hl
  obtain ⟨ha, hc, rfl, hhc, _, hhr⟩ := hh
  have HLR : Hid _ := hlr
  have HHR : Hid _ := hhr
  obtain ⟨R, HR⟩ : ∃ R : Ending → World → Prop, Hid (R = fun e W2 => ∃ v T2, e = .returned v ∧ (J xs.length W2 T2 ∨ ∃ k, k < xs.length ∧ Jx (k + 1) W2 T2) ∧ (∀ b, b < W.heap.size → (T2 b ↔ T b)) ∧ (∀ b, T2 b → b < W2.heap.size)) := ⟨_, rfl⟩
  rw [← HR.out]
  have cA := H0.out.ba.cell
  obtain ⟨n, HN⟩ : ∃ n, Hid (L.length = n) := ⟨_, rfl⟩
  have HNh : Hid (had.length = n) := hn.trans HN.out
  have hhl : (hadZ had).length = n := (hadZ_len had).trans HNh.out
  have HSM : Hid _ := hsm
  rw [HN.out] at hL hlc cA H0
  rw [hhl] at hhc H0 HRH
  rw [HN.out] at HRL
  clear hJ hJx hY hJ0 hW hbl bA bB tA tB hown hlr hhr hn hsm
  have HHL : Hid _ := hhl
  clear hhl
  refine callsIn_of_wp Try.func44 rfl trivial ?_ rfl
  simp only [Try.ntmps44, List.size_toArray, List.length_cons, List.length_nil, Nat.reduceAdd, Nat.reduceSub, Array.replicate_succ, Array.replicate_zero, List.push_toArray, List.append_toArray, List.nil_append, List.cons_append]
  gi_wp2
  clear cA
  gi_loopw [8] (fun iv wr => ∃ (i k : Nat), iv = .int .i64 i ∧ i ≤ n ∧ Hid (FSt A B (.slice la n lc) (.slice ha n hc) w1 J T k wr) ∧ Hid (xs.drop k = frF L had i (n - i) ∧ k ≤ xs.length)) (fun iv _ => n - (intOf iv).toNat)
  case atStart => exact ⟨0, 0, rfl, Nat.zero_le _, H0, by rw [HX.out, Nat.sub_zero, ← HN.out]; rfl, Nat.zero_le _⟩
  case round =>
    obtain ⟨i, k, rfl, hi, HF, HD⟩ := hrel
    by_cases hlt : i < n
    · obtain ⟨lb, lo, sv, rfl, c0, hrow⟩ := HLR.out i _ (getD_rows (by rw [HN.out]; exact hlt))
      obtain ⟨hb, ho, rfl, c1⟩ := HHR.out i (by rw [HHL.out]; exact hlt)
      rw [hadZ_get] at c1
      have hsm := HSM.out i
      have d0 := cell_later HF.out.bel c0
      have d1 := cell_later HF.out.bel c1
      have cB := HF.out.bb.cell
      obtain ⟨m, hm⟩ : ∃ m, n - i = m + 1 := ⟨n - i - 1, by omega⟩
      have HM : Hid (n - (i + 1) = m) := by show _ = _; omega
      have HROW : Hid (REv w1 sv (L.getD i [])) := hrow
      obtain ⟨ra, rc, rfl, hrc, _, hrr⟩ := hrow
      obtain ⟨d, hd⟩ := HD.out
      rw [hm] at d
      have HDD : Hid _ := d
      have HDK : Hid _ := hd
      clear hm c0 c1 d hd HD
      by_cases hf : had.getD i 0 < (L.getD i []).length
      · obtain ⟨p, hp⟩ : ∃ p, (L.getD i [])[had.getD i 0]? = some p := ⟨_, List.getElem?_eq_getElem hf⟩
        have hfx : frx L had i = some (i, p) := by unfold frx; rw [hp]; rfl
        have hdr := HDD.out
        rw [frF_some hfx] at hdr
        obtain ⟨h1, h2, h3⟩ := getElem_of_drop hdr
        obtain ⟨eb, eo, rfl, e0, e1, e2, e3, e4⟩ := hrr _ p hp
        have g0 := cell_later HF.out.bel e0
        have g1 := cell_later HF.out.bel e1
        have g2 := cell_later HF.out.bel e2
        have g3 := cell_later HF.out.bel e3
        obtain ⟨fnn, tms, asg, bdy, hy, hR⟩ := HY.out k _ #[.int .i64 (i : Nat), EvV p.1 p.2] wr.heap.size wr T h1 rfl ⟨wr, T, HF.out.j, rfl, Mv.refl _ _⟩ HF.out.j HF.out.own 0
        unfold EvV at hy
        have HH3 : Hid (k < xs.length) := h3
        have HD2 : Hid (xs.drop (k + 1) = frF L had (i + 1) (n - (i + 1)) ∧ k + 1 ≤ xs.length) := ⟨by rw [HM.out]; exact h2, h3⟩
        have hfi : ((had.getD i 0 : Nat) : Int) < ((L.getD i []).length : Int) := by omega
        have hdf : decide (((had.getD i 0 : Nat) : Int) < ((L.getD i []).length : Int)) = true := decide_eq_true hfi
        clear hdr h1 h2 h3 e0 e1 e2 e3 e4 hrr hfx hp HDD HDK HROW
        generalize (L.getD i []).length = ln at *
        generalize had.getD i 0 = q at *
        obtain ⟨e, pv⟩ := p
        dsimp only at *
        generalize e.k = ek at *
        generalize e.i = ei at *
        generalize e.t = et at *
        gi_wp2
        refine ⟨rfl, hR.mono ?_⟩
        rintro x W3 ⟨t, rfl, ht1, ht2⟩
        cases t with
        | true =>
          obtain ⟨hj3, hrv⟩ := ht1 rfl
          have HF3 : Hid _ := HF.out.round hj3 hrv
          clear ht1 ht2 hrv hj3 hy hR HF
          gi_wp2
          go_roundw
          case rel => exact ⟨i + 1, k + 1, by go_num, by omega, HF3, HD2⟩
          case measure => simp [intOf]; omega
        | false =>
          obtain ⟨hj3, hrv⟩ := ht2 rfl
          have HJ3 : Hid _ := hj3
          have HF3 : Hid (∀ b, T b → b < W3.heap.size) := fun b hb => Nat.lt_of_lt_of_le (HF.out.own b hb) hrv.size
          clear ht1 ht2 hrv hj3 hy hR HF
          gi_wp2
          refine bodyPost_ret (results_none rfl _ _) rfl ?_
          rw [HR.out]
          exact ⟨_, T, rfl, .inr ⟨k, HH3.out, HJ3.out⟩, fun _ _ => Iff.rfl, HF3.out⟩
      · have hfx : frx L had i = none := by unfold frx; rw [List.getElem?_eq_none (by omega)]; rfl
        have HD2 : Hid (xs.drop k = frF L had (i + 1) (n - (i + 1)) ∧ k ≤ xs.length) := ⟨by rw [HM.out, ← frF_none hfx]; exact HDD.out, HDK.out⟩
        have hdf : decide (((had.getD i 0 : Nat) : Int) < ((L.getD i []).length : Int)) = false := decide_eq_false (by omega)
        have hfi : ¬ ((had.getD i 0 : Nat) : Int) < ((L.getD i []).length : Int) := by omega
        clear hfx HDD HDK HROW hrr
        generalize (L.getD i []).length = ln at *
        generalize had.getD i 0 = q at *
        gi_wp2
        refine ⟨fun f h => (by cases h), ?_⟩
        gi_wp2
        go_roundw
        case rel => exact ⟨i + 1, k, by go_num, by omega, HF, HD2⟩
        case measure => simp [intOf]; omega
    · have HKX : Hid (k = xs.length) := by
        show k = xs.length
        obtain ⟨d, hd⟩ := HD.out
        rw [show n - i = 0 by omega] at d
        exact drop_end d hd
      gi_wp2
      refine bodyPost_ret (results_none rfl _ _) rfl ?_
      rw [HR.out]
      refine ⟨_, T, rfl, .inl ?_, fun _ _ => Iff.rfl, HF.out.own⟩
      have := HF.out.j
      rw [HKX.out] at this
      exact this
end Go.Proofs.Ytamfpmpooaejkaa
