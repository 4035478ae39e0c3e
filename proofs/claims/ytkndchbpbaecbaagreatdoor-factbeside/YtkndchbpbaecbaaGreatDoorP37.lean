/- Texts of the seat, packed: Kj Yl Yk Yp Ys Yt. -/
import Derived.Test.YtkndchbpbaecbaaGreatDoorP36
import Derived.Lib.AppendZeros
import Derived.Test.YtkndchbpbaecbaaGreatDoorP10
import Derived.Laws.Rows
/- Keys in a row of one's own; the walk over Open. -/
namespace Go.Proofs.YtkndchbpbaecbaaGreatDoor.Fc
open Go.RowKit Go.Shelf
set_option maxRecDepth 1000000
set_option linter.unusedVariables false

theorem info45 : (Tryz.prog.info? 45).map (fun i => (i.zero, i.size, i.bytes)) = some (some (.agg #[.int .i64 0, .bool false, .int .i64 0]), 3, 24) := by kernel_rfl

def keyC (x : Nat × Bool × Int) : List Value := [.int .i64 (x.1 : Int), .bool x.2.1, .int .i64 x.2.2]
def rowsK (K : List (Nat × Bool × Int)) : List Value := K.flatMap keyC
theorem rowsK_cons (f : Nat × Bool × Int) (l : List (Nat × Bool × Int)) : rowsK (f :: l) = keyC f ++ rowsK l := by simp [rowsK]
theorem rowsK_snoc (l : List (Nat × Bool × Int)) (f : Nat × Bool × Int) : rowsK (l ++ [f]) = rowsK l ++ keyC f := by simp [rowsK]
theorem rowsK_len (l : List (Nat × Bool × Int)) : (rowsK l).length = l.length * 3 := by
  induction l with
  | nil => rfl
  | cons f l ih => rw [rowsK_cons, List.length_append, ih, List.length_cons]; simp [keyC]; omega
theorem rowsK_get (l : List (Nat × Bool × Int)) (i : Nat) (f : Nat × Bool × Int) (h : l[i]? = some f) (j : Nat) (hj : j < 3) : (rowsK l)[i * 3 + j]? = (keyC f)[j]? := by
  induction l generalizing i with
  | nil => simp at h
  | cons q l ih =>
    have hl : (keyC q).length = 3 := rfl
    rw [rowsK_cons]
    cases i with
    | zero =>
      simp at h
      subst h
      rw [Nat.zero_mul, Nat.zero_add, List.getElem?_append_left (by omega)]
    | succ i =>
      rw [List.getElem?_append_right (by omega), ← ih i (by simpa using h)]
      congr 1
      omega

/-- Keys in a row of one's own. -/
def OK (B : Nat) (w : World) (v : Value) (l : List (Nat × Bool × Int)) : Prop := w.ownsRow B 45 3 v l.length (rowsK l)

theorem OK.later {B : Nat} {w w' : World} {v : Value} {l : List (Nat × Bool × Int)} (h : OK B w v l) (hb : Below w.heap.size w w') : OK B w' v l := by
  refine ⟨h.1, ?_⟩
  rcases h.2 with hn | ⟨g, cap, cur, rfl, hB, hg, rest⟩
  · exact .inl hn
  · exact .inr ⟨g, cap, cur, rfl, hB, (hb.block g (Array.getElem?_eq_some_iff.1 hg).1).trans hg, rest⟩

theorem OK.slice {B : Nat} {w : World} {v : Value} {l : List (Nat × Bool × Int)} (h : OK B w v l) : ∃ a c, v = .slice a l.length c := by
  rcases h.2 with ⟨e, e2⟩ | ⟨g, cap, cur, e, _⟩
  · exact ⟨none, 0, by rw [e, e2]⟩
  · exact ⟨_, _, e⟩

/-- Keys in memory. -/
def RK (w : World) (v : Value) (l : List (Nat × Bool × Int)) : Prop := ∃ a cap, v = .slice a l.length cap ∧ l.length ≤ cap ∧ cap ≤ maxLen ∧ ∀ (i : Nat) (f : Nat × Bool × Int), l[i]? = some f → ∃ b off, a = some ⟨b, off, none⟩ ∧
  w.cell? ⟨b, off + i * 3, none⟩ = some (.int .i64 (f.1 : Int)) ∧ w.cell? ⟨b, off + i * 3 + 1, none⟩ = some (.bool f.2.1) ∧ w.cell? ⟨b, off + i * 3 + 2, none⟩ = some (.int .i64 f.2.2)

theorem RK.later {w w' : World} {v : Value} {l : List (Nat × Bool × Int)} (h : RK w v l) (hb : Below w.heap.size w w') : RK w' v l := by
  obtain ⟨a, cap, hv, hc, hm, hr⟩ := h
  refine ⟨a, cap, hv, hc, hm, fun i f hi => ?_⟩
  obtain ⟨b, off, ha, c0, c1, c2⟩ := hr i f hi
  exact ⟨b, off, ha, Dg.cell_later hb c0, Dg.cell_later hb c1, Dg.cell_later hb c2⟩

theorem OK.rk {B : Nat} {w : World} {v : Value} {l : List (Nat × Bool × Int)} (h : OK B w v l) : RK w v l := by
  have hl := h
  unfold OK at h hl
  rcases h.2 with ⟨rfl, h0⟩ | ⟨g, cap, cur, rfl, _, _, q1, q2, _⟩
  · have h1 : l = [] := List.eq_nil_of_length_eq_zero h0
    subst h1
    exact ⟨none, 0, rfl, by simp, by unfold maxLen; omega, by simp⟩
  · refine ⟨_, cap, rfl, q1, q2, fun i f hf => ⟨g, 0, rfl, ?_⟩⟩
    have hi : i < l.length := (List.getElem?_eq_some_iff.1 hf).1
    have cell : ∀ j, j < 3 → w.cell? ⟨g, 0 + i * 3 + j, none⟩ = (keyC f)[j]? := fun j hj => by
      have := hl.cellAt (i * 3 + j) (by omega)
      rw [← rowsK_get l i f hf j hj, ← this, Nat.zero_add]
    exact ⟨cell 0 (by omega), cell 1 (by omega), cell 2 (by omega)⟩

theorem opG_snoc : ∀ (l : List Fa) (s : Nat) (f : Fa), opG s (l ++ [f]) = opG s l ++ opF (s + l.length) f
  | [], s, f => by simp [opG]
  | a :: l, s, f => by
    rw [List.cons_append, opG, opG, opG_snoc l (s + 1) f, List.append_assoc, List.length_cons, show s + 1 + l.length = s + (l.length + 1) by omega]

theorem opF_few (i : Nat) (f : Fa) : (opF i f).length ≤ 2 := by unfold opF; split <;> split <;> simp
theorem opG_few : ∀ (l : List Fa) (s : Nat), (opG s l).length ≤ 2 * l.length
  | [], s => by simp [opG]
  | a :: l, s => by
    have h1 := opF_few s a
    have h2 := opG_few l (s + 1)
    rw [opG, List.length_append, List.length_cons]
    omega

/-- A fact's keys, as the program tells them. -/
theorem opF_code {f : Fa} (hf : okF f) (i : Nat) : (f = begunF ∧ ¬ f = tryingF f.slips ∧ opF i f = [(i, false, 0)]) ∨ (¬ f = begunF ∧ f = tryingF f.slips ∧ 0 ≤ f.slips ∧ f.slips ≤ 3 ∧ opF i f = [(i, true, f.slips)]) ∨ (¬ f = begunF ∧ ¬ f = tryingF f.slips ∧ opF i f = []) := by
  obtain ⟨r, tr, sl, un⟩ := f
  obtain ⟨a1, a2, a3, a4, a5, a6, a7⟩ := hf
  simp only [begunF, tryingF, Fa.mk.injEq] at *
  unfold opF
  simp only
  by_cases h1 : r = 1
  · left
    have ht : tr = 0 := by omega
    have hs : sl = 0 := by omega
    have hu : un = false := by cases un; rfl; have := a7 rfl; omega
    subst h1 ht hs hu
    simp
  · by_cases h2 : tr > sl ∧ un = false
    · right; left
      have ht : tr = sl + 1 := by omega
      have hr : r = 2 := by omega
      obtain ⟨_, hu⟩ := h2
      subst ht hr hu
      refine ⟨by simp, by simp, a3, a4, ?_⟩
      rw [if_neg (by decide), if_pos ⟨by omega, rfl⟩]
      rfl
    · right; right
      refine ⟨fun h => h1 h.1, fun h => h2 ⟨by omega, h.2.2.2⟩, ?_⟩
      rw [if_neg h1, if_neg h2]
      rfl

/-- What Open knows in a round: its keys, and this round's fact. -/
structure OpR (w : World) (kv : Value) (K : List (Nat × Bool × Int)) (f : Fa) (n : Nat) (W : World) : Prop where
  bel : Below w.heap.size w W
  own : OK w.heap.size W kv K
  row : W.heap[n]? = some (.cells f.cells.toArray 38 (0, 0))
  ne : kv.ownBlock ≠ some n

theorem OpR.later {w : World} {kv : Value} {K : List (Nat × Bool × Int)} {f : Fa} {n : Nat} {W W' : World} (h : OpR w kv K f n W) (hb : Below W.heap.size W W') : OpR w kv K f n W' :=
  ⟨h.bel.trans (hb.mono h.bel.size), h.own.later hb, (hb.block _ (Array.getElem?_eq_some_iff.1 h.row).1).trans h.row, h.ne⟩

/-- A key behind them. -/
theorem OpR.push {w : World} {kv : Value} {K : List (Nat × Bool × Int)} {f : Fa} {n : Nat} {W : World} (h : OpR w kv K f n W) (hK : K.length ≤ 1000000000) (x : Nat × Bool × Int) :
    ∃ a m c W', (Builtin.append_ #[42, 42] 42 #[kv, .slice (some ⟨W.heap.size, 0, none⟩) 1 1]).run Tryz.prog (W.alloc (.cells #[.int .i64 (x.1 : Int), .bool x.2.1, .int .i64 x.2.2] 45)) = .ok (.slice a m c) W' ∧ OpR w (.slice a m c) (K ++ [x]) f n W' := by
  obtain ⟨i0, hi0, hz0, hz1, hz2⟩ := info_parts info45
  have h1 := h.later (bl1 W (.cells #[.int .i64 (x.1 : Int), .bool x.2.1, .int .i64 x.2.2] 45))
  obtain ⟨v', W', r1, r2, r3, r4, r5⟩ := run_append_own_at (P := Tryz.prog) (W.alloc (.cells #[.int .i64 (x.1 : Int), .bool x.2.1, .int .i64 x.2.2] 45)) w.heap.size 42 42 45 i0 _ 3 24 Tryz.underlying42 hi0 hz0 hz1 hz2 rfl (by decide) kv K.length (rowsK K) h1.own ⟨W.heap.size, 0, none⟩ 1 1 (keyC x) rfl
    (by
      intro j u hj
      have hr := Dg.row_new W #[.int .i64 (x.1 : Int), .bool x.2.1, .int .i64 x.2.2] 45
      have h7 : (⟨W.heap.size, 0, none⟩ : Addr).add j = ⟨W.heap.size, j, none⟩ := by unfold Addr.add; split <;> simp_all
      rw [h7, Dg.cell_row hr j, ← hj]
      show (keyC x).toArray[j]? = _
      simp)
    (by intro u hu; simp only [keyC, List.mem_cons, List.not_mem_nil, or_false] at hu; rcases hu with rfl | rfl | rfl <;> rfl) (by unfold maxLen; omega) (by omega) h1.bel.size
  have hown : OK w.heap.size W' v' (K ++ [x]) := by
    unfold OK
    rw [rowsK_snoc, List.length_append]
    exact r2
  obtain ⟨a, c, rfl⟩ := hown.slice
  have hlt := (Array.getElem?_eq_some_iff.1 h.row).1
  refine ⟨a, _, c, W', r1, ⟨Below.grown h1.bel r3 h1.bel.size (fun k hk => (World.ownsRow.lt h1.own k hk).1), hown, ?_, ?_⟩⟩
  · rw [r3.block n (by simp; omega) (fun e => h.ne e.symm)]
    exact h1.row
  · intro e
    rcases r5 with r5 | r5
    · rw [e] at r5; exact h.ne r5.symm
    · rw [e] at r5
      have := Option.some.inj r5
      simp at this
      omega

open Classical in
noncomputable def openP (its : List It) (l : List Fa) : List (Nat × Bool × Int) := if chkF its l = 0 then opG 0 l else []

/-- How Open ends. -/
def OpnC (K : List (Nat × Bool × Int)) (w : World) (x : Ending) (w' : World) : Prop := Below w.heap.size w w' ∧ ∃ u, x = .returned u ∧ OK w.heap.size w' u K

set_option maxHeartbeats 4000000 in
theorem open_any (its : List It) (v lv : Value) (l : List Fa) (w : World) (hIt : RdIt w v its) (hF : FairI its) (hT : Dg.Tab w) (hl : RF w lv l) (hil : its.length ≤ 1000000) (hll : l.length ≤ 1000000) :
    Calls Tryz.prog 11 #[.agg #[v], lv] w fun x w' => OpnC (openP its l) w x w' := by
  have hc0 : ChS w v (w.alloc (.cells #[v] 24)) := ⟨bl1 _ _, Dg.row_new w _ 24⟩
  have MC0 := checkF_any its v lv l _ (hIt.later hc0.bel) hF (hT.later hc0.bel) (hl.later hc0.bel) (by omega) (by omega)
  obtain ⟨ia, icap, rfl, _, _⟩ := hIt
  obtain ⟨la, lcap, rfl, hlc, _, hlr⟩ := hl
  have HLR : Hid _ := hlr
  have HC0 : Hid (ChS w (.slice ia its.length icap) _) := hc0
  obtain ⟨c, HC⟩ : ∃ c, Hid (chkF its l = c) := ⟨_, rfl⟩
  obtain ⟨m, HM⟩ : ∃ m, Hid (l.length = m) := ⟨_, rfl⟩
  rw [HC.out, HM.out] at MC0
  have MC : Hid (Calls Tryz.prog 9 #[.agg #[.slice ia its.length icap], .slice la m lcap] _ fun e w' => e = .returned (.int .i64 c) ∧ Below _ _ w') := MC0
  rw [HM.out] at hll hlc ⊢
  clear hc0 MC0 hlr
  go_enter Tryz.func11, Tryz.ntmps11
  go_wp2_with fail
  generalize w.alloc (.cells #[.slice ia its.length icap] 24) = w0 at *
  refine Calls.mono MC.out ?_
  rintro x w1 ⟨rfl, hb1⟩
  have HC1 : Hid _ := HC0.out.later hb1
  clear MC HC0 hb1
  by_cases hc : c = 0
  rotate_left
  · have HP : Hid (openP its l = []) := by
      show _ = _
      unfold openP
      rw [if_neg (by rw [HC.out]; exact hc)]
    have hc2 : (c != 0) = true := by simpa using hc
    clear hc HC
    go_wp2_with fail
    go_ret
    rw [HP.out]
    exact ⟨HC1.out.bel, _, rfl, World.ownsRow_nil _ _ _ _⟩
  subst hc
  have HOK : Hid _ := (chkF_iff.1 HC.out).2
  have HP : Hid (openP its l = opG 0 l) := by
    show _ = _
    unfold openP
    rw [if_pos HC.out]
  clear HC
  have HB1 : Hid (Below w.heap.size w w1) := HC1.out.bel
  clear HC1
  go_wp2_with fail
  go_loopw [14, 5] (fun iv kv wr => ∃ (k : Nat) (ka : Option Addr) (km kc : Nat), k ≤ m ∧ iv = .int .i64 k ∧ kv = .slice ka km kc ∧ Hid (Below w.heap.size w wr) ∧ Hid (OK w.heap.size wr (.slice ka km kc) (opG 0 (l.take k)))) (fun iv _ _ => m - (intOf iv).toNat)
  case atStart => exact ⟨0, none, 0, 0, Nat.zero_le _, rfl, rfl, HB1, World.ownsRow_nil _ _ _ _⟩
  case round =>
    obtain ⟨k, ka, km, kc, hk, rfl, rfl, HB, HO⟩ := hrel
    rename World => wr
    by_cases hlt : k < m
    rotate_left
    · have HT : Hid (l.take k = l) := List.take_of_length_le (by rw [HM.out]; omega)
      clear HB1
      go_wp2_with fail
      go_ret
      refine ⟨HB.out, _, rfl, ?_⟩
      rw [HP.out]
      have h := HO.out
      rw [HT.out] at h
      exact h
    obtain ⟨f, hf⟩ : ∃ f, l[k]? = some f := ⟨_, List.getElem?_eq_getElem (by rw [HM.out]; exact hlt)⟩
    have HTK : Hid (opG 0 (l.take (k + 1)) = opG 0 (l.take k) ++ opF k f) := by
      show _ = _
      rw [List.take_add_one, hf]
      show opG 0 (l.take k ++ [f]) = _
      rw [opG_snoc, List.length_take, HM.out, Nat.zero_add, Nat.min_eq_left (by omega)]
    have hokf : okF f := by
      have := (HOK.out.2 k (by rw [HM.out]; exact hlt)).1
      rw [List.getD_eq_getElem?_getD, hf] at this
      exact this
    have HCD : Hid _ := opF_code hokf k
    have HSL : Hid (0 ≤ f.slips ∧ f.slips ≤ 3) := ⟨hokf.2.2.1, hokf.2.2.2.1⟩
    have HKL : Hid ((opG 0 (l.take k)).length ≤ 1000000000) := by
      have h1 := opG_few (l.take k) 0
      rw [List.length_take, HM.out] at h1
      show _ ≤ _
      omega
    obtain ⟨fb, fo, rfl, f0, f1, f2, f3⟩ := HLR.out k f hf
    have g0 := Dg.cell_later HB.out f0
    have g1 := Dg.cell_later HB.out f1
    have g2 := Dg.cell_later HB.out f2
    have g3 := Dg.cell_later HB.out f3
    have hii : (k : Int) < (m : Int) := by omega
    clear f0 f1 f2 f3 hf hokf
    go_wp2_with fail
    have hne : (Value.slice ka km kc).ownBlock ≠ some wr.heap.size := fun e => by have := (World.ownsRow.lt HO.out _ e).2; omega
    have hS : OpR w (.slice ka km kc) (opG 0 (l.take k)) f wr.heap.size (wr.alloc (.cells f.cells.toArray 38)) := ⟨HB.out.trans ((bl1 _ _).mono HB.out.size), HO.out.later (bl1 _ _), Dg.row_new wr f.cells.toArray 38, hne⟩
    have hS0 : OpR w (.slice ka km kc) (opG 0 (l.take k)) f wr.heap.size (wr.alloc (.cells f.cells.toArray 38)).drew := hS.later (Below.refl _ _).drew
    change Code.wp _ _ _ _ (wr.alloc (.cells f.cells.toArray 38))
    generalize wr.alloc (.cells f.cells.toArray 38) = wa at *
    generalize wr.heap.size = n9 at *
    have HF : Hid (FaV f = .agg #[.int .i64 f.run, .int .i64 f.tries, .int .i64 f.slips, .bool f.un]) := rfl
    clear g0 g1 g2 g3 HB HO hne hS
    generalize opG 0 (l.take k) = K at *
    rcases HCD.out with ⟨b1, b2, b3⟩ | ⟨b1, b2, bl, bu, b3⟩ | ⟨b1, b2, b3⟩
    · have HQ1 : Hid (decide (f = begunF) = true) := decide_eq_true b1
      have HQ2 : Hid (decide (f = tryingF f.slips) = false) := decide_eq_false b2
      have HB3 : Hid _ := b3
      clear b1 b2 b3 HCD
      refine region_thenF [(19, FaV f), (20, FaV begunF), (21, .bool true)] (fun w' => OpR w (.slice ka km kc) K f n9 w') ?_ ?_
      · refine wp_region_held (S := fun w' => OpR w (.slice ka km kc) K f n9 w') (by kernel_rfl) ?_
        simp only [List.size_toArray, List.length_cons, List.length_nil, Nat.reduceAdd, Array.replicate_succ, Array.replicate_zero, List.push_toArray, List.nil_append, List.cons_append]
        refine takeD (i := 0) (d := 19) (v := FaV f) (fuel := 2) rfl rfl (by kernel_rfl) (by kernel_rfl) (by kernel_rfl) (fun _ _ _ h => by cases h.1) (.inl ⟨by kernel_rfl, fun wx h => by rw [HF.out]; obtain ⟨y0, y1, y2, y3⟩ := row_cells h.row; go_simp⟩) hS0 ?_
        simp only [List.setIfInBounds_toArray, List.set_cons_succ, List.set_cons_zero]
        refine oneC (i := 1) (d := 20) (f := 20) (args := #[]) (v := FaV begunF) (fuel := 1) rfl rfl (by kernel_rfl) (by kernel_rfl) (fun _ => by kernel_rfl) hS0 (fun wx h => Calls.mono (begun_any wx) (by rintro e w2 ⟨rfl, hb⟩; exact ⟨rfl, h.later hb⟩)) (fun wz hS101 => ?_)
        simp only [List.setIfInBounds_toArray, List.set_cons_succ, List.set_cons_zero]
        refine takeD (i := 2) (d := 21) (v := .bool true) (fuel := 0) rfl rfl (by kernel_rfl) (by kernel_rfl) (by kernel_rfl) (fun _ _ _ h => by cases h.1) (.inl ⟨by kernel_rfl, fun wx h => eq_exec f begunF (x := .tmp 19) (y := .tmp 20) rfl rfl rfl HQ1.out⟩) hS101 ?_
        simp only [List.setIfInBounds_toArray, List.set_cons_succ, List.set_cons_zero]
        refine wpAnyH_done (by kernel_rfl) ?_ _
        exact ⟨rfl, by kernel_rfl, hS101⟩
      · intro w9 hF
        simp only [setAll, List.setIfInBounds_toArray, List.set_cons_succ, List.set_cons_zero]
        have HF7 : Hid _ := hF
        obtain ⟨ka', km', kc', wp, hrun, hp⟩ := hF.push HKL.out (k, false, 0)
        have hS0 : OpR w (.slice ka' km' kc') (K ++ [(k, false, 0)]) f n9 wp.drew := hp.later (Below.refl _ _).drew
        have HRU : Hid _ := hrun
        clear hF hrun hp HF7
        go_wp2_with (at_builtin; refine Lib.wpList_append_run _ rfl _ _ _ _ rfl _ _ rfl rfl _ _ HRU.out ?_)
        refine region_thenF [(27, FaV f), (28, .pointer (some ⟨n9, 2, none⟩)), (29, .int .i64 f.slips), (30, FaV (tryingF f.slips)), (31, .bool false)] (fun w' => OpR w (.slice ka' km' kc') (K ++ [(k, false, 0)]) f n9 w') ?_ ?_
        · refine wp_region_held (S := fun w' => OpR w (.slice ka' km' kc') (K ++ [(k, false, 0)]) f n9 w') (by kernel_rfl) ?_
          simp only [List.size_toArray, List.length_cons, List.length_nil, Nat.reduceAdd, Array.replicate_succ, Array.replicate_zero, List.push_toArray, List.nil_append, List.cons_append]
          refine takeD (i := 0) (d := 27) (v := FaV f) (fuel := 4) rfl rfl (by kernel_rfl) (by kernel_rfl) (by kernel_rfl) (fun _ _ _ h => by cases h.1) (.inl ⟨by kernel_rfl, fun wx h => by rw [HF.out]; obtain ⟨y0, y1, y2, y3⟩ := row_cells h.row; go_simp⟩) hS0 ?_
          simp only [List.setIfInBounds_toArray, List.set_cons_succ, List.set_cons_zero]
          refine takeD (i := 1) (d := 28) (v := .pointer (some ⟨n9, 2, none⟩)) (fuel := 3) rfl rfl (by kernel_rfl) (by kernel_rfl) (by kernel_rfl) (fun _ _ _ h => by cases h.1) (.inl ⟨by kernel_rfl, fun _ _ => by go_simp⟩) hS0 ?_
          simp only [List.setIfInBounds_toArray, List.set_cons_succ, List.set_cons_zero]
          refine takeD (i := 2) (d := 29) (v := .int .i64 f.slips) (fuel := 2) rfl rfl (by kernel_rfl) (by kernel_rfl) (by kernel_rfl) (fun _ _ _ h => by cases h.1) (.inl ⟨by kernel_rfl, fun wx h => by obtain ⟨y0, y1, y2, y3⟩ := row_cells h.row; go_simp⟩) hS0 ?_
          simp only [List.setIfInBounds_toArray, List.set_cons_succ, List.set_cons_zero]
          refine oneC (i := 3) (d := 30) (f := 21) (args := #[.int .i64 f.slips]) (v := FaV (tryingF f.slips)) (fuel := 1) rfl rfl (by kernel_rfl) (by kernel_rfl) (fun _ => by kernel_rfl) hS0 (fun wx h => Calls.mono (trying_any f.slips wx (HSL.out.1) (HSL.out.2)) (by rintro e w2 ⟨rfl, hb⟩; exact ⟨rfl, h.later hb⟩)) (fun wz hS103 => ?_)
          simp only [List.setIfInBounds_toArray, List.set_cons_succ, List.set_cons_zero]
          refine takeD (i := 4) (d := 31) (v := .bool false) (fuel := 0) rfl rfl (by kernel_rfl) (by kernel_rfl) (by kernel_rfl) (fun _ _ _ h => by cases h.1) (.inl ⟨by kernel_rfl, fun wx h => eq_exec f (tryingF f.slips) (x := .tmp 27) (y := .tmp 30) rfl rfl rfl HQ2.out⟩) hS103 ?_
          simp only [List.setIfInBounds_toArray, List.set_cons_succ, List.set_cons_zero]
          refine wpAnyH_done (by kernel_rfl) ?_ _
          exact ⟨rfl, by kernel_rfl, hS103⟩
        · intro w9 hF
          simp only [setAll, List.setIfInBounds_toArray, List.set_cons_succ, List.set_cons_zero]
          have HF9 : Hid _ := hF
          clear hF
          go_wp2_with fail
          go_roundw
          case rel => exact ⟨k + 1, ka', km', kc', by omega, by go_num, rfl, HF9.out.bel, by rw [HTK.out, HB3.out]; exact HF9.out.own⟩
          case measure => simp [intOf]; omega
    · have HQ1 : Hid (decide (f = begunF) = false) := decide_eq_false b1
      have HQ2 : Hid (decide (f = tryingF f.slips) = true) := decide_eq_true b2
      have HB3 : Hid _ := b3
      clear b1 b2 b3 HCD
      refine region_thenF [(19, FaV f), (20, FaV begunF), (21, .bool false)] (fun w' => OpR w (.slice ka km kc) K f n9 w') ?_ ?_
      · refine wp_region_held (S := fun w' => OpR w (.slice ka km kc) K f n9 w') (by kernel_rfl) ?_
        simp only [List.size_toArray, List.length_cons, List.length_nil, Nat.reduceAdd, Array.replicate_succ, Array.replicate_zero, List.push_toArray, List.nil_append, List.cons_append]
        refine takeD (i := 0) (d := 19) (v := FaV f) (fuel := 2) rfl rfl (by kernel_rfl) (by kernel_rfl) (by kernel_rfl) (fun _ _ _ h => by cases h.1) (.inl ⟨by kernel_rfl, fun wx h => by rw [HF.out]; obtain ⟨y0, y1, y2, y3⟩ := row_cells h.row; go_simp⟩) hS0 ?_
        simp only [List.setIfInBounds_toArray, List.set_cons_succ, List.set_cons_zero]
        refine oneC (i := 1) (d := 20) (f := 20) (args := #[]) (v := FaV begunF) (fuel := 1) rfl rfl (by kernel_rfl) (by kernel_rfl) (fun _ => by kernel_rfl) hS0 (fun wx h => Calls.mono (begun_any wx) (by rintro e w2 ⟨rfl, hb⟩; exact ⟨rfl, h.later hb⟩)) (fun wz hS101 => ?_)
        simp only [List.setIfInBounds_toArray, List.set_cons_succ, List.set_cons_zero]
        refine takeD (i := 2) (d := 21) (v := .bool false) (fuel := 0) rfl rfl (by kernel_rfl) (by kernel_rfl) (by kernel_rfl) (fun _ _ _ h => by cases h.1) (.inl ⟨by kernel_rfl, fun wx h => eq_exec f begunF (x := .tmp 19) (y := .tmp 20) rfl rfl rfl HQ1.out⟩) hS101 ?_
        simp only [List.setIfInBounds_toArray, List.set_cons_succ, List.set_cons_zero]
        refine wpAnyH_done (by kernel_rfl) ?_ _
        exact ⟨rfl, by kernel_rfl, hS101⟩
      · intro w9 hF
        simp only [setAll, List.setIfInBounds_toArray, List.set_cons_succ, List.set_cons_zero]
        have hS0 := hF
        have HF7 : Hid _ := hF
        clear hF
        go_wp2_with fail
        have hS0 : OpR w (.slice ka km kc) K f n9 w9.drew := HF7.out.later (Below.refl _ _).drew
        refine region_thenF [(27, FaV f), (28, .pointer (some ⟨n9, 2, none⟩)), (29, .int .i64 f.slips), (30, FaV (tryingF f.slips)), (31, .bool true)] (fun w' => OpR w (.slice ka km kc) (K) f n9 w') ?_ ?_
        · refine wp_region_held (S := fun w' => OpR w (.slice ka km kc) (K) f n9 w') (by kernel_rfl) ?_
          simp only [List.size_toArray, List.length_cons, List.length_nil, Nat.reduceAdd, Array.replicate_succ, Array.replicate_zero, List.push_toArray, List.nil_append, List.cons_append]
          refine takeD (i := 0) (d := 27) (v := FaV f) (fuel := 4) rfl rfl (by kernel_rfl) (by kernel_rfl) (by kernel_rfl) (fun _ _ _ h => by cases h.1) (.inl ⟨by kernel_rfl, fun wx h => by rw [HF.out]; obtain ⟨y0, y1, y2, y3⟩ := row_cells h.row; go_simp⟩) hS0 ?_
          simp only [List.setIfInBounds_toArray, List.set_cons_succ, List.set_cons_zero]
          refine takeD (i := 1) (d := 28) (v := .pointer (some ⟨n9, 2, none⟩)) (fuel := 3) rfl rfl (by kernel_rfl) (by kernel_rfl) (by kernel_rfl) (fun _ _ _ h => by cases h.1) (.inl ⟨by kernel_rfl, fun _ _ => by go_simp⟩) hS0 ?_
          simp only [List.setIfInBounds_toArray, List.set_cons_succ, List.set_cons_zero]
          refine takeD (i := 2) (d := 29) (v := .int .i64 f.slips) (fuel := 2) rfl rfl (by kernel_rfl) (by kernel_rfl) (by kernel_rfl) (fun _ _ _ h => by cases h.1) (.inl ⟨by kernel_rfl, fun wx h => by obtain ⟨y0, y1, y2, y3⟩ := row_cells h.row; go_simp⟩) hS0 ?_
          simp only [List.setIfInBounds_toArray, List.set_cons_succ, List.set_cons_zero]
          refine oneC (i := 3) (d := 30) (f := 21) (args := #[.int .i64 f.slips]) (v := FaV (tryingF f.slips)) (fuel := 1) rfl rfl (by kernel_rfl) (by kernel_rfl) (fun _ => by kernel_rfl) hS0 (fun wx h => Calls.mono (trying_any f.slips wx bl bu) (by rintro e w2 ⟨rfl, hb⟩; exact ⟨rfl, h.later hb⟩)) (fun wz hS103 => ?_)
          simp only [List.setIfInBounds_toArray, List.set_cons_succ, List.set_cons_zero]
          refine takeD (i := 4) (d := 31) (v := .bool true) (fuel := 0) rfl rfl (by kernel_rfl) (by kernel_rfl) (by kernel_rfl) (fun _ _ _ h => by cases h.1) (.inl ⟨by kernel_rfl, fun wx h => eq_exec f (tryingF f.slips) (x := .tmp 27) (y := .tmp 30) rfl rfl rfl HQ2.out⟩) hS103 ?_
          simp only [List.setIfInBounds_toArray, List.set_cons_succ, List.set_cons_zero]
          refine wpAnyH_done (by kernel_rfl) ?_ _
          exact ⟨rfl, by kernel_rfl, hS103⟩
        · intro w9 hF
          simp only [setAll, List.setIfInBounds_toArray, List.set_cons_succ, List.set_cons_zero]
          obtain ⟨y0, y1, y2, y3⟩ := row_cells hF.row
          obtain ⟨ka', km', kc', wp, hrun, hp⟩ := hF.push HKL.out (k, true, f.slips)
          have HRU : Hid _ := hrun
          have HF9 : Hid _ := hp
          clear hF hrun hp HF7
          go_wp2_with (at_builtin; refine Lib.wpList_append_run _ rfl _ _ _ _ rfl _ _ rfl rfl _ _ HRU.out ?_)
          go_roundw
          case rel => exact ⟨k + 1, ka', km', kc', by omega, by go_num, rfl, HF9.out.bel, by rw [HTK.out, HB3.out]; exact HF9.out.own⟩
          case measure => simp [intOf]; omega
    · have HQ1 : Hid (decide (f = begunF) = false) := decide_eq_false b1
      have HQ2 : Hid (decide (f = tryingF f.slips) = false) := decide_eq_false b2
      have HB3 : Hid _ := b3
      clear b1 b2 b3 HCD
      refine region_thenF [(19, FaV f), (20, FaV begunF), (21, .bool false)] (fun w' => OpR w (.slice ka km kc) K f n9 w') ?_ ?_
      · refine wp_region_held (S := fun w' => OpR w (.slice ka km kc) K f n9 w') (by kernel_rfl) ?_
        simp only [List.size_toArray, List.length_cons, List.length_nil, Nat.reduceAdd, Array.replicate_succ, Array.replicate_zero, List.push_toArray, List.nil_append, List.cons_append]
        refine takeD (i := 0) (d := 19) (v := FaV f) (fuel := 2) rfl rfl (by kernel_rfl) (by kernel_rfl) (by kernel_rfl) (fun _ _ _ h => by cases h.1) (.inl ⟨by kernel_rfl, fun wx h => by rw [HF.out]; obtain ⟨y0, y1, y2, y3⟩ := row_cells h.row; go_simp⟩) hS0 ?_
        simp only [List.setIfInBounds_toArray, List.set_cons_succ, List.set_cons_zero]
        refine oneC (i := 1) (d := 20) (f := 20) (args := #[]) (v := FaV begunF) (fuel := 1) rfl rfl (by kernel_rfl) (by kernel_rfl) (fun _ => by kernel_rfl) hS0 (fun wx h => Calls.mono (begun_any wx) (by rintro e w2 ⟨rfl, hb⟩; exact ⟨rfl, h.later hb⟩)) (fun wz hS101 => ?_)
        simp only [List.setIfInBounds_toArray, List.set_cons_succ, List.set_cons_zero]
        refine takeD (i := 2) (d := 21) (v := .bool false) (fuel := 0) rfl rfl (by kernel_rfl) (by kernel_rfl) (by kernel_rfl) (fun _ _ _ h => by cases h.1) (.inl ⟨by kernel_rfl, fun wx h => eq_exec f begunF (x := .tmp 19) (y := .tmp 20) rfl rfl rfl HQ1.out⟩) hS101 ?_
        simp only [List.setIfInBounds_toArray, List.set_cons_succ, List.set_cons_zero]
        refine wpAnyH_done (by kernel_rfl) ?_ _
        exact ⟨rfl, by kernel_rfl, hS101⟩
      · intro w9 hF
        simp only [setAll, List.setIfInBounds_toArray, List.set_cons_succ, List.set_cons_zero]
        have HF7 : Hid _ := hF
        clear hF
        go_wp2_with fail
        have hS0 : OpR w (.slice ka km kc) K f n9 w9.drew := HF7.out.later (Below.refl _ _).drew
        refine region_thenF [(27, FaV f), (28, .pointer (some ⟨n9, 2, none⟩)), (29, .int .i64 f.slips), (30, FaV (tryingF f.slips)), (31, .bool false)] (fun w' => OpR w (.slice ka km kc) (K) f n9 w') ?_ ?_
        · refine wp_region_held (S := fun w' => OpR w (.slice ka km kc) (K) f n9 w') (by kernel_rfl) ?_
          simp only [List.size_toArray, List.length_cons, List.length_nil, Nat.reduceAdd, Array.replicate_succ, Array.replicate_zero, List.push_toArray, List.nil_append, List.cons_append]
          refine takeD (i := 0) (d := 27) (v := FaV f) (fuel := 4) rfl rfl (by kernel_rfl) (by kernel_rfl) (by kernel_rfl) (fun _ _ _ h => by cases h.1) (.inl ⟨by kernel_rfl, fun wx h => by rw [HF.out]; obtain ⟨y0, y1, y2, y3⟩ := row_cells h.row; go_simp⟩) hS0 ?_
          simp only [List.setIfInBounds_toArray, List.set_cons_succ, List.set_cons_zero]
          refine takeD (i := 1) (d := 28) (v := .pointer (some ⟨n9, 2, none⟩)) (fuel := 3) rfl rfl (by kernel_rfl) (by kernel_rfl) (by kernel_rfl) (fun _ _ _ h => by cases h.1) (.inl ⟨by kernel_rfl, fun _ _ => by go_simp⟩) hS0 ?_
          simp only [List.setIfInBounds_toArray, List.set_cons_succ, List.set_cons_zero]
          refine takeD (i := 2) (d := 29) (v := .int .i64 f.slips) (fuel := 2) rfl rfl (by kernel_rfl) (by kernel_rfl) (by kernel_rfl) (fun _ _ _ h => by cases h.1) (.inl ⟨by kernel_rfl, fun wx h => by obtain ⟨y0, y1, y2, y3⟩ := row_cells h.row; go_simp⟩) hS0 ?_
          simp only [List.setIfInBounds_toArray, List.set_cons_succ, List.set_cons_zero]
          refine oneC (i := 3) (d := 30) (f := 21) (args := #[.int .i64 f.slips]) (v := FaV (tryingF f.slips)) (fuel := 1) rfl rfl (by kernel_rfl) (by kernel_rfl) (fun _ => by kernel_rfl) hS0 (fun wx h => Calls.mono (trying_any f.slips wx (HSL.out.1) (HSL.out.2)) (by rintro e w2 ⟨rfl, hb⟩; exact ⟨rfl, h.later hb⟩)) (fun wz hS103 => ?_)
          simp only [List.setIfInBounds_toArray, List.set_cons_succ, List.set_cons_zero]
          refine takeD (i := 4) (d := 31) (v := .bool false) (fuel := 0) rfl rfl (by kernel_rfl) (by kernel_rfl) (by kernel_rfl) (fun _ _ _ h => by cases h.1) (.inl ⟨by kernel_rfl, fun wx h => eq_exec f (tryingF f.slips) (x := .tmp 27) (y := .tmp 30) rfl rfl rfl HQ2.out⟩) hS103 ?_
          simp only [List.setIfInBounds_toArray, List.set_cons_succ, List.set_cons_zero]
          refine wpAnyH_done (by kernel_rfl) ?_ _
          exact ⟨rfl, by kernel_rfl, hS103⟩
        · intro w9 hF
          simp only [setAll, List.setIfInBounds_toArray, List.set_cons_succ, List.set_cons_zero]
          have HF9 : Hid _ := hF
          clear hF
          go_wp2_with fail
          go_roundw
          case rel => exact ⟨k + 1, ka, km, kc, by omega, by go_num, rfl, HF9.out.bel, by rw [HTK.out, HB3.out, List.append_nil]; exact HF9.out.own⟩
          case measure => simp [intOf]; omega
end Go.Proofs.YtkndchbpbaecbaaGreatDoor.Fc

/- The program's Reach: what it tells lies in blocks of its own. -/
namespace Go.Proofs.YtkndchbpbaecbaaGreatDoor.Dg

open Go.RowKit Go.Shelf

/-- Rows stand, as long as no block from theirs on is turned. -/
theorem RowsI.keep {w w' : World} {q k n : Nat} {L : List (List Nat)} (h : RowsI w q k n L) (hk : ∀ b, q ≤ b → b < w.heap.size → w'.heap[b]? = w.heap[b]?) : RowsI w' q k n L := by
  obtain ⟨Vs, h1, h2, h3⟩ := h
  refine ⟨Vs, (hk q (Nat.le_refl _) (Array.getElem?_eq_some_iff.1 h1).1).trans h1, h2, fun i hi => ?_⟩
  obtain ⟨v, a, va, cap, hv, hc, hr⟩ := h3 i hi
  refine ⟨v, a, va, cap, hv, hc, fun j x hj => ?_⟩
  obtain ⟨b, off, ha, hq, c0⟩ := hr j x hj
  exact ⟨b, off, ha, hq, (World.cell?_of_block (a := ⟨b, off + j, none⟩) (hk b (by omega) (lt_of_cell? c0))).trans c0⟩

end Go.Proofs.YtkndchbpbaecbaaGreatDoor.Dg

/- The program's See: the walk. -/
namespace Go.Proofs.YtkndchbpbaecbaaGreatDoor

open Go.RowKit Go.Shelf Go.Proofs.YtkndchbpbaecbaaGreatDoor.Sx

theorem RdSp.of_own {A : World} {base : Nat} {sv : Value} {its : List It} (h : A.ownsRow base 98 2 sv its.length (spV its)) : RdSp A sv its := by
  have hl : (spV its).length = its.length * 2 := by
    clear h
    induction its with
    | nil => rfl
    | cons x r ih => simp only [spV, List.length_cons, ih]; omega
  rcases h.2 with ⟨rfl, h0⟩ | ⟨g, cap, cur, rfl, _, _, hc, _⟩
  · have : its = [] := List.length_eq_zero_iff.1 h0
    subst this
    exact ⟨none, 0, rfl, Nat.le_refl _, fun i x hi => by simp at hi⟩
  · refine ⟨_, cap, rfl, hc, fun i x hi => ?_⟩
    have hil := (List.getElem?_eq_some_iff.1 hi).1
    obtain ⟨h1, h2⟩ := spV_at its i x hi
    refine ⟨g, 0, rfl, ?_, ?_⟩
    · rw [Nat.zero_add, h.cellAt (i * 2) (by omega)]
      exact h1
    · rw [Nat.zero_add, h.cellAt (i * 2 + 1) (by omega)]
      exact h2

end Go.Proofs.YtkndchbpbaecbaaGreatDoor

/- The library's AppendSeq and Collect, over numbers. -/
namespace Go.Proofs.YtkndchbpbaecbaaGreatDoor

open Go.RowKit Go.Shelf Go.Proofs.YtkndchbpbaecbaaGreatDoor.Sx

attribute [local go_sem] Oper.semAt_some

/-- What AppendSeq knows once k numbers are appended. -/
def Sq (w0 : World) (bx : Nat) (js : List Nat) (k : Nat) (A : World) (TA : Nat → Prop) : Prop :=
  Lo w0 A TA ∧ w0.heap.size ≤ bx ∧ bx < A.heap.size ∧ ¬ TA bx ∧ ∃ u, A.heap[bx]? = some (.cells #[u] 27 (0, 0)) ∧ A.ownsRow bx 3 1 u k (Dg.ivs (js.take k)) ∧ ∀ b, u.ownBlock = some b → ¬ TA b

theorem Sq.mv {w0 : World} {bx : Nat} {js : List Nat} {k : Nat} {A B : World} {TA TB : Nat → Prop} (h : Sq w0 bx js k A TA) (m : Mv TA A TB B) : Sq w0 bx js k B TB := by
  obtain ⟨h1, h2, h3, h4, u, h5, h6, h7⟩ := h
  refine ⟨h1.mv m, h2, Nat.lt_of_lt_of_le h3 m.size, fun ht => h4 ((m.old _ h3).1 ht), u, (m.same _ h3 h4).trans h5, ?_, fun b hb ht => ?_⟩
  · exact own_agree (G := fun b => u.ownBlock = some b) (fun b hb => m.same b (own_exists h6 b hb).2 (h7 b hb)) h6 (fun b hb => hb)
  · exact h7 b hb ((m.old b (own_exists h6 b hb).2).1 ht)

end Go.Proofs.YtkndchbpbaecbaaGreatDoor

/- The laws' example: its plan, its saga, and what is told of it. -/
namespace Go.Proofs.YtkndchbpbaecbaaGreatDoor

open Go.RowKit Go.Shelf Go.Proofs.YtkndchbpbaecbaaGreatDoor.Sx

theorem name1 (c : UInt8) (n : Int) (h1 : enc n = [c]) (h2 : kl n = 1) (h3 : isCp n = true) : nameP [c] :=
  ⟨[n], by simp [encAll, h1], n, [], rfl, h2, by simp, by simp [h3], by simp [encAll, h1]⟩

theorem nm_t : nmP [116] = true := by
  rw [nmP, (isName_iff _).2 (name1 116 116 (by decide +kernel) (by decide +kernel) (by decide +kernel))]; rfl

theorem nm_a : nmP [97] = true := by
  rw [nmP, (isName_iff _).2 (name1 97 97 (by decide +kernel) (by decide +kernel) (by decide +kernel))]; rfl

theorem nm_b : nmP [98] = true := by
  rw [nmP, (isName_iff _).2 (name1 98 98 (by decide +kernel) (by decide +kernel) (by decide +kernel))]; rfl

theorem nm_c : nmP [99] = true := by
  rw [nmP, (isName_iff _).2 (name1 99 99 (by decide +kernel) (by decide +kernel) (by decide +kernel))]; rfl

theorem nm_d : nmP [100] = true := by
  rw [nmP, (isName_iff _).2 (name1 100 100 (by decide +kernel) (by decide +kernel) (by decide +kernel))]; rfl

theorem nm_e : nmP [101] = true := by
  rw [nmP, (isName_iff _).2 (name1 101 101 (by decide +kernel) (by decide +kernel) (by decide +kernel))]; rfl

/-- The example's bodies. -/
def tEx : Tr := .b (.n ⟨[97], [98], [], false, false⟩ .e (.n ⟨[99], [], [[97]], true, false⟩ (.b (.n ⟨[100], [101], [], false, false⟩ .e .e) .e) .e)) .e

/-- Its items. -/
def iEx : List It := [⟨[116], [], true, true, 1, -1, 0, []⟩, ⟨[97], [98], false, false, 0, 0, 0, []⟩, ⟨[99], [], true, false, 1, 0, 0, [1]⟩, ⟨[100], [101], false, false, 0, 2, 0, []⟩]

theorem right_ex : rightS [116] tEx = true := by
  unfold rightS okL
  rw [nm_t]
  have hb : bigL (fltn 1 tEx) = false := by decide +kernel
  rw [hb]
  simp [tEx, fltn, nodeOk, nm_a, nm_b, nm_c, nm_d, nm_e, Tr.len]

theorem fit_ex : fitS [116] tEx = true := by
  unfold fitS codeS
  rw [right_ex]
  decide +kernel

theorem plan_ex : planT [116] tEx = some iEx := by
  unfold planT planP
  rw [if_pos ⟨fit_ex, by decide +kernel, by decide +kernel, by kernel_rfl⟩]
  kernel_rfl

theorem saga_ex : sagaP iEx = some ([116], tEx) := by
  have h1 : nameI iEx 0 = [116] := by kernel_rfl
  have h2 : bodS iEx = tEx := by kernel_rfl
  unfold sagaP
  rw [h1, h2, if_pos ⟨by decide +kernel, plan_ex⟩]

end Go.Proofs.YtkndchbpbaecbaaGreatDoor

/- The laws' example, in memory. -/
namespace Go.Proofs.YtkndchbpbaecbaaGreatDoor

open Go.RowKit Go.Shelf Go.Proofs.YtkndchbpbaecbaaGreatDoor.Sx

theorem old1 {W : World} {k : Nat} {x : Obj} (h : W.heap[k]? = some x) (o : Obj) : (W.alloc o).heap[k]? = some x := (Below.heap_alloc _ _ _ (Array.getElem?_eq_some_iff.1 h).1).trans h

theorem new1 (W : World) (o : Obj) (k : Nat) (h : k = W.heap.size) : (W.alloc o).heap[k]? = some o := by subst h; exact World.alloc_heap_new W o

end Go.Proofs.YtkndchbpbaecbaaGreatDoor

