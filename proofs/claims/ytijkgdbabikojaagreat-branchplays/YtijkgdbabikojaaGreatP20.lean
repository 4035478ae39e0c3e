/- Texts of the seat, packed: Gg. -/
import Derived.Test.YtijkgdbabikojaaGreatP19
/- The walks over branch's whole and its iterator. -/
namespace Go.Proofs.YtijkgdbabikojaaGreat
open Go.RowKit Go.Shelf
set_option maxRecDepth 1000000
set_option linter.unusedVariables false
attribute [local go_sem] Oper.semAt_some

/-- The events of what is whole, each with the place behind it. -/
def whW (n : Nat) (i : Int) : Nat → List (List UInt8 × Nat) → List (Ev × Nat)
  | _, [] => []
  | k, x :: r => match rd x.1 with
    | none => []
    | some y => if y.s.length = n ∧ atZ y.s i = ((k + 1 : Nat) : Int) then (y, x.2) :: whW n i (k + 1) r else []

/-- What whole yields. -/
def encW (x : Ev × Nat) (F : Nat) (W : World) (T : Nat → Prop) (args : Array Value) : Prop := ∃ a c, args = #[EvV x.1 (.slice a x.1.s.length c), .int .i64 (x.2 : Nat)] ∧ RI W (.slice a x.1.s.length c) x.1.s ∧ (∀ b, a = some b → F ≤ b.block ∧ ¬ T b.block) ∧ x.1.s.length ≤ 1000000

theorem whole_any (pp : Option Addr) (i : Int) (w : World) : Calls Tryz.prog 41 #[.pointer pp, .int .i64 i] w fun e w' => e = .returned (.func (.func 81) #[] #[.pointer (some ⟨w.heap.size, 0, none⟩), .pointer (some ⟨w.heap.size + 1, 0, none⟩)]) ∧ w' = (w.alloc (.cells #[.pointer pp] 25)).alloc (.cells #[.int .i64 i] 3) := by
  go_enter Tryz.func41, Tryz.ntmps41
  go_wp2_with fail
  go_ret
  exact ⟨rfl, rfl⟩

structure WSt (n0 D I y cb : Nat) (pp : Option Addr) (i : Int) (l : Nat) (w0 Ws : World) (T TJ TB : Nat → Prop) (W : World) : Prop where
  bd : Boxed W D 25 (.pointer pp)
  bi : Boxed W I 3 (.int .i64 i)
  bY : Boxed W y 123 (.func (.yield l) #[] #[])
  tD : TJ D
  tI : TJ I
  tY : TJ y
  tc : TJ cb
  nD : ¬ TB D
  nI : ¬ TB I
  nY : ¬ TB y
  nc : ¬ TB cb
  cD : cb ≠ D
  cI : cb ≠ I
  cY : cb ≠ y
  sub : ∀ b, TB b → TJ b
  bel : Below n0 w0 W
  own : ∀ b, TJ b → n0 ≤ b ∧ b < W.heap.size
  old : ∀ b, b < Ws.heap.size → (TJ b ↔ T b)
  sz : Ws.heap.size ≤ W.heap.size
  le : n0 ≤ W.heap.size

section
variable {n0 D I y cb : Nat} {pp : Option Addr} {i : Int} {l : Nat} {w0 Ws : World} {T TJ TB : Nat → Prop} {W : World}

theorem WSt.mv (h : WSt n0 D I y cb pp i l w0 Ws T TJ TB W) {W' : World} {TB' : Nat → Prop} (hm : Mv TB W TB' W') : Mv TJ W (fun b => TJ b ∨ TB' b) W' ∧ WSt n0 D I y cb pp i l w0 Ws T (fun b => TJ b ∨ TB' b) TB' W' := by
  have hl : ∀ b, TB b → b < W.heap.size := fun b hb => (h.own b (h.sub b hb)).2
  have hw := hm.wide h.sub hl
  have hls : ∀ {b}, TJ b → b < W.heap.size := fun hb => (h.own _ hb).2
  have hle := h.le
  have hsz := h.sz
  refine ⟨hw, boxed_mv h.bd hm h.nD, boxed_mv h.bi hm h.nI, boxed_mv h.bY hm h.nY, .inl h.tD, .inl h.tI, .inl h.tY, .inl h.tc, hm.no (hls h.tD) h.nD, hm.no (hls h.tI) h.nI, hm.no (hls h.tY) h.nY, hm.no (hls h.tc) h.nc, h.cD, h.cI, h.cY, fun b hb => .inr hb,
    hm.below h.bel (fun b hb ht => by have := (h.own b (h.sub b ht)).1; omega) h.le, fun b hb => ?_, fun b hb => ?_, Nat.le_trans h.sz hm.size, Nat.le_trans h.le hm.size⟩
  · rcases hb with hb | hb
    · exact ⟨(h.own b hb).1, Nat.lt_of_lt_of_le (h.own b hb).2 hm.size⟩
    · refine ⟨?_, hm.up hl b hb⟩
      by_cases hlt : b < W.heap.size
      · exact (h.own b (h.sub b ((hm.old b hlt).1 hb))).1
      · omega
  · rw [← h.old b hb]
    exact ⟨fun hx => hx.elim id (fun hx => h.sub b ((hm.old b (by omega)).1 hx)), .inl⟩

/-- What only adds. -/
theorem WSt.below (h : WSt n0 D I y cb pp i l w0 Ws T TJ TB W) {W' : World} (hb : Below W.heap.size W W') : WSt n0 D I y cb pp i l w0 Ws T TJ TB W' :=
  ⟨(hb.block D h.bd.lt).trans h.bd, (hb.block I h.bi.lt).trans h.bi, (hb.block y h.bY.lt).trans h.bY, h.tD, h.tI, h.tY, h.tc, h.nD, h.nI, h.nY, h.nc, h.cD, h.cI, h.cY, h.sub, h.bel.trans (hb.mono h.le), fun b hb2 => ⟨(h.own b hb2).1, Nat.lt_of_lt_of_le (h.own b hb2).2 hb.size⟩, h.old, Nat.le_trans h.sz hb.size, Nat.le_trans h.le hb.size⟩

theorem WSt.count (h : WSt n0 D I y cb pp i l w0 Ws T TJ TB W) (v : Value) : WSt n0 D I y cb pp i l w0 Ws T TJ TB (W.setCell ⟨cb, 0, none⟩ v) :=
  ⟨h.bd.other (Ne.symm h.cD) _, h.bi.other (Ne.symm h.cI) _, h.bY.other (Ne.symm h.cY) _, h.tD, h.tI, h.tY, h.tc, h.nD, h.nI, h.nY, h.nc, h.cD, h.cI, h.cY, h.sub, h.bel.setCell (p := ⟨cb, 0, none⟩) (h.own cb h.tc).1 _, fun b hb => by simpa using h.own b hb, h.old, by simpa using h.sz, by simpa using h.le⟩

/-- The caller's round. -/
theorem WSt.round (h : WSt n0 D I y cb pp i l w0 Ws T TJ TB W) {W' : World} (hr : Rv n0 TJ W W') : WSt n0 D I y cb pp i l w0 Ws T TJ TB W' := by
  have kp : ∀ {b t v}, TJ b → Boxed W b t v → Boxed W' b t v := fun hb hx => (hr.keep _ hb hx.lt).trans hx
  exact ⟨kp h.tD h.bd, kp h.tI h.bi, kp h.tY h.bY, h.tD, h.tI, h.tY, h.tc, h.nD, h.nI, h.nY, h.nc, h.cD, h.cI, h.cY, h.sub, h.bel.trans hr.below, fun b hb => ⟨(h.own b hb).1, Nat.lt_of_lt_of_le (h.own b hb).2 hr.size⟩, h.old, Nat.le_trans h.sz hr.size, Nat.le_trans h.le hr.size⟩
end

theorem frF_length (B : List UInt8) : ∀ (f p : Nat), (frF B f p).length ≤ f
  | 0, p => by simp [frF]
  | f + 1, p => by
    by_cases hz : (Fr.takeP B p).2.2 = 0
    · rw [frF_yes hz, List.length_cons]
      have := frF_length B f (Fr.takeP B p).2.1
      omega
    · rw [frF_no hz]; simp

/-- Bytes lie in no box of a number. -/
theorem RB.not_box {w : World} {a : Addr} {n c : Nat} {l : List UInt8} {b : Nat} {z : Int} (h : RB w (.slice (some a) n c) l) (hb : Boxed w b 3 (.int .i64 z)) (hl : 0 < l.length) : a.block ≠ b := by
  obtain ⟨a', c', e, _, _, _, hc⟩ := h
  obtain ⟨b', off, e2, hcell⟩ := hc 0 hl
  cases e
  cases e2
  intro hbb
  have hbb : b' = b := hbb
  subst hbb
  rw [cell_of_row _ _ _ _ 3 (0, 0) hb] at hcell
  match off, hcell with
  | 0, hcell => simp at hcell
  | off + 1, hcell => simp at hcell

theorem leave0 {P : Program} {fn : Func} {tmps : Array Value} {W : World} {D : Nat} {R : Ending → World → Prop} (hn : fn.results = #[]) (hD : W.heap[D]? = some (.deferred (some []))) (hR : ∀ v, R (.returned v) (W.putObj D (.deferred none))) (e : Exit) (he : e = .ret ∨ e = .normal) :
    bodyPostM Fence.wide 0 P fn R e { tmps := tmps, defers := [{ target := .collected D, args := #[] }] } W := by
  rcases he with rfl | rfl
  · exact ⟨by simp, .inl ⟨_, _, rfl, run_takeDeferred hD, _, results_none hn _ _ _, hR _⟩⟩
  · exact ⟨by simp, .inl ⟨_, _, rfl, run_takeDeferred hD, _, results_none hn _ _ _, hR _⟩⟩

set_option maxHeartbeats 8000000 in
theorem whole_itr (pp : Option Addr) (n : Nat) (i : Int) (w0 : World) (hC : Cnt pp n w0) (hn : n ≤ 65) (B : List UInt8) (hB : B.length ≤ 100000)
    (hRd : hasN n i = true → ∀ wx, Below w0.heap.size w0 wx → Calls Tryz.prog 33 #[.pointer pp, .int .i64 i] wx fun e w' => ∃ v, e = .returned v ∧ Dk.RBf wx.heap.size w' v B ∧ Below wx.heap.size wx w')
    (D I : Nat) (T : Nat → Prop) (w : World) (hbl : Below w0.heap.size w0 w) (bd : Boxed w D 25 (.pointer pp)) (bi : Boxed w I 3 (.int .i64 i)) (tD : T D) (tI : T I) (hown : ∀ b, T b → w0.heap.size ≤ b ∧ b < w.heap.size) (ws : List (Ev × Nat)) (hws : ws = if hasN n i = true then whW (n - 1) i 0 (frL B) else []) :
    Itr Tryz.prog 81 #[.pointer (some ⟨D, 0, none⟩), .pointer (some ⟨I, 0, none⟩)] encW ws w0.heap.size T w := by
  intro l J Jx W hW hJ hJx hY hJ0
  have hzW := hW.size
  have hz0 := hbl.size
  have HJ : Hid _ := hJ
  have HJx : Hid _ := hJx
  have HY : Hid _ := hY
  have HW1 : Hid (Below w0.heap.size w0 W) := hbl.trans (hW.mono hz0)
  have bdW : Boxed W D 25 (.pointer pp) := (hW.block D bd.lt).trans bd
  have biW : Boxed W I 3 (.int .i64 i) := (hW.block I bi.lt).trans bi
  have ldD := bd.lt
  have ldI := bi.lt
  obtain ⟨R, HR⟩ : ∃ R : Ending → World → Prop, Hid (R = fun e W2 => ∃ v T2, e = .returned v ∧ (J ws.length W2 T2 ∨ ∃ k, k < ws.length ∧ Jx (k + 1) W2 T2) ∧ (∀ b, b < W.heap.size → (T2 b ↔ T b)) ∧ (∀ b, T2 b → b < W2.heap.size)) := ⟨_, rfl⟩
  rw [← HR.out]
  have b0 := Boxed.new W 123 (.func (.yield l) #[] #[])
  have b1 := bdW.alloc (.cells #[.func (.yield l) #[] #[]] 123)
  have b2 := biW.alloc (.cells #[.func (.yield l) #[] #[]] 123)
  have hB1 : Below W.heap.size W (W.alloc (.cells #[.func (.yield l) #[] #[]] 123)) := (Below.refl _ _).alloc (Nat.le_refl _) _
  have HJ1 : Hid _ := hJ _ _ _ _ _ hJ0 (Mv.alloc T W (.cells #[.func (.yield l) #[] #[]] 123))
  have HB1 : Hid (Below w0.heap.size w0 (W.alloc (.cells #[.func (.yield l) #[] #[]] 123))) := HW1.out.trans (hB1.mono (by omega))
  have c1 := b1.cell
  have c2 := b2.cell
  have HH : Hid _ := has_br pp n i (W.alloc (.cells #[.func (.yield l) #[] #[]] 123)) (hC.later HB1.out) hn
  clear hJ hJx hY
  refine callsIn_of_wp_marks Tryz.func81 rfl trivial ?_ rfl
  simp only [Tryz.ntmps81, List.size_toArray, List.length_cons, List.length_nil, Nat.reduceAdd, Nat.reduceSub, Array.replicate_succ, Array.replicate_zero, List.push_toArray, List.append_toArray, List.nil_append, List.cons_append]
  gi_wp2
  refine ⟨trivial, rfl, (callsIn_wide.2 HH.out).mono ?_⟩
  rintro e W2 ⟨rfl, hb2⟩
  by_cases hh : hasN n i = true
  · rw [hh]
    have HJ2 : Hid _ := HJ.out _ _ _ _ _ HJ1.out (Mv.of_below hb2)
    have hs2 := hb2.size
    have hz2 : W.heap.size + 1 ≤ W2.heap.size := by simpa using hs2
    have b0' : Boxed W2 _ _ _ := (hb2.block _ b0.lt).trans b0
    have b1' : Boxed W2 _ _ _ := (hb2.block _ b1.lt).trans b1
    have b2' : Boxed W2 _ _ _ := (hb2.block _ b2.lt).trans b2
    have b0'' := b0'.alloc (.cells #[.int .i64 0] 3)
    have b1'' := b1'.alloc (.cells #[.int .i64 0] 3)
    have b2'' := b2'.alloc (.cells #[.int .i64 0] 3)
    have b3 := Boxed.new W2 3 (.int .i64 0)
    have c3 := b1''.cell
    have c4 := b2''.cell
    have hB2 : Below w0.heap.size w0 W2 := HB1.out.trans (hb2.mono (by simp; omega))
    have hB3 : Below w0.heap.size w0 (W2.alloc (.cells #[.int .i64 0] 3)) := hB2.alloc (by omega) _
    have HRD : Hid _ := hRd hh _ hB3
    have HJ3 : Hid _ := HJ.out _ _ _ _ _ HJ2.out (Mv.alloc _ W2 (.cells #[.int .i64 0] 3))
    clear HH hb2 b0 b1 b2 c1 c2 hRd
    gi_wp2
    refine ⟨trivial, rfl, (callsIn_wide.2 HRD.out).mono ?_⟩
    rintro e W4 ⟨v, rfl, ⟨hrb, hfr⟩, hb4⟩
    have hs4 := hb4.size
    have hz4 : W2.heap.size + 1 ≤ W4.heap.size := by simpa using hs4
    have bY4 : Boxed W4 _ _ _ := (hb4.block _ b0''.lt).trans b0''
    have bD4 : Boxed W4 _ _ _ := (hb4.block _ b1''.lt).trans b1''
    have bI4 : Boxed W4 _ _ _ := (hb4.block _ b2''.lt).trans b2''
    have bC4 : Boxed W4 _ _ _ := (hb4.block _ b3.lt).trans b3
    have HJ4 : Hid _ := HJ.out _ _ _ _ _ HJ3.out (Mv.of_below_own hb4)
    have HRB : Hid (RB W4 v B) := hrb
    obtain ⟨va, vc, rfl, q1, q2, q3, q4⟩ := hrb
    have HFR : Hid (∀ a n c, Value.slice va B.length vc = .slice (some a) n c → W2.heap.size + 1 ≤ a.block) := fun a n c he => by have := hfr a n c he; simpa using this
    have HLO : Hid (∀ a n c, Value.slice va B.length vc = .slice (some a) n c → 0 < B.length → a.block < W4.heap.size) := fun a n c he hl => by
      cases he
      obtain ⟨b, off, e, hcell⟩ := q4 0 hl
      cases e
      exact World.block_lt_of_cell? W4 _ hcell
    clear hfr q1 q2 q3 q4 HRD c3 c4
    gi_wp2
    refine ⟨trivial, rfl, (callsIn_wide.2 (frames_any _ _ _ _)).mono ?_⟩
    rintro e W5 ⟨rfl, rfl⟩
    have bA := Boxed.new W4 34 (.slice va B.length vc)
    have bY5 := bY4.alloc (.cells #[.slice va B.length vc] 34)
    have bD5 := bD4.alloc (.cells #[.slice va B.length vc] 34)
    have bI5 := bI4.alloc (.cells #[.slice va B.length vc] 34)
    have bC5 := bC4.alloc (.cells #[.slice va B.length vc] 34)
    have hB4 : Below w0.heap.size w0 W4 := hB3.trans (hb4.mono (by simp; omega))
    have hB5 : Below w0.heap.size w0 (W4.alloc (.cells #[.slice va B.length vc] 34)) := hB4.alloc (by omega) _
    have HJ5 : Hid _ := HJ.out _ _ _ _ _ HJ4.out (Mv.alloc _ W4 (.cells #[.slice va B.length vc] 34))
    have hrb5 : RB (W4.alloc (.cells #[.slice va B.length vc] 34)) (.slice va B.length vc) B := HRB.out.later ((Below.refl _ _).alloc (Nat.le_refl _) _)
    have hz5 : (W4.alloc (.cells #[.slice va B.length vc] 34)).heap.size = W4.heap.size + 1 := by simp
    obtain ⟨W5, hW5⟩ : ∃ W5, W4.alloc (.cells #[.slice va B.length vc] 34) = W5 := ⟨_, rfl⟩
    rw [hW5] at bA bY5 bD5 bI5 bC5 hB5 HJ5 hrb5 hz5 ⊢
    have HZ5 : Hid (W5.heap.size = W4.heap.size + 1) := hz5
    obtain ⟨TF, HTF⟩ : ∃ TF : Nat → Prop, Hid (TF = fun b => b = W4.heap.size ∨ (0 < B.length ∧ ∃ a n c, Value.slice va B.length vc = .slice (some a) n c ∧ b = a.block)) := ⟨_, rfl⟩
    have hTFr : ∀ b, TF b → W2.heap.size + 1 ≤ b ∧ b < W5.heap.size := fun b hb => by
      rw [HTF.out] at hb
      rcases hb with rfl | ⟨hl, a, n', c, he, rfl⟩
      · omega
      · have := HFR.out a n' c he
        have := HLO.out a n' c he hl
        omega
    have hIt := frames_itr W4.heap.size _ B w0.heap.size TF W5 bA hrb5 hB (by rw [HTF.out]; exact .inl rfl) (fun a n' c he hl => .inr (by rw [HTF.out]; exact .inr ⟨hl, a, n', c, he, rfl⟩)) (fun b hb => (hTFr b hb).2) (by omega)
    obtain ⟨fs, HFS⟩ : ∃ fs, Hid (fs = frL B) := ⟨_, rfl⟩
    rw [← HFS.out] at hIt
    have HWS : Hid (ws = whW (n - 1) i 0 fs) := by show _ = _; rw [hws, if_pos hh, HFS.out]
    clear hW5 hrb5 hb4 hws b0'' b1'' b2'' b0' b1' b2' b3 bY4 bD4 bI4 bC4 hB2 hB3 hB4
    clear hz5
    gi_wp2
    have hz5 := HZ5.out
    refine range_law (P := Tryz.prog) (gf := 106) (lb := #[.pointer (some ⟨W4.heap.size, 0, none⟩)]) rfl (enters_of Tryz.func106 (by kernel_rfl) rfl) (enc := encF) (xs := fs) (n0 := w0.heap.size) (T := TF) hIt (fun b hb => (hTFr b hb).2) (by omega)
      (fun x F W T args h => by obtain ⟨_, _, rfl, _⟩ := h; rfl)
      (fun k V TB => Hid (∃ TJ, J k V TJ ∧ WSt w0.heap.size D I W.heap.size W2.heap.size pp i l w0 W T TJ TB V ∧ Boxed V W2.heap.size 3 (.int .i64 (k : Nat)) ∧ ws.drop k = whW (n - 1) i k (fs.drop k) ∧ k ≤ ws.length))
      (fun c k V TB => Hid (c = .ret ∧ ∃ TJ, (J ws.length V TJ ∨ ∃ k', k' < ws.length ∧ Jx (k' + 1) V TJ) ∧ WSt w0.heap.size D I W.heap.size W2.heap.size pp i l w0 W T TJ TB V))
      (fun k A TA B' TB h hm => ?mv1) (fun c k A TA B' TB h hm => ?mv2) ?start ?round ?done ?stop
    case mv1 =>
      obtain ⟨TJ, h1, h2, h3, h4, h5⟩ := h.out
      obtain ⟨m1, m2⟩ := h2.mv hm
      exact ⟨_, HJ.out _ _ _ _ _ h1 m1, m2, boxed_mv h3 hm h2.nc, h4, h5⟩
    case mv2 =>
      obtain ⟨hc, TJ, h1, h2⟩ := h.out
      obtain ⟨m1, m2⟩ := h2.mv hm
      refine ⟨hc, _, ?_, m2⟩
      rcases h1 with h1 | ⟨k', hk', h1⟩
      · exact .inl (HJ.out _ _ _ _ _ h1 m1)
      · exact .inr ⟨k', hk', HJx.out _ _ _ _ _ h1 m1⟩
    case start =>
      have hTJ : ∀ b, T b → b < W.heap.size := fun b hb => by have := (hown b hb).2; omega
      refine ⟨_, HJ5.out, ⟨bD5, bI5, bY5, .inl (.inl (.inl (.inl tD))), .inl (.inl (.inl (.inl tI))), .inl (.inl (.inl (.inr rfl))), .inl (.inl (.inr rfl)), fun h => by have := hTFr _ h; omega, fun h => by have := hTFr _ h; omega, fun h => by have := hTFr _ h; omega, fun h => by have := hTFr _ h; omega, by omega, by omega, by omega, fun b hb => ?_, hB5, fun b hb => ?_, fun b hb => ?_, by omega, by omega⟩, bC5, ?_, Nat.zero_le _⟩
      · have h9 := hTFr b hb
        by_cases hb4 : b = W4.heap.size
        · exact .inr hb4
        · refine .inl (.inr ⟨?_, by omega⟩)
          simp only [World.size_alloc]
          omega
      · rcases hb with (((hb | hb) | hb) | hb) | hb
        · have := hown b hb; omega
        · omega
        · omega
        · simp only [World.size_alloc] at hb; omega
        · omega
      · constructor
        · rintro ((((hx | hx) | hx) | hx) | hx)
          · exact hx
          · omega
          · omega
          · simp only [World.size_alloc] at hx; omega
          · omega
        · exact fun hx => .inl (.inl (.inl (.inl hx)))
      · rw [HWS.out]; rfl
    case round =>
      rintro m l' k x args F V T1 TB hxk ⟨va', vc', rfl, hrb, hva⟩ _ h hTB hup hnc hlt
      have HLK : Hid (k ≤ 100001) := by
        show k ≤ _
        have h1 := (List.getElem?_eq_some_iff.1 hxk).1
        have h2 := frF_length B (B.length + 1) 0
        rw [HFS.out] at h1
        unfold frL at h1
        omega
      have HDR : Hid (fs.drop k = x :: fs.drop (k + 1)) := by
        obtain ⟨h1, h2⟩ := List.getElem?_eq_some_iff.1 hxk
        rw [← h2]
        exact List.drop_eq_getElem_cons h1
      have HX1 : Hid (x.1.length ≤ 1024) := by
        show _ ≤ _
        have := frF_mem B (B.length + 1) 0 x (by rw [HFS.out] at hxk; exact List.mem_of_getElem? hxk)
        exact this.1
      clear hTB hnc hxk
      gi_wp2
      refine ⟨h, Rv.refl _ _ _, fun V2 h2 hbz => ?_⟩
      have hsz2 := hbz.size
      obtain ⟨TJ, j1, st, bc, hd, hk⟩ := h2.out
      rw [HDR.out] at hd
      have HD : Hid _ := hd
      have HK : Hid _ := hk
      have hrb2 := hrb.bz hbz
      have hrb3 : RB (V2.setCell ⟨W2.heap.size, 0, none⟩ (.int .i64 ((k : Int) + 1))) (.slice va' x.1.length vc') x.1 := hrb2.stay (fun a n' c he hl _ => by
        cases he
        exact Below.heap_setCell _ _ _ _ (hrb2.not_box bc hl))
      have HRE0 : Calls Tryz.prog 83 #[.slice va' x.1.length vc'] (V2.setCell ⟨W2.heap.size, 0, none⟩ (.int .i64 ((k : Int) + 1))) (ReadC (rd x.1) (V2.setCell ⟨W2.heap.size, 0, none⟩ (.int .i64 ((k : Int) + 1)))) := read_ev _ _ _ hrb3 (by have := HX1.out; omega)
      have HSM : Hid ((evO (rd x.1)).s.length ≤ 64) := by
        show _ ≤ _
        cases ho : rd x.1 with
        | none => simp [evO, Ev.none]
        | some y => exact (okS_len (okE_stamp (rd_some ho).1)).2
      obtain ⟨o, HO⟩ : ∃ o, Hid (rd x.1 = o) := ⟨_, rfl⟩
      rw [HO.out] at HRE0 HSM
      have HRE : Hid _ := HRE0
      have HJV : Hid (J k V2 TJ) := j1
      have HMV : Hid (Mv TJ V2 TJ (V2.setCell ⟨W2.heap.size, 0, none⟩ (.int .i64 ((k : Int) + 1)))) := Mv.setCell (i := 0) V2 _ st.tc
      have HOWN : Hid (∀ b, TJ b → b < V2.heap.size) := fun b hb => (st.own b hb).2
      clear HRE0
      have cc := bc.cell
      have fc := bc.frozen
      have HST : Hid _ := st.count (.int .i64 ((k : Int) + 1))
      have HBC : Hid _ := bc.set (.int .i64 ((k : Int) + 1))
      have HJ6 : Hid _ := HJ.out _ _ _ _ _ j1 (Mv.setCell (i := 0) V2 (.int .i64 ((k : Int) + 1)) st.tc)
      have HRV : Hid (Rv w0.heap.size TB V2 (V2.setCell ⟨W2.heap.size, 0, none⟩ (.int .i64 ((k : Int) + 1)))) := Rv.setCell _ _ (st.own _ st.tc).1 st.nc
      have hkb : (k : Int) ≤ 100001 := by have := HLK.out; omega
      clear j1 st bc hd hk hrb hrb2 h2 h
      gi_wp2
      refine ⟨trivial, (fun h => by cases h), (CallsIn.inRound l' (callsIn_wide.2 HRE.out)).mono ?_⟩
      rintro e V4 ⟨sv, rfl, hri, hfr, hb4⟩
      have HRI : Hid _ := hri
      obtain ⟨sa, sc, rfl, r1, r2, r3⟩ := hri
      have HFR : Hid (∀ b, sa = some b → V2.heap.size ≤ b.block) := fun b hb => by have := hfr b _ _ (by rw [hb]); simpa using this
      have HB4 : Hid _ := hb4
      have hs4 := hb4.size
      have hs4' : V2.heap.size ≤ V4.heap.size := by simpa using hs4
      have HST4 : Hid _ := HST.out.below hb4
      have HBC4 : Hid (Boxed V4 _ _ _) := (hb4.block _ (Boxed.lt HBC.out)).trans HBC.out
      have HMV4 : Hid (Mv TJ V2 TJ V4) := HMV.out.trans (Mv.of_below hb4)
      have HJ7 : Hid _ := HJ.out _ _ _ _ _ HJ6.out (Mv.of_below hb4)
      have HRV4 : Hid (Rv w0.heap.size TB V2 V4) := HRV.out.trans (Rv.of_below hb4 HST.out.le)
      unfold EvV
      obtain ⟨ek, Hek⟩ : ∃ z, Hid ((evO o).k = z) := ⟨_, rfl⟩
      obtain ⟨ei, Hei⟩ : ∃ z, Hid ((evO o).i = z) := ⟨_, rfl⟩
      obtain ⟨et, Het⟩ : ∃ z, Hid ((evO o).t = z) := ⟨_, rfl⟩
      obtain ⟨es, Hes⟩ : ∃ z, Hid ((evO o).s = z) := ⟨_, rfl⟩
      obtain ⟨er, Her⟩ : ∃ z, Hid (errO o = z) := ⟨_, rfl⟩
      rw [Hek.out, Hei.out, Het.out, Her.out, Hes.out]
      rw [Hes.out] at HRI HSM
      obtain ⟨en, Hen⟩ : ∃ z, Hid (es.length = z) := ⟨_, rfl⟩
      have hsm : es.length ≤ 64 := HSM.out
      rw [Hen.out] at hsm ⊢
      clear r1 r2 r3 hfr hb4 HRE HST HBC HJ6 HRV HB4
      gi_wp2
      obtain ⟨V5, HV5⟩ : ∃ V5, Hid (V4.alloc (.cells #[.int .i64 ek, .int .i64 ei, .int .i64 et, .slice sa en sc] 33) = V5) := ⟨_, rfl⟩
      have hb5 : Below V4.heap.size V4 V5 := by rw [← HV5.out]; exact (Below.refl _ _).alloc (Nat.le_refl _) _
      have HBX : Hid (Box V5 V4.heap.size ek ei et (.slice sa en sc)) := by show Box _ _ _ _ _ _; rw [← HV5.out]; exact Box.new V4 ek ei et _
      have HST5 : Hid _ := HST4.out.below hb5
      have HBC5 : Hid (Boxed V5 _ _ _) := (hb5.block _ (Boxed.lt HBC4.out)).trans HBC4.out
      have HMV5 : Hid (Mv TJ V2 TJ V5) := HMV4.out.trans (Mv.of_below hb5)
      have HJ8 : Hid _ := HJ.out _ _ _ _ _ HJ7.out (Mv.of_below hb5)
      have HRV5 : Hid (Rv w0.heap.size TB V2 V5) := HRV4.out.trans (Rv.of_below hb5 HST4.out.le)
      have HRI5 : Hid (RI V5 (.slice sa en sc) es) := by show RI _ _ _; rw [← Hen.out]; exact RI.later HRI.out hb5
      rw [HV5.out]
      have HCE : Hid (∀ wx, Below V5.heap.size V5 wx → wx.cell? ⟨V4.heap.size, 3, none⟩ = some (.slice sa en sc)) := fun wx h => (HBX.out.later h).c3
      have HCD : Hid (∀ wx, Below V5.heap.size V5 wx → wx.cell? ⟨D, 0, none⟩ = some (.pointer pp)) := fun wx h => ((HST5.out.below h).bd).cell
      have HCI : Hid (∀ wx, Below V5.heap.size V5 wx → wx.cell? ⟨I, 0, none⟩ = some (.int .i64 i)) := fun wx h => ((HST5.out.below h).bi).cell
      have HCC : Hid (∀ wx, Below V5.heap.size V5 wx → wx.cell? ⟨W2.heap.size, 0, none⟩ = some (.int .i64 ((k : Int) + 1))) := fun wx h => Boxed.cell ((h.block _ (Boxed.lt HBC5.out)).trans HBC5.out)
      have HBR : Hid (∀ wx, Below V5.heap.size V5 wx → Calls Tryz.prog 39 #[.pointer pp] wx fun e w' => e = .returned (.int .i64 ((n : Int) - 1)) ∧ Below V5.heap.size V5 w') := fun wx h => Calls.mono (branches_any pp n wx (hC.later (HST5.out.below h).bel) hn) (fun e w' h2 => ⟨h2.1, h.trans (h2.2.mono h.size)⟩)
      have HAT : Hid (∀ wx, Below V5.heap.size V5 wx → Calls Tryz.prog 84 #[.slice sa en sc, .int .i64 i] wx fun e w' => e = .returned (.int .i64 (atZ es i)) ∧ Below V5.heap.size V5 w') := fun wx h => Calls.mono (at_any _ es i wx (HRI5.out.later h) (by rw [Hen.out]; omega)) (fun e w' h2 => ⟨h2.1, by rw [h2.2]; exact h⟩)
      have HHAS : Hid (0 ≤ i ∧ i < (n : Int) - 1) := (of_decide_eq_true hh : 0 ≤ i ∧ i < (n : Int) - 1)
      clear hb5 HST4 HBC4 HJ7 HRV4 HRI
      by_cases hz : er = 0
      · have hz2 : ((er : Int) == 0) = true := by simp [hz]
        have HHZ : Hid (er = 0) := hz
        clear hz
        obtain ⟨y9, hy9⟩ : ∃ y, o = some y := by
          cases o with
          | none => exact absurd (Her.out.trans HHZ.out) (by simp [errO])
          | some y => exact ⟨y, rfl⟩
        have HY9 : Hid (rd x.1 = some y9) := by show _ = _; rw [HO.out, hy9]
        have HYS : Hid (y9.s = es) := by show _ = _; have := Hes.out; rw [hy9] at this; exact this
        have HYV : Hid (EvV y9 (.slice sa y9.s.length sc) = .agg #[.int .i64 ek, .int .i64 ei, .int .i64 et, .slice sa en sc]) := by
          show _ = _
          have e1 := Hek.out; have e2 := Hei.out; have e3 := Het.out
          rw [hy9] at e1 e2 e3
          unfold EvV
          rw [HYS.out, Hen.out, ← e1, ← e2, ← e3]
          rfl
        clear hy9
        by_cases hl : en = n - 1
        · have hl1 : (en : Int) = (n : Int) - 1 := by have := HHAS.out; omega
          have hl2 : ((en : Int) == (n : Int) - 1) = true := by simpa using hl1
          have HHL : Hid (en = n - 1) := hl
          clear hl hl1
          by_cases hat : atZ es i = (k : Int) + 1
          · have hat2 : (atZ es i == (k : Int) + 1) = true := by simpa using hat
            have HHA : Hid (atZ es i = (k : Int) + 1) := hat
            clear hat
            have HWW : Hid (ws.drop k = (y9, x.2) :: whW (n - 1) i (k + 1) (fs.drop (k + 1))) := by
              show _ = _
              rw [HD.out, whW, HY9.out]
              simp only
              rw [if_pos ⟨by rw [HYS.out, Hen.out, HHL.out], by rw [HYS.out, HHA.out]; push_cast; rfl⟩]
            have HKY : Hid (ws[k]? = some (y9, x.2)) := (getElem_of_drop HWW.out).1
            have HKN : Hid (ws.drop (k + 1) = whW (n - 1) i (k + 1) (fs.drop (k + 1)) ∧ k + 1 ≤ ws.length) := ⟨(getElem_of_drop HWW.out).2.1, (getElem_of_drop HWW.out).2.2⟩
            have HYR : Hid (∀ wx, Below V5.heap.size V5 wx → RI wx (.slice sa y9.s.length sc) y9.s) := fun wx h => by rw [HYS.out, Hen.out]; exact HRI5.out.later h
            have HYT : Hid (∀ b, sa = some b → V2.heap.size ≤ b.block ∧ ¬ TJ b.block) := fun b hb => ⟨HFR.out b hb, fun ht => by have h1 := HFR.out b hb; have h2 := HOWN.out _ ht; omega⟩
            have HYL : Hid (y9.s.length ≤ 1000000) := by show _ ≤ _; rw [HYS.out, Hen.out]; omega
            refine wpIn_mono (Q := fun e a' w' => e = Exit.normal ∧ Below V5.heap.size V5 w' ∧ ∃ z27 z28 z29 z30 z31 z32 z33 z34 z35 z36 z37 z38 z39 z40 z41 z42 z43 z44 : Value, a' = { tmps := #[.func (.yield l) #[] #[], .pointer (some ⟨D, 0, none⟩), .pointer (some ⟨I, 0, none⟩), .pointer (some ⟨W.heap.size, 0, none⟩), .pointer (some ⟨W2.heap.size, 0, none⟩), .slice va' x.1.length vc', .int .i64 (x.2 : Nat), .pointer (some ⟨V4.heap.size, 0, none⟩), .int .i64 (er : Nat), .bool true, .pointer pp, .int .i64 i, .bool true, .bool false, .pointer pp, .int .i64 i, .slice va B.length vc, .func (.func 106) #[] #[.pointer (some ⟨W4.heap.size, 0, none⟩)], .slice va' x.1.length vc', .int .i64 (x.2 : Nat), .int .i64 (k : Nat), .int .i64 ((k : Int) + 1), .tuple #[.agg #[.int .i64 ek, .int .i64 ei, .int .i64 et, .slice sa en sc], .int .i64 (er : Nat)], .slice va' x.1.length vc', .tuple #[.agg #[.int .i64 ek, .int .i64 ei, .int .i64 et, .slice sa en sc], .int .i64 (er : Nat)], .agg #[.int .i64 ek, .int .i64 ei, .int .i64 et, .slice sa en sc], .int .i64 (er : Nat), z27, z28, z29, z30, z31, z32, z33, z34, z35, z36, z37, z38, z39, z40, z41, z42, z43, z44, undef, undef, undef, undef, undef, undef, undef, undef, undef], defers := [] }) (regionH_round (S := fun wx => Below V5.heap.size V5 wx) l' m (by kernel_rfl) (noDefer_all (by kernel_rfl)) (fun ⟨_, _, h⟩ => by cases h.1) ?_) ?_
            · simp only [List.size_toArray, List.length_cons, List.length_nil, Nat.reduceAdd, Array.replicate_succ, Array.replicate_zero, List.push_toArray, List.nil_append, List.cons_append]
              have hS0 : Below V5.heap.size V5 V5.drew := (Below.refl _ _).drew
              refine takeD (i := 0) (d := 27) (v := .int .i64 (er : Nat)) (fuel := 18) rfl rfl (by kernel_rfl) (by kernel_rfl) (by kernel_rfl) (fun _ _ _ h => by cases h.1) (.inl ⟨by kernel_rfl, fun _ _ => by kernel_rfl⟩) hS0 ?_
              simp only [List.setIfInBounds_toArray, List.set_cons_succ, List.set_cons_zero]
              refine takeD (i := 1) (d := 28) (v := .bool true) (fuel := 17) rfl rfl (by kernel_rfl) (by kernel_rfl) (by kernel_rfl) (fun _ _ _ h => by cases h.1) (.inl ⟨by kernel_rfl, fun _ _ => by go_simp⟩) hS0 ?_
              simp only [List.setIfInBounds_toArray, List.set_cons_succ, List.set_cons_zero]
              refine takeD (i := 2) (d := 29) (v := .bool true) (fuel := 16) rfl rfl (by kernel_rfl) (by kernel_rfl) (by kernel_rfl) (fun _ _ _ h => by cases h.1) (.inl ⟨by kernel_rfl, fun _ _ => by kernel_rfl⟩) hS0 ?_
              simp only [List.setIfInBounds_toArray, List.set_cons_succ, List.set_cons_zero]
              refine takeD (i := 3) (d := 30) (v := .pointer (some ⟨V4.heap.size, 3, none⟩)) (fuel := 15) rfl rfl (by kernel_rfl) (by kernel_rfl) (by kernel_rfl) (fun _ _ _ h => by cases h.1) (.inl ⟨by kernel_rfl, fun _ _ => by go_simp⟩) hS0 ?_
              simp only [List.setIfInBounds_toArray, List.set_cons_succ, List.set_cons_zero]
              refine takeD (i := 4) (d := 31) (v := .slice sa en sc) (fuel := 14) rfl rfl (by kernel_rfl) (by kernel_rfl) (by kernel_rfl) (fun _ _ _ h => by cases h.1) (.inl ⟨by kernel_rfl, fun wx h => by have z0 := HCE.out wx h; go_simp⟩) hS0 ?_
              simp only [List.setIfInBounds_toArray, List.set_cons_succ, List.set_cons_zero]
              refine takeD (i := 5) (d := 32) (v := .int .i64 (en : Nat)) (fuel := 13) rfl rfl (by kernel_rfl) (by kernel_rfl) (by kernel_rfl) (fun _ _ _ h => by cases h.1) (.inl ⟨by kernel_rfl, fun _ _ => by go_simp⟩) hS0 ?_
              simp only [List.setIfInBounds_toArray, List.set_cons_succ, List.set_cons_zero]
              refine takeD (i := 6) (d := 33) (v := .pointer pp) (fuel := 12) rfl rfl (by kernel_rfl) (by kernel_rfl) (by kernel_rfl) (fun _ _ _ h => by cases h.1) (.inl ⟨by kernel_rfl, fun wx h => by have z0 := HCD.out wx h; go_simp⟩) hS0 ?_
              simp only [List.setIfInBounds_toArray, List.set_cons_succ, List.set_cons_zero]
              refine oneC (i := 7) (d := 34) (f := 39) (args := #[.pointer pp]) (v := .int .i64 ((n : Int) - 1)) (fuel := 11) rfl rfl (by kernel_rfl) (by kernel_rfl) (fun _ => by kernel_rfl) hS0 (fun wx h => (HBR.out wx h)) (fun wz hS0 => ?_)
              simp only [List.setIfInBounds_toArray, List.set_cons_succ, List.set_cons_zero]
              refine takeD (i := 8) (d := 35) (v := .bool true) (fuel := 10) rfl rfl (by kernel_rfl) (by kernel_rfl) (by kernel_rfl) (fun _ _ _ h => by cases h.1) (.inl ⟨by kernel_rfl, fun _ _ => by go_simp⟩) hS0 ?_
              simp only [List.setIfInBounds_toArray, List.set_cons_succ, List.set_cons_zero]
              refine takeD (i := 9) (d := 36) (v := .bool true) (fuel := 9) rfl rfl (by kernel_rfl) (by kernel_rfl) (by kernel_rfl) (fun _ _ _ h => by cases h.1) (.inl ⟨by kernel_rfl, fun _ _ => by kernel_rfl⟩) hS0 ?_
              simp only [List.setIfInBounds_toArray, List.set_cons_succ, List.set_cons_zero]
              refine takeD (i := 10) (d := 37) (v := .bool true) (fuel := 8) rfl rfl (by kernel_rfl) (by kernel_rfl) (by kernel_rfl) (fun _ _ _ h => by cases h.1) (.inl ⟨by kernel_rfl, fun _ _ => by kernel_rfl⟩) hS0 ?_
              simp only [List.setIfInBounds_toArray, List.set_cons_succ, List.set_cons_zero]
              refine takeD (i := 11) (d := 38) (v := .pointer (some ⟨V4.heap.size, 3, none⟩)) (fuel := 7) rfl rfl (by kernel_rfl) (by kernel_rfl) (by kernel_rfl) (fun _ _ _ h => by cases h.1) (.inl ⟨by kernel_rfl, fun _ _ => by go_simp⟩) hS0 ?_
              simp only [List.setIfInBounds_toArray, List.set_cons_succ, List.set_cons_zero]
              refine takeD (i := 12) (d := 39) (v := .slice sa en sc) (fuel := 6) rfl rfl (by kernel_rfl) (by kernel_rfl) (by kernel_rfl) (fun _ _ _ h => by cases h.1) (.inl ⟨by kernel_rfl, fun wx h => by have z0 := HCE.out wx h; go_simp⟩) hS0 ?_
              simp only [List.setIfInBounds_toArray, List.set_cons_succ, List.set_cons_zero]
              refine takeD (i := 13) (d := 40) (v := .int .i64 i) (fuel := 5) rfl rfl (by kernel_rfl) (by kernel_rfl) (by kernel_rfl) (fun _ _ _ h => by cases h.1) (.inl ⟨by kernel_rfl, fun wx h => by have z0 := HCI.out wx h; go_simp⟩) hS0 ?_
              simp only [List.setIfInBounds_toArray, List.set_cons_succ, List.set_cons_zero]
              refine takeD (i := 15) (d := 42) (v := .int .i64 ((k : Int) + 1)) (fuel := 4) rfl rfl (by kernel_rfl) (by kernel_rfl) (by kernel_rfl) (fun _ _ _ h => by cases h.1) (.inl ⟨by kernel_rfl, fun wx h => by have z0 := HCC.out wx h; go_simp⟩) hS0 ?_
              simp only [List.setIfInBounds_toArray, List.set_cons_succ, List.set_cons_zero]
              refine oneC (i := 14) (d := 41) (f := 84) (args := #[.slice sa en sc, .int .i64 i]) (v := .int .i64 (atZ es i)) (fuel := 3) rfl rfl (by kernel_rfl) (by kernel_rfl) (fun _ => by kernel_rfl) hS0 (fun wx h => (HAT.out wx h)) (fun wz hS0 => ?_)
              simp only [List.setIfInBounds_toArray, List.set_cons_succ, List.set_cons_zero]
              refine takeD (i := 16) (d := 43) (v := .bool true) (fuel := 2) rfl rfl (by kernel_rfl) (by kernel_rfl) (by kernel_rfl) (fun _ _ _ h => by cases h.1) (.inl ⟨by kernel_rfl, fun _ _ => by go_simp⟩) hS0 ?_
              simp only [List.setIfInBounds_toArray, List.set_cons_succ, List.set_cons_zero]
              refine takeD (i := 17) (d := 44) (v := .bool true) (fuel := 1) rfl rfl (by kernel_rfl) (by kernel_rfl) (by kernel_rfl) (fun _ _ _ h => by cases h.1) (.inl ⟨by kernel_rfl, fun _ _ => by kernel_rfl⟩) hS0 ?_
              simp only [List.setIfInBounds_toArray, List.set_cons_succ, List.set_cons_zero]
              refine takeD (i := 18) (d := 9) (v := .bool true) (fuel := 0) rfl rfl (by kernel_rfl) (by kernel_rfl) (by kernel_rfl) (fun _ _ _ h => by cases h.1) (.inl ⟨by kernel_rfl, fun _ _ => by kernel_rfl⟩) hS0 ?_
              simp only [List.setIfInBounds_toArray, List.set_cons_succ, List.set_cons_zero]
              refine wpAnyH_done (by kernel_rfl) ?_ _
              exact ⟨rfl, hS0, _, _, _, _, _, _, _, _, _, _, _, _, _, _, _, _, _, _, rfl⟩
            · rintro e a' w6 ⟨rfl, hb6, z27, z28, z29, z30, z31, z32, z33, z34, z35, z36, z37, z38, z39, z40, z41, z42, z43, z44, rfl⟩
              have HST6 : Hid _ := HST5.out.below hb6
              have HBC6 : Hid (Boxed w6 _ _ _) := (hb6.block _ (Boxed.lt HBC5.out)).trans HBC5.out
              have HJ8' : Hid _ := HJ.out _ _ _ _ _ HJ8.out (Mv.of_below hb6)
              have HRV6 : Hid (Rv w0.heap.size TB V2 w6) := HRV5.out.trans (Rv.of_below hb6 HST5.out.le)
              have cY := HST6.out.bY.cell
              have bx := HBX.out.later hb6
              have z0 := bx.c0
              have z1 := bx.c1
              have z2 := bx.c2
              have z3 := bx.c3
              obtain ⟨fnn, tms, asg, bdy, hy, hR⟩ := HY.out k (y9, x.2) _ V2.heap.size w6 TJ HKY.out ⟨sa, sc, rfl, HYR.out w6 hb6, HYT.out, HYL.out⟩ ⟨V2, TJ, HJV.out, rfl, HMV5.out.trans (Mv.of_below hb6)⟩ HJ8'.out (fun b hb => (HST6.out.own b hb).2) (m - 1)
              rw [HYV.out] at hy
              clear hb6 HY
              gi_wp2
              refine ⟨(fun h => by cases h), (RoundIn.mono (F := Fence.wide.inRound l') hR ?_)⟩
              rintro e W9 ⟨t, rfl, ht1, ht2, hrv⟩
              have HST9 : Hid _ := HST6.out.round hrv
              have HBC9 : Hid (Boxed W9 _ _ _) := (hrv.keep _ HST6.out.tc (Boxed.lt HBC6.out)).trans HBC6.out
              have HRV9 : Hid (Rv w0.heap.size TB V2 W9) := HRV6.out.trans (hrv.mono HST6.out.sub)
              cases t with
              | true =>
                have HJ9 : Hid _ := ht1 rfl
                clear ht1 ht2 hrv hy hR
                gi_wp2
                exact ⟨⟨TJ, HJ9.out, HST9.out, HBC9.out, HKN.out⟩, HRV9.out⟩
              | false =>
                have HJ9 : Hid _ := ht2 rfl
                clear ht1 ht2 hrv hy hR
                gi_wp2
                exact ⟨⟨rfl, TJ, .inr ⟨k, Nat.lt_of_lt_of_le (Nat.lt_succ_self _) HKN.out.2, HJ9.out⟩, HST9.out⟩, HRV9.out⟩
          · have hat2 : (atZ es i == (k : Int) + 1) = false := by simpa using hat
            have HHA : Hid (¬ atZ es i = (k : Int) + 1) := hat
            clear hat
            have HKE : Hid (k = ws.length) := by
              show _ = _
              have h1 := HD.out
              rw [whW, HY9.out, show (match some y9 with | none => ([] : List (Ev × Nat)) | some y => if y.s.length = n - 1 ∧ atZ y.s i = ((k + 1 : Nat) : Int) then (y, x.2) :: whW (n - 1) i (k + 1) (fs.drop (k + 1)) else []) = [] from if_neg (fun h => HHA.out (by rw [← HYS.out, h.2]; push_cast; rfl))] at h1
              have := congrArg List.length h1
              rw [List.length_drop] at this
              have h2 := HK.out
              simp at this
              omega
            refine wpIn_mono (Q := fun e a' w' => e = Exit.normal ∧ Below V5.heap.size V5 w' ∧ ∃ z27 z28 z29 z30 z31 z32 z33 z34 z35 z36 z37 z38 z39 z40 z41 z42 z43 z44 : Value, a' = { tmps := #[.func (.yield l) #[] #[], .pointer (some ⟨D, 0, none⟩), .pointer (some ⟨I, 0, none⟩), .pointer (some ⟨W.heap.size, 0, none⟩), .pointer (some ⟨W2.heap.size, 0, none⟩), .slice va' x.1.length vc', .int .i64 (x.2 : Nat), .pointer (some ⟨V4.heap.size, 0, none⟩), .int .i64 (er : Nat), .bool false, .pointer pp, .int .i64 i, .bool true, .bool false, .pointer pp, .int .i64 i, .slice va B.length vc, .func (.func 106) #[] #[.pointer (some ⟨W4.heap.size, 0, none⟩)], .slice va' x.1.length vc', .int .i64 (x.2 : Nat), .int .i64 (k : Nat), .int .i64 ((k : Int) + 1), .tuple #[.agg #[.int .i64 ek, .int .i64 ei, .int .i64 et, .slice sa en sc], .int .i64 (er : Nat)], .slice va' x.1.length vc', .tuple #[.agg #[.int .i64 ek, .int .i64 ei, .int .i64 et, .slice sa en sc], .int .i64 (er : Nat)], .agg #[.int .i64 ek, .int .i64 ei, .int .i64 et, .slice sa en sc], .int .i64 (er : Nat), z27, z28, z29, z30, z31, z32, z33, z34, z35, z36, z37, z38, z39, z40, z41, z42, z43, z44, undef, undef, undef, undef, undef, undef, undef, undef, undef], defers := [] }) (regionH_round (S := fun wx => Below V5.heap.size V5 wx) l' m (by kernel_rfl) (noDefer_all (by kernel_rfl)) (fun ⟨_, _, h⟩ => by cases h.1) ?_) ?_
            · simp only [List.size_toArray, List.length_cons, List.length_nil, Nat.reduceAdd, Array.replicate_succ, Array.replicate_zero, List.push_toArray, List.nil_append, List.cons_append]
              have hS0 : Below V5.heap.size V5 V5.drew := (Below.refl _ _).drew
              refine takeD (i := 0) (d := 27) (v := .int .i64 (er : Nat)) (fuel := 18) rfl rfl (by kernel_rfl) (by kernel_rfl) (by kernel_rfl) (fun _ _ _ h => by cases h.1) (.inl ⟨by kernel_rfl, fun _ _ => by kernel_rfl⟩) hS0 ?_
              simp only [List.setIfInBounds_toArray, List.set_cons_succ, List.set_cons_zero]
              refine takeD (i := 1) (d := 28) (v := .bool true) (fuel := 17) rfl rfl (by kernel_rfl) (by kernel_rfl) (by kernel_rfl) (fun _ _ _ h => by cases h.1) (.inl ⟨by kernel_rfl, fun _ _ => by go_simp⟩) hS0 ?_
              simp only [List.setIfInBounds_toArray, List.set_cons_succ, List.set_cons_zero]
              refine takeD (i := 2) (d := 29) (v := .bool true) (fuel := 16) rfl rfl (by kernel_rfl) (by kernel_rfl) (by kernel_rfl) (fun _ _ _ h => by cases h.1) (.inl ⟨by kernel_rfl, fun _ _ => by kernel_rfl⟩) hS0 ?_
              simp only [List.setIfInBounds_toArray, List.set_cons_succ, List.set_cons_zero]
              refine takeD (i := 3) (d := 30) (v := .pointer (some ⟨V4.heap.size, 3, none⟩)) (fuel := 15) rfl rfl (by kernel_rfl) (by kernel_rfl) (by kernel_rfl) (fun _ _ _ h => by cases h.1) (.inl ⟨by kernel_rfl, fun _ _ => by go_simp⟩) hS0 ?_
              simp only [List.setIfInBounds_toArray, List.set_cons_succ, List.set_cons_zero]
              refine takeD (i := 4) (d := 31) (v := .slice sa en sc) (fuel := 14) rfl rfl (by kernel_rfl) (by kernel_rfl) (by kernel_rfl) (fun _ _ _ h => by cases h.1) (.inl ⟨by kernel_rfl, fun wx h => by have z0 := HCE.out wx h; go_simp⟩) hS0 ?_
              simp only [List.setIfInBounds_toArray, List.set_cons_succ, List.set_cons_zero]
              refine takeD (i := 5) (d := 32) (v := .int .i64 (en : Nat)) (fuel := 13) rfl rfl (by kernel_rfl) (by kernel_rfl) (by kernel_rfl) (fun _ _ _ h => by cases h.1) (.inl ⟨by kernel_rfl, fun _ _ => by go_simp⟩) hS0 ?_
              simp only [List.setIfInBounds_toArray, List.set_cons_succ, List.set_cons_zero]
              refine takeD (i := 6) (d := 33) (v := .pointer pp) (fuel := 12) rfl rfl (by kernel_rfl) (by kernel_rfl) (by kernel_rfl) (fun _ _ _ h => by cases h.1) (.inl ⟨by kernel_rfl, fun wx h => by have z0 := HCD.out wx h; go_simp⟩) hS0 ?_
              simp only [List.setIfInBounds_toArray, List.set_cons_succ, List.set_cons_zero]
              refine oneC (i := 7) (d := 34) (f := 39) (args := #[.pointer pp]) (v := .int .i64 ((n : Int) - 1)) (fuel := 11) rfl rfl (by kernel_rfl) (by kernel_rfl) (fun _ => by kernel_rfl) hS0 (fun wx h => (HBR.out wx h)) (fun wz hS0 => ?_)
              simp only [List.setIfInBounds_toArray, List.set_cons_succ, List.set_cons_zero]
              refine takeD (i := 8) (d := 35) (v := .bool true) (fuel := 10) rfl rfl (by kernel_rfl) (by kernel_rfl) (by kernel_rfl) (fun _ _ _ h => by cases h.1) (.inl ⟨by kernel_rfl, fun _ _ => by go_simp⟩) hS0 ?_
              simp only [List.setIfInBounds_toArray, List.set_cons_succ, List.set_cons_zero]
              refine takeD (i := 9) (d := 36) (v := .bool true) (fuel := 9) rfl rfl (by kernel_rfl) (by kernel_rfl) (by kernel_rfl) (fun _ _ _ h => by cases h.1) (.inl ⟨by kernel_rfl, fun _ _ => by kernel_rfl⟩) hS0 ?_
              simp only [List.setIfInBounds_toArray, List.set_cons_succ, List.set_cons_zero]
              refine takeD (i := 10) (d := 37) (v := .bool true) (fuel := 8) rfl rfl (by kernel_rfl) (by kernel_rfl) (by kernel_rfl) (fun _ _ _ h => by cases h.1) (.inl ⟨by kernel_rfl, fun _ _ => by kernel_rfl⟩) hS0 ?_
              simp only [List.setIfInBounds_toArray, List.set_cons_succ, List.set_cons_zero]
              refine takeD (i := 11) (d := 38) (v := .pointer (some ⟨V4.heap.size, 3, none⟩)) (fuel := 7) rfl rfl (by kernel_rfl) (by kernel_rfl) (by kernel_rfl) (fun _ _ _ h => by cases h.1) (.inl ⟨by kernel_rfl, fun _ _ => by go_simp⟩) hS0 ?_
              simp only [List.setIfInBounds_toArray, List.set_cons_succ, List.set_cons_zero]
              refine takeD (i := 12) (d := 39) (v := .slice sa en sc) (fuel := 6) rfl rfl (by kernel_rfl) (by kernel_rfl) (by kernel_rfl) (fun _ _ _ h => by cases h.1) (.inl ⟨by kernel_rfl, fun wx h => by have z0 := HCE.out wx h; go_simp⟩) hS0 ?_
              simp only [List.setIfInBounds_toArray, List.set_cons_succ, List.set_cons_zero]
              refine takeD (i := 13) (d := 40) (v := .int .i64 i) (fuel := 5) rfl rfl (by kernel_rfl) (by kernel_rfl) (by kernel_rfl) (fun _ _ _ h => by cases h.1) (.inl ⟨by kernel_rfl, fun wx h => by have z0 := HCI.out wx h; go_simp⟩) hS0 ?_
              simp only [List.setIfInBounds_toArray, List.set_cons_succ, List.set_cons_zero]
              refine takeD (i := 15) (d := 42) (v := .int .i64 ((k : Int) + 1)) (fuel := 4) rfl rfl (by kernel_rfl) (by kernel_rfl) (by kernel_rfl) (fun _ _ _ h => by cases h.1) (.inl ⟨by kernel_rfl, fun wx h => by have z0 := HCC.out wx h; go_simp⟩) hS0 ?_
              simp only [List.setIfInBounds_toArray, List.set_cons_succ, List.set_cons_zero]
              refine oneC (i := 14) (d := 41) (f := 84) (args := #[.slice sa en sc, .int .i64 i]) (v := .int .i64 (atZ es i)) (fuel := 3) rfl rfl (by kernel_rfl) (by kernel_rfl) (fun _ => by kernel_rfl) hS0 (fun wx h => (HAT.out wx h)) (fun wz hS0 => ?_)
              simp only [List.setIfInBounds_toArray, List.set_cons_succ, List.set_cons_zero]
              refine takeD (i := 16) (d := 43) (v := .bool false) (fuel := 2) rfl rfl (by kernel_rfl) (by kernel_rfl) (by kernel_rfl) (fun _ _ _ h => by cases h.1) (.inl ⟨by kernel_rfl, fun _ _ => by go_simp⟩) hS0 ?_
              simp only [List.setIfInBounds_toArray, List.set_cons_succ, List.set_cons_zero]
              refine takeD (i := 17) (d := 44) (v := .bool false) (fuel := 1) rfl rfl (by kernel_rfl) (by kernel_rfl) (by kernel_rfl) (fun _ _ _ h => by cases h.1) (.inl ⟨by kernel_rfl, fun _ _ => by kernel_rfl⟩) hS0 ?_
              simp only [List.setIfInBounds_toArray, List.set_cons_succ, List.set_cons_zero]
              refine takeD (i := 18) (d := 9) (v := .bool false) (fuel := 0) rfl rfl (by kernel_rfl) (by kernel_rfl) (by kernel_rfl) (fun _ _ _ h => by cases h.1) (.inl ⟨by kernel_rfl, fun _ _ => by kernel_rfl⟩) hS0 ?_
              simp only [List.setIfInBounds_toArray, List.set_cons_succ, List.set_cons_zero]
              refine wpAnyH_done (by kernel_rfl) ?_ _
              exact ⟨rfl, hS0, _, _, _, _, _, _, _, _, _, _, _, _, _, _, _, _, _, _, rfl⟩
            · rintro e a' w6 ⟨rfl, hb6, z27, z28, z29, z30, z31, z32, z33, z34, z35, z36, z37, z38, z39, z40, z41, z42, z43, z44, rfl⟩
              have HST6 : Hid _ := HST5.out.below hb6
              have HJ8' : Hid _ := HJ.out _ _ _ _ _ HJ8.out (Mv.of_below hb6)
              have HRV6 : Hid (Rv w0.heap.size TB V2 w6) := HRV5.out.trans (Rv.of_below hb6 HST5.out.le)
              clear hb6
              gi_wp2
              refine ⟨fun f h => (by cases h), ?_⟩
              gi_wp2
              refine ⟨⟨rfl, TJ, .inl ?_, HST6.out⟩, HRV6.out⟩
              have := HJ8'.out
              rw [HKE.out] at this
              exact this
        · have hl1 : ¬ (en : Int) = (n : Int) - 1 := by have := HHAS.out; omega
          have hl2 : ((en : Int) == (n : Int) - 1) = false := by simpa using hl1
          have HHL : Hid (¬ en = n - 1) := hl
          clear hl hl1
          have HKE : Hid (k = ws.length) := by
            show _ = _
            have h1 := HD.out
            rw [whW, HY9.out, show (match some y9 with | none => ([] : List (Ev × Nat)) | some y => if y.s.length = n - 1 ∧ atZ y.s i = ((k + 1 : Nat) : Int) then (y, x.2) :: whW (n - 1) i (k + 1) (fs.drop (k + 1)) else []) = [] from if_neg (fun h => HHL.out (by rw [← Hen.out, ← HYS.out, h.1]))] at h1
            have := congrArg List.length h1
            rw [List.length_drop] at this
            have h2 := HK.out
            simp at this
            omega
          refine wpIn_mono (Q := fun e a' w' => e = Exit.normal ∧ Below V5.heap.size V5 w' ∧ ∃ z27 z28 z29 z30 z31 z32 z33 z34 z35 z36 z37 z38 z39 z40 z41 z42 z43 z44 : Value, a' = { tmps := #[.func (.yield l) #[] #[], .pointer (some ⟨D, 0, none⟩), .pointer (some ⟨I, 0, none⟩), .pointer (some ⟨W.heap.size, 0, none⟩), .pointer (some ⟨W2.heap.size, 0, none⟩), .slice va' x.1.length vc', .int .i64 (x.2 : Nat), .pointer (some ⟨V4.heap.size, 0, none⟩), .int .i64 (er : Nat), .bool false, .pointer pp, .int .i64 i, .bool true, .bool false, .pointer pp, .int .i64 i, .slice va B.length vc, .func (.func 106) #[] #[.pointer (some ⟨W4.heap.size, 0, none⟩)], .slice va' x.1.length vc', .int .i64 (x.2 : Nat), .int .i64 (k : Nat), .int .i64 ((k : Int) + 1), .tuple #[.agg #[.int .i64 ek, .int .i64 ei, .int .i64 et, .slice sa en sc], .int .i64 (er : Nat)], .slice va' x.1.length vc', .tuple #[.agg #[.int .i64 ek, .int .i64 ei, .int .i64 et, .slice sa en sc], .int .i64 (er : Nat)], .agg #[.int .i64 ek, .int .i64 ei, .int .i64 et, .slice sa en sc], .int .i64 (er : Nat), z27, z28, z29, z30, z31, z32, z33, z34, z35, z36, z37, z38, z39, z40, z41, z42, z43, z44, undef, undef, undef, undef, undef, undef, undef, undef, undef], defers := [] }) (regionH_round (S := fun wx => Below V5.heap.size V5 wx) l' m (by kernel_rfl) (noDefer_all (by kernel_rfl)) (fun ⟨_, _, h⟩ => by cases h.1) ?_) ?_
          · simp only [List.size_toArray, List.length_cons, List.length_nil, Nat.reduceAdd, Array.replicate_succ, Array.replicate_zero, List.push_toArray, List.nil_append, List.cons_append]
            have hS0 : Below V5.heap.size V5 V5.drew := (Below.refl _ _).drew
            refine takeD (i := 0) (d := 27) (v := .int .i64 (er : Nat)) (fuel := 18) rfl rfl (by kernel_rfl) (by kernel_rfl) (by kernel_rfl) (fun _ _ _ h => by cases h.1) (.inl ⟨by kernel_rfl, fun _ _ => by kernel_rfl⟩) hS0 ?_
            simp only [List.setIfInBounds_toArray, List.set_cons_succ, List.set_cons_zero]
            refine takeD (i := 1) (d := 28) (v := .bool true) (fuel := 17) rfl rfl (by kernel_rfl) (by kernel_rfl) (by kernel_rfl) (fun _ _ _ h => by cases h.1) (.inl ⟨by kernel_rfl, fun _ _ => by go_simp⟩) hS0 ?_
            simp only [List.setIfInBounds_toArray, List.set_cons_succ, List.set_cons_zero]
            refine takeD (i := 2) (d := 29) (v := .bool true) (fuel := 16) rfl rfl (by kernel_rfl) (by kernel_rfl) (by kernel_rfl) (fun _ _ _ h => by cases h.1) (.inl ⟨by kernel_rfl, fun _ _ => by kernel_rfl⟩) hS0 ?_
            simp only [List.setIfInBounds_toArray, List.set_cons_succ, List.set_cons_zero]
            refine takeD (i := 3) (d := 30) (v := .pointer (some ⟨V4.heap.size, 3, none⟩)) (fuel := 15) rfl rfl (by kernel_rfl) (by kernel_rfl) (by kernel_rfl) (fun _ _ _ h => by cases h.1) (.inl ⟨by kernel_rfl, fun _ _ => by go_simp⟩) hS0 ?_
            simp only [List.setIfInBounds_toArray, List.set_cons_succ, List.set_cons_zero]
            refine takeD (i := 4) (d := 31) (v := .slice sa en sc) (fuel := 14) rfl rfl (by kernel_rfl) (by kernel_rfl) (by kernel_rfl) (fun _ _ _ h => by cases h.1) (.inl ⟨by kernel_rfl, fun wx h => by have z0 := HCE.out wx h; go_simp⟩) hS0 ?_
            simp only [List.setIfInBounds_toArray, List.set_cons_succ, List.set_cons_zero]
            refine takeD (i := 5) (d := 32) (v := .int .i64 (en : Nat)) (fuel := 13) rfl rfl (by kernel_rfl) (by kernel_rfl) (by kernel_rfl) (fun _ _ _ h => by cases h.1) (.inl ⟨by kernel_rfl, fun _ _ => by go_simp⟩) hS0 ?_
            simp only [List.setIfInBounds_toArray, List.set_cons_succ, List.set_cons_zero]
            refine takeD (i := 6) (d := 33) (v := .pointer pp) (fuel := 12) rfl rfl (by kernel_rfl) (by kernel_rfl) (by kernel_rfl) (fun _ _ _ h => by cases h.1) (.inl ⟨by kernel_rfl, fun wx h => by have z0 := HCD.out wx h; go_simp⟩) hS0 ?_
            simp only [List.setIfInBounds_toArray, List.set_cons_succ, List.set_cons_zero]
            refine oneC (i := 7) (d := 34) (f := 39) (args := #[.pointer pp]) (v := .int .i64 ((n : Int) - 1)) (fuel := 11) rfl rfl (by kernel_rfl) (by kernel_rfl) (fun _ => by kernel_rfl) hS0 (fun wx h => (HBR.out wx h)) (fun wz hS0 => ?_)
            simp only [List.setIfInBounds_toArray, List.set_cons_succ, List.set_cons_zero]
            refine takeD (i := 8) (d := 35) (v := .bool false) (fuel := 10) rfl rfl (by kernel_rfl) (by kernel_rfl) (by kernel_rfl) (fun _ _ _ h => by cases h.1) (.inl ⟨by kernel_rfl, fun _ _ => by go_simp⟩) hS0 ?_
            simp only [List.setIfInBounds_toArray, List.set_cons_succ, List.set_cons_zero]
            refine takeD (i := 9) (d := 36) (v := .bool false) (fuel := 9) rfl rfl (by kernel_rfl) (by kernel_rfl) (by kernel_rfl) (fun _ _ _ h => by cases h.1) (.inl ⟨by kernel_rfl, fun _ _ => by kernel_rfl⟩) hS0 ?_
            simp only [List.setIfInBounds_toArray, List.set_cons_succ, List.set_cons_zero]
            refine takeD (i := 10) (d := 37) (v := .bool false) (fuel := 8) rfl rfl (by kernel_rfl) (by kernel_rfl) (by kernel_rfl) (fun _ _ _ h => by cases h.1) (.inl ⟨by kernel_rfl, fun _ _ => by kernel_rfl⟩) hS0 ?_
            simp only [List.setIfInBounds_toArray, List.set_cons_succ, List.set_cons_zero]
            refine takeD (i := 11) (d := 38) (v := undef) (fuel := 7) rfl rfl (by kernel_rfl) (by kernel_rfl) (by kernel_rfl) (fun _ _ _ h => by cases h.1) (.inr ⟨by kernel_rfl, rfl⟩) hS0 ?_
            simp only [List.setIfInBounds_toArray, List.set_cons_succ, List.set_cons_zero]
            refine takeD (i := 12) (d := 39) (v := undef) (fuel := 6) rfl rfl (by kernel_rfl) (by kernel_rfl) (by kernel_rfl) (fun _ _ _ h => by cases h.1) (.inr ⟨by kernel_rfl, rfl⟩) hS0 ?_
            simp only [List.setIfInBounds_toArray, List.set_cons_succ, List.set_cons_zero]
            refine takeD (i := 13) (d := 40) (v := undef) (fuel := 5) rfl rfl (by kernel_rfl) (by kernel_rfl) (by kernel_rfl) (fun _ _ _ h => by cases h.1) (.inr ⟨by kernel_rfl, rfl⟩) hS0 ?_
            simp only [List.setIfInBounds_toArray, List.set_cons_succ, List.set_cons_zero]
            refine takeD (i := 15) (d := 42) (v := undef) (fuel := 4) rfl rfl (by kernel_rfl) (by kernel_rfl) (by kernel_rfl) (fun _ _ _ h => by cases h.1) (.inr ⟨by kernel_rfl, rfl⟩) hS0 ?_
            simp only [List.setIfInBounds_toArray, List.set_cons_succ, List.set_cons_zero]
            refine wpAnyH_all (fuel := 3) (rs := [14]) (by kernel_rfl) (by decide) (List.forall_mem_singleton.2 ?_)
            refine wpOp_un (i := 14) (d := 41) rfl rfl (by kernel_rfl) ⟨hS0, ?_⟩
            simp only [List.setIfInBounds_toArray, List.set_cons_succ, List.set_cons_zero]
            refine takeD (i := 16) (d := 43) (v := undef) (fuel := 2) rfl rfl (by kernel_rfl) (by kernel_rfl) (by kernel_rfl) (fun _ _ _ h => by cases h.1) (.inr ⟨by kernel_rfl, rfl⟩) hS0 ?_
            simp only [List.setIfInBounds_toArray, List.set_cons_succ, List.set_cons_zero]
            refine takeD (i := 17) (d := 44) (v := .bool false) (fuel := 1) rfl rfl (by kernel_rfl) (by kernel_rfl) (by kernel_rfl) (fun _ _ _ h => by cases h.1) (.inl ⟨by kernel_rfl, fun _ _ => by kernel_rfl⟩) hS0 ?_
            simp only [List.setIfInBounds_toArray, List.set_cons_succ, List.set_cons_zero]
            refine takeD (i := 18) (d := 9) (v := .bool false) (fuel := 0) rfl rfl (by kernel_rfl) (by kernel_rfl) (by kernel_rfl) (fun _ _ _ h => by cases h.1) (.inl ⟨by kernel_rfl, fun _ _ => by kernel_rfl⟩) hS0 ?_
            simp only [List.setIfInBounds_toArray, List.set_cons_succ, List.set_cons_zero]
            refine wpAnyH_done (by kernel_rfl) ?_ _
            exact ⟨rfl, hS0, _, _, _, _, _, _, _, _, _, _, _, _, _, _, _, _, _, _, rfl⟩
          · rintro e a' w6 ⟨rfl, hb6, z27, z28, z29, z30, z31, z32, z33, z34, z35, z36, z37, z38, z39, z40, z41, z42, z43, z44, rfl⟩
            have HST6 : Hid _ := HST5.out.below hb6
            have HJ8' : Hid _ := HJ.out _ _ _ _ _ HJ8.out (Mv.of_below hb6)
            have HRV6 : Hid (Rv w0.heap.size TB V2 w6) := HRV5.out.trans (Rv.of_below hb6 HST5.out.le)
            clear hb6
            gi_wp2
            refine ⟨fun f h => (by cases h), ?_⟩
            gi_wp2
            refine ⟨⟨rfl, TJ, .inl ?_, HST6.out⟩, HRV6.out⟩
            have := HJ8'.out
            rw [HKE.out] at this
            exact this
      · have hz2 : ((er : Int) == 0) = false := by simpa using hz
        have HHZ : Hid (¬ er = 0) := hz
        clear hz
        have HKE : Hid (k = ws.length) := by
          show _ = _
          have h1 := HD.out
          rw [whW, HO.out, show o = none from (by cases o with | none => rfl | some y => exact absurd Her.out.symm (fun h => HHZ.out (by rw [h]; rfl)))] at h1
          have := congrArg List.length h1
          rw [List.length_drop] at this
          have h2 := HK.out
          simp at this
          omega
        refine wpIn_mono (Q := fun e a' w' => e = Exit.normal ∧ Below V5.heap.size V5 w' ∧ ∃ z27 z28 z29 z30 z31 z32 z33 z34 z35 z36 z37 z38 z39 z40 z41 z42 z43 z44 : Value, a' = { tmps := #[.func (.yield l) #[] #[], .pointer (some ⟨D, 0, none⟩), .pointer (some ⟨I, 0, none⟩), .pointer (some ⟨W.heap.size, 0, none⟩), .pointer (some ⟨W2.heap.size, 0, none⟩), .slice va' x.1.length vc', .int .i64 (x.2 : Nat), .pointer (some ⟨V4.heap.size, 0, none⟩), .int .i64 (er : Nat), .bool false, .pointer pp, .int .i64 i, .bool true, .bool false, .pointer pp, .int .i64 i, .slice va B.length vc, .func (.func 106) #[] #[.pointer (some ⟨W4.heap.size, 0, none⟩)], .slice va' x.1.length vc', .int .i64 (x.2 : Nat), .int .i64 (k : Nat), .int .i64 ((k : Int) + 1), .tuple #[.agg #[.int .i64 ek, .int .i64 ei, .int .i64 et, .slice sa en sc], .int .i64 (er : Nat)], .slice va' x.1.length vc', .tuple #[.agg #[.int .i64 ek, .int .i64 ei, .int .i64 et, .slice sa en sc], .int .i64 (er : Nat)], .agg #[.int .i64 ek, .int .i64 ei, .int .i64 et, .slice sa en sc], .int .i64 (er : Nat), z27, z28, z29, z30, z31, z32, z33, z34, z35, z36, z37, z38, z39, z40, z41, z42, z43, z44, undef, undef, undef, undef, undef, undef, undef, undef, undef], defers := [] }) (regionH_round (S := fun wx => Below V5.heap.size V5 wx) l' m (by kernel_rfl) (noDefer_all (by kernel_rfl)) (fun ⟨_, _, h⟩ => by cases h.1) ?_) ?_
        · simp only [List.size_toArray, List.length_cons, List.length_nil, Nat.reduceAdd, Array.replicate_succ, Array.replicate_zero, List.push_toArray, List.nil_append, List.cons_append]
          have hS0 : Below V5.heap.size V5 V5.drew := (Below.refl _ _).drew
          refine takeD (i := 0) (d := 27) (v := .int .i64 (er : Nat)) (fuel := 18) rfl rfl (by kernel_rfl) (by kernel_rfl) (by kernel_rfl) (fun _ _ _ h => by cases h.1) (.inl ⟨by kernel_rfl, fun _ _ => by kernel_rfl⟩) hS0 ?_
          simp only [List.setIfInBounds_toArray, List.set_cons_succ, List.set_cons_zero]
          refine takeD (i := 1) (d := 28) (v := .bool false) (fuel := 17) rfl rfl (by kernel_rfl) (by kernel_rfl) (by kernel_rfl) (fun _ _ _ h => by cases h.1) (.inl ⟨by kernel_rfl, fun _ _ => by go_simp⟩) hS0 ?_
          simp only [List.setIfInBounds_toArray, List.set_cons_succ, List.set_cons_zero]
          refine takeD (i := 2) (d := 29) (v := .bool false) (fuel := 16) rfl rfl (by kernel_rfl) (by kernel_rfl) (by kernel_rfl) (fun _ _ _ h => by cases h.1) (.inl ⟨by kernel_rfl, fun _ _ => by kernel_rfl⟩) hS0 ?_
          simp only [List.setIfInBounds_toArray, List.set_cons_succ, List.set_cons_zero]
          refine takeD (i := 3) (d := 30) (v := undef) (fuel := 15) rfl rfl (by kernel_rfl) (by kernel_rfl) (by kernel_rfl) (fun _ _ _ h => by cases h.1) (.inr ⟨by kernel_rfl, rfl⟩) hS0 ?_
          simp only [List.setIfInBounds_toArray, List.set_cons_succ, List.set_cons_zero]
          refine takeD (i := 4) (d := 31) (v := undef) (fuel := 14) rfl rfl (by kernel_rfl) (by kernel_rfl) (by kernel_rfl) (fun _ _ _ h => by cases h.1) (.inr ⟨by kernel_rfl, rfl⟩) hS0 ?_
          simp only [List.setIfInBounds_toArray, List.set_cons_succ, List.set_cons_zero]
          refine takeD (i := 5) (d := 32) (v := undef) (fuel := 13) rfl rfl (by kernel_rfl) (by kernel_rfl) (by kernel_rfl) (fun _ _ _ h => by cases h.1) (.inr ⟨by kernel_rfl, rfl⟩) hS0 ?_
          simp only [List.setIfInBounds_toArray, List.set_cons_succ, List.set_cons_zero]
          refine takeD (i := 6) (d := 33) (v := undef) (fuel := 12) rfl rfl (by kernel_rfl) (by kernel_rfl) (by kernel_rfl) (fun _ _ _ h => by cases h.1) (.inr ⟨by kernel_rfl, rfl⟩) hS0 ?_
          simp only [List.setIfInBounds_toArray, List.set_cons_succ, List.set_cons_zero]
          refine wpAnyH_all (fuel := 11) (rs := [7]) (by kernel_rfl) (by decide) (List.forall_mem_singleton.2 ?_)
          refine wpOp_un (i := 7) (d := 34) rfl rfl (by kernel_rfl) ⟨hS0, ?_⟩
          simp only [List.setIfInBounds_toArray, List.set_cons_succ, List.set_cons_zero]
          refine takeD (i := 8) (d := 35) (v := undef) (fuel := 10) rfl rfl (by kernel_rfl) (by kernel_rfl) (by kernel_rfl) (fun _ _ _ h => by cases h.1) (.inr ⟨by kernel_rfl, rfl⟩) hS0 ?_
          simp only [List.setIfInBounds_toArray, List.set_cons_succ, List.set_cons_zero]
          refine takeD (i := 9) (d := 36) (v := .bool false) (fuel := 9) rfl rfl (by kernel_rfl) (by kernel_rfl) (by kernel_rfl) (fun _ _ _ h => by cases h.1) (.inl ⟨by kernel_rfl, fun _ _ => by kernel_rfl⟩) hS0 ?_
          simp only [List.setIfInBounds_toArray, List.set_cons_succ, List.set_cons_zero]
          refine takeD (i := 10) (d := 37) (v := .bool false) (fuel := 8) rfl rfl (by kernel_rfl) (by kernel_rfl) (by kernel_rfl) (fun _ _ _ h => by cases h.1) (.inl ⟨by kernel_rfl, fun _ _ => by kernel_rfl⟩) hS0 ?_
          simp only [List.setIfInBounds_toArray, List.set_cons_succ, List.set_cons_zero]
          refine takeD (i := 11) (d := 38) (v := undef) (fuel := 7) rfl rfl (by kernel_rfl) (by kernel_rfl) (by kernel_rfl) (fun _ _ _ h => by cases h.1) (.inr ⟨by kernel_rfl, rfl⟩) hS0 ?_
          simp only [List.setIfInBounds_toArray, List.set_cons_succ, List.set_cons_zero]
          refine takeD (i := 12) (d := 39) (v := undef) (fuel := 6) rfl rfl (by kernel_rfl) (by kernel_rfl) (by kernel_rfl) (fun _ _ _ h => by cases h.1) (.inr ⟨by kernel_rfl, rfl⟩) hS0 ?_
          simp only [List.setIfInBounds_toArray, List.set_cons_succ, List.set_cons_zero]
          refine takeD (i := 13) (d := 40) (v := undef) (fuel := 5) rfl rfl (by kernel_rfl) (by kernel_rfl) (by kernel_rfl) (fun _ _ _ h => by cases h.1) (.inr ⟨by kernel_rfl, rfl⟩) hS0 ?_
          simp only [List.setIfInBounds_toArray, List.set_cons_succ, List.set_cons_zero]
          refine takeD (i := 15) (d := 42) (v := undef) (fuel := 4) rfl rfl (by kernel_rfl) (by kernel_rfl) (by kernel_rfl) (fun _ _ _ h => by cases h.1) (.inr ⟨by kernel_rfl, rfl⟩) hS0 ?_
          simp only [List.setIfInBounds_toArray, List.set_cons_succ, List.set_cons_zero]
          refine wpAnyH_all (fuel := 3) (rs := [14]) (by kernel_rfl) (by decide) (List.forall_mem_singleton.2 ?_)
          refine wpOp_un (i := 14) (d := 41) rfl rfl (by kernel_rfl) ⟨hS0, ?_⟩
          simp only [List.setIfInBounds_toArray, List.set_cons_succ, List.set_cons_zero]
          refine takeD (i := 16) (d := 43) (v := undef) (fuel := 2) rfl rfl (by kernel_rfl) (by kernel_rfl) (by kernel_rfl) (fun _ _ _ h => by cases h.1) (.inr ⟨by kernel_rfl, rfl⟩) hS0 ?_
          simp only [List.setIfInBounds_toArray, List.set_cons_succ, List.set_cons_zero]
          refine takeD (i := 17) (d := 44) (v := .bool false) (fuel := 1) rfl rfl (by kernel_rfl) (by kernel_rfl) (by kernel_rfl) (fun _ _ _ h => by cases h.1) (.inl ⟨by kernel_rfl, fun _ _ => by kernel_rfl⟩) hS0 ?_
          simp only [List.setIfInBounds_toArray, List.set_cons_succ, List.set_cons_zero]
          refine takeD (i := 18) (d := 9) (v := .bool false) (fuel := 0) rfl rfl (by kernel_rfl) (by kernel_rfl) (by kernel_rfl) (fun _ _ _ h => by cases h.1) (.inl ⟨by kernel_rfl, fun _ _ => by kernel_rfl⟩) hS0 ?_
          simp only [List.setIfInBounds_toArray, List.set_cons_succ, List.set_cons_zero]
          refine wpAnyH_done (by kernel_rfl) ?_ _
          exact ⟨rfl, hS0, _, _, _, _, _, _, _, _, _, _, _, _, _, _, _, _, _, _, rfl⟩
        · rintro e a' w6 ⟨rfl, hb6, z27, z28, z29, z30, z31, z32, z33, z34, z35, z36, z37, z38, z39, z40, z41, z42, z43, z44, rfl⟩
          have HST6 : Hid _ := HST5.out.below hb6
          have HJ8' : Hid _ := HJ.out _ _ _ _ _ HJ8.out (Mv.of_below hb6)
          have HRV6 : Hid (Rv w0.heap.size TB V2 w6) := HRV5.out.trans (Rv.of_below hb6 HST5.out.le)
          clear hb6
          gi_wp2
          refine ⟨fun f h => (by cases h), ?_⟩
          gi_wp2
          refine ⟨⟨rfl, TJ, .inl ?_, HST6.out⟩, HRV6.out⟩
          have := HJ8'.out
          rw [HKE.out] at this
          exact this
    case done =>
      rintro V T2 h hold hup hdef hts
      obtain ⟨TJ, h1, h2, h3, h4, h5⟩ := h.out
      have hlen : ws.length = fs.length := by
        rw [List.drop_length, whW] at h4
        have := congrArg List.length h4
        rw [List.length_drop] at this
        simp at this
        omega
      rw [← hlen] at h1
      have HH1 : Hid _ := h1
      have HH2 : Hid _ := h2
      have HUP : Hid _ := hup
      have HDF : Hid _ := hdef
      have HTS : Hid _ := hts
      clear h1 h2 h3 h4 h5 h hdef hts hup hold
      rw [hz5] at HDF HTS ⊢
      clear hz5
      gi_wp2
      refine leave0 rfl HDF.out (fun v => ?_) _ (by first | exact .inr rfl | exact .inl rfl)
      rw [HR.out]
      exact ⟨_, TJ, rfl, .inl (HJ.out _ _ _ _ _ HH1.out (Mv.putObj _ _ (HH2.out.sub _ HTS.out))), HH2.out.old, fun b hb => by rw [World.size_putObj']; exact (HH2.out.own b hb).2⟩
    case stop =>
      rintro c k V T2 hk h hold hup hdef hts
      obtain ⟨rfl, TJ, h1, h2⟩ := h.out
      have HH1 : Hid _ := h1
      have HH2 : Hid _ := h2
      have HDF : Hid _ := hdef
      have HTS : Hid _ := hts
      clear h1 h2 h hdef hts hup hold
      rw [hz5] at HDF HTS ⊢
      clear hz5
      gi_wp2
      refine leave0 rfl HDF.out (fun v => ?_) _ (by first | exact .inl rfl | exact .inr rfl)
      rw [HR.out]
      have hmv : Mv TJ V TJ (V.putObj (W4.heap.size + 1) (.deferred none)) := Mv.putObj _ _ (HH2.out.sub _ HTS.out)
      refine ⟨_, TJ, rfl, ?_, HH2.out.old, fun b hb => by rw [World.size_putObj']; exact (HH2.out.own b hb).2⟩
      rcases HH1.out with h1 | ⟨k', hk', h1⟩
      · exact .inl (HJ.out _ _ _ _ _ h1 hmv)
      · exact .inr ⟨k', hk', HJx.out _ _ _ _ _ h1 hmv⟩
  · have hh2 : hasN n i = false := by simpa using hh
    rw [hh2]
    have HJ2 : Hid _ := HJ.out _ _ _ _ _ HJ1.out (Mv.of_below hb2)
    have hs2 := hb2.size
    have HWS : Hid (ws = []) := by show _ = _; rw [hws, if_neg hh]
    have hz2 : W.heap.size + 1 ≤ W2.heap.size := by simpa using hs2
    clear HY HH hb2
    gi_wp2
    refine ⟨_, results_none rfl _ _ _, ?_⟩
    rw [HR.out]
    refine ⟨_, fun b => T b ∨ b = W.heap.size, rfl, .inl ?_, fun b hb => ?_, fun b hb => ?_⟩
    · have := HJ2.out
      rw [HWS.out]
      exact this
    · exact ⟨fun h => h.resolve_right (by omega), .inl⟩
    · rcases hb with hb | hb
      · have := hown b hb; omega
      · omega
end Go.Proofs.YtijkgdbabikojaaGreat

