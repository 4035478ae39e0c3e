/- Texts of the seat, packed: Gd Qb. -/
import Derived.Test.YtijkgdbabikojaaGreatP17
import Derived.Test.YtijkgdbabikojaaGreatP02
import Derived.Laws.ResultCell
import Derived.Laws.Rows
/- The walk over branch.textFrames. -/
namespace Go.Proofs.YtijkgdbabikojaaGreat
open Go.RowKit Go.Shelf
set_option maxRecDepth 1000000
set_option linter.unusedVariables false
attribute [local go_sem] Oper.semAt_some

theorem RB.mv {A B : World} {T T' : Nat → Prop} {a : Option Addr} {n c : Nat} {l : List UInt8} (h : RB A (.slice a n c) l) (hm : Mv T A T' B) (hn : ∀ b, a = some b → b.block < A.heap.size ∧ ¬ T b.block) : RB B (.slice a n c) l :=
  h.stay (fun x n c he _ hlt => by cases he; exact hm.same _ hlt (hn x rfl).2)
theorem RB.bz {A B : World} {v : Value} {l : List UInt8} (h : RB A v l) (hb : Bz A B) : RB B v l := by
  obtain ⟨a, cap, hv, h1, h2, h3, hc⟩ := h
  refine ⟨a, cap, hv, h1, h2, h3, fun i hi => ?_⟩
  obtain ⟨b, off, ha, hcell⟩ := hc i hi
  exact ⟨b, off, ha, hb.cell hcell⟩
theorem boxed_mv {A B : World} {T T' : Nat → Prop} {b : Nat} {t : TypeId} {v : Value} (h : Boxed A b t v) (hm : Mv T A T' B) (hn : ¬ T b) : Boxed B b t v := (hm.same b h.lt hn).trans h
theorem Mv.no {A B : World} {T T' : Nat → Prop} (hm : Mv T A T' B) {b : Nat} (hl : b < A.heap.size) (hn : ¬ T b) : ¬ T' b := fun h => hn ((hm.old b hl).1 h)
theorem Rv.below {n0 : Nat} {T : Nat → Prop} {A B : World} (h : Rv n0 T A B) : Below n0 A B := ⟨h.os, h.tape, h.output, h.size, h.low⟩
theorem World.size_putObj' (w : World) (r : Nat) (o : Obj) : (w.putObj r o).heap.size = w.heap.size := by simp [World.putObj]

/-- What textFrames has, when k pieces are put. -/
structure TxS (n0 r1 r2 al : Nat) (w0 : World) (xs : List (List UInt8)) (k : Nat) (W : World) (T : Nat → Prop) : Prop where
  b1 : Boxed W r1 34 (.slice none 0 0)
  b2 : Boxed W r2 39 (.int .i64 0)
  ba : ∃ a c, Boxed W al 34 (.slice a (Fr.putP (xs.take k)).length c) ∧ RB W (.slice a (Fr.putP (xs.take k)).length c) (Fr.putP (xs.take k)) ∧ ∀ b, a = some b → b.block < W.heap.size ∧ ¬ T b.block ∧ b.block ≠ r1 ∧ b.block ≠ r2 ∧ b.block ≠ al
  t1 : ¬ T r1
  t2 : ¬ T r2
  ta : ¬ T al
  bel : Below n0 w0 W
  hT : ∀ b, b < n0 → ¬ T b
  le : n0 ≤ W.heap.size

theorem TxS.mv {n0 r1 r2 al : Nat} {w0 : World} {xs : List (List UInt8)} {k : Nat} {A B : World} {T T' : Nat → Prop} (h : TxS n0 r1 r2 al w0 xs k A T) (hm : Mv T A T' B) : TxS n0 r1 r2 al w0 xs k B T' := by
  obtain ⟨a, c, e1, e2, e3⟩ := h.ba
  have hle := h.le
  exact ⟨boxed_mv h.b1 hm h.t1, boxed_mv h.b2 hm h.t2, ⟨a, c, boxed_mv e1 hm h.ta, e2.mv hm (fun b hb => ⟨(e3 b hb).1, (e3 b hb).2.1⟩), fun b hb => ⟨Nat.lt_of_lt_of_le (e3 b hb).1 hm.size, hm.no (e3 b hb).1 (e3 b hb).2.1, (e3 b hb).2.2⟩⟩, hm.no h.b1.lt h.t1, hm.no h.b2.lt h.t2, hm.no e1.lt h.ta,
    hm.below h.bel h.hT h.le, fun b hb => hm.no (by omega) (h.hT b hb), Nat.le_trans hle hm.size⟩

theorem put_take {xs : List (List UInt8)} {k : Nat} {x : List UInt8} (h : xs[k]? = some x) : Fr.putP (xs.take (k + 1)) = Fr.putP (xs.take k) ++ Fr.frameP x := by
  rw [List.take_add_one, h]
  simp [Fr.putP]

theorem put_len_le (xs : List (List UInt8)) (h : ∀ b ∈ xs, b.length ≤ 1024) : (Fr.putP xs).length ≤ 1030 * xs.length := by
  induction xs with
  | nil => simp [Fr.putP]
  | cons b r ih =>
    have h1 := ih (fun c hc => h c (List.mem_cons_of_mem _ hc))
    have h2 := h b (List.mem_cons_self ..)
    rw [Fr.putP_cons, List.length_append, Fr.frameP_len, List.length_cons]
    omega

theorem pieces_few (f : Nat) : ∀ (s : List UInt8), 1000 * (piecesF f s).length ≤ s.length + 999 := by
  induction f with
  | zero => intro s; simp [piecesF]
  | succ f ih =>
    intro s
    by_cases hs : 0 < s.length
    · rw [piecesF_yes hs, List.length_cons]
      by_cases h2 : 1000 < s.length
      · have := ih (s.drop 1000)
        rw [List.length_drop] at this
        omega
      · have : s.drop 1000 = [] := List.drop_of_length_le (by omega)
        rw [this, piecesF_nil]
        simp
        omega
    · have : s = [] := List.eq_nil_of_length_eq_zero (by omega)
      rw [this, piecesF_nil]
      simp

theorem pieces_put (s : List UInt8) (hs : s.length ≤ 65536) (k : Nat) : (Fr.putP ((pieces s).take k)).length ≤ 90000 := by
  have h1 := pieces_few s.length s
  have h2 := put_len_le ((pieces s).take k) (fun b hb => by have := pieces_len s b (List.mem_of_mem_take hb); omega)
  have h3 : ((pieces s).take k).length ≤ (pieces s).length := by rw [List.length_take]; omega
  have h4 : (pieces s).length = (piecesF s.length s).length := rfl
  omega

set_option maxHeartbeats 4000000 in
theorem textFrames_any (x : Value) (s : List UInt8) (w : World) (hx : RB w x s) (hs : s.length ≤ 65536) :
    Calls Tryz.prog 44 #[x] w fun e w' => ∃ a c, e = .returned (.tuple #[.slice a (textP s).length c, .int .i64 0]) ∧ RB w' (.slice a (textP s).length c) (textP s) ∧ (∀ b, a = some b → w.heap.size ≤ b.block) ∧ Below w.heap.size w w' := by
  have HX : Hid (RB w x s) := hx
  obtain ⟨a, c, rfl, q1, q2, q3, q4⟩ := hx
  clear q1 q2 q3 q4
  generalize hsn : s.length = sn at *
  have HSn : Hid (s.length = sn) := hsn
  have HHS : Hid (s.length ≤ 65536) := by show _ ≤ _; omega
  clear hsn hs
  refine (callsIn_wide (n := 0)).1 ?_
  refine callsIn_of_wp_marks Tryz.func44 rfl trivial ?_ rfl
  simp only [Tryz.ntmps44, List.size_toArray, List.length_cons, List.length_nil, Nat.reduceAdd, Nat.reduceSub, Array.replicate_succ, Array.replicate_zero, List.push_toArray, List.append_toArray, List.nil_append, List.cons_append]
  gi_wp2_with (refine ⟨trivial, rfl, ?_⟩; refine (callsIn_wide.2 (pieces_any _ _ _ _)).mono ?_; rintro e w' ⟨rfl, rfl⟩)
  have b1 := (((Boxed.new w 34 (.slice none 0 0)).alloc (.cells #[.int .i64 0] 39)).alloc (.cells #[.slice none 0 0] 34)).alloc (.cells #[.slice a sn c] 34)
  have b2 := ((Boxed.new (w.alloc (.cells #[.slice none 0 0] 34)) 39 (.int .i64 0)).alloc (.cells #[.slice none 0 0] 34)).alloc (.cells #[.slice a sn c] 34)
  have b3 := (Boxed.new ((w.alloc (.cells #[.slice none 0 0] 34)).alloc (.cells #[.int .i64 0] 39)) 34 (.slice none 0 0)).alloc (.cells #[.slice a sn c] 34)
  have b4 := Boxed.new (((w.alloc (.cells #[.slice none 0 0] 34)).alloc (.cells #[.int .i64 0] 39)).alloc (.cells #[.slice none 0 0] 34)) 34 (.slice a sn c)
  simp only [World.size_alloc] at b2 b3 b4
  have hB0 : Below w.heap.size w ((((w.alloc (.cells #[.slice none 0 0] 34)).alloc (.cells #[.int .i64 0] 39)).alloc (.cells #[.slice none 0 0] 34)).alloc (.cells #[.slice a sn c] 34)) := ((((Below.refl _ w).alloc (Nat.le_refl _) _).alloc (by simp) _).alloc (by simp; omega) _).alloc (by simp; omega) _
  have hsz : ((((w.alloc (.cells #[.slice none 0 0] 34)).alloc (.cells #[.int .i64 0] 39)).alloc (.cells #[.slice none 0 0] 34)).alloc (.cells #[.slice a sn c] 34)).heap.size = w.heap.size + 4 := by simp
  obtain ⟨W0, hW0⟩ : ∃ W0, (((w.alloc (.cells #[.slice none 0 0] 34)).alloc (.cells #[.int .i64 0] 39)).alloc (.cells #[.slice none 0 0] 34)).alloc (.cells #[.slice a sn c] 34) = W0 := ⟨_, rfl⟩
  rw [hW0] at b1 b2 b3 b4 hB0 hsz ⊢
  clear hW0
  have HXl : Hid (∀ b n c', Value.slice a sn c = .slice (some b) n c' → 0 < s.length → b.block < w.heap.size) := fun b n c' he hl => by
    obtain ⟨a', c2, e2, _, _, _, hc⟩ := HX.out
    rw [he] at e2
    cases e2
    obtain ⟨b2, off, e3, hcell⟩ := hc 0 hl
    cases e3
    exact World.block_lt_of_cell? w _ hcell
  refine range_law (P := Tryz.prog) (gf := 110) (lb := #[.pointer (some ⟨w.heap.size + 1 + 1 + 1, 0, none⟩)]) rfl (enters_of Tryz.func110 (by kernel_rfl) rfl) (enc := encB) (xs := pieces s) (n0 := w.heap.size) (T := fun b => b = w.heap.size + 1 + 1 + 1)
    (pieces_itr _ _ s w.heap.size _ W0 b4 (HX.out.later hB0) (by have := HHS.out; omega) rfl (fun b n c' he hl => .inl (HXl.out b n c' he hl)) (fun b hb => by omega) (by omega)) (fun b hb => by omega) (by omega)
    (fun x F W T args h => by obtain ⟨_, _, rfl, _⟩ := h; rfl)
    (fun k W T => Hid (TxS w.heap.size w.heap.size (w.heap.size + 1) (w.heap.size + 1 + 1) w (pieces s) k W T)) (fun c k W T => False)
    (fun k A TA B TB h hm => h.out.mv hm) (fun c k A TA B TB h _ => h.elim)
    ⟨b1, b2, ⟨none, 0, b3, RB.nil _, fun b hb => by cases hb⟩, by omega, by omega, by omega, hB0, fun b hb => by omega, by omega⟩ ?round ?done (fun c k W T2 _ h => h.elim)
  case round =>
    rintro m l k x args F W T1 TB hxk ⟨va, vc, rfl, hrb⟩ _ HI hTB hup hnc hlt
    clear hTB hnc
    gi_wp2
    refine ⟨HI, Rv.refl _ _ _, fun W2 HI2 hbz => ?_⟩
    have hsz2 := hbz.size
    have HP : Hid _ := hrb.bz hbz
    have h2 := HI2.out
    obtain ⟨pa, pc, p1, p2, p3⟩ := h2.ba
    have cal := p1.cell
    have fal := p1.frozen
    have hpm : x ∈ pieces s := List.mem_of_getElem? hxk
    have hlx := pieces_len s x hpm
    have hlp := pieces_put s HHS.out k
    have HPut : Hid _ := Fr.put_any _ _ _ _ W2 p2 HP.out (by omega) (by omega)
    gi_wp2
    refine ⟨trivial, (fun h => by cases h), (CallsIn.inRound l (callsIn_wide.2 HPut.out)).mono ?_⟩
    rintro e W3 ⟨g, cap, rfl, ho, hb3⟩
    have hg3 := ho.lt
    have cal3 := (hb3.cell (World.block_lt_of_cell? _ _ cal)).trans cal
    have b13 : Boxed W3 _ _ _ := (hb3.block _ h2.b1.lt).trans h2.b1
    have b23 : Boxed W3 _ _ _ := (hb3.block _ h2.b2.lt).trans h2.b2
    have b33 : Boxed W3 _ _ _ := (hb3.block _ p1.lt).trans p1
    have fal3 := b33.frozen
    have hrb3 := ho.rb.2
    have hs2 := hb3.size
    have l1 := h2.b1.lt
    have l2 := h2.b2.lt
    have l3 := p1.lt
    have hz := h2.le
    have HH2 : Hid _ := h2
    have HPT : Hid _ := put_take hxk
    have HLE : Hid ((Fr.putP ((pieces s).take k)).length + (x.length + 6) = (Fr.putP ((pieces s).take (k + 1))).length) := by show _ = _; rw [HPT.out, List.length_append, Fr.frameP_len]
    rw [← HPT.out] at hrb3
    rw [HLE.out] at hrb3 ⊢
    clear cal fal p2 p3 ho hlx hlp HPut HP hrb HLE HPT
    gi_wp2
    have hne : g ≠ w.heap.size + 1 + 1 := by omega
    refine ⟨⟨(b13.other (by omega) _), (b23.other (by omega) _), ⟨_, _, b33.set _, RB.stay hrb3 (fun b n c' he _ _ => by cases he; exact Below.heap_setCell _ _ _ _ hne), fun b hb => by cases hb; exact ⟨show g < _ by simp; omega, fun ht => by have h9 : g < W.heap.size := hup _ ht; omega, show g ≠ _ by omega, show g ≠ _ by omega, hne⟩⟩, HH2.out.t1, HH2.out.t2, HH2.out.ta, ?_, HH2.out.hT, by simp; omega⟩, ?_⟩
    · exact (HH2.out.bel.trans (hb3.mono hz)).setCell (p := ⟨w.heap.size + 1 + 1, 0, none⟩) (by simp; omega) _
    · exact (Rv.of_below hb3 hz).trans (Rv.setCell _ _ (by omega) HH2.out.ta)
  case done =>
    rintro W T2 HI hold hup hdef _
    have h2 := HI.out
    obtain ⟨pa, pc, p1, p2, p3⟩ := h2.ba
    rw [List.take_length] at p1 p2
    have cal := p1.cell
    have HPut : Hid _ := Fr.put_any _ (.slice none 0 0) _ [] W p2 (RB.nil _) (by have := pieces_put s HHS.out (pieces s).length; rw [List.take_length] at this; omega) (by simp)
    gi_wp2
    refine ⟨trivial, rfl, (callsIn_wide.2 HPut.out).mono ?_⟩
    rintro e W3 ⟨g, cap, rfl, ho, hb3⟩
    have hg3 := ho.lt
    have b13 : Boxed W3 _ _ _ := (hb3.block _ h2.b1.lt).trans h2.b1
    have b23 : Boxed W3 _ _ _ := (hb3.block _ h2.b2.lt).trans h2.b2
    have hdef3 := (hb3.block _ (Array.getElem?_eq_some_iff.1 hdef).1).trans hdef
    have c1 := b13.cell
    have f1 := b13.frozen
    have l1 := h2.b1.lt
    have l2 := h2.b2.lt
    have b24 := b23.other (B' := w.heap.size) (by omega) (.slice (some ⟨g, 0, none⟩) ((Fr.putP (pieces s)).length + 6) cap)
    have c2 := b24.cell
    have f2 := b24.frozen
    have hz := h2.le
    have hs2 := hb3.size
    have HTX : Hid (textP s = Fr.putP (pieces s) ++ Fr.frameP []) := by show _ = _; unfold textP; rw [Fr.putP_append]; simp [Fr.putP]
    have HTL : Hid ((Fr.putP (pieces s)).length + 6 = (textP s).length) := by show _ = _; rw [HTX.out, List.length_append, Fr.frameP_len]; simp
    have HRB : Hid _ := ho.rb.2
    have HBL : Hid _ := h2.bel.trans (hb3.mono hz)
    have HG : Hid (w.heap.size ≤ g) := by show _ ≤ _; omega
    have HGn : Hid (W.heap.size ≤ g ∧ g < W3.heap.size) := hg3
    clear p1 p2 p3 cal HPut ho hg3
    gi_wp2
    have hsz4 : W0.heap.size = w.heap.size + 4 := hsz
    rw [hsz4] at hdef3
    have hD : ((W3.setCell ⟨w.heap.size, 0, none⟩ (.slice (some ⟨g, 0, none⟩) ((Fr.putP (pieces s)).length + 6) cap)).setCell ⟨w.heap.size + 1, 0, none⟩ (.int .i64 0)).heap[w.heap.size + 4]? = some (.deferred (some [])) := by
      rw [Below.heap_setCell _ _ _ _ (by show _ ≠ w.heap.size + 1; omega), Below.heap_setCell _ _ _ _ (by show _ ≠ w.heap.size; omega)]
      exact hdef3
    have d1 := ((b13.set (.slice (some ⟨g, 0, none⟩) ((Fr.putP (pieces s)).length + 6) cap)).other (B' := w.heap.size + 1) (by omega) (.int .i64 0))
    have d2 := b24.set (.int .i64 0)
    have e1 : Boxed (((W3.setCell ⟨w.heap.size, 0, none⟩ (.slice (some ⟨g, 0, none⟩) ((Fr.putP (pieces s)).length + 6) cap)).setCell ⟨w.heap.size + 1, 0, none⟩ (.int .i64 0)).putObj (w.heap.size + 4) (.deferred none)) _ _ _ := (World.putObj_heap_other (by omega)).trans d1
    have e2 : Boxed (((W3.setCell ⟨w.heap.size, 0, none⟩ (.slice (some ⟨g, 0, none⟩) ((Fr.putP (pieces s)).length + 6) cap)).setCell ⟨w.heap.size + 1, 0, none⟩ (.int .i64 0)).putObj (w.heap.size + 4) (.deferred none)) _ _ _ := (World.putObj_heap_other (by omega)).trans d2
    have c5 := e1.cell
    have c6 := e2.cell
    refine ⟨by simp, .inl ⟨_, _, rfl, run_takeDeferred hD, ?_⟩⟩
    refine ⟨.tuple #[.slice (some ⟨g, 0, none⟩) ((Fr.putP (pieces s)).length + 6) cap, .int .i64 0], ?_, some ⟨g, 0, none⟩, cap, ?_, ?_, ?_, ?_⟩
    · simp [results, Tryz.f44, go_sem, c5, c6]
    · rw [HTL.out]
    · have hr : RB W3 (.slice (some ⟨g, 0, none⟩) ((Fr.putP (pieces s)).length + 6) cap) (Fr.putP (pieces s) ++ Fr.frameP []) := HRB.out
      rw [HTL.out, ← HTX.out] at hr
      refine RB.stay hr (fun b n c' he _ _ => ?_)
      cases he
      have hgg := HGn.out
      rw [World.putObj_heap_other (show g ≠ w.heap.size + 4 by have := (Array.getElem?_eq_some_iff.1 hdef).1; omega), Below.heap_setCell _ _ _ _ (show g ≠ w.heap.size + 1 by omega), Below.heap_setCell _ _ _ _ (show g ≠ w.heap.size by omega)]
    · intro b hb
      cases hb
      exact HG.out
    · have hq := (HBL.out.setCell (p := ⟨w.heap.size, 0, none⟩) (Nat.le_refl _) (.slice (some ⟨g, 0, none⟩) ((Fr.putP (pieces s)).length + 6) cap)).setCell (p := ⟨w.heap.size + 1, 0, none⟩) (by show _ ≤ w.heap.size + 1; omega) (.int .i64 0)
      exact ⟨hq.os, hq.tape, hq.output, by rw [World.size_putObj']; exact hq.size, fun k hk => (World.putObj_heap_other (by omega)).trans (hq.block k hk)⟩
end Go.Proofs.YtijkgdbabikojaaGreat

/- Plain: a frame that is taken is its body's frame; what framesText tells. -/
namespace Go.Proofs.YtijkgdbabikojaaGreat
set_option maxRecDepth 1000000
set_option linter.unusedVariables false

theorem hd2_num (l : List UInt8) (h : 2 ≤ l.length) : Fr.hd2 (Fr.num2 l) = l.take 2 := by
  match l, h with
  | a :: b :: r, _ =>
    have ha := a.toNat_lt
    have hb := b.toNat_lt
    unfold Fr.hd2 Fr.num2
    simp only [List.getD_cons_zero, List.getD_cons_succ, List.take_succ_cons, List.take_zero]
    have e1 : (256 * a.toNat + b.toNat) / 256 = a.toNat := by omega
    have e2 : (256 * a.toNat + b.toNat) % 256 = b.toNat := by omega
    simp [e1]

/-- What is taken stood there. -/
theorem take_inv {l : List UInt8} {p : Nat} (h : (Fr.takeP l p).2.2 = 0) : l.drop p = Fr.frameP (Fr.takeP l p).1 ++ l.drop (Fr.takeP l p).2.1 := by
  unfold Fr.takeP at h ⊢
  by_cases h1 : (Fr.measureP (l.drop p)).2 = 0
  · rw [if_pos h1] at h ⊢
    by_cases h2 : Fr.openP ((l.drop p).take (Fr.measureP (l.drop p)).1) = true
    · rw [if_pos h2] at h ⊢
      obtain ⟨m1, m2, m3⟩ := Fr.measure_ok h1
      have hm : (Fr.measureP (l.drop p)).1 = Fr.num2 (l.drop p) + 6 := by
        have h9 := h1
        unfold Fr.measureP at h9 ⊢
        by_cases g0 : (l.drop p).length = 0
        · rw [if_pos g0] at h9; simp at h9
        · rw [if_neg g0] at h9 ⊢
          by_cases g1 : (l.drop p).length < 2
          · rw [if_pos g1] at h9; simp at h9
          · rw [if_neg g1] at h9 ⊢
            by_cases g2 : 1024 < Fr.num2 (l.drop p)
            · rw [if_pos g2] at h9; simp at h9
            · rw [if_neg g2] at h9 ⊢
              by_cases g3 : (l.drop p).length < Fr.num2 (l.drop p) + 6
              · rw [if_pos g3] at h9; simp at h9
              · rw [if_neg g3]
      generalize hd : l.drop p = d at *
      generalize hmm : (Fr.measureP d).1 = m at *
      have hdrop : l.drop (p + m) = d.drop m := by rw [← hd, List.drop_drop]
      rw [hdrop]
      have hbl : ((d.drop 2).take (m - 6)).length = Fr.num2 d := by rw [List.length_take, List.length_drop]; omega
      have hf : (d.take m).length = m := by rw [List.length_take]; omega
      unfold Fr.openP at h2
      rw [hf, beq_iff_eq] at h2
      have e1 : (d.take m).take (m - 4) = d.take 2 ++ (d.drop 2).take (m - 6) := by
        rw [List.take_take, Nat.min_eq_left (by omega)]
        have := List.take_append_drop 2 (d.take (m - 4))
        rw [List.take_take, Nat.min_eq_left (by omega), List.drop_take] at this
        rw [← this]
        rfl
      unfold Fr.frameP
      rw [hbl, hd2_num d (by omega), ← e1, h2, List.take_append_drop, List.take_append_drop]
    · rw [if_neg h2] at h
      cases h
  · rw [if_neg h1] at h
    exact absurd h h1

/-- What framesText tells, going through frames. -/
def txG (N : Nat) : List UInt8 → Bool → List (List UInt8 × Nat) → Option (List UInt8)
  | _, _, [] => none
  | t, last, (p, e) :: r => if p.length = 0 ∧ e = N then some t else if p.length = 0 ∨ last = true ∨ 1000 < p.length then none else txG N (t ++ p) (decide (p.length < 1000)) r

/-- Pieces that a text may begin with. -/
def Full (ps : List (List UInt8)) : Prop := ∀ q ∈ ps, q.length = 1000

theorem piecesF_full : ∀ (ps : List (List UInt8)) (q : List UInt8) (f : Nat), Full ps → q.length ≤ 1000 → (ps.flatten ++ q).length ≤ f → piecesF f (ps.flatten ++ q) = ps ++ (if q.length = 0 then [] else [q])
  | [], q, f, _, hq, hf => by
    rw [List.flatten_nil, List.nil_append, List.nil_append] at *
    by_cases h0 : q.length = 0
    · rw [if_pos h0, List.eq_nil_of_length_eq_zero h0, piecesF_nil]
    · rw [if_neg h0]
      obtain ⟨f', rfl⟩ : ∃ f', f = f' + 1 := ⟨f - 1, by omega⟩
      rw [piecesF_yes (by omega), List.take_of_length_le hq, List.drop_of_length_le hq, piecesF_nil]
  | p :: ps, q, f, hp, hq, hf => by
    have h1 := hp p (List.mem_cons_self ..)
    rw [List.flatten_cons, List.append_assoc] at *
    have hl : (p ++ (ps.flatten ++ q)).length = 1000 + (ps.flatten ++ q).length := by rw [List.length_append, h1]
    obtain ⟨f', rfl⟩ : ∃ f', f = f' + 1 := ⟨f - 1, by omega⟩
    rw [piecesF_yes (by omega), ← h1, List.take_left, List.drop_left]
    rw [piecesF_full ps q f' (fun x hx => hp x (List.mem_cons_of_mem _ hx)) hq (by omega)]
    rfl

theorem textP_full (ps : List (List UInt8)) (q : List UInt8) (hp : Full ps) (hq : q.length ≤ 1000) : textP (ps.flatten ++ q) = Fr.putP (ps ++ (if q.length = 0 then [] else [q]) ++ [[]]) := by
  unfold textP pieces
  rw [piecesF_full ps q _ hp hq (Nat.le_refl _)]

def opt (q : List UInt8) : List (List UInt8) := if q.length = 0 then [] else [q]

/-- What framesText tells is the text whose file it is. -/
theorem txG_text (B : List UInt8) : ∀ (f p : Nat) (ps : List (List UInt8)) (q r : List UInt8), Full ps → q.length < 1000 → B = Fr.putP (ps ++ opt q) ++ B.drop p → txG B.length (ps.flatten ++ q) (decide (0 < q.length)) (frF B f p) = some r → textP r = B
  | 0, p, ps, q, r, _, _, _, h => by simp [frF, txG] at h
  | f + 1, p, ps, q, r, hp, hq, hB, h => by
    by_cases hz : (Fr.takeP B p).2.2 = 0
    · have hinv := take_inv hz
      have hnx := Fr.takeP_next hz
      rw [frF_yes hz] at h
      generalize hb : (Fr.takeP B p).1 = b at *
      generalize he : (Fr.takeP B p).2.1 = e at *
      rw [txG] at h
      by_cases h1 : b.length = 0 ∧ e = B.length
      · rw [if_pos h1] at h
        have hr : ps.flatten ++ q = r := Option.some.inj h
        have hb0 : b = [] := List.eq_nil_of_length_eq_zero h1.1
        rw [h1.2, List.drop_length, hb0, List.append_nil] at hinv
        rw [← hr, textP_full ps q hp (by omega)]
        rw [hinv] at hB
        show Fr.putP (ps ++ opt q ++ [[]]) = B
        rw [Fr.putP_append]
        rw [show Fr.putP [[]] = Fr.frameP [] by simp [Fr.putP]]
        exact hB.symm
      · rw [if_neg h1] at h
        by_cases h2 : b.length = 0 ∨ decide (0 < q.length) = true ∨ 1000 < b.length
        · rw [if_pos h2] at h
          cases h
        · rw [if_neg h2] at h
          have hq0 : q = [] := by
            cases hql : q with
            | nil => rfl
            | cons c l => exact absurd (.inr (.inl (by rw [hql]; simp))) h2
          subst hq0
          have ho : opt [] = [] := rfl
          rw [ho, List.append_nil] at hB
          rw [List.append_nil] at h
          have hB2 : B = Fr.putP (ps ++ [b]) ++ B.drop e := by
            rw [Fr.putP_append, show Fr.putP [b] = Fr.frameP b by simp [Fr.putP], List.append_assoc, ← hinv]
            exact hB
          by_cases h3 : b.length = 1000
          · have := txG_text B f e (ps ++ [b]) [] r (fun x hx => by
              rcases List.mem_append.1 hx with hx | hx
              · exact hp x hx
              · simp at hx; subst hx; exact h3) (by simp) (by rw [ho, List.append_nil]; exact hB2)
            refine this ?_
            rw [List.append_nil, List.flatten_append, List.flatten_cons, List.flatten_nil, List.append_nil]
            rw [← h, h3]
            rfl
          · have hbl : b.length < 1000 := by omega
            have hb0 : 0 < b.length := by omega
            have := txG_text B f e ps b r hp hbl (by
              rw [show opt b = [b] by unfold opt; rw [if_neg (by omega)]]
              exact hB2)
            refine this ?_
            rw [← h, decide_eq_true hb0, decide_eq_true hbl]
    · rw [frF_no hz] at h
      simp [txG] at h

theorem put_many : ∀ (L : List (List UInt8)), L.length ≤ (Fr.putP L).length
  | [] => by simp
  | b :: L => by
    have := put_many L
    rw [Fr.putP_cons, List.length_append, Fr.frameP_len, List.length_cons]
    omega

theorem txG_of (B : List UInt8) : ∀ (g : Nat) (s pre t : List UInt8) (last : Bool) (f : Nat), s.length ≤ g → B = pre ++ Fr.putP (piecesF g s ++ [[]]) → (piecesF g s).length < f → (0 < s.length → last = false) → txG B.length t last (frF B f pre.length) = some (t ++ s) := by
  intro g
  induction g with
  | zero =>
    intro s pre t last f hs hB hf hl
    have hs0 : s = [] := List.eq_nil_of_length_eq_zero (by omega)
    subst hs0
    obtain ⟨f', rfl⟩ : ∃ f', f = f' + 1 := ⟨f - 1, by omega⟩
    have hB2 : B = pre ++ (Fr.frameP [] ++ []) := by rw [hB]; simp [piecesF, Fr.putP]
    have ht := Fr.takeP_frame pre [] [] (by simp)
    rw [← hB2] at ht
    rw [frF_yes (by rw [ht]), ht, txG, if_pos, List.append_nil]
    refine ⟨rfl, ?_⟩
    rw [hB2, List.length_append, List.append_nil, Fr.frameP_len]
  | succ g ih =>
    intro s pre t last f hs hB hf hl
    obtain ⟨f', rfl⟩ : ∃ f', f = f' + 1 := ⟨f - 1, by omega⟩
    by_cases h0 : 0 < s.length
    · rw [piecesF_yes h0] at hB hf
      rw [List.cons_append, Fr.putP_cons] at hB
      have hx1 : (s.take 1000).length ≤ 1000 := by rw [List.length_take]; omega
      have hx0 : 0 < (s.take 1000).length := by rw [List.length_take]; omega
      have ht := Fr.takeP_frame pre (s.take 1000) (Fr.putP (piecesF g (s.drop 1000) ++ [[]])) (by omega)
      rw [← hB] at ht
      rw [frF_yes (by rw [ht]), ht]
      simp only
      rw [txG, if_neg (by omega), if_neg (fun hc => by
        rcases hc with hc | hc | hc
        · omega
        · rw [hl h0] at hc; cases hc
        · omega)]
      have hih := ih (s.drop 1000) (pre ++ Fr.frameP (s.take 1000)) (t ++ s.take 1000) (decide ((s.take 1000).length < 1000)) f' (by rw [List.length_drop]; omega) (by rw [List.append_assoc]; exact hB) (by rw [List.length_cons] at hf; omega) (fun hd => by
        rw [List.length_drop] at hd
        rw [List.length_take]
        exact decide_eq_false (by omega))
      rw [List.length_append, Fr.frameP_len] at hih
      rw [hih, List.append_assoc, List.take_append_drop]
    · have hs0 : s = [] := List.eq_nil_of_length_eq_zero (by omega)
      subst hs0
      have hB2 : B = pre ++ (Fr.frameP [] ++ []) := by rw [hB, piecesF_nil]; simp [Fr.putP]
      have ht := Fr.takeP_frame pre [] [] (by simp)
      rw [← hB2] at ht
      rw [frF_yes (by rw [ht]), ht, txG, if_pos, List.append_nil]
      refine ⟨rfl, ?_⟩
      rw [hB2, List.length_append, List.append_nil, Fr.frameP_len]

def toldG (B : List UInt8) : Option (List UInt8) := txG B.length [] false (frL B)

theorem toldG_iff (B s : List UInt8) : toldG B = some s ↔ textP s = B := by
  constructor
  · intro h
    refine txG_text B (B.length + 1) 0 [] [] s (fun q hq => by cases hq) (by simp) (by simp [opt, Fr.putP]) ?_
    exact h
  · intro h
    unfold toldG frL
    have hf : (piecesF s.length s).length < B.length + 1 := by
      have h1 := put_many (pieces s ++ [[]])
      have h2 : (Fr.putP (pieces s ++ [[]])).length = B.length := by rw [← h]; rfl
      rw [List.length_append] at h1
      have h3 : (piecesF s.length s).length = (pieces s).length := rfl
      simp at h1
      omega
    have := txG_of B s.length s [] [] false (B.length + 1) (Nat.le_refl _) (by rw [← h]; rfl) hf (fun _ => rfl)
    simpa using this

theorem toldP_iff (B s : List UInt8) : toldP B = some s ↔ (textP s = B ∧ s.length ≤ 65536) := by
  constructor
  · intro h
    unfold toldP at h
    split at h
    · rename_i hc
      have hx := Option.some.inj h
      rw [hx] at hc
      exact ⟨hc.2, hc.1⟩
    · cases h
  · rintro ⟨h1, h2⟩
    rw [← h1]
    exact told_text s h2

theorem text_len (s : List UInt8) : s.length ≤ (textP s).length := by
  unfold textP
  have h : ∀ L : List (List UInt8), L.flatten.length ≤ (Fr.putP L).length := by
    intro L
    induction L with
    | nil => simp
    | cons b L ih => rw [List.flatten_cons, List.length_append, Fr.putP_cons, List.length_append, Fr.frameP_len]; omega
  have h1 := h (pieces s ++ [[]])
  rw [List.flatten_append, pieces_flat] at h1
  simpa using h1

/-- What the program tells is what the document tells. -/
theorem told_eq (B : List UInt8) (h : B.length ≤ 65536) : toldG B = toldP B := by
  cases h1 : toldG B with
  | some s =>
    have h2 := (toldG_iff B s).1 h1
    have h3 := text_len s
    rw [h2] at h3
    exact ((toldP_iff B s).2 ⟨h2, by omega⟩).symm
  | none =>
    cases h2 : toldP B with
    | none => rfl
    | some s =>
      have h3 := ((toldP_iff B s).1 h2).1
      rw [(toldG_iff B s).2 h3] at h1
      cases h1
end Go.Proofs.YtijkgdbabikojaaGreat

