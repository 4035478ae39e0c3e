/- Texts of the seat, packed: If Qd Gp. -/
import Derived.Test.YtijkgdbabikojaaGreatP34
import Derived.Test.YtijkgdbabikojaaGreatP25
/- The walk over branch.Keep. -/
namespace Go.Proofs.YtijkgdbabikojaaGreat
open Go.RowKit Go.Shelf
open Dk (DS DK Okay Small WR Kp Wid cutP appendP syncP hasB hasB_true)
set_option maxRecDepth 1000000
set_option linter.unusedVariables false
attribute [local go_sem] Oper.semAt_some

/-- Whole numbers in a row of one's own. -/
def IntR (N : Nat) (W : World) (T : Nat → Prop) (v : Value) (L : List Int) : Prop := W.ownsRow N 3 1 v L.length (ivs L) ∧ ∀ g, v.ownBlock = some g → ¬ T g

theorem IntR.kept {N : Nat} {W W' : World} {T T' : Nat → Prop} {v : Value} {L : List Int} (h : IntR N W T v L) (hk : ∀ b, N ≤ b → b < W.heap.size → ¬ T b → W'.heap[b]? = W.heap[b]?) (hT : ∀ b, b < W.heap.size → ¬ T b → ¬ T' b) : IntR N W' T' v L := by
  obtain ⟨h2, h3⟩ := h
  refine ⟨⟨h2.1, ?_⟩, fun g hg => hT g (World.ownsRow.lt h2 g hg).2 (h3 g hg)⟩
  rcases h2.2 with hn | ⟨g, cap, cur, rfl, hb, hg, rest⟩
  · exact .inl hn
  · refine .inr ⟨g, cap, cur, rfl, hb, ?_, rest⟩
    rw [hk g hb (Array.getElem?_eq_some_iff.1 hg).1 (h3 g rfl)]
    exact hg

theorem IntR.own {N : Nat} {W W' : World} {T : Nat → Prop} {v : Value} {L : List Int} (h : IntR N W T v L) (hk : ∀ g, v.ownBlock = some g → W'.heap[g]? = W.heap[g]?) : IntR N W' T v L := by
  obtain ⟨h2, h3⟩ := h
  refine ⟨⟨h2.1, ?_⟩, h3⟩
  rcases h2.2 with hn | ⟨g, cap, cur, rfl, hb, hg, rest⟩
  · exact .inl hn
  · refine .inr ⟨g, cap, cur, rfl, hb, ?_, rest⟩
    rw [hk g rfl]
    exact hg

theorem IntR.mv {N : Nat} {W W' : World} {T T' : Nat → Prop} {v : Value} {L : List Int} (h : IntR N W T v L) (hm : Mv T W T' W') : IntR N W' T' v L :=
  h.kept (fun b _ b2 b3 => hm.same b b2 b3) (fun b b2 b3 => hm.no b2 b3)

theorem IntR.slice {N : Nat} {W : World} {T : Nat → Prop} {v : Value} {L : List Int} (h : IntR N W T v L) : ∃ a c, v = .slice a L.length c := by
  rcases h.1.2 with ⟨e, e2⟩ | ⟨g, cap, cur, e, _⟩
  · exact ⟨none, 0, by rw [e, e2]⟩
  · exact ⟨_, _, e⟩

theorem IntR.push {N : Nat} {W : World} {T : Nat → Prop} {v : Value} {L : List Int} (h : IntR N W T v L) (hL : L.length ≤ 1000000) (hN : N ≤ W.heap.size) (hT : ∀ b, T b → b < W.heap.size) (e : Int) (g : Nat) (hg : W.cell? (Addr.add ⟨g, 0, none⟩ 0) = some (.int .i64 e)) :
    ∃ v' W', (Builtin.append_ #[31, 31] 31 #[v, .slice (some ⟨g, 0, none⟩) 1 1]).run Tryz.prog W = .ok v' W' ∧ IntR N W' T v' (L ++ [e]) ∧ W.grownBy W' v.ownBlock ∧ (∀ r, v.ownBlock = some r → N ≤ r ∧ ¬ T r) ∧ (v'.ownBlock = v.ownBlock ∨ v'.ownBlock = some W.heap.size) ∧ ∃ a' c', v' = .slice a' (L ++ [e]).length c' := by
  obtain ⟨h2, h3⟩ := h
  obtain ⟨i0, hi, hz0, hz1, hz2⟩ := info_parts Tryz.info3
  obtain ⟨v', W', r1, r2, r3, r4, r5⟩ := run_append_own_at (P := Tryz.prog) W N 31 31 3 i0 (.int .i64 0) 1 8 Tryz.underlying31 hi hz0 hz1 hz2 rfl (by decide) v L.length (ivs L) h2 ⟨g, 0, none⟩ 1 1 [.int .i64 e] rfl (fun j u hj => by
    match j, hj with
    | 0, hj => simp at hj; subst hj; exact hg
    | j + 1, hj => simp at hj) (by intro u hu; simp at hu; subst hu; rfl) (by unfold maxLen; omega) (by omega) hN
  refine ⟨v', W', r1, ⟨?_, fun g' hg' => ?_⟩, r3, fun r hr => ⟨(World.ownsRow.lt h2 r hr).1, h3 r hr⟩, r5, ?_⟩
  · rw [show ivs (L ++ [e]) = ivs L ++ [.int .i64 e] by simp [ivs], List.length_append]
    exact r2
  · rcases r5 with r5 | r5
    · exact h3 g' (r5 ▸ hg')
    · rw [r5] at hg'
      cases hg'
      exact fun ht => by have := hT _ ht; omega
  · rw [List.length_append]
    rcases r2.2 with ⟨e1, e2⟩ | ⟨g', cap, cur, e1, _⟩
    · simp at e2
    · exact ⟨_, _, e1⟩

/-- The ends of the first k. -/
def endsK (xs : List (Ev × Nat)) (k : Nat) : List Int := 0 :: (xs.take k).map (fun x => (x.2 : Int))
theorem endsK_len {xs : List (Ev × Nat)} {k : Nat} (h : k ≤ xs.length) : (endsK xs k).length = k + 1 := by
  unfold endsK
  rw [List.length_cons, List.length_map, List.length_take]
  omega
theorem endsK_succ {xs : List (Ev × Nat)} {k : Nat} {x : Ev × Nat} (h : xs[k]? = some x) : endsK xs (k + 1) = endsK xs k ++ [(x.2 : Int)] := by
  unfold endsK
  rw [List.take_add_one, h]
  simp

/-- What Keep has when k events are told. -/
structure KeS (n0 : Nat) (w0 : World) (xs : List (Ev × Nat)) (k : Nat) (W : World) (T : Nat → Prop) : Prop where
  bl : ∃ v, Boxed W (n0 + 1) 31 v ∧ IntR n0 W T v (endsK xs k) ∧ v.ownBlock ≠ some (n0 + 1)
  t1 : ¬ T (n0 + 1)
  bel : Below n0 w0 W
  hT : ∀ b, b < n0 → ¬ T b
  le : n0 + 2 ≤ W.heap.size

theorem KeS.mv {n0 : Nat} {w0 : World} {xs : List (Ev × Nat)} {k : Nat} {A B : World} {T T' : Nat → Prop} (h : KeS n0 w0 xs k A T) (hm : Mv T A T' B) : KeS n0 w0 xs k B T' := by
  obtain ⟨v, h1, h2, h3⟩ := h.bl
  have hle := h.le
  exact ⟨⟨v, boxed_mv h1 hm h.t1, h2.mv hm, h3⟩, hm.no (by omega) h.t1, hm.below h.bel h.hT (by omega), fun b hb => hm.no (by omega) (h.hT b hb), Nat.le_trans hle hm.size⟩

/-- What Keep makes of a disk, by the events with their ends. -/
def keepW (n : Nat) (S : DS) (i q : Int) : Int × DS := if hasN n i = true ∧ 0 ≤ q ∧ q < ((endsK (whE n i (Dk.readP S i)) (whE n i (Dk.readP S i)).length).length : Int) then trimP S i ((endsK (whE n i (Dk.readP S i)) (whE n i (Dk.readP S i)).length).getD q.toNat 0) else (2, S)

set_option maxHeartbeats 8000000 in
theorem keep_any {T0 : Nat → Prop} {w : World} {p : Nat} {S : DS} {n : Nat} (h1 : DK T0 w p S) (ho : Okay S) (hs : Small 100000 10000000000 S) (hn : S.n = n) (i q : Int) :
    Calls Tryz.prog 26 #[.pointer (some ⟨p, 0, none⟩), .int .i64 i, .int .i64 q] w (WR T0 w p (keepW n S i q)) := by
  have hfew := ho.few
  have hpos := ho.pos
  rw [hn] at hfew hpos
  have HC := cnt_dk h1 ho
  rw [hn] at HC
  have HLV : Hid _ := h1.live
  have HM : Hid _ := made_br _ _ w HC hfew
  have hd0 : decide (0 < n) = true := decide_eq_true (by omega)
  rw [hd0] at HM
  have HHs : Hid (∀ wx, Below w.heap.size w wx → Calls Tryz.prog 38 #[.pointer (some ⟨p, 0, none⟩), .int .i64 i] wx fun e w' => e = .returned (.bool (hasN n i)) ∧ Below wx.heap.size wx w') := fun wx hb => has_br _ _ i wx (HC.later hb) hfew
  have HD : Hid (∀ wx, Below w.heap.size w wx → Dsk (some ⟨p, 0, none⟩) n i (Dk.readP S i) wx) := fun wx hb => dk_dsk (h1.later hb) ho hs hn i
  have HXL0 := whE_len n i (Dk.readP S i)
  have hrl : (Dk.readP S i).length ≤ 100000 := by
    unfold Dk.readP
    split
    · exact hs.len _
    · simp
  have HTr : Hid (∀ (wx : World) (z : Int), Below w.heap.size w wx → Calls Tryz.prog 46 #[.pointer (some ⟨p, 0, none⟩), .int .i64 i, .int .i64 z] wx (WR T0 wx p (trimP S i z))) := fun wx z hb => trim_any T0 wx p S i z (h1.later hb) ho (Dk.small_mono hs (by omega) (by omega))
  have HDK : Hid (∀ wx, Below w.heap.size w wx → DK T0 wx p S) := fun wx hb => h1.later hb
  obtain ⟨RES, HRES⟩ : ∃ R, Hid (keepW n S i q = R) := ⟨_, rfl⟩
  rw [HRES.out]
  unfold keepW at HRES
  have HIT : Hid (∀ w0, Below w.heap.size w w0 → _) := fun w0 hb => @whole_it (some ⟨p, 0, none⟩) n i (Dk.readP S i) w0 (HD.out w0 hb)
  generalize Dk.readP S i = B at *
  obtain ⟨xs, HX⟩ : ∃ xs, Hid (xs = whE n i B) := ⟨_, rfl⟩
  rw [← HX.out] at HIT HXL0 HRES
  have HXL : Hid (xs.length ≤ 100001) := by show _ ≤ _; omega
  clear HX hrl HXL0 HD HC h1 ho hs hn hd0 hpos
  refine (callsIn_wide (n := 0)).1 ?_
  refine callsIn_of_wp_marks Tryz.func26 rfl trivial ?_ rfl
  simp only [Tryz.ntmps26, List.size_toArray, List.length_cons, List.length_nil, Nat.reduceAdd, Nat.reduceSub, Array.replicate_succ, Array.replicate_zero, List.push_toArray, List.append_toArray, List.nil_append, List.cons_append]
  gi_wp2
  refine ⟨trivial, rfl, ?_⟩
  refine (callsIn_wide.2 HM.out).mono ?_
  rintro e w1 ⟨rfl, hb1⟩
  have HB1 : Hid _ := hb1
  clear hb1 HM
  gi_wp2_with (refine ⟨trivial, rfl, ?_⟩; refine (callsIn_wide.2 (whole_any _ _ _)).mono ?_; rintro e w' ⟨rfl, rfl⟩)
  have b0 : ((((w1.alloc (.cells #[.int .i64 0] 3)).alloc (.cells #[.slice (some ⟨w1.heap.size, 0, none⟩) 1 1] 31)).alloc (.cells #[.pointer (some ⟨p, 0, none⟩)] 25)).alloc (.cells #[.int .i64 i] 3)).heap[w1.heap.size]? = some (.cells #[.int .i64 0] 3 (0, 0)) := (((Boxed.new w1 3 (.int .i64 0)).alloc (.cells #[.slice (some ⟨w1.heap.size, 0, none⟩) 1 1] 31)).alloc (.cells #[.pointer (some ⟨p, 0, none⟩)] 25)).alloc (.cells #[.int .i64 i] 3)
  have b1 := ((Boxed.new (w1.alloc (.cells #[.int .i64 0] 3)) 31 (.slice (some ⟨w1.heap.size, 0, none⟩) 1 1)).alloc (.cells #[.pointer (some ⟨p, 0, none⟩)] 25)).alloc (.cells #[.int .i64 i] 3)
  have b2 := (Boxed.new ((w1.alloc (.cells #[.int .i64 0] 3)).alloc (.cells #[.slice (some ⟨w1.heap.size, 0, none⟩) 1 1] 31)) 25 (.pointer (some ⟨p, 0, none⟩))).alloc (.cells #[.int .i64 i] 3)
  have b3 := Boxed.new (((w1.alloc (.cells #[.int .i64 0] 3)).alloc (.cells #[.slice (some ⟨w1.heap.size, 0, none⟩) 1 1] 31)).alloc (.cells #[.pointer (some ⟨p, 0, none⟩)] 25)) 3 (.int .i64 i)
  simp only [World.size_alloc] at b1 b2 b3
  have hB0 : Below w1.heap.size w1 ((((w1.alloc (.cells #[.int .i64 0] 3)).alloc (.cells #[.slice (some ⟨w1.heap.size, 0, none⟩) 1 1] 31)).alloc (.cells #[.pointer (some ⟨p, 0, none⟩)] 25)).alloc (.cells #[.int .i64 i] 3)) := ((((Below.refl _ w1).alloc (Nat.le_refl _) _).alloc (by simp) _).alloc (by simp; omega) _).alloc (by simp; omega) _
  have hsz : ((((w1.alloc (.cells #[.int .i64 0] 3)).alloc (.cells #[.slice (some ⟨w1.heap.size, 0, none⟩) 1 1] 31)).alloc (.cells #[.pointer (some ⟨p, 0, none⟩)] 25)).alloc (.cells #[.int .i64 i] 3)).heap.size = w1.heap.size + 4 := by simp
  obtain ⟨W0, hW0⟩ : ∃ W0, (((w1.alloc (.cells #[.int .i64 0] 3)).alloc (.cells #[.slice (some ⟨w1.heap.size, 0, none⟩) 1 1] 31)).alloc (.cells #[.pointer (some ⟨p, 0, none⟩)] 25)).alloc (.cells #[.int .i64 i] 3) = W0 := ⟨_, rfl⟩
  rw [hW0] at b0 b1 b2 b3 hB0 hsz ⊢
  clear hW0
  have HSZ : Hid (W0.heap.size = w1.heap.size + 4) := hsz
  have hrow : IntR w1.heap.size W0 (fun b => b = w1.heap.size + 1 + 1 ∨ b = w1.heap.size + 1 + 1 + 1) (.slice (some ⟨w1.heap.size, 0, none⟩) 1 1) [0] :=
    ⟨⟨rfl, .inr ⟨w1.heap.size, 1, #[.int .i64 0], rfl, Nat.le_refl _, b0, Nat.le_refl _, by unfold maxLen; omega, rfl, rfl⟩⟩, fun g hg ht => by
      have : w1.heap.size = g := Option.some.inj hg
      omega⟩
  refine range_law (P := Tryz.prog) (gf := 81) (lb := #[.pointer (some ⟨w1.heap.size + 1 + 1, 0, none⟩), .pointer (some ⟨w1.heap.size + 1 + 1 + 1, 0, none⟩)]) rfl (enters_of Tryz.func81 (by kernel_rfl) rfl) (enc := encW) (xs := xs) (n0 := w1.heap.size) (T := fun b => b = w1.heap.size + 1 + 1 ∨ b = w1.heap.size + 1 + 1 + 1)
    (HIT.out w1 HB1.out _ _ _ W0 hB0 b2 b3 (.inl rfl) (.inr rfl) (fun b hb => by omega)) (fun b hb => by omega) (by omega)
    (fun x F W T args h => by obtain ⟨_, _, rfl, _⟩ := h; rfl)
    (fun k W T => Hid (KeS w1.heap.size w1 xs k W T)) (fun c k W T => False)
    (fun k A TA B TB h hm => h.out.mv hm) (fun c k A TA B TB h _ => h.elim)
    ⟨⟨_, b1, hrow, by intro e; have : w1.heap.size = w1.heap.size + 1 := Option.some.inj e; omega⟩, by omega, hB0, fun b hb => by omega, by omega⟩ ?round ?done (fun c k W T2 _ h => h.elim)
  case round =>
    rintro m l k x args F W T1 TB hxk ⟨sa, sc, rfl, _, _, _⟩ _ HI hTB hup hnc hlt
    have hk := (List.getElem?_eq_some_iff.1 hxk).1
    have HEK : Hid _ := endsK_succ hxk
    obtain ⟨⟨ek, ei, et, es⟩, en⟩ := x
    simp only at HEK
    unfold EvV
    simp only
    have HHI : Hid _ := HI.out
    clear hnc hTB
    gi_wp2
    refine ⟨Rv.of_below (Below.refl _ _) (by have := HHI.out.le; omega), fun W2 HI2 hbz => ?_⟩
    obtain ⟨v, g1, g2, g3⟩ := HI2.out.bl
    obtain ⟨va0, vc0, hv0⟩ := g2.slice
    subst hv0
    have hle2 := HI2.out.le
    have HEL : Hid ((endsK xs k).length = k + 1) := endsK_len (xs := xs) (k := k) (Nat.le_of_lt hk)
    have hup2 : ∀ b, TB b → b < W2.heap.size := fun b hb => by have := hup b hb; have := hbz.size; omega
    have hB3 : Below W2.heap.size W2 (W2.alloc (.cells #[.int .i64 (en : Nat)] 3)) := (Below.refl _ _).alloc (Nat.le_refl _) _
    have g23 := g2.mv (Mv.of_below hB3)
    obtain ⟨v', W4, hrun, hl4, hgr, hown, hnew, a', c', hv'⟩ := g23.push (by rw [HEL.out]; have := HXL.out; omega) (by simp; omega) (fun b hb => by have := hup2 b hb; simp; omega) (en : Nat) W2.heap.size (by rw [add0, cell_of_row _ _ _ _ 3 (0, 0) (World.alloc_heap_new W2 _)]; rfl)
    obtain ⟨ln, HLN⟩ : ∃ ln, Hid ((endsK xs k ++ [((en : Nat) : Int)]).length = ln) := ⟨_, rfl⟩
    rw [HLN.out] at hv'
    subst hv'
    have cl := g1.cell
    have b04 : Boxed W4 (w1.heap.size + 1) 31 (.slice va0 (endsK xs k).length vc0) := (hgr.block _ (g1.alloc (.cells #[.int .i64 (en : Nat)] 3)).lt (fun e => g3 e.symm)).trans (g1.alloc _)
    have c04 := b04.cell
    have f04 := b04.frozen
    have HB04 : Hid _ := b04
    have HL4 : Hid _ := hl4
    have HS2 : Hid _ := HI2.out
    have HRV : Hid (Rv w1.heap.size TB W2 W4) := (Rv.of_below hB3 (by omega)).trans (Rv.grown hgr (fun r hr => hown r hr) (by simp; omega))
    have HNW : Hid ((Value.slice a' ln c').ownBlock ≠ some (w1.heap.size + 1)) := by
      show _ ≠ _
      rcases hnew with e | e
      · rw [e]; exact g3
      · rw [e]
        intro e9
        have := Option.some.inj e9
        simp at this
        omega
    have HRUN : Hid _ := hrun
    clear b04 g1 g2 g23 hl4 hgr hown hnew hB3 HI2 hrun g3
    gi_wp2_with (gi_at_builtin; refine wpListIn_append_run rfl _ _ 31 rfl rfl rfl HRUN.out ?_)
    have hl9 : IntR w1.heap.size (W4.setCell ⟨w1.heap.size + 1, 0, none⟩ (.slice a' ln c')) TB (.slice a' ln c') (endsK xs k ++ [((en : Nat) : Int)]) := IntR.own HL4.out (fun b hb => Below.heap_setCell _ _ _ _ (fun e => HNW.out (by rw [hb, e])))
    rw [← HEK.out] at hl9
    refine ⟨⟨⟨_, Boxed.set _ HB04.out, hl9, HNW.out⟩, HS2.out.t1, ?_, HS2.out.hT, ?_⟩, ?_⟩
    · have hq : Below w1.heap.size w1 W4 := HS2.out.bel.trans HRV.out.below
      exact hq.setCell (p := ⟨w1.heap.size + 1, 0, none⟩) (by show _ ≤ w1.heap.size + 1; omega) _
    · have := HRV.out.size
      simp
      omega
    · exact HRV.out.trans (Rv.setCell _ _ (by omega) HS2.out.t1)
  case done =>
    rintro W T2 HI hold hup hdef hts
    have h2 := HI.out
    obtain ⟨v, g1, g2, g3⟩ := h2.bl
    have HLE : Hid ((endsK xs xs.length).length = xs.length + 1) := endsK_len (xs := xs) (k := xs.length) (Nat.le_refl _)
    have hri : RI W v (endsK xs xs.length) := RI.of_owns g2.1 rfl
    obtain ⟨va0, vc0, hv0⟩ := g2.slice
    subst hv0
    rw [HSZ.out] at hdef hts ⊢
    have HB0 : Hid _ := g1
    have HRI : Hid _ := hri
    have HBL : Hid (Below w.heap.size w W) := HB1.out.trans (h2.bel.mono HB1.out.size)
    have HDF : Hid _ := hdef
    have HSW : Hid (w1.heap.size + 4 < W.heap.size ∧ w.heap.size ≤ w1.heap.size) := ⟨(Array.getElem?_eq_some_iff.1 hdef).1, HB1.out.size⟩
    have K1 : Hid _ := HHs.out W HBL.out
    clear g1 g2 g3 hri h2 hdef hts hold hup hsz HI
    gi_wp2
    refine ⟨trivial, rfl, (callsIn_wide.2 K1.out).mono ?_⟩
    rintro e w3 ⟨rfl, hb3⟩
    have HB3 : Hid (Below W.heap.size W w3) := hb3
    have HDF3 : Hid (w3.heap[w1.heap.size + 4]? = some (.deferred (some []))) := (hb3.block _ HSW.out.1).trans HDF.out
    have bx3 : Boxed w3 (w1.heap.size + 1) 31 (.slice va0 (endsK xs xs.length).length vc0) := (hb3.block _ (Boxed.lt HB0.out)).trans HB0.out
    have c3 := bx3.cell
    have HRI3 : Hid _ := RI.later HRI.out hb3
    have KEnd : Hid (∀ wx, Below W.heap.size W wx → WR T0 w p (2, S) (.returned (.int .i64 2)) (wx.putObj (w1.heap.size + 4) (.deferred none))) := fun wx hb => by
      have hbw : Below w.heap.size w wx := HBL.out.trans (hb.mono HBL.out.size)
      have hsw := HSW.out
      have hq : Below w.heap.size w (wx.putObj (w1.heap.size + 4) (.deferred none)) := ⟨hbw.os, hbw.tape, hbw.output, by rw [World.size_putObj']; exact hbw.size, fun k hk => (World.putObj_heap_other (by omega)).trans (hbw.block k hk)⟩
      exact WR.none (HDK.out w (Below.refl _ _)) hq
    clear hb3 K1 HB0 HDF HRI bx3
    obtain ⟨ln, HLN⟩ : ∃ ln, Hid ((endsK xs xs.length).length = ln) := ⟨_, rfl⟩
    rw [HLN.out] at c3 HRI3 HRES
    have hlnl : ln ≤ 100002 := by rw [← HLN.out, HLE.out]; have := HXL.out; omega
    cases hh : hasN n i with
    | false =>
      rw [if_neg (fun h => by rw [hh] at h; cases h.1)] at HRES
      clear hh
      gi_wp2
      refine ⟨by simp, .inl ⟨_, _, rfl, run_takeDeferred (w := w3) HDF3.out, ?_⟩⟩
      refine ⟨.int .i64 2, by simp [results, Tryz.f26, go_sem], ?_⟩
      rw [← HRES.out]
      exact KEnd.out w3 HB3.out
    | true =>
      by_cases q0 : q < 0
      · rw [if_neg (fun h => by omega)] at HRES
        gi_wp2
        refine ⟨by simp, .inl ⟨_, _, rfl, run_takeDeferred (w := w3) HDF3.out, ?_⟩⟩
        refine ⟨.int .i64 2, by simp [results, Tryz.f26, go_sem], ?_⟩
        rw [← HRES.out]
        exact KEnd.out w3 HB3.out
      by_cases q1 : (ln : Int) ≤ q
      · rw [if_neg (fun h => by omega)] at HRES
        gi_wp2
        refine ⟨by simp, .inl ⟨_, _, rfl, run_takeDeferred (w := w3) HDF3.out, ?_⟩⟩
        refine ⟨.int .i64 2, by simp [results, Tryz.f26, go_sem], ?_⟩
        rw [← HRES.out]
        exact KEnd.out w3 HB3.out
      rw [if_pos ⟨hh, by omega, by omega⟩] at HRES
      obtain ⟨z, rfl⟩ : ∃ z : Nat, q = (z : Int) := ⟨q.toNat, by omega⟩
      rw [Int.toNat_natCast] at HRES
      obtain ⟨a9, c9, e9, hc9, _, hcell9⟩ := HRI3.out
      simp only [Value.slice.injEq] at e9
      obtain ⟨rfl, _, rfl⟩ := e9
      obtain ⟨b9, off9, rfl, cz⟩ := hcell9 z (by first | omega | (rw [HLN.out]; omega))
      generalize (endsK xs xs.length).getD z 0 = E at *
      have K2 : Hid _ := HTr.out w3 E (HBL.out.trans (HB3.out.mono HBL.out.size))
      rw [HRES.out] at K2
      clear hcell9 hc9 hh
      gi_wp2
      refine ⟨trivial, rfl, (callsIn_wide.2 K2.out).mono ?_⟩
      rintro e w4 ⟨rfl, r2, r3⟩
      have HDF4 : Hid (w4.heap[w1.heap.size + 4]? = some (.deferred (some []))) := by
        show _ = _
        have hsw := HSW.out
        have hsz3 := HB3.out.size
        rw [r3.block _ (by omega) (fun ht => by have := HLV.out _ ht; omega)]
        exact HDF3.out
      have HR2 : Hid _ := r2
      have HR3 : Hid _ := r3
      clear r2 r3 K2
      gi_wp2
      refine ⟨by simp, .inl ⟨_, _, rfl, run_takeDeferred (w := w4) HDF4.out, ?_⟩⟩
      refine ⟨.int .i64 RES.1, by simp [results, Tryz.f26, go_sem], rfl, ?_, ?_⟩
      · have hsw := HSW.out
        have hsz3 := HB3.out.size
        have hsz4 := HR3.out.size
        have hbw := HBL.out.size
        have hk : Kp (fun b => b = w1.heap.size + 4) w4 (w4.putObj (w1.heap.size + 4) (.deferred none)) := ⟨rfl, rfl, rfl, by rw [World.size_putObj']; exact Nat.le_refl _, fun b hb hn => World.putObj_heap_other hn⟩
        refine DK.wide (Dk.DK.kept HR2.out hk (fun b hb e => ?_)) (fun b hb => ?_) (fun b hb => ?_)
        · rcases hb with hb | hb
          · have := HLV.out _ hb; omega
          · omega
        · rcases hb with hb | hb
          · exact .inl hb
          · exact .inr ⟨by omega, by rw [World.size_putObj']; exact hb.2⟩
        · rw [World.size_putObj']
          rcases hb with hb | hb
          · have := HLV.out _ hb; omega
          · have h9 := hb.2
            rw [World.size_putObj'] at h9
            exact h9
      · have h1 : Kp T0 w w3 := Kp.of_below T0 (HBL.out.trans (HB3.out.mono HBL.out.size))
        have h2 : Kp T0 w w4 := h1.trans HR3.out (fun x hx _ => hx)
        have hsw := HSW.out
        exact h2.trans (T' := fun b => b = w1.heap.size + 4) ⟨rfl, rfl, rfl, by rw [World.size_putObj']; exact Nat.le_refl _, fun b hb hn => World.putObj_heap_other hn⟩ (fun x hx hl => by omega)

theorem endL_cons (y : Ev) (L : List Ev) (j : Nat) : endL (y :: L) (j + 1) = (encE y).length + 6 + endL L j := by
  unfold endL
  rw [List.take_succ_cons, List.map_cons, Fr.putP_cons, List.length_append, Fr.frameP_len]

theorem wh_ends (B : List UInt8) (n : Nat) (i : Int) : ∀ (f p k j : Nat) (x : Ev × Nat), (whW n i k (frF B f p))[j]? = some x → x.2 = p + endL ((whW n i k (frF B f p)).map Prod.fst) (j + 1)
  | 0, p, k, j, x, h => by simp [frF, whW] at h
  | f + 1, p, k, j, x, h => by
    by_cases hz : (Fr.takeP B p).2.2 = 0
    · have hn := Fr.takeP_next hz
      have ih := wh_ends B n i f (Fr.takeP B p).2.1 (k + 1)
      rw [frF_yes hz, whW] at h ⊢
      cases hrd : rd (Fr.takeP B p).1 with
      | none => rw [hrd] at h; simp at h
      | some y =>
        rw [hrd] at h
        simp only at h ⊢
        by_cases hc : y.s.length = n ∧ atZ y.s i = ((k + 1 : Nat) : Int)
        · rw [if_pos hc] at h ⊢
          have hen := (rd_some hrd).2
          cases j with
          | zero =>
            simp at h
            subst h
            rw [List.map_cons, endL_cons]
            simp only [endL, List.take_zero, List.map_nil, Fr.putP, List.flatMap_nil, List.length_nil]
            rw [← hen] at hn
            omega
          | succ j =>
            rw [List.getElem?_cons_succ] at h
            have h1 := ih j x h
            rw [List.map_cons, endL_cons]
            rw [h1]
            rw [← hen] at hn
            simp only
            omega
        · rw [if_neg hc] at h
          simp at h
    · rw [frF_no hz] at h
      simp [whW] at h

/-- What Keep makes of a disk, by what Load tells. -/
theorem keepW_eq (S : DS) (i q : Int) : keepW S.n S i q = keepP S i q := by
  unfold keepW keepP
  cases hh : hasN S.n i with
  | false => rw [if_neg (fun h => by cases h.1), if_neg (fun h => by cases h.1)]
  | true =>
    have h1 : rldP S i = loadL (S.n - 1) i (Dk.readP S i) := by unfold rldP; rw [if_pos hh]
    obtain ⟨w1, w2⟩ := wh_load S.n i (Dk.readP S i) hh
    rw [← h1] at w1
    have hl : (whE S.n i (Dk.readP S i)).length = (rldP S i).1.length := by rw [← w1, evK_len (Nat.le_refl _)]
    have hm : (whE S.n i (Dk.readP S i)).map Prod.fst = (rldP S i).1 := by rw [← w1]; unfold evK; rw [List.take_length]
    rw [endsK_len (Nat.le_refl _), hl]
    by_cases hc : 0 ≤ q ∧ q < (((rldP S i).1.length + 1 : Nat) : Int)
    · rw [if_pos ⟨rfl, hc⟩, if_pos ⟨rfl, by omega, by omega⟩]
      congr 1
      obtain ⟨z, rfl⟩ : ∃ z : Nat, q = (z : Int) := ⟨q.toNat, by omega⟩
      rw [Int.toNat_natCast]
      unfold endsK
      cases z with
      | zero => simp [endL, Fr.putP]
      | succ z =>
        rw [List.getD_cons_succ, ← hl, List.take_length]
        have hx : z < (whE S.n i (Dk.readP S i)).length := by rw [hl]; omega
        rw [List.getD_eq_getElem?_getD, List.getElem?_map, List.getElem?_eq_getElem hx]
        have h9 := wh_ends (Dk.readP S i) (S.n - 1) i ((Dk.readP S i).length + 1) 0 0 z ((whE S.n i (Dk.readP S i))[z]) (by
          have : whW (S.n - 1) i 0 (frF (Dk.readP S i) ((Dk.readP S i).length + 1) 0) = whE S.n i (Dk.readP S i) := by unfold whE frL; rw [if_pos hh]
          rw [this, List.getElem?_eq_getElem hx])
        have h8 : whW (S.n - 1) i 0 (frF (Dk.readP S i) ((Dk.readP S i).length + 1) 0) = whE S.n i (Dk.readP S i) := by unfold whE frL; rw [if_pos hh]
        rw [h8, hm, Nat.zero_add] at h9
        simp [h9]
    · rw [if_neg (fun h => hc h.2), if_neg (fun h => hc ⟨h.2.1, by omega⟩)]
end Go.Proofs.YtijkgdbabikojaaGreat

/- Plain: branch's calls that go well; the laws' example. -/
namespace Go.Proofs.YtijkgdbabikojaaGreat
open Dk (DS Okay Small cutP appendP syncP hasB hasB_true Fl)
set_option linter.unusedVariables false

/-- A disk of three files that runs, with no fuse. -/
structure Run (S : DS) : Prop where
  n : S.n = 3
  down : S.down = false
  fuse : S.fuse = -1

theorem hasB3 {S : DS} (h : S.n = 3) {i : Nat} (hi : i < 3) : hasB S (i : Int) = true := by unfold Dk.hasB; simp; omega

/-- A call that turns a file goes well. -/
theorem write_yes {S : DS} (h : Run S) (i : Nat) (hi : i < 3) (how : Fl → Fl) : (Dk.writeP S i 0 how).1 = 0 ∧ Run (Dk.writeP S i 0 how).2 ∧ (Dk.writeP S i 0 how).2.room = S.room + (S.fs i).b.length - (how (S.fs i)).b.length ∧ (Dk.writeP S i 0 how).2.fs i = how (S.fs i) ∧ ∀ j, j ≠ i → (Dk.writeP S i 0 how).2.fs j = S.fs j := by
  have e : Dk.writeP S i 0 how = (0, Dk.turnP { S with fuse := Dk.burnF S.fuse } i (how (S.fs i))) := by
    unfold Dk.writeP
    rw [if_neg (by rw [h.down]; decide), if_neg (by rw [hasB3 h.n hi]; decide), if_neg (by simp), if_neg (by rw [h.fuse]; decide)]
    rfl
  rw [e]
  refine ⟨rfl, ⟨h.n, h.down, ?_⟩, rfl, Dk.putF_same _ _ _, fun j hj => Dk.putF_other _ _ _ _ hj⟩
  show Dk.burnF S.fuse = -1
  rw [h.fuse]
  rfl

theorem append_yes {S : DS} (h : Run S) (i : Nat) (hi : i < 3) (l : List UInt8) (hl : l.length ≤ S.room) : (appendP S i l).1 = 0 ∧ Run (appendP S i l).2 ∧ (appendP S i l).2.room = S.room - l.length ∧ (appendP S i l).2.fs i = ⟨(S.fs i).b ++ l, (S.fs i).s⟩ ∧ ∀ j, j ≠ i → (appendP S i l).2.fs j = S.fs j := by
  have hf : Dk.fitsP S l.length = 0 := by unfold Dk.fitsP; rw [if_pos hl]
  unfold Dk.appendP
  rw [hf]
  obtain ⟨q1, q2, q3, q4, q5⟩ := write_yes h i hi (Dk.withP l)
  refine ⟨q1, q2, ?_, q4, q5⟩
  rw [q3]
  show S.room + (S.fs i).b.length - ((S.fs i).b ++ l).length = _
  rw [List.length_append]
  omega

theorem sync_yes {S : DS} (h : Run S) (i : Nat) (hi : i < 3) : (syncP S i).1 = 0 ∧ Run (syncP S i).2 ∧ (syncP S i).2.room = S.room ∧ (syncP S i).2.fs i = ⟨(S.fs i).b, (S.fs i).b.length⟩ ∧ ∀ j, j ≠ i → (syncP S i).2.fs j = S.fs j := by
  unfold Dk.syncP
  obtain ⟨q1, q2, q3, q4, q5⟩ := write_yes h i hi (fun f => Dk.firstP f.b.length f)
  refine ⟨q1, q2, ?_, ?_, q5⟩
  · rw [q3]
    show S.room + (S.fs i).b.length - ((S.fs i).b.take _).length = _
    rw [List.take_length]
    omega
  · rw [q4]
    show (⟨(S.fs i).b.take _, _⟩ : Fl) = _
    rw [List.take_length]

theorem cut_yes {S : DS} (h : Run S) (i : Nat) (hi : i < 3) (n : Nat) (hn : n ≤ (S.fs i).b.length) : (cutP S i n).1 = 0 ∧ Run (cutP S i n).2 ∧ (cutP S i n).2.fs i = ⟨(S.fs i).b.take n, n⟩ ∧ ∀ j, j ≠ i → (cutP S i n).2.fs j = S.fs j := by
  have hr : Dk.reachP S i n = 0 := by unfold Dk.reachP; rw [if_pos (by simp; omega)]
  unfold Dk.cutP
  rw [hr]
  obtain ⟨q1, q2, q3, q4, q5⟩ := write_yes h i hi (Dk.firstP (n : Int).toNat)
  exact ⟨q1, q2, q4, q5⟩

theorem app_yes {S : DS} (h : Run S) (i : Nat) (hi : i < 2) (e : Ev) (ho : okE e = true) (hl : e.s.length = 2) (hr : (encE e).length + 6 ≤ S.room) : (appP S i e).1 = 0 ∧ Run (appP S i e).2 ∧ (appP S i e).2.room = S.room - ((encE e).length + 6) ∧ (appP S i e).2.fs i = ⟨(S.fs i).b ++ Fr.frameP (encE e), (S.fs i).s⟩ ∧ ∀ j, j ≠ i → (appP S i e).2.fs j = S.fs j := by
  have hh : hasN S.n i = true := decide_eq_true (by rw [h.n]; omega)
  unfold appP
  rw [if_pos ⟨hh, ho, by rw [hl, h.n]⟩]
  have := append_yes h i (by omega) (Fr.frameP (encE e)) (by rw [Fr.frameP_len]; exact hr)
  rw [Fr.frameP_len] at this
  exact this

theorem app_no {S : DS} {i : Int} {e : Ev} (h : ¬ (hasN S.n i = true ∧ okE e = true ∧ e.s.length = S.n - 1)) : appP S i e = (2, S) := by unfold appP; rw [if_neg h]

theorem readP3 {S : DS} (h : S.n = 3) {i : Nat} (hi : i < 3) : Dk.readP S (i : Int) = (S.fs i).b := by
  unfold Dk.readP
  rw [if_pos (hasB3 h hi)]
  rfl

theorem toldG_nil : toldG [] = none := by
  unfold toldG frL
  rw [frF_no (by rw [Fr.takeP_end _ _ (by simp)]; decide)]
  rfl

theorem begin_yes {S : DS} (h : Run S) (s : List UInt8) (hs : s.length ≤ 65536) (h0 : (S.fs 2).b = []) (hr : (textP s).length ≤ S.room) : (beginP S s).1 = 0 ∧ Run (beginP S s).2 ∧ (beginP S s).2.fs 2 = ⟨textP s, (textP s).length⟩ ∧ ∀ j, j ≠ 2 → (beginP S s).2.fs j = S.fs j := by
  have hl : lastB S = [] := by unfold lastB; rw [h.n]; exact h0
  have ht : trimP S 2 0 = (0, S) := by
    unfold trimP
    have := readP3 h.n (i := 2) (by omega)
    rw [show ((2 : Nat) : Int) = 2 from rfl] at this
    rw [if_pos (by rw [this, h0]; rfl)]
  obtain ⟨a1, a2, a3, a4, a5⟩ := append_yes h 2 (by omega) (textP s) hr
  obtain ⟨b1, b2, b3, b4, b5⟩ := sync_yes a2 2 (by omega)
  have e : beginP S s = syncP (appendP S 2 (textP s)).2 2 := by
    unfold beginP
    rw [if_neg (by omega), hl, toldG_nil, if_neg (by decide), h.n]
    show replP S 2 (textP s) = _
    unfold replP
    rw [ht]
    simp only
    rw [if_neg (by simp), if_neg (by simpa using a1)]
  rw [e]
  refine ⟨b1, b2, ?_, fun j hj => (b5 j hj).trans (a5 j hj)⟩
  rw [show ((2 : Nat) : Int) = 2 from rfl] at b4 a4
  rw [b4, a4, h0]
  simp

theorem run_new (room : Nat) : Run (Dk.newP 3 room) := ⟨rfl, rfl, rfl⟩

def x1 : Ev := ⟨1, 1, 0, [1, 0]⟩
def x2 : Ev := ⟨2, 1, 0, [2, 0]⟩
def x3 : Ev := ⟨2, 1, 0, [9, 0]⟩
def x4 : Ev := ⟨2, 1, 0, [1]⟩
def y0 : DS := Dk.newP 3 500
def y1 : DS := (appP y0 0 x1).2
def y2 : DS := (appP y1 0 x2).2
def y3 : DS := (appP y2 0 x3).2
def textW : List UInt8 := [116, 101, 120, 116]
def y4 : DS := (beginP y3 textW).2

theorem x_ok : okE x1 = true ∧ okE x2 = true ∧ okE x3 = true := by decide

theorem lives_plain : (appP y0 0 x1).1 = 0 ∧ (appP y1 0 x2).1 = 0 ∧ (appP y2 0 x3).1 = 0 ∧ appP y3 0 x4 = (2, y3) ∧ (whE 3 0 (Dk.readP y3 0)).length = 2 ∧ 0 < endK (whE 3 0 (Dk.readP y3 0)) 2 ∧ toldG (lastB y3) = none ∧ (beginP y3 textW).1 = 0 ∧ toldG (lastB y4) = some textW := by
  obtain ⟨o1, o2, o3⟩ := x_ok
  have l1 := enc_short o1
  have l2 := enc_short o2
  have l3 := enc_short o3
  have e1 : x1.s.length = 2 := rfl
  have e2 : x2.s.length = 2 := rfl
  have e3 : x3.s.length = 2 := rfl
  rw [e1] at l1
  rw [e2] at l2
  rw [e3] at l3
  obtain ⟨a1, a2, a3, a4, a5⟩ := app_yes (run_new 500) 0 (by omega) x1 o1 rfl (by show _ ≤ 500; omega)
  have r1 : y1.room = 500 - ((encE x1).length + 6) := a3
  obtain ⟨b1, b2, b3, b4, b5⟩ := app_yes (S := y1) a2 0 (by omega) x2 o2 rfl (by omega)
  have r2 : y2.room = y1.room - ((encE x2).length + 6) := b3
  obtain ⟨c1, c2, c3, c4, c5⟩ := app_yes (S := y2) b2 0 (by omega) x3 o3 rfl (by omega)
  have r3 : y3.room = y2.room - ((encE x3).length + 6) := c3
  have f0 : (y3.fs 0).b = Fr.putP ([x1, x2, x3].map encE) := by
    have h3 : (y3.fs 0).b = (y2.fs 0).b ++ Fr.frameP (encE x3) := by rw [show y3.fs 0 = _ from c4]
    have h2 : (y2.fs 0).b = (y1.fs 0).b ++ Fr.frameP (encE x2) := by rw [show y2.fs 0 = _ from b4]
    have h1 : (y1.fs 0).b = Fr.frameP (encE x1) := by rw [show y1.fs 0 = _ from a4]; rfl
    rw [h3, h2, h1]
    simp [Fr.putP]
  have f2 : (y3.fs 2).b = [] := by
    rw [show y3.fs 2 = y2.fs 2 from c5 2 (by omega), show y2.fs 2 = y1.fs 2 from b5 2 (by omega), show y1.fs 2 = y0.fs 2 from a5 2 (by omega)]
    rfl
  have hrd : Dk.readP y3 0 = Fr.putP ([x1, x2, x3].map encE) := by
    have := readP3 c2.n (i := 0) (by omega)
    rw [← f0]
    exact this
  have hh : hasN 3 0 = true := by decide
  obtain ⟨w1, w2⟩ := wh_load 3 0 (Dk.readP y3 0) hh
  have hlog : loadL 2 0 (Dk.readP y3 0) = ([x1, x2], (encE x1).length + 6 + ((encE x2).length + 6 + 0)) := by
    unfold loadL
    rw [hrd, Fr.all_put _ (fun b hb => by
      simp only [List.map_cons, List.map_nil, List.mem_cons, List.not_mem_nil, or_false] at hb
      rcases hb with rfl | rfl | rfl
      · exact enc_frame o1
      · exact enc_frame o2
      · exact enc_frame o3)]
    simp only [List.map_cons, List.map_nil]
    rw [logW, rd_enc o1]
    simp only
    rw [if_pos (by decide), logW, rd_enc o2]
    simp only
    rw [if_pos (by decide), logW, rd_enc o3]
    simp only
    rw [if_neg (by decide)]
  have hlen : (whE 3 0 (Dk.readP y3 0)).length = 2 := by
    have := congrArg List.length w1
    rw [evK_len (Nat.le_refl _), show (3 - 1 : Nat) = 2 from rfl, hlog] at this
    exact this
  have htx : (textP textW).length ≤ 100 := by decide +kernel
  obtain ⟨d1, d2, d3, d4⟩ := begin_yes (S := y3) c2 textW (by decide) f2 (by omega)
  refine ⟨a1, b1, c1, app_no (fun h => absurd h.2.2 (by rw [show y3.n = 3 from c2.n]; decide)), hlen, ?_, ?_, d1, ?_⟩
  · rw [hlen] at w2
    rw [w2, show (3 - 1 : Nat) = 2 from rfl, hlog]
    show 0 < (encE x1).length + 6 + _
    omega
  · rw [show lastB y3 = [] by unfold lastB; rw [show y3.n = 3 from c2.n]; exact f2, toldG_nil]
  · rw [show lastB y4 = textP textW by unfold lastB; rw [show y4.n = 3 from d2.n]; show (y4.fs 2).b = _; rw [show y4.fs 2 = _ from d3]]
    exact (toldG_iff _ _).2 rfl
end Go.Proofs.YtijkgdbabikojaaGreat

/- The laws' lives. -/
namespace Go.Proofs.YtijkgdbabikojaaGreat
open Go.RowKit
open Dk (DS DK Okay Small)
set_option maxRecDepth 1000000
set_option linter.unusedVariables false

theorem RI.new (w : World) (l : List Int) (cs : Array Value) (hcs : cs.toList = l.map (fun x => Value.int .i64 x)) (hl : l.length ≤ 1000000) : RI (w.alloc (.cells cs 3)) (.slice (some ⟨w.heap.size, 0, none⟩) l.length l.length) l := by
  refine ⟨_, l.length, rfl, Nat.le_refl _, by unfold maxLen; omega, fun i hi => ⟨_, _, rfl, ?_⟩⟩
  rw [cell_of_row _ _ _ cs 3 (0, 0) (World.alloc_heap_new w _), ← Array.getElem?_toList, hcs, Nat.zero_add]
  simp [List.getD_eq_getElem?_getD, hi]

theorem l_append2 {B : Nat} {wp : World} {p : Nat} {S : DS} (h : Lw B wp p S) (i : Int) (ev : Ev) (cs : Array Value) (hcs : cs.toList = ev.s.map (fun x => Value.int .i64 x)) (hl : ev.s.length ≤ 1000000) :
    Calls Tryz.prog 9 #[.pointer (some ⟨p, 0, none⟩), .int .i64 i, EvV ev (.slice (some ⟨wp.heap.size, 0, none⟩) ev.s.length ev.s.length)] (wp.alloc (.cells cs 3)) fun e w' => e = .returned (.int .i64 (appP S i ev).1) ∧ Lw B w' p (appP S i ev).2 ∧ Below B wp w' := by
  have hb : Below wp.heap.size wp (wp.alloc (.cells cs 3)) := (Below.refl _ _).alloc (Nat.le_refl _) _
  exact Calls.mono (l_append (h.later hb) i ev _ _ (RI.new wp ev.s cs hcs hl) hl) (fun e w' hw => ⟨hw.1, hw.2.1, (hb.mono h.hB).trans hw.2.2⟩)

theorem run_tV {o : Option (List UInt8)} {l : List UInt8} (h : o = some l) : tV o = .string ⟨l.toArray⟩ ∧ tE o = 0 := by subst h; exact ⟨rfl, rfl⟩

set_option maxHeartbeats 4000000 in
theorem lives_any (w : World) : Calls Tryz.prog 5 #[] w fun e w' => e = .returned (.bool true) ∧ Below w.heap.size w w' := by
  obtain ⟨k1, k2, k3, k4, k5, k6, k7, k8, k9⟩ := lives_plain
  have HN : Hid _ := begun_any 500 w (by omega)
  have H1 : Hid (∀ p wp, Lw w.heap.size wp p y0 → Calls Tryz.prog 9 #[.pointer (some ⟨p, 0, none⟩), .int .i64 0, .agg #[.int .i64 1, .int .i64 1, .int .i64 0, .slice (some ⟨wp.heap.size, 0, none⟩) 2 2]] (wp.alloc (.cells #[.int .i64 1, .int .i64 0] 3)) fun e w' => e = .returned (.int .i64 0) ∧ Lw w.heap.size w' p y1 ∧ Below w.heap.size wp w') := fun p wp h => by
    have := l_append2 h 0 x1 #[.int .i64 1, .int .i64 0] rfl (by decide)
    rw [k1] at this
    exact this
  have H2 : Hid (∀ p wp, Lw w.heap.size wp p y1 → Calls Tryz.prog 9 #[.pointer (some ⟨p, 0, none⟩), .int .i64 0, .agg #[.int .i64 2, .int .i64 1, .int .i64 0, .slice (some ⟨wp.heap.size, 0, none⟩) 2 2]] (wp.alloc (.cells #[.int .i64 2, .int .i64 0] 3)) fun e w' => e = .returned (.int .i64 0) ∧ Lw w.heap.size w' p y2 ∧ Below w.heap.size wp w') := fun p wp h => by
    have := l_append2 h 0 x2 #[.int .i64 2, .int .i64 0] rfl (by decide)
    rw [k2] at this
    exact this
  have H3 : Hid (∀ p wp, Lw w.heap.size wp p y2 → Calls Tryz.prog 9 #[.pointer (some ⟨p, 0, none⟩), .int .i64 0, .agg #[.int .i64 2, .int .i64 1, .int .i64 0, .slice (some ⟨wp.heap.size, 0, none⟩) 2 2]] (wp.alloc (.cells #[.int .i64 9, .int .i64 0] 3)) fun e w' => e = .returned (.int .i64 0) ∧ Lw w.heap.size w' p y3 ∧ Below w.heap.size wp w') := fun p wp h => by
    have := l_append2 h 0 x3 #[.int .i64 9, .int .i64 0] rfl (by decide)
    rw [k3] at this
    exact this
  have H4 : Hid (∀ p wp, Lw w.heap.size wp p y3 → Calls Tryz.prog 9 #[.pointer (some ⟨p, 0, none⟩), .int .i64 0, .agg #[.int .i64 2, .int .i64 1, .int .i64 0, .slice (some ⟨wp.heap.size, 0, none⟩) 1 1]] (wp.alloc (.cells #[.int .i64 1] 3)) fun e w' => e = .returned (.int .i64 2) ∧ Lw w.heap.size w' p y3 ∧ Below w.heap.size wp w') := fun p wp h => by
    have := l_append2 h 0 x4 #[.int .i64 1] rfl (by decide)
    rw [k4] at this
    exact this
  have H5 : Hid (∀ p wp, Lw w.heap.size wp p y3 → Calls Tryz.prog 10 #[.pointer (some ⟨p, 0, none⟩), .int .i64 0] wp fun e w' => ∃ a c, ∃ n : Nat, e = .returned (.tuple #[.slice a 2 c, .int .i64 n]) ∧ 0 < n ∧ Lw w.heap.size w' p y3 ∧ Below wp.heap.size wp w') := fun p wp h => by
    have := l_load h 0
    rw [k5] at this
    exact Calls.mono this (fun e w' ⟨a, c, q1, _, q3, q4⟩ => ⟨a, c, _, q1, k6, q3, q4⟩)
  have H6 : Hid (∀ p wp, Lw w.heap.size wp p y3 → Calls Tryz.prog 11 #[.pointer (some ⟨p, 0, none⟩)] wp fun e w' => e = .returned (.tuple #[.string ⟨#[]⟩, .int .i64 6]) ∧ Lw w.heap.size w' p y3 ∧ Below wp.heap.size wp w') := fun p wp h => by
    have := l_told h
    rw [k7] at this
    exact this
  have H7 : Hid (∀ p wp, Lw w.heap.size wp p y3 → Calls Tryz.prog 12 #[.pointer (some ⟨p, 0, none⟩), .string ⟨#[116, 101, 120, 116]⟩] wp fun e w' => e = .returned (.int .i64 0) ∧ Lw w.heap.size w' p y4 ∧ Below w.heap.size wp w') := fun p wp h => by
    have := l_begin h textW (by decide)
    rw [k8] at this
    exact this
  have H8 : Hid (∀ p wp, Lw w.heap.size wp p y4 → Calls Tryz.prog 11 #[.pointer (some ⟨p, 0, none⟩)] wp fun e w' => e = .returned (.tuple #[.string ⟨#[116, 101, 120, 116]⟩, .int .i64 0]) ∧ Lw w.heap.size w' p y4 ∧ Below wp.heap.size wp w') := fun p wp h => by
    have := l_told h
    rw [k9] at this
    exact this
  have HN2 : Hid (Calls Tryz.prog 6 #[.int .i64 500] w fun e w' => ∃ p r, e = .returned (.tuple #[.pointer (some ⟨p, 0, none⟩), .pointer (some ⟨r, 0, none⟩)]) ∧ Lw w.heap.size w' p y0 ∧ Below w.heap.size w w') := HN
  clear HN k1 k2 k3 k4 k5 k6 k7 k8 k9
  generalize y0 = s0 at *
  generalize y1 = s1 at *
  generalize y2 = s2 at *
  generalize y3 = s3 at *
  generalize y4 = s4 at *
  go_enter Tryz.func5, Tryz.ntmps5
  go_wp2_with fail
  refine Calls.mono HN2.out ?_
  rintro e w0 ⟨p, r, rfl, hd0, hb0⟩
  clear HN2
  go_wp2_with fail
  refine Calls.mono (H1.out _ _ hd0) ?_
  rintro e w1 ⟨rfl, hd1, hb1⟩
  clear H1
  go_wp2_with fail
  refine Calls.mono (H2.out _ _ hd1) ?_
  rintro e w2 ⟨rfl, hd2, hb2⟩
  clear H2
  go_wp2_with fail
  refine Calls.mono (H3.out _ _ hd2) ?_
  rintro e w3 ⟨rfl, hd3, hb3⟩
  clear H3
  go_wp2_with fail
  refine Calls.mono (H4.out _ _ hd3) ?_
  rintro e w4 ⟨rfl, hd4, hb4⟩
  clear H4
  go_wp2_with fail
  refine Calls.mono (H5.out _ _ hd4) ?_
  rintro e w5 ⟨la, lc, n, rfl, hn, hd5, hb5⟩
  have hn2 : (0 : Int) < (n : Int) := by omega
  clear H5
  go_wp2_with fail
  refine Calls.mono (H6.out _ _ hd5) ?_
  rintro e w6 ⟨rfl, hd6, hb6⟩
  clear H6
  go_wp2_with fail
  refine Calls.mono (H7.out _ _ hd6) ?_
  rintro e w7 ⟨rfl, hd7, hb7⟩
  clear H7
  go_wp2_with fail
  refine Calls.mono (H8.out _ _ hd7) ?_
  rintro e w8 ⟨rfl, hd8, hb8⟩
  clear H8
  go_wp2_with fail
  go_ret
  have f1 := hb0.trans hb1
  have f2 := f1.trans hb2
  have f3 := f2.trans hb3
  have f4 := f3.trans hb4
  have f5 := f4.trans (hb5.mono f4.size)
  have f6 := f5.trans (hb6.mono f5.size)
  have f7 := f6.trans hb7
  exact ⟨rfl, f7.trans (hb8.mono f7.size)⟩
end Go.Proofs.YtijkgdbabikojaaGreat

