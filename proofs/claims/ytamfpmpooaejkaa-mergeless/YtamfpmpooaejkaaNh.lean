/- The walk over merge.Merge. -/
import Derived.Test.YtamfpmpooaejkaaNg
namespace Go.Proofs.Ytamfpmpooaejkaa
open Go.RowKit Go.Shelf
set_option maxRecDepth 1000000
set_option linter.unusedVariables false
attribute [local go_sem] Oper.semAt_some

/-- What Merge answers. -/
def MergeC (L : List (List EvP)) (w : World) (e : Ending) (w' : World) : Prop :=
  ∃ va vc na nc, e = .returned (.tuple #[.slice va (mseq stE L).length vc, .slice na L.length nc]) ∧ (∃ N T, LogR N w' T (.slice va (mseq stE L).length vc) (evsK (mseq stE L) (mseq stE L).length)) ∧ RI w' (.slice na L.length nc) (hadZ (hadK L.length (mseq stE L) (mseq stE L).length)) ∧ Below w.heap.size w w'

theorem mseq_lt (L : List (List EvP)) : ∀ x ∈ mseq stE L, x.1 < L.length := by
  intro x hx
  have h1 : x.1 ∈ (mseq stE L).map Prod.fst := List.mem_map.2 ⟨x, hx, rfl⟩
  rw [mseq_br] at h1
  have := Mg.brs_lt stE (Mg.mer_ok stE L).1 x.1 h1
  rwa [List.length_replicate] at this
theorem mseq_len (L : List (List EvP)) : (mseq stE L).length ≤ Mg.tot L := by
  have h : ∀ (f : Nat) (had : List Nat), (mq stE L f had).length ≤ f := by
    intro f
    induction f with
    | zero => intro had; simp [mq]
    | succ f ih =>
      intro had
      rw [mq]
      cases (fr L had).find? (nxq stE had) with
      | none => simp
      | some x => have := ih (Mg.bump had x.1); simp only [List.length_cons]; omega
  exact h _ _
/-- Each event of a merge has a stamp of n counts. -/
theorem mseq_at {w : World} {v : Value} {L : List (List EvP)} (h : RREv w v L) (x : Nat × EvP) (hx : x ∈ mseq stE L) : x.2.1.s.length = L.length ∧ RI w x.2.2 x.2.1.s := by
  have key : ∀ (f : Nat) (had : List Nat), had.length = L.length → ∀ x ∈ mq stE L f had, x.2.1.s.length = L.length ∧ RI w x.2.2 x.2.1.s := by
    intro f
    induction f with
    | zero => intro had _ x hx; simp [mq] at hx
    | succ f ih =>
      intro had hl x hx
      rw [mq] at hx
      cases hf : (fr L had).find? (nxq stE had) with
      | none => rw [hf] at hx; simp at hx
      | some y =>
        rw [hf] at hx
        rcases List.mem_cons.1 hx with rfl | hx
        · have h1 : nxq stE had x = true := List.find?_some hf
          have h2 := (of_decide_eq_true (show decide (Mg.Nx had (stE x.2) x.1) = true from h1)).1
          rw [hl] at h2
          exact ⟨h2, h.ri (fr_mem (List.mem_of_find?_eq_some hf)).2⟩
        · exact ih _ (by rw [Mg.bump_len]; exact hl) x hx
  exact key _ _ (by simp) x hx

set_option maxHeartbeats 8000000 in
theorem merge_in (lv : Value) (L : List (List EvP)) (w : World) (hl : RREv w lv L) (hL1 : 1 ≤ L.length) (hL : L.length ≤ 64) (htot : Mg.tot L ≤ 100000) :
    Calls Try.prog 11 #[lv] w fun e w' => MergeC L w e w' := by
  unfold MergeC
  obtain ⟨la, lc, rfl⟩ := hl.slice
  have HAT : Hid _ := fun x hx => mseq_at hl x hx
  have HLT : Hid _ := mseq_lt L
  have HLN : Hid _ := Nat.le_trans (mseq_len L) htot
  have HIT : Hid (∀ (A : Nat) (T : Nat → Prop) (W : World), Below w.heap.size w W → Boxed W A 22 (.slice la L.length lc) → T A → (∀ b, T b → w.heap.size ≤ b ∧ b < W.heap.size) → Itr Try.prog 34 #[.pointer (some ⟨A, 0, none⟩)] encM (mseq stE L) w.heap.size T W) := fun A T W h1 h2 h3 h4 => merged_itr A _ L w hl hL1 hL (by omega) T W h1 h2 h3 h4
  obtain ⟨xs, HX⟩ : ∃ xs, Hid (xs = mseq stE L) := ⟨_, rfl⟩
  rw [← HX.out] at HAT HLT HLN HIT ⊢
  obtain ⟨n, HN⟩ : ∃ n, Hid (n = L.length) := ⟨_, rfl⟩
  rw [← HN.out] at HAT HLT HIT hL1 hL ⊢
  clear HX hl htot
  have HRC : Hid (∀ wx, Calls Try.prog 24 #[.int .i64 (n : Int)] wx fun e w' => e = .returned (.bool true) ∧ w' = wx) := fun wx => by
    have := rightCount_any (n : Int) wx
    rw [decide_eq_true (show 1 ≤ (n : Int) ∧ (n : Int) ≤ 64 by omega)] at this
    exact this
  obtain ⟨C, HC, hmk⟩ := make_ints n hL
  refine (callsIn_wide (n := 0)).1 ?_
  refine callsIn_of_wp_marks Try.func11 rfl trivial ?_ rfl
  simp only [Try.ntmps11, List.size_toArray, List.length_cons, List.length_nil, Nat.reduceAdd, Nat.reduceSub, Array.replicate_succ, Array.replicate_zero, List.push_toArray, List.append_toArray, List.nil_append, List.cons_append]
  gi_wp2
  refine ⟨trivial, rfl, (callsIn_wide.2 (HRC.out _)).mono ?_⟩
  rintro e w1 ⟨rfl, h⟩
  obtain rfl := h.symm
  clear HRC
  gi_wp2
  refine ⟨trivial, rfl, (callsIn_wide.2 (merged_any _ _ _ _)).mono ?_⟩
  rintro e w2 ⟨rfl, rfl⟩
  gi_wp2
  have b0 := (((Boxed.new w 25 (.slice none 0 0)).alloc (.cells C 3)).alloc (.cells #[.slice (some ⟨w.heap.size + 1, 0, none⟩) n n] 26)).alloc (.cells #[.slice la n lc] 22)
  have b1 : RowI ((((w.alloc (.cells #[.slice none 0 0] 25)).alloc (.cells C 3)).alloc (.cells #[.slice (some ⟨w.heap.size + 1, 0, none⟩) n n] 26)).alloc (.cells #[.slice la n lc] 22)) (w.heap.size + 1) (hadZ (hadK n xs 0)) := by
    have h1 := row_new (w.alloc (.cells #[.slice none 0 0] 25)) C 3
    rw [World.size_alloc] at h1
    have h2 : RowI ((w.alloc (.cells #[.slice none 0 0] 25)).alloc (.cells C 3)) (w.heap.size + 1) (hadZ (hadK n xs 0)) := by
      unfold RowI
      rw [h1, HC.out, show hadK n xs 0 = List.replicate n 0 from rfl, hadZ_zero]
    exact (h2.below ((Below.refl _ _).alloc (Nat.le_refl _) _)).below ((Below.refl _ _).alloc (Nat.le_refl _) _)
  have b2 := (Boxed.new ((w.alloc (.cells #[.slice none 0 0] 25)).alloc (.cells C 3)) 26 (.slice (some ⟨w.heap.size + 1, 0, none⟩) n n)).alloc (.cells #[.slice la n lc] 22)
  have b3 := Boxed.new (((w.alloc (.cells #[.slice none 0 0] 25)).alloc (.cells C 3)).alloc (.cells #[.slice (some ⟨w.heap.size + 1, 0, none⟩) n n] 26)) 22 (.slice la n lc)
  simp only [World.size_alloc] at b2 b3
  have hB0 : Below w.heap.size w ((((w.alloc (.cells #[.slice none 0 0] 25)).alloc (.cells C 3)).alloc (.cells #[.slice (some ⟨w.heap.size + 1, 0, none⟩) n n] 26)).alloc (.cells #[.slice la n lc] 22)) := ((((Below.refl _ w).alloc (Nat.le_refl _) _).alloc (by simp) _).alloc (by simp; omega) _).alloc (by simp; omega) _
  have hsz : ((((w.alloc (.cells #[.slice none 0 0] 25)).alloc (.cells C 3)).alloc (.cells #[.slice (some ⟨w.heap.size + 1, 0, none⟩) n n] 26)).alloc (.cells #[.slice la n lc] 22)).heap.size = w.heap.size + 4 := by simp
  obtain ⟨W0, hW0⟩ : ∃ W0, (((w.alloc (.cells #[.slice none 0 0] 25)).alloc (.cells C 3)).alloc (.cells #[.slice (some ⟨w.heap.size + 1, 0, none⟩) n n] 26)).alloc (.cells #[.slice la n lc] 22) = W0 := ⟨_, rfl⟩
  rw [hW0] at b0 b1 b2 b3 hB0 hsz ⊢
  clear hW0 hmk HC
  have HSZ : Hid (W0.heap.size = w.heap.size + 4) := hsz
  have H0 : Hid (MgS w.heap.size w xs n 0 0 W0 (fun b => b = w.heap.size + 1 + 1 + 1)) := ⟨⟨_, b0, LogR.nil _ _ _⟩, b1, b2, by omega, by omega, by omega, hB0, fun b hb => by omega, by omega⟩
  refine range_law (P := Try.prog) (gf := 34) (lb := #[.pointer (some ⟨w.heap.size + 1 + 1 + 1, 0, none⟩)]) rfl (enters_of Try.func34 (by kernel_rfl) rfl) (enc := encM) (xs := xs) (n0 := w.heap.size) (T := fun b => b = w.heap.size + 1 + 1 + 1)
    (HIT.out _ _ W0 hB0 b3 rfl (fun b hb => by omega)) (fun b hb => by omega) (by omega) (fun x F W T args h => by rw [show args = _ from h]; rfl)
    (fun k W T => Hid (MgS w.heap.size w xs n k k W T)) (fun c k W T => False)
    (fun k A TA B TB h hm => h.out.mv hm) (fun c k A TA B TB h _ => h.elim)
    H0 ?round ?done (fun c k W T2 _ h => h.elim)
  case round =>
    rintro m l' k x args F V T1 TB hxk henc _ HI hTB hup hnc hlt
    cases henc
    clear hTB hnc b0 b1 b2 b3 hB0 H0 HIT
    have hk := (List.getElem?_eq_some_iff.1 hxk).1
    have HXK : Hid _ := hxk
    have hxm := List.mem_of_getElem? hxk
    obtain ⟨hsl, hri⟩ := HAT.out x hxm
    have hil := HLT.out x hxm
    have HRI : Hid _ := hri
    have HSL : Hid _ := hsl
    clear hxk hxm hri hsl
    obtain ⟨i, e, sv⟩ := x
    dsimp only at HRI HSL hil
    obtain ⟨sa, sc, rfl⟩ : ∃ sa sc, sv = .slice sa e.s.length sc := by obtain ⟨a, c, h, _⟩ := HRI.out; exact ⟨a, c, h⟩
    have hBa : Below V.heap.size V (V.alloc (.cells #[.int .i64 e.k, .int .i64 e.i, .int .i64 e.t, .slice sa e.s.length sc] 45)) := (Below.refl _ _).alloc (Nat.le_refl _) _
    have hbx := Box.new V e.k e.i e.t (.slice sa e.s.length sc)
    unfold EvV
    gi_wp2
    have hle := HI.out.le
    refine ⟨HI.out.mv (Mv.of_below hBa), Rv.of_below hBa (by omega), fun W2 HI2 hbz => ?_⟩
    have hS0' : Box W2 V.heap.size e.k e.i e.t (.slice sa e.s.length sc) := hbx.bz hbz
    obtain ⟨v0, g1, g2⟩ := HI.out.bl
    obtain ⟨v, h1, h2⟩ := HI2.out.bl
    have hvv : v0 = v := boxed_eq (boxed_bz (g1.alloc _) hbz) h1
    subst hvv
    have HB7 : Hid (v0.ownBlock ≠ some V.heap.size) := fun e9 => by
      obtain ⟨P, _, p2, _⟩ := g2
      have := (World.ownsRow.lt p2 _ e9).2
      omega
    obtain ⟨va0, vc0, hv0⟩ := h2.slice
    rw [evsK_len (Nat.le_of_lt hk)] at hv0
    subst hv0
    have hup2 : ∀ b, TB b → b < W2.heap.size := fun b hb => by have := hup b hb; have := hS0'.lt; omega
    have HBN : Hid (V.heap.size ≠ w.heap.size) := by show _ ≠ _; omega
    generalize V.heap.size = b7 at *
    have hMd : MgS w.heap.size w xs n k k W2.drew TB := HI2.out.mv (Mv.drew _ _)
    have hbd : Boxed W2.drew w.heap.size 25 (.slice va0 k vc0) := h1
    have hcg : W2.drew.cell? ⟨w.heap.size, 0, none⟩ = some (.slice va0 k vc0) := hbd.cell
    have HFR : Hid _ := fresh_any e (.slice sa e.s.length sc) W2.drew (RI.later HRI.out hMd.bel) (by rw [HSL.out]; exact hL1) (by rw [HSL.out]; omega)
    unfold EvV at HFR
    have HPU : Hid (∀ W3, Below W2.drew.heap.size W2.drew W3 → ∀ g c, OI W2.drew.heap.size W3 g e.s.length c e.s → _) := fun W3 h3 g c h4 => MgS.push hMd hup2 HXK.out (by have := HLN.out; omega) hbd h3 h4 (by rw [HSL.out]; omega)
    have hS0 : Box W2.drew b7 e.k e.i e.t (.slice sa e.s.length sc) := hS0'
    clear hBa hbx hbz HI g1 g2 h1 h2 hMd hbd hS0' hup hlt
    gi_wp2
    refine wpIn_mono (Q := fun e' a' w' => e' = Exit.normal ∧ MgS w.heap.size w xs n (k + 1) k w' TB ∧ Rv w.heap.size TB W2.drew w' ∧ ∃ z19 z20 z21 z22 z23 : Value, a' = { tmps := #[.slice la n lc, undef, .slice none 0 0, .slice none 0 0, .pointer (some ⟨w.heap.size, 0, none⟩), .pointer (some ⟨w.heap.size + 1 + 1, 0, none⟩), .int .i64 (i : Int), .pointer (some ⟨b7, 0, none⟩), .slice la n lc, .int .i64 (n : Int), .bool true, .bool false, .slice la n lc, .int .i64 (n : Int), .slice (some ⟨w.heap.size + 1, 0, none⟩) n n, .slice la n lc, .func (.func 34) #[] #[.pointer (some ⟨w.heap.size + 1 + 1 + 1, 0, none⟩)], .int .i64 (i : Int), .agg #[.int .i64 e.k, .int .i64 e.i, .int .i64 e.t, .slice sa e.s.length sc], z19, z20, z21, z22, z23, undef, undef, undef, undef, undef, undef, undef, undef], defers := [] }) (regionH_round (S := fun wx => Box wx b7 e.k e.i e.t (.slice sa e.s.length sc)) l' m (by kernel_rfl) (noDefer_all (by kernel_rfl)) (fun ⟨_, _, h⟩ => by cases h.1) ?_) ?_
    · simp only [List.size_toArray, List.length_cons, List.length_nil, Nat.reduceAdd, Array.replicate_succ, Array.replicate_zero, List.push_toArray, List.nil_append, List.cons_append]
      refine takeD (i := 1) (d := 20) (v := .agg #[.int .i64 e.k, .int .i64 e.i, .int .i64 e.t, .slice sa e.s.length sc]) (fuel := 5) rfl rfl (by kernel_rfl) (by kernel_rfl) (by kernel_rfl) (fun _ _ _ h => by cases h.1) (.inl ⟨by kernel_rfl, fun w9 hw9 => by have z0 := Box.c0 hw9; have z1 := Box.c1 hw9; have z2 := Box.c2 hw9; have z3 := Box.c3 hw9; go_simp⟩) hS0 ?_
      simp only [List.setIfInBounds_toArray, List.set_cons_succ, List.set_cons_zero]
      refine wpAnyH_all (fuel := 4) (rs := [0, 2]) (by kernel_rfl) (by decide) ?_
      refine List.forall_mem_cons.2 ⟨?_, List.forall_mem_singleton.2 ?_⟩
      · refine wpOp_value (i := 0) (d := 19) (v := .slice va0 k vc0) (w' := W2.drew) rfl rfl (by kernel_rfl) (by go_simp) ?_
        refine ⟨hS0, ?_⟩
        simp only [List.setIfInBounds_toArray, List.set_cons_succ, List.set_cons_zero]
        refine wpAnyH_all (fuel := 3) (rs := [2]) (by kernel_rfl) (by decide) (List.forall_mem_singleton.2 ?_)
        refine wpOp_calls (i := 2) (d := 21) rfl rfl (by kernel_rfl) (f := 26) (args := #[.agg #[.int .i64 e.k, .int .i64 e.i, .int .i64 e.t, .slice sa e.s.length sc]]) (by kernel_rfl) _ HFR.out ?_ (fun _ _ h => by obtain ⟨_, _, h1, _⟩ := h; cases h1) (fun _ h => by obtain ⟨_, _, h1, _⟩ := h; cases h1)
        rintro vA W3 ⟨g, c, hvA, ho3, hb3⟩
        cases hvA
        obtain ⟨ua, um, uc, W4, hr4, hk4, hc4, hf4, hM4, hR4⟩ := HPU.out W3 hb3 g c ho3
        have hq1 : Box W3 b7 e.k e.i e.t (.slice sa e.s.length sc) := Box.later hS0 hb3
        have hcg1 : W3.cell? ⟨w.heap.size, 0, none⟩ = some (.slice va0 k vc0) := cell_later hb3 hcg
        have hq4 : Box W4 b7 e.k e.i e.t (.slice sa e.s.length sc) := (hk4 b7 (Box.lt hS0) HB7.out).trans hS0
        refine ⟨hq1, ?_⟩
        simp only [List.setIfInBounds_toArray, List.set_cons_succ, List.set_cons_zero]
        refine wpAnyH_all (fuel := 2) (rs := [3]) (by kernel_rfl) (by decide) (List.forall_mem_singleton.2 ?_)
        refine wpOp_value (i := 3) (d := 22) (v := .slice (some ⟨W3.heap.size, 0, none⟩) 1 1) (w' := W3.alloc (.cells #[.int .i64 e.k, .int .i64 e.i, .int .i64 e.t, .slice (some ⟨g, 0, none⟩) e.s.length c] 45)) rfl rfl (by kernel_rfl) (by go_simp) ?_
        refine ⟨Box.alloc hq1 _, ?_⟩
        simp only [List.setIfInBounds_toArray, List.set_cons_succ, List.set_cons_zero]
        refine wpAnyH_all (fuel := 1) (rs := [4]) (by kernel_rfl) (by decide) (List.forall_mem_singleton.2 ?_)
        refine wpOp_value (i := 4) (d := 23) (v := .slice ua um uc) (w' := W4) rfl rfl (by kernel_rfl) (by simp [execOp, resolve, invoke, builtin, hr4, Result.andThen, Act.eval]) ?_
        refine ⟨hq4, ?_⟩
        simp only [List.setIfInBounds_toArray, List.set_cons_succ, List.set_cons_zero]
        refine wpAnyH_all (fuel := 0) (rs := [5]) (by kernel_rfl) (by decide) (List.forall_mem_singleton.2 ?_)
        refine wpOp_skip (i := 5) (w' := W4.setCell ⟨w.heap.size, 0, none⟩ (.slice ua um uc)) rfl rfl (by kernel_rfl) (by go_simp) ?_
        refine ⟨Box.other hq4 HBN.out, by kernel_rfl, ?_⟩
        exact ⟨rfl, hM4, hR4, _, _, _, _, _, rfl⟩
      · refine wpOp_calls (i := 2) (d := 21) rfl rfl (by kernel_rfl) (f := 26) (args := #[.agg #[.int .i64 e.k, .int .i64 e.i, .int .i64 e.t, .slice sa e.s.length sc]]) (by kernel_rfl) _ HFR.out ?_ (fun _ _ h => by obtain ⟨_, _, h1, _⟩ := h; cases h1) (fun _ h => by obtain ⟨_, _, h1, _⟩ := h; cases h1)
        rintro vA W3 ⟨g, c, hvA, ho3, hb3⟩
        cases hvA
        obtain ⟨ua, um, uc, W4, hr4, hk4, hc4, hf4, hM4, hR4⟩ := HPU.out W3 hb3 g c ho3
        have hq1 : Box W3 b7 e.k e.i e.t (.slice sa e.s.length sc) := Box.later hS0 hb3
        have hcg1 : W3.cell? ⟨w.heap.size, 0, none⟩ = some (.slice va0 k vc0) := cell_later hb3 hcg
        have hq4 : Box W4 b7 e.k e.i e.t (.slice sa e.s.length sc) := (hk4 b7 (Box.lt hS0) HB7.out).trans hS0
        refine ⟨hq1, ?_⟩
        simp only [List.setIfInBounds_toArray, List.set_cons_succ, List.set_cons_zero]
        refine wpAnyH_all (fuel := 3) (rs := [0, 3]) (by kernel_rfl) (by decide) ?_
        refine List.forall_mem_cons.2 ⟨?_, List.forall_mem_singleton.2 ?_⟩
        · refine wpOp_value (i := 0) (d := 19) (v := .slice va0 k vc0) (w' := W3) rfl rfl (by kernel_rfl) (by go_simp) ?_
          refine ⟨hq1, ?_⟩
          simp only [List.setIfInBounds_toArray, List.set_cons_succ, List.set_cons_zero]
          refine wpAnyH_all (fuel := 2) (rs := [3]) (by kernel_rfl) (by decide) (List.forall_mem_singleton.2 ?_)
          refine wpOp_value (i := 3) (d := 22) (v := .slice (some ⟨W3.heap.size, 0, none⟩) 1 1) (w' := W3.alloc (.cells #[.int .i64 e.k, .int .i64 e.i, .int .i64 e.t, .slice (some ⟨g, 0, none⟩) e.s.length c] 45)) rfl rfl (by kernel_rfl) (by go_simp) ?_
          refine ⟨Box.alloc hq1 _, ?_⟩
          simp only [List.setIfInBounds_toArray, List.set_cons_succ, List.set_cons_zero]
          refine wpAnyH_all (fuel := 1) (rs := [4]) (by kernel_rfl) (by decide) (List.forall_mem_singleton.2 ?_)
          refine wpOp_value (i := 4) (d := 23) (v := .slice ua um uc) (w' := W4) rfl rfl (by kernel_rfl) (by simp [execOp, resolve, invoke, builtin, hr4, Result.andThen, Act.eval]) ?_
          refine ⟨hq4, ?_⟩
          simp only [List.setIfInBounds_toArray, List.set_cons_succ, List.set_cons_zero]
          refine wpAnyH_all (fuel := 0) (rs := [5]) (by kernel_rfl) (by decide) (List.forall_mem_singleton.2 ?_)
          refine wpOp_skip (i := 5) (w' := W4.setCell ⟨w.heap.size, 0, none⟩ (.slice ua um uc)) rfl rfl (by kernel_rfl) (by go_simp) ?_
          refine ⟨Box.other hq4 HBN.out, by kernel_rfl, ?_⟩
          exact ⟨rfl, hM4, hR4, _, _, _, _, _, rfl⟩
        · refine wpOp_value (i := 3) (d := 22) (v := .slice (some ⟨W3.heap.size, 0, none⟩) 1 1) (w' := W3.alloc (.cells #[.int .i64 e.k, .int .i64 e.i, .int .i64 e.t, .slice (some ⟨g, 0, none⟩) e.s.length c] 45)) rfl rfl (by kernel_rfl) (by go_simp) ?_
          refine ⟨Box.alloc hq1 _, ?_⟩
          simp only [List.setIfInBounds_toArray, List.set_cons_succ, List.set_cons_zero]
          refine wpAnyH_all (fuel := 2) (rs := [0]) (by kernel_rfl) (by decide) (List.forall_mem_singleton.2 ?_)
          have hcg2 := cell_later ((Below.refl W3.heap.size W3).alloc (Nat.le_refl _) (.cells #[.int .i64 e.k, .int .i64 e.i, .int .i64 e.t, .slice (some ⟨g, 0, none⟩) e.s.length c] 45)) hcg1
          refine wpOp_value (i := 0) (d := 19) (v := .slice va0 k vc0) (w' := W3.alloc (.cells #[.int .i64 e.k, .int .i64 e.i, .int .i64 e.t, .slice (some ⟨g, 0, none⟩) e.s.length c] 45)) rfl rfl (by kernel_rfl) (by go_simp) ?_
          refine ⟨Box.alloc hq1 _, ?_⟩
          simp only [List.setIfInBounds_toArray, List.set_cons_succ, List.set_cons_zero]
          refine wpAnyH_all (fuel := 1) (rs := [4]) (by kernel_rfl) (by decide) (List.forall_mem_singleton.2 ?_)
          refine wpOp_value (i := 4) (d := 23) (v := .slice ua um uc) (w' := W4) rfl rfl (by kernel_rfl) (by simp [execOp, resolve, invoke, builtin, hr4, Result.andThen, Act.eval]) ?_
          refine ⟨hq4, ?_⟩
          simp only [List.setIfInBounds_toArray, List.set_cons_succ, List.set_cons_zero]
          refine wpAnyH_all (fuel := 0) (rs := [5]) (by kernel_rfl) (by decide) (List.forall_mem_singleton.2 ?_)
          refine wpOp_skip (i := 5) (w' := W4.setCell ⟨w.heap.size, 0, none⟩ (.slice ua um uc)) rfl rfl (by kernel_rfl) (by go_simp) ?_
          refine ⟨Box.other hq4 HBN.out, by kernel_rfl, ?_⟩
          exact ⟨rfl, hM4, hR4, _, _, _, _, _, rfl⟩
    · rintro e' a' w6 ⟨rfl, hM6, hR6, z19, z20, z21, z22, z23, rfl⟩
      have HR6 : Hid (Rv w.heap.size TB W2 w6) := (Rv.drew W2).trans hR6
      obtain ⟨hM7, hR7⟩ := MgS.count hM6 HXK.out
      have HM7 : Hid _ := hM7
      have HR7 : Hid _ := HR6.out.trans hR7
      obtain ⟨cR, fR⟩ := hM6.row.get i (by rw [hadZ_len, hadK_len]; exact hil)
      have cT := hM6.bt.cell
      have hsm : (hadZ (hadK n xs k)).getD i 0 ≤ 1000000 ∧ 0 ≤ (hadZ (hadK n xs k)).getD i 0 := by rw [hadZ_get]; have := hadK_le HLT.out k (Nat.le_of_lt hk) i; have := HLN.out; omega
      dsimp only at HM7 HR7
      clear hM6 hR6 hM7 hR7 HPU HFR hcg hS0 HR6
      generalize (hadZ (hadK n xs k)).getD i 0 = z at *
      gi_wp2
      exact ⟨HM7.out, HR7.out⟩
  case done =>
    rintro W T2 HI hold hup hdef hts
    have h2 := HI.out
    obtain ⟨v, h1, hlog⟩ := h2.bl
    obtain ⟨va0, vc0, hv0⟩ := hlog.slice
    rw [evsK_len (Nat.le_refl _)] at hv0
    subst hv0
    rw [HSZ.out] at hdef hts ⊢
    have HTS : Hid _ := hts
    have HLOG : Hid (LogR (w.heap.size + 3) W (fun b => T2 b ∨ (w.heap.size ≤ b ∧ b < w.heap.size + 3)) (.slice va0 xs.length vc0) (evsK xs xs.length)) := hlog
    have HRW : Hid (RowI W (w.heap.size + 1) (hadZ (hadK n xs xs.length))) := h2.row
    have HBL : Hid (Below w.heap.size w W) := h2.bel
    have HDF : Hid _ := hdef
    have c0 := h1.cell
    have c1 := h2.bt.cell
    have HLE : Hid _ := h2.le
    clear h1 h2 hlog hdef hold hup hsz HI hts b0 b1 b2 b3 hB0 H0 HIT
    gi_wp2
    refine wpIn_mono (Q := fun e a' w' => e = Exit.normal ∧ w' = W.drew ∧ a' = { tmps := #[.slice la n lc, undef, .slice va0 xs.length vc0, .slice (some ⟨w.heap.size + 1, 0, none⟩) n n, .pointer (some ⟨w.heap.size, 0, none⟩), .pointer (some ⟨w.heap.size + 1 + 1, 0, none⟩), undef, undef, .slice la n lc, .int .i64 (n : Int), .bool true, .bool false, .slice la n lc, .int .i64 (n : Int), .slice (some ⟨w.heap.size + 1, 0, none⟩) n n, .slice la n lc, .func (.func 34) #[] #[.pointer (some ⟨w.heap.size + 1 + 1 + 1, 0, none⟩)], undef, undef, undef, undef, undef, undef, undef, undef, undef, undef, undef, undef, undef, .slice va0 xs.length vc0, .slice (some ⟨w.heap.size + 1, 0, none⟩) n n], defers := [{ target := .collected (w.heap.size + 4), args := #[] }] }) ((wpIn_wide (n := 0)).2 (wp_region_held (S := fun wx => wx = W.drew) (by kernel_rfl) ?_)) ?_
    · simp only [List.size_toArray, List.length_cons, List.length_nil, Nat.reduceAdd, Array.replicate_succ, Array.replicate_zero, List.push_toArray, List.nil_append, List.cons_append]
      have hS0 : W.drew = W.drew := rfl
      refine takeD (i := 0) (d := 30) (v := .slice va0 xs.length vc0) (fuel := 3) rfl rfl (by kernel_rfl) (by kernel_rfl) (by kernel_rfl) (fun _ _ _ h => by cases h.1) (.inl ⟨by kernel_rfl, fun wx h => by subst h; go_simp⟩) hS0 ?_
      simp only [List.setIfInBounds_toArray, List.set_cons_succ, List.set_cons_zero]
      refine takeD (i := 1) (d := 31) (v := .slice (some ⟨w.heap.size + 1, 0, none⟩) n n) (fuel := 2) rfl rfl (by kernel_rfl) (by kernel_rfl) (by kernel_rfl) (fun _ _ _ h => by cases h.1) (.inl ⟨by kernel_rfl, fun wx h => by subst h; go_simp⟩) hS0 ?_
      simp only [List.setIfInBounds_toArray, List.set_cons_succ, List.set_cons_zero]
      refine takeD (i := 2) (d := 2) (v := .slice va0 xs.length vc0) (fuel := 1) rfl rfl (by kernel_rfl) (by kernel_rfl) (by kernel_rfl) (fun _ _ _ h => by cases h.1) (.inl ⟨by kernel_rfl, fun _ _ => by kernel_rfl⟩) hS0 ?_
      simp only [List.setIfInBounds_toArray, List.set_cons_succ, List.set_cons_zero]
      refine takeD (i := 3) (d := 3) (v := .slice (some ⟨w.heap.size + 1, 0, none⟩) n n) (fuel := 0) rfl rfl (by kernel_rfl) (by kernel_rfl) (by kernel_rfl) (fun _ _ _ h => by cases h.1) (.inl ⟨by kernel_rfl, fun _ _ => by kernel_rfl⟩) hS0 ?_
      simp only [List.setIfInBounds_toArray, List.set_cons_succ, List.set_cons_zero]
      refine wpAnyH_done (by kernel_rfl) ?_ _
      exact ⟨rfl, rfl, rfl⟩
    · rintro e a' w' ⟨rfl, rfl, rfl⟩
      gi_wp2
      refine ⟨by simp, .inl ⟨_, _, rfl, run_takeDeferred (w := W.drew) HDF.out, ?_⟩⟩
      have hk : ∀ b, b ≠ w.heap.size + 4 → (W.drew.putObj (w.heap.size + 4) (.deferred none)).heap[b]? = W.heap[b]? := fun b hb => World.putObj_heap_other hb
      refine ⟨.tuple #[.slice va0 xs.length vc0, .slice (some ⟨w.heap.size + 1, 0, none⟩) n n], ?_, va0, vc0, some ⟨w.heap.size + 1, 0, none⟩, n, rfl, ?_, ?_, ?_⟩
      · simp [results, Try.f11, go_sem]
      · exact ⟨_, _, LogR.kept HLOG.out (fun b b2 b3 => hk b (fun e => b3 (.inl (by rw [e]; exact HTS.out)))) (fun _ _ h => h) (by simp [World.putObj])⟩
      · have h9 : RowI (W.drew.putObj (w.heap.size + 4) (.deferred none)) (w.heap.size + 1) (hadZ (hadK n xs xs.length)) := (hk _ (by omega)).trans HRW.out
        have := h9.ri (by rw [hadZ_len, hadK_len]; omega)
        rw [hadZ_len, hadK_len] at this
        exact this
      · have hq := HBL.out
        exact ⟨hq.os, hq.tape, hq.output, by simpa [World.putObj] using hq.size, fun k hk2 => (hk k (by omega)).trans (hq.block k hk2)⟩
end Go.Proofs.Ytamfpmpooaejkaa
