/- The walk over merge.Split. -/
import Derived.Test.YtamfpmpooaejkaaNj
namespace Go.Proofs.Ytamfpmpooaejkaa
open Go.RowKit Go.Shelf
set_option maxRecDepth 1000000
set_option linter.unusedVariables false
attribute [local go_sem] Oper.semAt_some

theorem pt_lt {n : Nat} (Hs : List EvP) : ∀ (had : List Nat), had.length = n → ∀ x ∈ pt stE had Hs, x.1 < n ∧ x.2.1.s.length = n := by
  induction Hs with
  | nil => intro had _ x hx; simp [pt] at hx
  | cons e h ih =>
    intro had hl x hx
    rw [pt] at hx
    cases ho : Mg.own had (stE e) with
    | none => rw [ho] at hx; simp at hx
    | some i =>
      rw [ho] at hx
      have hn := Mg.own_some.1 ho
      rcases List.mem_cons.1 hx with rfl | hx
      · exact ⟨by have := hn.2.1; omega, by have := hn.1; show (stE e).length = n; omega⟩
      · exact ih _ (by rw [Mg.bump_len]; exact hl) x hx
theorem pt_mem (Hs : List EvP) (had : List Nat) (x : Nat × EvP) (hx : x ∈ pt stE had Hs) : x.2 ∈ Hs := by
  have h1 : x.2 ∈ (pt stE had Hs).map Prod.snd := List.mem_map.2 ⟨x, hx, rfl⟩
  rw [pt_ev] at h1
  exact List.mem_of_mem_take h1
theorem REv.ri {w : World} {v : Value} {L : List EvP} (h : REv w v L) {p : EvP} (hp : p ∈ L) : RI w p.2 p.1.s := by
  obtain ⟨a, cap, rfl, _, _, hc⟩ := h
  obtain ⟨i, hi⟩ := List.getElem?_of_mem hp
  obtain ⟨b, off, _, _, _, _, _, hr⟩ := hc i p hi
  exact hr

/-- What Split answers of a history. -/
def SplitC (n : Nat) (xs : List (Nat × EvP)) (w : World) (e : Ending) (w' : World) : Prop :=
  ∃ a, e = .returned (.tuple #[.slice a n n, .int .i64 0]) ∧ RRE w' (.slice a n n) (partsK n xs xs.length) ∧ (∀ L ∈ partsK n xs xs.length, ∀ x ∈ L, x.s.length ≤ 1000000) ∧ Below w.heap.size w w'

set_option maxHeartbeats 8000000 in
theorem split_in (hv : Value) (Hs : List EvP) (n : Nat) (w : World) (hh : REv w hv Hs) (hL1 : 1 ≤ n) (hL : n ≤ 64) (hHs : Hs.length ≤ 100000) (hyes : histB (n : Int) Hs = true) :
    Calls Try.prog 16 #[hv, .int .i64 (n : Int)] w fun e w' => SplitC n (ptN (n : Int) Hs) w e w' := by
  unfold SplitC
  have HCK : Hid _ := check_any hv Hs (n : Int) w hh (by omega)
  rw [show chkE (n : Int) Hs = 0 by unfold chkE; rw [hyes]; rfl] at HCK
  obtain ⟨ha, hc, rfl⟩ := hh.slice
  have HIT : Hid (∀ (w1 : World), Below w.heap.size w w1 → ∀ (An Ah : Nat) (T : Nat → Prop) (W : World), Below w1.heap.size w1 W → Boxed W An 3 (.int .i64 (n : Int)) → Boxed W Ah 25 (.slice ha Hs.length hc) → (∀ b, T b → w1.heap.size ≤ b ∧ b < W.heap.size) → Itr Try.prog 39 #[.pointer (some ⟨An, 0, none⟩), .pointer (some ⟨Ah, 0, none⟩)] encM (ptN (n : Int) Hs) w1.heap.size T W) := fun w1 h0 An Ah T W h1 h2 h3 h4 => parted_itr An Ah n _ Hs w1 (hh.later h0) hL1 hL (by omega) T W h1 h2 h3 h4
  have HAT : Hid (∀ x ∈ ptN (n : Int) Hs, x.1 < n ∧ x.2.1.s.length = n ∧ RI w x.2.2 x.2.1.s) := fun x hx => by
    obtain ⟨h1, h2⟩ := pt_lt (n := n) Hs _ (by simp) x hx
    exact ⟨h1, h2, hh.ri (pt_mem Hs _ x hx)⟩
  have HLN : Hid ((ptN (n : Int) Hs).length ≤ Hs.length) := pt_len _ _ _
  obtain ⟨xs, HX⟩ : ∃ xs, Hid (xs = ptN (n : Int) Hs) := ⟨_, rfl⟩
  rw [← HX.out] at HAT HIT HLN ⊢
  obtain ⟨m, HM⟩ : ∃ m, Hid (m = Hs.length) := ⟨_, rfl⟩
  rw [← HM.out] at HLN HIT HCK hHs ⊢
  clear HX hh hyes
  obtain ⟨C, HC, hmk⟩ := make_rows n hL
  refine (callsIn_wide (n := 0)).1 ?_
  refine callsIn_of_wp_marks Try.func16 rfl trivial ?_ rfl
  simp only [Try.ntmps16, List.size_toArray, List.length_cons, List.length_nil, Nat.reduceAdd, Nat.reduceSub, Array.replicate_succ, Array.replicate_zero, List.push_toArray, List.append_toArray, List.nil_append, List.cons_append]
  gi_wp2
  refine ⟨trivial, rfl, (callsIn_wide.2 HCK.out).mono ?_⟩
  rintro e w1 ⟨rfl, hb1⟩
  have HB1 : Hid (Below w.heap.size w w1) := hb1
  have HIT1 : Hid _ := HIT.out w1 hb1
  clear HCK hb1 HIT
  have HAT1 : Hid (∀ x ∈ xs, x.1 < n ∧ x.2.1.s.length = n ∧ RI w1 x.2.2 x.2.1.s) := fun x hx => ⟨(HAT.out x hx).1, (HAT.out x hx).2.1, (HAT.out x hx).2.2.later HB1.out⟩
  clear HAT
  gi_wp2
  refine ⟨trivial, rfl, (callsIn_wide.2 (parted_any _ _ _ _ _)).mono ?_⟩
  rintro e w2 ⟨rfl, rfl⟩
  gi_wp2
  have b0 := ((row_new w1 C 25))
  have b0' : ((((w1.alloc (.cells C 25)).alloc (.cells #[.slice (some ⟨w1.heap.size, 0, none⟩) n n] 22)).alloc (.cells #[.slice ha m hc] 25)).alloc (.cells #[.int .i64 (n : Int)] 3)).heap[w1.heap.size]? = some (.cells C 25 (0, 0)) := (Below.heap_alloc _ _ _ (by simp; omega)).trans ((Below.heap_alloc _ _ _ (by simp; omega)).trans ((Below.heap_alloc _ _ _ (by simp)).trans b0))
  have b1 := ((Boxed.new (w1.alloc (.cells C 25)) 22 (.slice (some ⟨w1.heap.size, 0, none⟩) n n)).alloc (.cells #[.slice ha m hc] 25)).alloc (.cells #[.int .i64 (n : Int)] 3)
  have b2 := (Boxed.new ((w1.alloc (.cells C 25)).alloc (.cells #[.slice (some ⟨w1.heap.size, 0, none⟩) n n] 22)) 25 (.slice ha m hc)).alloc (.cells #[.int .i64 (n : Int)] 3)
  have b3 := Boxed.new (((w1.alloc (.cells C 25)).alloc (.cells #[.slice (some ⟨w1.heap.size, 0, none⟩) n n] 22)).alloc (.cells #[.slice ha m hc] 25)) 3 (.int .i64 (n : Int))
  simp only [World.size_alloc] at b1 b2 b3
  have hB0 : Below w1.heap.size w1 ((((w1.alloc (.cells C 25)).alloc (.cells #[.slice (some ⟨w1.heap.size, 0, none⟩) n n] 22)).alloc (.cells #[.slice ha m hc] 25)).alloc (.cells #[.int .i64 (n : Int)] 3)) := ((((Below.refl _ w1).alloc (Nat.le_refl _) _).alloc (by simp) _).alloc (by simp; omega) _).alloc (by simp; omega) _
  have hsz : ((((w1.alloc (.cells C 25)).alloc (.cells #[.slice (some ⟨w1.heap.size, 0, none⟩) n n] 22)).alloc (.cells #[.slice ha m hc] 25)).alloc (.cells #[.int .i64 (n : Int)] 3)).heap.size = w1.heap.size + 4 := by simp
  obtain ⟨W0, hW0⟩ : ∃ W0, (((w1.alloc (.cells C 25)).alloc (.cells #[.slice (some ⟨w1.heap.size, 0, none⟩) n n] 22)).alloc (.cells #[.slice ha m hc] 25)).alloc (.cells #[.int .i64 (n : Int)] 3) = W0 := ⟨_, rfl⟩
  rw [hW0] at b0' b1 b2 b3 hB0 hsz ⊢
  clear hW0 hmk b0
  obtain ⟨B, HBe⟩ : ∃ B, Hid (w1.heap.size = B) := ⟨_, rfl⟩
  rw [HBe.out] at b0' b1 b2 b3 hsz ⊢
  have HSZ : Hid (W0.heap.size = B + 4) := hsz
  have H0 : Hid (SpS B w1 xs n 0 W0 (fun b => b = B + 1 + 1 ∨ b = B + 1 + 1 + 1)) := by
    refine ⟨b1, ⟨List.replicate n (.slice none 0 0), ?_⟩, by omega, by rw [← HBe.out]; exact hB0, fun b hb => by omega, by omega⟩
    rw [partsK_zero]
    exact RwR.init _ _ _ _ n (by rw [← HC.out]; exact b0') (by omega)
  clear b0' HC
  rw [HBe.out] at hB0
  have HITB : Hid (Itr Try.prog 39 #[.pointer (some ⟨B + 1 + 1 + 1, 0, none⟩), .pointer (some ⟨B + 1 + 1, 0, none⟩)] encM xs B (fun b => b = B + 1 + 1 ∨ b = B + 1 + 1 + 1) W0) := by
    have h9 := HIT1.out (B + 1 + 1 + 1) (B + 1 + 1) (fun b => b = B + 1 + 1 ∨ b = B + 1 + 1 + 1) W0 (by rw [HBe.out]; exact hB0) b3 b2 (fun b hb => by have := HBe.out; omega)
    rw [HBe.out] at h9
    exact h9
  clear b1 b2 b3 hB0 HIT1
  refine range_law (P := Try.prog) (gf := 39) (lb := #[.pointer (some ⟨B + 1 + 1 + 1, 0, none⟩), .pointer (some ⟨B + 1 + 1, 0, none⟩)]) rfl (enters_of Try.func39 (by kernel_rfl) rfl) (enc := encM) (xs := xs) (n0 := B) (T := fun b => b = B + 1 + 1 ∨ b = B + 1 + 1 + 1)
    HITB.out (fun b hb => by omega) (by omega) (fun x F W T args h => by rw [show args = _ from h]; rfl)
    (fun k W T => Hid (SpS B w1 xs n k W T)) (fun c k W T => False)
    (fun k A TA B' TB h hm => h.out.mv hm) (fun c k A TA B' TB h _ => h.elim)
    H0 ?round ?done (fun c k W T2 _ h => h.elim)
  case round =>
    rintro mm l' k x args F V T1 TB hxk henc _ HI hTB hup hnc hlt
    cases henc
    clear hTB hnc H0 HITB
    have hk := (List.getElem?_eq_some_iff.1 hxk).1
    have HXK : Hid _ := hxk
    obtain ⟨hil, hsl, hri⟩ := HAT1.out x (List.mem_of_getElem? hxk)
    have HRI : Hid _ := hri
    have HSL : Hid _ := hsl
    clear hxk hri hsl
    obtain ⟨i, e, sv⟩ := x
    dsimp only at HRI HSL hil
    obtain ⟨sa, sc, rfl⟩ : ∃ sa sc, sv = .slice sa e.s.length sc := by obtain ⟨a, c, h, _⟩ := HRI.out; exact ⟨a, c, h⟩
    have hBa : Below V.heap.size V (V.alloc (.cells #[.int .i64 e.k, .int .i64 e.i, .int .i64 e.t, .slice sa e.s.length sc] 45)) := (Below.refl _ _).alloc (Nat.le_refl _) _
    have hbx := Box.new V e.k e.i e.t (.slice sa e.s.length sc)
    unfold EvV
    gi_wp2
    have hle := HI.out.le
    refine ⟨HI.out.mv (Mv.of_below hBa), Rv.of_below hBa (by omega), fun W2 HI2 hbz => ?_⟩
    have hS0' : Box W2 V.heap.size e.k e.i e.t (.slice sa e.s.length sc) := hbx.bz hbz
    obtain ⟨vs0, g1⟩ := HI.out.rows
    have hrow2 : W2.heap[B]? = some (.cells vs0.toArray 25 (0, 0)) := hbz.cells B _ ((Below.heap_alloc _ _ _ (by omega)).trans g1.row) rfl
    obtain ⟨v, HVI⟩ : ∃ v, Hid (vs0[i]? = some v) := ⟨_, List.getElem?_eq_getElem (by rw [g1.len, partsK_len]; exact hil)⟩
    have HB9 : Hid (v.ownBlock ≠ some V.heap.size) := fun e9 => by have := (g1.own HVI.out e9).2.1; omega
    have HBB : Hid (v.ownBlock ≠ some (B + 1)) := fun e9 => (g1.own HVI.out e9).2.2.1 (.inr rfl)
    obtain ⟨va, vn, vc, hv0⟩ : ∃ va vn vc, v = .slice va vn vc := by
      obtain ⟨a, c, h9⟩ := (g1.logs i v _ HVI.out (partsK_get hil)).slice
      exact ⟨_, _, _, h9⟩
    subst hv0
    have hup2 : ∀ b, TB b → b < W2.heap.size := fun b hb => by have := hup b hb; have := hS0'.lt; omega
    have HBN : Hid (V.heap.size ≠ B) := by show _ ≠ _; omega
    generalize V.heap.size = b9 at *
    have hMd : SpS B w1 xs n k W2.drew TB := HI2.out.mv (Mv.drew _ _)
    have hcg : W2.drew.cell? ⟨B, i, none⟩ = some (.slice va vn vc) := by
      have h9 : W2.drew.heap[B]? = some (.cells vs0.toArray 25 (0, 0)) := hrow2
      rw [cell_row h9, List.getElem?_toArray]
      exact HVI.out
    have HFR : Hid _ := fresh_any e (.slice sa e.s.length sc) W2.drew (RI.later HRI.out (by rw [HBe.out]; exact hMd.bel)) (by rw [HSL.out]; exact hL1) (by rw [HSL.out]; omega)
    unfold EvV at HFR
    have HPU : Hid (∀ W3, Below W2.drew.heap.size W2.drew W3 → ∀ g c, OI W2.drew.heap.size W3 g e.s.length c e.s → _) := fun W3 h3 g c h4 => SpS.push hMd hup2 HXK.out hil (by have := HLN.out; omega) (vs := vs0) hrow2 h3 h4 (by rw [HSL.out]; omega)
    have hS0 : Boxed W2.drew (B + 1) 22 (.slice (some ⟨B, 0, none⟩) n n) ∧ Box W2.drew b9 e.k e.i e.t (.slice sa e.s.length sc) := ⟨HI2.out.bl, hS0'⟩
    have hin : (i : Int) < (n : Int) := by omega
    clear hBa hbx hbz HI g1 hMd hS0' hup hlt HI2
    gi_wp2
    refine wpIn_mono (Q := fun e' a' w' => e' = Exit.normal ∧ SpS B w1 xs n (k + 1) w' TB ∧ Rv B TB W2.drew w' ∧ ∃ z23 z24 z25 z26 z27 z28 z29 z30 z31 z32 z33 : Value, a' = { tmps := #[.slice ha m hc, .int .i64 (n : Int), undef, undef, .slice none 0 0, .int .i64 0, .int .i64 0, .pointer (some ⟨B + 1, 0, none⟩), .int .i64 (i : Int), .pointer (some ⟨b9, 0, none⟩), .slice ha m hc, .int .i64 (n : Int), .int .i64 0, .int .i64 0, .bool false, undef, .int .i64 (n : Int), .slice (some ⟨B, 0, none⟩) n n, .slice ha m hc, .int .i64 (n : Int), .func (.func 39) #[] #[.pointer (some ⟨B + 1 + 1 + 1, 0, none⟩), .pointer (some ⟨B + 1 + 1, 0, none⟩)], .int .i64 (i : Int), .agg #[.int .i64 e.k, .int .i64 e.i, .int .i64 e.t, .slice sa e.s.length sc], z23, z24, z25, z26, z27, z28, z29, z30, z31, z32, z33, undef], defers := [] }) (regionH_round (S := fun wx => Boxed wx (B + 1) 22 (.slice (some ⟨B, 0, none⟩) n n) ∧ Box wx b9 e.k e.i e.t (.slice sa e.s.length sc)) l' mm (by kernel_rfl) (noDefer_all (by kernel_rfl)) (fun ⟨_, _, h⟩ => by cases h.1) ?_) ?_
    · simp only [List.size_toArray, List.length_cons, List.length_nil, Nat.reduceAdd, Array.replicate_succ, Array.replicate_zero, List.push_toArray, List.nil_append, List.cons_append]
      refine takeD (i := 0) (d := 23) (v := (.slice (some ⟨B, 0, none⟩) n n)) (fuel := 11) rfl rfl (by kernel_rfl) (by kernel_rfl) (by kernel_rfl) (fun _ _ _ h => by cases h.1) (.inl ⟨by kernel_rfl, fun w9 hw9 => by have z0 := Boxed.cell hw9.1; go_simp⟩) hS0 ?_
      simp only [List.setIfInBounds_toArray, List.set_cons_succ, List.set_cons_zero]
      refine takeD (i := 1) (d := 24) (v := .int .i64 (i : Int)) (fuel := 10) rfl rfl (by kernel_rfl) (by kernel_rfl) (by kernel_rfl) (fun _ _ _ h => by cases h.1) (.inl ⟨by kernel_rfl, fun _ _ => by kernel_rfl⟩) hS0 ?_
      simp only [List.setIfInBounds_toArray, List.set_cons_succ, List.set_cons_zero]
      refine takeD (i := 2) (d := 25) (v := (.slice (some ⟨B, 0, none⟩) n n)) (fuel := 9) rfl rfl (by kernel_rfl) (by kernel_rfl) (by kernel_rfl) (fun _ _ _ h => by cases h.1) (.inl ⟨by kernel_rfl, fun w9 hw9 => by have z0 := Boxed.cell hw9.1; go_simp⟩) hS0 ?_
      simp only [List.setIfInBounds_toArray, List.set_cons_succ, List.set_cons_zero]
      refine takeD (i := 3) (d := 26) (v := .int .i64 (i : Int)) (fuel := 8) rfl rfl (by kernel_rfl) (by kernel_rfl) (by kernel_rfl) (fun _ _ _ h => by cases h.1) (.inl ⟨by kernel_rfl, fun _ _ => by kernel_rfl⟩) hS0 ?_
      simp only [List.setIfInBounds_toArray, List.set_cons_succ, List.set_cons_zero]
      refine takeD (i := 4) (d := 27) (v := .pointer (some ⟨B, i, none⟩)) (fuel := 7) rfl rfl (by kernel_rfl) (by kernel_rfl) (by kernel_rfl) (fun _ _ _ h => by cases h.1) (.inl ⟨by kernel_rfl, fun _ _ => by go_simp⟩) hS0 ?_
      simp only [List.setIfInBounds_toArray, List.set_cons_succ, List.set_cons_zero]
      refine takeD (i := 6) (d := 29) (v := .agg #[.int .i64 e.k, .int .i64 e.i, .int .i64 e.t, .slice sa e.s.length sc]) (fuel := 6) rfl rfl (by kernel_rfl) (by kernel_rfl) (by kernel_rfl) (fun _ _ _ h => by cases h.1) (.inl ⟨by kernel_rfl, fun w9 hw9 => by have z0 := Box.c0 hw9.2; have z1 := Box.c1 hw9.2; have z2 := Box.c2 hw9.2; have z3 := Box.c3 hw9.2; go_simp⟩) hS0 ?_
      simp only [List.setIfInBounds_toArray, List.set_cons_succ, List.set_cons_zero]
      refine wpAnyH_all (fuel := 5) (rs := [5, 7]) (by kernel_rfl) (by decide) ?_
      refine List.forall_mem_cons.2 ⟨?_, List.forall_mem_singleton.2 ?_⟩
      · refine wpOp_value (i := 5) (d := 28) (v := .slice va vn vc) (w' := W2.drew) rfl rfl (by kernel_rfl) (by go_simp) ?_
        refine ⟨hS0, ?_⟩
        simp only [List.setIfInBounds_toArray, List.set_cons_succ, List.set_cons_zero]
        refine wpAnyH_all (fuel := 4) (rs := [7]) (by kernel_rfl) (by decide) (List.forall_mem_singleton.2 ?_)
        refine wpOp_calls (i := 7) (d := 30) rfl rfl (by kernel_rfl) (f := 26) (args := #[.agg #[.int .i64 e.k, .int .i64 e.i, .int .i64 e.t, .slice sa e.s.length sc]]) (by kernel_rfl) _ HFR.out ?_ (fun _ _ h => by obtain ⟨_, _, h1, _⟩ := h; cases h1) (fun _ h => by obtain ⟨_, _, h1, _⟩ := h; cases h1)
        rintro vA W3 ⟨g, c, hvA, ho3, hb3⟩
        cases hvA
        obtain ⟨v, ua, um, uc, W4, hvv, hr4, hk4, hrw4, hM4, hR4⟩ := HPU.out W3 hb3 g c ho3
        obtain rfl : v = .slice va vn vc := Option.some.inj (hvv.symm.trans HVI.out)
        have hq1 : Boxed W3 (B + 1) 22 (.slice (some ⟨B, 0, none⟩) n n) ∧ Box W3 b9 e.k e.i e.t (.slice sa e.s.length sc) := ⟨(hb3.block _ hS0.1.lt).trans hS0.1, Box.later hS0.2 hb3⟩
        have hcg1 : W3.cell? ⟨B, i, none⟩ = some (.slice va vn vc) := cell_later hb3 hcg
        have hq4 : Boxed W4 (B + 1) 22 (.slice (some ⟨B, 0, none⟩) n n) ∧ Box W4 b9 e.k e.i e.t (.slice sa e.s.length sc) := ⟨(hk4 _ hS0.1.lt HBB.out).trans hS0.1, (hk4 b9 (Box.lt hS0.2) HB9.out).trans hS0.2⟩
        have hc4 : W4.cell? ⟨B, i, none⟩ = some (.slice va vn vc) := by rw [cell_row hrw4, List.getElem?_toArray]; exact HVI.out
        have hf4 : W4.frozen? ⟨B, i, none⟩ = false := froz_row hrw4 i
        refine ⟨hq1, ?_⟩
        simp only [List.setIfInBounds_toArray, List.set_cons_succ, List.set_cons_zero]
        refine wpAnyH_all (fuel := 3) (rs := [8]) (by kernel_rfl) (by decide) (List.forall_mem_singleton.2 ?_)
        refine wpOp_value (i := 8) (d := 31) (v := .slice (some ⟨W3.heap.size, 0, none⟩) 1 1) (w' := W3.alloc (.cells #[.int .i64 e.k, .int .i64 e.i, .int .i64 e.t, .slice (some ⟨g, 0, none⟩) e.s.length c] 45)) rfl rfl (by kernel_rfl) (by go_simp) ?_
        refine ⟨⟨hq1.1.alloc _, Box.alloc hq1.2 _⟩, ?_⟩
        simp only [List.setIfInBounds_toArray, List.set_cons_succ, List.set_cons_zero]
        refine wpAnyH_all (fuel := 2) (rs := [9]) (by kernel_rfl) (by decide) (List.forall_mem_singleton.2 ?_)
        refine wpOp_value (i := 9) (d := 32) (v := .slice ua um uc) (w' := W4) rfl rfl (by kernel_rfl) (by simp [execOp, resolve, invoke, builtin, hr4, Result.andThen, Act.eval]) ?_
        refine ⟨hq4, ?_⟩
        simp only [List.setIfInBounds_toArray, List.set_cons_succ, List.set_cons_zero]
        refine wpAnyH_all (fuel := 1) (rs := [10]) (by kernel_rfl) (by decide) (List.forall_mem_singleton.2 ?_)
        refine wpOp_value (i := 10) (d := 33) (v := .pointer (some ⟨B, i, none⟩)) (w' := W4) rfl rfl (by kernel_rfl) (by go_simp) ?_
        refine ⟨hq4, ?_⟩
        simp only [List.setIfInBounds_toArray, List.set_cons_succ, List.set_cons_zero]
        refine wpAnyH_all (fuel := 0) (rs := [11]) (by kernel_rfl) (by decide) (List.forall_mem_singleton.2 ?_)
        refine wpOp_skip (i := 11) (w' := W4.setCell ⟨B, i, none⟩ (.slice ua um uc)) rfl rfl (by kernel_rfl) (by go_simp) ?_
        refine ⟨⟨(Below.heap_setCell W4 ⟨B, i, none⟩ (.slice ua um uc) (B + 1) (by show B + 1 ≠ B; omega)).trans hq4.1, Box.other hq4.2 HBN.out⟩, by kernel_rfl, ?_⟩
        exact ⟨rfl, hM4, hR4, _, _, _, _, _, _, _, _, _, _, _, rfl⟩
      · refine wpOp_calls (i := 7) (d := 30) rfl rfl (by kernel_rfl) (f := 26) (args := #[.agg #[.int .i64 e.k, .int .i64 e.i, .int .i64 e.t, .slice sa e.s.length sc]]) (by kernel_rfl) _ HFR.out ?_ (fun _ _ h => by obtain ⟨_, _, h1, _⟩ := h; cases h1) (fun _ h => by obtain ⟨_, _, h1, _⟩ := h; cases h1)
        rintro vA W3 ⟨g, c, hvA, ho3, hb3⟩
        cases hvA
        obtain ⟨v, ua, um, uc, W4, hvv, hr4, hk4, hrw4, hM4, hR4⟩ := HPU.out W3 hb3 g c ho3
        obtain rfl : v = .slice va vn vc := Option.some.inj (hvv.symm.trans HVI.out)
        have hq1 : Boxed W3 (B + 1) 22 (.slice (some ⟨B, 0, none⟩) n n) ∧ Box W3 b9 e.k e.i e.t (.slice sa e.s.length sc) := ⟨(hb3.block _ hS0.1.lt).trans hS0.1, Box.later hS0.2 hb3⟩
        have hcg1 : W3.cell? ⟨B, i, none⟩ = some (.slice va vn vc) := cell_later hb3 hcg
        have hq4 : Boxed W4 (B + 1) 22 (.slice (some ⟨B, 0, none⟩) n n) ∧ Box W4 b9 e.k e.i e.t (.slice sa e.s.length sc) := ⟨(hk4 _ hS0.1.lt HBB.out).trans hS0.1, (hk4 b9 (Box.lt hS0.2) HB9.out).trans hS0.2⟩
        have hc4 : W4.cell? ⟨B, i, none⟩ = some (.slice va vn vc) := by rw [cell_row hrw4, List.getElem?_toArray]; exact HVI.out
        have hf4 : W4.frozen? ⟨B, i, none⟩ = false := froz_row hrw4 i
        refine ⟨hq1, ?_⟩
        simp only [List.setIfInBounds_toArray, List.set_cons_succ, List.set_cons_zero]
        refine wpAnyH_all (fuel := 4) (rs := [5, 8]) (by kernel_rfl) (by decide) ?_
        refine List.forall_mem_cons.2 ⟨?_, List.forall_mem_singleton.2 ?_⟩
        · refine wpOp_value (i := 5) (d := 28) (v := .slice va vn vc) (w' := W3) rfl rfl (by kernel_rfl) (by go_simp) ?_
          refine ⟨hq1, ?_⟩
          simp only [List.setIfInBounds_toArray, List.set_cons_succ, List.set_cons_zero]
          refine wpAnyH_all (fuel := 3) (rs := [8]) (by kernel_rfl) (by decide) (List.forall_mem_singleton.2 ?_)
          refine wpOp_value (i := 8) (d := 31) (v := .slice (some ⟨W3.heap.size, 0, none⟩) 1 1) (w' := W3.alloc (.cells #[.int .i64 e.k, .int .i64 e.i, .int .i64 e.t, .slice (some ⟨g, 0, none⟩) e.s.length c] 45)) rfl rfl (by kernel_rfl) (by go_simp) ?_
          refine ⟨⟨hq1.1.alloc _, Box.alloc hq1.2 _⟩, ?_⟩
          simp only [List.setIfInBounds_toArray, List.set_cons_succ, List.set_cons_zero]
          refine wpAnyH_all (fuel := 2) (rs := [9]) (by kernel_rfl) (by decide) (List.forall_mem_singleton.2 ?_)
          refine wpOp_value (i := 9) (d := 32) (v := .slice ua um uc) (w' := W4) rfl rfl (by kernel_rfl) (by simp [execOp, resolve, invoke, builtin, hr4, Result.andThen, Act.eval]) ?_
          refine ⟨hq4, ?_⟩
          simp only [List.setIfInBounds_toArray, List.set_cons_succ, List.set_cons_zero]
          refine wpAnyH_all (fuel := 1) (rs := [10]) (by kernel_rfl) (by decide) (List.forall_mem_singleton.2 ?_)
          refine wpOp_value (i := 10) (d := 33) (v := .pointer (some ⟨B, i, none⟩)) (w' := W4) rfl rfl (by kernel_rfl) (by go_simp) ?_
          refine ⟨hq4, ?_⟩
          simp only [List.setIfInBounds_toArray, List.set_cons_succ, List.set_cons_zero]
          refine wpAnyH_all (fuel := 0) (rs := [11]) (by kernel_rfl) (by decide) (List.forall_mem_singleton.2 ?_)
          refine wpOp_skip (i := 11) (w' := W4.setCell ⟨B, i, none⟩ (.slice ua um uc)) rfl rfl (by kernel_rfl) (by go_simp) ?_
          refine ⟨⟨(Below.heap_setCell W4 ⟨B, i, none⟩ (.slice ua um uc) (B + 1) (by show B + 1 ≠ B; omega)).trans hq4.1, Box.other hq4.2 HBN.out⟩, by kernel_rfl, ?_⟩
          exact ⟨rfl, hM4, hR4, _, _, _, _, _, _, _, _, _, _, _, rfl⟩
        · refine wpOp_value (i := 8) (d := 31) (v := .slice (some ⟨W3.heap.size, 0, none⟩) 1 1) (w' := W3.alloc (.cells #[.int .i64 e.k, .int .i64 e.i, .int .i64 e.t, .slice (some ⟨g, 0, none⟩) e.s.length c] 45)) rfl rfl (by kernel_rfl) (by go_simp) ?_
          refine ⟨⟨hq1.1.alloc _, Box.alloc hq1.2 _⟩, ?_⟩
          simp only [List.setIfInBounds_toArray, List.set_cons_succ, List.set_cons_zero]
          refine wpAnyH_all (fuel := 3) (rs := [5]) (by kernel_rfl) (by decide) (List.forall_mem_singleton.2 ?_)
          have hcg2 := cell_later ((Below.refl W3.heap.size W3).alloc (Nat.le_refl _) (.cells #[.int .i64 e.k, .int .i64 e.i, .int .i64 e.t, .slice (some ⟨g, 0, none⟩) e.s.length c] 45)) hcg1
          refine wpOp_value (i := 5) (d := 28) (v := .slice va vn vc) (w' := W3.alloc (.cells #[.int .i64 e.k, .int .i64 e.i, .int .i64 e.t, .slice (some ⟨g, 0, none⟩) e.s.length c] 45)) rfl rfl (by kernel_rfl) (by go_simp) ?_
          refine ⟨⟨hq1.1.alloc _, Box.alloc hq1.2 _⟩, ?_⟩
          simp only [List.setIfInBounds_toArray, List.set_cons_succ, List.set_cons_zero]
          refine wpAnyH_all (fuel := 2) (rs := [9]) (by kernel_rfl) (by decide) (List.forall_mem_singleton.2 ?_)
          refine wpOp_value (i := 9) (d := 32) (v := .slice ua um uc) (w' := W4) rfl rfl (by kernel_rfl) (by simp [execOp, resolve, invoke, builtin, hr4, Result.andThen, Act.eval]) ?_
          refine ⟨hq4, ?_⟩
          simp only [List.setIfInBounds_toArray, List.set_cons_succ, List.set_cons_zero]
          refine wpAnyH_all (fuel := 1) (rs := [10]) (by kernel_rfl) (by decide) (List.forall_mem_singleton.2 ?_)
          refine wpOp_value (i := 10) (d := 33) (v := .pointer (some ⟨B, i, none⟩)) (w' := W4) rfl rfl (by kernel_rfl) (by go_simp) ?_
          refine ⟨hq4, ?_⟩
          simp only [List.setIfInBounds_toArray, List.set_cons_succ, List.set_cons_zero]
          refine wpAnyH_all (fuel := 0) (rs := [11]) (by kernel_rfl) (by decide) (List.forall_mem_singleton.2 ?_)
          refine wpOp_skip (i := 11) (w' := W4.setCell ⟨B, i, none⟩ (.slice ua um uc)) rfl rfl (by kernel_rfl) (by go_simp) ?_
          refine ⟨⟨(Below.heap_setCell W4 ⟨B, i, none⟩ (.slice ua um uc) (B + 1) (by show B + 1 ≠ B; omega)).trans hq4.1, Box.other hq4.2 HBN.out⟩, by kernel_rfl, ?_⟩
          exact ⟨rfl, hM4, hR4, _, _, _, _, _, _, _, _, _, _, _, rfl⟩
    · rintro e' a' w6 ⟨rfl, hM6, hR6, z23, z24, z25, z26, z27, z28, z29, z30, z31, z32, z33, rfl⟩
      have HR6 : Hid (Rv B TB W2 w6) := (Rv.drew W2).trans hR6
      have HM6 : Hid (SpS B w1 xs n (k + 1) w6 TB) := hM6
      clear hM6 hR6 HPU HFR hcg hS0
      gi_wp2
      exact ⟨HM6, HR6.out⟩
  case done =>
    rintro W T2 HI hold hup hdef hts
    have h2 := HI.out
    obtain ⟨vs, hrows⟩ := h2.rows
    rw [HSZ.out] at hdef hts ⊢
    have HTS : Hid _ := hts
    have HRS : Hid (RwR (B + 2) B W (fun b => T2 b ∨ b = B + 1) vs (partsK n xs xs.length)) := hrows
    have HBL : Hid (Below w1.heap.size w1 W) := by rw [HBe.out]; exact h2.bel
    have HDF : Hid _ := hdef
    have c0 := h2.bl.cell
    clear h2 hrows hdef hold hup hsz HI hts H0 HITB
    gi_wp2
    refine ⟨by simp, .inl ⟨_, _, rfl, run_takeDeferred HDF.out, ?_⟩⟩
    have hk : ∀ b, b ≠ B + 4 → (W.putObj (B + 4) (.deferred none)).heap[b]? = W.heap[b]? := fun b hb => World.putObj_heap_other hb
    have hrw : RwR (B + 2) B (W.putObj (B + 4) (.deferred none)) (fun b => T2 b ∨ b = B + 1) vs (partsK n xs xs.length) := HRS.out.kept (fun b b2 b3 => hk b (fun e => b3 (.inl (by rw [e]; exact HTS.out)))) (fun _ _ h => h) (by simp [World.putObj])
    obtain ⟨r1, r2⟩ := hrw.rre (by rw [partsK_len]; exact hL)
    rw [partsK_len] at r1
    refine ⟨.tuple #[.slice (some ⟨B, 0, none⟩) n n, .int .i64 0], by simp [results, Try.f16, go_sem], some ⟨B, 0, none⟩, rfl, r1, r2, ?_⟩
    have hq := HBL.out
    have hs := HB1.out.size
    have hBB := HBe.out
    exact HB1.out.trans ⟨hq.os, hq.tape, hq.output, by have := hq.size; simp [World.putObj]; omega, fun k hk2 => (hk k (by omega)).trans (hq.block k (by omega))⟩

theorem split_no (hv : Value) (Hs : List EvP) (n : Int) (w : World) (hh : REv w hv Hs) (hHs : Hs.length ≤ 100000) (hno : histB n Hs = false) :
    Calls Try.prog 16 #[hv, .int .i64 n] w fun e w' => e = .returned (.tuple #[.slice none 0 0, .int .i64 2]) ∧ Below w.heap.size w w' := by
  have HCK : Hid _ := check_any hv Hs n w hh (by omega)
  rw [show chkE n Hs = 2 by unfold chkE; rw [hno]; rfl] at HCK
  obtain ⟨ha, hc, rfl⟩ := hh.slice
  clear hh
  generalize Hs.length = m at *
  refine (callsIn_wide (n := 0)).1 ?_
  refine callsIn_of_wp_marks Try.func16 rfl trivial ?_ rfl
  simp only [Try.ntmps16, List.size_toArray, List.length_cons, List.length_nil, Nat.reduceAdd, Nat.reduceSub, Array.replicate_succ, Array.replicate_zero, List.push_toArray, List.append_toArray, List.nil_append, List.cons_append]
  gi_wp2
  refine ⟨trivial, rfl, (callsIn_wide.2 HCK.out).mono ?_⟩
  rintro e w1 ⟨rfl, hb1⟩
  have HB1 : Hid (Below w.heap.size w w1) := hb1
  clear HCK hb1
  gi_wp2
  exact ⟨.tuple #[.slice none 0 0, .int .i64 2], by simp [results, Try.f16, go_sem], rfl, HB1.out⟩
end Go.Proofs.Ytamfpmpooaejkaa
