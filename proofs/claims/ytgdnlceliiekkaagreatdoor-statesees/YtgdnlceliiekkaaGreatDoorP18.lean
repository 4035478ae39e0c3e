/- Texts of the seat, packed: Ll. -/
import Derived.Test.YtgdnlceliiekkaaGreatDoorP17
/- boardOf. -/
namespace Go.Proofs.YtgdnlceliiekkaaGreatDoor.Sa
open Go.RowKit Go.Shelf Go.Proofs.YtgdnlceliiekkaaGreatDoor.Fc Go.Proofs.YtgdnlceliiekkaaGreatDoor.St
set_option maxRecDepth 1000000
set_option linter.unusedVariables false

variable {p : Pl} {f : Nat → Fa} {xb xo icap fb fo lcap : Nat} {w : World} {n : Nat}

/-- A board of a plan and facts. -/
structure BdIs (p : Pl) (f : Nat → Fa) (w : World) (d : Nat) (w' : World) : Prop where
  bel : Below w.heap.size w w'
  low : w.heap.size ≤ d
  ex : ∃ (S A : Nat → Int) (C : Nat → Bool), w'.heap[d]? = some (.cells (brdL p.n S A (Mf p f) C).toArray 55 (0, 0)) ∧ Upk p f p.n S A ∧ ∀ i, i < p.n → C i = (W p f i).clean

theorem sd_init (w : World) (v lv : Value) : Sd w (w.heap.size + 1) v lv (fun _ _ => false) ((w.alloc (.cells #[v] 24)).alloc (.cells ((Tryz.zeroCells95.setIfInBounds 0 v).setIfInBounds 1 lv) 95)) := by
  rw [zero95]
  have hb1 := bl1 w (.cells #[v] 24)
  refine ⟨hb1.alloc (by simp) _, by omega, ?_⟩
  have := Dg.row_new (w.alloc (.cells #[v] 24)) (stL v lv fun _ _ => false).toArray 95
  rw [World.size_alloc] at this
  exact this

set_option maxHeartbeats 16000000 in
theorem boardOf_any (hB : Bs p f xb xo icap fb fo lcap w) (hn : p.n = n) :
    Calls Tryz.prog 30 #[.agg #[.slice (some ⟨xb, xo, none⟩) n icap], .slice (some ⟨fb, fo, none⟩) n lcap] w fun e w' => ∃ d, e = .returned (.pointer (some ⟨d, 0, none⟩)) ∧ BdIs p f w d w' := by
  have hle : n ≤ 64 := by have := hB.le; omega
  have hic : n ≤ icap := by have := hB.icap; omega
  have hlc : n ≤ lcap := by have := hB.lcap; omega
  have r0 := Dg.row_new w #[.slice (some ⟨xb, xo, none⟩) n icap] 24
  have c0 := (Dg.cell_row r0 0).trans rfl
  have HS0 : Hid _ := sd_init w (.slice (some ⟨xb, xo, none⟩) n icap) (.slice (some ⟨fb, fo, none⟩) n lcap)
  have HB : Hid _ := hB
  have HN : Hid _ := hn
  clear r0 hB hn
  go_enter Tryz.func30, Tryz.ntmps30
  go_wp2_with fail
  generalize (w.alloc (.cells #[.slice (some ⟨xb, xo, none⟩) n icap] 24)).alloc (.cells ((Tryz.zeroCells95.setIfInBounds 0 (.slice (some ⟨xb, xo, none⟩) n icap)).setIfInBounds 1 (.slice (some ⟨fb, fo, none⟩) n lcap)) 95) = w1 at *
  generalize w.heap.size + 1 = b at *
  clear c0
  refine Calls.mono (mark0_any HB.out HN.out HS0.out) ?_
  rintro e w2 ⟨rfl, m1, hS1, hA1⟩
  have HS1 : Hid _ := hS1
  have HA1 : Hid _ := hA1
  clear hS1 hA1 HS0
  go_wp2_with fail
  refine Calls.mono (mark1_any HB.out HN.out HS1.out) ?_
  rintro e w3 ⟨rfl, m2, hS2, hA2⟩
  have HS2 : Hid _ := hS2
  have HA2 : Hid _ := hA2
  clear hS2 hA2 HS1
  go_wp2_with fail
  refine Calls.mono (mark2_any HB.out HN.out HS2.out (fun i hi => HA2.out.from_ i (by omega) hi)) ?_
  rintro e w4 ⟨rfl, m3, hS3, hA3⟩
  have HS3 : Hid _ := hS3
  have HA3 : Hid _ := hA3
  clear hS3 hA3 HS2
  go_wp2_with fail
  refine Calls.mono (mark3_any HB.out HN.out HS3.out (fun i hi => (HA3.out.rest 1 i (by decide)).trans (HA2.out.from_ i (by omega) hi)) (fun i hi => HA3.out.from_ i (by omega) hi)) ?_
  rintro e w5 ⟨rfl, m4, hS4, hA4⟩
  have HMO : Hid (Mok p f n m4) := ⟨fun i hi => (hA4.rest 0 i (by decide)).trans ((HA3.out.rest 0 i (by decide)).trans ((HA2.out.rest 0 i (by decide)).trans (HA1.out.from_ i (by omega) hi))), fun i hi => (hA4.rest 1 i (by decide)).trans ((HA3.out.rest 1 i (by decide)).trans (HA2.out.from_ i (by omega) hi)), fun i hi => (hA4.rest 2 i (by decide)).trans (HA3.out.from_ i (by omega) hi), fun i hi => hA4.from_ i (by omega) hi⟩
  have HS4 : Hid _ := hS4
  clear hS4 hA4 HS3 HA1 HA2 HA3 m1 m2 m3
  go_wp2_with fail
  have hS0 : Sd w b (.slice (some ⟨xb, xo, none⟩) n icap) (.slice (some ⟨fb, fo, none⟩) n lcap) m4 w5.drew := HS4.out.later (Below.refl _ _).drew
  have hCUR : Sd w b (.slice (some ⟨xb, xo, none⟩) n icap) (.slice (some ⟨fb, fo, none⟩) n lcap) m4 w5.drew := hS0
  have HFA : Hid (∀ wx, Sd w b (.slice (some ⟨xb, xo, none⟩) n icap) (.slice (some ⟨fb, fo, none⟩) n lcap) m4 wx → Calls Tryz.prog 45 #[.pointer (some ⟨b, 0, none⟩)] wx fun e w' => e = .returned (.agg (bodL (Mf p f)).toArray) ∧ Sd w b (.slice (some ⟨xb, xo, none⟩) n icap) (.slice (some ⟨fb, fo, none⟩) n lcap) m4 w') := fun wx h => Calls.mono (fallingM_any HB.out HN.out h HMO.out) (by rintro e w' ⟨rfl, hb⟩; exact ⟨rfl, h.later hb⟩)
  refine region_thenG (β := Nat) (fun d => [(42, .pointer (some ⟨b, 0, none⟩)), (43, .pointer (some ⟨b, 0, none⟩)), (44, .pointer (some ⟨b, 0, none⟩)), (45, .slice (some ⟨xb, xo, none⟩) n icap), (46, .int .i64 n), (47, .pointer (some ⟨b, 0, none⟩)), (48, .pointer (some ⟨b, 0, none⟩)), (49, .pointer (some ⟨b, 66, none⟩)), (50, .agg (mrkL (m4 1)).toArray), (51, .pointer (some ⟨b, 0, none⟩)), (52, .agg (bodL (Mf p f)).toArray), (53, .agg (brdL (n : Int) (fun _ => 0) (fun _ => 0) (Mf p f) (m4 1)).toArray), (54, .pointer (some ⟨d, 0, none⟩)), (6, .pointer (some ⟨d, 0, none⟩))]) (fun d w' => Bl w b d (.slice (some ⟨xb, xo, none⟩) n icap) (.slice (some ⟨fb, fo, none⟩) n lcap) m4 (n : Int) (fun _ => 0) (fun _ => 0) (Mf p f) (m4 1) w') ?_ ?_
  · refine wp_region_held (S := fun w' => Sd w b (.slice (some ⟨xb, xo, none⟩) n icap) (.slice (some ⟨fb, fo, none⟩) n lcap) m4 w') (by kernel_rfl) ?_
    simp only [List.size_toArray, List.length_cons, List.length_nil, Nat.reduceAdd, Array.replicate_succ, Array.replicate_zero, List.push_toArray, List.nil_append, List.cons_append]
    refine takeD (i := 0) (d := 42) (v := .pointer (some ⟨b, 0, none⟩)) (fuel := 13) rfl rfl (by kernel_rfl) (by kernel_rfl) (by kernel_rfl) (fun _ _ _ h => by cases h.1) (.inl ⟨by kernel_rfl, fun _ _ => by kernel_rfl⟩) hS0 ?_
    simp only [List.setIfInBounds_toArray, List.set_cons_succ, List.set_cons_zero]
    refine takeD (i := 1) (d := 43) (v := .pointer (some ⟨b, 0, none⟩)) (fuel := 12) rfl rfl (by kernel_rfl) (by kernel_rfl) (by kernel_rfl) (fun _ _ _ h => by cases h.1) (.inl ⟨by kernel_rfl, fun _ _ => by go_simp⟩) hS0 ?_
    simp only [List.setIfInBounds_toArray, List.set_cons_succ, List.set_cons_zero]
    refine takeD (i := 2) (d := 44) (v := .pointer (some ⟨b, 0, none⟩)) (fuel := 11) rfl rfl (by kernel_rfl) (by kernel_rfl) (by kernel_rfl) (fun _ _ _ h => by cases h.1) (.inl ⟨by kernel_rfl, fun _ _ => by go_simp⟩) hS0 ?_
    simp only [List.setIfInBounds_toArray, List.set_cons_succ, List.set_cons_zero]
    refine takeD (i := 3) (d := 45) (v := .slice (some ⟨xb, xo, none⟩) n icap) (fuel := 10) rfl rfl (by kernel_rfl) (by kernel_rfl) (by kernel_rfl) (fun _ _ _ h => by cases h.1) (.inl ⟨by kernel_rfl, fun wx h => by have z0 := h.c0; go_simp⟩) hS0 ?_
    simp only [List.setIfInBounds_toArray, List.set_cons_succ, List.set_cons_zero]
    refine takeD (i := 4) (d := 46) (v := .int .i64 n) (fuel := 9) rfl rfl (by kernel_rfl) (by kernel_rfl) (by kernel_rfl) (fun _ _ _ h => by cases h.1) (.inl ⟨by kernel_rfl, fun _ _ => by go_simp⟩) hS0 ?_
    simp only [List.setIfInBounds_toArray, List.set_cons_succ, List.set_cons_zero]
    refine takeD (i := 5) (d := 47) (v := .pointer (some ⟨b, 0, none⟩)) (fuel := 8) rfl rfl (by kernel_rfl) (by kernel_rfl) (by kernel_rfl) (fun _ _ _ h => by cases h.1) (.inl ⟨by kernel_rfl, fun _ _ => by kernel_rfl⟩) hS0 ?_
    simp only [List.setIfInBounds_toArray, List.set_cons_succ, List.set_cons_zero]
    refine takeD (i := 6) (d := 48) (v := .pointer (some ⟨b, 0, none⟩)) (fuel := 7) rfl rfl (by kernel_rfl) (by kernel_rfl) (by kernel_rfl) (fun _ _ _ h => by cases h.1) (.inl ⟨by kernel_rfl, fun _ _ => by go_simp⟩) hS0 ?_
    simp only [List.setIfInBounds_toArray, List.set_cons_succ, List.set_cons_zero]
    refine takeD (i := 7) (d := 49) (v := .pointer (some ⟨b, 66, none⟩)) (fuel := 6) rfl rfl (by kernel_rfl) (by kernel_rfl) (by kernel_rfl) (fun _ _ _ h => by cases h.1) (.inl ⟨by kernel_rfl, fun _ _ => by go_simp⟩) hS0 ?_
    simp only [List.setIfInBounds_toArray, List.set_cons_succ, List.set_cons_zero]
    refine takeD (i := 8) (d := 50) (v := .agg (mrkL (m4 1)).toArray) (fuel := 5) rfl rfl (by kernel_rfl) (by kernel_rfl) (by kernel_rfl) (fun _ _ _ h => by cases h.1) (.inl ⟨by kernel_rfl, fun wx h => load53 h (x := .tmp 49) rfl rfl⟩) hS0 ?_
    simp only [List.setIfInBounds_toArray, List.set_cons_succ, List.set_cons_zero]
    refine takeD (i := 9) (d := 51) (v := .pointer (some ⟨b, 0, none⟩)) (fuel := 4) rfl rfl (by kernel_rfl) (by kernel_rfl) (by kernel_rfl) (fun _ _ _ h => by cases h.1) (.inl ⟨by kernel_rfl, fun _ _ => by kernel_rfl⟩) hS0 ?_
    simp only [List.setIfInBounds_toArray, List.set_cons_succ, List.set_cons_zero]
    refine oneW (R := fun w' => Sd w b (.slice (some ⟨xb, xo, none⟩) n icap) (.slice (some ⟨fb, fo, none⟩) n lcap) m4 w') (i := 10) (d := 52) (f := 45) (args := #[.pointer (some ⟨b, 0, none⟩)]) (v := .agg (bodL (Mf p f)).toArray) (fuel := 3) rfl rfl (by kernel_rfl) (by kernel_rfl) (fun _ => by kernel_rfl) (HFA.out _ hCUR) (fun w' h => h) (fun wz hR10 => ?_)
    simp only [List.setIfInBounds_toArray, List.set_cons_succ, List.set_cons_zero]
    refine takeD (i := 11) (d := 53) (v := .agg (brdL (n : Int) (fun _ => 0) (fun _ => 0) (Mf p f) (m4 1)).toArray) (fuel := 2) rfl rfl (by kernel_rfl) (by kernel_rfl) (by kernel_rfl) (fun _ _ _ h => by cases h.1) (.inl ⟨by kernel_rfl, fun wx h => build55_run (x := .tmp 46) (y := .tmp 50) (z := .tmp 52) rfl rfl rfl rfl⟩) (hR10) ?_
    simp only [List.setIfInBounds_toArray, List.set_cons_succ, List.set_cons_zero]
    refine wpAnyH_all (fuel := 1) (rs := [12]) (by kernel_rfl) (by decide) (List.forall_mem_singleton.2 ?_)
    refine wpOp_value (i := 12) (d := 54) (v := .pointer (some ⟨wz.heap.size, 0, none⟩)) (w' := wz.alloc (.cells (brdL (n : Int) (fun _ => 0) (fun _ => 0) (Mf p f) (m4 1)).toArray 55)) rfl rfl (by kernel_rfl) (box55_run (x := .tmp 53) rfl rfl) ⟨((hR10)).later (bl1 _ _), ?_⟩
    simp only [List.setIfInBounds_toArray, List.set_cons_succ, List.set_cons_zero]
    have hSm12 : Sd w b (.slice (some ⟨xb, xo, none⟩) n icap) (.slice (some ⟨fb, fo, none⟩) n lcap) m4 (wz.alloc (.cells (brdL (n : Int) (fun _ => 0) (fun _ => 0) (Mf p f) (m4 1)).toArray 55)) := ((hR10)).later (bl1 _ _)
    have hCm12 : Bl w b wz.heap.size (.slice (some ⟨xb, xo, none⟩) n icap) (.slice (some ⟨fb, fo, none⟩) n lcap) m4 (n : Int) (fun _ => 0) (fun _ => 0) (Mf p f) (m4 1) (wz.alloc (.cells (brdL (n : Int) (fun _ => 0) (fun _ => 0) (Mf p f) (m4 1)).toArray 55)) := ⟨hSm12, hR10.bel.size, (by have := (Array.getElem?_eq_some_iff.1 hR10.sb).1; omega), Dg.row_new wz _ 55⟩
    refine takeD (i := 13) (d := 6) (v := .pointer (some ⟨wz.heap.size, 0, none⟩)) (fuel := 0) rfl rfl (by kernel_rfl) (by kernel_rfl) (by kernel_rfl) (fun _ _ _ h => by cases h.1) (.inl ⟨by kernel_rfl, fun _ _ => by kernel_rfl⟩) hSm12 ?_
    simp only [List.setIfInBounds_toArray, List.set_cons_succ, List.set_cons_zero]
    refine wpAnyH_done (by kernel_rfl) ?_ _
    exact ⟨rfl, wz.heap.size, by kernel_rfl, hCm12⟩
  · rintro d w9 hF
    simp only [setAll, List.setIfInBounds_toArray, List.set_cons_succ, List.set_cons_zero]
    have HF9 : Hid _ := hF
    clear hF HFA hS0 hCUR HS4
    have z0 := HF9.out.sd.c0
    go_wp2_with fail
    go_loopw [60] (fun iv wr => ∃ (k : Nat), k ≤ n ∧ iv = .int .i64 k ∧ Hid (∃ S A, Bl w b d (.slice (some ⟨xb, xo, none⟩) n icap) (.slice (some ⟨fb, fo, none⟩) n lcap) m4 (n : Int) S A (Mf p f) (m4 1) wr ∧ Upk p f k S A)) (fun iv _ => n - (intOf iv).toNat)
    case atStart => exact ⟨0, Nat.zero_le _, by go_num, _, _, HF9.out, fun i hi => by omega, fun i hi => by omega⟩
    case round =>
      obtain ⟨k, hk, rfl, HM⟩ := hrel
      rename World => wr

      obtain ⟨S0, A0, hBL, hUp⟩ := HM.out
      by_cases hlt : k < n
      rotate_left
      · obtain rfl : k = n := by omega
        have HBL : Hid _ := hBL
        have HUp : Hid _ := hUp
        clear hBL hUp HM HF9
        go_wp2_with fail
        go_ret
        refine ⟨d, rfl, HBL.out.sd.bel, HBL.out.low, S0, A0, m4 1, ?_, ?_, fun i hi => HMO.out.m1 i (by have := HN.out; omega)⟩
        · rw [HN.out]; exact HBL.out.bd
        · rw [HN.out]; exact HUp.out
      · obtain ⟨s1, s2, zi, za, av, am, ac, k0, k1, k2, k3, k4, k5, k6, k7, hz⟩ := (HB.out.later hBL.sd.bel).it k (by have := HN.out; omega)
        have hii : (k : Int) < (n : Int) := by omega
        have hk64 : (k : Int) < 64 := by omega
        have HBL : Hid _ := hBL
        have HUp : Hid _ := hUp
        have HZ : Hid _ := hz
        have hdx : wr.heap.size ≠ d := by have := (Array.getElem?_eq_some_iff.1 hBL.bd).1; omega
        clear hBL hUp HM HF9 hz
        have HSUB : Hid (p.sub k = p.sub k) := rfl
        obtain ⟨su, HSU⟩ : ∃ su, Hid (p.sub k = su) := ⟨_, rfl⟩
        obtain ⟨vi, HVI⟩ : ∃ vi, Hid (p.vital k = vi) := ⟨_, rfl⟩
        obtain ⟨t, HT⟩ : ∃ t, Hid (p.alts k = t) := ⟨_, rfl⟩
        rw [HSU.out] at k2
        rw [HVI.out] at k3
        rw [HT.out] at k4
        have rx := Dg.row_new wr #[.string s1, .string s2, .bool su, .bool vi, .int .i64 (t : Int), .int .i64 zi, .int .i64 za, .slice av am ac] 37
        have HBX : Hid (Bx w b d wr.heap.size (.slice (some ⟨xb, xo, none⟩) n icap) (.slice (some ⟨fb, fo, none⟩) n lcap) m4 (n : Int) S0 A0 (Mf p f) (m4 1) #[.string s1, .string s2, .bool su, .bool vi, .int .i64 (t : Int), .int .i64 zi, .int .i64 za, .slice av am ac] (wr.alloc (.cells #[.string s1, .string s2, .bool su, .bool vi, .int .i64 (t : Int), .int .i64 zi, .int .i64 za, .slice av am ac] 37))) := ⟨HBL.out.later (bl1 _ _), hdx, rx⟩
        have x0 := (Dg.cell_row rx 0).trans rfl
        have x1 := (Dg.cell_row rx 1).trans rfl
        have x2 := (Dg.cell_row rx 2).trans rfl
        have x3 := (Dg.cell_row rx 3).trans rfl
        have x4 := (Dg.cell_row rx 4).trans rfl
        have x5 := (Dg.cell_row rx 5).trans rfl
        have x6 := (Dg.cell_row rx 6).trans rfl
        have x7 := (Dg.cell_row rx 7).trans rfl
        clear rx HBL
        cases su with
        | false =>
          go_wp2_with fail
          clear k0 k1 k2 k3 k4 k5 k6 k7 x0 x1 x2 x3 x4 x5 x6 x7 hdx
          change Code.wp _ _ _ _ (wr.alloc (.cells #[.string s1, .string s2, .bool false, .bool vi, .int .i64 (t : Int), .int .i64 zi, .int .i64 za, .slice av am ac] 37))
          generalize wr.alloc (.cells #[.string s1, .string s2, .bool false, .bool vi, .int .i64 (t : Int), .int .i64 zi, .int .i64 za, .slice av am ac] 37) = wa at *
          generalize wr.heap.size = x9 at *
          have HFC : Hid (∀ W, Below w.heap.size w W → W.cell? ⟨fb, fo + k * 4, none⟩ = some (.int .i64 (f k).run) ∧ W.cell? ⟨fb, fo + k * 4 + 1, none⟩ = some (.int .i64 (f k).tries) ∧ W.cell? ⟨fb, fo + k * 4 + 2, none⟩ = some (.int .i64 (f k).slips) ∧ W.cell? ⟨fb, fo + k * 4 + 3, none⟩ = some (.bool (f k).un)) := fun W hb => (HB.out.later hb).fa k (by have := HN.out; omega)
          have HF : Hid (FaV (f k) = .agg #[.int .i64 (f k).run, .int .i64 (f k).tries, .int .i64 (f k).slips, .bool (f k).un]) := rfl
          have HST : Hid (∀ wx, (Bx w b d x9 (.slice (some ⟨xb, xo, none⟩) n icap) (.slice (some ⟨fb, fo, none⟩) n lcap) m4 (n : Int) S0 A0 (Mf p f) (m4 1) #[.string s1, .string s2, .bool false, .bool vi, .int .i64 (t : Int), .int .i64 zi, .int .i64 za, .slice av am ac] wx) → Calls Tryz.prog 46 #[FaV (f k)] wx fun e w' => e = .returned (.int .i64 (stepS (f k))) ∧ (Bx w b d x9 (.slice (some ⟨xb, xo, none⟩) n icap) (.slice (some ⟨fb, fo, none⟩) n lcap) m4 (n : Int) S0 A0 (Mf p f) (m4 1) #[.string s1, .string s2, .bool false, .bool vi, .int .i64 (t : Int), .int .i64 zi, .int .i64 za, .slice av am ac] w')) := fun wx h => Calls.mono (stepStatus_any (f k) (HB.out.fok k (by have := HN.out; omega)) wx) (by rintro e w' ⟨rfl, hb⟩; exact ⟨rfl, h.later hb⟩)
          have HUN : Hid (Upk p f (k + 1) (putN S0 k (stepS (f k))) (putN A0 k (-1))) := HUp.out.next (by unfold St.S; rw [HSU.out]; rfl) (by unfold atP; rw [HSU.out]; rfl)
          have hCUR : Bx w b d x9 (.slice (some ⟨xb, xo, none⟩) n icap) (.slice (some ⟨fb, fo, none⟩) n lcap) m4 (n : Int) S0 A0 (Mf p f) (m4 1) #[.string s1, .string s2, .bool false, .bool vi, .int .i64 (t : Int), .int .i64 zi, .int .i64 za, .slice av am ac] wa.drew := HBX.out.later (Below.refl _ _).drew
          have hS0 : ∃ S9 A9, Bx w b d x9 (.slice (some ⟨xb, xo, none⟩) n icap) (.slice (some ⟨fb, fo, none⟩) n lcap) m4 (n : Int) S9 A9 (Mf p f) (m4 1) #[.string s1, .string s2, .bool false, .bool vi, .int .i64 (t : Int), .int .i64 zi, .int .i64 za, .slice av am ac] wa.drew := ⟨_, _, hCUR⟩
          refine region_thenF [(68, .pointer (some ⟨d, 0, none⟩)), (69, .int .i64 k), (70, .pointer (some ⟨d, 0, none⟩)), (71, .int .i64 k), (72, .slice (some ⟨fb, fo, none⟩) n lcap), (73, .int .i64 k), (74, .pointer (some ⟨fb, fo + k * 4, none⟩)), (75, FaV (f k)), (76, .int .i64 (stepS (f k))), (77, .pointer (some ⟨d, 0, none⟩)), (78, .pointer (some ⟨d, 65, none⟩)), (79, .pointer (some ⟨d, 65 + k, none⟩)), (80, .pointer (some ⟨d, 0, none⟩)), (81, .pointer (some ⟨d, 1, none⟩)), (82, .pointer (some ⟨d, 1 + k, none⟩))] (fun w' => Bx w b d x9 (.slice (some ⟨xb, xo, none⟩) n icap) (.slice (some ⟨fb, fo, none⟩) n lcap) m4 (n : Int) (putN S0 k (stepS (f k))) (putN A0 k (-1)) (Mf p f) (m4 1) #[.string s1, .string s2, .bool false, .bool vi, .int .i64 (t : Int), .int .i64 zi, .int .i64 za, .slice av am ac] w') ?_ ?_
          · refine wp_region_held (S := fun w' => ∃ S9 A9, Bx w b d x9 (.slice (some ⟨xb, xo, none⟩) n icap) (.slice (some ⟨fb, fo, none⟩) n lcap) m4 (n : Int) S9 A9 (Mf p f) (m4 1) #[.string s1, .string s2, .bool false, .bool vi, .int .i64 (t : Int), .int .i64 zi, .int .i64 za, .slice av am ac] w') (by kernel_rfl) ?_
            simp only [List.size_toArray, List.length_cons, List.length_nil, Nat.reduceAdd, Array.replicate_succ, Array.replicate_zero, List.push_toArray, List.nil_append, List.cons_append]
            refine takeD (i := 0) (d := 68) (v := .pointer (some ⟨d, 0, none⟩)) (fuel := 16) rfl rfl (by kernel_rfl) (by kernel_rfl) (by kernel_rfl) (fun _ _ _ h => by cases h.1) (.inl ⟨by kernel_rfl, fun _ _ => by kernel_rfl⟩) hS0 ?_
            simp only [List.setIfInBounds_toArray, List.set_cons_succ, List.set_cons_zero]
            refine takeD (i := 1) (d := 69) (v := .int .i64 k) (fuel := 15) rfl rfl (by kernel_rfl) (by kernel_rfl) (by kernel_rfl) (fun _ _ _ h => by cases h.1) (.inl ⟨by kernel_rfl, fun _ _ => by kernel_rfl⟩) hS0 ?_
            simp only [List.setIfInBounds_toArray, List.set_cons_succ, List.set_cons_zero]
            refine takeD (i := 2) (d := 70) (v := .pointer (some ⟨d, 0, none⟩)) (fuel := 14) rfl rfl (by kernel_rfl) (by kernel_rfl) (by kernel_rfl) (fun _ _ _ h => by cases h.1) (.inl ⟨by kernel_rfl, fun _ _ => by kernel_rfl⟩) hS0 ?_
            simp only [List.setIfInBounds_toArray, List.set_cons_succ, List.set_cons_zero]
            refine takeD (i := 3) (d := 71) (v := .int .i64 k) (fuel := 13) rfl rfl (by kernel_rfl) (by kernel_rfl) (by kernel_rfl) (fun _ _ _ h => by cases h.1) (.inl ⟨by kernel_rfl, fun _ _ => by kernel_rfl⟩) hS0 ?_
            simp only [List.setIfInBounds_toArray, List.set_cons_succ, List.set_cons_zero]
            refine takeD (i := 4) (d := 72) (v := .slice (some ⟨fb, fo, none⟩) n lcap) (fuel := 12) rfl rfl (by kernel_rfl) (by kernel_rfl) (by kernel_rfl) (fun _ _ _ h => by cases h.1) (.inl ⟨by kernel_rfl, fun _ _ => by kernel_rfl⟩) hS0 ?_
            simp only [List.setIfInBounds_toArray, List.set_cons_succ, List.set_cons_zero]
            refine takeD (i := 5) (d := 73) (v := .int .i64 k) (fuel := 11) rfl rfl (by kernel_rfl) (by kernel_rfl) (by kernel_rfl) (fun _ _ _ h => by cases h.1) (.inl ⟨by kernel_rfl, fun _ _ => by kernel_rfl⟩) hS0 ?_
            simp only [List.setIfInBounds_toArray, List.set_cons_succ, List.set_cons_zero]
            refine takeD (i := 6) (d := 74) (v := .pointer (some ⟨fb, fo + k * 4, none⟩)) (fuel := 10) rfl rfl (by kernel_rfl) (by kernel_rfl) (by kernel_rfl) (fun _ _ _ h => by cases h.1) (.inl ⟨by kernel_rfl, fun _ _ => by go_simp⟩) hS0 ?_
            simp only [List.setIfInBounds_toArray, List.set_cons_succ, List.set_cons_zero]
            refine takeD (i := 7) (d := 75) (v := FaV (f k)) (fuel := 9) rfl rfl (by kernel_rfl) (by kernel_rfl) (by kernel_rfl) (fun _ _ _ h => by cases h.1) (.inl ⟨by kernel_rfl, fun wx h => by rw [HF.out]; obtain ⟨_, _, h9⟩ := h; obtain ⟨y0, y1, y2, y3⟩ := HFC.out wx h9.bl.sd.bel; go_simp⟩) hS0 ?_
            simp only [List.setIfInBounds_toArray, List.set_cons_succ, List.set_cons_zero]
            refine takeD (i := 9) (d := 77) (v := .pointer (some ⟨d, 0, none⟩)) (fuel := 8) rfl rfl (by kernel_rfl) (by kernel_rfl) (by kernel_rfl) (fun _ _ _ h => by cases h.1) (.inl ⟨by kernel_rfl, fun _ _ => by go_simp⟩) hS0 ?_
            simp only [List.setIfInBounds_toArray, List.set_cons_succ, List.set_cons_zero]
            refine takeD (i := 10) (d := 78) (v := .pointer (some ⟨d, 65, none⟩)) (fuel := 7) rfl rfl (by kernel_rfl) (by kernel_rfl) (by kernel_rfl) (fun _ _ _ h => by cases h.1) (.inl ⟨by kernel_rfl, fun _ _ => by go_simp⟩) hS0 ?_
            simp only [List.setIfInBounds_toArray, List.set_cons_succ, List.set_cons_zero]
            refine takeD (i := 13) (d := 80) (v := .pointer (some ⟨d, 0, none⟩)) (fuel := 6) rfl rfl (by kernel_rfl) (by kernel_rfl) (by kernel_rfl) (fun _ _ _ h => by cases h.1) (.inl ⟨by kernel_rfl, fun _ _ => by go_simp⟩) hS0 ?_
            simp only [List.setIfInBounds_toArray, List.set_cons_succ, List.set_cons_zero]
            refine takeD (i := 14) (d := 81) (v := .pointer (some ⟨d, 1, none⟩)) (fuel := 5) rfl rfl (by kernel_rfl) (by kernel_rfl) (by kernel_rfl) (fun _ _ _ h => by cases h.1) (.inl ⟨by kernel_rfl, fun _ _ => by go_simp⟩) hS0 ?_
            simp only [List.setIfInBounds_toArray, List.set_cons_succ, List.set_cons_zero]
            refine oneW (R := fun w' => Bx w b d x9 (.slice (some ⟨xb, xo, none⟩) n icap) (.slice (some ⟨fb, fo, none⟩) n lcap) m4 (n : Int) S0 A0 (Mf p f) (m4 1) #[.string s1, .string s2, .bool false, .bool vi, .int .i64 (t : Int), .int .i64 zi, .int .i64 za, .slice av am ac] w') (i := 8) (d := 76) (f := 46) (args := #[FaV (f k)]) (v := .int .i64 (stepS (f k))) (fuel := 4) rfl rfl (by kernel_rfl) (by kernel_rfl) (fun _ => by kernel_rfl) (HST.out _ hCUR) (fun w' h => ⟨_, _, h⟩) (fun wz hR8 => ?_)
            simp only [List.setIfInBounds_toArray, List.set_cons_succ, List.set_cons_zero]
            refine takeD (i := 11) (d := 79) (v := .pointer (some ⟨d, 65 + k, none⟩)) (fuel := 3) rfl rfl (by kernel_rfl) (by kernel_rfl) (by kernel_rfl) (fun _ _ _ h => by cases h.1) (.inl ⟨by kernel_rfl, fun _ _ => by go_simp⟩) (⟨_, _, hR8⟩) ?_
            simp only [List.setIfInBounds_toArray, List.set_cons_succ, List.set_cons_zero]
            refine wpAnyH_all (fuel := 2) (rs := [12]) (by kernel_rfl) (by decide) (List.forall_mem_singleton.2 ?_)
            have hP1 := hR8.putA (i := k) (-1) (by omega)
            have c9 := brd_cellA hR8.bl.bd (i := k) (by omega)
            have f9 := Dg.froz_row hR8.bl.bd (65 + k)
            refine wpOp_skip (i := 12) (w' := wz.setCell ⟨d, 65 + k, none⟩ (.int .i64 (-1))) rfl rfl (by kernel_rfl) (by go_simp) ⟨⟨_, _, hP1⟩, ?_⟩
            clear c9 f9
            refine takeD (i := 15) (d := 82) (v := .pointer (some ⟨d, 1 + k, none⟩)) (fuel := 1) rfl rfl (by kernel_rfl) (by kernel_rfl) (by kernel_rfl) (fun _ _ _ h => by cases h.1) (.inl ⟨by kernel_rfl, fun _ _ => by go_simp⟩) ⟨_, _, hP1⟩ ?_
            simp only [List.setIfInBounds_toArray, List.set_cons_succ, List.set_cons_zero]
            refine wpAnyH_all (fuel := 0) (rs := [16]) (by kernel_rfl) (by decide) (List.forall_mem_singleton.2 ?_)
            have hP2 := hP1.putS (i := k) (stepS (f k)) (by omega)
            have c9 := brd_cellS hP1.bl.bd (i := k) (by omega)
            have f9 := Dg.froz_row hP1.bl.bd (1 + k)
            refine wpOp_skip (i := 16) (w' := (wz.setCell ⟨d, 65 + k, none⟩ (.int .i64 (-1))).setCell ⟨d, 1 + k, none⟩ (.int .i64 (stepS (f k)))) rfl rfl (by kernel_rfl) (by go_simp) ⟨⟨_, _, hP2⟩, ?_⟩
            clear c9 f9
            refine wpAnyH_done (by kernel_rfl) ?_ _
            exact ⟨rfl, by kernel_rfl, hP2⟩
          · intro w9 hF
            simp only [setAll, List.setIfInBounds_toArray, List.set_cons_succ, List.set_cons_zero]
            have HF9 : Hid _ := hF
            clear hF
            go_wp2_with fail
            go_roundw
            case rel => exact ⟨k + 1, by omega, by go_num, _, _, HF9.out.bl, HUN.out⟩
            case measure => simp [intOf] <;> omega
        | true =>
          go_wp2_with fail
          clear k0 k1 k2 k3 k4 k5 k6 k7 x0 x1 x2 x3 x4 x5 x6 x7 hdx
          change Code.wp _ _ _ _ (wr.alloc (.cells #[.string s1, .string s2, .bool true, .bool vi, .int .i64 (t : Int), .int .i64 zi, .int .i64 za, .slice av am ac] 37))
          generalize wr.alloc (.cells #[.string s1, .string s2, .bool true, .bool vi, .int .i64 (t : Int), .int .i64 zi, .int .i64 za, .slice av am ac] 37) = wa at *
          generalize wr.heap.size = x9 at *
          have HIV : Hid (ItA s1 s2 true vi (t : Int) zi za (.slice av am ac) = .agg #[.string s1, .string s2, .bool true, .bool vi, .int .i64 (t : Int), .int .i64 zi, .int .i64 za, .slice av am ac]) := rfl
          have HBO : Hid (∀ wx, (Bx w b d x9 (.slice (some ⟨xb, xo, none⟩) n icap) (.slice (some ⟨fb, fo, none⟩) n lcap) m4 (n : Int) S0 A0 (Mf p f) (m4 1) #[.string s1, .string s2, .bool true, .bool vi, .int .i64 (t : Int), .int .i64 zi, .int .i64 za, .slice av am ac] wx) → Calls Tryz.prog 47 #[.pointer (some ⟨b, 0, none⟩), .int .i64 (k : Int)] wx fun e w' => e = .returned (.int .i64 (atP p f k)) ∧ (Bx w b d x9 (.slice (some ⟨xb, xo, none⟩) n icap) (.slice (some ⟨fb, fo, none⟩) n lcap) m4 (n : Int) S0 A0 (Mf p f) (m4 1) #[.string s1, .string s2, .bool true, .bool vi, .int .i64 (t : Int), .int .i64 zi, .int .i64 za, .slice av am ac] w')) := fun wx h => Calls.mono (bodyM_any HB.out HN.out h.bl.sd HMO.out hlt HSU.out) (by rintro e w' ⟨rfl, hb⟩; exact ⟨rfl, h.later hb⟩)
          have HSS : Hid (∀ wx, (Bx w b d x9 (.slice (some ⟨xb, xo, none⟩) n icap) (.slice (some ⟨fb, fo, none⟩) n lcap) m4 (n : Int) S0 A0 (Mf p f) (m4 1) #[.string s1, .string s2, .bool true, .bool vi, .int .i64 (t : Int), .int .i64 zi, .int .i64 za, .slice av am ac] wx) → Calls Tryz.prog 48 #[.pointer (some ⟨b, 0, none⟩), .int .i64 (k : Int), .bool (halted p f k)] wx fun e w' => e = .returned (.int .i64 (St.S p f k)) ∧ (Bx w b d x9 (.slice (some ⟨xb, xo, none⟩) n icap) (.slice (some ⟨fb, fo, none⟩) n lcap) m4 (n : Int) S0 A0 (Mf p f) (m4 1) #[.string s1, .string s2, .bool true, .bool vi, .int .i64 (t : Int), .int .i64 zi, .int .i64 za, .slice av am ac] w')) := fun wx h => Calls.mono (sagaStatusM_any hle h.bl.sd HMO.out hlt HSU.out) (by rintro e w' ⟨rfl, hb⟩; exact ⟨rfl, h.later hb⟩)
          have HAR : Hid (∀ wx, (Bx w b d x9 (.slice (some ⟨xb, xo, none⟩) n icap) (.slice (some ⟨fb, fo, none⟩) n lcap) m4 (n : Int) S0 A0 (Mf p f) (m4 1) #[.string s1, .string s2, .bool true, .bool vi, .int .i64 (t : Int), .int .i64 zi, .int .i64 za, .slice av am ac] wx) → Calls Tryz.prog 49 #[.pointer (some ⟨d, 129, none⟩), .int .i64 (k : Int), ItA s1 s2 true vi (t : Int) zi za (.slice av am ac)] wx fun e w' => e = .returned (.bool (halted p f k)) ∧ (Bx w b d x9 (.slice (some ⟨xb, xo, none⟩) n icap) (.slice (some ⟨fb, fo, none⟩) n lcap) m4 (n : Int) S0 A0 (Mf p f) (m4 1) #[.string s1, .string s2, .bool true, .bool vi, .int .i64 (t : Int), .int .i64 zi, .int .i64 za, .slice av am ac] w')) := fun wx h => by
            have h9 : (decide (0 < k) && halted p f k) = halted p f k := by
              by_cases h0 : 0 < k
              · simp [h0]
              · obtain rfl : k = 0 := by omega
                rw [halted_root]
                rfl
            rw [← h9]
            refine Calls.mono (around_any (w := wx) d 129 k s1 s2 true vi (t : Int) zi za av am ac (halted p f k) (by omega) (fun h1 => ?_)) (by rintro e w' ⟨rfl, hb⟩; exact ⟨rfl, h.later hb⟩)
            obtain ⟨e1, e2⟩ := HZ.out h1
            obtain ⟨e3, e4, e5⟩ := HB.out.ok.inn k h1 (by have := HN.out; omega)
            have e6 := HB.out.alts (p.inn k) (by have := HN.out; omega)
            refine ⟨p.inn k, p.alt k, e1, e2, by omega, by omega, ?_⟩
            have h8 := brd_cellM h.bl.bd (s := p.inn k) (a := p.alt k) (by omega) (by omega)
            rw [halt_at HB.out.ok h1 (by have := HN.out; omega)] at h8
            exact h8
          have HUN : Hid (Upk p f (k + 1) (putN S0 k (St.S p f k)) (putN A0 k (atP p f k))) := HUp.out.next rfl rfl
          have hCUR : Bx w b d x9 (.slice (some ⟨xb, xo, none⟩) n icap) (.slice (some ⟨fb, fo, none⟩) n lcap) m4 (n : Int) S0 A0 (Mf p f) (m4 1) #[.string s1, .string s2, .bool true, .bool vi, .int .i64 (t : Int), .int .i64 zi, .int .i64 za, .slice av am ac] wa.drew := HBX.out.later (Below.refl _ _).drew
          have hS0 : ∃ S9 A9, Bx w b d x9 (.slice (some ⟨xb, xo, none⟩) n icap) (.slice (some ⟨fb, fo, none⟩) n lcap) m4 (n : Int) S9 A9 (Mf p f) (m4 1) #[.string s1, .string s2, .bool true, .bool vi, .int .i64 (t : Int), .int .i64 zi, .int .i64 za, .slice av am ac] wa.drew := ⟨_, _, hCUR⟩
          generalize atP p f k = ak at *
          generalize halted p f k = hk9 at *
          generalize St.S p f k = sk at *
          refine region_thenQ [(83, .pointer (some ⟨d, 0, none⟩)), (84, .int .i64 k), (85, .pointer (some ⟨d, 0, none⟩)), (86, .int .i64 k), (87, .pointer (some ⟨b, 0, none⟩)), (88, .int .i64 k), (89, .int .i64 ak), (90, .pointer (some ⟨b, 0, none⟩)), (91, .int .i64 k), (92, .pointer (some ⟨d, 0, none⟩)), (93, .pointer (some ⟨d, 0, none⟩)), (94, .pointer (some ⟨d, 129, none⟩)), (95, .int .i64 k), (96, ItA s1 s2 true vi (t : Int) zi za (.slice av am ac)), (97, .bool hk9), (98, .int .i64 sk), (99, .pointer (some ⟨d, 0, none⟩)), (100, .pointer (some ⟨d, 65, none⟩)), (101, .pointer (some ⟨d, 65 + k, none⟩)), (102, .pointer (some ⟨d, 0, none⟩)), (103, .pointer (some ⟨d, 1, none⟩)), (104, .pointer (some ⟨d, 1 + k, none⟩))] (fun w' => Bx w b d x9 (.slice (some ⟨xb, xo, none⟩) n icap) (.slice (some ⟨fb, fo, none⟩) n lcap) m4 (n : Int) (putN S0 k (sk)) (putN A0 k (ak)) (Mf p f) (m4 1) #[.string s1, .string s2, .bool true, .bool vi, .int .i64 (t : Int), .int .i64 zi, .int .i64 za, .slice av am ac] w') ?_ ?_
          · refine wp_region_held (S := fun w' => ∃ S9 A9, Bx w b d x9 (.slice (some ⟨xb, xo, none⟩) n icap) (.slice (some ⟨fb, fo, none⟩) n lcap) m4 (n : Int) S9 A9 (Mf p f) (m4 1) #[.string s1, .string s2, .bool true, .bool vi, .int .i64 (t : Int), .int .i64 zi, .int .i64 za, .slice av am ac] w') (by kernel_rfl) ?_
            simp only [List.size_toArray, List.length_cons, List.length_nil, Nat.reduceAdd, Array.replicate_succ, Array.replicate_zero, List.push_toArray, List.nil_append, List.cons_append]
            refine takeD (i := 0) (d := 83) (v := .pointer (some ⟨d, 0, none⟩)) (fuel := 23) rfl rfl (by kernel_rfl) (by kernel_rfl) (by kernel_rfl) (fun _ _ _ h => by cases h.1) (.inl ⟨by kernel_rfl, fun _ _ => by kernel_rfl⟩) hS0 ?_
            simp only [List.setIfInBounds_toArray, List.set_cons_succ, List.set_cons_zero]
            refine takeD (i := 1) (d := 84) (v := .int .i64 k) (fuel := 22) rfl rfl (by kernel_rfl) (by kernel_rfl) (by kernel_rfl) (fun _ _ _ h => by cases h.1) (.inl ⟨by kernel_rfl, fun _ _ => by kernel_rfl⟩) hS0 ?_
            simp only [List.setIfInBounds_toArray, List.set_cons_succ, List.set_cons_zero]
            refine takeD (i := 2) (d := 85) (v := .pointer (some ⟨d, 0, none⟩)) (fuel := 21) rfl rfl (by kernel_rfl) (by kernel_rfl) (by kernel_rfl) (fun _ _ _ h => by cases h.1) (.inl ⟨by kernel_rfl, fun _ _ => by kernel_rfl⟩) hS0 ?_
            simp only [List.setIfInBounds_toArray, List.set_cons_succ, List.set_cons_zero]
            refine takeD (i := 3) (d := 86) (v := .int .i64 k) (fuel := 20) rfl rfl (by kernel_rfl) (by kernel_rfl) (by kernel_rfl) (fun _ _ _ h => by cases h.1) (.inl ⟨by kernel_rfl, fun _ _ => by kernel_rfl⟩) hS0 ?_
            simp only [List.setIfInBounds_toArray, List.set_cons_succ, List.set_cons_zero]
            refine takeD (i := 4) (d := 87) (v := .pointer (some ⟨b, 0, none⟩)) (fuel := 19) rfl rfl (by kernel_rfl) (by kernel_rfl) (by kernel_rfl) (fun _ _ _ h => by cases h.1) (.inl ⟨by kernel_rfl, fun _ _ => by kernel_rfl⟩) hS0 ?_
            simp only [List.setIfInBounds_toArray, List.set_cons_succ, List.set_cons_zero]
            refine takeD (i := 5) (d := 88) (v := .int .i64 k) (fuel := 18) rfl rfl (by kernel_rfl) (by kernel_rfl) (by kernel_rfl) (fun _ _ _ h => by cases h.1) (.inl ⟨by kernel_rfl, fun _ _ => by kernel_rfl⟩) hS0 ?_
            simp only [List.setIfInBounds_toArray, List.set_cons_succ, List.set_cons_zero]
            refine takeD (i := 7) (d := 90) (v := .pointer (some ⟨b, 0, none⟩)) (fuel := 17) rfl rfl (by kernel_rfl) (by kernel_rfl) (by kernel_rfl) (fun _ _ _ h => by cases h.1) (.inl ⟨by kernel_rfl, fun _ _ => by kernel_rfl⟩) hS0 ?_
            simp only [List.setIfInBounds_toArray, List.set_cons_succ, List.set_cons_zero]
            refine takeD (i := 8) (d := 91) (v := .int .i64 k) (fuel := 16) rfl rfl (by kernel_rfl) (by kernel_rfl) (by kernel_rfl) (fun _ _ _ h => by cases h.1) (.inl ⟨by kernel_rfl, fun _ _ => by kernel_rfl⟩) hS0 ?_
            simp only [List.setIfInBounds_toArray, List.set_cons_succ, List.set_cons_zero]
            refine takeD (i := 9) (d := 92) (v := .pointer (some ⟨d, 0, none⟩)) (fuel := 15) rfl rfl (by kernel_rfl) (by kernel_rfl) (by kernel_rfl) (fun _ _ _ h => by cases h.1) (.inl ⟨by kernel_rfl, fun _ _ => by kernel_rfl⟩) hS0 ?_
            simp only [List.setIfInBounds_toArray, List.set_cons_succ, List.set_cons_zero]
            refine takeD (i := 10) (d := 93) (v := .pointer (some ⟨d, 0, none⟩)) (fuel := 14) rfl rfl (by kernel_rfl) (by kernel_rfl) (by kernel_rfl) (fun _ _ _ h => by cases h.1) (.inl ⟨by kernel_rfl, fun _ _ => by go_simp⟩) hS0 ?_
            simp only [List.setIfInBounds_toArray, List.set_cons_succ, List.set_cons_zero]
            refine takeD (i := 11) (d := 94) (v := .pointer (some ⟨d, 129, none⟩)) (fuel := 13) rfl rfl (by kernel_rfl) (by kernel_rfl) (by kernel_rfl) (fun _ _ _ h => by cases h.1) (.inl ⟨by kernel_rfl, fun _ _ => by go_simp⟩) hS0 ?_
            simp only [List.setIfInBounds_toArray, List.set_cons_succ, List.set_cons_zero]
            refine takeD (i := 12) (d := 95) (v := .int .i64 k) (fuel := 12) rfl rfl (by kernel_rfl) (by kernel_rfl) (by kernel_rfl) (fun _ _ _ h => by cases h.1) (.inl ⟨by kernel_rfl, fun _ _ => by kernel_rfl⟩) hS0 ?_
            simp only [List.setIfInBounds_toArray, List.set_cons_succ, List.set_cons_zero]
            refine takeD (i := 13) (d := 96) (v := ItA s1 s2 true vi (t : Int) zi za (.slice av am ac)) (fuel := 11) rfl rfl (by kernel_rfl) (by kernel_rfl) (by kernel_rfl) (fun _ _ _ h => by cases h.1) (.inl ⟨by kernel_rfl, fun wx h => by rw [HIV.out]; obtain ⟨_, _, h9⟩ := h; have x0 := (Dg.cell_row h9.row 0).trans rfl; have x1 := (Dg.cell_row h9.row 1).trans rfl; have x2 := (Dg.cell_row h9.row 2).trans rfl; have x3 := (Dg.cell_row h9.row 3).trans rfl; have x4 := (Dg.cell_row h9.row 4).trans rfl; have x5 := (Dg.cell_row h9.row 5).trans rfl; have x6 := (Dg.cell_row h9.row 6).trans rfl; have x7 := (Dg.cell_row h9.row 7).trans rfl; go_simp⟩) hS0 ?_
            simp only [List.setIfInBounds_toArray, List.set_cons_succ, List.set_cons_zero]
            refine takeD (i := 16) (d := 99) (v := .pointer (some ⟨d, 0, none⟩)) (fuel := 10) rfl rfl (by kernel_rfl) (by kernel_rfl) (by kernel_rfl) (fun _ _ _ h => by cases h.1) (.inl ⟨by kernel_rfl, fun _ _ => by go_simp⟩) hS0 ?_
            simp only [List.setIfInBounds_toArray, List.set_cons_succ, List.set_cons_zero]
            refine takeD (i := 17) (d := 100) (v := .pointer (some ⟨d, 65, none⟩)) (fuel := 9) rfl rfl (by kernel_rfl) (by kernel_rfl) (by kernel_rfl) (fun _ _ _ h => by cases h.1) (.inl ⟨by kernel_rfl, fun _ _ => by go_simp⟩) hS0 ?_
            simp only [List.setIfInBounds_toArray, List.set_cons_succ, List.set_cons_zero]
            refine takeD (i := 20) (d := 102) (v := .pointer (some ⟨d, 0, none⟩)) (fuel := 8) rfl rfl (by kernel_rfl) (by kernel_rfl) (by kernel_rfl) (fun _ _ _ h => by cases h.1) (.inl ⟨by kernel_rfl, fun _ _ => by go_simp⟩) hS0 ?_
            simp only [List.setIfInBounds_toArray, List.set_cons_succ, List.set_cons_zero]
            refine takeD (i := 21) (d := 103) (v := .pointer (some ⟨d, 1, none⟩)) (fuel := 7) rfl rfl (by kernel_rfl) (by kernel_rfl) (by kernel_rfl) (fun _ _ _ h => by cases h.1) (.inl ⟨by kernel_rfl, fun _ _ => by go_simp⟩) hS0 ?_
            simp only [List.setIfInBounds_toArray, List.set_cons_succ, List.set_cons_zero]
            refine oneW (R := fun w' => Bx w b d x9 (.slice (some ⟨xb, xo, none⟩) n icap) (.slice (some ⟨fb, fo, none⟩) n lcap) m4 (n : Int) S0 A0 (Mf p f) (m4 1) #[.string s1, .string s2, .bool true, .bool vi, .int .i64 (t : Int), .int .i64 zi, .int .i64 za, .slice av am ac] w') (i := 6) (d := 89) (f := 47) (args := #[.pointer (some ⟨b, 0, none⟩), .int .i64 k]) (v := .int .i64 ak) (fuel := 6) rfl rfl (by kernel_rfl) (by kernel_rfl) (fun _ => by kernel_rfl) (HBO.out _ hCUR) (fun w' h => ⟨_, _, h⟩) (fun wz hR6 => ?_)
            simp only [List.setIfInBounds_toArray, List.set_cons_succ, List.set_cons_zero]
            refine oneW (R := fun w' => Bx w b d x9 (.slice (some ⟨xb, xo, none⟩) n icap) (.slice (some ⟨fb, fo, none⟩) n lcap) m4 (n : Int) S0 A0 (Mf p f) (m4 1) #[.string s1, .string s2, .bool true, .bool vi, .int .i64 (t : Int), .int .i64 zi, .int .i64 za, .slice av am ac] w') (i := 14) (d := 97) (f := 49) (args := #[.pointer (some ⟨d, 129, none⟩), .int .i64 k, ItA s1 s2 true vi (t : Int) zi za (.slice av am ac)]) (v := .bool hk9) (fuel := 5) rfl rfl (by kernel_rfl) (by kernel_rfl) (fun _ => by kernel_rfl) (HAR.out _ hR6) (fun w' h => ⟨_, _, h⟩) (fun wz hR14 => ?_)
            simp only [List.setIfInBounds_toArray, List.set_cons_succ, List.set_cons_zero]
            refine oneW (R := fun w' => Bx w b d x9 (.slice (some ⟨xb, xo, none⟩) n icap) (.slice (some ⟨fb, fo, none⟩) n lcap) m4 (n : Int) S0 A0 (Mf p f) (m4 1) #[.string s1, .string s2, .bool true, .bool vi, .int .i64 (t : Int), .int .i64 zi, .int .i64 za, .slice av am ac] w') (i := 15) (d := 98) (f := 48) (args := #[.pointer (some ⟨b, 0, none⟩), .int .i64 k, .bool hk9]) (v := .int .i64 sk) (fuel := 4) rfl rfl (by kernel_rfl) (by kernel_rfl) (fun _ => by kernel_rfl) (HSS.out _ hR14) (fun w' h => ⟨_, _, h⟩) (fun wz hR15 => ?_)
            simp only [List.setIfInBounds_toArray, List.set_cons_succ, List.set_cons_zero]
            refine takeD (i := 18) (d := 101) (v := .pointer (some ⟨d, 65 + k, none⟩)) (fuel := 3) rfl rfl (by kernel_rfl) (by kernel_rfl) (by kernel_rfl) (fun _ _ _ h => by cases h.1) (.inl ⟨by kernel_rfl, fun _ _ => by go_simp⟩) (⟨_, _, hR15⟩) ?_
            simp only [List.setIfInBounds_toArray, List.set_cons_succ, List.set_cons_zero]
            refine wpAnyH_all (fuel := 2) (rs := [19]) (by kernel_rfl) (by decide) (List.forall_mem_singleton.2 ?_)
            have hP1 := hR15.putA (i := k) (ak) (by omega)
            have c9 := brd_cellA hR15.bl.bd (i := k) (by omega)
            have f9 := Dg.froz_row hR15.bl.bd (65 + k)
            refine wpOp_skip (i := 19) (w' := wz.setCell ⟨d, 65 + k, none⟩ (.int .i64 (ak))) rfl rfl (by kernel_rfl) (by go_simp) ⟨⟨_, _, hP1⟩, ?_⟩
            clear c9 f9
            refine takeD (i := 22) (d := 104) (v := .pointer (some ⟨d, 1 + k, none⟩)) (fuel := 1) rfl rfl (by kernel_rfl) (by kernel_rfl) (by kernel_rfl) (fun _ _ _ h => by cases h.1) (.inl ⟨by kernel_rfl, fun _ _ => by go_simp⟩) ⟨_, _, hP1⟩ ?_
            simp only [List.setIfInBounds_toArray, List.set_cons_succ, List.set_cons_zero]
            refine wpAnyH_all (fuel := 0) (rs := [23]) (by kernel_rfl) (by decide) (List.forall_mem_singleton.2 ?_)
            have hP2 := hP1.putS (i := k) (sk) (by omega)
            have c9 := brd_cellS hP1.bl.bd (i := k) (by omega)
            have f9 := Dg.froz_row hP1.bl.bd (1 + k)
            refine wpOp_skip (i := 23) (w' := (wz.setCell ⟨d, 65 + k, none⟩ (.int .i64 (ak))).setCell ⟨d, 1 + k, none⟩ (.int .i64 (sk))) rfl rfl (by kernel_rfl) (by go_simp) ⟨⟨_, _, hP2⟩, ?_⟩
            clear c9 f9
            refine wpAnyH_done (by kernel_rfl) ?_ _
            exact ⟨rfl, by kernel_rfl, hP2⟩
          · intro w9 hF
            simp only [setAll, List.setIfInBounds_toArray, List.set_cons_succ, List.set_cons_zero, Exit.inBlock, Exit.then]
            have HF9 : Hid _ := hF
            clear hF
            go_wp2_with fail
            go_roundw
            case rel => exact ⟨k + 1, by omega, by go_num, _, _, HF9.out.bl, HUN.out⟩
            case measure => simp [intOf] <;> omega

end Go.Proofs.YtgdnlceliiekkaaGreatDoor.Sa

