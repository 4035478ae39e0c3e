/- Texts of the seat, packed: Lt. -/
import Derived.Test.YtgdnlceliiekkaaGreatDoorP45
import Derived.Deep.CutRange
/- StateFalls' walk. -/
namespace Go.Proofs.YtgdnlceliiekkaaGreatDoor.Sa
open Go.RowKit Go.Shelf Go.Proofs.YtgdnlceliiekkaaGreatDoor.Fc Go.Proofs.YtgdnlceliiekkaaGreatDoor.St Go.Proofs.YtgdnlceliiekkaaGreatDoor.Sx
set_option maxRecDepth 1000000
set_option linter.unusedVariables false

/-- What a step that fails leads to. -/
structure Flp (its : List It) (m : List Fa) (i : Int) (a : Nat) (x : It) (j b : Nat) : Prop where
  i : i = (a : Int)
  pos : 1 ≤ a
  at_ : its[a]? = some x
  chk : chkF its m = 0
  inn : x.inn = (j : Int)
  alt : x.alt = (b : Int)
  fal : falS its m j b = true
  s : St.S (plOf its) (fOf m) a = 3
  no : ∀ (k : Nat) (y : It), 1 ≤ k → its[k]? = some y → y.inn = (j : Int) → y.alt = (b : Int) → y.sub = true → St.S (plOf its) (fOf m) k ≠ 1

theorem flp_of {its : List It} {l m : List Fa} {i : Int} (h : appP its l ⟨3, i, 0, [1]⟩ = .inr m) : ∃ a x j b, Flp its m i a x j b := by
  unfold appP at h
  split at h
  rotate_left
  · cases h
  rename_i hc
  split at h
  rotate_left
  · cases h
  rename_i hok
  cases hd : does (subs its) l (3 : Int) 0 i.toNat with
  | none => simp only [hd] at h; cases h
  | some m' =>
    simp only [hd] at h
    cases h
    obtain ⟨p1, p2, p3⟩ := ok_parts hok
    have hp1 : (1 : Int) ≤ i := p1
    obtain ⟨hsome, hokl⟩ := chkF_iff.1 hc
    obtain ⟨q, hq⟩ := Option.isSome_iff_exists.1 hsome
    have hp := plan_ok hq
    obtain ⟨d1, d2, d3, d4⟩ := does_right hokl hd
    obtain ⟨⟨g1, g2, g3⟩, g, hg, hm⟩ := does_some hd
    have hgf : g = ⟨3, 0, 0, false⟩ := by
      unfold fit at hg
      simp only [show ¬ ((3 : Int) = 1) by decide, show ¬ ((3 : Int) = 2) by decide, if_false, if_true] at hg
      split at hg
      · cases hg; rfl
      · cases hg
    have hlen : l.length = its.length := by have := hokl.1; unfold subs at this; rw [List.length_map] at this; exact this
    have ha : i.toNat < its.length := by omega
    obtain ⟨x, hx⟩ : ∃ x, its[i.toNat]? = some x := ⟨_, List.getElem?_eq_getElem ha⟩
    obtain ⟨⟨j, b, y, e1, e2, e3, e4, e5, e6⟩, e7⟩ := (plan_items hq).2 i.toNat x hx g1
    have hs : x.sub = false := by rw [subs_getD hx] at g3; exact g3
    have hsp : (plOf its).sub i.toNat = false := by show (its.getD i.toNat It.z).sub = _; rw [getD_it hx]; exact hs
    have hr : (fOf m i.toNat).run = 3 := by
      show (m.getD i.toNat Fa.z).run = 3
      rw [hm, getD_set g2, if_pos rfl, hgf]
    have hj : (plOf its).inn i.toNat = j := by show (its.getD i.toNat It.z).inn.toNat = j; rw [getD_it hx, e1]; rfl
    have hb : (plOf its).alt i.toNat = b := by show (its.getD i.toNat It.z).alt.toNat = b; rw [getD_it hx, e2]; rfl
    have hsf := fun k => state_falls hp (f := fOf m) (i := i.toNat) (k := k) g1 ha hr hsp
    have hcm : chkF its m = 0 := chkF_ok hsome d1
    have hjn : j < its.length := by omega
    have hya : y.alts ≤ 4 := by
      by_cases hj0 : j = 0
      · subst hj0
        obtain ⟨r, r0, _, _, _, _, r5⟩ := (plan_items hq).1
        rw [r0] at e4
        cases e4
        exact r5
      · have := ((plan_items hq).2 j y e4 (by omega)).2
        rw [e6, if_pos rfl] at this
        exact this.2
    refine ⟨i.toNat, x, j, b, by omega, g1, hx, hcm, e1, e2, ?_, (hsf 0).2.1, fun k y' k1 hy' hyi hya' hys => ?_⟩
    · unfold falS
      rw [if_pos hcm, decide_eq_true ⟨by omega, by omega⟩, decide_eq_true ⟨by omega, by omega⟩, Int.toNat_natCast, Int.toNat_natCast]
      unfold Mf
      have hF := (hsf 0).1
      rw [hj, hb] at hF
      have hal : (plOf its).alts j = y.alts.toNat := by show (its.getD j It.z).alts.toNat = _; rw [getD_it e4]
      rw [hF, decide_eq_true ⟨hjn, by rw [hal]; omega⟩]
      simp
    · have hk := (List.getElem?_eq_some_iff.1 hy').1
      have q1 : (plOf its).inn k = j := by show (its.getD k It.z).inn.toNat = j; rw [getD_it hy', hyi]; rfl
      have q2 : (plOf its).alt k = b := by show (its.getD k It.z).alt.toNat = b; rw [getD_it hy', hya']; rfl
      have q3 : (plOf its).sub k = true := by show (its.getD k It.z).sub = true; rw [getD_it hy']; exact hys
      exact (hsf k).2.2 k1 hk (by rw [q1, hj]) (by rw [q2, hb]) q3

set_option maxHeartbeats 64000000 in
theorem falls_walk (its : List It) (v lv : Value) (i : Int) (l : List Fa) (w : World) (hT : Dg.Tab w) (hIt : RdIt w v its) (hil : its.length ≤ maxLen) (hnm : ∀ x ∈ its, x.name.length ≤ maxLen ∧ x.undo.length ≤ maxLen ∧ x.after.length ≤ maxLen) (hl : RF w lv l) :
    Calls Tryz.prog 4 #[.agg #[v], lv, .int .i64 i] w fun x w' => x = .returned (.bool true) ∧ Below w.heap.size w w' := by
  have h0 : ChS w v (w.alloc (.cells #[v] 24)) := ⟨bl1 _ _, Dg.row_new w _ 24⟩
  have MS0 := small_any its v _ (hIt.later h0.bel) hil hnm
  have HIt : Hid (∀ W, Below w.heap.size w W → RdIt W v its) := fun W hb => hIt.later hb
  have HL : Hid (∀ W, Below w.heap.size w W → RF W lv l) := fun W hb => hl.later hb
  have HLV : Hid (∀ W, Below w.heap.size w W → Calls Tryz.prog 8 #[] W fun x w' => x = .returned (.bool true) ∧ Below W.heap.size W w') := fun W hb => lives_any W (hT.later hb)
  have HT : Hid (∀ W, Below w.heap.size w W → Dg.Tab W) := fun W hb => hT.later hb
  obtain ⟨ia, icap, rfl, hic, hir⟩ := hIt
  obtain ⟨la, lcap, rfl, hl1, hl2, _⟩ := hl
  have hlm : l.length ≤ maxLen := by omega
  have HIR : Hid _ := hir
  clear hnm hir hl1 hl2
  obtain ⟨q, HQ⟩ : ∃ q, Hid (smallI its = q) := ⟨_, rfl⟩
  rw [HQ.out] at MS0
  obtain ⟨n, HN⟩ : ∃ n, Hid (its.length = n) := ⟨_, rfl⟩
  obtain ⟨ml, HML⟩ : ∃ n, Hid (l.length = n) := ⟨_, rfl⟩
  have H0 : Hid (ChS w (.slice ia n icap) (w.alloc (.cells #[.slice ia n icap] 24))) := by show ChS _ _ _; rw [← HN.out]; exact h0
  have MS : Hid (Calls Tryz.prog 7 #[.agg #[.slice ia n icap]] (w.alloc (.cells #[.slice ia n icap] 24)) fun x w' => x = .returned (.bool q) ∧ Below (w.alloc (.cells #[.slice ia n icap] 24)).heap.size (w.alloc (.cells #[.slice ia n icap] 24)) w') := by show Calls _ _ _ _ _; rw [← HN.out]; exact MS0
  unfold maxLen at hlm
  rw [HN.out] at HIt hic ⊢
  rw [HML.out] at HL hlm ⊢
  have c0 := (Dg.cell_row H0.out.box 0).trans rfl
  clear h0 MS0 hT
  go_enter Tryz.func4, Tryz.ntmps4
  go_wp2_with fail
  generalize w.alloc (.cells #[.slice ia n icap] 24) = w0 at *
  refine Calls.mono MS.out ?_
  rintro x w1 ⟨rfl, hb1⟩
  have H1 : Hid _ := H0.out.later hb1
  clear MS hb1 H0 c0
  by_cases hg : q = true ∧ ml ≤ 100
  rotate_left
  · cases q with
    | false =>
      go_wp2_with fail
      refine Calls.mono (HLV.out _ H1.out.bel) ?_
      rintro x w2 ⟨rfl, hb2⟩
      have H2 : Hid _ := H1.out.later hb2
      clear hb2
      go_wp2_with fail
      go_ret
      exact ⟨rfl, H2.out.bel⟩
    | true =>
      have hgt : (ml : Int) > 100 := by have : ¬ ml ≤ 100 := fun h => hg ⟨rfl, h⟩; omega
      go_wp2_with fail
      refine Calls.mono (HLV.out _ H1.out.bel) ?_
      rintro x w2 ⟨rfl, hb2⟩
      have H2 : Hid _ := H1.out.later hb2
      clear hb2
      go_wp2_with fail
      go_ret
      exact ⟨rfl, H2.out.bel⟩
  obtain ⟨rfl, hml⟩ := hg
  obtain ⟨hfair, h70⟩ := small_fair HQ.out
  rw [HN.out] at h70
  have HFA : Hid _ := hfair
  have z1 := (Dg.cell_row H1.out.box 0).trans rfl
  have hgt : ¬ (ml : Int) > 100 := by omega
  have hb2 := bl1 w1 (.cells #[.int .i64 1] 3)
  have H2 : Hid _ := H1.out.later hb2
  have HAP0 := apply_any its (.slice ia n icap) (.slice la ml lcap) (.slice (some ⟨w1.heap.size, 0, none⟩) 1 1) l ⟨3, i, 0, [1]⟩ (w1.alloc (.cells #[.int .i64 1] 3)) (HIt.out _ H2.out.bel) hfair (HT.out _ H2.out.bel) (HL.out _ H2.out.bel) (RI.one (Dg.row_new w1 _ 3)) (by show 1 ≤ 1000000; omega) (by rw [HN.out]; omega) (by rw [HML.out]; omega)
  have HAP : Hid (Calls Tryz.prog 13 #[.agg #[.slice ia n icap], .slice la ml lcap, .agg #[.int .i64 3, .int .i64 i, .int .i64 0, .slice (some ⟨w1.heap.size, 0, none⟩) 1 1]] (w1.alloc (.cells #[.int .i64 1] 3)) fun x w' => AppC (appP its l ⟨3, i, 0, [1]⟩) (w1.alloc (.cells #[.int .i64 1] 3)) x w') := HAP0
  clear hfair hb2 HAP0
  go_wp2_with fail
  refine Calls.mono HAP.out ?_
  rintro x w3 ⟨hb3, hx⟩
  have H3 : Hid _ := H2.out.later hb3
  have z3 := (Dg.cell_row H3.out.box 0).trans rfl
  clear hb3 HAP z1 H1 H2
  cases hap : appP its l ⟨3, i, 0, [1]⟩ with
  | inl c =>
    rw [hap] at hx
    obtain rfl : x = .returned (.tuple #[.slice none 0 0, .int .i64 c]) := hx
    have hcn : (c != 0) = true := by
      unfold appP at hap
      split at hap
      · split at hap
        · cases hd : does (subs its) l (3 : Int) 0 i.toNat with
          | none => simp only [hd] at hap; cases hap; rfl
          | some m => simp only [hd] at hap; cases hap
        · cases hap; rfl
      · cases hap; rfl
    clear hap
    go_wp2_with fail
    refine Calls.mono (HLV.out _ H3.out.bel) ?_
    rintro x w4 ⟨rfl, hb4⟩
    have H4 : Hid _ := H3.out.later hb4
    clear hb4
    go_wp2_with fail
    go_ret
    exact ⟨rfl, H4.out.bel⟩
  | inr m =>
    rw [hap] at hx
    obtain ⟨u, rfl, hof⟩ := hx
    obtain ⟨a, x, j, b, hfl⟩ := flp_of hap
    obtain ⟨f1, f2, f3, f4, f5, f6, f7, f8, f9⟩ := hfl
    subst f1
    have hrf := hof.rf
    obtain ⟨ua, uc, rfl, _⟩ := id hrf
    have han : a < n := by rw [← HN.out]; exact (List.getElem?_eq_some_iff.1 f3).1
    have h64 := (root_len (chkF_iff.1 f4).1).2
    have hjn : j < a := by
      obtain ⟨q9, hq9⟩ := Option.isSome_iff_exists.1 (chkF_iff.1 f4).1
      obtain ⟨⟨j', b', y', e1, e2, e3, _⟩, _⟩ := (plan_items hq9).2 a x f3 f2
      rw [f5] at e1
      omega
    have hml2 : m.length = n := by have := (chkF_iff.1 f4).2.1; unfold subs at this; rw [List.length_map, HN.out] at this; exact this
    rw [HN.out] at h64
    rw [hml2]
    have HPF : Hid (∀ W, Below w3.heap.size w3 W → PF its m (.slice ia n icap) (.slice ua n uc) W) := fun W hb => by
      have h9 := hrf.later hb
      rw [hml2] at h9
      exact ⟨HIt.out W (H3.out.bel.trans (hb.mono H3.out.bel.size)), HFA.out, HT.out W (H3.out.bel.trans (hb.mono H3.out.bel.size)), h9, by rw [HN.out]; omega, by omega⟩
    have HA : Hid (∀ W, Below w3.heap.size w3 W → Calls Tryz.prog 9 #[.agg #[.slice ia n icap], .slice ua n uc] W fun e w' => Below W.heap.size W w' ∧ ∃ a c, e = .returned (.tuple #[.slice a n c, .int .i64 0]) ∧ n ≤ c ∧ ∀ i, i < n → ∃ b off, a = some ⟨b, off, none⟩ ∧ w'.cell? ⟨b, off + i, none⟩ = some (.int .i64 (St.S (plOf its) (fOf m) i))) := fun W hbw => Calls.mono (All_any (HPF.out W hbw)) (by
      rintro e w' ⟨hb, a, c, rfl, hr⟩
      have h8 : allS its m = (List.range n).map (St.S (plOf its) (fOf m)) := by unfold allS; rw [if_pos f4, HN.out]
      rw [h8, List.length_map, List.length_range] at hr ⊢
      rw [f4]
      refine ⟨hb, a, c, rfl, ?_⟩
      obtain ⟨a', c', e', hc', hr'⟩ := hr
      rw [List.length_map, List.length_range] at e' hc'
      cases e'
      exact ⟨hc', fun i hi => hr' i _ (by rw [List.getElem?_map, List.getElem?_range hi]; rfl)⟩)
    have HFL : Hid (∀ W, Below w3.heap.size w3 W → Calls Tryz.prog 14 #[.agg #[.slice ia n icap], .slice ua n uc, .int .i64 (j : Int), .int .i64 (b : Int)] W fun e w' => e = .returned (.bool true) ∧ Below W.heap.size W w') := fun W hb => Calls.mono (Falling_any (HPF.out W hb) j b) (by rintro e w' ⟨rfl, hb⟩; rw [f7]; exact ⟨rfl, hb⟩)
    obtain ⟨xb, xo, xav, xam, xac, rfl, k0, k1, k2, k3, k4, k5, k6, k7, _⟩ := HIR.out a x f3
    have a5 := Dg.cell_later H3.out.bel k5
    have a6 := Dg.cell_later H3.out.bel k6
    rw [f5] at a5
    rw [f6] at a6
    have hai : (a : Int) < (n : Int) := by omega
    have ha1 : ¬ (a : Int) < 1 := by omega
    have HNO : Hid _ := f9
    have HS8 : Hid _ := f8
    clear hap hof hrf f3 f4 f5 f6 f7 f8 f9 k0 k1 k2 k3 k4 k5 k6 k7 hml2
    go_wp2_with fail
    go_quiet (fail)
    go_wp2_with fail
    have HB4 : Hid (Below w3.heap.size w3 (w3.drewN nq)) := drawn_below (Below.refl _ _) nq
    have H4 : Hid (ChS w (.slice (some ⟨xb, xo, none⟩) n icap) (w3.drewN nq)) := H3.out.later HB4.out
    have z4 := (Dg.cell_row H4.out.box 0).trans rfl
    generalize w3.drewN nq = w4 at *
    refine Calls.mono (HA.out _ HB4.out) ?_
    rintro x w5 ⟨hb5, sa, scap, rfl, hsc, hs5⟩
    have HB5 : Hid (Below w3.heap.size w3 w5) := HB4.out.trans (hb5.mono HB4.out.size)
    have H5 : Hid _ := H4.out.later hb5
    have z5 := (Dg.cell_row H5.out.box 0).trans rfl
    have HS5 : Hid _ := hs5
    have hnn : ((n : Int) != (n : Int)) = false := by simp
    clear hb5 hs5 HA z4 z3 H4 HB4 a5 a6
    go_wp2_with fail
    refine Calls.mono (HFL.out _ HB5.out) ?_
    rintro x w6 ⟨rfl, hb6⟩
    have H6 : Hid _ := H5.out.later hb6
    have HB56 : Hid _ := hb6
    have z6 := (Dg.cell_row H6.out.box 0).trans rfl
    obtain ⟨sb, so, rfl, sca⟩ := HS5.out a han
    rw [HS8.out] at sca
    have s6 := Dg.cell_later hb6 sca
    clear hb6 HFL z5 H5 HB5 sca
    go_wp2_with fail
    go_loopw [13] (fun iv wr => ∃ (k : Nat), 1 ≤ k ∧ k ≤ n ∧ iv = .int .i64 k ∧ Hid (Below w6.heap.size w6 wr)) (fun iv _ => n - (intOf iv).toNat)
    case atStart => exact ⟨1, by omega, by omega, by go_num, Below.refl _ _⟩
    case round =>
      obtain ⟨k, hk1, hk, rfl, HW⟩ := hrel
      rename World => wr
      have HR : Hid _ := H6.out.later HW.out
      have zr := (Dg.cell_row HR.out.box 0).trans rfl
      clear z6 s6
      by_cases hlt : k < n
      rotate_left
      · go_wp2_with fail
        refine Calls.mono (HLV.out _ HR.out.bel) ?_
        rintro x w7 ⟨rfl, hb7⟩
        have H7 : Hid _ := HR.out.later hb7
        clear hb7
        go_wp2_with fail
        go_ret
        exact ⟨rfl, H7.out.bel⟩
      · obtain ⟨y, hy⟩ : ∃ y, its[k]? = some y := ⟨_, List.getElem?_eq_getElem (by rw [HN.out]; exact hlt)⟩
        obtain ⟨b9, o9, yav, yam, yac, e9, k0, k1, k2, k3, k4, k5, k6, k7, _⟩ := HIR.out k y hy
        cases e9
        obtain ⟨b8, o8, e8, sck⟩ := HS5.out k hlt
        cases e8
        have hno := HNO.out k y hk1 hy
        obtain ⟨z, HZ⟩ : ∃ z, Hid (St.S (plOf its) (fOf m) k = z) := ⟨_, rfl⟩
        rw [HZ.out] at hno sck
        have sr := Dg.cell_later HW.out (Dg.cell_later HB56.out sck)
        have g0 := Dg.cell_later HR.out.bel k0
        have g1 := Dg.cell_later HR.out.bel k1
        have g2 := Dg.cell_later HR.out.bel k2
        have g3 := Dg.cell_later HR.out.bel k3
        have g4 := Dg.cell_later HR.out.bel k4
        have g5 := Dg.cell_later HR.out.bel k5
        have g6 := Dg.cell_later HR.out.bel k6
        have g7 := Dg.cell_later HR.out.bel k7
        have hii : (k : Int) < (n : Int) := by omega
        clear k0 k1 k2 k3 k4 k5 k6 k7 sck hy
        have hba := bl1 wr (.cells #[.string ⟨y.name.toArray⟩, .string ⟨y.undo.toArray⟩, .bool y.sub, .bool y.vital, .int .i64 y.alts, .int .i64 y.inn, .int .i64 y.alt, .slice yav yam yac] 37)
        have rx := Dg.row_new wr #[.string ⟨y.name.toArray⟩, .string ⟨y.undo.toArray⟩, .bool y.sub, .bool y.vital, .int .i64 y.alts, .int .i64 y.inn, .int .i64 y.alt, .slice yav yam yac] 37
        have x2 := (Dg.cell_row rx 2).trans rfl
        have x5 := (Dg.cell_row rx 5).trans rfl
        have x6 := (Dg.cell_row rx 6).trans rfl
        have sx := Dg.cell_later hba sr
        have HBA : Hid (Below w6.heap.size w6 _) := HW.out.trans (hba.mono HW.out.size)
        clear hba rx
        generalize y.inn = yi at *
        generalize y.alt = yl at *
        generalize y.sub = ys at *
        by_cases h1 : yi = (j : Int)
        rotate_left
        · have e1 : (yi == (j : Int)) = false := by simpa using h1
          clear hno h1
          go_wp2_with fail
          go_roundw
          case rel => exact ⟨k + 1, by omega, by omega, by go_num, HBA⟩
          case measure => simp [intOf] <;> omega
        subst h1
        have e1 : ((j : Int) == (j : Int)) = true := by simp
        by_cases h2 : yl = (b : Int)
        rotate_left
        · have e2 : (yl == (b : Int)) = false := by simpa using h2
          clear hno h2
          go_wp2_with fail
          go_roundw
          case rel => exact ⟨k + 1, by omega, by omega, by go_num, HBA⟩
          case measure => simp [intOf] <;> omega
        subst h2
        have e2 : ((b : Int) == (b : Int)) = true := by simp
        cases ys with
        | false =>
          clear hno
          go_wp2_with fail
          go_roundw
          case rel => exact ⟨k + 1, by omega, by omega, by go_num, HBA⟩
          case measure => simp [intOf] <;> omega
        | true =>
          have e3 : (z == 1) = false := by have := hno rfl rfl rfl; simpa using this
          clear hno
          go_wp2_with fail
          go_roundw
          case rel => exact ⟨k + 1, by omega, by omega, by go_num, HBA⟩
          case measure => simp [intOf] <;> omega
end Go.Proofs.YtgdnlceliiekkaaGreatDoor.Sa

