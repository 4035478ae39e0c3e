/- Texts of the seat, packed: Kn. -/
import Derived.Test.YtkndchbpbaecbaaGreatDoorP40
/- The walk over FactBeside. -/
namespace Go.Proofs.YtkndchbpbaecbaaGreatDoor.Fc
open Go.RowKit Go.Shelf
set_option maxRecDepth 1000000
set_option linter.unusedVariables false

/-- What FactBeside knows. -/
structure HbS (w : World) (v : Value) (d : Ek.Ev) (dv : Value) (e : Ek.Ev) (sv : Value) (W : World) : Prop where
  bel : Below w.heap.size w W
  bp : W.heap[w.heap.size]? = some (.cells #[v] 24 (0, 0))
  bd : W.heap[w.heap.size + 1]? = some (.cells #[.int .i64 d.k, .int .i64 d.i, .int .i64 d.t, dv] 29 (0, 0))
  be : W.heap[w.heap.size + 1 + 1]? = some (.cells #[.int .i64 e.k, .int .i64 e.i, .int .i64 e.t, sv] 29 (0, 0))

theorem HbS.later {w : World} {v : Value} {d : Ek.Ev} {dv : Value} {e : Ek.Ev} {sv : Value} {W W' : World} (h : HbS w v d dv e sv W) (hb : Below W.heap.size W W') : HbS w v d dv e sv W' :=
  ⟨h.bel.trans (hb.mono h.bel.size), (hb.block _ (Array.getElem?_eq_some_iff.1 h.bp).1).trans h.bp, (hb.block _ (Array.getElem?_eq_some_iff.1 h.bd).1).trans h.bd, (hb.block _ (Array.getElem?_eq_some_iff.1 h.be).1).trans h.be⟩

theorem HbS.init (w : World) (v : Value) (d : Ek.Ev) (dv : Value) (e : Ek.Ev) (sv : Value) : HbS w v d dv e sv (((w.alloc (.cells #[v] 24)).alloc (.cells #[.int .i64 d.k, .int .i64 d.i, .int .i64 d.t, dv] 29)).alloc (.cells #[.int .i64 e.k, .int .i64 e.i, .int .i64 e.t, sv] 29)) := by
  obtain ⟨q0, q1, q2, hb⟩ := three w (.cells #[v] 24) (.cells #[.int .i64 d.k, .int .i64 d.i, .int .i64 d.t, dv] 29) (.cells #[.int .i64 e.k, .int .i64 e.i, .int .i64 e.t, sv] 29)
  exact ⟨hb, q0, q1, q2⟩

theorem HbS.ev {w : World} {v : Value} {d : Ek.Ev} {dv : Value} {e : Ek.Ev} {sv : Value} {W : World} (h : HbS w v d dv e sv W) : W.cell? ⟨w.heap.size + 1, 0, none⟩ = some (.int .i64 d.k) ∧ W.cell? ⟨w.heap.size + 1, 1, none⟩ = some (.int .i64 d.i) ∧ W.cell? ⟨w.heap.size + 1, 2, none⟩ = some (.int .i64 d.t) ∧ W.cell? ⟨w.heap.size + 1, 3, none⟩ = some dv ∧
    W.cell? ⟨w.heap.size + 1 + 1, 0, none⟩ = some (.int .i64 e.k) ∧ W.cell? ⟨w.heap.size + 1 + 1, 1, none⟩ = some (.int .i64 e.i) ∧ W.cell? ⟨w.heap.size + 1 + 1, 2, none⟩ = some (.int .i64 e.t) ∧ W.cell? ⟨w.heap.size + 1 + 1, 3, none⟩ = some sv ∧ W.cell? ⟨w.heap.size, 0, none⟩ = some v :=
  ⟨Dg.cell_row h.bd 0, Dg.cell_row h.bd 1, Dg.cell_row h.bd 2, Dg.cell_row h.bd 3, Dg.cell_row h.be 0, Dg.cell_row h.be 1, Dg.cell_row h.be 2, Dg.cell_row h.be 3, Dg.cell_row h.bp 0⟩

/-- Of two events of unlike items it does not matter which comes first. -/
theorem app_beside {its : List It} {l a b : List Fa} {d e : Ek.Ev} (hde : ¬ d.i = e.i) (h : appP its l d = .inr a) (h' : appP its l e = .inr b) :
    ∃ x, appP its a e = .inr x ∧ appP its b d = .inr x ∧ a.length = l.length ∧ b.length = l.length ∧ x.length = l.length := by
  have ha := app_right h
  have hb := app_right h'
  have hd := h
  have he := h'
  unfold appP at hd he
  split at hd
  · rename_i hc
    rw [if_pos hc] at he
    split at hd
    · rename_i hod
      split at he
      · rename_i hoe
        split at hd
        · cases hd
        · rename_i a' hda
          cases hd
          split at he
          · cases he
          · rename_i b' hdb
            cases he
            obtain ⟨p1, _⟩ := ok_parts hod
            obtain ⟨p2, _⟩ := ok_parts hoe
            obtain ⟨x, x1, x2⟩ := does_beside (by omega) hda hdb
            refine ⟨x, ?_, ?_, ha.2.2.1, hb.2.2.1, ?_⟩
            · unfold appP
              rw [if_pos ha.1, if_pos hoe, x1]
            · unfold appP
              rw [if_pos hb.1, if_pos hod, x2]
            · have := (does_right (chkF_iff.1 ha.1).2 x1).2.2.1
              rw [this]
              exact ha.2.2.1
      · cases he
    · cases hd
  · cases hd

set_option maxHeartbeats 8000000 in
theorem beside_walk (its : List It) (v lv dv sv : Value) (l : List Fa) (d e : Ek.Ev) (w : World) (hT : Dg.Tab w) (hIt : RdIt w v its) (hil : its.length ≤ maxLen) (hnm : ∀ x ∈ its, x.name.length ≤ maxLen ∧ x.undo.length ≤ maxLen ∧ x.after.length ≤ maxLen) (hl : RF w lv l) (hd : Ek.RI w dv d.s) (hs : Ek.RI w sv e.s) :
    Calls Tryz.prog 4 #[.agg #[v], lv, Ek.EvV d dv, Ek.EvV e sv] w fun x w' => x = .returned (.bool true) ∧ Below w.heap.size w w' := by
  have h0 := HbS.init w v d dv e sv
  have MS0 := small_any its v _ (hIt.later h0.bel) hil hnm
  have HIt : Hid (∀ W, Below w.heap.size w W → RdIt W v its) := fun W hb => hIt.later hb
  have HL : Hid (∀ W, Below w.heap.size w W → RF W lv l) := fun W hb => hl.later hb
  have HD : Hid (∀ W, Below w.heap.size w W → Ek.RI W dv d.s) := fun W hb => hd.later hb
  have HS : Hid (∀ W, Below w.heap.size w W → Ek.RI W sv e.s) := fun W hb => hs.later hb
  have HLV : Hid (∀ W, Below w.heap.size w W → Calls Tryz.prog 7 #[] W fun x w' => x = .returned (.bool true) ∧ Below W.heap.size W w') := fun W hb => lives_any W (hT.later hb)
  have HT : Hid (∀ W, Below w.heap.size w W → Dg.Tab W) := fun W hb => hT.later hb
  unfold Ek.EvV
  obtain ⟨da, dc, rfl, hd1, hd2, _⟩ := hd
  obtain ⟨sa, sc, rfl, hs1, hs2, _⟩ := hs
  obtain ⟨ia, icap, rfl, _, _⟩ := hIt
  obtain ⟨la, lcap, rfl, hl1, hl2, _⟩ := hl
  have hdm : d.s.length ≤ maxLen := by omega
  have hsm : e.s.length ≤ maxLen := by omega
  have hlm : l.length ≤ maxLen := by omega
  clear hs1 hs2 hl1 hl2 hnm hd1 hd2
  obtain ⟨q, HQ⟩ : ∃ q, Hid (smallI its = q) := ⟨_, rfl⟩
  rw [HQ.out] at MS0
  have MS : Hid (Calls Tryz.prog 6 #[.agg #[.slice ia its.length icap]] _ fun x w' => x = .returned (.bool q) ∧ Below _ _ w') := MS0
  have H0 : Hid (HbS w (.slice ia its.length icap) d (.slice da d.s.length dc) e (.slice sa e.s.length sc) _) := h0
  obtain ⟨n, HN⟩ : ∃ n, Hid (its.length = n) := ⟨_, rfl⟩
  obtain ⟨ml, HML⟩ : ∃ n, Hid (l.length = n) := ⟨_, rfl⟩
  obtain ⟨dn, HDN⟩ : ∃ n, Hid (d.s.length = n) := ⟨_, rfl⟩
  obtain ⟨sn, HSN⟩ : ∃ n, Hid (e.s.length = n) := ⟨_, rfl⟩
  clear h0 MS0
  unfold maxLen at hsm hlm hdm
  rw [HSN.out] at hsm
  rw [HDN.out] at hdm
  rw [HML.out] at hlm
  replace MS : Hid (Calls Tryz.prog 6 #[.agg #[.slice ia n icap]] (((w.alloc (.cells #[.slice ia n icap] 24)).alloc (.cells #[.int .i64 d.k, .int .i64 d.i, .int .i64 d.t, .slice da dn dc] 29)).alloc (.cells #[.int .i64 e.k, .int .i64 e.i, .int .i64 e.t, .slice sa sn sc] 29)) fun x w' => x = .returned (.bool q) ∧ Below (((w.alloc (.cells #[.slice ia n icap] 24)).alloc (.cells #[.int .i64 d.k, .int .i64 d.i, .int .i64 d.t, .slice da dn dc] 29)).alloc (.cells #[.int .i64 e.k, .int .i64 e.i, .int .i64 e.t, .slice sa sn sc] 29)).heap.size (((w.alloc (.cells #[.slice ia n icap] 24)).alloc (.cells #[.int .i64 d.k, .int .i64 d.i, .int .i64 d.t, .slice da dn dc] 29)).alloc (.cells #[.int .i64 e.k, .int .i64 e.i, .int .i64 e.t, .slice sa sn sc] 29)) w') := by
    have h1 := HN.out
    have h2 := HSN.out
    have h3 := HDN.out
    subst h1 h2 h3
    exact MS.out
  rw [HN.out, HSN.out, HDN.out] at H0
  rw [HN.out] at HIt
  rw [HML.out] at HL
  rw [HSN.out] at HS
  rw [HDN.out] at HD
  rw [HN.out, HML.out, HSN.out, HDN.out]
  go_enter Tryz.func4, Tryz.ntmps4
  go_wp2_with fail
  generalize ((w.alloc (.cells #[.slice ia n icap] 24)).alloc (.cells #[.int .i64 d.k, .int .i64 d.i, .int .i64 d.t, .slice da dn dc] 29)).alloc (.cells #[.int .i64 e.k, .int .i64 e.i, .int .i64 e.t, .slice sa sn sc] 29) = w0 at *
  refine Calls.mono MS.out ?_
  rintro x w1 ⟨rfl, hb1⟩
  have H1 : Hid _ := H0.out.later hb1
  clear MS hb1 H0
  obtain ⟨z0, z1, z2, z3, z4, z5, z6, z7, z8⟩ := H1.out.ev
  by_cases hg : q = true ∧ ml ≤ 100 ∧ dn ≤ 300 ∧ sn ≤ 300 ∧ ¬ d.i = e.i
  rotate_left
  · have hcs : q = false ∨ (q = true ∧ (100 : Int) < (ml : Int)) ∨ (q = true ∧ ¬ (100 : Int) < (ml : Int) ∧ (300 : Int) < (dn : Int)) ∨ (q = true ∧ ¬ (100 : Int) < (ml : Int) ∧ ¬ (300 : Int) < (dn : Int) ∧ (300 : Int) < (sn : Int)) ∨ (q = true ∧ ¬ (100 : Int) < (ml : Int) ∧ ¬ (300 : Int) < (dn : Int) ∧ ¬ (300 : Int) < (sn : Int) ∧ (d.i == e.i) = true) := by
      cases q with
      | false => exact .inl rfl
      | true =>
        by_cases c1 : (100 : Int) < (ml : Int)
        · exact .inr (.inl ⟨rfl, c1⟩)
        · by_cases c2 : (300 : Int) < (dn : Int)
          · exact .inr (.inr (.inl ⟨rfl, c1, c2⟩))
          · by_cases c3 : (300 : Int) < (sn : Int)
            · exact .inr (.inr (.inr (.inl ⟨rfl, c1, c2, c3⟩)))
            · refine .inr (.inr (.inr (.inr ⟨rfl, c1, c2, c3, ?_⟩)))
              apply Classical.byContradiction
              intro h9
              exact hg ⟨rfl, by omega, by omega, by omega, fun h => h9 (by simp [h])⟩
    clear hg
    rcases hcs with rfl | ⟨rfl, c1⟩ | ⟨rfl, c1, c2⟩ | ⟨rfl, c1, c2, c3⟩ | ⟨rfl, c1, c2, c3, c4⟩
    all_goals
      go_wp2_with fail
      refine Calls.mono (HLV.out w1 H1.out.bel) ?_
      rintro x w2 ⟨rfl, hb2⟩
      have HB2 : Hid (Below w.heap.size w w2) := H1.out.bel.trans (hb2.mono H1.out.bel.size)
      clear hb2
      go_wp2_with fail
      go_ret
      exact ⟨rfl, HB2.out⟩
  obtain ⟨rfl, hm1, hm2, hm3, hdi⟩ := hg
  obtain ⟨hfair, hn70⟩ := small_fair HQ.out
  have HAE : Hid (∀ (W : World) (mv : Value) (m : List Fa), Below w.heap.size w W → RF W mv m → m.length = ml → Calls Tryz.prog 8 #[.agg #[.slice ia n icap], mv, .agg #[.int .i64 e.k, .int .i64 e.i, .int .i64 e.t, .slice sa sn sc]] W fun x w' => AppC (appP its m e) W x w') := fun W mv m h hr hml => apply_any its _ mv _ m e W (HIt.out W h) hfair (HT.out W h) hr (HS.out W h) (by rw [HSN.out]; omega) (by omega) (by omega)
  have HAD : Hid (∀ (W : World) (mv : Value) (m : List Fa), Below w.heap.size w W → RF W mv m → m.length = ml → Calls Tryz.prog 8 #[.agg #[.slice ia n icap], mv, .agg #[.int .i64 d.k, .int .i64 d.i, .int .i64 d.t, .slice da dn dc]] W fun x w' => AppC (appP its m d) W x w') := fun W mv m h hr hml => apply_any its _ mv _ m d W (HIt.out W h) hfair (HT.out W h) hr (HD.out W h) (by rw [HDN.out]; omega) (by omega) (by omega)
  have HDI : Hid _ := hdi
  have hdi2 : (d.i == e.i) = false := by simpa using hdi
  have c1 : ¬ (100 : Int) < (ml : Int) := by omega
  have c2 : ¬ (300 : Int) < (dn : Int) := by omega
  have c3 : ¬ (300 : Int) < (sn : Int) := by omega
  clear HQ hfair hn70 hdi
  go_wp2_with fail
  refine Calls.mono (HAD.out w1 _ l H1.out.bel (HL.out w1 H1.out.bel) HML.out) ?_
  rintro x w2 ⟨hb2, hx⟩
  have H2 : Hid _ := H1.out.later hb2
  clear hb2 z0 z1 z2 z3 z4 z5 z6 z7 z8 H1 hdi2 c1 c2 c3
  obtain ⟨z0, z1, z2, z3, z4, z5, z6, z7, z8⟩ := H2.out.ev
  obtain ⟨xa, xn, xc, xe, HXX, HXR⟩ : ∃ (xa : Option Addr) (xn xc : Nat) (xe : Int), Hid (x = .returned (.tuple #[.slice xa xn xc, .int .i64 xe])) ∧ Hid ((∃ c, appP its l d = .inl c ∧ xe = c) ∨ (∃ a, appP its l d = .inr a ∧ xe = 0 ∧ RF w2 (.slice xa xn xc) a)) := by
    cases hA : appP its l d with
    | inl c => rw [hA] at hx; exact ⟨none, 0, 0, c, hx, .inl ⟨c, rfl, rfl⟩⟩
    | inr a =>
      rw [hA] at hx
      obtain ⟨u, rfl, ho⟩ := hx
      obtain ⟨ua, uc, rfl, _⟩ := id ho.rf
      exact ⟨ua, _, uc, 0, rfl, .inr ⟨a, rfl, rfl, ho.rf⟩⟩
  have hxx := HXX.out
  subst hxx
  clear hx HXX
  go_wp2_with fail
  refine Calls.mono (HAE.out w2 _ l H2.out.bel (HL.out w2 H2.out.bel) HML.out) ?_
  rintro x w3 ⟨hb3, hx⟩
  have H3 : Hid _ := H2.out.later hb3
  have HXR3 : Hid ((∃ c, appP its l d = .inl c ∧ xe = c) ∨ (∃ a, appP its l d = .inr a ∧ xe = 0 ∧ RF w3 (.slice xa xn xc) a)) := by
    rcases HXR.out with h | ⟨a, h1, h2, h3⟩
    · exact .inl h
    · exact .inr ⟨a, h1, h2, h3.later hb3⟩
  clear hb3 z0 z1 z2 z3 z4 z5 z6 z7 z8 H2 HXR
  obtain ⟨z0, z1, z2, z3, z4, z5, z6, z7, z8⟩ := H3.out.ev
  obtain ⟨ya, yn, yc, ye, HYY, HYR⟩ : ∃ (ya : Option Addr) (yn yc : Nat) (ye : Int), Hid (x = .returned (.tuple #[.slice ya yn yc, .int .i64 ye])) ∧ Hid ((∃ c, appP its l e = .inl c ∧ ye = c) ∨ (∃ b, appP its l e = .inr b ∧ ye = 0 ∧ RF w3 (.slice ya yn yc) b)) := by
    cases hA : appP its l e with
    | inl c => rw [hA] at hx; exact ⟨none, 0, 0, c, hx, .inl ⟨c, rfl, rfl⟩⟩
    | inr a =>
      rw [hA] at hx
      obtain ⟨u, rfl, ho⟩ := hx
      obtain ⟨ua, uc, rfl, _⟩ := id ho.rf
      exact ⟨ua, _, uc, 0, rfl, .inr ⟨a, rfl, rfl, ho.rf⟩⟩
  have hyy := HYY.out
  subst hyy
  clear hx HYY
  rcases HXR3.out with ⟨c, h1, h2⟩ | ⟨a, ha1, ha2, ha3⟩
  · have hc := app_err h1
    rw [← h2] at hc
    clear h1 h2
    go_wp2_with fail
    refine Calls.mono (HLV.out w3 H3.out.bel) ?_
    rintro x w4 ⟨rfl, hb4⟩
    have HB4 : Hid (Below w.heap.size w w4) := H3.out.bel.trans (hb4.mono H3.out.bel.size)
    clear hb4
    go_wp2_with fail
    go_ret
    exact ⟨rfl, HB4.out⟩
  subst ha2
  rcases HYR.out with ⟨c, h1, h2⟩ | ⟨b, hb1, hb2, hb3⟩
  · have hc := app_err h1
    rw [← h2] at hc
    clear h1 h2
    go_wp2_with fail
    refine Calls.mono (HLV.out w3 H3.out.bel) ?_
    rintro x w4 ⟨rfl, hb4⟩
    have HB4 : Hid (Below w.heap.size w w4) := H3.out.bel.trans (hb4.mono H3.out.bel.size)
    clear hb4
    go_wp2_with fail
    go_ret
    exact ⟨rfl, HB4.out⟩
  subst hb2
  obtain ⟨X, p1, p2, p3, p4, p5⟩ := app_beside HDI.out ha1 hb1
  have P1 : Hid _ := p1
  have P2 : Hid _ := p2
  have P3 : Hid (a.length = ml) := p3.trans HML.out
  have P4 : Hid (b.length = ml) := p4.trans HML.out
  have P5 : Hid (X.length = ml) := p5.trans HML.out
  have HA3 : Hid (RF w3 (.slice xa xn xc) a) := ha3
  have HB3 : Hid (RF w3 (.slice ya yn yc) b) := hb3
  clear HXR3 HYR ha1 hb1 ha3 hb3 p1 p2 p3 p4 p5
  go_wp2_with fail
  refine Calls.mono (HAE.out w3 _ a H3.out.bel HA3.out P3.out) ?_
  rintro x w4 ⟨hb4, hx⟩
  rw [P1.out] at hx
  obtain ⟨u, rfl, ho⟩ := hx
  have H4 : Hid _ := H3.out.later hb4
  have HB4 : Hid (RF w4 (.slice ya yn yc) b) := RF.later HB3.out hb4
  obtain ⟨ua, uc, rfl, _⟩ := id ho.rf
  have HU4 : Hid (RF w4 (.slice ua X.length uc) X) := ho.rf
  clear hb4 z0 z1 z2 z3 z4 z5 z6 z7 z8 H3 HB3 HA3 ho
  obtain ⟨z0, z1, z2, z3, z4, z5, z6, z7, z8⟩ := H4.out.ev
  go_wp2_with fail
  refine Calls.mono (HAD.out w4 _ b H4.out.bel HB4.out P4.out) ?_
  rintro x w5 ⟨hb5, hx⟩
  rw [P2.out] at hx
  obtain ⟨t, rfl, ho⟩ := hx
  have H5 : Hid _ := H4.out.later hb5
  have HU5 : Hid (RF w5 (.slice ua X.length uc) X) := RF.later HU4.out hb5
  obtain ⟨ta, tc, rfl, _⟩ := id ho.rf
  have HT5 : Hid (RF w5 (.slice ta X.length tc) X) := ho.rf
  clear hb5 z0 z1 z2 z3 z4 z5 z6 z7 z8 H4 HU4 HB4 ho
  go_wp2_with fail
  refine Calls.mono (sameF_any X _ _ w5 HU5.out HT5.out (by rw [P5.out]; omega)) ?_
  rintro x w6 ⟨rfl, hb6⟩
  have H6 : Hid _ := H5.out.later hb6
  clear hb6 HU5 HT5 H5
  go_wp2_with fail
  refine Calls.mono (HLV.out w6 H6.out.bel) ?_
  rintro x w7 ⟨rfl, hb7⟩
  have HB7 : Hid (Below w.heap.size w w7) := H6.out.bel.trans (hb7.mono H6.out.bel.size)
  clear hb7
  go_wp2_with fail
  go_ret
  exact ⟨rfl, HB7.out⟩
end Go.Proofs.YtkndchbpbaecbaaGreatDoor.Fc

