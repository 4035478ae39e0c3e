/- Texts of the seat, packed: Km Yw Yx. -/
import Derived.Test.YtkndchbpbaecbaaGreatDoorP39
import Derived.Test.YtkndchbpbaecbaaGreatDoorP37
import Derived.Test.YtkndchbpbaecbaaGreatDoorP07
import Derived.Deep.RegionHeldLaw
/- The walk over FactRight. -/
namespace Go.Proofs.YtkndchbpbaecbaaGreatDoor.Fc
open Go.RowKit Go.Shelf
set_option maxRecDepth 1000000
set_option linter.unusedVariables false

theorem RF.at {w : World} {b off n c : Nat} {l : List Fa} (h : RF w (.slice (some ⟨b, off, none⟩) n c) l) {i : Nat} {f : Fa} (hf : l[i]? = some f) :
    w.cell? ⟨b, off + i * 4, none⟩ = some (.int .i64 f.run) ∧ w.cell? ⟨b, off + i * 4 + 1, none⟩ = some (.int .i64 f.tries) ∧ w.cell? ⟨b, off + i * 4 + 2, none⟩ = some (.int .i64 f.slips) ∧ w.cell? ⟨b, off + i * 4 + 3, none⟩ = some (.bool f.un) := by
  obtain ⟨a, c', e, _, _, hr⟩ := h
  obtain ⟨b', off', e', h4⟩ := hr i f hf
  subst e'
  simp only [Value.slice.injEq, Option.some.injEq, Addr.mk.injEq, and_true] at e
  obtain ⟨⟨rfl, rfl⟩, _, _⟩ := e
  exact h4

theorem RF.some {w : World} {a : Option Addr} {n c : Nat} {l : List Fa} (h : RF w (.slice a n c) l) {i : Nat} {f : Fa} (hf : l[i]? = some f) : ∃ b off, a = some ⟨b, off, none⟩ := by
  obtain ⟨a', c', e, _, _, hr⟩ := h
  obtain ⟨b', off', e', h4⟩ := hr i f hf
  subst e'
  simp only [Value.slice.injEq] at e
  exact ⟨_, _, e.1⟩

/-- Facts behind an event are right; it does not fit once more; its item's fact alone is another one. -/
theorem app_right {its : List It} {l m : List Fa} {e : Ek.Ev} (h : appP its l e = .inr m) :
    chkF its m = 0 ∧ appP its m e = .inl 14 ∧ m.length = l.length ∧ ∀ (j : Nat) (f g : Fa), l[j]? = some f → m[j]? = some g → (f = g ↔ (j : Int) ≠ e.i) := by
  unfold appP at h
  split at h
  · rename_i hc
    obtain ⟨h1, h2⟩ := chkF_iff.1 hc
    split at h
    · rename_i he
      split at h
      · cases h
      · rename_i m' hd
        cases h
        obtain ⟨r1, r2, r3, r4⟩ := does_right h2 hd
        have hm := chkF_ok h1 r1
        refine ⟨hm, ?_, r3, fun j f g hf hg => ?_⟩
        · unfold appP
          rw [if_pos hm, if_pos he, r2]
        · have hj := (List.getElem?_eq_some_iff.1 hf).1
          have := r4 j hj
          rw [List.getD_eq_getElem?_getD, hf, List.getD_eq_getElem?_getD, hg] at this
          obtain ⟨q1, _⟩ := ok_parts he
          constructor
          · intro h9; have := this.1 h9; omega
          · intro h9; exact this.2 (by omega)
    · cases h
  · cases h

theorem app_err {its : List It} {l : List Fa} {e : Ek.Ev} {c : Int} (h : appP its l e = .inl c) : (c != 0) = true := by
  unfold appP at h
  split at h
  · split at h
    · split at h
      · cases h; decide
      · cases h
    · cases h; decide
  · cases h; decide

theorem HaS.tab {w : World} {v : Value} {e : Ek.Ev} {sv : Value} {W : World} (h : HaS w v e sv W) (hT : Dg.Tab w) : Dg.Tab W := hT.later h.bel

/-- What FactRight knows once the facts then are told. -/
structure FrS (w : World) (v : Value) (e : Ek.Ev) (sv lv mv : Value) (l m : List Fa) (W : World) : Prop where
  ha : HaS w v e sv W
  rl : RF W lv l
  rm : RF W mv m

theorem FrS.later {w : World} {v : Value} {e : Ek.Ev} {sv lv mv : Value} {l m : List Fa} {W W' : World} (h : FrS w v e sv lv mv l m W) (hb : Below W.heap.size W W') : FrS w v e sv lv mv l m W' :=
  ⟨h.ha.later hb, h.rl.later hb, h.rm.later hb⟩

set_option maxHeartbeats 8000000 in
theorem right_walk (its : List It) (v lv sv : Value) (l : List Fa) (e : Ek.Ev) (w : World) (hT : Dg.Tab w) (hIt : RdIt w v its) (hil : its.length ≤ maxLen) (hnm : ∀ x ∈ its, x.name.length ≤ maxLen ∧ x.undo.length ≤ maxLen ∧ x.after.length ≤ maxLen) (hl : RF w lv l) (hs : Ek.RI w sv e.s) :
    Calls Tryz.prog 3 #[.agg #[v], lv, Ek.EvV e sv] w fun x w' => x = .returned (.bool true) ∧ Below w.heap.size w w' := by
  have h0 := HaS.init w v e sv
  have MS0 := small_any its v _ (hIt.later h0.bel) hil hnm
  have HIt : Hid (∀ W, Below w.heap.size w W → RdIt W v its) := fun W hb => hIt.later hb
  have HL : Hid (∀ W, Below w.heap.size w W → RF W lv l) := fun W hb => hl.later hb
  have HS : Hid (∀ W, Below w.heap.size w W → Ek.RI W sv e.s) := fun W hb => hs.later hb
  have HLV : Hid (∀ W, Below w.heap.size w W → Calls Tryz.prog 7 #[] W fun x w' => x = .returned (.bool true) ∧ Below W.heap.size W w') := fun W hb => lives_any W (hT.later hb)
  have HT : Hid (∀ W, Below w.heap.size w W → Dg.Tab W) := fun W hb => hT.later hb
  unfold Ek.EvV
  obtain ⟨sa, sc, rfl, hs1, hs2, _⟩ := hs
  obtain ⟨ia, icap, rfl, _, _⟩ := hIt
  obtain ⟨la, lcap, rfl, hl1, hl2, _⟩ := hl
  have hsm : e.s.length ≤ maxLen := by omega
  have hlm : l.length ≤ maxLen := by omega
  clear hs1 hs2 hl1 hl2 hnm
  obtain ⟨q, HQ⟩ : ∃ q, Hid (smallI its = q) := ⟨_, rfl⟩
  rw [HQ.out] at MS0
  have MS : Hid (Calls Tryz.prog 6 #[.agg #[.slice ia its.length icap]] _ fun x w' => x = .returned (.bool q) ∧ Below _ _ w') := MS0
  have H0 : Hid (HaS w (.slice ia its.length icap) e (.slice sa e.s.length sc) _) := h0
  obtain ⟨n, HN⟩ : ∃ n, Hid (its.length = n) := ⟨_, rfl⟩
  obtain ⟨ml, HML⟩ : ∃ n, Hid (l.length = n) := ⟨_, rfl⟩
  obtain ⟨sn, HSN⟩ : ∃ n, Hid (e.s.length = n) := ⟨_, rfl⟩
  clear h0 MS0
  unfold maxLen at hsm hlm
  rw [HSN.out] at hsm
  rw [HML.out] at hlm
  replace MS : Hid (Calls Tryz.prog 6 #[.agg #[.slice ia n icap]] ((w.alloc (.cells #[.slice ia n icap] 24)).alloc (.cells #[.int .i64 e.k, .int .i64 e.i, .int .i64 e.t, .slice sa sn sc] 29)) fun x w' => x = .returned (.bool q) ∧ Below ((w.alloc (.cells #[.slice ia n icap] 24)).alloc (.cells #[.int .i64 e.k, .int .i64 e.i, .int .i64 e.t, .slice sa sn sc] 29)).heap.size ((w.alloc (.cells #[.slice ia n icap] 24)).alloc (.cells #[.int .i64 e.k, .int .i64 e.i, .int .i64 e.t, .slice sa sn sc] 29)) w') := by
    have h1 := HN.out
    have h2 := HSN.out
    subst h1 h2
    exact MS.out
  rw [HN.out, HSN.out] at H0
  rw [HN.out] at HIt
  rw [HML.out] at HL
  rw [HSN.out] at HS
  rw [HN.out, HML.out, HSN.out]
  go_enter Tryz.func3, Tryz.ntmps3
  go_wp2_with fail
  generalize (w.alloc (.cells #[.slice ia n icap] 24)).alloc (.cells #[.int .i64 e.k, .int .i64 e.i, .int .i64 e.t, .slice sa sn sc] 29) = w0 at *
  refine Calls.mono MS.out ?_
  rintro x w1 ⟨rfl, hb1⟩
  have H1 : Hid _ := H0.out.later hb1
  clear MS hb1 H0
  obtain ⟨z0, z1, z2, z3, z4⟩ := H1.out.ev
  by_cases hg : q = true ∧ ml ≤ 100 ∧ sn ≤ 300
  rotate_left
  · cases q with
    | false =>
      clear hg
      go_wp2_with fail
      refine Calls.mono (HLV.out w1 H1.out.bel) ?_
      rintro x w2 ⟨rfl, hb2⟩
      have HB2 : Hid (Below w.heap.size w w2) := H1.out.bel.trans (hb2.mono H1.out.bel.size)
      clear hb2
      go_wp2_with fail
      go_ret
      exact ⟨rfl, HB2.out⟩
    | true =>
      by_cases hm : ml ≤ 100
      · have hsn : ¬ sn ≤ 300 := fun h => hg ⟨rfl, hm, h⟩
        have hsi : (300 : Int) < (sn : Int) := by omega
        have hmi : ¬ (100 : Int) < (ml : Int) := by omega
        clear hg hsn
        go_wp2_with fail
        refine Calls.mono (HLV.out w1 H1.out.bel) ?_
        rintro x w2 ⟨rfl, hb2⟩
        have HB2 : Hid (Below w.heap.size w w2) := H1.out.bel.trans (hb2.mono H1.out.bel.size)
        clear hb2
        go_wp2_with fail
        go_ret
        exact ⟨rfl, HB2.out⟩
      · have hmi : (100 : Int) < (ml : Int) := by omega
        clear hg hm
        go_wp2_with fail
        refine Calls.mono (HLV.out w1 H1.out.bel) ?_
        rintro x w2 ⟨rfl, hb2⟩
        have HB2 : Hid (Below w.heap.size w w2) := H1.out.bel.trans (hb2.mono H1.out.bel.size)
        clear hb2
        go_wp2_with fail
        go_ret
        exact ⟨rfl, HB2.out⟩
  obtain ⟨rfl, hm1, hm2⟩ := hg
  obtain ⟨hfair, hn70⟩ := small_fair HQ.out
  have HAP : Hid (∀ (W : World) (mv : Value) (m : List Fa), HaS w (.slice ia n icap) e (.slice sa sn sc) W → RF W mv m → m.length = ml → Calls Tryz.prog 8 #[.agg #[.slice ia n icap], mv, .agg #[.int .i64 e.k, .int .i64 e.i, .int .i64 e.t, .slice sa sn sc]] W fun x w' => AppC (appP its m e) W x w') := fun W mv m h hr hml => apply_any its _ mv _ m e W (HIt.out W h.bel) hfair (HT.out W h.bel) hr (HS.out W h.bel) (by rw [HSN.out]; omega) (by omega) (by omega)
  have HCK : Hid (∀ (W : World) (mv : Value) (m : List Fa), HaS w (.slice ia n icap) e (.slice sa sn sc) W → RF W mv m → m.length = ml → chkF its m = 0 → Calls Tryz.prog 9 #[.agg #[.slice ia n icap], mv] W fun x w' => x = .returned (.int .i64 0) ∧ Below W.heap.size W w') := fun W mv m h hr hml h0 => by
    have := checkF_any its _ mv m W (HIt.out W h.bel) hfair (HT.out W h.bel) hr (by omega) (by omega)
    rw [h0] at this
    exact this
  have hmi : ¬ (100 : Int) < (ml : Int) := by omega
  have hsi : ¬ (300 : Int) < (sn : Int) := by omega
  clear HQ hfair hn70
  go_wp2_with fail
  refine Calls.mono (HAP.out w1 _ l H1.out (HL.out w1 H1.out.bel) HML.out) ?_
  rintro x w2 ⟨hb2, hx⟩
  have H2 : Hid _ := H1.out.later hb2
  have HB2 : Hid (Below w.heap.size w w2) := H2.out.bel
  clear hb2
  cases hA : appP its l e with
  | inl c =>
    rw [hA] at hx
    obtain rfl : x = .returned (.tuple #[.slice none 0 0, .int .i64 c]) := hx
    have hc := app_err hA
    clear hA
    go_wp2_with fail
    refine Calls.mono (HLV.out w2 H2.out.bel) ?_
    rintro x w3 ⟨rfl, hb3⟩
    have HB3 : Hid (Below w.heap.size w w3) := H2.out.bel.trans (hb3.mono H2.out.bel.size)
    clear hb3
    go_wp2_with fail
    go_ret
    exact ⟨rfl, HB3.out⟩
  | inr m =>
    rw [hA] at hx
    obtain ⟨u, rfl, ho⟩ := hx
    obtain ⟨r1, r2, r3, r4⟩ := app_right hA
    have R2 : Hid _ := r2
    have R1 : Hid _ := r1
    have R4 : Hid _ := r4
    have R3 : Hid (m.length = ml) := r3.trans HML.out
    have hrf := ho.rf
    obtain ⟨ua, uc, rfl, _⟩ := id hrf
    rw [R3.out] at hrf
    have HF2 : Hid (FrS w (.slice ia n icap) e (.slice sa sn sc) (.slice la ml lcap) (.slice ua ml uc) l m w2) := ⟨H2.out, HL.out w2 H2.out.bel, hrf⟩
    clear hA ho r1 r2 r3 r4 hrf H2
    rw [R3.out]
    obtain ⟨y0, y1, y2, y3, y4⟩ := HF2.out.ha.ev
    go_wp2_with fail
    refine Calls.mono (HAP.out w2 _ m HF2.out.ha HF2.out.rm R3.out) ?_
    rintro x w3 ⟨hb3, hx⟩
    rw [R2.out] at hx
    obtain rfl : x = .returned (.tuple #[.slice none 0 0, .int .i64 14]) := hx
    have HF3 : Hid _ := HF2.out.later hb3
    obtain ⟨x0, x1, x2, x3, x4⟩ := HF3.out.ha.ev
    clear hb3 HF2
    go_wp2_with fail
    refine Calls.mono (HCK.out w3 _ m HF3.out.ha HF3.out.rm R3.out R1.out) ?_
    rintro x w4 ⟨rfl, hb4⟩
    have HF4 : Hid _ := HF3.out.later hb4
    clear hb4 HF3 x0 x1 x2 x3 x4 y0 y1 y2 y3 y4 z0 z1 z2 z3 z4
    have hne : ((ml : Int) != (ml : Int)) = false := by simp
    go_wp2_with fail
    go_loopw [11] (fun iv wr => ∃ (k : Nat), k ≤ ml ∧ iv = .int .i64 k ∧ Hid (FrS w (.slice ia n icap) e (.slice sa sn sc) (.slice la ml lcap) (.slice ua ml uc) l m wr)) (fun iv _ => ml - (intOf iv).toNat)
    case atStart => exact ⟨0, Nat.zero_le _, rfl, HF4⟩
    case round =>
      obtain ⟨k, hk, rfl, HFr⟩ := hrel
      rename World => wr
      by_cases hlt : k < ml
      rotate_left
      · go_wp2_with fail
        refine Calls.mono (HLV.out wr HFr.out.ha.bel) ?_
        rintro x w5 ⟨rfl, hb5⟩
        have HB5 : Hid (Below w.heap.size w w5) := HFr.out.ha.bel.trans (hb5.mono HFr.out.ha.bel.size)
        clear hb5
        go_wp2_with fail
        go_ret
        exact ⟨rfl, HB5.out⟩
      obtain ⟨f, hf⟩ : ∃ f, l[k]? = some f := ⟨_, List.getElem?_eq_getElem (by rw [HML.out]; exact hlt)⟩
      obtain ⟨g, hg⟩ : ∃ g, m[k]? = some g := ⟨_, List.getElem?_eq_getElem (by rw [R3.out]; exact hlt)⟩
      have HFG : Hid _ := R4.out k f g hf hg
      have Hf : Hid _ := hf
      have Hg : Hid _ := hg
      obtain ⟨lb, lo, rfl⟩ := HFr.out.rl.some hf
      obtain ⟨mb, mo, rfl⟩ := HFr.out.rm.some hg
      have hii : (k : Int) < (ml : Int) := by omega
      have HFf : Hid (FaV f = .agg #[.int .i64 f.run, .int .i64 f.tries, .int .i64 f.slips, .bool f.un]) := rfl
      have HFg : Hid (FaV g = .agg #[.int .i64 g.run, .int .i64 g.tries, .int .i64 g.slips, .bool g.un]) := rfl
      clear hf hg
      go_wp2_with fail
      have hS0 : FrS w (.slice ia n icap) e (.slice sa sn sc) (.slice (some ⟨lb, lo, none⟩) ml lcap) (.slice (some ⟨mb, mo, none⟩) ml uc) l m wr.drew := HFr.out.later (Below.refl _ _).drew
      by_cases hfg : f = g
      · have HQ : Hid (decide (f = g) = true) := decide_eq_true hfg
        have hki : ((k : Int) == e.i) = false := by have := HFG.out.1 hfg; simpa using this
        clear HFG hfg
        refine region_thenF [(70, .slice (some ⟨lb, lo, none⟩) ml lcap), (71, .int .i64 k), (72, .pointer (some ⟨lb, lo + k * 4, none⟩)), (73, FaV f), (74, .slice (some ⟨mb, mo, none⟩) ml uc), (75, .int .i64 k), (76, .pointer (some ⟨mb, mo + k * 4, none⟩)), (77, FaV g), (78, .bool true), (79, .int .i64 k), (80, .pointer (some ⟨w.heap.size + 1, 1, none⟩)), (81, .int .i64 e.i), (82, .bool false), (83, .bool false)] (fun w' => FrS w (.slice ia n icap) e (.slice sa sn sc) (.slice (some ⟨lb, lo, none⟩) ml lcap) (.slice (some ⟨mb, mo, none⟩) ml uc) l m w') ?_ ?_
        · refine wp_region_held (S := fun w' => FrS w (.slice ia n icap) e (.slice sa sn sc) (.slice (some ⟨lb, lo, none⟩) ml lcap) (.slice (some ⟨mb, mo, none⟩) ml uc) l m w') (by kernel_rfl) ?_
          simp only [List.size_toArray, List.length_cons, List.length_nil, Nat.reduceAdd, Array.replicate_succ, Array.replicate_zero, List.push_toArray, List.nil_append, List.cons_append]
          refine takeD (i := 0) (d := 70) (v := .slice (some ⟨lb, lo, none⟩) ml lcap) (fuel := 13) rfl rfl (by kernel_rfl) (by kernel_rfl) (by kernel_rfl) (fun _ _ _ h => by cases h.1) (.inl ⟨by kernel_rfl, fun _ _ => by kernel_rfl⟩) hS0 ?_
          simp only [List.setIfInBounds_toArray, List.set_cons_succ, List.set_cons_zero]
          refine takeD (i := 1) (d := 71) (v := .int .i64 k) (fuel := 12) rfl rfl (by kernel_rfl) (by kernel_rfl) (by kernel_rfl) (fun _ _ _ h => by cases h.1) (.inl ⟨by kernel_rfl, fun _ _ => by kernel_rfl⟩) hS0 ?_
          simp only [List.setIfInBounds_toArray, List.set_cons_succ, List.set_cons_zero]
          refine takeD (i := 2) (d := 72) (v := .pointer (some ⟨lb, lo + k * 4, none⟩)) (fuel := 11) rfl rfl (by kernel_rfl) (by kernel_rfl) (by kernel_rfl) (fun _ _ _ h => by cases h.1) (.inl ⟨by kernel_rfl, fun _ _ => by go_simp⟩) hS0 ?_
          simp only [List.setIfInBounds_toArray, List.set_cons_succ, List.set_cons_zero]
          refine takeD (i := 3) (d := 73) (v := FaV f) (fuel := 10) rfl rfl (by kernel_rfl) (by kernel_rfl) (by kernel_rfl) (fun _ _ _ h => by cases h.1) (.inl ⟨by kernel_rfl, fun wx h => by rw [HFf.out]; obtain ⟨y0, y1, y2, y3⟩ := h.rl.at Hf.out; go_simp⟩) hS0 ?_
          simp only [List.setIfInBounds_toArray, List.set_cons_succ, List.set_cons_zero]
          refine takeD (i := 4) (d := 74) (v := .slice (some ⟨mb, mo, none⟩) ml uc) (fuel := 9) rfl rfl (by kernel_rfl) (by kernel_rfl) (by kernel_rfl) (fun _ _ _ h => by cases h.1) (.inl ⟨by kernel_rfl, fun _ _ => by kernel_rfl⟩) hS0 ?_
          simp only [List.setIfInBounds_toArray, List.set_cons_succ, List.set_cons_zero]
          refine takeD (i := 5) (d := 75) (v := .int .i64 k) (fuel := 8) rfl rfl (by kernel_rfl) (by kernel_rfl) (by kernel_rfl) (fun _ _ _ h => by cases h.1) (.inl ⟨by kernel_rfl, fun _ _ => by kernel_rfl⟩) hS0 ?_
          simp only [List.setIfInBounds_toArray, List.set_cons_succ, List.set_cons_zero]
          refine takeD (i := 6) (d := 76) (v := .pointer (some ⟨mb, mo + k * 4, none⟩)) (fuel := 7) rfl rfl (by kernel_rfl) (by kernel_rfl) (by kernel_rfl) (fun _ _ _ h => by cases h.1) (.inl ⟨by kernel_rfl, fun _ _ => by go_simp⟩) hS0 ?_
          simp only [List.setIfInBounds_toArray, List.set_cons_succ, List.set_cons_zero]
          refine takeD (i := 7) (d := 77) (v := FaV g) (fuel := 6) rfl rfl (by kernel_rfl) (by kernel_rfl) (by kernel_rfl) (fun _ _ _ h => by cases h.1) (.inl ⟨by kernel_rfl, fun wx h => by rw [HFg.out]; obtain ⟨y0, y1, y2, y3⟩ := h.rm.at Hg.out; go_simp⟩) hS0 ?_
          simp only [List.setIfInBounds_toArray, List.set_cons_succ, List.set_cons_zero]
          refine takeD (i := 8) (d := 78) (v := .bool true) (fuel := 5) rfl rfl (by kernel_rfl) (by kernel_rfl) (by kernel_rfl) (fun _ _ _ h => by cases h.1) (.inl ⟨by kernel_rfl, fun wx h => eq_exec f g (x := .tmp 73) (y := .tmp 77) rfl rfl rfl HQ.out⟩) hS0 ?_
          simp only [List.setIfInBounds_toArray, List.set_cons_succ, List.set_cons_zero]
          refine takeD (i := 9) (d := 79) (v := .int .i64 k) (fuel := 4) rfl rfl (by kernel_rfl) (by kernel_rfl) (by kernel_rfl) (fun _ _ _ h => by cases h.1) (.inl ⟨by kernel_rfl, fun _ _ => by kernel_rfl⟩) hS0 ?_
          simp only [List.setIfInBounds_toArray, List.set_cons_succ, List.set_cons_zero]
          refine takeD (i := 10) (d := 80) (v := .pointer (some ⟨w.heap.size + 1, 1, none⟩)) (fuel := 3) rfl rfl (by kernel_rfl) (by kernel_rfl) (by kernel_rfl) (fun _ _ _ h => by cases h.1) (.inl ⟨by kernel_rfl, fun _ _ => by go_simp⟩) hS0 ?_
          simp only [List.setIfInBounds_toArray, List.set_cons_succ, List.set_cons_zero]
          refine takeD (i := 11) (d := 81) (v := .int .i64 e.i) (fuel := 2) rfl rfl (by kernel_rfl) (by kernel_rfl) (by kernel_rfl) (fun _ _ _ h => by cases h.1) (.inl ⟨by kernel_rfl, fun wx h => by obtain ⟨y0, y1, y2, y3, y4⟩ := h.ha.ev; go_simp⟩) hS0 ?_
          simp only [List.setIfInBounds_toArray, List.set_cons_succ, List.set_cons_zero]
          refine takeD (i := 12) (d := 82) (v := .bool false) (fuel := 1) rfl rfl (by kernel_rfl) (by kernel_rfl) (by kernel_rfl) (fun _ _ _ h => by cases h.1) (.inl ⟨by kernel_rfl, fun wx h => by go_simp⟩) hS0 ?_
          simp only [List.setIfInBounds_toArray, List.set_cons_succ, List.set_cons_zero]
          refine takeD (i := 13) (d := 83) (v := .bool false) (fuel := 0) rfl rfl (by kernel_rfl) (by kernel_rfl) (by kernel_rfl) (fun _ _ _ h => by cases h.1) (.inl ⟨by kernel_rfl, fun wx h => by go_simp⟩) hS0 ?_
          simp only [List.setIfInBounds_toArray, List.set_cons_succ, List.set_cons_zero]
          refine wpAnyH_done (by kernel_rfl) ?_ _
          exact ⟨rfl, by kernel_rfl, hS0⟩
        · intro w9 hF
          simp only [setAll, List.setIfInBounds_toArray, List.set_cons_succ, List.set_cons_zero]
          have HF9 : Hid _ := hF
          clear hF
          go_wp2_with fail
          go_roundw
          case rel => exact ⟨k + 1, by omega, by go_num, HF9⟩
          case measure => simp [intOf]; omega
      · have HQ : Hid (decide (f = g) = false) := decide_eq_false hfg
        have hki : ((k : Int) == e.i) = true := by
          have : ¬ (k : Int) ≠ e.i := fun h => hfg (HFG.out.2 h)
          simpa using this
        clear HFG hfg
        refine region_thenF [(70, .slice (some ⟨lb, lo, none⟩) ml lcap), (71, .int .i64 k), (72, .pointer (some ⟨lb, lo + k * 4, none⟩)), (73, FaV f), (74, .slice (some ⟨mb, mo, none⟩) ml uc), (75, .int .i64 k), (76, .pointer (some ⟨mb, mo + k * 4, none⟩)), (77, FaV g), (78, .bool false), (79, .int .i64 k), (80, .pointer (some ⟨w.heap.size + 1, 1, none⟩)), (81, .int .i64 e.i), (82, .bool true), (83, .bool false)] (fun w' => FrS w (.slice ia n icap) e (.slice sa sn sc) (.slice (some ⟨lb, lo, none⟩) ml lcap) (.slice (some ⟨mb, mo, none⟩) ml uc) l m w') ?_ ?_
        · refine wp_region_held (S := fun w' => FrS w (.slice ia n icap) e (.slice sa sn sc) (.slice (some ⟨lb, lo, none⟩) ml lcap) (.slice (some ⟨mb, mo, none⟩) ml uc) l m w') (by kernel_rfl) ?_
          simp only [List.size_toArray, List.length_cons, List.length_nil, Nat.reduceAdd, Array.replicate_succ, Array.replicate_zero, List.push_toArray, List.nil_append, List.cons_append]
          refine takeD (i := 0) (d := 70) (v := .slice (some ⟨lb, lo, none⟩) ml lcap) (fuel := 13) rfl rfl (by kernel_rfl) (by kernel_rfl) (by kernel_rfl) (fun _ _ _ h => by cases h.1) (.inl ⟨by kernel_rfl, fun _ _ => by kernel_rfl⟩) hS0 ?_
          simp only [List.setIfInBounds_toArray, List.set_cons_succ, List.set_cons_zero]
          refine takeD (i := 1) (d := 71) (v := .int .i64 k) (fuel := 12) rfl rfl (by kernel_rfl) (by kernel_rfl) (by kernel_rfl) (fun _ _ _ h => by cases h.1) (.inl ⟨by kernel_rfl, fun _ _ => by kernel_rfl⟩) hS0 ?_
          simp only [List.setIfInBounds_toArray, List.set_cons_succ, List.set_cons_zero]
          refine takeD (i := 2) (d := 72) (v := .pointer (some ⟨lb, lo + k * 4, none⟩)) (fuel := 11) rfl rfl (by kernel_rfl) (by kernel_rfl) (by kernel_rfl) (fun _ _ _ h => by cases h.1) (.inl ⟨by kernel_rfl, fun _ _ => by go_simp⟩) hS0 ?_
          simp only [List.setIfInBounds_toArray, List.set_cons_succ, List.set_cons_zero]
          refine takeD (i := 3) (d := 73) (v := FaV f) (fuel := 10) rfl rfl (by kernel_rfl) (by kernel_rfl) (by kernel_rfl) (fun _ _ _ h => by cases h.1) (.inl ⟨by kernel_rfl, fun wx h => by rw [HFf.out]; obtain ⟨y0, y1, y2, y3⟩ := h.rl.at Hf.out; go_simp⟩) hS0 ?_
          simp only [List.setIfInBounds_toArray, List.set_cons_succ, List.set_cons_zero]
          refine takeD (i := 4) (d := 74) (v := .slice (some ⟨mb, mo, none⟩) ml uc) (fuel := 9) rfl rfl (by kernel_rfl) (by kernel_rfl) (by kernel_rfl) (fun _ _ _ h => by cases h.1) (.inl ⟨by kernel_rfl, fun _ _ => by kernel_rfl⟩) hS0 ?_
          simp only [List.setIfInBounds_toArray, List.set_cons_succ, List.set_cons_zero]
          refine takeD (i := 5) (d := 75) (v := .int .i64 k) (fuel := 8) rfl rfl (by kernel_rfl) (by kernel_rfl) (by kernel_rfl) (fun _ _ _ h => by cases h.1) (.inl ⟨by kernel_rfl, fun _ _ => by kernel_rfl⟩) hS0 ?_
          simp only [List.setIfInBounds_toArray, List.set_cons_succ, List.set_cons_zero]
          refine takeD (i := 6) (d := 76) (v := .pointer (some ⟨mb, mo + k * 4, none⟩)) (fuel := 7) rfl rfl (by kernel_rfl) (by kernel_rfl) (by kernel_rfl) (fun _ _ _ h => by cases h.1) (.inl ⟨by kernel_rfl, fun _ _ => by go_simp⟩) hS0 ?_
          simp only [List.setIfInBounds_toArray, List.set_cons_succ, List.set_cons_zero]
          refine takeD (i := 7) (d := 77) (v := FaV g) (fuel := 6) rfl rfl (by kernel_rfl) (by kernel_rfl) (by kernel_rfl) (fun _ _ _ h => by cases h.1) (.inl ⟨by kernel_rfl, fun wx h => by rw [HFg.out]; obtain ⟨y0, y1, y2, y3⟩ := h.rm.at Hg.out; go_simp⟩) hS0 ?_
          simp only [List.setIfInBounds_toArray, List.set_cons_succ, List.set_cons_zero]
          refine takeD (i := 8) (d := 78) (v := .bool false) (fuel := 5) rfl rfl (by kernel_rfl) (by kernel_rfl) (by kernel_rfl) (fun _ _ _ h => by cases h.1) (.inl ⟨by kernel_rfl, fun wx h => eq_exec f g (x := .tmp 73) (y := .tmp 77) rfl rfl rfl HQ.out⟩) hS0 ?_
          simp only [List.setIfInBounds_toArray, List.set_cons_succ, List.set_cons_zero]
          refine takeD (i := 9) (d := 79) (v := .int .i64 k) (fuel := 4) rfl rfl (by kernel_rfl) (by kernel_rfl) (by kernel_rfl) (fun _ _ _ h => by cases h.1) (.inl ⟨by kernel_rfl, fun _ _ => by kernel_rfl⟩) hS0 ?_
          simp only [List.setIfInBounds_toArray, List.set_cons_succ, List.set_cons_zero]
          refine takeD (i := 10) (d := 80) (v := .pointer (some ⟨w.heap.size + 1, 1, none⟩)) (fuel := 3) rfl rfl (by kernel_rfl) (by kernel_rfl) (by kernel_rfl) (fun _ _ _ h => by cases h.1) (.inl ⟨by kernel_rfl, fun _ _ => by go_simp⟩) hS0 ?_
          simp only [List.setIfInBounds_toArray, List.set_cons_succ, List.set_cons_zero]
          refine takeD (i := 11) (d := 81) (v := .int .i64 e.i) (fuel := 2) rfl rfl (by kernel_rfl) (by kernel_rfl) (by kernel_rfl) (fun _ _ _ h => by cases h.1) (.inl ⟨by kernel_rfl, fun wx h => by obtain ⟨y0, y1, y2, y3, y4⟩ := h.ha.ev; go_simp⟩) hS0 ?_
          simp only [List.setIfInBounds_toArray, List.set_cons_succ, List.set_cons_zero]
          refine takeD (i := 12) (d := 82) (v := .bool true) (fuel := 1) rfl rfl (by kernel_rfl) (by kernel_rfl) (by kernel_rfl) (fun _ _ _ h => by cases h.1) (.inl ⟨by kernel_rfl, fun wx h => by go_simp⟩) hS0 ?_
          simp only [List.setIfInBounds_toArray, List.set_cons_succ, List.set_cons_zero]
          refine takeD (i := 13) (d := 83) (v := .bool false) (fuel := 0) rfl rfl (by kernel_rfl) (by kernel_rfl) (by kernel_rfl) (fun _ _ _ h => by cases h.1) (.inl ⟨by kernel_rfl, fun wx h => by go_simp⟩) hS0 ?_
          simp only [List.setIfInBounds_toArray, List.set_cons_succ, List.set_cons_zero]
          refine wpAnyH_done (by kernel_rfl) ?_ _
          exact ⟨rfl, by kernel_rfl, hS0⟩
        · intro w9 hF
          simp only [setAll, List.setIfInBounds_toArray, List.set_cons_succ, List.set_cons_zero]
          have HF9 : Hid _ := hF
          clear hF
          go_wp2_with fail
          go_roundw
          case rel => exact ⟨k + 1, by omega, by go_num, HF9⟩
          case measure => simp [intOf]; omega
end Go.Proofs.YtkndchbpbaecbaaGreatDoor.Fc

/- What the laws' lives wants: the example in memory, and what is told of it. -/
namespace Go.Proofs.YtkndchbpbaecbaaGreatDoor

open Go.RowKit Go.Shelf Go.Proofs.YtkndchbpbaecbaaGreatDoor.Sx

set_option linter.unusedVariables false

theorem RdI.new (w : World) (l : List Nat) (vs : Array Value) (h : vs.toList = Dg.ivs l) : Dg.RdI (w.alloc (.cells vs 3)) (.slice (some ⟨w.heap.size, 0, none⟩) l.length l.length) l := by
  refine ⟨_, _, rfl, Nat.le_refl _, fun i x hi => ⟨_, _, rfl, ?_⟩⟩
  rw [Dg.cell_row (Dg.row_new w vs 3), Nat.zero_add, ← Array.getElem?_toList, h, Dg.ivs, List.getElem?_map, hi]
  rfl

end Go.Proofs.YtkndchbpbaecbaaGreatDoor

/- The walk over the laws' lives. -/
namespace Go.Proofs.YtkndchbpbaecbaaGreatDoor

open Go.RowKit Go.Shelf Go.Proofs.YtkndchbpbaecbaaGreatDoor.Sx

set_option linter.unusedVariables false

theorem four (w : World) (o0 o1 o2 o3 : Obj) :
    let W := (((w.alloc o0).alloc o1).alloc o2).alloc o3
    W.heap[w.heap.size]? = some o0 ∧ W.heap[w.heap.size + 1]? = some o1 ∧ W.heap[w.heap.size + 1 + 1]? = some o2 ∧ W.heap[w.heap.size + 1 + 1 + 1]? = some o3 ∧ Below w.heap.size w W := by
  refine ⟨?_, ?_, ?_, ?_, ?_⟩
  · exact old1 (old1 (old1 (new1 w o0 _ rfl) _) _) _
  · exact old1 (old1 (new1 _ o1 _ (by simp)) _) _
  · exact old1 (new1 _ o2 _ (by simp)) _
  · exact new1 _ o3 _ (by simp)
  · exact (((((Below.refl _ w).alloc (Nat.le_refl _) _).alloc (by simp) _).alloc (by simp; omega) _).alloc (by simp; omega) _)

end Go.Proofs.YtkndchbpbaecbaaGreatDoor

