/- Events in memory; the walks over the document's SameAll and SameRows. -/
import Derived.Test.YtamfpmpooaejkaaEl
import Derived.Test.YtamfpmpooaejkaaGh
import Derived.Deep.RegionHeld
namespace Go.Proofs.Ytamfpmpooaejkaa
open Go.RowKit
set_option maxRecDepth 1000000
set_option linter.unusedVariables false

instance : DecidableEq Ev := fun a b => decidable_of_iff (sameB a b = true) sameB_iff

/-- Events in memory. -/
def RE (w : World) (v : Value) (L : List Ev) : Prop :=
  ∃ a cap, v = .slice a L.length cap ∧ L.length ≤ cap ∧ cap ≤ maxLen ∧ ∀ i x, L[i]? = some x → ∃ b off sv, a = some ⟨b, off, none⟩ ∧ w.cell? ⟨b, off + i * 4, none⟩ = some (.int .i64 x.k) ∧ w.cell? ⟨b, off + i * 4 + 1, none⟩ = some (.int .i64 x.i) ∧ w.cell? ⟨b, off + i * 4 + 2, none⟩ = some (.int .i64 x.t) ∧ w.cell? ⟨b, off + i * 4 + 3, none⟩ = some sv ∧ RI w sv x.s

theorem RE.later {w w' : World} {v : Value} {L : List Ev} (h : RE w v L) (hb : Below w.heap.size w w') : RE w' v L := by
  obtain ⟨a, cap, rfl, h1, h2, hc⟩ := h
  refine ⟨a, cap, rfl, h1, h2, fun i x hx => ?_⟩
  obtain ⟨b, off, sv, ha, c0, c1, c2, c3, c4⟩ := hc i x hx
  exact ⟨b, off, sv, ha, cell_later hb c0, cell_later hb c1, cell_later hb c2, cell_later hb c3, c4.later hb⟩

theorem RE.slice {w : World} {v : Value} {L : List Ev} (h : RE w v L) : ∃ a c, v = .slice a L.length c := by
  obtain ⟨a, cap, rfl, _⟩ := h
  exact ⟨_, _, rfl⟩

theorem evRows_get (P : List (Ev × Value)) (i : Nat) (p : Ev × Value) (h : P[i]? = some p) (j : Nat) (hj : j < 4) : (evRows P)[i * 4 + j]? = (evRow p)[j]? := by
  induction P generalizing i with
  | nil => simp at h
  | cons q P ih =>
    have e : evRows (q :: P) = evRow q ++ evRows P := by simp [evRows]
    have hl : (evRow q).length = 4 := rfl
    rw [e]
    cases i with
    | zero =>
      simp at h
      subst h
      rw [Nat.zero_mul, Nat.zero_add, List.getElem?_append_left (by omega)]
    | succ i =>
      rw [List.getElem?_append_right (by omega), ← ih i (by simpa using h)]
      congr 1
      omega

theorem LogR.re {N : Nat} {W : World} {T : Nat → Prop} {v : Value} {L : List Ev} (h : LogR N W T v L) : RE W v L ∧ ∀ x ∈ L, x.s.length ≤ 1000000 := by
  obtain ⟨P, h1, h2, h3, h4⟩ := h
  have hl := h2
  subst h1
  refine ⟨?_, fun x hx => ?_⟩
  · rcases h2.2 with ⟨rfl, h0⟩ | ⟨g, cap, cur, rfl, _, _, q1, q2, _⟩
    · have h1 : P.map Prod.fst = [] := List.eq_nil_of_length_eq_zero h0
      rw [h1]
      exact ⟨none, 0, rfl, by simp, by unfold maxLen; omega, by simp⟩
    · refine ⟨_, cap, rfl, q1, q2, fun i x hx => ?_⟩
      rw [List.getElem?_map] at hx
      obtain ⟨p, hp, rfl⟩ := Option.map_eq_some_iff.1 hx
      have hi : i < P.length := (List.getElem?_eq_some_iff.1 hp).1
      have cell : ∀ j, j < 4 → W.cell? ⟨g, 0 + i * 4 + j, none⟩ = (evRow p)[j]? := fun j hj => by
        have := hl.cellAt (i * 4 + j) (by rw [List.length_map]; omega)
        rw [← evRows_get P i p hp j hj, ← this, Nat.zero_add]
      obtain ⟨a, c, e, s1, s2, s3⟩ := h4 p (List.mem_of_getElem? hp)
      have k0 := cell 0 (by omega)
      rw [Nat.add_zero] at k0
      exact ⟨g, 0, p.2, rfl, k0, cell 1 (by omega), cell 2 (by omega), cell 3 (by omega), s1⟩
  · obtain ⟨p, hp, rfl⟩ := List.mem_map.1 hx
    obtain ⟨a, c, e, s1, s2, s3⟩ := h4 p hp
    exact s2

theorem getD_ev {L : List Ev} {k : Nat} (h : k < L.length) : L[k]? = some (L.getD k Ev.none) := by
  rw [List.getElem?_eq_getElem h, List.getD_eq_getElem?_getD, List.getElem?_eq_getElem h]
  rfl

set_option maxHeartbeats 4000000 in
theorem sameAll_any (l m : List Ev) (v u : Value) (w : World) (hl : RE w v l) (hm : RE w u m) (hsl : ∀ x ∈ l, x.s.length ≤ 1000000) (hsm : ∀ x ∈ m, x.s.length ≤ 1000000) (hn : l.length ≤ 1000000) (hn' : m.length ≤ 1000000) :
    Calls Try.prog 13 #[v, u] w fun e w' => e = .returned (.bool (decide (l = m))) ∧ Below w.heap.size w w' := by
  obtain ⟨a, cap, rfl, hc, _, hr⟩ := hl
  obtain ⟨a', cap', rfl, hc', _, hr'⟩ := hm
  have HR : Hid _ := hr
  have HR' : Hid _ := hr'
  have HSL : Hid _ := hsl
  have HSM : Hid _ := hsm
  obtain ⟨n, HN⟩ : ∃ n, Hid (l.length = n) := ⟨_, rfl⟩
  obtain ⟨n', HN'⟩ : ∃ n, Hid (m.length = n) := ⟨_, rfl⟩
  rw [HN.out] at hn hc ⊢
  rw [HN'.out] at hn' hc' ⊢
  clear hr hr' hsl hsm
  by_cases hnn : n = n'
  · subst hnn
    go_enter Try.func13, Try.ntmps13
    go_wp2_with fail
    go_loopw [5] (fun iv wr => ∃ (k : Nat), k ≤ n ∧ iv = .int .i64 k ∧ Hid (∀ i, i < k → l.getD i Ev.none = m.getD i Ev.none) ∧ Hid (Below w.heap.size w wr)) (fun iv _ => n - (intOf iv).toNat)
    case atStart => exact ⟨0, Nat.zero_le _, rfl, fun i hi => by omega, Below.refl _ _⟩
    case round =>
      obtain ⟨k, hk, rfl, HX, HB⟩ := hrel
      rename World => w1
      by_cases hlt : k < n
      · have g1 := getD_ev (L := l) (k := k) (by rw [HN.out]; exact hlt)
        have g2 := getD_ev (L := m) (k := k) (by rw [HN'.out]; exact hlt)
        obtain ⟨y, HYy⟩ : ∃ y, Hid (y = l.getD k Ev.none) := ⟨_, rfl⟩
        obtain ⟨z, HZz⟩ : ∃ z, Hid (z = m.getD k Ev.none) := ⟨_, rfl⟩
        rw [← HYy.out] at g1
        rw [← HZz.out] at g2
        obtain ⟨b, off, sv, rfl, c0, c1, c2, c3, c4⟩ := HR.out k y g1
        obtain ⟨b', off', sv', rfl, e0, e1, e2, e3, e4⟩ := HR'.out k z g2
        have hSE : ∀ wx, Below w.heap.size w wx → Calls Try.prog 28 #[.agg #[.int .i64 y.k, .int .i64 y.i, .int .i64 y.t, sv], .agg #[.int .i64 z.k, .int .i64 z.i, .int .i64 z.t, sv']] wx fun x w' => x = .returned (.bool (sameB y z)) ∧ Below wx.heap.size wx w' := fun wx hb => same_ev y z sv sv' wx (c4.later hb) (e4.later hb) (HSL.out y (List.mem_of_getElem? g1)) (HSM.out z (List.mem_of_getElem? g2))
        have HSE : Hid _ := hSE
        have d0 := cell_later HB.out c0
        have d1 := cell_later HB.out c1
        have d2 := cell_later HB.out c2
        have d3 := cell_later HB.out c3
        have f0 := cell_later HB.out e0
        have f1 := cell_later HB.out e1
        have f2 := cell_later HB.out e2
        have f3 := cell_later HB.out e3
        have hki : (k : Int) < (n : Int) := by omega
        have HB2 : Hid (Below w.heap.size w w1.drew) := HB.out.drew
        have HQ : Hid (sameB y z = true ↔ y = z) := sameB_iff
        generalize sameB y z = q at *
        generalize y.k = yk at *
        generalize y.i = yi at *
        generalize y.t = yt at *
        generalize z.k = zk at *
        generalize z.i = zi at *
        generalize z.t = zt at *
        clear hSE c0 c1 c2 c3 c4 e0 e1 e2 e3 e4
        cases q with
        | true =>
          have HX2 : Hid (∀ i, i < k + 1 → l.getD i Ev.none = m.getD i Ev.none) := by
            show ∀ i, _
            intro i hi
            by_cases hik : i = k
            · subst hik; rw [← HYy.out, ← HZz.out]; exact HQ.out.1 rfl
            · exact HX.out i (by omega)
          clear HYy HZz HX g1 g2 HQ
          go_wp2_with fail
          go_region_with (go_at_call 28; refine Calls.mono (HSE.out _ HB2.out) ?_; rintro e w2 ⟨rfl, hb2⟩)
          all_goals
            have HB3 : Hid (Below w.heap.size w w2) := HB2.out.trans (hb2.mono HB2.out.size)
            clear hb2
            go_wp2_with fail
            go_roundw
            case rel => exact ⟨k + 1, by omega, by go_num, HX2, HB3⟩
            case measure => simp [intOf]; omega
        | false =>
          have HF : Hid (decide (l = m) = false) := decide_eq_false (by
            rintro rfl
            have := HQ.out.2 (HYy.out.trans HZz.out.symm)
            cases this)
          clear HYy HZz HX g1 g2 HQ
          go_wp2_with fail
          go_region_with (go_at_call 28; refine Calls.mono (HSE.out _ HB2.out) ?_; rintro e w2 ⟨rfl, hb2⟩)
          all_goals
            have HB3 : Hid (Below w.heap.size w w2) := HB2.out.trans (hb2.mono HB2.out.size)
            clear hb2
            go_wp2_with fail
            go_ret
            exact ⟨by rw [HF.out]; rfl, HB3.out⟩
      · have hkn : k = n := by omega
        subst hkn
        have HT2 : Hid (decide (l = m) = true) := by
          refine decide_eq_true (List.ext_getElem (by rw [HN.out, HN'.out]) fun i h1 h2 => ?_)
          have := HX.out i (by rw [← HN.out]; exact h1)
          simpa [h1, h2] using this
        go_wp2_with fail
        go_ret
        exact ⟨by rw [HT2.out]; rfl, HB.out⟩
  · have HF : Hid (decide (l = m) = false) := decide_eq_false (by rintro rfl; exact hnn (HN.out.symm.trans HN'.out))
    have hb : ((n : Int) == (n' : Int)) = false := by simp; omega
    go_enter Try.func13, Try.ntmps13
    go_wp2_with fail
    go_ret
    exact ⟨by rw [HF.out]; rfl, Below.refl _ _⟩

/-- Rows of events in memory. -/
def RRE (w : World) (v : Value) (R : List (List Ev)) : Prop :=
  ∃ a cap, v = .slice a R.length cap ∧ R.length ≤ cap ∧ cap ≤ maxLen ∧ ∀ i L, R[i]? = some L → ∃ b off sv, a = some ⟨b, off, none⟩ ∧ w.cell? ⟨b, off + i, none⟩ = some sv ∧ RE w sv L

theorem RRE.later {w w' : World} {v : Value} {R : List (List Ev)} (h : RRE w v R) (hb : Below w.heap.size w w') : RRE w' v R := by
  obtain ⟨a, cap, rfl, h1, h2, hc⟩ := h
  refine ⟨a, cap, rfl, h1, h2, fun i x hx => ?_⟩
  obtain ⟨b, off, sv, ha, c0, c1⟩ := hc i x hx
  exact ⟨b, off, sv, ha, cell_later hb c0, c1.later hb⟩

def FewR (R : List (List Ev)) : Prop := R.length ≤ 1000000 ∧ ∀ L ∈ R, L.length ≤ 1000000 ∧ ∀ x ∈ L, x.s.length ≤ 1000000

theorem getD_row {L : List (List Ev)} {k : Nat} (h : k < L.length) : L[k]? = some (L.getD k []) := by
  rw [List.getElem?_eq_getElem h, List.getD_eq_getElem?_getD, List.getElem?_eq_getElem h]
  rfl

set_option maxHeartbeats 4000000 in
theorem sameRows_any (l m : List (List Ev)) (v u : Value) (w : World) (hl : RRE w v l) (hm : RRE w u m) (hsl : FewR l) (hsm : FewR m) :
    Calls Try.prog 18 #[v, u] w fun e w' => e = .returned (.bool (decide (l = m))) ∧ Below w.heap.size w w' := by
  obtain ⟨a, cap, rfl, hc, _, hr⟩ := hl
  obtain ⟨a', cap', rfl, hc', _, hr'⟩ := hm
  have HR : Hid _ := hr
  have HR' : Hid _ := hr'
  have HSL : Hid _ := hsl.2
  have HSM : Hid _ := hsm.2
  have hn := hsl.1
  have hn' := hsm.1
  obtain ⟨n, HN⟩ : ∃ n, Hid (l.length = n) := ⟨_, rfl⟩
  obtain ⟨n', HN'⟩ : ∃ n, Hid (m.length = n) := ⟨_, rfl⟩
  rw [HN.out] at hn hc ⊢
  rw [HN'.out] at hn' hc' ⊢
  clear hr hr' hsl hsm
  by_cases hnn : n = n'
  · subst hnn
    go_enter Try.func18, Try.ntmps18
    go_wp2_with fail
    go_loopw [5] (fun iv wr => ∃ (k : Nat), k ≤ n ∧ iv = .int .i64 k ∧ Hid (∀ i, i < k → l.getD i [] = m.getD i []) ∧ Hid (Below w.heap.size w wr)) (fun iv _ => n - (intOf iv).toNat)
    case atStart => exact ⟨0, Nat.zero_le _, rfl, fun i hi => by omega, Below.refl _ _⟩
    case round =>
      obtain ⟨k, hk, rfl, HX, HB⟩ := hrel
      rename World => w1
      by_cases hlt : k < n
      · have g1 := getD_row (L := l) (k := k) (by rw [HN.out]; exact hlt)
        have g2 := getD_row (L := m) (k := k) (by rw [HN'.out]; exact hlt)
        obtain ⟨y, HYy⟩ : ∃ y, Hid (y = l.getD k []) := ⟨_, rfl⟩
        obtain ⟨z, HZz⟩ : ∃ z, Hid (z = m.getD k []) := ⟨_, rfl⟩
        rw [← HYy.out] at g1
        rw [← HZz.out] at g2
        obtain ⟨b, off, sv, rfl, c0, c4⟩ := HR.out k y g1
        obtain ⟨b', off', sv', rfl, e0, e4⟩ := HR'.out k z g2
        have s1 := HSL.out y (List.mem_of_getElem? g1)
        have s2 := HSM.out z (List.mem_of_getElem? g2)
        have hSE : ∀ wx, Below w.heap.size w wx → Calls Try.prog 13 #[sv, sv'] wx fun x w' => x = .returned (.bool (decide (y = z))) ∧ Below wx.heap.size wx w' := fun wx hb => sameAll_any y z sv sv' wx (c4.later hb) (e4.later hb) s1.2 s2.2 s1.1 s2.1
        have HSE : Hid _ := hSE
        obtain ⟨sa, sc, rfl⟩ := c4.slice
        obtain ⟨sb, sd, rfl⟩ := e4.slice
        have d0 := cell_later HB.out c0
        have f0 := cell_later HB.out e0
        have hki : (k : Int) < (n : Int) := by omega
        have HB2 : Hid (Below w.heap.size w w1.drew) := HB.out.drew
        have HQ : Hid (decide (y = z) = true ↔ y = z) := decide_eq_true_iff
        generalize decide (y = z) = q at *
        generalize y.length = yl at *
        generalize z.length = zl at *
        clear hSE c0 c4 e0 e4 s1 s2
        cases q with
        | true =>
          have HX2 : Hid (∀ i, i < k + 1 → l.getD i [] = m.getD i []) := by
            show ∀ i, _
            intro i hi
            by_cases hik : i = k
            · subst hik; rw [← HYy.out, ← HZz.out]; exact HQ.out.1 rfl
            · exact HX.out i (by omega)
          clear HYy HZz HX g1 g2 HQ
          go_wp2_with fail
          go_region_with (go_at_call 13; refine Calls.mono (HSE.out _ HB2.out) ?_; rintro e w2 ⟨rfl, hb2⟩)
          all_goals
            have HB3 : Hid (Below w.heap.size w w2) := HB2.out.trans (hb2.mono HB2.out.size)
            clear hb2
            go_wp2_with fail
            go_roundw
            case rel => exact ⟨k + 1, by omega, by go_num, HX2, HB3⟩
            case measure => simp [intOf]; omega
        | false =>
          have HF : Hid (decide (l = m) = false) := decide_eq_false (by
            rintro rfl
            have := HQ.out.2 (HYy.out.trans HZz.out.symm)
            cases this)
          clear HYy HZz HX g1 g2 HQ
          go_wp2_with fail
          go_region_with (go_at_call 13; refine Calls.mono (HSE.out _ HB2.out) ?_; rintro e w2 ⟨rfl, hb2⟩)
          all_goals
            have HB3 : Hid (Below w.heap.size w w2) := HB2.out.trans (hb2.mono HB2.out.size)
            clear hb2
            go_wp2_with fail
            go_ret
            exact ⟨by rw [HF.out]; rfl, HB3.out⟩
      · have hkn : k = n := by omega
        subst hkn
        have HT2 : Hid (decide (l = m) = true) := by
          refine decide_eq_true (List.ext_getElem (by rw [HN.out, HN'.out]) fun i h1 h2 => ?_)
          have := HX.out i (by rw [← HN.out]; exact h1)
          simpa [h1, h2] using this
        go_wp2_with fail
        go_ret
        exact ⟨by rw [HT2.out]; rfl, HB.out⟩
  · have HF : Hid (decide (l = m) = false) := decide_eq_false (by rintro rfl; exact hnn (HN.out.symm.trans HN'.out))
    have hb : ((n : Int) == (n' : Int)) = false := by simp; omega
    go_enter Try.func18, Try.ntmps18
    go_wp2_with fail
    go_ret
    exact ⟨by rw [HF.out]; rfl, Below.refl _ _⟩
end Go.Proofs.Ytamfpmpooaejkaa
