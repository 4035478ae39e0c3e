/- The walk over DequeOwn. -/
import Derived.Test.YthbckfncpnobcaaRs
namespace Go.Proofs.Ythbckfncpnobcaa
open Go.RowKit
set_option maxRecDepth 1000000
set_option linter.unusedVariables false

/-- A told list that is written over: what is there stays there, in blocks of X. -/
structure Sc (X : Nat → Prop) (w : World) (a : Option Addr) (A : List JbP) : Prop where
  i : ∀ i x, A[i]? = some x → ∃ g o, a = some ⟨g, o, none⟩ ∧ X g ∧ (∃ z, w.cell? ⟨g, o + i * 6, none⟩ = some (.int .i64 z)) ∧ w.frozen? ⟨g, o + i * 6, none⟩ = false ∧ w.cell? ⟨g, o + i * 6 + 5, none⟩ = some x.2
  s : ∀ x ∈ A, ∀ k, k < x.1.s.length → ∃ h c, x.2 = .slice (some ⟨h, 0, none⟩) x.1.s.length c ∧ X h ∧ (∀ g o, a = some ⟨g, o, none⟩ → h ≠ g) ∧ (∃ z, w.cell? ⟨h, k, none⟩ = some (.int .i64 z)) ∧ w.frozen? ⟨h, k, none⟩ = false
  l : ∀ x ∈ A, ∃ a c, x.2 = .slice a x.1.s.length c

theorem int_there {w : World} {p q : Addr} {y : Int} (h : ∃ z, w.cell? p = some (.int .i64 z)) : ∃ z, (w.setCell q (.int .i64 y)).cell? p = some (.int .i64 z) := by
  obtain ⟨z, hz⟩ := h
  by_cases e : q = p
  · subst e
    exact ⟨y, World.cell?_setCell_same' w _ _ (by rw [hz]; rfl)⟩
  · exact ⟨z, by rw [World.cell?_setCell_other _ _ _ _ e]; exact hz⟩
theorem Sc.put {X : Nat → Prop} {w : World} {a : Option Addr} {A : List JbP} (h : Sc X w a A) (q : Addr) (y : Int) (hq : ∀ g o, a = some ⟨g, o, none⟩ → q.block = g → ∃ j, q = ⟨g, o + j * 6, none⟩) : Sc X (w.setCell q (.int .i64 y)) a A := by
  refine ⟨fun i x hx => ?_, fun x hx k hk => ?_, h.l⟩
  · obtain ⟨g, o, h1, h2, h3, h4, h5⟩ := h.i i x hx
    refine ⟨g, o, h1, h2, int_there h3, (World.frozen?_setCell _ _ _ _).trans h4, ?_⟩
    rw [World.cell?_setCell_other _ _ _ _ (fun e => ?_)]
    · exact h5
    · subst e
      obtain ⟨j, hj⟩ := hq g o h1 rfl
      simp only [Addr.mk.injEq] at hj
      omega
  · obtain ⟨b, c, h1, h2, h3, h4, h5⟩ := h.s x hx k hk
    exact ⟨b, c, h1, h2, h3, int_there h4, (World.frozen?_setCell _ _ _ _).trans h5⟩
theorem Sc.drew {X : Nat → Prop} {w : World} {a : Option Addr} {A : List JbP} (h : Sc X w a A) : Sc X w.drew a A := ⟨h.i, h.s, h.l⟩
theorem Sc.of {N : Nat} {w : World} {a : Option Addr} {n c : Nat} {A : List JbP} (h : LiW N w (.slice a n c) A) : Sc (fun k => N ≤ k ∧ k < w.heap.size) w a A := by
  refine ⟨fun i x hx => ?_, fun x hx k hk => ?_, fun x hx => (h.st x hx).1.slice⟩
  · obtain ⟨g, o, cap, e⟩ := h.row.at' hx
    simp only [Value.slice.injEq] at e
    obtain ⟨rfl, rfl, rfl⟩ := e
    obtain ⟨d0, d1, d2, d3, d4, d5⟩ := h.row.jc hx
    exact ⟨g, o, rfl, ⟨h.lo g rfl, h.row.lt g rfl⟩, ⟨_, d0⟩, h.row.frozen _, d5⟩
  · obtain ⟨h1, h2⟩ := h.st x hx
    have hlt := World.ownsRow.lt h1
    rcases h1.2 with ⟨e, h0⟩ | ⟨b, cap, cur, e, hb, hg, _⟩
    · omega
    · obtain ⟨a2, c2, e2, _, _, hc⟩ := h1.ri
      rw [e] at e2
      simp only [Value.slice.injEq] at e2
      obtain ⟨rfl, _, rfl⟩ := e2
      obtain ⟨b', off, e3, h3⟩ := hc k hk
      simp only [Option.some.injEq, Addr.mk.injEq] at e3
      obtain ⟨rfl, rfl, _⟩ := e3
      rw [Nat.zero_add] at h3
      have e9 : x.2.ownBlock = some b := by rw [e]; rfl
      refine ⟨b, cap, e, hlt b e9, fun g o ea eb => ?_, ⟨_, h3⟩, froz_row hg k⟩
      subst ea eb
      exact h2 b e9 rfl

/-- What was told is written over: the deque and the document's row stay. -/
theorem Bo.over {N : Nat} {w w5 w6 : World} {p : Nat} {a : Option Addr} {n c : Nat} {L : List Jb} (h : Bo N w p a n c L) (hb : Below w.heap.size w w5) (hk : Kp (fun k => w.heap.size ≤ k ∧ k < w5.heap.size) w5 w6) : Bo N w6 p a n c L := by
  obtain ⟨⟨F, M, h1, h2, h3⟩, h4⟩ := h
  have hN := h1.le
  have hF := h1.fl
  refine ⟨⟨_, M, (h1.guard hb).kept hk (fun k hk1 _ => .inr hk1), ?_, h3⟩, h4⟩
  refine ((h2.later hb).kept hk (fun k hg hx => ?_)).mono (fun k _ hg => ?_)
  · rcases hg with hg | hg
    · omega
    · have := hF k hg; omega
  · rcases hg with hg | hg
    · exact .inl hg
    · exact .inr (.inl hg)

set_option maxHeartbeats 8000000 in
theorem own_walk (a : Option Addr) (n c : Nat) (l : List Ac) (w : World) (hx : RA w (.slice a n c) l) :
    Calls Try.prog 5 #[.slice a n c] w fun e w' => e = .returned (.bool true) ∧ Below w.heap.size w w' := by
  have HN : Hid _ := l_new w
  have HX : Hid (RA w (.slice a n c) l) := hx
  obtain ⟨a', cap, he, hc, hm, hr⟩ := hx
  have HRR : Hid (∀ i x, l[i]? = some x → ∃ b off, a = some ⟨b, off, none⟩ ∧ w.cell? ⟨b, off + i * 7, none⟩ = some (.int .i64 x.1) ∧ JC w b (off + i * 7 + 1) x.2 ∧ RS (fun k => k < w.heap.size) w x.2.2 x.2.1.s) := by
    have e1 := (Value.slice.inj he).1
    subst e1
    exact hr
  have HLN : Hid (l.length = n) := (Value.slice.inj he).2.1.symm
  have hc2 := (Value.slice.inj he).2.2
  have hnc : n ≤ c := by have := HLN.out; omega
  have hcm : c ≤ maxLen := by omega
  obtain ⟨N, hN⟩ : ∃ N, N = w.heap.size := ⟨_, rfl⟩
  have HNN : Hid (N = w.heap.size) := hN
  rw [← hN] at HN ⊢
  clear he hc hm hr hN hc2
  go_enter Try.func5, Try.ntmps5
  go_wp2_with fail
  refine Calls.mono HN.out ?_
  rintro e w1 ⟨p, rfl, hd1, hb1⟩
  have HD1 : Hid _ := hd1
  have HB1 : Hid (Below N w w1) := hb1
  have HF : Hid _ := few_any w1 (.slice a n c) l (by
    obtain ⟨a', cap, he, hc, hm, hr⟩ := HX.out
    refine ⟨a', cap, he, hc, hm, fun i x hx => ?_⟩
    obtain ⟨b, off, q1, q2, q3, q4⟩ := hr i x hx
    have hb := HNN.out ▸ hb1
    exact ⟨b, off, q1, cell_later hb q2, q3.later hb, (q4.later hb).mono (fun k hk _ => hk)⟩)
  clear hd1 hb1 HN
  go_wp2_with fail
  refine Calls.mono HF.out ?_
  rintro e w2 ⟨q, rfl, hq, hb2⟩
  have HB2 : Hid (Below N w w2) := HB1.out.trans (hb2.mono HD1.out.le)
  cases q with
  | false =>
    have HLv : Hid _ := lives_any w2
    have HSz : Hid (N ≤ w2.heap.size) := Nat.le_trans HD1.out.le hb2.size
    clear hb2 hq HF
    go_wp2_with fail
    refine Calls.mono HLv.out ?_
    rintro e w3 ⟨rfl, hb3⟩
    have HB3 : Hid (Below N w w3) := HB2.out.trans (hb3.mono HSz.out)
    clear hb3 HLv
    go_wp2_with fail
    go_ret
    exact ⟨rfl, HB3.out⟩
  | true =>
    have HOK : Hid _ := (hq rfl).2
    have HLen : Hid _ := (hq rfl).1
    have hn4 : n ≤ 400 := by have := HLen.out; have := HLN.out; omega
    have HI : Hid _ := plays_inv HOK.out
    have HBo : Hid (Bo N w2 p none 0 0 (playsP (l.take 0))) := ⟨⟨_, [], HD1.out.later hb2, RJ.nil _ _, rfl⟩, LInv.nil⟩
    clear hb2 hq HF HD1
    go_wp2_with fail
    go_loopw [5, 4] (fun s5 s4 wr => ∃ (i : Nat) (ra : Option Addr) (rn rc : Nat), s5 = .int .i64 i ∧ s4 = .slice ra rn rc ∧ i ≤ n ∧ Hid (Bo N wr p ra rn rc (playsP (l.take i))) ∧ Hid (Below N w wr)) (fun s5 _ _ => n - (intOf s5).toNat)
    case atStart => exact ⟨0, none, 0, 0, rfl, rfl, Nat.zero_le _, HBo, HB2⟩
    case round =>
      obtain ⟨i, ra, rn, rc, rfl, rfl, hi, HO, HB⟩ := hrel
      rename World => wr
      by_cases hlt : i < n
      · obtain ⟨x, hx⟩ := getD_ac (L := l) (k := i) (by rw [HLN.out]; exact hlt)
        obtain ⟨b, off, rfl, d, dJ, hRS⟩ := HRR.out i x hx
        have hbw : Below w.heap.size w wr := HNN.out ▸ HB.out
        have d' := cell_later hbw d
        obtain ⟨d0, d1, d2, d3, d4, d5⟩ := dJ.later hbw
        have HSt : Hid _ := HO.out.step x ((hRS.later hbw).mono (fun k _ hk => by rw [HNN.out]; exact hk)) (HOK.out x (List.mem_of_getElem? hx))
        have HP : Hid (playsP (l.take (i + 1)) = stepP (playsP (l.take i)) x) := by
          show _ = _
          rw [List.take_add_one, hx]
          exact playsP_snoc _ _
        rw [← HP.out] at HSt
        obtain ⟨xk, ⟨xi, xu, xt, xb, xkk, xs⟩, xv⟩ := x
        obtain ⟨⟨sa, sc, hsv, _⟩, _⟩ := hRS
        dsimp only at *
        subst hsv
        unfold AV at HSt
        dsimp only at HSt
        obtain ⟨sl, hsl⟩ : ∃ n, xs.length = n := ⟨_, rfl⟩
        rw [hsl] at HSt d5
        have hji : (i : Int) < (n : Int) := by omega
        clear hx hsl hbw d dJ HO
        go_wp2_with fail
        refine Calls.mono HSt.out ?_
        rintro e w3 ⟨ra3, rn3, rc3, rfl, ho3, hb3⟩
        have HB3 : Hid (Below N w w3) := HB.out.trans hb3
        have HO3 : Hid _ := ho3
        clear hb3 ho3 HSt HB d' d0 d1 d2 d3 d4 d5
        go_wp2_with fail
        go_roundw
        case rel => exact ⟨i + 1, ra3, rn3, rc3, by go_num, rfl, by omega, HO3, HB3⟩
        case measure => simp [intOf]; omega
      · have hin : i = n := by omega
        subst hin
        have HLi : Hid _ := HO.out.listC
        have HN4 : Hid (N ≤ wr.heap.size) := HO.out.le
        go_wp2_with fail
        refine Calls.mono HLi.out ?_
        rintro e w5 ⟨la, ln, lc, A, rfl, hA, hA2, ho5, hb5⟩
        obtain ⟨K, hK⟩ : ∃ L, L = playsP (l.take i) := ⟨_, rfl⟩
        have HO4 : Hid (∀ w6, Kp (fun k => wr.heap.size ≤ k ∧ k < w5.heap.size) w5 w6 → Bo N w6 p ra rn rc K) := fun w6 hk => by rw [hK]; exact HO.out.over hb5 hk
        have HB5 : Hid (Below N w w5) := HB.out.trans (hb5.mono HN4.out)
        have HN5 : Hid (N ≤ w5.heap.size) := ho5.le
        have HSc := Sc.of hA
        obtain ⟨X, hX⟩ : ∃ X, X = (fun k => wr.heap.size ≤ k ∧ k < w5.heap.size) := ⟨_, rfl⟩
        have HXN : Hid (∀ k, X k → N ≤ k) := fun k hk => by rw [hX] at hk; have := HN4.out; have := hk.1; omega
        rw [← hX] at HSc HO4
        have HS0 : Hid _ := HSc
        obtain ⟨_, _, e9, hc9, hm9⟩ := hA.row.slice
        have HAL : Hid (A.length = ln) := ((Value.slice.inj e9).2.1).symm
        have hlc : ln ≤ lc := by have e1 := (Value.slice.inj e9).2.2; have := HAL.out; omega
        have hlm : lc ≤ maxLen := by have e1 := (Value.slice.inj e9).2.2; omega
        have hmx : maxLen = 9223372036854775807 := rfl
        have HK5 : Hid (Kp X w5 w5) := Kp.refl _ _
        have HFS : Hid (∀ x ∈ A, ∀ n, x.1.s.length = n → n ≤ 1000000) := fun x hx n e9 => by
          have h9 := (HI.out i).2 x.1 (by rw [← hA2]; exact List.mem_map_of_mem hx)
          omega
        clear hb5 ho5 hA hA2 HLi HO HSc hX hK e9 hc9 hm9
        go_wp2_with fail
        go_loopw [7, 8] (fun s7 _ wq => ∃ (j : Nat), s7 = .int .i64 j ∧ j ≤ ln ∧ Hid (Sc X wq la A) ∧ Hid (Kp X w5 wq)) (fun s7 _ _ => ln - (intOf s7).toNat)
        case atStart => exact ⟨0, rfl, Nat.zero_le _, HS0, HK5⟩
        case round =>
          obtain ⟨j, rfl, hj, HS, HKq⟩ := hrel
          rename World => wq
          by_cases hjl : j < ln
          · obtain ⟨x, hx⟩ : ∃ x, A[j]? = some x := ⟨_, List.getElem?_eq_getElem (by rw [HAL.out]; exact hjl)⟩
            have hji : (j : Int) < (ln : Int) := by omega
            obtain ⟨g, o, rfl, hXg, ⟨z, d0⟩, hf, d5⟩ := HS.out.i j x hx
            have hs5 := HS.out.l x (List.mem_of_getElem? hx)
            have HXm : Hid (x ∈ A) := List.mem_of_getElem? hx
            have HXj : Hid (A[j]? = some x) := hx
            obtain ⟨sl, HSL⟩ : ∃ n, Hid (x.1.s.length = n) := ⟨_, rfl⟩
            rw [HSL.out] at hs5
            obtain ⟨sa, sc, hsv⟩ := hs5
            rw [hsv] at d5
            have HSV : Hid (x.2 = .slice sa sl sc) := hsv
            have HS1 : Hid _ := HS.out.put ⟨g, o + j * 6, none⟩ (-7) (fun g2 o2 e9 _ => ⟨j, by cases e9; rfl⟩)
            have HK1 : Hid _ := (HKq.out).set ⟨g, o + j * 6, none⟩ (.int .i64 (-7)) hXg
            have hXg2 : Hid (X g) := hXg
            have hsb : Hid (sl ≤ 1000000) := HFS.out x HXm.out sl HSL.out
            clear hx hsv HS hXg HKq
            go_wp2_with fail
            go_loopw [8] (fun s8 wv => ∃ (k : Nat), s8 = .int .i64 k ∧ k ≤ sl ∧ Hid (Sc X wv (some ⟨g, o, none⟩) A) ∧ Hid (Kp X w5 wv)) (fun s8 _ => sl - (intOf s8).toNat)
            case atStart => exact ⟨0, rfl, Nat.zero_le _, HS1, HK1⟩
            case round =>
              obtain ⟨k, rfl, hk, HS2, HK2⟩ := hrel
              rename World => wv
              have hsb2 := hsb.out
              obtain ⟨g2, o2, e2, _, _, _, c5⟩ := HS2.out.i j x HXj.out
              cases e2
              rw [HSV.out] at c5
              by_cases hks : k < sl
              · have hki : (k : Int) < (sl : Int) := by omega
                obtain ⟨h, c6, e6, hXh, hne, ⟨y, dy⟩, hfh⟩ := HS2.out.s x HXm.out k (by rw [HSL.out]; exact hks)
                rw [HSV.out] at e6
                have e7 := (Value.slice.inj e6).1
                subst e7
                have HS3 : Hid _ := HS2.out.put ⟨h, k, none⟩ (-7) (fun g2 o2 e9 eb => (hne g2 o2 e9 eb).elim)
                have HK3 : Hid _ := (HK2.out).set ⟨h, k, none⟩ (.int .i64 (-7)) hXh
                clear HS2 HK2 hXh hne e6
                go_wp2_with fail
                go_roundw
                case rel => exact ⟨k + 1, by go_num, by omega, HS3, HK3⟩
                case measure => simp [intOf]; omega
              · have hksl : k = sl := by omega
                subst hksl
                go_wp2_with fail
                go_roundw
                case rel => exact ⟨j + 1, by go_num, by omega, HS2, HK2⟩
                case measure => simp [intOf]; omega
          · have hjn : j = ln := by omega
            subst hjn
            have HO6 : Hid _ := HO4.out wq HKq.out
            have HB6 : Hid (Below N w wq) := HB5.out.trans (HKq.out.below HN5.out HXN.out)
            have HLi : Hid _ := HO6.out.listC
            have HN6 : Hid (N ≤ wq.heap.size) := HO6.out.le
            clear HO6
            go_wp2_with fail
            refine Calls.mono HLi.out ?_
            rintro e w7 ⟨ma, mn, mc, A2, rfl, hA, hA2, ho7, hb7⟩
            have HB7 : Hid (Below N w w7) := HB6.out.trans (hb7.mono HN6.out)
            have HN7 : Hid (N ≤ w7.heap.size) := ho7.le
            have HSm : Hid _ := ho7.sameC hA.rj hA2
            clear hb7 ho7 hA hA2 HLi
            go_wp2_with fail
            refine Calls.mono HSm.out ?_
            rintro e w8 ⟨rfl, hb8⟩
            have HB8 : Hid (Below N w w8) := HB7.out.trans (hb8.mono HN7.out)
            have HLv : Hid _ := lives_any w8
            have HN8 : Hid (N ≤ w8.heap.size) := Nat.le_trans HN7.out hb8.size
            clear hb8 HSm
            go_wp2_with fail
            refine Calls.mono HLv.out ?_
            rintro e w9 ⟨rfl, hb9⟩
            have HB9 : Hid (Below N w w9) := HB8.out.trans (hb9.mono HN8.out)
            clear hb9 HLv
            go_wp2_with fail
            go_ret
            exact ⟨rfl, HB9.out⟩
end Go.Proofs.Ythbckfncpnobcaa
