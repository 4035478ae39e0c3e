/- Texts of the seat, packed: Lh. -/
import Derived.Test.YtgdnlceliiekkaaGreatDoorP15
/- falling: which bodies fall, or are those of a saga that is halted. -/
namespace Go.Proofs.YtgdnlceliiekkaaGreatDoor.Sa
open Go.RowKit Go.Shelf Go.Proofs.YtgdnlceliiekkaaGreatDoor.Fc Go.Proofs.YtgdnlceliiekkaaGreatDoor.St
set_option maxRecDepth 1000000
set_option linter.unusedVariables false

variable {p : Pl} {f : Nat → Fa} {xb xo icap fb fo lcap : Nat} {w0 : World} {b : Nat} {m : Nat → Nat → Bool} {w : World} {n : Nat}

theorem wpOp_un {P : Program} {ops : Array Oper} {Q : Exit → Act → World → Prop} {i : Nat} {K : Act → World → Prop} {a : Act} {w : World} {o : Oper} {d : Tmp} (hi : ops[i]? = some o) (hd : o.dst = some d) (hw : Region.wanted o (yielded ops a.tmps) = false)
    (hK : K { tmps := a.tmps.setIfInBounds d undef, defers := a.defers } w) : wpOp P ops Q i K a w := by
  have hp : a.put o.dst undef = { tmps := a.tmps.setIfInBounds d undef, defers := a.defers } := by rw [hd]; rfl
  unfold wpOp
  simp only [hi]
  rw [if_neg (by rw [hw]; decide), hp]
  exact hK

/-- Bodies' cells: four of each of 64 items. -/
def bodL (M : Nat → Nat → Bool) : List Value := (List.range 256).map fun j => .bool (M (j / 4) (j % 4))

theorem bodL_at {M : Nat → Nat → Bool} {s a : Nat} (hs : s < 64) (ha : a < 4) : (bodL M)[s * 4 + a]? = some (.bool (M s a)) := by
  have h2 : (s * 4 + a) / 4 = s := by omega
  have h3 : (s * 4 + a) % 4 = a := by omega
  unfold bodL
  rw [List.getElem?_map, List.getElem?_range (by omega)]
  simp only [Option.map_some, h2, h3]

theorem bodL_set {M : Nat → Nat → Bool} {s a : Nat} (q : Bool) (hs : s < 64) (ha : a < 4) : (bodL M).set (s * 4 + a) (.bool q) = bodL (put2 M s a q) := by
  unfold bodL
  refine List.ext_getElem? fun j => ?_
  rw [List.getElem?_set]
  by_cases hj : j < 256
  · rw [List.getElem?_map, List.getElem?_map, List.getElem?_range hj]
    simp only [Option.map_some, put2]
    by_cases h : s * 4 + a = j
    · have h2 : j / 4 = s := by omega
      have h3 : j % 4 = a := by omega
      rw [if_pos h, if_pos (by simp; omega), h2, h3, if_pos ⟨rfl, rfl⟩]
    · rw [if_neg h, if_neg (by omega)]
  · have hn : (List.range 256)[j]? = none := List.getElem?_eq_none (by simp; omega)
    rw [List.getElem?_map, List.getElem?_map, hn, if_neg (by omega)]
    rfl

theorem bodL_len (M : Nat → Nat → Bool) : (bodL M).length = 256 := by unfold bodL; rw [List.length_map, List.length_range]
theorem bodL_one (M : Nat → Nat → Bool) : (bodL M).toArray.all (·.oneCell') = true := by
  rw [List.all_toArray, List.all_eq_true]
  intro v hv
  unfold bodL at hv
  obtain ⟨j, _, rfl⟩ := List.mem_map.1 hv
  rfl

theorem zero51 : Tryz.zeroCells51 = (bodL fun _ _ => false).toArray := by kernel_rfl
theorem size51 : (Tryz.prog.info? 51).map (·.size) = some 256 := by kernel_rfl

/-- How far falling is: the bodies of all items ahead of k, and those of k ahead of j. -/
def Mk (T : Nat → Nat → Bool) (k j : Nat) : Nat → Nat → Bool := fun s a => (decide (s < k) || (decide (s = k) && decide (a < j))) && T s a

theorem Mk_put {T : Nat → Nat → Bool} {k j : Nat} {q : Bool} (hq : q = T k j) : put2 (Mk T k j) k j q = Mk T k (j + 1) := by
  subst hq
  funext s a
  unfold put2 Mk
  by_cases h : s = k ∧ a = j
  · obtain ⟨rfl, rfl⟩ := h
    rw [if_pos ⟨rfl, rfl⟩]
    simp
  · rw [if_neg h]
    congr 1
    by_cases hs : s = k
    · subst hs
      have ha : a ≠ j := fun h9 => h ⟨rfl, h9⟩
      have : decide (a < j) = decide (a < j + 1) := decide_eq_decide.2 (by omega)
      rw [this]
    · simp [hs]

theorem Mk_next {T : Nat → Nat → Bool} {k t : Nat} (h : ∀ a, t ≤ a → T k a = false) : Mk T k t = Mk T (k + 1) 0 := by
  funext s a
  unfold Mk
  by_cases hs : s = k
  · subst hs
    by_cases ha : a < t
    · simp [ha]
    · simp [h a (by omega)]
  · have : decide (s < k) = decide (s < k + 1) := decide_eq_decide.2 (by omega)
    simp [hs, this]

theorem Mk_zero {T : Nat → Nat → Bool} : Mk T 0 0 = fun _ _ => false := by
  funext s a
  simp [Mk]

theorem Mk_end {T : Nat → Nat → Bool} {n : Nat} (h : ∀ s a, n ≤ s → T s a = false) : Mk T n 0 = T := by
  funext s a
  unfold Mk
  by_cases hs : s < n
  · simp [hs]
  · simp [h s a (by omega)]

/-- Does a body fall, or is its saga halted? -/
def tgt (p : Pl) (f : Nat → Fa) (m : Nat → Nat → Bool) (hal : Nat → Bool) (s a : Nat) : Bool := decide (s < p.n ∧ a < p.alts s) && (hal s || !allK p s a (okH p f m))

/-- What falling knows between two rounds. -/
structure Fd (w0 w : World) (b : Nat) (v lv : Value) (m M : Nat → Nat → Bool) (W : World) : Prop where
  sd : Sd w0 b v lv m W
  lt : b < w.heap.size
  bel : Below w.heap.size w W
  res : W.heap[w.heap.size]? = some (.cells Tryz.zeroCells51 51 (0, 0))
  bod : W.heap[w.heap.size + 1]? = some (.cells (bodL M).toArray 51 (0, 0))

theorem Fd.later {w0 w : World} {b : Nat} {v lv : Value} {m M : Nat → Nat → Bool} {W W' : World} (h : Fd w0 w b v lv m M W) (hb : Below W.heap.size W W') : Fd w0 w b v lv m M W' :=
  ⟨h.sd.later hb, h.lt, h.bel.trans (hb.mono h.bel.size), (hb.block _ (Array.getElem?_eq_some_iff.1 h.res).1).trans h.res, (hb.block _ (Array.getElem?_eq_some_iff.1 h.bod).1).trans h.bod⟩

theorem Fd.put {w0 w : World} {b : Nat} {v lv : Value} {m M : Nat → Nat → Bool} {W : World} (h : Fd w0 w b v lv m M W) {s a : Nat} (q : Bool) (hs : s < 64) (ha : a < 4) : Fd w0 w b v lv m (put2 M s a q) (W.setCell ⟨w.heap.size + 1, s * 4 + a, none⟩ (.bool q)) := by
  refine ⟨⟨h.sd.bel.setCell (by have := h.sd.low; have := h.lt; show _ ≤ w.heap.size + 1; omega) _, h.sd.low, Dg.row_other h.sd.sb _ (by have := h.lt; omega)⟩, h.lt, h.bel.setCell (by show _ ≤ w.heap.size + 1; omega) _, Dg.row_other h.res _ (by omega), ?_⟩
  rw [Dg.row_set h.bod, List.setIfInBounds_toArray, bodL_set q hs ha]

theorem Fd.at_ {w0 w : World} {b : Nat} {v lv : Value} {m M : Nat → Nat → Bool} {W : World} (h : Fd w0 w b v lv m M W) {s a : Nat} (hs : s < 64) (ha : a < 4) : W.cell? ⟨w.heap.size + 1, s * 4 + a, none⟩ = some (.bool (M s a)) := by
  rw [Dg.cell_row h.bod, List.getElem?_toArray]
  exact bodL_at hs ha

theorem Fd.init {w0 w : World} {b : Nat} {v lv : Value} {m : Nat → Nat → Bool} (h : Sd w0 b v lv m w) : Fd w0 w b v lv m (fun _ _ => false) ((w.alloc (.cells Tryz.zeroCells51 51)).alloc (.cells Tryz.zeroCells51 51)) := by
  have hb1 := bl1 w (.cells Tryz.zeroCells51 51)
  have hb2 := bl1 (w.alloc (.cells Tryz.zeroCells51 51)) (.cells Tryz.zeroCells51 51)
  refine ⟨(h.later hb1).later hb2, (Array.getElem?_eq_some_iff.1 h.sb).1, hb1.trans (hb2.mono hb1.size), Dg.row_alloc (Dg.row_new w _ 51) _, ?_⟩
  have := Dg.row_new (w.alloc (.cells Tryz.zeroCells51 51)) Tryz.zeroCells51 51
  rw [World.size_alloc] at this
  rw [this, zero51]

set_option maxHeartbeats 8000000 in
theorem falling_any (hB : Bs p f xb xo icap fb fo lcap w0) (hn : p.n = n) (hS : Sd w0 b (.slice (some ⟨xb, xo, none⟩) n icap) (.slice (some ⟨fb, fo, none⟩) n lcap) m w) (hal : Nat → Bool) (hh0 : hal 0 = false)
    (hh : ∀ s, 1 ≤ s → s < n → hal s = (hal (p.inn s) || !allK p (p.inn s) (p.alt s) (okH p f m))) :
    Calls Tryz.prog 45 #[.pointer (some ⟨b, 0, none⟩)] w fun e w' => e = .returned (.agg (bodL (tgt p f m hal)).toArray) ∧ Below w.heap.size w w' := by
  have hle : n ≤ 64 := by have := hB.le; omega
  have hic : n ≤ icap := by have := hB.icap; omega
  obtain ⟨T, HT⟩ : ∃ T, Hid (T = tgt p f m hal) := ⟨_, rfl⟩
  rw [← HT.out]
  have hF0 := Fd.init hS
  have c0 := hF0.sd.c0
  have HB : Hid _ := hB
  have HN : Hid _ := hn
  have HFA : Hid (∀ (wx : World) (s a : Nat), Below w.heap.size w wx → s < n → a ≤ 4 → Calls Tryz.prog 75 #[.pointer (some ⟨b, 0, none⟩), .int .i64 (s : Int), .int .i64 (a : Int)] wx fun e w' => e = .returned (.bool (!allK p s a (okH p f m))) ∧ Below wx.heap.size wx w') := fun wx s a hb h1 h2 => falls_any hB hn (hS.later hb) h1 h2
  have HH : Hid (∀ s, 1 ≤ s → s < n → T (p.inn s) (p.alt s) = hal s) := fun s h1 h2 => by
    have h3 := hB.ok.inn s h1 (by omega)
    rw [HT.out, hh s h1 h2]
    unfold tgt
    rw [decide_eq_true ⟨by omega, h3.2.2⟩, Bool.true_and]
  have HI : Hid (∀ s, 1 ≤ s → s < n → p.inn s < s ∧ p.alt s < p.alts (p.inn s) ∧ p.alts (p.inn s) ≤ 4) := fun s h1 h2 => by
    have h3 := hB.ok.inn s h1 (by omega)
    exact ⟨h3.1, h3.2.2, hB.alts _ (by omega)⟩
  have HT1 : Hid (∀ k a, k < n → a < p.alts k → T k a = (hal k || !allK p k a (okH p f m))) := fun k a h1 h2 => by
    rw [HT.out]
    unfold tgt
    rw [decide_eq_true ⟨by omega, h2⟩, Bool.true_and]
  have HT2 : Hid (∀ k a, p.alts k ≤ a → T k a = false) := fun k a h => by
    rw [HT.out]
    unfold tgt
    rw [decide_eq_false (by omega), Bool.false_and]
  have HT3 : Hid (∀ k a, n ≤ k → T k a = false) := fun k a h => by
    rw [HT.out]
    unfold tgt
    rw [decide_eq_false (by omega), Bool.false_and]
  have HF0 : Hid (Fd w0 w b (.slice (some ⟨xb, xo, none⟩) n icap) (.slice (some ⟨fb, fo, none⟩) n lcap) m (Mk T 0 0) ((w.alloc (.cells Tryz.zeroCells51 51)).alloc (.cells Tryz.zeroCells51 51))) := by show Fd _ _ _ _ _ _ _ _; rw [Mk_zero]; exact hF0
  have HH0 : Hid _ := hh0
  clear hS hF0 hB hn hh hh0
  go_enter Tryz.func45, Tryz.ntmps45
  go_wp2_with fail
  go_loopw [13] (fun iv wr => ∃ (k : Nat), k ≤ n ∧ iv = .int .i64 k ∧ Hid (Fd w0 w b (.slice (some ⟨xb, xo, none⟩) n icap) (.slice (some ⟨fb, fo, none⟩) n lcap) m (Mk T k 0) wr)) (fun iv _ => n - (intOf iv).toNat)
  case atStart => exact ⟨0, Nat.zero_le _, by go_num, HF0⟩
  case round =>
    obtain ⟨k, hk, rfl, HM⟩ := hrel
    rename World => wr
    by_cases hlt : k < n
    rotate_left
    · obtain rfl : k = n := by omega
      have hM := HM.out
      rw [Mk_end HT3.out] at hM
      have HR2 : Hid _ := setRow_heap wr w.heap.size Tryz.zeroCells51 (bodL T).toArray 51 (0, 0) hM.res
      have HBOD : Hid _ := hM.bod
      have HRES : Hid _ := hM.res
      have HZ1 : Hid ((Tryz.prog.info? 51).map (·.size) = some (bodL T).toArray.size) := by show _ = _; rw [size51, List.size_toArray, bodL_len]
      have HZ2 : Hid (Tryz.zeroCells51.size = (bodL T).toArray.size) := by show _ = _; rw [zero51, List.size_toArray, List.size_toArray, bodL_len, bodL_len]
      have HZ3 : Hid _ := bodL_one T
      have HBE : Hid _ := below_setRow hM.bel (Nat.le_refl _) (bodL T).toArray
      clear hM HM HFA HH HI HT1 HT2 HT3 HT
      go_wp2_with (first | (refine wpList_load_row rfl 51 (.tmp 3) rfl (w.heap.size + 1) rfl 51 (bodL T).toArray (0, 0) _ HBOD.out Tryz.underlying51 rfl HZ1.out ?_) | (refine wpList_store_row rfl 51 (.tmp 2) (.tmp 39) rfl w.heap.size (bodL T).toArray rfl rfl 51 Tryz.zeroCells51 HRES.out HZ1.out HZ2.out HZ3.out ?_))
      refine ⟨rfl, _, results_cell_row (p := 2) (ty := 51) rfl _ _ w.heap.size 51 (bodL T).toArray (0, 0) _ rfl HR2.out Tryz.underlying51 rfl HZ1.out, rfl, HBE.out⟩
    · have hM := HM.out
      obtain ⟨s1, s2, zi, za, av, am, ac, k0, k1, k2, k3, k4, k5, k6, k7, hz⟩ := (HB.out.later hM.sd.bel).it k (by have := HN.out; omega)
      have hii : (k : Int) < (n : Int) := by omega
      have h4 := HB.out.alts k (by have := HN.out; omega)
      have HAR : Hid (∀ wx : World, Fd w0 w b (.slice (some ⟨xb, xo, none⟩) n icap) (.slice (some ⟨fb, fo, none⟩) n lcap) m (Mk T k 0) wx → Calls Tryz.prog 49 #[.pointer (some ⟨w.heap.size + 1, 0, none⟩), .int .i64 (k : Int), .agg #[.string s1, .string s2, .bool (p.sub k), .bool (p.vital k), .int .i64 (p.alts k : Nat), .int .i64 zi, .int .i64 za, .slice av am ac]] wx fun e w' => e = .returned (.bool (hal k)) ∧ Below wx.heap.size wx w') := fun wx hF => by
        have h9 : (decide (0 < k) && hal k) = hal k := by
          by_cases h0 : 0 < k
          · simp [h0]
          · obtain rfl : k = 0 := by omega
            rw [HH0.out]
            rfl
        rw [← h9]
        refine around_any (w := wx) (w.heap.size + 1) 0 k s1 s2 (p.sub k) (p.vital k) (p.alts k : Nat) zi za av am ac (hal k) (by omega) (fun h1 => ?_)
        obtain ⟨e1, e2⟩ := hz h1
        obtain ⟨e3, e4, e5⟩ := HI.out k h1 hlt
        refine ⟨p.inn k, p.alt k, e1, e2, by omega, by omega, ?_⟩
        have h8 := hF.at_ (s := p.inn k) (a := p.alt k) (by omega) (by omega)
        have h7 : Mk T k 0 (p.inn k) (p.alt k) = hal k := by
          unfold Mk
          rw [decide_eq_true e3, HH.out k h1 hlt]
          rfl
        rw [h7] at h8
        rw [Nat.zero_add]
        exact h8
      have HTK : Hid (∀ a, p.alts k ≤ a → T k a = false) := HT2.out k
      have HTK1 : Hid (∀ a, a < p.alts k → T k a = (hal k || !allK p k a (okH p f m))) := fun a h => HT1.out k a hlt h
      clear hM hz
      generalize p.alts k = t at *
      generalize p.sub k = su at *
      generalize p.vital k = vi at *
      have rx := Dg.row_new wr #[.string s1, .string s2, .bool su, .bool vi, .int .i64 (t : Int), .int .i64 zi, .int .i64 za, .slice av am ac] 37
      have hb1 := bl1 wr (.cells #[.string s1, .string s2, .bool su, .bool vi, .int .i64 (t : Int), .int .i64 zi, .int .i64 za, .slice av am ac] 37)
      have x0 := (Dg.cell_row rx 0).trans rfl
      have x1 := (Dg.cell_row rx 1).trans rfl
      have x2 := (Dg.cell_row rx 2).trans rfl
      have x3 := (Dg.cell_row rx 3).trans rfl
      have x4 := (Dg.cell_row rx 4).trans rfl
      have x5 := (Dg.cell_row rx 5).trans rfl
      have x6 := (Dg.cell_row rx 6).trans rfl
      have x7 := (Dg.cell_row rx 7).trans rfl
      have HM1 : Hid _ := HM.out.later hb1
      have HX4 : Hid _ := x4
      have HBW : Hid _ := hb1
      clear rx hb1 HM
      go_wp2_with fail
      refine Calls.mono (HAR.out _ HM1.out) ?_
      rintro e w2 ⟨rfl, hb2⟩
      have HM2 : Hid (Fd w0 w b (.slice (some ⟨xb, xo, none⟩) n icap) (.slice (some ⟨fb, fo, none⟩) n lcap) m (Mk T k 0) w2) := HM1.out.later hb2
      have y4 := Dg.cell_later hb2 HX4.out
      clear k0 k1 k2 k3 k5 k6 k7 hb2 HM1 HX4 HAR x0 x1 x2 x3 x4 x5 x6 x7 HBW
      generalize wr.heap.size = xb9 at *
      generalize hal k = hk9 at *
      go_wp2_with fail
      go_loopw [23] (fun iv wr => ∃ (j : Nat), j ≤ t ∧ iv = .int .i64 j ∧ Hid (Fd w0 w b (.slice (some ⟨xb, xo, none⟩) n icap) (.slice (some ⟨fb, fo, none⟩) n lcap) m (Mk T k j) wr)) (fun iv _ => t - (intOf iv).toNat)
      case atStart => exact ⟨0, Nat.zero_le _, by go_num, HM2⟩
      case round =>
        obtain ⟨j, hj, rfl, HJ⟩ := hrel
        rename World => wj
        by_cases hjt : j < t
        rotate_left
        · obtain rfl : j = t := by omega
          have HJ2 : Hid (Fd w0 w b (.slice (some ⟨xb, xo, none⟩) n icap) (.slice (some ⟨fb, fo, none⟩) n lcap) m (Mk T (k + 1) 0) wj) := by
            show Fd _ _ _ _ _ _ _ _
            rw [← Mk_next HTK.out]
            exact HJ.out
          clear HJ
          go_wp2_with fail
          go_roundw
          case rel => exact ⟨k + 1, by omega, by go_num, HJ2⟩
          case measure => simp [intOf] <;> omega
        · have HTJ : Hid _ := HTK1.out j hjt
          have hFJ := HFA.out
          have HFJ : Hid (Calls Tryz.prog 75 #[.pointer (some ⟨b, 0, none⟩), .int .i64 (k : Int), .int .i64 (j : Int)] wj.drew fun e w' => e = .returned (.bool (!allK p k j (okH p f m))) ∧ Fd w0 w b (.slice (some ⟨xb, xo, none⟩) n icap) (.slice (some ⟨fb, fo, none⟩) n lcap) m (Mk T k j) w') := Calls.mono (HFA.out wj.drew k j (HJ.out.bel.trans ((Below.refl _ _).drew.mono HJ.out.bel.size)) hlt (by omega)) (by rintro e w2 ⟨rfl, hb⟩; exact ⟨rfl, (HJ.out.later (Below.refl _ _).drew).later hb⟩)
          have hj4 : (j : Int) < 4 := by omega
          have hk64 : (k : Int) < 64 := by omega
          have hCUR : Fd w0 w b (.slice (some ⟨xb, xo, none⟩) n icap) (.slice (some ⟨fb, fo, none⟩) n lcap) m (Mk T k j) wj.drew := HJ.out.later (Below.refl _ _).drew
          have hS0 : ∃ M9, Fd w0 w b (.slice (some ⟨xb, xo, none⟩) n icap) (.slice (some ⟨fb, fo, none⟩) n lcap) m M9 wj.drew := ⟨_, hCUR⟩
          clear hFJ
          go_wp2_with fail
          cases hk9 with
          | true =>
            have HTR : Hid (T k j = true) := by show _ = _; rw [HTJ.out]; rfl
            refine region_thenQ [(26, .int .i64 k), (27, .int .i64 j), (28, .bool true), (29, .bool true), (30, undef), (31, undef), (32, undef), (33, undef), (34, .bool true), (35, .pointer (some ⟨w.heap.size + 1, k * 4, none⟩)), (36, .pointer (some ⟨w.heap.size + 1, k * 4 + j, none⟩))] (fun w' => Fd w0 w b (.slice (some ⟨xb, xo, none⟩) n icap) (.slice (some ⟨fb, fo, none⟩) n lcap) m (Mk T k (j + 1)) w') ?_ ?_
            · refine wp_region_held (S := fun w' => ∃ M9, Fd w0 w b (.slice (some ⟨xb, xo, none⟩) n icap) (.slice (some ⟨fb, fo, none⟩) n lcap) m M9 w') (by kernel_rfl) ?_
              simp only [List.size_toArray, List.length_cons, List.length_nil, Nat.reduceAdd, Array.replicate_succ, Array.replicate_zero, List.push_toArray, List.nil_append, List.cons_append]
              refine takeD (i := 0) (d := 26) (v := .int .i64 k) (fuel := 11) rfl rfl (by kernel_rfl) (by kernel_rfl) (by kernel_rfl) (fun _ _ _ h => by cases h.1) (.inl ⟨by kernel_rfl, fun _ _ => by kernel_rfl⟩) hS0 ?_
              simp only [List.setIfInBounds_toArray, List.set_cons_succ, List.set_cons_zero]
              refine takeD (i := 1) (d := 27) (v := .int .i64 j) (fuel := 10) rfl rfl (by kernel_rfl) (by kernel_rfl) (by kernel_rfl) (fun _ _ _ h => by cases h.1) (.inl ⟨by kernel_rfl, fun _ _ => by kernel_rfl⟩) hS0 ?_
              simp only [List.setIfInBounds_toArray, List.set_cons_succ, List.set_cons_zero]
              refine takeD (i := 2) (d := 28) (v := .bool true) (fuel := 9) rfl rfl (by kernel_rfl) (by kernel_rfl) (by kernel_rfl) (fun _ _ _ h => by cases h.1) (.inl ⟨by kernel_rfl, fun _ _ => by kernel_rfl⟩) hS0 ?_
              simp only [List.setIfInBounds_toArray, List.set_cons_succ, List.set_cons_zero]
              refine takeD (i := 3) (d := 29) (v := .bool true) (fuel := 8) rfl rfl (by kernel_rfl) (by kernel_rfl) (by kernel_rfl) (fun _ _ _ h => by cases h.1) (.inl ⟨by kernel_rfl, fun _ _ => by kernel_rfl⟩) hS0 ?_
              simp only [List.setIfInBounds_toArray, List.set_cons_succ, List.set_cons_zero]
              refine takeD (i := 4) (d := 30) (v := undef) (fuel := 7) rfl rfl (by kernel_rfl) (by kernel_rfl) (by kernel_rfl) (fun _ _ _ h => by cases h.1) (.inr ⟨by kernel_rfl, rfl⟩) hS0 ?_
              simp only [List.setIfInBounds_toArray, List.set_cons_succ, List.set_cons_zero]
              refine takeD (i := 5) (d := 31) (v := undef) (fuel := 6) rfl rfl (by kernel_rfl) (by kernel_rfl) (by kernel_rfl) (fun _ _ _ h => by cases h.1) (.inr ⟨by kernel_rfl, rfl⟩) hS0 ?_
              simp only [List.setIfInBounds_toArray, List.set_cons_succ, List.set_cons_zero]
              refine takeD (i := 6) (d := 32) (v := undef) (fuel := 5) rfl rfl (by kernel_rfl) (by kernel_rfl) (by kernel_rfl) (fun _ _ _ h => by cases h.1) (.inr ⟨by kernel_rfl, rfl⟩) hS0 ?_
              simp only [List.setIfInBounds_toArray, List.set_cons_succ, List.set_cons_zero]
              refine takeD (i := 9) (d := 35) (v := .pointer (some ⟨w.heap.size + 1, k * 4, none⟩)) (fuel := 4) rfl rfl (by kernel_rfl) (by kernel_rfl) (by kernel_rfl) (fun _ _ _ h => by cases h.1) (.inl ⟨by kernel_rfl, fun _ _ => by go_simp⟩) hS0 ?_
              simp only [List.setIfInBounds_toArray, List.set_cons_succ, List.set_cons_zero]
              refine wpAnyH_all (fuel := 3) (rs := [7]) (by kernel_rfl) (by decide) (List.forall_mem_singleton.2 ?_)
              refine wpOp_un (i := 7) (d := 33) rfl rfl (by kernel_rfl) ⟨hS0, ?_⟩
              simp only [List.setIfInBounds_toArray, List.set_cons_succ, List.set_cons_zero]
              refine takeD (i := 8) (d := 34) (v := .bool true) (fuel := 2) rfl rfl (by kernel_rfl) (by kernel_rfl) (by kernel_rfl) (fun _ _ _ h => by cases h.1) (.inl ⟨by kernel_rfl, fun _ _ => by kernel_rfl⟩) hS0 ?_
              simp only [List.setIfInBounds_toArray, List.set_cons_succ, List.set_cons_zero]
              refine takeD (i := 10) (d := 36) (v := .pointer (some ⟨w.heap.size + 1, k * 4 + j, none⟩)) (fuel := 1) rfl rfl (by kernel_rfl) (by kernel_rfl) (by kernel_rfl) (fun _ _ _ h => by cases h.1) (.inl ⟨by kernel_rfl, fun _ _ => by go_simp⟩) hS0 ?_
              simp only [List.setIfInBounds_toArray, List.set_cons_succ, List.set_cons_zero]
              refine wpAnyH_all (fuel := 0) (rs := [11]) (by kernel_rfl) (by decide) (List.forall_mem_singleton.2 ?_)
              have hP := hCUR.put (s := k) (a := j) (true) (by omega) (by omega)
              rw [Mk_put HTR.out.symm] at hP
              have c9 := hCUR.at_ (s := k) (a := j) (by omega) (by omega)
              have f9 := Dg.froz_row hCUR.bod (k * 4 + j)
              refine wpOp_skip (i := 11) (w' := wj.drew.setCell ⟨w.heap.size + 1, k * 4 + j, none⟩ (.bool (true))) rfl rfl (by kernel_rfl) (by go_simp) ⟨⟨_, hP⟩, ?_⟩
              refine wpAnyH_done (by kernel_rfl) ?_ _
              exact ⟨rfl, by kernel_rfl, hP⟩
            · intro w9 hF
              simp only [setAll, List.setIfInBounds_toArray, List.set_cons_succ, List.set_cons_zero, Exit.inBlock, Exit.then]
              have HF9 : Hid _ := hF
              clear hF
              go_wp2_with fail
              go_roundw
              case rel => exact ⟨j + 1, by omega, by go_num, HF9⟩
              case measure => simp [intOf] <;> omega
          | false =>
            have HTR : Hid (T k j = !allK p k j (okH p f m)) := by show _ = _; rw [HTJ.out]; rfl
            generalize (!allK p k j (okH p f m)) = q9 at *
            refine region_thenQ [(26, .int .i64 k), (27, .int .i64 j), (28, .bool false), (29, .bool false), (30, .pointer (some ⟨b, 0, none⟩)), (31, .int .i64 k), (32, .int .i64 j), (33, .bool q9), (34, .bool q9), (35, .pointer (some ⟨w.heap.size + 1, k * 4, none⟩)), (36, .pointer (some ⟨w.heap.size + 1, k * 4 + j, none⟩))] (fun w' => Fd w0 w b (.slice (some ⟨xb, xo, none⟩) n icap) (.slice (some ⟨fb, fo, none⟩) n lcap) m (Mk T k (j + 1)) w') ?_ ?_
            · refine wp_region_held (S := fun w' => ∃ M9, Fd w0 w b (.slice (some ⟨xb, xo, none⟩) n icap) (.slice (some ⟨fb, fo, none⟩) n lcap) m M9 w') (by kernel_rfl) ?_
              simp only [List.size_toArray, List.length_cons, List.length_nil, Nat.reduceAdd, Array.replicate_succ, Array.replicate_zero, List.push_toArray, List.nil_append, List.cons_append]
              refine takeD (i := 0) (d := 26) (v := .int .i64 k) (fuel := 11) rfl rfl (by kernel_rfl) (by kernel_rfl) (by kernel_rfl) (fun _ _ _ h => by cases h.1) (.inl ⟨by kernel_rfl, fun _ _ => by kernel_rfl⟩) hS0 ?_
              simp only [List.setIfInBounds_toArray, List.set_cons_succ, List.set_cons_zero]
              refine takeD (i := 1) (d := 27) (v := .int .i64 j) (fuel := 10) rfl rfl (by kernel_rfl) (by kernel_rfl) (by kernel_rfl) (fun _ _ _ h => by cases h.1) (.inl ⟨by kernel_rfl, fun _ _ => by kernel_rfl⟩) hS0 ?_
              simp only [List.setIfInBounds_toArray, List.set_cons_succ, List.set_cons_zero]
              refine takeD (i := 2) (d := 28) (v := .bool false) (fuel := 9) rfl rfl (by kernel_rfl) (by kernel_rfl) (by kernel_rfl) (fun _ _ _ h => by cases h.1) (.inl ⟨by kernel_rfl, fun _ _ => by kernel_rfl⟩) hS0 ?_
              simp only [List.setIfInBounds_toArray, List.set_cons_succ, List.set_cons_zero]
              refine takeD (i := 3) (d := 29) (v := .bool false) (fuel := 8) rfl rfl (by kernel_rfl) (by kernel_rfl) (by kernel_rfl) (fun _ _ _ h => by cases h.1) (.inl ⟨by kernel_rfl, fun _ _ => by kernel_rfl⟩) hS0 ?_
              simp only [List.setIfInBounds_toArray, List.set_cons_succ, List.set_cons_zero]
              refine takeD (i := 4) (d := 30) (v := .pointer (some ⟨b, 0, none⟩)) (fuel := 7) rfl rfl (by kernel_rfl) (by kernel_rfl) (by kernel_rfl) (fun _ _ _ h => by cases h.1) (.inl ⟨by kernel_rfl, fun _ _ => by kernel_rfl⟩) hS0 ?_
              simp only [List.setIfInBounds_toArray, List.set_cons_succ, List.set_cons_zero]
              refine takeD (i := 5) (d := 31) (v := .int .i64 k) (fuel := 6) rfl rfl (by kernel_rfl) (by kernel_rfl) (by kernel_rfl) (fun _ _ _ h => by cases h.1) (.inl ⟨by kernel_rfl, fun _ _ => by kernel_rfl⟩) hS0 ?_
              simp only [List.setIfInBounds_toArray, List.set_cons_succ, List.set_cons_zero]
              refine takeD (i := 6) (d := 32) (v := .int .i64 j) (fuel := 5) rfl rfl (by kernel_rfl) (by kernel_rfl) (by kernel_rfl) (fun _ _ _ h => by cases h.1) (.inl ⟨by kernel_rfl, fun _ _ => by kernel_rfl⟩) hS0 ?_
              simp only [List.setIfInBounds_toArray, List.set_cons_succ, List.set_cons_zero]
              refine takeD (i := 9) (d := 35) (v := .pointer (some ⟨w.heap.size + 1, k * 4, none⟩)) (fuel := 4) rfl rfl (by kernel_rfl) (by kernel_rfl) (by kernel_rfl) (fun _ _ _ h => by cases h.1) (.inl ⟨by kernel_rfl, fun _ _ => by go_simp⟩) hS0 ?_
              simp only [List.setIfInBounds_toArray, List.set_cons_succ, List.set_cons_zero]
              refine oneW (R := fun w' => Fd w0 w b (.slice (some ⟨xb, xo, none⟩) n icap) (.slice (some ⟨fb, fo, none⟩) n lcap) m (Mk T k j) w') (i := 7) (d := 33) (f := 75) (args := #[.pointer (some ⟨b, 0, none⟩), .int .i64 k, .int .i64 j]) (v := .bool q9) (fuel := 3) rfl rfl (by kernel_rfl) (by kernel_rfl) (fun _ => by kernel_rfl) (HFJ.out) (fun w' h => ⟨_, h⟩) (fun wz hR7 => ?_)
              simp only [List.setIfInBounds_toArray, List.set_cons_succ, List.set_cons_zero]
              refine takeD (i := 8) (d := 34) (v := .bool q9) (fuel := 2) rfl rfl (by kernel_rfl) (by kernel_rfl) (by kernel_rfl) (fun _ _ _ h => by cases h.1) (.inl ⟨by kernel_rfl, fun _ _ => by kernel_rfl⟩) (⟨_, hR7⟩) ?_
              simp only [List.setIfInBounds_toArray, List.set_cons_succ, List.set_cons_zero]
              refine takeD (i := 10) (d := 36) (v := .pointer (some ⟨w.heap.size + 1, k * 4 + j, none⟩)) (fuel := 1) rfl rfl (by kernel_rfl) (by kernel_rfl) (by kernel_rfl) (fun _ _ _ h => by cases h.1) (.inl ⟨by kernel_rfl, fun _ _ => by go_simp⟩) (⟨_, hR7⟩) ?_
              simp only [List.setIfInBounds_toArray, List.set_cons_succ, List.set_cons_zero]
              refine wpAnyH_all (fuel := 0) (rs := [11]) (by kernel_rfl) (by decide) (List.forall_mem_singleton.2 ?_)
              have hP := hR7.put (s := k) (a := j) (q9) (by omega) (by omega)
              rw [Mk_put HTR.out.symm] at hP
              have c9 := hR7.at_ (s := k) (a := j) (by omega) (by omega)
              have f9 := Dg.froz_row hR7.bod (k * 4 + j)
              refine wpOp_skip (i := 11) (w' := wz.setCell ⟨w.heap.size + 1, k * 4 + j, none⟩ (.bool (q9))) rfl rfl (by kernel_rfl) (by go_simp) ⟨⟨_, hP⟩, ?_⟩
              refine wpAnyH_done (by kernel_rfl) ?_ _
              exact ⟨rfl, by kernel_rfl, hP⟩
            · intro w9 hF
              simp only [setAll, List.setIfInBounds_toArray, List.set_cons_succ, List.set_cons_zero, Exit.inBlock, Exit.then]
              have HF9 : Hid _ := hF
              clear hF
              go_wp2_with fail
              go_roundw
              case rel => exact ⟨j + 1, by omega, by go_num, HF9⟩
              case measure => simp [intOf] <;> omega
end Go.Proofs.YtgdnlceliiekkaaGreatDoor.Sa

