/- Texts of the seat, packed: Le. -/
import Derived.Test.YtgdnlceliiekkaaGreatDoorP12
import Derived.Laws.EntriesVeiled
/- What is asked of a saga: whether it is touched, clean, spent, done; which body it is in. -/
namespace Go.Proofs.YtgdnlceliiekkaaGreatDoor.Sa
open Go.RowKit Go.Shelf Go.Proofs.YtgdnlceliiekkaaGreatDoor.Fc Go.Proofs.YtgdnlceliiekkaaGreatDoor.St
set_option maxRecDepth 1000000
set_option linter.unusedVariables false

variable {p : Pl} {f : Nat → Fa} {xb xo icap fb fo lcap : Nat} {w0 : World} {b : Nat} {m : Nat → Nat → Bool} {w : World} {n : Nat}

/-- Two new variables: the standing, and a saga's number. -/
theorem two_new (w : World) (b s : Nat) : let W := (w.alloc (.cells #[.pointer (some ⟨b, 0, none⟩)] 93)).alloc (.cells #[.int .i64 (s : Int)] 3)
    Cp W w.heap.size b ∧ Ci W (w.heap.size + 1) s ∧ Below w.heap.size w W := by
  refine ⟨Dg.row_alloc (Dg.row_new w _ 93) _, ?_, (bl1 w _).alloc (by simp) _⟩
  have := Dg.row_new (w.alloc (.cells #[.pointer (some ⟨b, 0, none⟩)] 93)) #[.int .i64 (s : Int)] 3
  rw [World.size_alloc] at this
  exact this

set_option maxHeartbeats 2000000 in
theorem clean1_any (hB : Bs p f xb xo icap fb fo lcap w0) (hn : p.n = n) {lv : Value} (hS : Sd w0 b (.slice (some ⟨xb, xo, none⟩) n icap) lv m w) {c d s a : Nat} (hc : Cp w c b) (hd : Ci w d s) (hs : s < n) (ha : a ≤ 4) :
    Calls Tryz.prog 70 #[.int .i64 (a : Int), .pointer (some ⟨c, 0, none⟩), .pointer (some ⟨d, 0, none⟩)] w fun e w' => e = .returned (.bool (allK p s a (m 1))) ∧ Below w.heap.size w w' := by
  have HE : Hid _ := bodyClean_any hB hn hS hs ha
  have c0 := hc.c0
  have d0 := hd.c0
  clear hB hS hc hd
  go_enter Tryz.func70, Tryz.ntmps70
  go_wp2_with fail
  refine Calls.mono HE.out ?_
  rintro e w2 ⟨rfl, hb2⟩
  have HB2 : Hid _ := hb2
  clear HE hb2 c0 d0
  go_wp2_with fail
  go_ret
  exact ⟨rfl, HB2.out⟩

set_option maxHeartbeats 2000000 in
theorem spent1_any (hB : Bs p f xb xo icap fb fo lcap w0) (hn : p.n = n) (hS : Sd w0 b (.slice (some ⟨xb, xo, none⟩) n icap) (.slice (some ⟨fb, fo, none⟩) n lcap) m w) {c d s a : Nat} (hc : Cp w c b) (hd : Ci w d s) (hs : s < n) (ha : a ≤ 4) :
    Calls Tryz.prog 72 #[.int .i64 (a : Int), .pointer (some ⟨c, 0, none⟩), .pointer (some ⟨d, 0, none⟩)] w fun e w' => e = .returned (.bool (allK p s a (m 1) && !allK p s a (okH p f m))) ∧ Below w.heap.size w w' := by
  have HE : Hid _ := isOver_any hB hn hS hs ha
  have c0 := hc.c0
  have d0 := hd.c0
  clear hB hS hc hd
  go_enter Tryz.func72, Tryz.ntmps72
  go_wp2_with fail
  refine Calls.mono HE.out ?_
  rintro e w2 ⟨rfl, hb2⟩
  have HB2 : Hid _ := hb2
  clear HE hb2 c0 d0
  go_wp2_with fail
  go_ret
  exact ⟨rfl, HB2.out⟩

set_option maxHeartbeats 2000000 in
theorem touched1_any (hB : Bs p f xb xo icap fb fo lcap w0) (hn : p.n = n) {lv : Value} (hS : Sd w0 b (.slice (some ⟨xb, xo, none⟩) n icap) lv m w) {c d h s a : Nat} (hc : Cp w c b) (hd : Ci w d s) (hh : w.heap[h]? = some (.cells #[.func (Fn.func 66) #[] #[.pointer (some ⟨c, 0, none⟩)]] 60 (0, 0))) (hs : s < n) (ha : a ≤ 4) :
    Calls Tryz.prog 68 #[.int .i64 (a : Int), .pointer (some ⟨c, 0, none⟩), .pointer (some ⟨d, 0, none⟩), .pointer (some ⟨h, 0, none⟩)] w fun e w' => e = .returned (.bool (allK p s a (fun i => !m 0 i))) ∧ Below w.heap.size w w' := by
  have hle : n ≤ 64 := by have := hB.le; omega
  have HE : Hid _ := every_any hB hn hS 66 (.pointer (some ⟨c, 0, none⟩)) s a hs ha (fun i => !m 0 i) (fun _ _ => by kernel_rfl) (fun wx i hb h1 h2 => untouched_any (hS.later hb) (hc.later hb) (i := i) (by omega))
  have c0 := hc.c0
  have d0 := hd.c0
  have h0 := (Dg.cell_row hh 0).trans rfl
  clear hB hS hc hd hh
  go_enter Tryz.func68, Tryz.ntmps68
  go_wp2_with fail
  refine Calls.mono HE.out ?_
  rintro e w2 ⟨rfl, hb2⟩
  have HB2 : Hid _ := hb2
  clear HE hb2 c0 d0 h0
  go_wp2_with fail
  go_ret
  exact ⟨rfl, HB2.out⟩

set_option maxHeartbeats 2000000 in
theorem sagaClean_any (hB : Bs p f xb xo icap fb fo lcap w0) (hn : p.n = n) {lv : Value} (hS : Sd w0 b (.slice (some ⟨xb, xo, none⟩) n icap) lv m w) {s : Nat} (hs : s < n) :
    Calls Tryz.prog 40 #[.pointer (some ⟨b, 0, none⟩), .int .i64 (s : Int)] w fun e w' => e = .returned (.bool (allB (p.alts s) fun a => allK p s a (m 1))) ∧ Below w.heap.size w w' := by
  obtain ⟨hc, hd, hb1⟩ := two_new w b s
  have h4 := hB.alts s (by omega)
  have HE : Hid _ := everyBody_any hB hn (hS.later hb1) 70 #[.pointer (some ⟨w.heap.size, 0, none⟩), .pointer (some ⟨w.heap.size + 1, 0, none⟩)] s hs (fun a => allK p s a (m 1)) (fun _ _ => by kernel_rfl) (fun wx i hb h1 => clean1_any hB hn ((hS.later hb1).later hb) (hc.later hb) (hd.later hb) hs (by omega))
  have c0 := hc.c0
  have d0 := hd.c0
  have HB1 : Hid _ := hb1
  clear hB hS hc hd hb1
  go_enter Tryz.func40, Tryz.ntmps40
  go_wp2_with fail
  refine Calls.mono HE.out ?_
  rintro e w2 ⟨rfl, hb2⟩
  have HB2 : Hid _ := HB1.out.trans (hb2.mono HB1.out.size)
  clear HE hb2 c0 d0 HB1
  go_wp2_with fail
  go_ret
  exact ⟨rfl, HB2.out⟩

set_option maxHeartbeats 2000000 in
theorem sagaSpent_any (hB : Bs p f xb xo icap fb fo lcap w0) (hn : p.n = n) (hS : Sd w0 b (.slice (some ⟨xb, xo, none⟩) n icap) (.slice (some ⟨fb, fo, none⟩) n lcap) m w) {s : Nat} (hs : s < n) :
    Calls Tryz.prog 42 #[.pointer (some ⟨b, 0, none⟩), .int .i64 (s : Int)] w fun e w' => e = .returned (.bool (allB (p.alts s) fun a => allK p s a (m 1) && !allK p s a (okH p f m))) ∧ Below w.heap.size w w' := by
  obtain ⟨hc, hd, hb1⟩ := two_new w b s
  have h4 := hB.alts s (by omega)
  have HE : Hid _ := everyBody_any hB hn (hS.later hb1) 72 #[.pointer (some ⟨w.heap.size, 0, none⟩), .pointer (some ⟨w.heap.size + 1, 0, none⟩)] s hs (fun a => allK p s a (m 1) && !allK p s a (okH p f m)) (fun _ _ => by kernel_rfl) (fun wx i hb h1 => spent1_any hB hn ((hS.later hb1).later hb) (hc.later hb) (hd.later hb) hs (by omega))
  have c0 := hc.c0
  have d0 := hd.c0
  have HB1 : Hid _ := hb1
  clear hB hS hc hd hb1
  go_enter Tryz.func42, Tryz.ntmps42
  go_wp2_with fail
  refine Calls.mono HE.out ?_
  rintro e w2 ⟨rfl, hb2⟩
  have HB2 : Hid _ := HB1.out.trans (hb2.mono HB1.out.size)
  clear HE hb2 c0 d0 HB1
  go_wp2_with fail
  go_ret
  exact ⟨rfl, HB2.out⟩

set_option maxHeartbeats 2000000 in
theorem sagaTouched_any (hB : Bs p f xb xo icap fb fo lcap w0) (hn : p.n = n) {lv : Value} (hS : Sd w0 b (.slice (some ⟨xb, xo, none⟩) n icap) lv m w) {s : Nat} (hs : s < n) :
    Calls Tryz.prog 38 #[.pointer (some ⟨b, 0, none⟩), .int .i64 (s : Int)] w fun e w' => e = .returned (.bool (!allB (p.alts s) fun a => allK p s a (fun i => !m 0 i))) ∧ Below w.heap.size w w' := by
  obtain ⟨hc, hd, hb1⟩ := two_new w b s
  have h4 := hB.alts s (by omega)
  have hb2 := bl1 ((w.alloc (.cells #[.pointer (some ⟨b, 0, none⟩)] 93)).alloc (.cells #[.int .i64 (s : Int)] 3)) (.cells #[.func (Fn.func 66) #[] #[.pointer (some ⟨w.heap.size, 0, none⟩)]] 60)
  have hh := Dg.row_new ((w.alloc (.cells #[.pointer (some ⟨b, 0, none⟩)] 93)).alloc (.cells #[.int .i64 (s : Int)] 3)) #[.func (Fn.func 66) #[] #[.pointer (some ⟨w.heap.size, 0, none⟩)]] 60
  rw [World.size_alloc, World.size_alloc] at hh
  have hS2 := (hS.later hb1).later hb2
  have HB1 : Hid _ := hb1.trans (hb2.mono hb1.size)
  have HE : Hid _ := everyBody_any hB hn hS2 68 #[.pointer (some ⟨w.heap.size, 0, none⟩), .pointer (some ⟨w.heap.size + 1, 0, none⟩), .pointer (some ⟨w.heap.size + 1 + 1, 0, none⟩)] s hs (fun a => allK p s a (fun i => !m 0 i)) (fun _ _ => by kernel_rfl) (fun wx i hb h1 => touched1_any hB hn (hS2.later hb) ((hc.later hb2).later hb) ((hd.later hb2).later hb) ((hb.block _ (Array.getElem?_eq_some_iff.1 hh).1).trans hh) hs (by omega))
  clear hB hS hc hd hb1 hb2 hS2 hh
  go_enter Tryz.func38, Tryz.ntmps38
  go_wp2_with fail
  refine Calls.mono HE.out ?_
  rintro e w2 ⟨rfl, hb2⟩
  have HB2 : Hid _ := HB1.out.trans (hb2.mono HB1.out.size)
  clear HE hb2 HB1
  go_wp2_with fail
  go_ret
  exact ⟨rfl, HB2.out⟩

/-- The first body that is not over; the last one, if there is none. -/
theorem first_is {q : Nat → Bool} {n k : Nat} (hk : k + 1 ≤ n) (h2 : k + 1 < n → q k = false) : ∀ (d a : Nat), a ≤ k → k ≤ a + d → (∀ j, a ≤ j → j < k → q j = true) → first q n d a = k
  | 0, a, h3, h4, _ => by unfold first; omega
  | d + 1, a, h3, h4, h => by
    unfold first
    by_cases ha : a = k
    · subst ha
      rw [if_neg]
      rintro ⟨h5, h6⟩
      rw [h2 h5] at h6
      cases h6
    · rw [if_pos ⟨by omega, h a (Nat.le_refl _) (by omega)⟩]
      exact first_is hk h2 d (a + 1) (by omega) (by omega) fun j h5 h6 => h j (by omega) h6

/-- Is a body over? -/
def ovr (p : Pl) (f : Nat → Fa) (m : Nat → Nat → Bool) (s a : Nat) : Bool := allK p s a (m 1) && !allK p s a (okH p f m)

set_option maxHeartbeats 2000000 in
theorem body_any (hB : Bs p f xb xo icap fb fo lcap w0) (hn : p.n = n) (hS : Sd w0 b (.slice (some ⟨xb, xo, none⟩) n icap) (.slice (some ⟨fb, fo, none⟩) n lcap) m w) {s : Nat} (hs : s < n) (ha : 1 ≤ p.alts s) :
    Calls Tryz.prog 47 #[.pointer (some ⟨b, 0, none⟩), .int .i64 (s : Int)] w fun e w' => e = .returned (.int .i64 ((first (ovr p f m s) (p.alts s) (p.alts s) 0 : Nat) : Int)) ∧ Below w.heap.size w w' := by
  obtain ⟨E, HE⟩ : ∃ E, Hid (E = first (ovr p f m s) (p.alts s) (p.alts s) 0) := ⟨_, rfl⟩
  rw [← HE.out]
  have hle : n ≤ 64 := by have := hB.le; omega
  have hic : n ≤ icap := by have := hB.icap; omega
  have h4 := hB.alts s (by omega)
  have HO : Hid (∀ (wx : World) (a : Nat), Below w.heap.size w wx → a ≤ 4 → Calls Tryz.prog 73 #[.pointer (some ⟨b, 0, none⟩), .int .i64 (s : Int), .int .i64 (a : Int)] wx fun e w' => e = .returned (.bool (ovr p f m s a)) ∧ Below wx.heap.size wx w') := fun wx a hb h => isOver_any hB hn (hS.later hb) hs h
  have HK : Hid (∀ wx : World, Below w.heap.size w wx → wx.cell? ⟨b, 0, none⟩ = some (.slice (some ⟨xb, xo, none⟩) n icap) ∧ wx.cell? ⟨xb, xo + s * 8 + 4, none⟩ = some (.int .i64 (p.alts s : Nat))) := fun wx hb => by
    obtain ⟨s1, s2, zi, za, av, am, ac, k0, k1, k2, k3, k4, k5, k6, k7, hz⟩ := (hB.later (hS.later hb).bel).it s (by omega)
    exact ⟨(hS.later hb).c0, k4⟩
  have hii : (s : Int) < (n : Int) := by omega
  generalize p.alts s = t at *
  clear hB hS
  go_enter Tryz.func47, Tryz.ntmps47
  go_wp2_with fail
  go_loopw [5] (fun iv wr => ∃ (k : Nat), k + 1 ≤ t ∧ iv = .int .i64 k ∧ Hid (∀ i, i < k → ovr p f m s i = true) ∧ Hid (Below w.heap.size w wr)) (fun iv _ => t - (intOf iv).toNat)
  case atStart => exact ⟨0, by omega, by go_num, fun i h1 => by omega, Below.refl _ _⟩
  case round =>
    obtain ⟨k, hk, rfl, HA, HW⟩ := hrel
    rename World => wr
    obtain ⟨z0, z1⟩ := HK.out wr HW.out
    by_cases hlt : k + 1 < t
    rotate_left
    · have HX : Hid (E = k) := by
        show _ = _
        rw [HE.out]
        exact first_is hk (fun h => absurd h hlt) _ 0 (by omega) (by omega) fun j _ h => HA.out j h
      have hlt2 : ¬ (k : Int) < (t : Int) - 1 := by omega
      go_wp2_with fail
      go_ret
      exact ⟨by rw [HX.out]; rfl, HW.out⟩
    · have HQK : Hid _ := HO.out wr k HW.out (by omega)
      have HNO : Hid (ovr p f m s k = false → E = k) := fun h3 => HE.out.trans (first_is hk (fun _ => h3) _ 0 (by omega) (by omega) fun j _ h => HA.out j h)
      have HYES : Hid (ovr p f m s k = true → ∀ i, i < k + 1 → ovr p f m s i = true) := fun h i h1 => by
        by_cases hik : i = k
        · subst hik; exact h
        · exact HA.out i (by omega)
      have hlt2 : (k : Int) < (t : Int) - 1 := by omega
      clear HA
      go_wp2_with fail
      refine Calls.mono HQK.out ?_
      rintro e w2 ⟨rfl, hb2⟩
      have HW2 : Hid _ := HW.out.trans (hb2.mono HW.out.size)
      clear HQK hb2
      cases hqk : ovr p f m s k with
      | true =>
        have HY2 : Hid _ := HYES.out hqk
        clear HYES HNO
        go_wp2_with fail
        go_roundw
        case rel => exact ⟨k + 1, by omega, by go_num, HY2, HW2⟩
        case measure => simp [intOf]; omega
      | false =>
        have HX : Hid _ := HNO.out hqk
        clear HYES HNO
        go_wp2_with fail
        go_ret
        exact ⟨by rw [HX.out]; rfl, HW2.out⟩

set_option maxHeartbeats 2000000 in
theorem sagaDone_any (hB : Bs p f xb xo icap fb fo lcap w0) (hn : p.n = n) (hS : Sd w0 b (.slice (some ⟨xb, xo, none⟩) n icap) (.slice (some ⟨fb, fo, none⟩) n lcap) m w) {s : Nat} (hs : s < n) (ha : 1 ≤ p.alts s) :
    Calls Tryz.prog 44 #[.pointer (some ⟨b, 0, none⟩), .int .i64 (s : Int)] w fun e w' => e = .returned (.bool (!m 2 s && allK p s (first (ovr p f m s) (p.alts s) (p.alts s) 0) (okD p m))) ∧ Below w.heap.size w w' := by
  have hle : n ≤ 64 := by have := hB.le; omega
  have h4 := hB.alts s (by omega)
  have hfl : first (ovr p f m s) (p.alts s) (p.alts s) 0 ≤ 4 := by
    have : ∀ (q : Nat → Bool) (n d a : Nat), a ≤ n → first q n d a ≤ n := fun q n d => by
      induction d with
      | zero => intro a ha; exact ha
      | succ d ih =>
        intro a ha
        unfold first
        split
        · exact ih (a + 1) (by omega)
        · exact ha
    have := this (ovr p f m s) (p.alts s) (p.alts s) 0 (by omega)
    omega
  have HE : Hid _ := body_any hB hn hS hs ha
  have HF : Hid (∀ w', Below w.heap.size w w' → _) := fun w' hb => isWhole_any hB hn (hS.later hb) hs hfl
  have c2 := hS.m2 (i := s) (by omega)
  have hii2 : (s : Int) < 64 := by omega
  clear hB hS hfl
  generalize first (ovr p f m s) (p.alts s) (p.alts s) 0 = t at *
  generalize m 2 s = q2 at *
  cases q2 with
  | true =>
    clear HE HF
    go_enter Tryz.func44, Tryz.ntmps44
    go_wp2_with fail
    go_ret
    exact ⟨rfl, Below.refl _ _⟩
  | false =>
    go_enter Tryz.func44, Tryz.ntmps44
    go_wp2_with fail
    refine Calls.mono HE.out ?_
    rintro e w2 ⟨rfl, hb2⟩
    have HB2 : Hid _ := hb2
    have HF2 : Hid _ := HF.out w2 hb2
    clear HE HF hb2
    go_wp2_with fail
    refine Calls.mono HF2.out ?_
    rintro e w3 ⟨rfl, hb3⟩
    have HB3 : Hid _ := HB2.out.trans (hb3.mono HB2.out.size)
    clear HF2 HB2 hb3
    go_wp2_with fail
    go_ret
    exact ⟨rfl, HB3.out⟩
end Go.Proofs.YtgdnlceliiekkaaGreatDoor.Sa

