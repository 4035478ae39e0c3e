/- The walk over the iterator of merged. -/
import Derived.Test.YtamfpmpooaejkaaNd
namespace Go.Proofs.Ytamfpmpooaejkaa
open Go.RowKit Go.Shelf
set_option maxRecDepth 1000000
set_option linter.unusedVariables false
attribute [local go_sem] Oper.semAt_some

/-- Between two rounds of the iterator. -/
def InvM (A Y H R : Nat) (la : Option Addr) (lc n l : Nat) (w0 Ws : World) (T : Nat → Prop) (J : Nat → World → (Nat → Prop) → Prop) (L : List (List EvP)) (xs : List (Nat × EvP)) (f : Nat) (act : Act) (W : World) : Prop :=
  ∃ (k : Nat) (had Ds : List Nat) (TJ : Nat → Prop) (u9 u10 u11 : Value), act = { tmps := #[.func (.yield l) #[] #[], .pointer (some ⟨A, 0, none⟩), .pointer (some ⟨Y, 0, none⟩), .pointer (some ⟨H, 0, none⟩), undef, undef, .slice la n lc, .int .i64 (n : Int), .slice (some ⟨R, 0, none⟩) n n, u9, u10, u11, undef, undef, undef, undef, undef, undef, undef, undef, undef, undef, undef, undef, undef, undef, undef, undef, undef, undef], defers := Ds.map mark } ∧
    Hid (MSt A Y H R (.slice la n lc) n l w0 Ws T TJ (fun _ => False) had Ds W) ∧ Hid (J k W TJ) ∧ Hid (xs.drop k = mq stE L f had ∧ k ≤ xs.length) ∧ Hid (Hd L f had)

/-- In the range within. -/
def InvI (A Y H R : Nat) (lv : Value) (n l : Nat) (w0 Ws : World) (T : Nat → Prop) (J : Nat → World → (Nat → Prop) → Prop) (had Ds : List Nat) (ys : List (Nat × EvP)) (k k' : Nat) (W : World) (TB : Nat → Prop) : Prop :=
  ∃ TJ, J k W TJ ∧ MSt A Y H R lv n l w0 Ws T TJ TB had Ds W ∧ ∀ j x, j < k' → ys[j]? = some x → nxq stE had x = false
/-- Where the range within is left. -/
def InvX (A Y H R : Nat) (lv : Value) (n l : Nat) (w0 Ws : World) (T : Nat → Prop) (J Jx : Nat → World → (Nat → Prop) → Prop) (had Ds : List Nat) (ys : List (Nat × EvP)) (k : Nat) (c : Code) (W : World) (TB : Nat → Prop) : Prop :=
  ∃ x TJ, ys.find? (nxq stE had) = some x ∧ ((c = .exit 1 ∧ J (k + 1) W TJ ∧ MSt A Y H R lv n l w0 Ws T TJ TB (Mg.bump had x.1) Ds W) ∨ (c = .exit 0 ∧ Jx (k + 1) W TJ ∧ XSt Ws T TJ TB Ds W))

theorem InvI.mv {A Y H R : Nat} {lv : Value} {n l : Nat} {w0 Ws : World} {T : Nat → Prop} {J : Nat → World → (Nat → Prop) → Prop} {had Ds : List Nat} {ys : List (Nat × EvP)} {k k' : Nat} {W : World} {TB : Nat → Prop} (h : InvI A Y H R lv n l w0 Ws T J had Ds ys k k' W TB)
    (hJ : ∀ k A TA B TB, J k A TA → Mv TA A TB B → J k B TB) {W' : World} {TB' : Nat → Prop} (hm : Mv TB W TB' W') : InvI A Y H R lv n l w0 Ws T J had Ds ys k k' W' TB' := by
  obtain ⟨TJ, h1, h2, h3⟩ := h
  obtain ⟨m1, m2⟩ := h2.mv hm
  exact ⟨_, hJ _ _ _ _ _ h1 m1, m2, h3⟩
theorem InvX.mv {A Y H R : Nat} {lv : Value} {n l : Nat} {w0 Ws : World} {T : Nat → Prop} {J Jx : Nat → World → (Nat → Prop) → Prop} {had Ds : List Nat} {ys : List (Nat × EvP)} {k : Nat} {c : Code} {W : World} {TB : Nat → Prop} (h : InvX A Y H R lv n l w0 Ws T J Jx had Ds ys k c W TB)
    (hJ : ∀ k A TA B TB, J k A TA → Mv TA A TB B → J k B TB) (hJx : ∀ k A TA B TB, Jx k A TA → Mv TA A TB B → Jx k B TB) {W' : World} {TB' : Nat → Prop} (hm : Mv TB W TB' W') : InvX A Y H R lv n l w0 Ws T J Jx had Ds ys k c W' TB' := by
  obtain ⟨x, TJ, hx, ⟨hc, h1, h2⟩ | ⟨hc, h1, h2⟩⟩ := h
  · obtain ⟨m1, m2⟩ := h2.mv hm
    exact ⟨x, _, hx, .inl ⟨hc, hJ _ _ _ _ _ h1 m1, m2⟩⟩
  · obtain ⟨m1, m2⟩ := h2.mv hm
    exact ⟨x, _, hx, .inr ⟨hc, hJx _ _ _ _ _ h1 m1, m2⟩⟩

theorem find_at {α : Type} {p : α → Bool} {ys : List α} {k : Nat} {x : α} (hx : ys[k]? = some x) (hp : p x = true) (hb : ∀ j y, j < k → ys[j]? = some y → p y = false) : ys.find? p = some x := by
  rw [List.find?_eq_some_iff_getElem]
  obtain ⟨hk, he⟩ := List.getElem?_eq_some_iff.1 hx
  refine ⟨hp, k, hk, he, fun j hj => ?_⟩
  have := hb j ys[j] hj (List.getElem?_eq_getElem (by omega))
  rw [this]
  rfl
theorem find_no {α : Type} {p : α → Bool} {ys : List α} (hb : ∀ j y, j < ys.length → ys[j]? = some y → p y = false) : ys.find? p = none := by
  rw [List.find?_eq_none]
  intro y hy
  obtain ⟨j, hj⟩ := List.getElem?_of_mem hy
  rw [hb j y (List.getElem?_eq_some_iff.1 hj).1 hj]
  decide

set_option maxHeartbeats 8000000 in
theorem merged_itr (A : Nat) (lv : Value) (L : List (List EvP)) (w0 : World) (hl : RREv w0 lv L) (hL1 : 1 ≤ L.length) (hL : L.length ≤ 64) (htot : Mg.tot L ≤ 1000000)
    (T : Nat → Prop) (w : World) (hbl : Below w0.heap.size w0 w) (bA : Boxed w A 22 lv) (tA : T A) (hown : ∀ b, T b → w0.heap.size ≤ b ∧ b < w.heap.size) :
    Itr Try.prog 34 #[.pointer (some ⟨A, 0, none⟩)] encM (mseq stE L) w0.heap.size T w := by
  intro l J Jx W hW hJ hJx hY hJ0
  have hzW := hW.size
  have hz0 := hbl.size
  have HJ : Hid _ := hJ
  have HJx : Hid _ := hJx
  have HY : Hid _ := hY
  have HRL : Hid (RREv w0 lv L) := hl
  have HB0 : Hid (Below w0.heap.size w0 W) := hbl.trans (hW.mono hz0)
  have bAW : Boxed W A 22 lv := (hW.block A bA.lt).trans bA
  have lA := bA.lt
  have HOWN : Hid (∀ b, T b → w0.heap.size ≤ b ∧ b < W.heap.size) := fun b hb => ⟨(hown b hb).1, Nat.lt_of_lt_of_le (hown b hb).2 hzW⟩
  have HTOT : Hid (Mg.tot L ≤ 1000000) := htot
  obtain ⟨xs, HX⟩ : ∃ xs, Hid (xs = mseq stE L) := ⟨_, rfl⟩
  rw [← HX.out] at HY ⊢
  obtain ⟨R, HR⟩ : ∃ R : Ending → World → Prop, Hid (R = fun e W2 => ∃ v T2, e = .returned v ∧ (J xs.length W2 T2 ∨ ∃ k, k < xs.length ∧ Jx (k + 1) W2 T2) ∧ (∀ b, b < W.heap.size → (T2 b ↔ T b)) ∧ (∀ b, T2 b → b < W2.heap.size)) := ⟨_, rfl⟩
  rw [← HR.out]
  obtain ⟨n, HN⟩ : ∃ n, Hid (L.length = n) := ⟨_, rfl⟩
  obtain ⟨la, lc, rfl⟩ := hl.slice
  rw [HN.out] at HRL hL1 hL bAW
  obtain ⟨C, HC, hmk⟩ := make_ints n hL
  -- the boxes
  have q1 := ((bAW.alloc (.cells #[.func (.yield l) #[] #[]] 62)).alloc (.cells C 3)).alloc (.cells #[.slice (some ⟨W.heap.size + 1, 0, none⟩) n n] 26)
  have q2 := ((Boxed.new W 62 (.func (.yield l) #[] #[])).alloc (.cells C 3)).alloc (.cells #[.slice (some ⟨W.heap.size + 1, 0, none⟩) n n] 26)
  have q3 : RowI ((W.alloc (.cells #[.func (.yield l) #[] #[]] 62)).alloc (.cells C 3)) (W.heap.size + 1) (hadZ (List.replicate L.length 0)) := by
    have := row_new (W.alloc (.cells #[.func (.yield l) #[] #[]] 62)) C 3
    rw [World.size_alloc] at this
    rw [hadZ_zero, HN.out]
    unfold RowI
    rw [this, HC.out]
  have q4 : RowI (((W.alloc (.cells #[.func (.yield l) #[] #[]] 62)).alloc (.cells C 3)).alloc (.cells #[.slice (some ⟨W.heap.size + 1, 0, none⟩) n n] 26)) (W.heap.size + 1) (hadZ (List.replicate L.length 0)) := q3.below ((Below.refl _ _).alloc (Nat.le_refl _) _)
  have q5 := Boxed.new ((W.alloc (.cells #[.func (.yield l) #[] #[]] 62)).alloc (.cells C 3)) 26 (.slice (some ⟨W.heap.size + 1, 0, none⟩) n n)
  simp only [World.size_alloc] at q5
  have hB3 : Below W.heap.size W (((W.alloc (.cells #[.func (.yield l) #[] #[]] 62)).alloc (.cells C 3)).alloc (.cells #[.slice (some ⟨W.heap.size + 1, 0, none⟩) n n] 26)) := (((Below.refl _ _).alloc (Nat.le_refl _) _).alloc (by simp) _).alloc (by simp; omega) _
  have hsz3 : (((W.alloc (.cells #[.func (.yield l) #[] #[]] 62)).alloc (.cells C 3)).alloc (.cells #[.slice (some ⟨W.heap.size + 1, 0, none⟩) n n] 26)).heap.size = W.heap.size + 3 := by simp
  have c1 := ((bAW.alloc (.cells #[.func (.yield l) #[] #[]] 62))).cell
  obtain ⟨W3, hW3⟩ : ∃ W3, ((W.alloc (.cells #[.func (.yield l) #[] #[]] 62)).alloc (.cells C 3)).alloc (.cells #[.slice (some ⟨W.heap.size + 1, 0, none⟩) n n] 26) = W3 := ⟨_, rfl⟩
  rw [hW3] at q1 q2 q4 q5 hB3 hsz3
  have hm3 : Mv T W (fun b => T b ∨ (W.heap.size ≤ b ∧ b < W3.heap.size)) W3 := Mv.of_below_own hB3
  have H0 : Hid (MSt A W.heap.size (W.heap.size + 1 + 1) (W.heap.size + 1) (.slice la n lc) n l w0 W T (fun b => T b ∨ (W.heap.size ≤ b ∧ b < W3.heap.size)) (fun _ => False) (List.replicate L.length 0) [] W3) := by
    refine ⟨q1, q2, q5, q4, .inl tA, .inr (by omega), .inr (by omega), .inr (by omega), id, id, id, id, by omega, by omega, by omega, HB0.out.trans (hB3.mono HB0.out.size), fun b hb => ?_, Marks.nil _ _, fun _ h => h.elim, fun b hb => ?_, fun b hb => hm3.old b hb, by omega⟩
    · rcases hb with hb | hb
      · exact (HOWN.out b hb).1
      · have := HB0.out.size; omega
    · rcases hb with hb | hb
      · have := (HOWN.out b hb).2; omega
      · exact hb.2
  have HJ3 : Hid (J 0 W3 (fun b => T b ∨ (W.heap.size ≤ b ∧ b < W3.heap.size))) := hJ _ _ _ _ _ hJ0 hm3
  clear hJ hJx hY hJ0 hW hbl bA tA hown q1 q2 q3 q4 q5 hB3 hm3 htot
  refine callsIn_of_wp_marks Try.func34 rfl trivial ?_ rfl
  simp only [Try.ntmps34, List.size_toArray, List.length_cons, List.length_nil, Nat.reduceAdd, Nat.reduceSub, Array.replicate_succ, Array.replicate_zero, List.push_toArray, List.append_toArray, List.nil_append, List.cons_append]
  refine wpIn_seq_k fun K1 hK1 => ?_
  gi_wp2
  refine wpIn_wide.2 (wp_scope_straight ((wpIn_wide (n := 0)).1 ?_))
  refine wpIn_seq_k fun K1 hK1 => ?_
  gi_wp2
  refine wpIn_label ?_
  rename_i hK2
  refine hK2 _ _ ?_
  clear hK2 c1 hmk hW3
  refine wpIn_block ?_
  have HPS : Hid (∀ {i j : Nat} {p : EvP}, (L.getD i [])[j]? = some p → RI w0 p.2 p.1.s) := HRL.out.ri
  generalize (fun b => T b ∨ (W.heap.size ≤ b ∧ b < W3.heap.size)) = TJ0 at H0 HJ3
  obtain ⟨Y, hYe⟩ : ∃ Y, Y = W.heap.size := ⟨_, rfl⟩
  obtain ⟨H, hHe⟩ : ∃ H, H = W.heap.size + 1 + 1 := ⟨_, rfl⟩
  obtain ⟨B, hBe⟩ : ∃ B, B = W.heap.size + 1 := ⟨_, rfl⟩
  rw [← hBe, ← hYe] at H0 ⊢
  rw [hBe, ← hHe, ← hBe] at H0
  rw [hBe, ← hHe, ← hBe]
  refine loopM (InvM A Y H B la lc n l w0 W T J L xs) (Mg.tot L) ?atStart ?round
  case atStart => exact ⟨0, List.replicate L.length 0, [], _, undef, undef, undef, rfl, H0, HJ3, ⟨by rw [HX.out]; rfl, Nat.zero_le _⟩, Hd.zero L⟩
  case round =>
    rintro f act Wr ⟨k, had, Ds, TJ, u9, u10, u11, rfl, HM, HJk, HD, HH⟩
    clear H0 HJ3 hYe hHe hBe hsz3 HC
    have cA := HM.out.ba.cell
    have cH := HM.out.bH.cell
    gi_wp2
    refine ⟨trivial, rfl, (callsIn_wide.2 (fronts_any _ _ _ _ _ _ _)).mono ?_⟩
    rintro e w' ⟨rfl, rfl⟩
    clear cA cH
    have HWR : Hid (RI Wr (.slice (some ⟨B, 0, none⟩) n n) (hadZ had)) := by
      have := HM.out.row.ri (by rw [hadZ_len, HH.out.len, HN.out]; omega)
      rw [hadZ_len, HH.out.len, HN.out] at this
      exact this
    have HWL : Hid (RREv Wr (.slice la n lc) L) := HRL.out.later HM.out.bel
    obtain ⟨hm1, hm2⟩ := HM.out.enter (.cells #[.slice la n lc] 22) (.cells #[.slice (some ⟨B, 0, none⟩) n n] 26)
    have HM1 : Hid _ := hm2
    have HJ1 : Hid _ := HJ.out _ _ _ _ _ HJk.out hm1
    have b1 := (Boxed.new Wr 22 (.slice la n lc)).alloc (.cells #[.slice (some ⟨B, 0, none⟩) n n] 26)
    have b2 := Boxed.new (Wr.alloc (.cells #[.slice la n lc] 22)) 26 (.slice (some ⟨B, 0, none⟩) n n)
    rw [World.size_alloc] at b2
    have hB1 : Below Wr.heap.size Wr ((Wr.alloc (.cells #[.slice la n lc] 22)).alloc (.cells #[.slice (some ⟨B, 0, none⟩) n n] 26)) := ((Below.refl _ _).alloc (Nat.le_refl _) _).alloc (by simp) _
    have hsz1 : ((Wr.alloc (.cells #[.slice la n lc] 22)).alloc (.cells #[.slice (some ⟨B, 0, none⟩) n n] 26)).heap.size = Wr.heap.size + 2 := by simp
    generalize hW1 : (Wr.alloc (.cells #[.slice la n lc] 22)).alloc (.cells #[.slice (some ⟨B, 0, none⟩) n n] 26) = W1 at *
    have HM1 : Hid (MSt A Y H B (.slice la n lc) n l w0 W T (fun b => TJ b ∨ (b = Wr.heap.size ∨ b = Wr.heap.size + 1)) (fun b => b = Wr.heap.size ∨ b = Wr.heap.size + 1) had Ds W1) := HM1.out
    have HITR : Hid _ := fronts_itr Wr.heap.size (Wr.heap.size + 1) (.slice la n lc) (.slice (some ⟨B, 0, none⟩) n n) L had Wr HWL.out HWR.out HH.out.len (fun i => by have := HH.out.small i; have := HTOT.out; omega) (by rw [HN.out]; exact hL) (fun b => b = Wr.heap.size ∨ b = Wr.heap.size + 1) W1 hB1 b1 b2 (.inl rfl) (.inr rfl) (fun b hb => by omega)
    have HSZ1 : Hid (W1.heap.size = Wr.heap.size + 2) := hsz1
    clear hm1 hm2 b1 b2 hB1 hW1 HWL HWR HM HJk hsz1
    obtain ⟨ys, HYS⟩ : ∃ ys, Hid (ys = fr L had) := ⟨_, rfl⟩
    rw [← HYS.out] at HITR
    gi_wp2
    refine range_law (P := Try.prog) (gf := 44) (lb := #[.pointer (some ⟨Wr.heap.size, 0, none⟩), .pointer (some ⟨Wr.heap.size + 1, 0, none⟩)]) rfl (enters_of Try.func44 (by kernel_rfl) rfl) (enc := encM) (xs := ys) (n0 := Wr.heap.size) (T := fun b => b = Wr.heap.size ∨ b = Wr.heap.size + 1)
      HITR.out (fun b hb => by have := HSZ1.out; omega) (by have := HSZ1.out; omega) (fun x F W T args h => by rw [show args = _ from h]; rfl)
      (fun k' V TB => Hid (InvI A Y H B (.slice la n lc) n l w0 W T J had Ds ys k k' V TB)) (fun c k' V TB => Hid (InvX A Y H B (.slice la n lc) n l w0 W T J Jx had Ds ys k c V TB))
      (fun k' V TV V' TV' h hm => InvI.mv h.out HJ.out hm) (fun c k' V TV V' TV' h hm => InvX.mv h.out HJ.out HJx.out hm)
      ⟨_, HJ1.out, HM1.out, fun j x hj _ => by omega⟩ ?rnd ?done ?stop
    case rnd =>
      rintro m l' k' x args F V T1 TB hxk henc ⟨Wf, Tf, HIf, hF, hmF⟩ HI hTB hup hnc hlt
      cases henc
      have HXK : Hid _ := hxk
      have hxm : x ∈ fr L had := by rw [← HYS.out]; exact List.mem_of_getElem? hxk
      obtain ⟨hxl, hxe⟩ := fr_mem hxm
      have HXS : Hid (RI w0 x.2.2 x.2.1.s) := HPS.out hxe
      obtain ⟨f', hf', hHd⟩ := HH.out.next hxm
      have HFP : Hid _ := hf'
      have HHD : Hid _ := hHd
      clear HIf hF hmF hxk hxm hxe hf' hHd hTB hnc
      obtain ⟨i, e, sv⟩ := x
      dsimp only at HXS hxl HHD
      obtain ⟨sa, sc, rfl⟩ : ∃ sa sc, sv = .slice sa e.s.length sc := by obtain ⟨a, c, h, _⟩ := HXS.out; exact ⟨a, c, h⟩
      have hBa : Below V.heap.size V (V.alloc (.cells #[.int .i64 e.k, .int .i64 e.i, .int .i64 e.t, .slice sa e.s.length sc] 45)) := (Below.refl _ _).alloc (Nat.le_refl _) _
      have hbx := Box.new V e.k e.i e.t (.slice sa e.s.length sc)
      unfold EvV
      gi_wp2
      have HLE : Hid (Wr.heap.size < V.heap.size) := by have := HSZ1.out; show _ < _; omega
      refine ⟨?_, Rv.of_below hBa (Nat.le_of_lt HLE.out), fun W2 HI2 hbz => ?_⟩
      · obtain ⟨TJ', h1, h2, h3⟩ := HI.out
        exact ⟨TJ', HJ.out _ _ _ _ _ h1 (Mv.of_below hBa), h2.below hBa, h3⟩
      have HBX : Hid (Box W2 V.heap.size e.k e.i e.t (.slice sa e.s.length sc)) := hbx.bz hbz
      clear hBa hbx hbz HI
      generalize V.heap.size = b5 at *
      obtain ⟨TJ', hj2, hm2, hno⟩ := HI2.out
      have HM2 : Hid (MSt A Y H B (.slice la n lc) n l w0 W T TJ' TB had Ds W2) := hm2
      have HJ2 : Hid _ := hj2
      have HNO : Hid _ := hno
      clear hj2 hm2 hno HI2
      have HWR : Hid (RI W2 (.slice (some ⟨B, 0, none⟩) n n) (hadZ had)) := by
        have := HM2.out.row.ri (by rw [hadZ_len, HH.out.len, HN.out]; omega)
        rw [hadZ_len, HH.out.len, HN.out] at this
        exact this
      have HNX : Hid _ := isNext_any _ _ had e i W2 HWR.out (HXS.out.later HM2.out.bel) (by rw [HH.out.len]; exact hxl) (by have := HH.out.small i; have := HTOT.out; omega) (by rw [HH.out.len, HN.out]; exact hL)
      unfold EvV at HNX
      have cH := HM2.out.bH.cell
      have c0 := HBX.out.c0
      have c1 := HBX.out.c1
      have c2 := HBX.out.c2
      have c3 := HBX.out.c3
      have HEV : Hid (∀ t : Bool, decide (Mg.Nx had e.s i) = t → nxq stE had (i, (e, .slice sa e.s.length sc)) = t) := fun t h => h
      generalize decide (Mg.Nx had e.s i) = q at *
      gi_wp2
      refine ⟨trivial, (fun h => by cases h), (CallsIn.inRound l' (callsIn_wide.2 HNX.out)).mono ?_⟩
      rintro x W3 ⟨rfl, hb3⟩
      have HM3 : Hid (MSt A Y H B (.slice la n lc) n l w0 W T TJ' TB had Ds W3) := HM2.out.below hb3
      have HJ3 : Hid _ := HJ.out _ _ _ _ _ HJ2.out (Mv.of_below hb3)
      have HBX3 : Hid (Box W3 b5 e.k e.i e.t (.slice sa e.s.length sc)) := HBX.out.later hb3
      have HRV3 : Hid (Rv Wr.heap.size TB W2 W3) := Rv.of_below hb3 (by have := HLE.out; have := HBX.out.lt; omega)
      clear hb3 cH c0 c1 c2 c3 HNX HWR HBX HM2 HJ2
      cases q with
      | false =>
        gi_wp2
        refine ⟨⟨TJ', HJ3.out, HM3.out, fun j y hj hy => ?_⟩, HRV3.out⟩
        by_cases hjk : j = k'
        · subst hjk
          rw [HXK.out] at hy
          cases hy
          exact HEV.out false rfl
        · exact HNO.out j y (by omega) hy
      | true =>
        have HFI : Hid (ys.find? (nxq stE had) = some (i, (e, .slice sa e.s.length sc))) := find_at HXK.out (HEV.out true rfl) HNO.out
        have HDR : Hid (xs.drop k = (i, (e, .slice sa e.s.length sc)) :: mq stE L f' (Mg.bump had i)) := by
          show _ = _
          have h1 := HD.out.1
          rw [HFP.out, mq, ← HYS.out, HFI.out] at h1
          exact h1
        obtain ⟨hx1, hx2, hx3⟩ := getElem_of_drop HDR.out
        have HX3 : Hid _ := hx3
        obtain ⟨fnn, tms, asg, bdy, hy, hR⟩ := HY.out k _ #[.int .i64 (i : Nat), EvV e (.slice sa e.s.length sc)] W3.heap.size W3 TJ' hx1 rfl ⟨W3, TJ', HJ3.out, rfl, Mv.refl _ _⟩ HJ3.out HM3.out.x.own (m - 1)
        unfold EvV at hy
        have c0 := HBX3.out.c0
        have c1 := HBX3.out.c1
        have c2 := HBX3.out.c2
        have c3 := HBX3.out.c3
        have cY := HM3.out.bY.cell
        clear hx1 hx2 hx3 HDR HEV HNO
        gi_wp2
        refine ⟨(fun h => by cases h), (RoundIn.mono (F := Fence.wide.inRound l') hR ?_)⟩
        rintro x W4 ⟨t, rfl, ht1, ht2⟩
        clear c0 c1 c2 c3 cY hy hR
        cases t with
        | true =>
          obtain ⟨hj4, hr4⟩ := ht1 rfl
          have HM4 : Hid (MSt A Y H B (.slice la n lc) n l w0 W T TJ' TB had Ds W4) := HM3.out.round hr4
          have HJ4 : Hid _ := hj4
          have HRV4 : Hid (Rv 0 TB W2 W4) := HRV3.out.low0.trans (hr4.low0.mono HM3.out.x.sub)
          clear ht1 ht2 hj4 hr4 HM3 HJ3 HRV3
          have hil : i < n := by rw [← HN.out]; exact hxl
          obtain ⟨cR, fR⟩ := HM4.out.row.get i (by rw [hadZ_len, HH.out.len]; exact hxl)
          have HM5 : Hid _ := HM4.out.bump i
          have HJ5 : Hid _ := HJ.out _ _ _ _ _ HJ4.out (Mv.setCell (i := i) W4 (.int .i64 ((hadZ had).getD i 0 + 1)) HM4.out.tR)
          have HRV5 : Hid (Rv 0 TB W2 (W4.setCell ⟨B, i, none⟩ (.int .i64 ((hadZ had).getD i 0 + 1)))) := HRV4.out.trans (Rv.setCell W4 _ (Nat.zero_le _) HM4.out.nR)
          have hsm : (hadZ had).getD i 0 ≤ 1000000 ∧ 0 ≤ (hadZ had).getD i 0 := by rw [hadZ_get]; have := HH.out.small i; have := HTOT.out; omega
          have cH := HM4.out.bH.cell
          generalize (hadZ had).getD i 0 = z at *
          clear HM4 HJ4 HRV4
          gi_wp2
          exact ⟨⟨_, TJ', HFI.out, .inl ⟨rfl, HJ5.out, HM5.out⟩⟩, HRV5.out⟩
        | false =>
          obtain ⟨hj4, hr4⟩ := ht2 rfl
          have HX4 : Hid (XSt W T TJ' TB Ds W4) := HM3.out.x.rv hr4
          have HJ4 : Hid _ := hj4
          have HRV4 : Hid (Rv 0 TB W2 W4) := HRV3.out.low0.trans (hr4.mono HM3.out.x.sub)
          clear ht1 ht2 hj4 hr4 HM3 HJ3 HRV3
          gi_wp2
          exact ⟨⟨_, TJ', HFI.out, .inr ⟨rfl, HJ4.out, HX4.out⟩⟩, HRV4.out⟩
    case done =>
      rintro V T2 h hold hup hdef hts
      obtain ⟨TJ', h1, h2, h3⟩ := h.out
      have HK : Hid (k = xs.length) := by
        have hd := HD.out.1
        have hnf := find_no h3
        have : mq stE L f had = [] := by
          cases f with
          | zero => rfl
          | succ f => rw [mq, ← HYS.out, hnf]
        rw [this] at hd
        exact drop_end hd HD.out.2
      have hx := h2.x.leave hts hdef
      have HXS : Hid (XSt W T TJ' (fun _ => False) (W1.heap.size :: Ds) V) := hx
      have HJd : Hid (J xs.length V TJ') := by rw [← HK.out]; exact h1
      clear h1 h2 h3 hx h hold hup hdef hts
      gi_wp2
      show LeavesInM Fence.wide 0 Try.prog Try.f34 _ R ((W1.heap.size :: Ds).map mark) .returning V
      refine leaves_marks (T := fun b => TJ' b ∧ ¬ False) (by simp) (fun A => ∃ TA, J xs.length A TA ∧ (∀ b, TJ' b → TA b) ∧ (∀ b, b < W.heap.size → (TA b ↔ T b)) ∧ ∀ b, TA b → b < A.heap.size) ?_ ?_ _ V HXS.out.mks ⟨TJ', HJd.out, fun _ => id, HXS.out.old, HXS.out.own⟩
      · rintro A D hD ⟨TA, h1, h2, h3, h4⟩
        exact ⟨TA, HJ.out _ _ _ _ _ h1 (Mv.putObj _ _ (h2 D hD.1)), h2, h3, fun b hb => by simpa [World.putObj] using h4 b hb⟩
      · rintro A ⟨TA, h1, h2, h3, h4⟩
        refine ⟨_, results_none rfl _ _, ?_⟩
        rw [HR.out]
        exact ⟨_, TA, rfl, .inl h1, h3, h4⟩
    case stop =>
      rintro c k' V T2 hk' h hold hup hdef hts
      obtain ⟨x, TJ', hfx, ⟨rfl, h1, h2⟩ | ⟨rfl, h1, h2⟩⟩ := h.out
      · have hxm : x ∈ fr L had := by rw [← HYS.out]; exact List.mem_of_find?_eq_some hfx
        obtain ⟨f', rfl, hHd⟩ := HH.out.next hxm
        have hdr := HD.out.1
        rw [mq, ← HYS.out, hfx] at hdr
        obtain ⟨hx1, hx2, hx3⟩ := getElem_of_drop hdr
        have HM9 : Hid (MSt A Y H B (.slice la n lc) n l w0 W T TJ' (fun _ => False) (Mg.bump had x.1) (W1.heap.size :: Ds) V) := ⟨h2.ba, h2.bY, h2.bH, h2.row, h2.tA, h2.tY, h2.tH, h2.tR, id, id, id, id, h2.rA, h2.rY, h2.rH, h2.bel, h2.low, h2.x.leave hts hdef⟩
        have HJ9 : Hid _ := h1
        have HD9 : Hid (xs.drop (k + 1) = mq stE L f' (Mg.bump had x.1) ∧ k + 1 ≤ xs.length) := ⟨hx2, hx3⟩
        have HH9 : Hid _ := hHd
        clear h1 h2 h hold hup hdef hts hfx hxm hHd hdr hx1 hx2 hx3
        gi_wp2
        exact ⟨f', Nat.lt_succ_self _, k + 1, Mg.bump had x.1, W1.heap.size :: Ds, TJ', _, _, _, rfl, HM9, HJ9, HD9, HH9⟩
      · have hxm : x ∈ fr L had := by rw [← HYS.out]; exact List.mem_of_find?_eq_some hfx
        obtain ⟨f', rfl, hHd⟩ := HH.out.next hxm
        have hdr := HD.out.1
        rw [mq, ← HYS.out, hfx] at hdr
        obtain ⟨hx1, hx2, hx3⟩ := getElem_of_drop hdr
        have HX3 : Hid _ := hx3
        have HXS : Hid (XSt W T TJ' (fun _ => False) (W1.heap.size :: Ds) V) := h2.leave hts hdef
        have HJ9 : Hid _ := h1
        clear h1 h2 h hold hup hdef hts hfx hxm hHd hdr hx1 hx2 hx3
        gi_wp2
        show LeavesInM Fence.wide 0 Try.prog Try.f34 _ R ((W1.heap.size :: Ds).map mark) .returning V
        refine leaves_marks (T := fun b => TJ' b ∧ ¬ False) (by simp) (fun A => ∃ TA, Jx (k + 1) A TA ∧ (∀ b, TJ' b → TA b) ∧ (∀ b, b < W.heap.size → (TA b ↔ T b)) ∧ ∀ b, TA b → b < A.heap.size) ?_ ?_ _ V HXS.out.mks ⟨TJ', HJ9.out, fun _ => id, HXS.out.old, HXS.out.own⟩
        · rintro A D hD ⟨TA, h1, h2, h3, h4⟩
          exact ⟨TA, HJx.out _ _ _ _ _ h1 (Mv.putObj _ _ (h2 D hD.1)), h2, h3, fun b hb => by simpa [World.putObj] using h4 b hb⟩
        · rintro A ⟨TA, h1, h2, h3, h4⟩
          refine ⟨_, results_none rfl _ _, ?_⟩
          rw [HR.out]
          exact ⟨_, TA, rfl, .inr ⟨k, HX3.out, h1⟩, h3, h4⟩
end Go.Proofs.Ytamfpmpooaejkaa
