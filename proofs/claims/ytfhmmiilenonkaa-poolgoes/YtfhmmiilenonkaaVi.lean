/- The laws' alike; both pools begun. -/
import Derived.Test.YtfhmmiilenonkaaVg
namespace Go.Proofs.Ytfhmmiilenonkaa
open Go.RowKit Go.Shelf
set_option maxRecDepth 1000000
set_option linter.unusedVariables false

variable {N : Nat} {F S : Nat → Prop} {w w' : World} {p r b1 b2 b3 n : Nat} {s : Pq.St Jb} {rs hs fs : Array Value}

/-- What Held tells. -/
def heldC (s : Pq.St Jb) (v : Nat) : Jb × Int := match s.hd v with | some j => (j, 0) | none => (zJ, 6)
theorem held_all (h : LP N F w p n s) (hi : PInv s) {v : Nat} (hv : v < n) :
    Calls Try.prog 16 #[.pointer (some ⟨p, 0, none⟩), .int .i64 (v : Int)] w fun e w' => ∃ sv, e = .returned (.tuple #[JV (heldC s v).1 sv, .int .i64 (heldC s v).2]) ∧ RI w' sv (heldC s v).1.s ∧ Below w.heap.size w w' := by
  unfold heldC
  cases hj : s.hd v with
  | none =>
    refine Calls.mono (held_err (by decide) ⟨_, rfl⟩ (holder_none h hv hj)) ?_
    rintro e w' ⟨rfl, hb⟩
    exact ⟨_, rfl, RI.nil _, hb⟩
  | some j => exact held_some h hi hv hj
theorem rheld_all (h : RV S w r b1 b2 b3 n s rs hs fs) {v : Nat} (hv : v < n) :
    Calls Try.prog 31 #[.pointer (some ⟨r, 0, none⟩), .int .i64 (v : Int)] w fun e w' => ∃ sv, e = .returned (.tuple #[JV (heldC s v).1 sv, .int .i64 (heldC s v).2]) ∧ RI w' sv (heldC s v).1.s ∧ Below w.heap.size w w' := by
  unfold heldC
  cases hj : s.hd v with
  | none =>
    refine Calls.mono (rheld_none h hv hj) ?_
    rintro e w' ⟨rfl, hb⟩
    exact ⟨_, rfl, RI.nil _, hb⟩
  | some j => exact rheld_some h hv hj
theorem heldC_few (hi : PInv s) (v : Nat) : (heldC s v).1.s.length ≤ 1000000 := by
  unfold heldC
  cases hj : s.hd v with
  | none => simp [zJ]
  | some j => exact Nat.le_trans (hi.hd v j hj) (by omega)
theorem PB.lp (h : PB N w p r n s) : ∃ F, LP N F w p n s := by
  obtain ⟨⟨F, b1, b2, b3, rs, hs, fs, hl, _⟩, _⟩ := h
  exact ⟨F, hl⟩
theorem PB.rv (h : PB N w p r n s) : ∃ S b1 b2 b3 rs hs fs, RV S w r b1 b2 b3 n s rs hs fs := by
  obtain ⟨⟨F, b1, b2, b3, rs, hs, fs, hl, hr, _⟩, _⟩ := h
  exact ⟨_, b1, b2, b3, rs, hs, fs, hr⟩

/-- Both pools begun. -/
theorem PB.begin {w1 w2 : World} (hp : LP w.heap.size (fun _ => False) w1 p n (st0 n)) (hb1' : Below w.heap.size w w1) (hr : RV (fun k => k < w.heap.size) w2 r b1 b2 b3 n (st0 n) rs hs fs) (h0 : w1.heap.size ≤ r) (h1 : w1.heap.size ≤ b1) (h2 : w1.heap.size ≤ b2) (h3 : w1.heap.size ≤ b3) (hb : Below w1.heap.size w1 w2) : PB w.heap.size w2 p r n (st0 n) := by
  have hs1 := hb1'.size
  have l0 := row_lt hr.blk
  have l1 := row_lt hr.q1
  have l2 := row_lt hr.q2
  have l3 := row_lt hr.q3
  refine ⟨⟨fun k => k = r ∨ k = b1 ∨ k = b2 ∨ k = b3, b1, b2, b3, rs, hs, fs, hp.kept (X := fun _ => False) (Kp.of_below _ hb) (fun _ h _ => h.elim) (fun k hk => .inr (by omega)) (fun k hk => by omega), hr.mono (fun k _ hk => ⟨.inl hk, by omega, by omega, by omega, by omega⟩) (fun k hk => .inl ?_), .inl rfl, .inr (.inl rfl), .inr (.inr (.inl rfl)), .inr (.inr (.inr rfl)), by omega, by omega, by omega, by omega⟩, PInv.st0 n⟩
  rcases hk.1 with h | h
  · exact h
  · have := hk.2; omega

set_option maxHeartbeats 8000000 in
theorem alike_any (h : PB N w p r n s) : Calls Try.prog 12 #[.pointer (some ⟨p, 0, none⟩), .pointer (some ⟨r, 0, none⟩)] w fun e w' => e = .returned (.bool true) ∧ Below w.heap.size w w' := by
  have HI : Hid _ := h.inv
  obtain ⟨F, hl⟩ := h.lp
  obtain ⟨S, b1, b2, b3, rs, hs, fs, hr⟩ := h.rv
  have HL : Hid (∀ wx, Below w.heap.size w wx → LP N F wx p n s) := fun wx hb => hl.later hb
  have HR : Hid (∀ wx, Below w.heap.size w wx → RV S wx r b1 b2 b3 n s rs hs fs) := fun wx hb => hr.later hb
  have c1 := hr.c1
  have h64 := hr.n64
  have hrl := row_lt hr.blk
  have hbl := row_lt hr.q1
  have HBr : Hid (Below w.heap.size w w) := Below.refl _ _
  clear h hl hr
  go_enter Try.func12, Try.ntmps12
  go_wp2_with fail
  go_loopw [5] (fun s5 wr => ∃ i : Nat, s5 = .int .i64 i ∧ i ≤ n ∧ Hid (Below w.heap.size w wr)) (fun s5 _ => n - (intOf s5).toNat)
  case atStart => exact ⟨0, rfl, Nat.zero_le _, HBr⟩
  case round =>
    obtain ⟨i, rfl, hi, HW⟩ := hrel
    rename World => wa
    clear c1 HBr
    have c1 := (HR.out wa HW.out).c1
    by_cases hlt : i < n
    · have hin : (i : Int) < (n : Int) := by omega
      have HHe : Hid _ := held_all (HL.out wa HW.out) HI.out hlt
      go_wp2_with fail
      refine Calls.mono HHe.out ?_
      rintro e w1 ⟨sv, rfl, q1, qb⟩
      obtain ⟨sa, sc, hsv, _⟩ := id q1
      have HQ1 : Hid (RI w1 sv (heldC s i).1.s) := q1
      subst hsv
      have hb1 : Below w.heap.size w w1 := HW.out.trans (qb.mono HW.out.size)
      have HB1 : Hid _ := hb1
      have HRJ : Hid _ := row_new w1 (jrow ((heldC s i).1, .slice sa (heldC s i).1.s.length sc)).toArray 37
      have HBx : Hid (Below w.heap.size w (w1.alloc (.cells (jrow ((heldC s i).1, .slice sa (heldC s i).1.s.length sc)).toArray 37))) := hb1.alloc hb1.size _
      have HRe : Hid _ := rheld_all (HR.out _ HBx.out) hlt
      have HFw : Hid _ := heldC_few HI.out i
      obtain ⟨⟨⟨ji, ju, jt, jb, jk, js⟩, hc⟩, hhe⟩ : ∃ q, heldC s i = q := ⟨_, rfl⟩
      rw [hhe] at HQ1 HRJ HBx HRe HFw ⊢
      unfold JV at HRe ⊢
      dsimp only at *
      obtain ⟨ml, hml⟩ : ∃ m, js.length = m := ⟨_, rfl⟩
      have HML : Hid _ := hml
      rw [hml] at HQ1 HRJ HBx HRe HFw ⊢
      clear q1 qb hb1 HHe hhe hml
      go_wp2_with fail
      refine Calls.mono HRe.out ?_
      rintro e w3 ⟨sv2, rfl, q2, qb2⟩
      obtain ⟨ka, kc, hsv2, _⟩ := id q2
      have HQ2 : Hid (RI w3 sv2 js) := q2
      subst hsv2
      rw [HML.out] at HQ2 ⊢
      have hbx2 : Below (w1.alloc (.cells (jrow (⟨ji, ju, jt, jb, jk, js⟩, .slice sa ml sc)).toArray 37)).heap.size (w1.alloc (.cells (jrow (⟨ji, ju, jt, jb, jk, js⟩, .slice sa ml sc)).toArray 37)) w3 := qb2
      have r3 := row_later HRJ.out hbx2
      obtain ⟨d0, d1, d2, d3, d4, d5⟩ := JC.of_row (e := ⟨ji, ju, jt, jb, jk, js⟩) (v := .slice sa ml sc) r3
      simp only [Nat.zero_add] at d0 d1 d2 d3 d4 d5
      have hl1 : w1.heap.size < w3.heap.size := row_lt r3
      have HB3 : Hid (Below w.heap.size w w3) := HBx.out.trans (hbx2.mono HBx.out.size)
      have HQ13 : Hid (RI w3 (.slice sa ml sc) js) := (HQ1.out.later (bl1 w1 _)).later hbx2
      obtain ⟨w4, hw4⟩ : ∃ w4, w3.alloc (.cells #[.int .i64 ji, .bool ju, .int .i64 jt, .bool jb, .int .i64 jk, .slice ka ml kc] 37) = w4 := ⟨_, rfl⟩
      have hb4 : Below w3.heap.size w3 w4 := by rw [← hw4]; exact bl1 _ _
      have HB4 : Hid (Below w.heap.size w w4) := HB3.out.trans (hb4.mono HB3.out.size)
      have HW4 : Hid _ := hw4
      have e0 : w4.cell? ⟨w3.heap.size, 0, none⟩ = some (.int .i64 ji) := by rw [← hw4]; exact (cell_row (row_new w3 _ 37) 0).trans rfl
      have e1 : w4.cell? ⟨w3.heap.size, 1, none⟩ = some (.bool ju) := by rw [← hw4]; exact (cell_row (row_new w3 _ 37) 1).trans rfl
      have e2 : w4.cell? ⟨w3.heap.size, 2, none⟩ = some (.int .i64 jt) := by rw [← hw4]; exact (cell_row (row_new w3 _ 37) 2).trans rfl
      have e3 : w4.cell? ⟨w3.heap.size, 3, none⟩ = some (.bool jb) := by rw [← hw4]; exact (cell_row (row_new w3 _ 37) 3).trans rfl
      have e4 : w4.cell? ⟨w3.heap.size, 4, none⟩ = some (.int .i64 jk) := by rw [← hw4]; exact (cell_row (row_new w3 _ 37) 4).trans rfl
      have e5 : w4.cell? ⟨w3.heap.size, 5, none⟩ = some (.slice ka ml kc) := by rw [← hw4]; exact (cell_row (row_new w3 _ 37) 5).trans rfl
      have HSM : Hid (∀ wx, Below w4.heap.size w4 wx → Calls Try.prog 17 #[.agg #[.int .i64 ji, .bool ju, .int .i64 jt, .bool jb, .int .i64 jk, .slice sa ml sc], .agg #[.int .i64 ji, .bool ju, .int .i64 jt, .bool jb, .int .i64 jk, .slice ka ml kc]] wx fun e w' => e = .returned (.bool true) ∧ Below w4.heap.size w4 w') := fun wx hb => by
        have := same_job ⟨ji, ju, jt, jb, jk, js⟩ ⟨ji, ju, jt, jb, jk, js⟩ (.slice sa ml sc) (.slice ka ml kc) wx ((HQ13.out.later hb4).later hb) ((HQ2.out.later hb4).later hb) (by show js.length ≤ _; rw [HML.out]; exact HFw.out) (by show js.length ≤ _; rw [HML.out]; exact HFw.out)
        rw [decide_eq_true rfl] at this
        refine Calls.mono this ?_
        rintro e w' ⟨rfl, hb2⟩
        exact ⟨rfl, hb.trans (hb2.mono hb.size)⟩
      have HLi : Hid (∀ wx, Below w4.heap.size w4 wx → Calls Try.prog 21 #[.pointer (some ⟨p, 0, none⟩), .int .i64 (i : Int)] wx fun e w' => ∃ la ln lc A, e = .returned (.slice la ln lc) ∧ (∃ S', RJ S' w' (.slice la ln lc) A) ∧ A.map Prod.fst = s.row i ∧ Below w4.heap.size w4 w') := fun wx hb => by
        refine Calls.mono (list_in (HL.out wx (HB4.out.trans (hb.mono HB4.out.size))) HI.out hlt) ?_
        rintro e w' ⟨lv, A, rfl, q1, q2, q3⟩
        obtain ⟨a, c, hlv⟩ := q1.rj.slice
        subst hlv
        exact ⟨a, _, c, A, rfl, ⟨_, q1.rj⟩, q2, hb.trans (q3.mono hb.size)⟩
      obtain ⟨rv, M, y, hM, hM2⟩ := (HR.out w4 HB4.out).row_at hlt
      obtain ⟨ra, rc, hrv⟩ := hM.slice
      subst hrv
      obtain ⟨rl, hrl2⟩ : ∃ m, M.length = m := ⟨_, rfl⟩
      have HMR : Hid (RJ S w4 (.slice ra rl rc) M) := by show RJ _ _ _ _; rw [← hrl2]; exact hM
      have HM2 : Hid _ := hM2
      rw [hrl2] at y
      have HSA : Hid (∀ wx (la : Option Addr) (ln lc : Nat) (A : List JbP), Below w4.heap.size w4 wx → (∃ S', RJ S' wx (.slice la ln lc) A) → A.map Prod.fst = s.row i → Calls Try.prog 32 #[.slice la ln lc, .slice ra rl rc] wx fun e w' => e = .returned (.bool true) ∧ Below w4.heap.size w4 w') := fun wx la ln lc A hb hA hA2 => by
        obtain ⟨S', hA⟩ := hA
        have h1 := HI.out.row i
        have fs : ∀ B : List JbP, B.map Prod.fst = s.row i → FewS B := fun B hB x hx => by have := h1.2 x.1 (by rw [← hB]; exact List.mem_map_of_mem hx); omega
        have ln2 : ∀ B : List JbP, B.map Prod.fst = s.row i → B.length = (s.row i).length := fun B hB => by rw [← hB, List.length_map]
        have := sameAll_any S' S A M _ _ wx hA (HMR.out.later hb) (fs A hA2) (fs M HM2.out) (by rw [ln2 A hA2]; omega) (by rw [ln2 M HM2.out]; omega)
        rw [decide_eq_true (by rw [hA2, HM2.out])] at this
        refine Calls.mono this ?_
        rintro e w' ⟨rfl, hb2⟩
        exact ⟨rfl, hb.trans (hb2.mono hb.size)⟩
      have g1 := (HR.out w4 HB4.out).c1
      have HD4 : Hid (∀ wx, Below w4.heap.size w4 wx → wx.cell? ⟨r, 0, none⟩ = some (.slice (some ⟨b1, 0, none⟩) n n) ∧ wx.cell? ⟨b1, i, none⟩ = some (.slice ra rl rc)) := fun wx hb => ⟨cell_later hb g1, cell_later hb y⟩
      have k0 := cell_later hb4 d0
      have k1 := cell_later hb4 d1
      have k2 := cell_later hb4 d2
      have k3 := cell_later hb4 d3
      have k4 := cell_later hb4 d4
      have k5 := cell_later hb4 d5
      have HJ1 : Hid (∀ wx, Below w4.heap.size w4 wx → wx.cell? ⟨w1.heap.size, 0, none⟩ = some (.int .i64 ji) ∧ wx.cell? ⟨w1.heap.size, 1, none⟩ = some (.bool ju) ∧ wx.cell? ⟨w1.heap.size, 2, none⟩ = some (.int .i64 jt) ∧ wx.cell? ⟨w1.heap.size, 3, none⟩ = some (.bool jb) ∧ wx.cell? ⟨w1.heap.size, 4, none⟩ = some (.int .i64 jk) ∧ wx.cell? ⟨w1.heap.size, 5, none⟩ = some (.slice sa ml sc)) := fun wx hb => ⟨cell_later hb k0, cell_later hb k1, cell_later hb k2, cell_later hb k3, cell_later hb k4, cell_later hb k5⟩
      have HJ2 : Hid (∀ wx, Below w4.heap.size w4 wx → wx.cell? ⟨w3.heap.size, 0, none⟩ = some (.int .i64 ji) ∧ wx.cell? ⟨w3.heap.size, 1, none⟩ = some (.bool ju) ∧ wx.cell? ⟨w3.heap.size, 2, none⟩ = some (.int .i64 jt) ∧ wx.cell? ⟨w3.heap.size, 3, none⟩ = some (.bool jb) ∧ wx.cell? ⟨w3.heap.size, 4, none⟩ = some (.int .i64 jk) ∧ wx.cell? ⟨w3.heap.size, 5, none⟩ = some (.slice ka ml kc)) := fun wx hb => ⟨cell_later hb e0, cell_later hb e1, cell_later hb e2, cell_later hb e3, cell_later hb e4, cell_later hb e5⟩
      clear q2 qb2 hbx2 r3 HRe hM hM2 hrl2 hb4 d0 d1 d2 d3 d4 d5 HQ1 HQ2 hw4 k0 k1 k2 k3 k4 k5 e0 e1 e2 e3 e4 e5
      go_wp2_with fail
      rw [HW4.out]
      refine region_thenG (β := Option Addr × Nat × Nat) (fun z => [(31, .agg #[.int .i64 ji, .bool ju, .int .i64 jt, .bool jb, .int .i64 jk, .slice sa ml sc]), (32, .agg #[.int .i64 ji, .bool ju, .int .i64 jt, .bool jb, .int .i64 jk, .slice ka ml kc]), (33, .bool true), (34, .bool false), (35, .bool false), (36, .int .i64 hc), (37, .int .i64 hc), (38, .bool false), (39, .bool false), (40, .bool false), (41, .pointer (some ⟨p, 0, none⟩)), (42, .int .i64 (i : Int)), (43, .slice z.1 z.2.1 z.2.2), (44, .pointer (some ⟨r, 0, none⟩)), (45, .pointer (some ⟨r, 0, none⟩)), (46, .pointer (some ⟨r, 0, none⟩)), (47, .slice (some ⟨b1, 0, none⟩) n n), (48, .int .i64 (i : Int)), (49, .pointer (some ⟨b1, i, none⟩)), (50, .slice ra rl rc), (51, .bool true), (52, .bool false), (53, .bool false)]) (fun _ w' => Below w4.heap.size w4 w') ?_ ?_
      · refine wp_region_held (S := fun W => Below w4.heap.size w4 W) (by kernel_rfl) ?_
        simp only [List.size_toArray, List.length_cons, List.length_nil, Nat.reduceAdd, Array.replicate_succ, Array.replicate_zero, List.push_toArray, List.nil_append, List.cons_append]
        have hS0 : Below w4.heap.size w4 w4.drew := (Below.refl _ _).drew
        refine takeD (i := 0) (d := 31) (v := .agg #[.int .i64 ji, .bool ju, .int .i64 jt, .bool jb, .int .i64 jk, .slice sa ml sc]) (fuel := 22) rfl rfl (by kernel_rfl) (by kernel_rfl) (by kernel_rfl) (fun _ _ _ h => by cases h.1) (.inl ⟨by kernel_rfl, fun wx h => by obtain ⟨y0, y1, y2, y3, y4, y5⟩ := HJ1.out wx h; go_simp⟩) hS0 ?_
        simp only [List.setIfInBounds_toArray, List.set_cons_succ, List.set_cons_zero]
        refine takeD (i := 1) (d := 32) (v := .agg #[.int .i64 ji, .bool ju, .int .i64 jt, .bool jb, .int .i64 jk, .slice ka ml kc]) (fuel := 21) rfl rfl (by kernel_rfl) (by kernel_rfl) (by kernel_rfl) (fun _ _ _ h => by cases h.1) (.inl ⟨by kernel_rfl, fun wx h => by obtain ⟨y0, y1, y2, y3, y4, y5⟩ := HJ2.out wx h; go_simp⟩) hS0 ?_
        simp only [List.setIfInBounds_toArray, List.set_cons_succ, List.set_cons_zero]
        refine oneC (i := 2) (d := 33) (f := 17) (args := #[.agg #[.int .i64 ji, .bool ju, .int .i64 jt, .bool jb, .int .i64 jk, .slice sa ml sc], .agg #[.int .i64 ji, .bool ju, .int .i64 jt, .bool jb, .int .i64 jk, .slice ka ml kc]]) (v := .bool true) (fuel := 20) rfl rfl (by kernel_rfl) (by kernel_rfl) (fun _ => by kernel_rfl) hS0 (fun wx h => HSM.out wx h) (fun w5 hS5 => ?_)
        simp only [List.setIfInBounds_toArray, List.set_cons_succ, List.set_cons_zero]
        refine takeD (i := 3) (d := 34) (v := .bool false) (fuel := 19) rfl rfl (by kernel_rfl) (by kernel_rfl) (by kernel_rfl) (fun _ _ _ h => by cases h.1) (.inl ⟨by kernel_rfl, fun _ _ => by go_simp⟩) hS5 ?_
        simp only [List.setIfInBounds_toArray, List.set_cons_succ, List.set_cons_zero]
        refine takeD (i := 4) (d := 35) (v := .bool false) (fuel := 18) rfl rfl (by kernel_rfl) (by kernel_rfl) (by kernel_rfl) (fun _ _ _ h => by cases h.1) (.inl ⟨by kernel_rfl, fun _ _ => by go_simp⟩) hS5 ?_
        simp only [List.setIfInBounds_toArray, List.set_cons_succ, List.set_cons_zero]
        refine takeD (i := 5) (d := 36) (v := .int .i64 hc) (fuel := 17) rfl rfl (by kernel_rfl) (by kernel_rfl) (by kernel_rfl) (fun _ _ _ h => by cases h.1) (.inl ⟨by kernel_rfl, fun _ _ => by go_simp⟩) hS5 ?_
        simp only [List.setIfInBounds_toArray, List.set_cons_succ, List.set_cons_zero]
        refine takeD (i := 6) (d := 37) (v := .int .i64 hc) (fuel := 16) rfl rfl (by kernel_rfl) (by kernel_rfl) (by kernel_rfl) (fun _ _ _ h => by cases h.1) (.inl ⟨by kernel_rfl, fun _ _ => by go_simp⟩) hS5 ?_
        simp only [List.setIfInBounds_toArray, List.set_cons_succ, List.set_cons_zero]
        refine takeD (i := 7) (d := 38) (v := .bool false) (fuel := 15) rfl rfl (by kernel_rfl) (by kernel_rfl) (by kernel_rfl) (fun _ _ _ h => by cases h.1) (.inl ⟨by kernel_rfl, fun _ _ => by go_simp⟩) hS5 ?_
        simp only [List.setIfInBounds_toArray, List.set_cons_succ, List.set_cons_zero]
        refine takeD (i := 8) (d := 39) (v := .bool false) (fuel := 14) rfl rfl (by kernel_rfl) (by kernel_rfl) (by kernel_rfl) (fun _ _ _ h => by cases h.1) (.inl ⟨by kernel_rfl, fun _ _ => by go_simp⟩) hS5 ?_
        simp only [List.setIfInBounds_toArray, List.set_cons_succ, List.set_cons_zero]
        refine takeD (i := 9) (d := 40) (v := .bool false) (fuel := 13) rfl rfl (by kernel_rfl) (by kernel_rfl) (by kernel_rfl) (fun _ _ _ h => by cases h.1) (.inl ⟨by kernel_rfl, fun _ _ => by go_simp⟩) hS5 ?_
        simp only [List.setIfInBounds_toArray, List.set_cons_succ, List.set_cons_zero]
        refine takeD (i := 10) (d := 41) (v := .pointer (some ⟨p, 0, none⟩)) (fuel := 12) rfl rfl (by kernel_rfl) (by kernel_rfl) (by kernel_rfl) (fun _ _ _ h => by cases h.1) (.inl ⟨by kernel_rfl, fun _ _ => by go_simp⟩) hS5 ?_
        simp only [List.setIfInBounds_toArray, List.set_cons_succ, List.set_cons_zero]
        refine takeD (i := 11) (d := 42) (v := .int .i64 (i : Int)) (fuel := 11) rfl rfl (by kernel_rfl) (by kernel_rfl) (by kernel_rfl) (fun _ _ _ h => by cases h.1) (.inl ⟨by kernel_rfl, fun _ _ => by go_simp⟩) hS5 ?_
        simp only [List.setIfInBounds_toArray, List.set_cons_succ, List.set_cons_zero]
        refine takeD (i := 13) (d := 44) (v := .pointer (some ⟨r, 0, none⟩)) (fuel := 10) rfl rfl (by kernel_rfl) (by kernel_rfl) (by kernel_rfl) (fun _ _ _ h => by cases h.1) (.inl ⟨by kernel_rfl, fun _ _ => by go_simp⟩) hS5 ?_
        simp only [List.setIfInBounds_toArray, List.set_cons_succ, List.set_cons_zero]
        refine takeD (i := 14) (d := 45) (v := .pointer (some ⟨r, 0, none⟩)) (fuel := 9) rfl rfl (by kernel_rfl) (by kernel_rfl) (by kernel_rfl) (fun _ _ _ h => by cases h.1) (.inl ⟨by kernel_rfl, fun _ _ => by go_simp⟩) hS5 ?_
        simp only [List.setIfInBounds_toArray, List.set_cons_succ, List.set_cons_zero]
        refine takeD (i := 15) (d := 46) (v := .pointer (some ⟨r, 0, none⟩)) (fuel := 8) rfl rfl (by kernel_rfl) (by kernel_rfl) (by kernel_rfl) (fun _ _ _ h => by cases h.1) (.inl ⟨by kernel_rfl, fun _ _ => by go_simp⟩) hS5 ?_
        simp only [List.setIfInBounds_toArray, List.set_cons_succ, List.set_cons_zero]
        refine takeD (i := 16) (d := 47) (v := .slice (some ⟨b1, 0, none⟩) n n) (fuel := 7) rfl rfl (by kernel_rfl) (by kernel_rfl) (by kernel_rfl) (fun _ _ _ h => by cases h.1) (.inl ⟨by kernel_rfl, fun wx h => by have y0 := (HD4.out wx h).1; go_simp⟩) hS5 ?_
        simp only [List.setIfInBounds_toArray, List.set_cons_succ, List.set_cons_zero]
        refine takeD (i := 17) (d := 48) (v := .int .i64 (i : Int)) (fuel := 6) rfl rfl (by kernel_rfl) (by kernel_rfl) (by kernel_rfl) (fun _ _ _ h => by cases h.1) (.inl ⟨by kernel_rfl, fun _ _ => by go_simp⟩) hS5 ?_
        simp only [List.setIfInBounds_toArray, List.set_cons_succ, List.set_cons_zero]
        refine takeD (i := 18) (d := 49) (v := .pointer (some ⟨b1, i, none⟩)) (fuel := 5) rfl rfl (by kernel_rfl) (by kernel_rfl) (by kernel_rfl) (fun _ _ _ h => by cases h.1) (.inl ⟨by kernel_rfl, fun _ _ => by go_simp⟩) hS5 ?_
        simp only [List.setIfInBounds_toArray, List.set_cons_succ, List.set_cons_zero]
        refine takeD (i := 19) (d := 50) (v := .slice ra rl rc) (fuel := 4) rfl rfl (by kernel_rfl) (by kernel_rfl) (by kernel_rfl) (fun _ _ _ h => by cases h.1) (.inl ⟨by kernel_rfl, fun wx h => by have y0 := (HD4.out wx h).2; go_simp⟩) hS5 ?_
        simp only [List.setIfInBounds_toArray, List.set_cons_succ, List.set_cons_zero]
        refine oneX (β := Option Addr × Nat × Nat) (V := fun z => .slice z.1 z.2.1 z.2.2) (R := fun z w' => ∃ A, (∃ S', RJ S' w' (.slice z.1 z.2.1 z.2.2) A) ∧ A.map Prod.fst = s.row i ∧ Below w4.heap.size w4 w') (i := 12) (d := 43) (f := 21) (args := #[.pointer (some ⟨p, 0, none⟩), .int .i64 (i : Int)]) (fuel := 3) rfl rfl (by kernel_rfl) (by kernel_rfl) (fun _ => by kernel_rfl) (Calls.mono (HLi.out _ hS5) (by rintro e w' ⟨la, ln, lc, A, rfl, q1, q2, q3⟩; exact ⟨(la, ln, lc), rfl, A, q1, q2, q3⟩)) (fun z w' h => by obtain ⟨A, _, _, h3⟩ := h; exact h3) (fun z w6 h6 => ?_)
        simp only [List.setIfInBounds_toArray, List.set_cons_succ, List.set_cons_zero]
        obtain ⟨A, hA, hA2, hS6⟩ := h6
        obtain ⟨la, ln, lc⟩ := z
        refine oneX (β := Unit) (V := fun _ => .bool true) (R := fun _ w' => Below w4.heap.size w4 w') (i := 20) (d := 51) (f := 32) (args := #[.slice la ln lc, .slice ra rl rc]) (fuel := 2) rfl rfl (by kernel_rfl) (by kernel_rfl) (fun _ => by kernel_rfl) (Calls.mono (HSA.out _ _ _ _ _ hS6 hA hA2) (by rintro e w' ⟨rfl, q3⟩; exact ⟨(), rfl, q3⟩)) (fun _ w' h => h) (fun _ w7 hS7 => ?_)
        simp only [List.setIfInBounds_toArray, List.set_cons_succ, List.set_cons_zero]
        refine takeD (i := 21) (d := 52) (v := .bool false) (fuel := 1) rfl rfl (by kernel_rfl) (by kernel_rfl) (by kernel_rfl) (fun _ _ _ h => by cases h.1) (.inl ⟨by kernel_rfl, fun _ _ => by go_simp⟩) hS7 ?_
        simp only [List.setIfInBounds_toArray, List.set_cons_succ, List.set_cons_zero]
        refine takeD (i := 22) (d := 53) (v := .bool false) (fuel := 0) rfl rfl (by kernel_rfl) (by kernel_rfl) (by kernel_rfl) (fun _ _ _ h => by cases h.1) (.inl ⟨by kernel_rfl, fun _ _ => by go_simp⟩) hS7 ?_
        simp only [List.setIfInBounds_toArray, List.set_cons_succ, List.set_cons_zero]
        refine wpAnyH_done (by kernel_rfl) ?_ _
        exact ⟨rfl, (la, ln, lc), by kernel_rfl, hS7⟩
      · rintro z w8 hF
        have HF8 : Hid _ := hF
        have HB8 : Hid (Below w.heap.size w w8) := HB4.out.trans (hF.mono HB4.out.size)
        simp only [setAll, List.setIfInBounds_toArray, List.set_cons_succ, List.set_cons_zero]
        clear hF HSA HSM HLi HD4 HJ1 HJ2
        go_wp2_with fail
        go_roundw
        case rel => exact ⟨i + 1, by go_num, by omega, HB8⟩
        case measure => simp [intOf]; omega
    · have hin : i = n := by omega
      subst hin
      have HLn : Hid _ := len_w (HL.out wa HW.out) HI.out
      have HRn : Hid (∀ wx, Below w.heap.size w wx → Calls Try.prog 33 #[.pointer (some ⟨r, 0, none⟩)] wx fun e w' => e = .returned (.int .i64 s.cnt) ∧ w' = wx) := fun wx hb => rlen_w (HR.out wx hb) HI.out
      have HE1 : Hid (∀ wx, Below w.heap.size w wx → Calls Try.prog 21 #[.pointer (some ⟨p, 0, none⟩), .int .i64 (-1)] wx fun e w' => e = .returned (.slice none 0 0) ∧ w' = wx) := fun wx hb => list_err (WErr.out (HL.out wx hb) (.inl (by decide)))
      have HE2 : Hid (∀ wx, Below w.heap.size w wx → Calls Try.prog 21 #[.pointer (some ⟨p, 0, none⟩), .int .i64 (i : Int)] wx fun e w' => e = .returned (.slice none 0 0) ∧ w' = wx) := fun wx hb => list_err (WErr.out (HL.out wx hb) (.inr (Int.le_refl _)))
      have HC1 : Hid (∀ wx, Below w.heap.size w wx → wx.cell? ⟨r, 0, none⟩ = some (.slice (some ⟨b1, 0, none⟩) i i)) := fun wx hb => (HR.out wx hb).c1
      generalize s.cnt = sc at *
      go_wp2_with fail
      refine Calls.mono HLn.out ?_
      rintro e w1 ⟨rfl, hb1⟩
      have HB1 : Hid (Below w.heap.size w w1) := HW.out.trans (hb1.mono HW.out.size)
      have c1 := HC1.out w1 HB1.out
      clear hb1 HLn
      go_wp2_with fail
      refine Calls.mono (HRn.out w1 HB1.out) ?_
      rintro e w2 ⟨rfl, hw2⟩
      rw [hw2]
      clear hw2
      go_wp2_with fail
      refine Calls.mono (HE1.out w1 HB1.out) ?_
      rintro e w3 ⟨rfl, hw3⟩
      rw [hw3]
      clear hw3
      go_wp2_with fail
      refine Calls.mono (HE2.out w1 HB1.out) ?_
      rintro e w4 ⟨rfl, hw4⟩
      rw [hw4]
      clear hw4
      go_wp2_with fail
      go_ret
      exact ⟨rfl, HB1.out⟩
end Go.Proofs.Ytfhmmiilenonkaa
