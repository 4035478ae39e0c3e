/- The walk over the iterator of parted. -/
import Derived.Test.YtamfpmpooaejkaaNe
namespace Go.Proofs.Ytamfpmpooaejkaa
open Go.RowKit Go.Shelf
set_option maxRecDepth 1000000
set_option linter.unusedVariables false
attribute [local go_sem] Oper.semAt_some

/-- What is known while a list is parted. -/
structure PSt (B n : Nat) (w0 : World) (J : Nat → World → (Nat → Prop) → Prop) (T : Nat → Prop) (k : Nat) (had : List Nat) (Wr : World) : Prop where
  j : J k Wr T
  row : RowI Wr B (hadZ had)
  len : had.length = n
  le : ∀ i, had.getD i 0 ≤ k
  tB : T B
  low : w0.heap.size ≤ B
  bel : Below w0.heap.size w0 Wr
  own : ∀ b, T b → b < Wr.heap.size

section
variable {B n : Nat} {w0 : World} {J : Nat → World → (Nat → Prop) → Prop} {T : Nat → Prop} {k : Nat} {had : List Nat} {Wr W' : World}
theorem PSt.below (h : PSt B n w0 J T k had Wr) (hJ : ∀ k A TA B TB, J k A TA → Mv TA A TB B → J k B TB) (hb : Below Wr.heap.size Wr W') : PSt B n w0 J T k had W' :=
  ⟨hJ _ _ _ _ _ h.j (Mv.of_below hb), h.row.below hb, h.len, h.le, h.tB, h.low, h.bel.trans (hb.mono h.bel.size), fun b hb2 => Nat.lt_of_lt_of_le (h.own b hb2) hb.size⟩
theorem PSt.next (h : PSt B n w0 J T k had Wr) (hJ : ∀ k A TA B TB, J k A TA → Mv TA A TB B → J k B TB) (hj : J (k + 1) W' T) (hr : Rv w0.heap.size T Wr W') (i : Nat) (hi : i < n) : PSt B n w0 J T (k + 1) (Mg.bump had i) (W'.setCell ⟨B, i, none⟩ (.int .i64 ((hadZ had).getD i 0 + 1))) := by
  have hrow := (show RowI W' B (hadZ had) from (hr.keep B h.tB (h.own B h.tB)).trans h.row).set i ((hadZ had).getD i 0 + 1)
  rw [hadZ_bump] at hrow
  refine ⟨hJ _ _ _ _ _ hj (Mv.setCell _ _ h.tB), hrow, by rw [Mg.bump_len]; exact h.len, fun j => ?_, h.tB, h.low, (h.bel.trans hr.below).setCell (p := ⟨B, i, none⟩) h.low _, fun b hb => by have := h.own b hb; have := hr.size; simp; omega⟩
  rw [Mg.bump_get _ _ _ (by rw [h.len]; exact hi)]
  have := h.le j
  split <;> omega
end

theorem own_at {had : List Nat} {s : List Int} {i : Nat} (h : decide (Mg.Nx had s i) = true) : Mg.own had s = some i := Mg.own_some.2 (of_decide_eq_true h)
theorem own_no {had : List Nat} {s : List Int} {n : Nat} (hn : had.length = n) (h : ∀ j, j < n → decide (Mg.Nx had s j) = false) : Mg.own had s = none := Mg.own_none.2 (fun i hi => by
  have := h i (by rw [← hn]; exact hi.2.1)
  exact of_decide_eq_false this hi)

set_option maxHeartbeats 8000000 in
theorem parted_itr (An Ah n : Nat) (hv : Value) (Hs : List EvP) (w0 : World) (hh : REv w0 hv Hs) (hL1 : 1 ≤ n) (hL : n ≤ 64) (hHs : Hs.length ≤ 1000000)
    (T : Nat → Prop) (w : World) (hbl : Below w0.heap.size w0 w) (bn : Boxed w An 3 (.int .i64 (n : Int))) (bh : Boxed w Ah 25 hv) (hown : ∀ b, T b → w0.heap.size ≤ b ∧ b < w.heap.size) :
    Itr Try.prog 39 #[.pointer (some ⟨An, 0, none⟩), .pointer (some ⟨Ah, 0, none⟩)] encM (pt stE (List.replicate n 0) Hs) w0.heap.size T w := by
  intro l J Jx W hW hJ hJx hY hJ0
  have hzW := hW.size
  have hz0 := hbl.size
  have HJ : Hid _ := hJ
  have HY : Hid _ := hY
  have HB0 : Hid (Below w0.heap.size w0 W) := hbl.trans (hW.mono hz0)
  have c1' : Boxed W An 3 (.int .i64 (n : Int)) := (hW.block An bn.lt).trans bn
  have c1 := c1'.cell
  have c2 : Boxed W Ah 25 hv := (hW.block Ah bh.lt).trans bh
  obtain ⟨xs, HX⟩ : ∃ xs, Hid (xs = pt stE (List.replicate n 0) Hs) := ⟨_, rfl⟩
  rw [← HX.out] at HY ⊢
  obtain ⟨R, HR⟩ : ∃ R : Ending → World → Prop, Hid (R = fun e W2 => ∃ v T2, e = .returned v ∧ (J xs.length W2 T2 ∨ ∃ k, k < xs.length ∧ Jx (k + 1) W2 T2) ∧ (∀ b, b < W.heap.size → (T2 b ↔ T b)) ∧ (∀ b, T2 b → b < W2.heap.size)) := ⟨_, rfl⟩
  rw [← HR.out]
  obtain ⟨m, HM⟩ : ∃ m, Hid (Hs.length = m) := ⟨_, rfl⟩
  obtain ⟨ha, hc, rfl, q1, q2, hcs⟩ := hh
  have HCS : Hid _ := hcs
  rw [HM.out] at c2 hHs q1
  obtain ⟨C, HC, hmk⟩ := make_ints n hL
  have q3 : RowI (W.alloc (.cells C 3)) W.heap.size (hadZ (List.replicate n 0)) := by
    unfold RowI
    rw [row_new, hadZ_zero, HC.out]
  have hB1 : Below W.heap.size W (W.alloc (.cells C 3)) := (Below.refl _ _).alloc (Nat.le_refl _) _
  obtain ⟨T1, hT1⟩ : ∃ T1 : Nat → Prop, T1 = fun b => T b ∨ b = W.heap.size := ⟨_, rfl⟩
  have HT1 : Hid (∀ b, b < W.heap.size → (T1 b ↔ T b)) := fun b hb => by rw [hT1]; exact ⟨fun h => h.resolve_right (by omega), .inl⟩
  have H0 : Hid (PSt W.heap.size n w0 J T1 0 (List.replicate n 0) (W.alloc (.cells C 3))) := by
    rw [hT1]
    exact ⟨hJ _ _ _ _ _ hJ0 (Mv.alloc _ _ _), q3, by simp, fun i => by rw [Mg.zero_get]; omega, .inr rfl, by omega, HB0.out.trans (hB1.mono HB0.out.size), fun b hb => by
      rcases hb with hb | hb
      · have := (hown b hb).2; simp; omega
      · simp; omega⟩
  have c3 := (c2.alloc (.cells C 3)).cell
  clear hJ hJx hY hJ0 hW hbl bn bh hown q3 hB1 c2 hcs
  refine callsIn_of_wp Try.func39 rfl trivial ?_ rfl
  simp only [Try.ntmps39, List.size_toArray, List.length_cons, List.length_nil, Nat.reduceAdd, Nat.reduceSub, Array.replicate_succ, Array.replicate_zero, List.push_toArray, List.append_toArray, List.nil_append, List.cons_append]
  refine wpIn_wide.2 (wp_scope_straight ((wpIn_wide (n := 0)).1 ?_))
  refine wpIn_seq_k fun K1 hK1 => ?_
  gi_wp2
  refine wpIn_label ?_
  rename_i hK2
  refine hK2 _ _ ?_
  clear hK2 hmk c1
  clear hT1
  obtain ⟨B, hBe⟩ : ∃ B, B = W.heap.size := ⟨_, rfl⟩
  rw [← hBe] at H0 ⊢
  obtain ⟨W1, hW1⟩ : ∃ W1, W1 = W.alloc (.cells C 3) := ⟨_, rfl⟩
  rw [← hW1] at H0 c3 ⊢
  clear hW1 hBe HC
  gi_wp2
  clear c3
  gi_loopw [12] (fun iv wr => ∃ (k : Nat) (had : List Nat), iv = .int .i64 k ∧ k ≤ m ∧ Hid (PSt B n w0 J T1 k had wr) ∧ Hid (xs.drop k = pt stE had (Hs.drop k) ∧ k ≤ xs.length)) (fun iv _ => m - (intOf iv).toNat)
  case atStart => exact ⟨0, List.replicate n 0, rfl, Nat.zero_le _, H0, HX.out, Nat.zero_le _⟩
  case round =>
    obtain ⟨k, had, rfl, hk, HP, HD⟩ := hrel
    rename World => wr
    by_cases hlt : k < m
    · obtain ⟨p, hp⟩ : ∃ p, Hs[k]? = some p := ⟨_, List.getElem?_eq_getElem (by rw [HM.out]; exact hlt)⟩
      have hdd : Hs.drop k = p :: Hs.drop (k + 1) := by
        obtain ⟨h1, h2⟩ := List.getElem?_eq_some_iff.1 hp
        rw [List.drop_eq_getElem_cons h1, h2]
      obtain ⟨eb, eo, rfl, e0, e1, e2, e3, e4⟩ := HCS.out k p hp
      have d0 := cell_later HP.out.bel e0
      have d1 := cell_later HP.out.bel e1
      have d2 := cell_later HP.out.bel e2
      have d3 := cell_later HP.out.bel e3
      obtain ⟨e, sv⟩ := p
      dsimp only at *
      have HS : Hid (RI w0 sv e.s) := e4
      have HDD : Hid (xs.drop k = pt stE had ((e, sv) :: Hs.drop (k + 1)) ∧ k ≤ xs.length) := by rw [← hdd]; exact HD.out
      obtain ⟨sa, sc, rfl⟩ : ∃ sa sc, sv = .slice sa e.s.length sc := by obtain ⟨a, c, h, _⟩ := HS.out; exact ⟨a, c, h⟩
      have hBa : Below wr.heap.size wr (wr.alloc (.cells #[.int .i64 e.k, .int .i64 e.i, .int .i64 e.t, .slice sa e.s.length sc] 45)) := (Below.refl _ _).alloc (Nat.le_refl _) _
      have HBX : Hid (Box (wr.alloc (.cells #[.int .i64 e.k, .int .i64 e.i, .int .i64 e.t, .slice sa e.s.length sc] 45)) wr.heap.size e.k e.i e.t (.slice sa e.s.length sc)) := Box.new wr e.k e.i e.t (.slice sa e.s.length sc)
      have HP1 : Hid (PSt B n w0 J T1 k had (wr.alloc (.cells #[.int .i64 e.k, .int .i64 e.i, .int .i64 e.t, .slice sa e.s.length sc] 45))) := HP.out.below HJ.out hBa
      clear e0 e1 e2 e3 e4 hBa HP HD hp hdd
      gi_wp2
      clear d0 d1 d2 d3
      generalize wr.alloc (.cells #[.int .i64 e.k, .int .i64 e.i, .int .i64 e.t, .slice sa e.s.length sc] 45) = w1 at *
      generalize wr.heap.size = b6 at *
      have HBX : Hid (Box w1 b6 e.k e.i e.t (.slice sa e.s.length sc)) := HBX.out
      have HP1 : Hid (PSt B n w0 J T1 k had w1) := HP1.out
      gi_loopw [18] (fun iv wr => ∃ (i : Nat), iv = .int .i64 i ∧ i ≤ n ∧ Hid (PSt B n w0 J T1 k had wr) ∧ Hid (Box wr b6 e.k e.i e.t (.slice sa e.s.length sc)) ∧ Hid (∀ j, j < i → decide (Mg.Nx had e.s j) = false)) (fun iv _ => n - (intOf iv).toNat)
      case atStart => exact ⟨0, rfl, Nat.zero_le _, HP1, HBX, fun j hj => by omega⟩
      case round =>
        obtain ⟨i, rfl, hi, HP, HB6, HNO⟩ := hrel
        rename World => w2
        by_cases hin : i < n
        · have HWR : Hid (RI w2 (.slice (some ⟨B, 0, none⟩) n n) (hadZ had)) := by
            have := HP.out.row.ri (by rw [hadZ_len, HP.out.len]; omega)
            rw [hadZ_len, HP.out.len] at this
            exact this
          have HNX : Hid _ := isNext_any _ _ had e i w2 HWR.out (HS.out.later HP.out.bel) (by rw [HP.out.len]; exact hin) (by have := HP.out.le i; omega) (by rw [HP.out.len]; exact hL)
          unfold EvV at HNX
          have c0 := HB6.out.c0
          have c1 := HB6.out.c1
          have c2 := HB6.out.c2
          have c3 := HB6.out.c3
          have HEV : Hid (∀ t : Bool, decide (Mg.Nx had e.s i) = t → decide (Mg.Nx had e.s i) = t) := fun t h => h
          have HOW : Hid (decide (Mg.Nx had e.s i) = true → Mg.own had e.s = some i) := own_at
          obtain ⟨q, hq⟩ : ∃ q, decide (Mg.Nx had e.s i) = q := ⟨_, rfl⟩
          rw [hq] at HNX HOW
          have HQ : Hid _ := hq
          clear hq
          gi_wp2
          refine ⟨trivial, rfl, (callsIn_wide.2 HNX.out).mono ?_⟩
          rintro x w3 ⟨rfl, hb3⟩
          have HP3 : Hid (PSt B n w0 J T1 k had w3) := HP.out.below HJ.out hb3
          have HB3 : Hid (Box w3 b6 e.k e.i e.t (.slice sa e.s.length sc)) := HB6.out.later hb3
          clear hb3 c0 c1 c2 c3 HNX HWR HP HB6
          cases q with
          | false =>
            gi_wp2
            go_roundw
            case rel => exact ⟨i + 1, by go_num, by omega, HP3, HB3, fun j hj => by
              by_cases hji : j = i
              · subst hji; exact HQ.out
              · exact HNO.out j (by omega)⟩
            case measure => simp [intOf]; omega
          | true =>
            have HDR : Hid (xs.drop k = (i, (e, .slice sa e.s.length sc)) :: pt stE (Mg.bump had i) (Hs.drop (k + 1))) := by
              show _ = _
              have h1 := HDD.out.1
              rw [pt, show stE (e, Value.slice sa e.s.length sc) = e.s from rfl, HOW.out rfl] at h1
              exact h1
            obtain ⟨hx1, hx2, hx3⟩ := getElem_of_drop HDR.out
            have HX3 : Hid _ := hx3
            have HX2 : Hid (xs.drop (k + 1) = pt stE (Mg.bump had i) (Hs.drop (k + 1)) ∧ k + 1 ≤ xs.length) := ⟨hx2, hx3⟩
            obtain ⟨fnn, tms, asg, bdy, hy, hR⟩ := HY.out k _ #[.int .i64 (i : Nat), EvV e (.slice sa e.s.length sc)] w3.heap.size w3 T1 hx1 rfl ⟨w3, T1, HP3.out.j, rfl, Mv.refl _ _⟩ HP3.out.j HP3.out.own 0
            unfold EvV at hy
            have c0 := HB3.out.c0
            have c1 := HB3.out.c1
            have c2 := HB3.out.c2
            have c3 := HB3.out.c3
            clear hx1 hx2 hx3 HDR HEV HNO HOW
            gi_wp2
            refine ⟨rfl, hR.mono ?_⟩
            rintro x W4 ⟨t, rfl, ht1, ht2⟩
            clear c0 c1 c2 c3 hy hR
            cases t with
            | true =>
              obtain ⟨hj4, hr4⟩ := ht1 rfl
              have hrow : RowI W4 B (hadZ had) := (hr4.keep B HP3.out.tB (HP3.out.own B HP3.out.tB)).trans HP3.out.row
              obtain ⟨cR, fR⟩ := hrow.get i (by rw [hadZ_len, HP3.out.len]; exact hin)
              have HP5 : Hid (PSt B n w0 J T1 (k + 1) (Mg.bump had i) (W4.setCell ⟨B, i, none⟩ (.int .i64 ((hadZ had).getD i 0 + 1)))) := HP3.out.next HJ.out hj4 hr4 i hin
              have hsm : (hadZ had).getD i 0 ≤ 1000000 ∧ 0 ≤ (hadZ had).getD i 0 := by rw [hadZ_get]; have := HP3.out.le i; omega
              clear ht1 ht2 hj4 hr4 HP3 hrow
              generalize (hadZ had).getD i 0 = z at *
              gi_wp2
              go_roundw
              case rel => exact ⟨k + 1, Mg.bump had i, by go_num, by omega, HP5, HX2⟩
              case measure => simp [intOf]; omega
            | false =>
              obtain ⟨hj4, hr4⟩ := ht2 rfl
              have HJ4 : Hid _ := hj4
              have HO4 : Hid (∀ b, T1 b → b < W4.heap.size) := fun b hb => Nat.lt_of_lt_of_le (HP3.out.own b hb) hr4.size
              clear ht1 ht2 hj4 hr4 HP3
              gi_wp2
              simp only [Exit.noGoto]
              refine bodyPost_ret (results_none rfl _ _) rfl ?_
              rw [HR.out]
              exact ⟨_, T1, rfl, .inr ⟨k, HX3.out, HJ4.out⟩, HT1.out, HO4.out⟩
        · have HK : Hid (k = xs.length) := by
            have h1 := HDD.out.1
            rw [pt, show stE (e, Value.slice sa e.s.length sc) = e.s from rfl, own_no HP.out.len (fun j hj => HNO.out j (by omega))] at h1
            exact drop_end h1 HDD.out.2
          have HPx : Hid (J xs.length w2 T1) := by rw [← HK.out]; exact HP.out.j
          gi_wp2
          simp only [Exit.noGoto]
          refine bodyPost_ret (results_none rfl _ _) rfl ?_
          rw [HR.out]
          exact ⟨_, T1, rfl, .inl HPx.out, HT1.out, HP.out.own⟩
    · have HK : Hid (k = xs.length) := by
        have h1 := HD.out.1
        rw [show Hs.drop k = [] from List.drop_eq_nil_of_le (by rw [HM.out]; omega)] at h1
        exact drop_end h1 HD.out.2
      have HPx : Hid (J xs.length wr T1) := by rw [← HK.out]; exact HP.out.j
      gi_wp2
      simp only [Exit.noGoto]
      refine bodyPost_ret (results_none rfl _ _) rfl ?_
      rw [HR.out]
      exact ⟨_, T1, rfl, .inl HPx.out, HT1.out, HP.out.own⟩
end Go.Proofs.Ytamfpmpooaejkaa
