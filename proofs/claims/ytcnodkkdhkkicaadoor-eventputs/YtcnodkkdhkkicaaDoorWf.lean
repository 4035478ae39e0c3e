/- The walk over wire.Takes. -/
import Derived.Test.YtcnodkkdhkkicaaDoorWe
namespace Go.Proofs.YtcnodkkdhkkicaaDoor
open Go.RowKit
set_option linter.unusedVariables false

/-- Numbers that were taken, and what is taken behind them. -/
def glue (xs : List Nat) (r : List Nat × Nat × Nat) : List Nat × Nat × Nat := if r.2.2 = 0 then (xs ++ r.1, r.2.1, 0) else ([], 0, r.2.2)

theorem glue_nil (l : List UInt8) (c p : Nat) : glue [] (takesP l c p) = takesP l c p := by
  unfold glue
  by_cases h : (takesP l c p).2.2 = 0
  · rw [if_pos h, List.nil_append, ← h]
  · rw [if_neg h]
    obtain ⟨h1, h2⟩ := takes_err c p h
    rw [← h1, ← h2]

theorem glue_step (l : List UInt8) (c p : Nat) (xs : List Nat) (h : (takeP l p).2.2 = 0) : glue xs (takesP l (c + 1) p) = glue (xs ++ [(takeP l p).1]) (takesP l c (takeP l p).2.1) := by
  have e : takesP l (c + 1) p = if (takesP l c (takeP l p).2.1).2.2 = 0 then ((takeP l p).1 :: (takesP l c (takeP l p).2.1).1, (takesP l c (takeP l p).2.1).2.1, 0) else ([], 0, (takesP l c (takeP l p).2.1).2.2) := by
    rw [takesP, if_pos h]
  rw [e]
  by_cases h2 : (takesP l c (takeP l p).2.1).2.2 = 0
  · rw [if_pos h2]
    unfold glue
    rw [if_pos rfl, if_pos h2, List.append_assoc]
    rfl
  · rw [if_neg h2]
    unfold glue
    rw [if_neg h2, if_neg h2]

theorem glue_err (l : List UInt8) (c p : Nat) (xs : List Nat) (h : (takeP l p).2.2 ≠ 0) : glue xs (takesP l (c + 1) p) = ([], 0, (takeP l p).2.2) := by
  rw [takesP, if_neg h]
  unfold glue
  rw [if_neg h]

theorem glue_end (l : List UInt8) (p : Nat) (xs : List Nat) : glue xs (takesP l 0 p) = (xs, p, 0) := by
  unfold glue takesP
  rw [if_pos rfl, List.append_nil]

/-- What Takes answers, at any place. -/
def listI (l : List UInt8) (p : Int) : List Nat × Nat × Nat := if 0 ≤ p ∧ p ≤ (l.length : Int) then listP l p.toNat else ([], 0, 2)

def intL (l : List Nat) : List Int := l.map Int.ofNat
theorem intL_len (l : List Nat) : (intL l).length = l.length := by simp [intL]

theorem set_next (xs : List Nat) (c x : Nat) : (intL xs ++ List.replicate (c + 1) 0).set xs.length (x : Int) = intL (xs ++ [x]) ++ List.replicate c 0 := by
  rw [List.set_append_right _ _ (by rw [intL_len]; exact Nat.le_refl _), intL_len, Nat.sub_self, List.replicate_succ, List.set_cons_zero]
  unfold intL
  rw [List.map_append, List.append_assoc]
  rfl

/-- What a list that was taken is, as a value. -/
def ListC (r : List Nat × Nat × Nat) (B : Nat) (w : World) (e : Ending) (w' : World) : Prop :=
  ∃ v c, e = .returned (.tuple #[.slice v r.1.length c, .int .i64 (r.2.1 : Nat), .int .i64 (r.2.2 : Nat)]) ∧ RI w' (.slice v r.1.length c) (intL r.1) ∧ (∀ a, v = some a → B ≤ a.block) ∧ Below B w w'

set_option maxRecDepth 1000000 in
set_option maxHeartbeats 1000000 in
theorem takes_any (x : Value) (l : List UInt8) (p : Int) (w : World) (hx : RB w x l) (hl : l.length ≤ 100000) :
    Calls Tryd.prog 44 #[x, .int .i64 p] w fun e w' => ListC (listI l p) w.heap.size w e w' := by
  have HX : Hid (RB w x l) := hx
  have HT : Hid _ := takei_any x l p w hx hl
  obtain ⟨xa, xc, rfl, _, _, _, _⟩ := hx
  obtain ⟨R, HR⟩ : ∃ R, Hid (R = listI l p) := ⟨_, rfl⟩
  rw [← HR.out]
  by_cases hp : 0 ≤ p ∧ p ≤ (l.length : Int)
  · obtain ⟨q, rfl⟩ : ∃ q : Nat, p = (q : Int) := ⟨p.toNat, by omega⟩
    have HR1 : Hid (R = listP l q) := by show _ = _; rw [HR.out]; unfold listI; rw [if_pos hp, Int.toNat_natCast]
    have e1 : takeI l (q : Int) = takeP l q := by unfold takeI; rw [if_pos hp, Int.toNat_natCast]
    rw [e1] at HT
    have hq : q ≤ l.length := by omega
    clear HR hp e1
    by_cases he : (takeP l q).2.2 = 0
    · obtain ⟨a1, a2, a3, _⟩ := take_ok hq he
      by_cases hbig : 255 < (takeP l q).1
      · have HR2 : Hid (R = ([], 0, 5)) := by show _ = _; rw [HR1.out]; unfold listP; rw [if_pos he, if_pos hbig]
        unfold firstV at HT
        rw [he] at HT
        clear HR1 he
        generalize (takeP l q).1 = n at *
        generalize (takeP l q).2.1 = sz at *
        go_enter Tryd.func44, Tryd.ntmps44
        go_wp2_with fail
        refine Calls.mono HT.out ?_
        rintro e w1 ⟨rfl, rfl⟩
        go_wp2_with fail
        go_ret3
        rw [HR2.out]
        exact ⟨none, 0, rfl, RI.nil _, (fun _ h => by cases h), Below.refl _ _⟩
      · have HR2 : Hid (R = glue [] (takesP l (takeP l q).1 (takeP l q).2.1)) := by show _ = _; rw [HR1.out, glue_nil]; unfold listP; rw [if_pos he, if_neg hbig]
        unfold firstV at HT
        rw [he] at HT
        clear HR1 he
        generalize (takeP l q).1 = n at *
        generalize (takeP l q).2.1 = sz at *
        obtain ⟨i0, hi0, hz0, hz1, hz2⟩ := info_parts Tryd.info3
        have hmk := run_make (P := Tryd.prog) w 23 3 i0 _ Tryd.underlying23 hi0 hz0 .i64 .i64 (n : Int) (n : Int) (by omega) (by omega) (by rw [hz2]; omega) (by omega)
        simp only [hz1, Int.toNat_natCast, Nat.mul_one] at hmk
        have HRow0 : Hid (RowI (w.alloc (.cells (madeCells #[Value.int .i64 0] n) 3)) w.heap.size (intL [] ++ List.replicate n 0)) := by
          show _ = _
          rw [row_new, made_zero]
          rfl
        have HB0 : Hid (Below w.heap.size w (w.alloc (.cells (madeCells #[Value.int .i64 0] n) 3))) := (Below.refl _ _).alloc (Nat.le_refl _) _
        have HL0 : Hid (w.heap.size < (w.alloc (.cells (madeCells #[Value.int .i64 0] n) 3)).heap.size) := by show _ < _; simp
        go_enter Tryd.func44, Tryd.ntmps44
        go_wp2_with fail
        refine Calls.mono HT.out ?_
        rintro e w1 ⟨rfl, rfl⟩
        clear HT
        go_wp2_with fail
        go_loopw [1, 8, 27] (fun av _ iv wr => ∃ (k m : Nat) (xs : List Nat), k ≤ n ∧ m ≤ l.length ∧ iv = .int .i64 k ∧ av = .int .i64 m ∧ Hid (xs.length = k) ∧ Hid (RowI wr w1.heap.size (intL xs ++ List.replicate (n - k) 0)) ∧ Hid (R = glue xs (takesP l (n - k) m)) ∧ Hid (Below w1.heap.size w1 wr) ∧ Hid (w1.heap.size < wr.heap.size)) (fun _ _ iv _ => n - (intOf iv).toNat)
        case atStart => exact ⟨0, sz, [], Nat.zero_le _, by omega, rfl, rfl, rfl, HRow0, HR2, HB0, HL0⟩
        case round =>
          obtain ⟨k, m, xs, hk, hm, rfl, rfl, HXL, HRow, HRR, HB, HZ⟩ := hrel
          rename World => wr
          clear HRow0 HB0 HL0 hmk HR2
          by_cases hlt : k < n
          · have HT : Hid _ := take_any _ l m wr (HX.out.later HB.out) hm (by omega)
            unfold firstV at HT
            have hnk : n - k = (n - (k + 1)) + 1 := by omega
            by_cases he : (takeP l m).2.2 = 0
            · obtain ⟨b1, b2, b3, _⟩ := take_ok hm he
              have HRR2 : Hid (R = glue (xs ++ [(takeP l m).1]) (takesP l (n - (k + 1)) (takeP l m).2.1)) := by show _ = _; rw [HRR.out, hnk, glue_step _ _ _ _ he]
              rw [he] at HT
              clear he HRR
              generalize (takeP l m).1 = v at *
              generalize (takeP l m).2.1 = m2 at *
              obtain ⟨r1, r2⟩ := HRow.out.get k (by rw [List.length_append, intL_len, HXL.out, List.length_replicate]; omega)
              have HRow2 : Hid (RowI (wr.setCell ⟨w1.heap.size, k, none⟩ (.int .i64 (v : Int))) w1.heap.size (intL (xs ++ [v]) ++ List.replicate (n - (k + 1)) 0)) := by
                show RowI _ _ _
                have := HRow.out.set k (v : Int)
                rw [hnk, ← HXL.out, set_next] at this
                rw [HXL.out] at this
                exact this
              have HB2 : Hid (Below w1.heap.size w1 (wr.setCell ⟨w1.heap.size, k, none⟩ (.int .i64 (v : Int)))) := HB.out.setCell (p := ⟨w1.heap.size, k, none⟩) (Nat.le_refl _) _
              have HZ2 : Hid (w1.heap.size < (wr.setCell ⟨w1.heap.size, k, none⟩ (.int .i64 (v : Int))).heap.size) := by show _ < _; have := HZ.out; simpa using this
              have HXL2 : Hid ((xs ++ [v]).length = k + 1) := by show _ = _; rw [List.length_append, HXL.out]; rfl
              generalize (intL xs ++ List.replicate (n - k) 0).getD k 0 = old at *
              clear hnk HRow
              go_wp2_with fail
              refine Calls.mono HT.out ?_
              rintro e w3 ⟨rfl, rfl⟩
              go_wp2_with fail
              go_roundw
              case rel => exact ⟨k + 1, m2, xs ++ [v], by omega, by omega, by go_num, rfl, HXL2, HRow2, HRR2, HB2, HZ2⟩
              case measure => simp [intOf]; omega
            · have HRR2 : Hid (R = ([], 0, (takeP l m).2.2)) := by show _ = _; rw [HRR.out, hnk, glue_err _ _ _ _ he]
              obtain ⟨b1, b2, b3⟩ := take_err he
              rw [b1, b2] at HT
              obtain ⟨r1, r2⟩ := HRow.out.get k (by rw [List.length_append, intL_len, HXL.out, List.length_replicate]; omega)
              have HB2 : Hid (Below w1.heap.size w1 (wr.setCell ⟨w1.heap.size, k, none⟩ (.int .i64 0))) := HB.out.setCell (p := ⟨w1.heap.size, k, none⟩) (Nat.le_refl _) _
              generalize (intL xs ++ List.replicate (n - k) 0).getD k 0 = old at *
              clear b1 b2 HRR hnk HRow
              generalize (takeP l m).2.2 = er at *
              go_wp2_with fail
              refine Calls.mono HT.out ?_
              rintro e w3 ⟨rfl, rfl⟩
              go_wp2_with fail
              go_ret3
              rw [HRR2.out]
              exact ⟨none, 0, rfl, RI.nil _, (fun _ h => by cases h), HB2.out⟩
          · have hkn : k = n := by omega
            have HRR2 : Hid (R = (xs, m, 0)) := by show _ = _; rw [HRR.out, hkn, Nat.sub_self, glue_end]
            have HXN : Hid (xs.length = n) := by show _ = _; rw [HXL.out, hkn]
            have HRI : Hid (RI wr (.slice (some ⟨w1.heap.size, 0, none⟩) n n) (intL xs)) := by
              have h1 := HRow.out
              rw [hkn, Nat.sub_self, List.replicate_zero, List.append_nil] at h1
              have h2 := RowI.ri h1 (by rw [intL_len, HXN.out]; omega)
              rw [intL_len, HXN.out] at h2
              exact h2
            clear HRR HRow hkn
            go_wp2_with fail
            go_ret3
            rw [HRR2.out]
            refine ⟨some ⟨w1.heap.size, 0, none⟩, n, ?_, ?_, (fun a h => by cases h; exact Nat.le_refl _), HB.out⟩
            · rw [show ((xs, m, 0) : List Nat × Nat × Nat).1.length = n from HXN.out]
              rfl
            · rw [show ((xs, m, 0) : List Nat × Nat × Nat).1.length = n from HXN.out]
              exact HRI.out
    · have HR2 : Hid (R = ([], 0, (takeP l q).2.2)) := by show _ = _; rw [HR1.out]; unfold listP; rw [if_neg he]
      unfold firstV at HT
      clear HR1
      generalize (takeP l q).1 = n at *
      generalize (takeP l q).2.1 = sz at *
      generalize (takeP l q).2.2 = er at *
      go_enter Tryd.func44, Tryd.ntmps44
      go_wp2_with fail
      refine Calls.mono HT.out ?_
      rintro e w1 ⟨rfl, rfl⟩
      go_wp2_with fail
      go_ret3
      rw [HR2.out]
      exact ⟨none, 0, rfl, RI.nil _, (fun _ h => by cases h), Below.refl _ _⟩
  · have HR2 : Hid (R = ([], 0, 2)) := by show _ = _; rw [HR.out]; unfold listI; rw [if_neg hp]
    have e1 : takeI l p = (0, 0, 2) := by unfold takeI; rw [if_neg hp]
    rw [e1] at HT
    unfold firstV at HT
    clear HR e1
    go_enter Tryd.func44, Tryd.ntmps44
    go_wp2_with fail
    refine Calls.mono HT.out ?_
    rintro e w1 ⟨rfl, rfl⟩
    go_wp2_with fail
    go_ret3
    rw [HR2.out]
    exact ⟨none, 0, rfl, RI.nil _, (fun _ h => by cases h), Below.refl _ _⟩
end Go.Proofs.YtcnodkkdhkkicaaDoor
