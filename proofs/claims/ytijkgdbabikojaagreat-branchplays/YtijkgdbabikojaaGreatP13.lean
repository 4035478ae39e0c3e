/- Texts of the seat, packed: Wf Wi Sa Sg. -/
import Derived.Test.YtijkgdbabikojaaGreatP12
/- The walk over wire.Takes. -/
namespace Go.Proofs.YtijkgdbabikojaaGreat
set_option maxRecDepth 1000000
open Go.RowKit
set_option linter.unusedVariables false

/-- Numbers that were taken, and what is taken behind them. -/
def glue (xs : List Nat) (r : List Nat × Nat × Nat) : List Nat × Nat × Nat := if r.2.2 = 0 then (xs ++ r.1, r.2.1, 0) else ([], 0, r.2.2)

theorem glue_nil (l : List UInt8) (c p : Nat) : glue [] (takesP l c p) = takesP l c p := by
  unfold glue
  by_cases h : (takesP l c p).2.2 = 0
  · rw [if_pos h, List.nil_append, ← h]
  · rw [if_neg h]
    obtain ⟨h1, h2⟩ := takes_err c p h
    rw [← h1, ← h2]

theorem glue_step (l : List UInt8) (c p : Nat) (xs : List Nat) (h : (takeP l p).2.2 = 0) : glue xs (takesP l (c + 1) p) = glue (xs ++ [(takeP l p).1]) (takesP l c (takeP l p).2.1) := by
  have e : takesP l (c + 1) p = if (takesP l c (takeP l p).2.1).2.2 = 0 then ((takeP l p).1 :: (takesP l c (takeP l p).2.1).1, (takesP l c (takeP l p).2.1).2.1, 0) else ([], 0, (takesP l c (takeP l p).2.1).2.2) := by
    rw [takesP, if_pos h]
  rw [e]
  by_cases h2 : (takesP l c (takeP l p).2.1).2.2 = 0
  · rw [if_pos h2]
    unfold glue
    rw [if_pos rfl, if_pos h2, List.append_assoc]
    rfl
  · rw [if_neg h2]
    unfold glue
    rw [if_neg h2, if_neg h2]

theorem glue_err (l : List UInt8) (c p : Nat) (xs : List Nat) (h : (takeP l p).2.2 ≠ 0) : glue xs (takesP l (c + 1) p) = ([], 0, (takeP l p).2.2) := by
  rw [takesP, if_neg h]
  unfold glue
  rw [if_neg h]

theorem glue_end (l : List UInt8) (p : Nat) (xs : List Nat) : glue xs (takesP l 0 p) = (xs, p, 0) := by
  unfold glue takesP
  rw [if_pos rfl, List.append_nil]

/-- What Takes answers, at any place. -/
def listI (l : List UInt8) (p : Int) : List Nat × Nat × Nat := if 0 ≤ p ∧ p ≤ (l.length : Int) then listP l p.toNat else ([], 0, 2)

def intL (l : List Nat) : List Int := l.map Int.ofNat
theorem intL_len (l : List Nat) : (intL l).length = l.length := by simp [intL]

theorem set_next (xs : List Nat) (c x : Nat) : (intL xs ++ List.replicate (c + 1) 0).set xs.length (x : Int) = intL (xs ++ [x]) ++ List.replicate c 0 := by
  rw [List.set_append_right _ _ (by rw [intL_len]; exact Nat.le_refl _), intL_len, Nat.sub_self, List.replicate_succ, List.set_cons_zero]
  unfold intL
  rw [List.map_append, List.append_assoc]
  rfl

/-- What a list that was taken is, as a value. -/
def ListC (r : List Nat × Nat × Nat) (B : Nat) (w : World) (e : Ending) (w' : World) : Prop :=
  ∃ v c, e = .returned (.tuple #[.slice v r.1.length c, .int .i64 (r.2.1 : Nat), .int .i64 (r.2.2 : Nat)]) ∧ RI w' (.slice v r.1.length c) (intL r.1) ∧ (∀ a, v = some a → B ≤ a.block) ∧ Below B w w'

set_option maxRecDepth 1000000 in
set_option maxHeartbeats 1000000 in
theorem takes_any (x : Value) (l : List UInt8) (p : Int) (w : World) (hx : RB w x l) (hl : l.length ≤ 100000) :
    Calls Tryz.prog 124 #[x, .int .i64 p] w fun e w' => ListC (listI l p) w.heap.size w e w' := by
  have HX : Hid (RB w x l) := hx
  have HT : Hid _ := takei_any x l p w hx hl
  obtain ⟨xa, xc, rfl, _, _, _, _⟩ := hx
  obtain ⟨R, HR⟩ : ∃ R, Hid (R = listI l p) := ⟨_, rfl⟩
  rw [← HR.out]
  by_cases hp : 0 ≤ p ∧ p ≤ (l.length : Int)
  · obtain ⟨q, rfl⟩ : ∃ q : Nat, p = (q : Int) := ⟨p.toNat, by omega⟩
    have HR1 : Hid (R = listP l q) := by show _ = _; rw [HR.out]; unfold listI; rw [if_pos hp, Int.toNat_natCast]
    have e1 : takeI l (q : Int) = takeP l q := by unfold takeI; rw [if_pos hp, Int.toNat_natCast]
    rw [e1] at HT
    have hq : q ≤ l.length := by omega
    clear HR hp e1
    by_cases he : (takeP l q).2.2 = 0
    · obtain ⟨a1, a2, a3, _⟩ := take_ok hq he
      by_cases hbig : 255 < (takeP l q).1
      · have HR2 : Hid (R = ([], 0, 5)) := by show _ = _; rw [HR1.out]; unfold listP; rw [if_pos he, if_pos hbig]
        unfold firstV at HT
        rw [he] at HT
        clear HR1 he
        generalize (takeP l q).1 = n at *
        generalize (takeP l q).2.1 = sz at *
        go_enter Tryz.func124, Tryz.ntmps124
        go_wp2_with fail
        refine Calls.mono HT.out ?_
        rintro e w1 ⟨rfl, rfl⟩
        go_wp2_with fail
        go_ret3
        rw [HR2.out]
        exact ⟨none, 0, rfl, RI.nil _, (fun _ h => by cases h), Below.refl _ _⟩
      · have HR2 : Hid (R = glue [] (takesP l (takeP l q).1 (takeP l q).2.1)) := by show _ = _; rw [HR1.out, glue_nil]; unfold listP; rw [if_pos he, if_neg hbig]
        unfold firstV at HT
        rw [he] at HT
        clear HR1 he
        generalize (takeP l q).1 = n at *
        generalize (takeP l q).2.1 = sz at *
        obtain ⟨i0, hi0, hz0, hz1, hz2⟩ := info_parts Tryz.info3
        have hmk := run_make (P := Tryz.prog) w 31 3 i0 _ Tryz.underlying31 hi0 hz0 .i64 .i64 (n : Int) (n : Int) (by omega) (by omega) (by rw [hz2]; omega) (by omega)
        simp only [hz1, Int.toNat_natCast, Nat.mul_one] at hmk
        have HRow0 : Hid (RowI (w.alloc (.cells (madeCells #[Value.int .i64 0] n) 3)) w.heap.size (intL [] ++ List.replicate n 0)) := by
          show _ = _
          rw [row_new, made_zero]
          rfl
        have HB0 : Hid (Below w.heap.size w (w.alloc (.cells (madeCells #[Value.int .i64 0] n) 3))) := (Below.refl _ _).alloc (Nat.le_refl _) _
        have HL0 : Hid (w.heap.size < (w.alloc (.cells (madeCells #[Value.int .i64 0] n) 3)).heap.size) := by show _ < _; simp
        go_enter Tryz.func124, Tryz.ntmps124
        go_wp2_with fail
        refine Calls.mono HT.out ?_
        rintro e w1 ⟨rfl, rfl⟩
        clear HT
        go_wp2_with fail
        go_loopw [1, 8, 27] (fun av _ iv wr => ∃ (k m : Nat) (xs : List Nat), k ≤ n ∧ m ≤ l.length ∧ iv = .int .i64 k ∧ av = .int .i64 m ∧ Hid (xs.length = k) ∧ Hid (RowI wr w1.heap.size (intL xs ++ List.replicate (n - k) 0)) ∧ Hid (R = glue xs (takesP l (n - k) m)) ∧ Hid (Below w1.heap.size w1 wr) ∧ Hid (w1.heap.size < wr.heap.size)) (fun _ _ iv _ => n - (intOf iv).toNat)
        case atStart => exact ⟨0, sz, [], Nat.zero_le _, by omega, rfl, rfl, rfl, HRow0, HR2, HB0, HL0⟩
        case round =>
          obtain ⟨k, m, xs, hk, hm, rfl, rfl, HXL, HRow, HRR, HB, HZ⟩ := hrel
          rename World => wr
          clear HRow0 HB0 HL0 hmk HR2
          by_cases hlt : k < n
          · have HT : Hid _ := take_any _ l m wr (HX.out.later HB.out) hm (by omega)
            unfold firstV at HT
            have hnk : n - k = (n - (k + 1)) + 1 := by omega
            by_cases he : (takeP l m).2.2 = 0
            · obtain ⟨b1, b2, b3, _⟩ := take_ok hm he
              have HRR2 : Hid (R = glue (xs ++ [(takeP l m).1]) (takesP l (n - (k + 1)) (takeP l m).2.1)) := by show _ = _; rw [HRR.out, hnk, glue_step _ _ _ _ he]
              rw [he] at HT
              clear he HRR
              generalize (takeP l m).1 = v at *
              generalize (takeP l m).2.1 = m2 at *
              obtain ⟨r1, r2⟩ := HRow.out.get k (by rw [List.length_append, intL_len, HXL.out, List.length_replicate]; omega)
              have HRow2 : Hid (RowI (wr.setCell ⟨w1.heap.size, k, none⟩ (.int .i64 (v : Int))) w1.heap.size (intL (xs ++ [v]) ++ List.replicate (n - (k + 1)) 0)) := by
                show RowI _ _ _
                have := HRow.out.set k (v : Int)
                rw [hnk, ← HXL.out, set_next] at this
                rw [HXL.out] at this
                exact this
              have HB2 : Hid (Below w1.heap.size w1 (wr.setCell ⟨w1.heap.size, k, none⟩ (.int .i64 (v : Int)))) := HB.out.setCell (p := ⟨w1.heap.size, k, none⟩) (Nat.le_refl _) _
              have HZ2 : Hid (w1.heap.size < (wr.setCell ⟨w1.heap.size, k, none⟩ (.int .i64 (v : Int))).heap.size) := by show _ < _; have := HZ.out; simpa using this
              have HXL2 : Hid ((xs ++ [v]).length = k + 1) := by show _ = _; rw [List.length_append, HXL.out]; rfl
              generalize (intL xs ++ List.replicate (n - k) 0).getD k 0 = old at *
              clear hnk HRow
              go_wp2_with fail
              refine Calls.mono HT.out ?_
              rintro e w3 ⟨rfl, rfl⟩
              go_wp2_with fail
              go_roundw
              case rel => exact ⟨k + 1, m2, xs ++ [v], by omega, by omega, by go_num, rfl, HXL2, HRow2, HRR2, HB2, HZ2⟩
              case measure => simp [intOf]; omega
            · have HRR2 : Hid (R = ([], 0, (takeP l m).2.2)) := by show _ = _; rw [HRR.out, hnk, glue_err _ _ _ _ he]
              obtain ⟨b1, b2, b3⟩ := take_err he
              rw [b1, b2] at HT
              obtain ⟨r1, r2⟩ := HRow.out.get k (by rw [List.length_append, intL_len, HXL.out, List.length_replicate]; omega)
              have HB2 : Hid (Below w1.heap.size w1 (wr.setCell ⟨w1.heap.size, k, none⟩ (.int .i64 0))) := HB.out.setCell (p := ⟨w1.heap.size, k, none⟩) (Nat.le_refl _) _
              generalize (intL xs ++ List.replicate (n - k) 0).getD k 0 = old at *
              clear b1 b2 HRR hnk HRow
              generalize (takeP l m).2.2 = er at *
              go_wp2_with fail
              refine Calls.mono HT.out ?_
              rintro e w3 ⟨rfl, rfl⟩
              go_wp2_with fail
              go_ret3
              rw [HRR2.out]
              exact ⟨none, 0, rfl, RI.nil _, (fun _ h => by cases h), HB2.out⟩
          · have hkn : k = n := by omega
            have HRR2 : Hid (R = (xs, m, 0)) := by show _ = _; rw [HRR.out, hkn, Nat.sub_self, glue_end]
            have HXN : Hid (xs.length = n) := by show _ = _; rw [HXL.out, hkn]
            have HRI : Hid (RI wr (.slice (some ⟨w1.heap.size, 0, none⟩) n n) (intL xs)) := by
              have h1 := HRow.out
              rw [hkn, Nat.sub_self, List.replicate_zero, List.append_nil] at h1
              have h2 := RowI.ri h1 (by rw [intL_len, HXN.out]; omega)
              rw [intL_len, HXN.out] at h2
              exact h2
            clear HRR HRow hkn
            go_wp2_with fail
            go_ret3
            rw [HRR2.out]
            refine ⟨some ⟨w1.heap.size, 0, none⟩, n, ?_, ?_, (fun a h => by cases h; exact Nat.le_refl _), HB.out⟩
            · rw [show ((xs, m, 0) : List Nat × Nat × Nat).1.length = n from HXN.out]
              rfl
            · rw [show ((xs, m, 0) : List Nat × Nat × Nat).1.length = n from HXN.out]
              exact HRI.out
    · have HR2 : Hid (R = ([], 0, (takeP l q).2.2)) := by show _ = _; rw [HR1.out]; unfold listP; rw [if_neg he]
      unfold firstV at HT
      clear HR1
      generalize (takeP l q).1 = n at *
      generalize (takeP l q).2.1 = sz at *
      generalize (takeP l q).2.2 = er at *
      go_enter Tryz.func124, Tryz.ntmps124
      go_wp2_with fail
      refine Calls.mono HT.out ?_
      rintro e w1 ⟨rfl, rfl⟩
      go_wp2_with fail
      go_ret3
      rw [HR2.out]
      exact ⟨none, 0, rfl, RI.nil _, (fun _ h => by cases h), Below.refl _ _⟩
  · have HR2 : Hid (R = ([], 0, 2)) := by show _ = _; rw [HR.out]; unfold listI; rw [if_neg hp]
    have e1 : takeI l p = (0, 0, 2) := by unfold takeI; rw [if_neg hp]
    rw [e1] at HT
    unfold firstV at HT
    clear HR e1
    go_enter Tryz.func124, Tryz.ntmps124
    go_wp2_with fail
    refine Calls.mono HT.out ?_
    rintro e w1 ⟨rfl, rfl⟩
    go_wp2_with fail
    go_ret3
    rw [HR2.out]
    exact ⟨none, 0, rfl, RI.nil _, (fun _ h => by cases h), Below.refl _ _⟩
end Go.Proofs.YtijkgdbabikojaaGreat

/- The walks over the document's Takes, and over Same of whole numbers. -/
namespace Go.Proofs.YtijkgdbabikojaaGreat
set_option maxRecDepth 1000000
open Go.RowKit
set_option linter.unusedVariables false

theorem RI.of_owns {w : World} {B : Nat} {v : Value} {n : Nat} {l : List Int} (hown : w.ownsRow B 3 1 v n (ivs l)) (hn : n = l.length) : RI w v l := by
  subst hn
  rcases hown.2 with ⟨rfl, h0⟩ | ⟨g, cap, cur, rfl, _, _, h1, h2, _⟩
  · have h1 : l = [] := List.eq_nil_of_length_eq_zero h0
    subst h1
    exact RI.nil w
  · refine ⟨_, cap, rfl, h1, h2, fun i hi => ⟨g, 0, rfl, ?_⟩⟩
    have h := hown.cellAt i (by omega)
    rw [Nat.zero_add, h]
    simp [ivs, hi]

theorem owns_len {w : World} {B : Nat} {v : Value} {n : Nat} {l : List Int} (hown : w.ownsRow B 3 1 v n (ivs l)) : ∃ a c, v = .slice a n c := by
  rcases hown.2 with ⟨rfl, h0⟩ | ⟨g, cap, cur, rfl, _⟩
  · exact ⟨none, 0, by rw [h0]⟩
  · exact ⟨_, _, rfl⟩

theorem owns_later {w w' : World} {B : Nat} {t : TypeId} {v : Value} {n : Nat} {xs : List Value} (h : w.ownsRow B t 1 v n xs) (hb : Below w.heap.size w w') : w'.ownsRow B t 1 v n xs := by
  refine ⟨h.1, ?_⟩
  rcases h.2 with hn | ⟨g', cap', cur, e1, e2, e3, rest⟩
  · exact .inl hn
  · refine .inr ⟨g', cap', cur, e1, e2, ?_, rest⟩
    rw [hb.block g' (Array.getElem?_eq_some_iff.1 e3).1]
    exact e3

set_option maxRecDepth 1000000 in
set_option maxHeartbeats 1000000 in
theorem same_any (l m : List Int) (v u : Value) (w : World) (hl : RI w v l) (hm : RI w u m) (hn : l.length ≤ 1000000) (hn' : m.length ≤ 1000000) :
    Calls Tryz.prog 97 #[v, u] w fun e w' => e = .returned (.bool (decide (l = m))) ∧ Below w.heap.size w w' := by
  obtain ⟨a, cap, rfl, hc, _, hr⟩ := hl
  obtain ⟨a', cap', rfl, hc', _, hr'⟩ := hm
  have HR : Hid _ := hr
  have HR' : Hid _ := hr'
  obtain ⟨n, HN⟩ : ∃ n, Hid (l.length = n) := ⟨_, rfl⟩
  obtain ⟨n', HN'⟩ : ∃ n, Hid (m.length = n) := ⟨_, rfl⟩
  rw [HN.out] at hn hc ⊢
  rw [HN'.out] at hn' hc' ⊢
  clear hr hr'
  by_cases hnn : n = n'
  · subst hnn
    go_enter Tryz.func97, Tryz.ntmps97
    go_wp2_with fail
    go_loopw [5] (fun iv wr => ∃ (k : Nat), k ≤ n ∧ iv = .int .i64 k ∧ Hid (∀ i, i < k → l.getD i 0 = m.getD i 0) ∧ Hid (Below w.heap.size w wr)) (fun iv _ => n - (intOf iv).toNat)
    case atStart => exact ⟨0, Nat.zero_le _, rfl, fun i hi => by omega, Below.refl _ _⟩
    case round =>
      obtain ⟨k, hk, rfl, HX, HB⟩ := hrel
      rename World => w1
      by_cases hlt : k < n
      · obtain ⟨b, off, rfl, c0⟩ := HR.out k (by rw [HN.out]; exact hlt)
        obtain ⟨b', off', rfl, c1⟩ := HR'.out k (by rw [HN'.out]; exact hlt)
        have d0 := cell_later HB.out c0
        have d1 := cell_later HB.out c1
        obtain ⟨y, HYy⟩ : ∃ y, Hid (y = l.getD k 0) := ⟨_, rfl⟩
        obtain ⟨z, HZz⟩ : ∃ z, Hid (z = m.getD k 0) := ⟨_, rfl⟩
        rw [← HYy.out] at d0
        rw [← HZz.out] at d1
        have hki : (k : Int) < (n : Int) := by omega
        have HB2 : Hid (Below w.heap.size w w1.drew) := HB.out.drew
        by_cases hyz : y = z
        · have hb : (y == z) = true := by simp [hyz]
          have HX2 : Hid (∀ i, i < k + 1 → l.getD i 0 = m.getD i 0) := by
            show ∀ i, _
            intro i hi
            by_cases hik : i = k
            · subst hik; rw [← HYy.out, ← HZz.out, hyz]
            · exact HX.out i (by omega)
          clear HYy HZz hyz c0 c1 HX
          go_wp2_with fail
          go_region
          all_goals
            go_wp2_with fail
            go_roundw
            case rel => exact ⟨k + 1, by omega, by go_num, HX2, HB2⟩
            case measure => simp [intOf]; omega
        · have hb : (y == z) = false := by simp [hyz]
          have HF : Hid (decide (l = m) = false) := decide_eq_false (by
            rintro rfl
            exact hyz (HYy.out.trans HZz.out.symm))
          clear HYy HZz hyz c0 c1 HX
          go_wp2_with fail
          go_region
          all_goals
            go_wp2_with fail
            go_ret
            exact ⟨by rw [HF.out]; rfl, HB2.out⟩
      · have hkn : k = n := by omega
        subst hkn
        have HT2 : Hid (decide (l = m) = true) := by
          refine decide_eq_true (List.ext_getElem (by rw [HN.out, HN'.out]) fun i h1 h2 => ?_)
          have := HX.out i (by rw [← HN.out]; exact h1)
          simpa [h1, h2] using this
        go_wp2_with fail
        go_ret
        exact ⟨by rw [HT2.out]; rfl, HB.out⟩
  · have HF : Hid (decide (l = m) = false) := decide_eq_false (by rintro rfl; exact hnn (HN.out.symm.trans HN'.out))
    have hb : ((n : Int) == (n' : Int)) = false := by simp; omega
    go_enter Tryz.func97, Tryz.ntmps97
    go_wp2_with fail
    go_ret
    exact ⟨by rw [HF.out]; rfl, Below.refl _ _⟩
end Go.Proofs.YtijkgdbabikojaaGreat

/- Plain facts on stamps, and the walks over At, Check, Right and few. -/
namespace Go.Proofs.YtijkgdbabikojaaGreat
set_option maxRecDepth 1000000
open Go.RowKit
set_option linter.unusedVariables false

/-- The count of a branch. -/
def atZ (l : List Int) (i : Int) : Int := if 0 ≤ i ∧ i < (l.length : Int) then l.getD i.toNat 0 else 0

theorem atZ_nat (l : List Int) (k : Nat) : atZ l (k : Int) = l.getD k 0 := by
  unfold atZ
  split
  · rw [Int.toNat_natCast]
  · rename_i h
    have : l.length ≤ k := by omega
    simp [this]





/-- Is it a right stamp? -/
def okS (l : List Int) : Bool := decide (1 ≤ l.length ∧ l.length ≤ 64) && allN l
def chkE (l : List Int) : Nat := if okS l then 0 else 2

theorem okS_len {l : List Int} (h : okS l = true) : 1 ≤ l.length ∧ l.length ≤ 64 := by
  unfold okS at h
  rw [Bool.and_eq_true] at h
  exact of_decide_eq_true h.1

theorem okS_all {l : List Int} (h : okS l = true) : allN l = true := by
  unfold okS at h
  rw [Bool.and_eq_true] at h
  exact h.2

theorem okS_bad {l : List Int} {k : Nat} (hk : k < l.length) (h : ¬ (0 ≤ l.getD k 0 ∧ l.getD k 0 ≤ 1099511627776)) : okS l = false := by
  have : allN l = false := by
    unfold allN
    rw [List.all_eq_false]
    refine ⟨l[k], List.getElem_mem hk, ?_⟩
    have e : l.getD k 0 = l[k] := by simp [hk]
    rw [← e, show isN (l.getD k 0) = false from decide_eq_false h]
    decide
  unfold okS
  rw [this, Bool.and_false]

theorem okS_yes {l : List Int} (h1 : 1 ≤ l.length) (h2 : l.length ≤ 64) (h : ∀ i, i < l.length → 0 ≤ l.getD i 0 ∧ l.getD i 0 ≤ 1099511627776) : okS l = true := by
  have : allN l = true := by
    unfold allN
    rw [List.all_eq_true]
    intro z hz
    obtain ⟨i, hi, rfl⟩ := List.mem_iff_getElem.1 hz
    have := h i hi
    rw [show l.getD i 0 = l[i] by simp [hi]] at this
    exact decide_eq_true this
  unfold okS
  rw [this, Bool.and_true]
  exact decide_eq_true ⟨h1, h2⟩

theorem okS_long {l : List Int} (h : ¬ (1 ≤ l.length ∧ l.length ≤ 64)) : okS l = false := by
  unfold okS
  rw [decide_eq_false h, Bool.false_and]

set_option maxRecDepth 1000000 in
set_option maxHeartbeats 1000000 in
theorem check_any (v : Value) (l : List Int) (w : World) (hv : RI w v l) (hn : l.length ≤ 1000000) :
    Calls Tryz.prog 102 #[v] w fun e w' => e = .returned (.int .i64 (chkE l : Nat)) ∧ w' = w := by
  obtain ⟨a, cap, rfl, hc, _, hr⟩ := hv
  have HR : Hid _ := hr
  obtain ⟨E, HE⟩ : ∃ E, Hid (E = chkE l) := ⟨_, rfl⟩
  rw [← HE.out]
  clear hr
  by_cases h : 1 ≤ l.length ∧ l.length ≤ 64
  · obtain ⟨h1, h2⟩ := h
    go_enter Tryz.func102, Tryz.ntmps102
    go_wp2_with fail
    go_loopw [15] (fun iv wr => ∃ (k : Nat), k ≤ l.length ∧ iv = .int .i64 k ∧ Hid (∀ i, i < k → 0 ≤ l.getD i 0 ∧ l.getD i 0 ≤ 1099511627776) ∧ wr = w) (fun iv _ => l.length - (intOf iv).toNat)
    case atStart => exact ⟨0, Nat.zero_le _, rfl, fun i hi => by omega, rfl⟩
    case round =>
      obtain ⟨k, hk, rfl, HA, rfl⟩ := hrel
      by_cases hlt : k < l.length
      · obtain ⟨b1, o1, rfl, hc1⟩ := HR.out k hlt
        have HBD : Hid (¬ (0 ≤ l.getD k 0 ∧ l.getD k 0 ≤ 1099511627776) → chkE l = 2) := by
          show _ → _
          intro hb
          unfold chkE
          rw [okS_bad hlt hb]
          rfl
        have HA2 : Hid ((0 ≤ l.getD k 0 ∧ l.getD k 0 ≤ 1099511627776) → ∀ i, i < k + 1 → 0 ≤ l.getD i 0 ∧ l.getD i 0 ≤ 1099511627776) := by
          show _ → ∀ i, _
          intro hb i hi
          by_cases hik : i = k
          · subst hik; exact hb
          · exact HA.out i (by omega)
        obtain ⟨z, HZ⟩ : ∃ z, Hid (z = l.getD k 0) := ⟨_, rfl⟩
        rw [← HZ.out] at hc1 HA2 HBD
        by_cases h0 : z < 0
        · have HE2 : Hid (E = 2) := by show _ = _; rw [HE.out]; exact HBD.out (by omega)
          clear HA HA2 HBD HZ HE
          go_wp2_with fail
          go_ret
          exact ⟨by rw [HE2.out]; rfl, rfl⟩
        · by_cases h3 : 1099511627776 < z
          · have HE2 : Hid (E = 2) := by show _ = _; rw [HE.out]; exact HBD.out (by omega)
            clear HA HA2 HBD HZ HE
            go_wp2_with fail
            go_ret
            exact ⟨by rw [HE2.out]; rfl, rfl⟩
          · have HA3 : Hid _ := HA2.out (by omega)
            clear HA HA2 HBD HZ
            go_wp2_with fail
            go_roundw
            case rel => exact ⟨k + 1, by omega, by go_num, HA3, trivial⟩
            case measure => simp [intOf]; omega
      · have HE2 : Hid (E = 0) := by
          show _ = _
          rw [HE.out]
          unfold chkE
          rw [okS_yes h1 h2 (fun i hi => HA.out i (by omega))]
          rfl
        clear HE HA
        go_wp2_with fail
        go_ret
        exact ⟨by rw [HE2.out]; rfl, rfl⟩
  · have HE2 : Hid (E = 2) := by
      show _ = _
      rw [HE.out]
      unfold chkE
      rw [okS_long h]
      rfl
    clear HE
    by_cases h1 : l.length < 1
    · go_enter Tryz.func102, Tryz.ntmps102
      go_wp2_with fail
      go_ret
      exact ⟨by rw [HE2.out]; rfl, rfl⟩
    · have h2 : 64 < l.length := by omega
      go_enter Tryz.func102, Tryz.ntmps102
      go_wp2_with fail
      go_ret
      exact ⟨by rw [HE2.out]; rfl, rfl⟩

set_option maxRecDepth 1000000 in
set_option maxHeartbeats 1000000 in
theorem rright_any (v : Value) (l : List Int) (w : World) (hv : RI w v l) (hn : l.length ≤ 1000000) :
    Calls Tryz.prog 92 #[v] w fun e w' => e = .returned (.bool (okS l)) ∧ w' = w := by
  obtain ⟨a, cap, rfl, hc, _, hr⟩ := hv
  have HR : Hid _ := hr
  obtain ⟨E, HE⟩ : ∃ E, Hid (E = okS l) := ⟨_, rfl⟩
  rw [← HE.out]
  clear hr
  go_enter Tryz.func92, Tryz.ntmps92
  go_wp2_with fail
  go_loopw [3] (fun iv wr => ∃ (k : Nat), k ≤ l.length ∧ iv = .int .i64 k ∧ Hid (∀ i, i < k → 0 ≤ l.getD i 0 ∧ l.getD i 0 ≤ 1099511627776) ∧ wr = w) (fun iv _ => l.length - (intOf iv).toNat)
  case atStart => exact ⟨0, Nat.zero_le _, rfl, fun i hi => by omega, rfl⟩
  case round =>
    obtain ⟨k, hk, rfl, HA, rfl⟩ := hrel
    by_cases hlt : k < l.length
    · obtain ⟨b1, o1, rfl, hc1⟩ := HR.out k hlt
      have HBD : Hid (¬ (0 ≤ l.getD k 0 ∧ l.getD k 0 ≤ 1099511627776) → okS l = false) := fun hb => okS_bad hlt hb
      have HA2 : Hid ((0 ≤ l.getD k 0 ∧ l.getD k 0 ≤ 1099511627776) → ∀ i, i < k + 1 → 0 ≤ l.getD i 0 ∧ l.getD i 0 ≤ 1099511627776) := by
        show _ → ∀ i, _
        intro hb i hi
        by_cases hik : i = k
        · subst hik; exact hb
        · exact HA.out i (by omega)
      obtain ⟨z, HZ⟩ : ∃ z, Hid (z = l.getD k 0) := ⟨_, rfl⟩
      rw [← HZ.out] at hc1 HA2 HBD
      by_cases hz : 0 ≤ z ∧ z ≤ 1099511627776
      · have HA3 : Hid _ := HA2.out hz
        have HI : Hid (∀ wx, Calls Tryz.prog 115 #[.int .i64 z] wx fun e w' => e = .returned (.bool true) ∧ w' = wx) := by
          show ∀ wx, _
          intro wx
          have := is_any z wx
          rw [show isN z = true from decide_eq_true hz] at this
          exact this
        clear HA HA2 HBD HZ
        go_wp2_with fail
        refine Calls.mono (HI.out _) ?_
        rintro e w1 ⟨rfl, rfl⟩
        go_wp2_with fail
        go_roundw
        case rel => exact ⟨k + 1, by omega, by go_num, HA3, trivial⟩
        case measure => simp [intOf]; omega
      · have HE2 : Hid (E = false) := by show _ = _; rw [HE.out]; exact HBD.out hz
        have HI : Hid (∀ wx, Calls Tryz.prog 115 #[.int .i64 z] wx fun e w' => e = .returned (.bool false) ∧ w' = wx) := by
          show ∀ wx, _
          intro wx
          have := is_any z wx
          rw [show isN z = false from decide_eq_false hz] at this
          exact this
        clear HA HA2 HBD HZ HE
        go_wp2_with fail
        refine Calls.mono (HI.out _) ?_
        rintro e w1 ⟨rfl, rfl⟩
        go_wp2_with fail
        go_ret
        exact ⟨by rw [HE2.out]; rfl, rfl⟩
    · by_cases h : 1 ≤ l.length ∧ l.length ≤ 64
      · have HE2 : Hid (E = true) := by
          show _ = _
          rw [HE.out]
          exact okS_yes h.1 h.2 (fun i hi => HA.out i (by omega))
        obtain ⟨h1, h2⟩ := h
        clear HE HA
        go_wp2_with fail
        go_ret
        exact ⟨by rw [HE2.out]; simp; try omega, rfl⟩
      · have HE2 : Hid (E = false) := by
          show _ = _
          rw [HE.out]
          exact okS_long h
        clear HE HA
        by_cases h1 : l.length < 1
        · go_wp2_with fail
          go_ret
          exact ⟨by rw [HE2.out]; simp; try omega, rfl⟩
        · have h2 : 64 < l.length := by omega
          go_wp2_with fail
          go_ret
          exact ⟨by rw [HE2.out]; simp; try omega, rfl⟩


end Go.Proofs.YtijkgdbabikojaaGreat

/- The walks over Bytes and Read. -/
namespace Go.Proofs.YtijkgdbabikojaaGreat
set_option maxRecDepth 1000000
open Go.RowKit
set_option linter.unusedVariables false

/-- What Bytes answers. -/
def bytR (a : List UInt8) (l : List Int) : List UInt8 := if okS l then a ++ putsP (natL l) else []

theorem puts_ok {a : List UInt8} {l : List Int} (h : okS l = true) : putsR a l = a ++ putsP (natL l) ∧ putsE l = 0 := by
  have h1 := okS_len h
  have h2 := okS_all h
  unfold putsR putsE
  rw [if_pos (by omega), if_pos h2, if_pos (by omega), if_pos h2]
  exact ⟨rfl, rfl⟩

set_option maxRecDepth 1000000 in
set_option maxHeartbeats 1000000 in
theorem bytes_any (x y : Value) (a : List UInt8) (l : List Int) (w : World) (hx : RB w x a) (hy : RI w y l) (ha : a.length ≤ 90000) (hl : l.length ≤ 1000000) :
    Calls Tryz.prog 79 #[x, y] w fun e w' => ∃ v c, e = .returned (.tuple #[.slice v (bytR a l).length c, .int .i64 (chkE l : Nat)]) ∧ RB w' (.slice v (bytR a l).length c) (bytR a l) ∧ Below w.heap.size w w' := by
  have HC : Hid _ := check_any y l w hy hl
  have HP : Hid _ := puts_any x y a l w hx hy ha hl
  obtain ⟨xa, xc, rfl, _, _, _, _⟩ := hx
  obtain ⟨ya, yc, rfl, _, _, _⟩ := hy
  unfold bytR chkE at *
  by_cases h : okS l = true
  · rw [(puts_ok (a := a) h).1, (puts_ok (a := a) h).2] at HP
    rw [if_pos h] at HC
    rw [if_pos h, if_pos h]
    clear h
    generalize a ++ putsP (natL l) = S at *
    go_enter Tryz.func79, Tryz.ntmps79
    go_wp2_with fail
    refine Calls.mono HC.out ?_
    rintro e w1 ⟨rfl, rfl⟩
    go_wp2_with fail
    refine Calls.mono HP.out ?_
    rintro e w2 ⟨v, c, rfl, hr, hb⟩
    have HR : Hid _ := hr
    have HB : Hid _ := hb
    clear hr hb
    go_wp2_with fail
    go_ret2
    exact ⟨_, _, rfl, HR.out, HB.out⟩
  · rw [if_neg h] at HC
    rw [if_neg h, if_neg h]
    clear h HP
    go_enter Tryz.func79, Tryz.ntmps79
    go_wp2_with fail
    refine Calls.mono HC.out ?_
    rintro e w1 ⟨rfl, rfl⟩
    go_wp2_with fail
    go_ret2
    exact ⟨none, 0, rfl, RB.nil _, Below.refl _ _⟩

/-- What Read answers. -/
def readP (b : List UInt8) (p : Int) : List Nat × Nat × Nat := if (listI b p).2.2 = 0 then (if okS (intL (listI b p).1) then listI b p else ([], 0, 2)) else ([], 0, (listI b p).2.2)

theorem intL_nil : intL [] = [] := rfl

theorem list_small (b : List UInt8) (p : Int) : (listI b p).1.length ≤ 1000000 := by
  have h : (listI b p).2.2 ≠ 0 ∨ (listI b p).1.length ≤ 255 := by
    unfold listI
    by_cases hp : 0 ≤ p ∧ p ≤ (b.length : Int)
    · rw [if_pos hp]
      unfold listP
      by_cases h1 : (takeP b p.toNat).2.2 = 0
      · rw [if_pos h1]
        by_cases h2 : 255 < (takeP b p.toNat).1
        · rw [if_pos h2]; right; simp
        · rw [if_neg h2]
          by_cases h3 : (takesP b (takeP b p.toNat).1 (takeP b p.toNat).2.1).2.2 = 0
          · right
            have := (takes_ok _ _ (take_ok (by omega) h1).2.2.1 h3).1
            omega
          · left; exact h3
      · rw [if_neg h1]; right; simp
    · rw [if_neg hp]; right; simp
  rcases h with h | h
  · have : (listI b p).1 = [] := by
      unfold listI at h ⊢
      by_cases hp : 0 ≤ p ∧ p ≤ (b.length : Int)
      · rw [if_pos hp] at h ⊢
        unfold listP at h ⊢
        by_cases h1 : (takeP b p.toNat).2.2 = 0
        · rw [if_pos h1] at h ⊢
          by_cases h2 : 255 < (takeP b p.toNat).1
          · rw [if_pos h2]
          · rw [if_neg h2] at h ⊢
            exact (takes_err _ _ h).1
        · rw [if_neg h1]
      · rw [if_neg hp]
    rw [this]; simp
  · omega

set_option maxRecDepth 1000000 in
set_option maxHeartbeats 1000000 in
theorem read_any (x : Value) (b : List UInt8) (p : Int) (w : World) (hx : RB w x b) (hb : b.length ≤ 100000) :
    Calls Tryz.prog 109 #[x, .int .i64 p] w fun e w' => ListC (readP b p) w.heap.size w e w' := by
  have HT : Hid _ := takes_any x b p w hx hb
  have hsm := list_small b p
  obtain ⟨xa, xc, rfl, _, _, _, _⟩ := hx
  unfold readP
  generalize listI b p = r at *
  obtain ⟨ns, m, E⟩ := r
  unfold ListC at HT
  dsimp only at *
  by_cases he : E = 0
  · subst he
    rw [if_pos rfl]
    by_cases hok : okS (intL ns) = true
    · rw [if_pos hok]
      have HCK : Hid (∀ (wx : World) (v : Value), RI wx v (intL ns) → Calls Tryz.prog 102 #[v] wx fun e w' => e = .returned (.int .i64 0) ∧ w' = wx) := by
        show ∀ wx v, _
        intro wx v hv
        have := check_any v (intL ns) wx hv (by rw [intL_len]; exact hsm)
        unfold chkE at this
        rw [if_pos hok] at this
        exact this
      clear hok hsm
      go_enter Tryz.func109, Tryz.ntmps109
      go_wp2_with fail
      refine Calls.mono HT.out ?_
      rintro e w1 ⟨v, c, rfl, hr, hp1, hb1⟩
      have HP1 : Hid _ := hp1
      clear hp1
      have HR : Hid (RI w1 (.slice v ns.length c) (intL ns)) := hr
      have HB : Hid _ := hb1
      clear hr hb1
      go_wp2_with fail
      refine Calls.mono (HCK.out _ _ HR.out) ?_
      rintro e w2 ⟨rfl, rfl⟩
      go_wp2_with fail
      go_ret3
      exact ⟨_, _, rfl, HR.out, HP1.out, HB.out⟩
    · rw [if_neg hok]
      have HCK : Hid (∀ (wx : World) (v : Value), RI wx v (intL ns) → Calls Tryz.prog 102 #[v] wx fun e w' => e = .returned (.int .i64 2) ∧ w' = wx) := by
        show ∀ wx v, _
        intro wx v hv
        have := check_any v (intL ns) wx hv (by rw [intL_len]; exact hsm)
        unfold chkE at this
        rw [if_neg hok] at this
        exact this
      clear hok hsm
      go_enter Tryz.func109, Tryz.ntmps109
      go_wp2_with fail
      refine Calls.mono HT.out ?_
      rintro e w1 ⟨v, c, rfl, hr, hp1, hb1⟩
      have HP1 : Hid _ := hp1
      clear hp1
      have HR : Hid (RI w1 (.slice v ns.length c) (intL ns)) := hr
      have HB : Hid _ := hb1
      clear hr hb1
      go_wp2_with fail
      refine Calls.mono (HCK.out _ _ HR.out) ?_
      rintro e w2 ⟨rfl, rfl⟩
      go_wp2_with fail
      go_ret3
      exact ⟨none, 0, rfl, RI.nil _, (fun _ h => by cases h), HB.out⟩
  · rw [if_neg he]
    clear hsm
    go_enter Tryz.func109, Tryz.ntmps109
    go_wp2_with fail
    refine Calls.mono HT.out ?_
    rintro e w1 ⟨v, c, rfl, _, _, hb1⟩
    have HB : Hid _ := hb1
    clear hb1
    go_wp2_with fail
    go_ret3
    exact ⟨none, 0, rfl, RI.nil _, (fun _ h => by cases h), HB.out⟩

end Go.Proofs.YtijkgdbabikojaaGreat

