/- The walks over the document's Merge of no branches, and of too many, Branches and Check. -/
import Derived.Test.YtamfpmpooaejkaaNm
namespace Go.Proofs.Ytamfpmpooaejkaa
open Go.RowKit Go.Shelf
set_option maxRecDepth 1000000
set_option linter.unusedVariables false

theorem rmerge_out (a : Option Addr) (n c : Nat) (w : World) (hn : ¬ (1 ≤ n ∧ n ≤ 64)) : Calls Try.prog 12 #[.slice a n c] w fun e w' => e = .returned (.tuple #[.slice none 0 0, .slice none 0 0]) ∧ w' = w := by
  by_cases h1 : (n : Int) < 1
  · clear hn
    go_enter Try.func12, Try.ntmps12
    go_wp2_with fail
    go_ret2
    exact ⟨rfl, rfl⟩
  · have h2 : (n : Int) > 64 := by omega
    clear hn
    go_enter Try.func12, Try.ntmps12
    go_wp2_with fail
    go_ret2
    exact ⟨rfl, rfl⟩

/-- The one branch of which an event is next, of the first i. -/
def Own (had : List Nat) (s : List Int) (i : Nat) (z : Int) : Prop :=
  (z = -1 ∧ ∀ j, j < i → decide (Mg.Nx had s j) = false) ∨ ∃ p : Nat, z = (p : Int) ∧ p < i ∧ decide (Mg.Nx had s p) = true

theorem Own.no {had : List Nat} {s : List Int} {i : Nat} {z : Int} (h : Own had s i z) (hc : decide (Mg.Nx had s i) = false) : Own had s (i + 1) z := by
  rcases h with ⟨h1, h2⟩ | ⟨p, h1, h2, h3⟩
  · exact .inl ⟨h1, fun j hj => by
      by_cases hij : j = i
      · rw [hij]; exact hc
      · exact h2 j (by omega)⟩
  · exact .inr ⟨p, h1, by omega, h3⟩
theorem Own.yes {had : List Nat} {s : List Int} {i : Nat} (hc : decide (Mg.Nx had s i) = true) : Own had s (i + 1) (i : Int) := .inr ⟨i, rfl, by omega, hc⟩

/-- What the document's Branches has when k events are told. -/
structure BrS (B : Nat) (w0 : World) (Hs : List EvP) (xs : List (Nat × EvP)) (n k : Nat) (had : List Nat) (v : Value) (W : World) : Prop where
  row : RowI W B (hadZ had)
  out : W.ownsRow (B + 1) 3 1 v k (ivs (hadZ (brsK xs k)))
  bel : Below w0.heap.size w0 W
  lt : B < W.heap.size
  low : w0.heap.size ≤ B
  len : had.length = n
  le : ∀ i, had.getD i 0 ≤ k
  dr : xs.drop k = pt stE had (Hs.drop k) ∧ k ≤ xs.length
theorem BrS.later {B : Nat} {w0 : World} {Hs : List EvP} {xs : List (Nat × EvP)} {n k : Nat} {had : List Nat} {v : Value} {W W' : World} (h : BrS B w0 Hs xs n k had v W) (hb : Below W.heap.size W W') : BrS B w0 Hs xs n k had v W' :=
  ⟨h.row.below hb, owns_later h.out hb, h.bel.trans (hb.mono h.bel.size), Nat.lt_of_lt_of_le h.lt hb.size, h.low, h.len, h.le, h.dr⟩

/-- A number behind those of a row of one's own. -/
theorem int_push {base : Nat} {W : World} {v : Value} {k : Nat} {l : List Int} (h : W.ownsRow base 3 1 v k (ivs l)) (hk : k ≤ 1000000) (hb : base ≤ W.heap.size) (z : Int) :
    ∃ a c W', (Builtin.append_ #[26, 26] 26 #[v, .slice (some ⟨W.heap.size, 0, none⟩) 1 1]).run Try.prog (W.alloc (.cells #[.int .i64 z] 3)) = .ok (.slice a (k + 1) c) W' ∧ W'.ownsRow base 3 1 (.slice a (k + 1) c) (k + 1) (ivs (l ++ [z])) ∧ Below base (W.alloc (.cells #[.int .i64 z] 3)) W' := by
  obtain ⟨i0, hi, hz0, hz1, hz2⟩ := info_parts Try.info3
  have h2 := owns_later h ((Below.refl W.heap.size W).alloc (Nat.le_refl _) (.cells #[.int .i64 z] 3))
  obtain ⟨v', W', r1, r2, r3, r4, r5⟩ := run_append_own_at (P := Try.prog) (W.alloc (.cells #[.int .i64 z] 3)) base 26 26 3 i0 (.int .i64 0) 1 8 Try.underlying26 hi hz0 hz1 hz2 rfl (by decide) v k (ivs l) h2 ⟨W.heap.size, 0, none⟩ 1 1 (ivs [z]) rfl (fun j u hj => by
      match j, hj with
      | 0, hj =>
        simp [ivs] at hj
        subst hj
        exact cell_new W z) (by intro u hu; simp [ivs] at hu; subst hu; rfl) (by unfold maxLen; omega) (by omega) (by simp; omega)
  have e : ivs (l ++ [z]) = ivs l ++ ivs [z] := by simp [ivs]
  rw [← e] at r2
  obtain ⟨a, c, rfl⟩ := owns_len r2
  refine ⟨a, c, W', r1, r2, Below.grown (Below.refl _ _) r3 (by simp; omega) (fun q hq => (World.ownsRow.lt h2 q hq).1)⟩

theorem brs_push {B : Nat} {w0 : World} {Hs : List EvP} {xs : List (Nat × EvP)} {n k p : Nat} {had : List Nat} {v : Value} {w5 w6 : World} {o : Obj} (row : RowI w5 B (hadZ had)) (lt : B < w5.heap.size) (bel : Below w0.heap.size w0 w5) (low : w0.heap.size ≤ B) (len : had.length = n) (le : ∀ i, had.getD i 0 ≤ k + 1) (dr : xs.drop (k + 1) = pt stE had (Hs.drop (k + 1)) ∧ k + 1 ≤ xs.length)
    (hbs : hadZ (brsK xs (k + 1)) = hadZ (brsK xs k) ++ [(p : Int)]) (ho : w6.ownsRow (B + 1) 3 1 v (k + 1) (ivs (hadZ (brsK xs k) ++ [(p : Int)]))) (hb : Below (B + 1) (w5.alloc o) w6) : BrS B w0 Hs xs n (k + 1) had v w6 := by
  have hs := hb.size
  rw [World.size_alloc] at hs
  refine ⟨(hb.block B (by omega)).trans ((Below.heap_alloc _ _ _ lt).trans row), by rw [hbs]; exact ho, (bel.alloc bel.size _).trans (hb.mono (by omega)), by omega, low, len, le, dr⟩

/-- What Branches answers. -/
def BrC (n : Nat) (Hs : List EvP) (w : World) (e : Ending) (w' : World) : Prop :=
  ∃ v m c, e = .returned (.tuple #[.slice v m c, .bool (histB (n : Int) Hs)]) ∧ (histB (n : Int) Hs = true → m = (ptN (n : Int) Hs).length ∧ RI w' (.slice v m c) (hadZ (brsK (ptN (n : Int) Hs) (ptN (n : Int) Hs).length))) ∧ Below w.heap.size w w'

set_option maxHeartbeats 8000000 in
theorem branches_in (hv : Value) (Hs : List EvP) (n : Nat) (w : World) (hh : REv w hv Hs) (hL1 : 1 ≤ n) (hL : n ≤ 64) (hHs : Hs.length ≤ 100000) :
    Calls Try.prog 30 #[hv, .int .i64 (n : Int)] w fun e w' => BrC n Hs w e w' := by
  unfold BrC
  have HLN : Hid ((ptN (n : Int) Hs).length ≤ Hs.length) := pt_len _ _ _
  have HHB : Hid (histB (n : Int) Hs = decide ((ptN (n : Int) Hs).length = Hs.length)) := by
    show _ = _
    unfold histB
    rw [decide_eq_true (show 1 ≤ (n : Int) ∧ (n : Int) ≤ 64 by omega), Bool.true_and]
  obtain ⟨ha, hc, rfl, q1, q2, hcs⟩ := hh
  have HCS : Hid _ := hcs
  obtain ⟨xs, HX⟩ : ∃ xs, Hid (xs = ptN (n : Int) Hs) := ⟨_, rfl⟩
  rw [← HX.out] at HLN HHB ⊢
  obtain ⟨m, HM⟩ : ∃ m, Hid (Hs.length = m) := ⟨_, rfl⟩
  rw [HM.out] at HLN HHB q1 hHs ⊢
  obtain ⟨hb, HHb⟩ : ∃ hb, Hid (hb = histB (n : Int) Hs) := ⟨_, rfl⟩
  rw [← HHb.out] at HHB ⊢
  obtain ⟨C, HC, hmk⟩ := make_ints n hL
  have HB0 : Hid (Below w.heap.size w (w.alloc (.cells C 3))) := (Below.refl _ _).alloc (Nat.le_refl _) _
  have HR0 : Hid (RowI (w.alloc (.cells C 3)) w.heap.size (hadZ (List.replicate n 0))) := by
    show RowI _ _ _
    unfold RowI
    rw [row_new, hadZ_zero, HC.out]
  have HZ0 : Hid ((w.alloc (.cells C 3)).heap.size = w.heap.size + 1) := by show _ = _; simp
  clear hcs HC HHb
  have hg1 : ¬ (n : Int) < 1 := by omega
  have hg2 : ¬ (n : Int) > 64 := by omega
  go_enter Try.func30, Try.ntmps30
  go_wp2_with fail
  obtain ⟨B, HBe⟩ : ∃ B, Hid (w.heap.size = B) := ⟨_, rfl⟩
  rw [HBe.out] at HR0 HZ0
  rw [HBe.out]
  generalize w.alloc (.cells C 3) = w1 at *
  clear hmk hg1 hg2
  have H0 : Hid (BrS B w Hs xs n 0 (List.replicate n 0) (.slice none 0 0) w1) :=
    ⟨HR0.out, World.ownsRow_nil _ _ _ _, HB0.out, by have := HZ0.out; omega, by have := HBe.out; omega, by simp, fun i => by rw [Mg.zero_get]; omega, by rw [HX.out]; rfl, Nat.zero_le _⟩
  clear HR0 HB0 HZ0 HX
  go_loopw [7, 8] (fun ov iv wr => ∃ (k : Nat) (had : List Nat) (oa : Option Addr) (oc : Nat), k ≤ m ∧ iv = .int .i64 k ∧ ov = .slice oa k oc ∧ Hid (BrS B w Hs xs n k had (.slice oa k oc) wr)) (fun _ iv _ => m - (intOf iv).toNat)
  case atStart => exact ⟨0, _, none, 0, Nat.zero_le _, rfl, rfl, H0⟩
  case round =>
    obtain ⟨k, had, oa, oc, hk, rfl, rfl, HS⟩ := hrel
    rename World => w2
    clear H0
    by_cases hlt : k < m
    · obtain ⟨p, hp⟩ : ∃ p, Hs[k]? = some p := ⟨_, List.getElem?_eq_getElem (by rw [HM.out]; exact hlt)⟩
      have hdd : Hs.drop k = p :: Hs.drop (k + 1) := by
        obtain ⟨h1, h2⟩ := List.getElem?_eq_some_iff.1 hp
        rw [List.drop_eq_getElem_cons h1, h2]
      obtain ⟨eb, eo, rfl, e0, e1, e2, e3, e4⟩ := HCS.out k p hp
      obtain ⟨e, sv⟩ := p
      dsimp only at *
      have HRI : Hid (RI w sv e.s) := e4
      have HDD : Hid (xs.drop k = pt stE had ((e, sv) :: Hs.drop (k + 1)) ∧ k ≤ xs.length) := by rw [← hdd]; exact HS.out.dr
      obtain ⟨sa, sc, rfl⟩ : ∃ sa sc, sv = .slice sa e.s.length sc := by obtain ⟨a, c, h, _⟩ := HRI.out; exact ⟨a, c, h⟩
      have HE0 : Hid _ := e0
      have HE1 : Hid _ := e1
      have HE2 : Hid _ := e2
      have HE3 : Hid _ := e3
      clear hp hdd e0 e1 e2 e3 e4
      go_wp2_with fail
      go_loopw [9, 10] (fun zv iv w3 => ∃ (i : Nat) (z : Int), i ≤ n ∧ iv = .int .i64 i ∧ zv = .int .i64 z ∧ Hid (Own had e.s i z) ∧ Hid (BrS B w Hs xs n k had (.slice oa k oc) w3)) (fun _ iv _ => n - (intOf iv).toNat)
      case atStart => exact ⟨0, -1, Nat.zero_le _, rfl, rfl, .inl ⟨rfl, fun j hj => by omega⟩, HS⟩
      case round =>
        obtain ⟨i, z, hi, rfl, rfl, HZ, HS3⟩ := hrel
        rename World => w3
        clear HS
        by_cases hin : i < n
        · have d1 := cell_later HS3.out.bel HE0.out
          have d2 := cell_later HS3.out.bel HE1.out
          have d3 := cell_later HS3.out.bel HE2.out
          have d4 := cell_later HS3.out.bel HE3.out
          have HWR : Hid (RI w3 (.slice (some ⟨B, 0, none⟩) n n) (hadZ had)) := by
            have := HS3.out.row.ri (by rw [hadZ_len, HS3.out.len]; omega)
            rw [hadZ_len, HS3.out.len] at this
            exact this
          have HNX : Hid _ := rnext2_any _ _ had e i w3 HWR.out (HRI.out.later HS3.out.bel) (by rw [HS3.out.len]; exact hin) (by have := HS3.out.le i; omega) (by rw [HS3.out.len]; exact hL)
          unfold EvV at HNX
          obtain ⟨q, hq⟩ : ∃ q, decide (Mg.Nx had e.s i) = q := ⟨_, rfl⟩
          rw [hq] at HNX
          have HQ : Hid _ := hq
          clear hq HWR
          cases q with
          | true =>
            have HZ2 : Hid (Own had e.s (i + 1) (i : Int)) := Own.yes HQ.out
            clear HZ HQ
            go_wp2_with fail
            refine Calls.mono HNX.out ?_
            rintro y w4 ⟨rfl, hb4⟩
            have HS4 : Hid _ := HS3.out.later hb4
            clear hb4
            go_wp2_with fail
            go_roundw
            case rel => exact ⟨i + 1, i, by omega, by go_num, rfl, HZ2, HS4⟩
            case measure => simp [intOf]; omega
          | false =>
            have HZ2 : Hid (Own had e.s (i + 1) z) := Own.no HZ.out HQ.out
            clear HZ HQ
            go_wp2_with fail
            refine Calls.mono HNX.out ?_
            rintro y w4 ⟨rfl, hb4⟩
            have HS4 : Hid _ := HS3.out.later hb4
            clear hb4
            go_wp2_with fail
            go_roundw
            case rel => exact ⟨i + 1, z, by omega, by go_num, rfl, HZ2, HS4⟩
            case measure => simp [intOf]; omega
        · obtain rfl : n = i := by omega
          rcases HZ.out with ⟨rfl, hno⟩ | ⟨p, rfl, hpn, hyes⟩
          · have HK : Hid (k = xs.length) := by
              have h1 := HDD.out.1
              rw [pt, show stE (e, Value.slice sa e.s.length sc) = e.s from rfl, own_no HS3.out.len hno] at h1
              exact drop_end h1 HDD.out.2
            have HF : Hid (hb = false) := by show _ = _; rw [HHB.out]; exact decide_eq_false (by rw [← HK.out]; omega)
            go_wp2_with fail
            go_ret2
            rw [HF.out]
            exact ⟨none, 0, 0, rfl, (fun h => by cases h), HS3.out.bel⟩
          · have HDR : Hid (xs.drop k = (p, (e, .slice sa e.s.length sc)) :: pt stE (Mg.bump had p) (Hs.drop (k + 1))) := by
              show _ = _
              have h1 := HDD.out.1
              rw [pt, show stE (e, Value.slice sa e.s.length sc) = e.s from rfl, own_at hyes] at h1
              exact h1
            obtain ⟨hx1, hx2, hx3⟩ := getElem_of_drop HDR.out
            obtain ⟨cR, fR⟩ := HS3.out.row.get p (by rw [hadZ_len, HS3.out.len]; exact hpn)
            rw [hadZ_get] at cR
            have hq1 := HS3.out.le p
            have hr5 := HS3.out.row.set p ((hadZ had).getD p 0 + 1)
            rw [hadZ_bump, hadZ_get] at hr5
            have ho5 : (w3.setCell ⟨B, p, none⟩ (.int .i64 (((had.getD p 0 : Nat) : Int) + 1))).ownsRow (B + 1) 3 1 (.slice oa k oc) k (ivs (hadZ (brsK xs k))) := by
              refine ⟨HS3.out.out.1, ?_⟩
              rcases HS3.out.out.2 with hn | ⟨g, cap, cur, e9, hg1, hg2, rest⟩
              · exact .inl hn
              · exact .inr ⟨g, cap, cur, e9, hg1, (Below.heap_setCell w3 ⟨B, p, none⟩ _ g (by show g ≠ B; omega)).trans hg2, rest⟩
            have HW5 : Hid (Below w.heap.size w (w3.setCell ⟨B, p, none⟩ (.int .i64 (((had.getD p 0 : Nat) : Int) + 1)))) := HS3.out.bel.setCell (p := ⟨B, p, none⟩) HS3.out.low _
            have HR5 : Hid (RowI (w3.setCell ⟨B, p, none⟩ (.int .i64 (((had.getD p 0 : Nat) : Int) + 1))) B (hadZ (Mg.bump had p))) := hr5
            have HO5 : Hid _ := ho5
            have HZ5 : Hid (B < (w3.setCell ⟨B, p, none⟩ (.int .i64 (((had.getD p 0 : Nat) : Int) + 1))).heap.size) := by have := HS3.out.lt; show _ < _; simpa using this
            have HBS : Hid (hadZ (brsK xs (k + 1)) = hadZ (brsK xs k) ++ [(p : Int)]) := by show _ = _; rw [brsK_succ hx1]; unfold hadZ; rw [List.map_append]; rfl
            have HX2 : Hid (xs.drop (k + 1) = pt stE (Mg.bump had p) (Hs.drop (k + 1)) ∧ k + 1 ≤ xs.length) := ⟨hx2, hx3⟩
            have HLE : Hid (∀ i, (Mg.bump had p).getD i 0 ≤ k + 1) := fun i => by
              rw [Mg.bump_get _ _ _ (by rw [HS3.out.len]; exact hpn)]
              have := HS3.out.le i
              split <;> omega
            have HLL : Hid ((Mg.bump had p).length = n) := by show _ = _; rw [Mg.bump_len]; exact HS3.out.len
            have HLW : Hid (w.heap.size ≤ B) := HS3.out.low
            clear hr5 ho5 hx1 hx2 hx3 HDR HDD HZ hyes HS3
            generalize had.getD p 0 = q at *
            have HO5 : Hid (World.ownsRow (w3.setCell ⟨B, p, none⟩ (.int .i64 ((q : Int) + 1))) (B + 1) 3 1 (.slice oa k oc) k (ivs (hadZ (brsK xs k)))) := HO5.out
            have HR5 : Hid (RowI (w3.setCell ⟨B, p, none⟩ (.int .i64 ((q : Int) + 1))) B (hadZ (Mg.bump had p))) := HR5.out
            obtain ⟨a6, c6, w6, hrun, ho6, hb6⟩ := int_push HO5.out (by omega) HZ5.out (p : Int)
            have HF : Hid (BrS B w Hs xs n (k + 1) (Mg.bump had p) (.slice a6 (k + 1) c6) w6) := brs_push HR5.out HZ5.out HW5.out HLW.out HLL.out HLE.out HX2.out HBS.out ho6 hb6
            have hp0 : ¬ (p : Int) < 0 := by omega
            rw [World.size_setCell] at hrun
            clear ho6 hb6
            go_wp2_with (first
              | (at_builtin; refine Lib.wpList_append_run _ rfl _ _ _ _ rfl _ _ rfl rfl _ _ hrun ?_))
            go_roundw
            case rel => exact ⟨k + 1, Mg.bump had p, a6, c6, by omega, by go_num, rfl, HF⟩
            case measure => simp [intOf]; omega
    · obtain rfl : m = k := by omega
      have HK : Hid (m = xs.length) := by
        have h1 := HS.out.dr.1
        rw [show Hs.drop m = [] from List.drop_eq_nil_of_le (by rw [HM.out]; exact Nat.le_refl _)] at h1
        exact drop_end h1 HS.out.dr.2
      have HT : Hid (hb = true) := by show _ = _; rw [HHB.out]; exact decide_eq_true HK.out.symm
      go_wp2_with fail
      go_ret2
      rw [HT.out]
      refine ⟨oa, m, oc, rfl, fun _ => ⟨HK.out, ?_⟩, HS.out.bel⟩
      rw [← HK.out]
      exact RI.of_owns HS.out.out (by rw [hadZ_len]; unfold brsK; rw [List.length_map, List.length_take]; have := HS.out.dr.2; omega)

theorem branches_out (a : Option Addr) (m c : Nat) (n : Int) (w : World) (hn : ¬ (1 ≤ n ∧ n ≤ 64)) : Calls Try.prog 30 #[.slice a m c, .int .i64 n] w fun e w' => e = .returned (.tuple #[.slice none 0 0, .bool false]) ∧ w' = w := by
  by_cases h1 : n < 1
  · clear hn
    go_enter Try.func30, Try.ntmps30
    go_wp2_with fail
    go_ret2
    exact ⟨rfl, rfl⟩
  · have h2 : n > 64 := by omega
    clear hn
    go_enter Try.func30, Try.ntmps30
    go_wp2_with fail
    go_ret2
    exact ⟨rfl, rfl⟩

/-- Branches, of any n. -/
theorem branches_any (hv : Value) (Hs : List EvP) (n : Int) (w : World) (hh : REv w hv Hs) (hHs : Hs.length ≤ 100000) :
    Calls Try.prog 30 #[hv, .int .i64 n] w fun e w' => ∃ v m c, e = .returned (.tuple #[.slice v m c, .bool (histB n Hs)]) ∧ (histB n Hs = true → m = (ptN n Hs).length ∧ RI w' (.slice v m c) (hadZ (brsK (ptN n Hs) (ptN n Hs).length))) ∧ Below w.heap.size w w' := by
  by_cases hn : 1 ≤ n ∧ n ≤ 64
  · obtain ⟨k, rfl⟩ : ∃ k : Nat, n = (k : Int) := ⟨n.toNat, by omega⟩
    exact branches_in hv Hs k w hh (by omega) (by omega) hHs
  · have hc : histB n Hs = false := by unfold histB; rw [decide_eq_false hn]; rfl
    obtain ⟨a, c, rfl⟩ := hh.slice
    refine Calls.mono (branches_out a Hs.length c n w hn) ?_
    rintro e w1 ⟨rfl, h⟩
    obtain rfl := h.symm
    rw [hc]
    exact ⟨none, 0, 0, rfl, (fun h => by cases h), Below.refl _ _⟩

theorem rcheck_any (hv : Value) (Hs : List EvP) (n : Int) (w : World) (hh : REv w hv Hs) (hHs : Hs.length ≤ 100000) :
    Calls Try.prog 20 #[hv, .int .i64 n] w fun e w' => e = .returned (.int .i64 (chkE n Hs : Nat)) ∧ Below w.heap.size w w' := by
  have HBR : Hid _ := branches_any hv Hs n w hh hHs
  unfold chkE
  obtain ⟨ha, hc, rfl⟩ := hh.slice
  clear hh
  generalize Hs.length = m at *
  cases hb : histB n Hs with
  | true =>
    rw [hb] at HBR
    clear hb
    go_enter Try.func20, Try.ntmps20
    go_wp2_with fail
    refine Calls.mono HBR.out ?_
    rintro e w1 ⟨v, m, c, rfl, _, hb1⟩
    have HB1 : Hid _ := hb1
    clear hb1 HBR
    go_wp2_with fail
    go_ret
    exact ⟨rfl, HB1.out⟩
  | false =>
    rw [hb] at HBR
    clear hb
    go_enter Try.func20, Try.ntmps20
    go_wp2_with fail
    refine Calls.mono HBR.out ?_
    rintro e w1 ⟨v, m, c, rfl, _, hb1⟩
    have HB1 : Hid _ := hb1
    clear hb1 HBR
    go_wp2_with fail
    go_ret
    exact ⟨rfl, HB1.out⟩
end Go.Proofs.Ytamfpmpooaejkaa
