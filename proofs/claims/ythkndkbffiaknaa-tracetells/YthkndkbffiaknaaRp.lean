/- The document's Check and Again. -/
import Derived.Test.YthkndkbffiaknaaRl
namespace Go.Proofs.Ythkndkbffiaknaa.Tz
open Go.RowKit Go.Shelf Go.Proofs.Ythkndkbffiaknaa
set_option maxRecDepth 1000000
set_option linter.unusedVariables false

set_option maxHeartbeats 8000000 in
theorem rcheck_any (l : List Ef) (v : Value) (hl : l.length ≤ 1000000) (w : World) (h : RE w v l) :
    Calls Try.prog 8 #[v] w fun e w' => e = .returned (.int .i64 (chkV l)) ∧ Below w.heap.size w w' := by
  obtain ⟨a, c, hvs, hlc⟩ := h.slice
  subst hvs
  obtain ⟨n, hn⟩ : ∃ n, l.length = n := ⟨_, rfl⟩
  have HN : Hid (l.length = n) := hn
  have HRE : Hid (∀ wx, Below w.heap.size w wx → RE wx (.slice a n c) l) := fun wx hb => by rw [← hn]; exact h.later hb
  have HLN : Hid (l.length ≤ 1000000) := hl
  rw [hn] at hl ⊢
  clear h hn hlc
  go_enter Try.func8, Try.ntmps8
  go_wp2_with fail
  go_loopw [3] (fun s3 wr => ∃ (i : Nat), s3 = .int .i64 i ∧ i ≤ n ∧ Hid (Below w.heap.size w wr) ∧ Hid (∀ p q, p < i → findE (l.getD p default).key l = some q → (l.getD p default).ok = (l.getD q default).ok)) (fun s3 _ => n - (intOf s3).toNat)
  case atStart => exact ⟨0, rfl, Nat.zero_le _, Below.refl _ _, fun p q hp => by omega⟩
  case round =>
    obtain ⟨i, rfl, hi, HB, HX⟩ := hrel
    rename World => wp
    by_cases hlt : i < n
    · have hil : i < l.length := by rw [HN.out]; exact hlt
      obtain ⟨_, b, off, ha, d0, d1, d2, d3⟩ := (HRE.out wp HB.out).at' hil
      subst ha
      have hii : (i : Int) < (n : Int) := by omega
      obtain ⟨e, he⟩ : ∃ e, l.getD i default = e := ⟨_, rfl⟩
      rw [he] at d0 d1 d2 d3
      have HE : Hid (l.getD i default = e) := he
      obtain ⟨j, hj1, hj2, _⟩ := find_first hil
      rw [he] at hj1
      have HJ : Hid (findE e.key l = some j) := hj1
      have hjn : (j : Int) < (n : Int) := by omega
      have HFV : Hid (findV e.key l = (j : Int)) := by show _ = _; unfold findV; rw [hj1]
      have HFI : Hid (Calls Try.prog 12 #[.slice (some ⟨b, off, none⟩) n c, .agg #[.int .i64 e.i, .bool e.u, .int .i64 e.t]] wp fun z w' => z = .returned (.int .i64 (findV e.key l)) ∧ Below wp.heap.size wp w') := rfind_any e.key l _ wp (HRE.out wp HB.out) HLN.out
      rw [HFV.out] at HFI
      have HJN : Hid (j < l.length) := by show _ < _; rw [HN.out]; omega
      clear he hj1 hj2 hil
      go_wp2_with fail
      refine Calls.mono HFI.out ?_
      rintro z wr ⟨rfl, hb2⟩
      have HB2 : Hid (Below w.heap.size w wr) := HB.out.trans (hb2.mono HB.out.size)
      obtain ⟨_, b', off', ha', x0, x1, x2, x3⟩ := (HRE.out wr HB2.out).at' (i := i) (by rw [HN.out]; exact hlt)
      obtain ⟨_, b2, off2, ha2, y0, y1, y2, y3⟩ := (HRE.out wr HB2.out).at' HJN.out
      simp only [Option.some.injEq, Addr.mk.injEq, and_true] at ha' ha2
      obtain ⟨rfl, rfl⟩ := ha'
      obtain ⟨rfl, rfl⟩ := ha2
      rw [HE.out] at x3
      obtain ⟨o1, ho1⟩ : ∃ o, e.ok = o := ⟨_, rfl⟩
      obtain ⟨o2, ho2⟩ : ∃ o, (l.getD j default).ok = o := ⟨_, rfl⟩
      have HO : Hid (e.ok = o1 ∧ (l.getD j default).ok = o2) := ⟨ho1, ho2⟩
      rw [ho1] at x3
      rw [ho2] at y3
      by_cases ho : o1 = o2
      · subst ho
        have HX2 : Hid (∀ p q, p < i + 1 → findE (l.getD p default).key l = some q → (l.getD p default).ok = (l.getD q default).ok) := fun p q hp hq => by
          by_cases e9 : p = i
          · subst e9
            rw [HE.out] at hq ⊢
            rw [HJ.out] at hq
            cases hq
            rw [HO.out.1, HO.out.2]
          · exact HX.out p q (by omega) hq
        have HBd : Hid (Below w.heap.size w wr.drew) := HB2.out.drew
        clear hb2 d0 d1 d2 d3 x0 x1 x2 y0 y1 y2 ho1 ho2 HFI HX
        go_wp2_with fail
        go_region
        go_wp2_with fail
        go_roundw
        case rel => exact ⟨i + 1, by go_num, by omega, HBd, HX2⟩
        case measure => simp [intOf]; omega
      · have HC : Hid (chkV l = 14) := chk_no (not_check (a := i) (b := j) (by rw [HN.out]; exact hlt) HJN.out (by rw [HE.out]; exact (find_at HJ.out).2.1) (by rw [HE.out, HO.out.1, HO.out.2]; exact fun h => ho h.symm))
        have HBd : Hid (Below w.heap.size w wr.drew) := HB2.out.drew
        clear hb2 d0 d1 d2 d3 x0 x1 x2 y0 y1 y2 ho1 ho2 HFI HX
        cases o1 <;> cases o2
        · exact absurd rfl ho
        · clear ho
          go_wp2_with fail
          go_region
          go_wp2_with fail
          go_ret
          exact ⟨(congrArg (fun z => Ending.returned (.int .i64 z)) HC.out.symm), HBd.out⟩
        · clear ho
          go_wp2_with fail
          go_region
          go_wp2_with fail
          go_ret
          exact ⟨(congrArg (fun z => Ending.returned (.int .i64 z)) HC.out.symm), HBd.out⟩
        · exact absurd rfl ho
    · have HC : Hid (chkV l = 0) := chk_ok (check_all (fun p q hp hq => HX.out p q (by rw [HN.out] at hp; omega) hq))
      clear HX
      go_wp2_with fail
      go_ret
      exact ⟨(congrArg (fun z => Ending.returned (.int .i64 z)) HC.out.symm), HB.out⟩

theorem agnTo_le (l : List Ef) : ∀ n, agnTo l n ≤ n
  | 0 => Nat.le_refl _
  | n + 1 => by
    have := agnTo_le l n
    unfold agnTo
    split <;> omega

set_option maxHeartbeats 8000000 in
theorem ragain_any (l : List Ef) (v : Value) (hl : l.length ≤ 1000000) (w : World) (h : RE w v l) :
    Calls Try.prog 10 #[v] w fun e w' => e = .returned (.int .i64 (agn [] l : Nat)) ∧ Below w.heap.size w w' := by
  obtain ⟨a, c, hvs, hlc⟩ := h.slice
  subst hvs
  obtain ⟨n, hn⟩ : ∃ n, l.length = n := ⟨_, rfl⟩
  have HN : Hid (l.length = n) := hn
  have HRE : Hid (∀ wx, Below w.heap.size w wx → RE wx (.slice a n c) l) := fun wx hb => by rw [← hn]; exact h.later hb
  have HLN : Hid (l.length ≤ 1000000) := hl
  have HEND : Hid (agnTo l n = agn [] l) := by show _ = _; rw [← hn]; exact agn_to l
  rw [hn] at hl ⊢
  clear h hn hlc
  go_enter Try.func10, Try.ntmps10
  go_wp2_with fail
  go_loopw [3, 4] (fun s3 s4 wr => ∃ (i : Nat), s4 = .int .i64 i ∧ s3 = .int .i64 (agnTo l i : Nat) ∧ i ≤ n ∧ Hid (Below w.heap.size w wr)) (fun _ s4 _ => n - (intOf s4).toNat)
  case atStart => exact ⟨0, rfl, rfl, Nat.zero_le _, Below.refl _ _⟩
  case round =>
    obtain ⟨i, rfl, rfl, hi, HB⟩ := hrel
    rename World => wp
    by_cases hlt : i < n
    · have hil : i < l.length := by rw [HN.out]; exact hlt
      obtain ⟨_, b, off, ha, d0, d1, d2, d3⟩ := (HRE.out wp HB.out).at' hil
      subst ha
      have hii : (i : Int) < (n : Int) := by omega
      obtain ⟨e, he⟩ : ∃ e, l.getD i default = e := ⟨_, rfl⟩
      obtain ⟨j, hj1, hj2, hj3⟩ := find_first hil
      have HFV : Hid (findV e.key l = (j : Int)) := by show _ = _; rw [← he]; unfold findV; rw [hj1]
      rw [he] at d0 d1 d2 d3
      have HFI : Hid (Calls Try.prog 12 #[.slice (some ⟨b, off, none⟩) n c, .agg #[.int .i64 e.i, .bool e.u, .int .i64 e.t]] wp fun z w' => z = .returned (.int .i64 (findV e.key l)) ∧ Below wp.heap.size wp w') := rfind_any e.key l _ wp (HRE.out wp HB.out) HLN.out
      rw [HFV.out] at HFI
      obtain ⟨g, hg⟩ : ∃ g, agnTo l i = g := ⟨_, rfl⟩
      have hgi : (g : Int) ≤ 1000000 := by have := agnTo_le l i; omega
      rw [hg]
      by_cases hji : j < i
      · have HG : Hid (agnTo l (i + 1) = g + 1) := by
          show _ = _
          unfold agnTo
          rw [if_pos (hj3.1 hji), hg]
        have hjii : (j : Int) < (i : Int) := by omega
        clear he hj1 hj2 hj3 hil hg
        go_wp2_with fail
        refine Calls.mono HFI.out ?_
        rintro z wr ⟨rfl, hb2⟩
        have HB2 : Hid (Below w.heap.size w wr) := HB.out.trans (hb2.mono HB.out.size)
        clear hb2 d0 d1 d2 d3 HFI
        go_wp2_with fail
        go_roundw
        case rel => exact ⟨i + 1, by go_num, by rw [HG.out]; go_num, by omega, HB2⟩
        case measure => simp [intOf]; omega
      · have HG : Hid (agnTo l (i + 1) = g) := by
          show _ = _
          unfold agnTo
          rw [if_neg (fun h => hji (hj3.2 h)), hg, Nat.add_zero]
        have hjii : ¬ (j : Int) < (i : Int) := by omega
        clear he hj1 hj2 hj3 hil hg
        go_wp2_with fail
        refine Calls.mono HFI.out ?_
        rintro z wr ⟨rfl, hb2⟩
        have HB2 : Hid (Below w.heap.size w wr) := HB.out.trans (hb2.mono HB.out.size)
        clear hb2 d0 d1 d2 d3 HFI
        go_wp2_with fail
        go_roundw
        case rel => exact ⟨i + 1, by go_num, by rw [HG.out], by omega, HB2⟩
        case measure => simp [intOf]; omega
    · obtain rfl : i = n := by omega
      rw [HEND.out]
      go_wp2_with fail
      go_ret
      exact ⟨rfl, HB.out⟩
end Go.Proofs.Ythkndkbffiaknaa.Tz
