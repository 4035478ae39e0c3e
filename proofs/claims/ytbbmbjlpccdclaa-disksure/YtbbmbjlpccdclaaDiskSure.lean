/- What was synced stands behind any crash, and each file is a beginning of what it was. -/
import Derived.Test.YtbbmbjlpccdclaaRows
import Derived.Test.YtbbmbjlpccdclaaXl
import Derived.Test.YtbbmbjlpccdclaaXm
import Derived.Test.YtbbmbjlpccdclaaMc
import Derived.ProofKit
import Derived.OpenShut
import Derived.ShutString
import Derived.ChangeOld
namespace Go.Proofs.Ytbbmbjlpccdclaa.diskSure
open Go.RowKit
set_option linter.unusedVariables false

theorem n_step (S : DS) (x : Ac) : (stepP S x).n = S.n := by
  unfold stepP
  split
  · exact write_n _ _ _ _
  · split
    · exact write_n _ _ _ _
    · split
      · exact armP_n _ _
      · split
        · exact crashP_n _ _
        · split
          · exact growP_n _ _
          · split
            · rfl
            · exact write_n _ _ _ _

theorem n_play (S : DS) : ∀ (L : List Ac), (playP S L).n = S.n := by
  intro L
  induction L generalizing S with
  | nil => rfl
  | cons x L ih =>
    show (playP (stepP S x) L).n = _
    rw [ih, n_step]

theorem has3 {S : DS} (h : S.n = 3) (i : Nat) (hi : i < 3) : hasB S i = true := by
  unfold hasB
  exact decide_eq_true (by omega)

theorem s_read {T : Nat → Prop} {w : World} {p : Nat} {S : DS} (hd : DK T w p S) (ho : Okay S) (hs : Small 10000000 1000000000000 S) (h3 : S.n = 3) (i : Nat) (hi : i < 3) : Calls Try.prog 15 #[.pointer (some ⟨p, 0, none⟩), .int .i64 i] w fun e w' => (∃ v, e = .returned v ∧ RB w' v (S.fs i).b) ∧ Below w.heap.size w w' := by
  have := read_any T w p S i hd ho hs
  unfold readP at this
  rw [has3 h3 i hi, if_pos rfl] at this
  exact this

theorem s_synced {T : Nat → Prop} {w : World} {p : Nat} {S : DS} (hd : DK T w p S) (ho : Okay S) (hs : Small 10000000 1000000000000 S) (h3 : S.n = 3) (i : Nat) (hi : i < 3) : Calls Try.prog 16 #[.pointer (some ⟨p, 0, none⟩), .int .i64 i] w fun e w' => e = .returned (.int .i64 (S.fs i).s) ∧ Below w.heap.size w w' := by
  have := synced_any T w p S i hd ho hs
  unfold syncedP at this
  rw [has3 h3 i hi, if_pos rfl] at this
  exact this

/-- Two rows of three: what was, and how much was sure. -/
structure Was (w : World) (A : Nat) (S : DS) (k : Nat) : Prop where
  ra : ∃ cs, w.heap[A]? = some (.cells cs 40 (0, 0)) ∧ cs.size = 3 ∧ ∀ j, j < k → cs[j]? = some (str (S.fs j).b)
  rb : ∃ cs, w.heap[A + 1]? = some (.cells cs 41 (0, 0)) ∧ cs.size = 3 ∧ ∀ j, j < k → cs[j]? = some (.int .i64 (S.fs j).s)

theorem Was.kept {w w' : World} {A : Nat} {S : DS} {k : Nat} {T : Nat → Prop} (h : Was w A S k) (hk : Kp T w w') (h1 : ¬ T A) (h2 : ¬ T (A + 1)) : Was w' A S k := by
  obtain ⟨⟨ca, q1, q2⟩, ⟨cb, q3, q4⟩⟩ := h
  exact ⟨⟨ca, (hk.block A (Array.getElem?_eq_some_iff.1 q1).1 h1).trans q1, q2⟩, ⟨cb, (hk.block (A + 1) (Array.getElem?_eq_some_iff.1 q3).1 h2).trans q3, q4⟩⟩

theorem Was.later {w w' : World} {A : Nat} {S : DS} {k : Nat} (h : Was w A S k) (hb : Below w.heap.size w w') : Was w' A S k := h.kept (Kp.of_below (fun _ => False) hb) (fun h => h) (fun h => h)

theorem Was.put {w : World} {A : Nat} {S : DS} {k : Nat} (h : Was w A S k) (hk : k < 3) : Was ((w.setCell ⟨A, k, none⟩ (str (S.fs k).b)).setCell ⟨A + 1, k, none⟩ (.int .i64 (S.fs k).s)) A S (k + 1) := by
  obtain ⟨⟨ca, q1, q2, q3⟩, ⟨cb, q4, q5, q6⟩⟩ := h
  refine ⟨⟨ca.setIfInBounds k (str (S.fs k).b), ?_, ?_, fun j hj => ?_⟩, ⟨cb.setIfInBounds k (.int .i64 (S.fs k).s), ?_, ?_, fun j hj => ?_⟩⟩
  · rw [Below.heap_setCell _ _ _ _ (by show A ≠ A + 1; omega)]
    exact heap_setCell_same _ _ _ _ 40 _ q1
  · simpa using q2
  · by_cases hjk : j = k
    · subst hjk
      rw [Array.getElem?_setIfInBounds_self_of_lt (by omega)]
    · rw [Array.getElem?_setIfInBounds_ne (by omega)]
      exact q3 j (by omega)
  · exact heap_setCell_same _ _ _ _ 41 _ (by rw [Below.heap_setCell _ _ _ _ (by show A + 1 ≠ A; omega)]; exact q4)
  · simpa using q5
  · by_cases hjk : j = k
    · subst hjk
      rw [Array.getElem?_setIfInBounds_self_of_lt (by omega)]
    · rw [Array.getElem?_setIfInBounds_ne (by omega)]
      exact q6 j (by omega)

theorem Was.cells {w : World} {A : Nat} {S : DS} {k : Nat} (h : Was w A S k) (i : Nat) (hi : i < 3) : (∃ u, w.cell? ⟨A, i, none⟩ = some u) ∧ (∃ u, w.cell? ⟨A + 1, i, none⟩ = some u) ∧ w.frozen? ⟨A, i, none⟩ = false ∧ w.frozen? ⟨A + 1, i, none⟩ = false := by
  obtain ⟨⟨ca, q1, q2, q3⟩, ⟨cb, q4, q5, q6⟩⟩ := h
  exact ⟨⟨_, by rw [cell_of_row _ _ _ _ 40 (0, 0) q1]; exact Array.getElem?_eq_getElem (by omega)⟩, ⟨_, by rw [cell_of_row _ _ _ _ 41 (0, 0) q4]; exact Array.getElem?_eq_getElem (by omega)⟩, frozen_of_row _ _ _ _ 40 q1, frozen_of_row _ _ _ _ 41 q4⟩

theorem Was.have {w : World} {A : Nat} {S : DS} (h : Was w A S 3) (i : Nat) (hi : i < 3) : w.cell? ⟨A, i, none⟩ = some (.string ⟨(S.fs i).b.toArray⟩) ∧ w.cell? ⟨A + 1, i, none⟩ = some (.int .i64 (S.fs i).s) := by
  obtain ⟨⟨ca, q1, q2, q3⟩, ⟨cb, q4, q5, q6⟩⟩ := h
  exact ⟨by rw [cell_of_row _ _ _ _ 40 (0, 0) q1]; exact q3 i hi, by rw [cell_of_row _ _ _ _ 41 (0, 0) q4]; exact q6 i hi⟩

set_option maxRecDepth 1000000 in
set_option maxHeartbeats 4000000 in
theorem walk (a : Option Addr) (n c : Nat) (L : List Ac) (kv : Value) (keep : List Int) (w : World) (hx : RAs w (.slice a n c) L) (hn : FitN L) (hk : RI w kv keep) :
    Calls Try.prog 4 #[.slice a n c, kv] w fun e w' => e = .returned (.bool true) ∧ Below w.heap.size w w' := by
  have HF : Hid _ := few_any _ L w hx
  obtain ⟨q, HQ⟩ : ∃ q, Hid (fewP L = q) := ⟨_, rfl⟩
  rw [HQ.out] at HF
  have HL : Hid _ := lives_any w
  have HKv : Hid (∀ wx, Below w.heap.size w wx → RI wx kv keep) := fun wx hb => hk.later hb
  have HLow : Hid (Low w.heap.size kv) := hk.low
  obtain ⟨ka, kc, hkv, hk1, hk2, _⟩ := hk
  subst hkv
  have hkm : keep.length ≤ maxLen := by omega
  unfold maxLen at hkm
  cases q with
  | false =>
    clear hx
    go_enter Try.func4, Try.ntmps4
    go_wp2_with fail
    refine Calls.mono HF.out ?_
    rintro e w1 ⟨rfl, rfl⟩
    go_wp2_with fail
    refine Calls.mono HL.out ?_
    rintro e w2 ⟨rfl, hb⟩
    go_wp2_with fail
    go_ret
    exact ⟨rfl, hb⟩
  | true =>
    by_cases hkl : 200 < keep.length
    · have hkl2 : (200 : Int) < (keep.length : Int) := by omega
      clear hx
      go_enter Try.func4, Try.ntmps4
      go_wp2_with fail
      refine Calls.mono HF.out ?_
      rintro e w1 ⟨rfl, rfl⟩
      go_wp2_with fail
      refine Calls.mono HL.out ?_
      rintro e w2 ⟨rfl, hb⟩
      go_wp2_with fail
      go_ret
      exact ⟨rfl, hb⟩
    have hkl2 : ¬ (200 : Int) < (keep.length : Int) := by omega
    have HBg : Hid _ := begun_any a n c L w hx HQ.out hn
    obtain ⟨hl, _⟩ := few_len HQ.out
    obtain ⟨S, HS0⟩ : ∃ S, Hid (playP (newP 3 4000) L = S) := ⟨_, rfl⟩
    have h3 : S.n = 3 := by rw [← HS0.out]; exact n_play _ _
    rw [HS0.out] at HBg
    have hLb : Lk L.length ≤ 600000 := by unfold Lk; omega
    have hRb : Rk L.length ≤ 10050000000 := by unfold Rk; omega
    clear HS0 HQ hn HL
    go_enter Try.func4, Try.ntmps4
    go_wp2_with fail
    refine Calls.mono HF.out ?_
    rintro e w0 ⟨rfl, rfl⟩
    go_wp2_with fail
    refine Calls.mono HBg.out ?_
    rintro e w1 ⟨p, rfl, ⟨⟨T, hdk, hTB⟩, hok, hsm, hBs⟩, hb1⟩
    have HT : Hid (∀ k, T k → w0.heap.size ≤ k) := hTB
    have hT := hdk.live
    have HOk : Hid (Okay S) := hok
    have HSm : Hid (Small 600000 10050000000 S) := small_mono hsm hLb hRb
    obtain ⟨A, HA⟩ : ∃ A, Hid (A = w1.heap.size) := ⟨_, rfl⟩
    have HTA : Hid (¬ T A ∧ ¬ T (A + 1)) := ⟨fun h => by have := hT _ h; have := HA.out; omega, fun h => by have := hT _ h; have := HA.out; omega⟩
    have HDK : Hid _ := hdk
    have HB1 : Hid _ := hb1
    clear hdk hok hsm hTB hT HBg HF hb1 hx
    go_wp2_with fail
    have HW : Hid (Was ((w1.alloc (.cells #[.string ⟨#[]⟩, .string ⟨#[]⟩, .string ⟨#[]⟩] 40)).alloc (.cells #[.int .i64 0, .int .i64 0, .int .i64 0] 41)) A S 0) := by
      rw [HA.out]
      refine ⟨⟨#[.string ⟨#[]⟩, .string ⟨#[]⟩, .string ⟨#[]⟩], ?_, rfl, fun j hj => by omega⟩, ⟨#[.int .i64 0, .int .i64 0, .int .i64 0], heap_new _ _ _ (by simp), rfl, fun j hj => by omega⟩⟩
      rw [Below.heap_alloc _ _ _ (by simp)]
      exact heap_new _ _ _ rfl
    have HB2 : Hid (Below w0.heap.size w0 ((w1.alloc (.cells #[.string ⟨#[]⟩, .string ⟨#[]⟩, .string ⟨#[]⟩] 40)).alloc (.cells #[.int .i64 0, .int .i64 0, .int .i64 0] 41))) := HB1.out.trans ((alloc2 w1 _ _).mono HB1.out.size)
    have HDK2 : Hid (DK T ((w1.alloc (.cells #[.string ⟨#[]⟩, .string ⟨#[]⟩, .string ⟨#[]⟩] 40)).alloc (.cells #[.int .i64 0, .int .i64 0, .int .i64 0] 41)) p S) := DK.later HDK.out (alloc2 _ _ _)
    rw [← HA.out]
    have hAB : w0.heap.size ≤ A := by rw [HA.out]; exact HB1.out.size
    generalize (w1.alloc (.cells #[.string ⟨#[]⟩, .string ⟨#[]⟩, .string ⟨#[]⟩] 40)).alloc (.cells #[.int .i64 0, .int .i64 0, .int .i64 0] 41) = w2 at *
    have hs2 : Small 10000000 1000000000000 S := small_mono HSm.out (by omega) (by omega)
    have HS2 : Hid _ := hs2
    have H3 : Hid (S.n = 3) := h3
    clear HDK HB1 HA hs2 h3 hBs
    go_loopw [8] (fun i wr => ∃ k : Nat, k ≤ 3 ∧ i = .int .i64 k ∧ Hid (DK T wr p S) ∧ Hid (Was wr A S k) ∧ Hid (Below w0.heap.size w0 wr)) (fun i _ => 3 - (intOf i).toNat)
    case atStart => exact ⟨0, by omega, rfl, HDK2, HW, HB2⟩
    case round =>
      obtain ⟨k, hk3, rfl, HD, HWk, HB⟩ := hrel
      by_cases hlt : k < 3
      · have HRd : Hid _ := s_read (DK.later HD.out (Below.refl _ _).drew) HOk.out HS2.out H3.out k hlt
        have HSy : Hid (∀ wx, DK T wx p S → _) := fun wx h => s_synced h HOk.out HS2.out H3.out k hlt
        obtain ⟨b, HBb⟩ : ∃ b, Hid ((S.fs k).b = b) := ⟨_, rfl⟩
        obtain ⟨s, HSs⟩ : ∃ s, Hid ((S.fs k).s = s) := ⟨_, rfl⟩
        rw [HBb.out] at HRd
        rw [HSs.out] at HSy
        go_wp2_with fail
        go_region_with (first
          | (go_at_call 15; refine Calls.mono HRd.out ?_; rintro e w4 ⟨⟨v, rfl, hv4⟩, hb4⟩
             have hcv4 := string_of_RB hv4
             have hb4' : Below wr.heap.size wr w4 := (Below.refl _ _).drew.trans hb4
             have HD4 := DK.later HD.out hb4')
          | (go_at_call 16; refine Calls.mono (HSy.out w4 HD4) ?_; rintro e w5 ⟨rfl, hb5⟩
             have hcv5 := string_of_RB (hv4.later hb5)
             have HB5 : Hid (Below wr.heap.size wr w5) := hb4'.trans (hb5.mono hb4'.size)
             have HW5 : Hid (Was w5 A S k) := HWk.out.later HB5.out
             obtain ⟨⟨ua, q1⟩, ⟨ub, q2⟩, q3, q4⟩ := HW5.out.cells k hlt))
        all_goals
          have HWn : Hid (Was ((w5.setCell ⟨A, k, none⟩ (.string ⟨b.toArray⟩)).setCell ⟨A + 1, k, none⟩ (.int .i64 s)) A S (k + 1)) := by
            have := HW5.out.put hlt
            rw [HBb.out, HSs.out] at this
            exact this
          have HKn : Kp (fun j => j = A ∨ j = A + 1) w5 ((w5.setCell ⟨A, k, none⟩ (.string ⟨b.toArray⟩)).setCell ⟨A + 1, k, none⟩ (.int .i64 s)) := ((Kp.refl _ _).set _ _ (.inl rfl)).set _ _ (.inr rfl)
          have HDn : Hid (DK T ((w5.setCell ⟨A, k, none⟩ (.string ⟨b.toArray⟩)).setCell ⟨A + 1, k, none⟩ (.int .i64 s)) p S) := (DK.later HD.out HB5.out).kept HKn (fun j hj he => by
            rcases he with he | he
            · exact HTA.out.1 (he ▸ hj)
            · exact HTA.out.2 (he ▸ hj))
          have HB6 : Hid (Below w0.heap.size w0 w5) := HB.out.trans (HB5.out.mono HB.out.size)
          have HBn : Hid (Below w0.heap.size w0 ((w5.setCell ⟨A, k, none⟩ (.string ⟨b.toArray⟩)).setCell ⟨A + 1, k, none⟩ (.int .i64 s))) := (HB6.out.setCell hAB _).setCell (Nat.le_trans hAB (Nat.le_succ _)) _
          generalize (w5.setCell ⟨A, k, none⟩ (.string ⟨b.toArray⟩)).setCell ⟨A + 1, k, none⟩ (.int .i64 s) = w6 at *
          clear q1 q2 q3 q4 hcv4 hcv5 hv4 hb4 hb4' hb5 HD4 HKn HSy HRd
          go_wp2_with fail
          go_roundw
          case rel => exact ⟨k + 1, by omega, by go_num, HDn, HWn, HBn⟩
          case measure => simp [intOf]; omega
      · have hk33 : k = 3 := by omega
        subst hk33
        have HCr : Hid _ := crash_any T wr p S (.slice ka keep.length kc) keep HD.out HOk.out (small_mono HSm.out (by omega) (by omega)) (HKv.out wr HB.out) (fun h0 a n c he hT => by
          have h1 := HT.out _ hT
          have h2 : a.block < w0.heap.size := by
            cases he
            exact HLow.out a _ _ h0 rfl
          omega) (by omega)
        have H32 : Hid ((crashP S keep).n = 3) := by show _ = _; rw [crashP_n]; exact H3.out
        have HOk2 : Hid (Okay (crashP S keep)) := HOk.out.crash keep
        have HSm2 : Hid (Small 10000000 1000000000000 (crashP S keep)) := small_mono (small_crash HSm.out HOk.out keep) (by omega) (by omega)
        have HDn2 : Hid ((crashP S keep).down = false) := rfl
        have HFs : Hid (∀ i, i < 3 → (crashP S keep).fs i = ⟨(S.fs i).b.take (tornN (keep.getD i 0) (S.fs i)), tornN (keep.getD i 0) (S.fs i)⟩) := fun i hi => by
          have := crashP_fs S keep i (by rw [H3.out]; exact hi)
          exact this
        obtain ⟨S2, HSS⟩ : ∃ S2, Hid (crashP S keep = S2) := ⟨_, rfl⟩
        rw [HSS.out] at HCr H32 HOk2 HSm2 HDn2 HFs
        go_wp2_with fail
        refine Calls.mono HCr.out ?_
        rintro e w4 ⟨rfl, hd4, hk4⟩
        have HW4 : Hid (Was w4 A S 3) := HWk.out.kept hk4 HTA.out.1 HTA.out.2
        have HB4 : Hid (Below w0.heap.size w0 w4) := HB.out.trans (hk4.below HB.out.size HT.out)
        have HD4 : Hid (DK (Wid T wr w4) w4 p S2) := hd4
        have HDn : Hid (Calls Try.prog 18 #[.pointer (some ⟨p, 0, none⟩)] w4 fun e w' => e = .returned (.bool false) ∧ Below w4.heap.size w4 w') := by
          obtain ⟨V, hv⟩ := hd4
          have := down_any p S2.n S2.down w4 hv.cnt (by rw [H32.out]; omega) hv.dn
          rw [HDn2.out] at this
          exact this
        clear HCr hd4 hk4 HDn2 HSS
        go_wp2_with fail
        refine Calls.mono HDn.out ?_
        rintro e w5 ⟨rfl, hb5⟩
        have HD5 : Hid (DK (Wid T wr w4) w5 p S2) := DK.later HD4.out hb5
        have HW5 : Hid (Was w5 A S 3) := HW4.out.later hb5
        have HB5 : Hid (Below w0.heap.size w0 w5) := HB4.out.trans (hb5.mono HB4.out.size)
        clear HDn hb5 HD4 HW4 HB4 HWk HD
        go_wp2_with fail
        go_loopw [9] (fun i wz => ∃ k : Nat, k ≤ 3 ∧ i = .int .i64 k ∧ Hid (DK (Wid T wr w4) wz p S2) ∧ Hid (Was wz A S 3) ∧ Hid (Below w0.heap.size w0 wz)) (fun i _ => 3 - (intOf i).toNat)
        case atStart => exact ⟨0, by omega, rfl, HD5, HW5, HB5⟩
        case round =>
          obtain ⟨j, hj3, rfl, HDj, HWj, HBj⟩ := hrel
          rename World => wz
          by_cases hlt : j < 3
          · have HRd : Hid _ := s_read HDj.out HOk2.out HSm2.out H32.out j hlt
            have hfs := HFs.out j hlt
            have hsy := tornN_le (keep.getD j 0) (S.fs j) (HOk.out.syn j)
            have hlen : (S.fs j).b.length ≤ 600000 := HSm.out.len j
            rw [hfs] at HRd
            have HSy : Hid (∀ wx, DK (Wid T wr w4) wx p S2 → _) := fun wx h => s_synced h HOk2.out HSm2.out H32.out j hlt
            rw [hfs] at HSy
            obtain ⟨b, HBb⟩ : ∃ b, Hid ((S.fs j).b = b) := ⟨_, rfl⟩
            obtain ⟨s, HSs⟩ : ∃ s, Hid ((S.fs j).s = s) := ⟨_, rfl⟩
            generalize tornN (keep.getD j 0) (S.fs j) = t at *
            have HWv : Hid (∀ wx, Below wz.heap.size wz wx → wx.cell? ⟨A, j, none⟩ = some (.string ⟨b.toArray⟩) ∧ wx.cell? ⟨A + 1, j, none⟩ = some (.int .i64 s)) := fun wx hb => by
              have := (HWj.out.later hb).have j hlt
              rw [HBb.out, HSs.out] at this
              exact this
            rw [HBb.out] at HRd hsy hlen
            rw [HSs.out] at hsy
            have htl : (b.take t).length = t := by rw [List.length_take]; omega
            have hz1 := str_size b
            have hz2 := str_size (b.take t)
            rw [htl] at hz2
            have hex : (⟨b.toArray⟩ : ByteArray).extract 0 t = ⟨(b.take t).toArray⟩ := str_take b t hsy.2
            obtain ⟨hs1, hs2⟩ := hsy
            have HSy2 : Hid (∀ wx, DK (Wid T wr w4) wx p S2 → Calls Try.prog 16 #[.pointer (some ⟨p, 0, none⟩), .int .i64 j] wx fun e w' => e = .returned (.int .i64 t) ∧ Below wx.heap.size wx w') := HSy
            clear hfs HFs HSy htl
            generalize b.take t = bt at *
            generalize b.length = bl at *
            go_wp2_with fail
            refine Calls.mono HRd.out ?_
            rintro e w6 ⟨⟨v, rfl, hv6⟩, hb6⟩
            have hcv6 := string_of_RB hv6
            obtain ⟨va, vc, rfl, _, _, _, _⟩ := hv6
            obtain ⟨q1, q2⟩ := HWv.out w6 hb6
            have HD6 : Hid (DK (Wid T wr w4) w6 p S2) := DK.later HDj.out hb6
            have HQ : Hid _ := HSy2.out w6 HD6.out
            have HW6 : Hid (Was w6 A S 3) := HWj.out.later hb6
            have HB6 : Hid (Below w0.heap.size w0 w6) := HBj.out.trans (hb6.mono HBj.out.size)
            clear HRd HSy2 hb6
            go_wp2_with fail
            refine Calls.mono HQ.out ?_
            rintro e w7 ⟨rfl, hb7⟩
            have HD7 : Hid (DK (Wid T wr w4) w7 p S2) := DK.later HD6.out hb7
            have HW7 : Hid (Was w7 A S 3) := HW6.out.later hb7
            have HB7 : Hid (Below w0.heap.size w0 w7) := HB6.out.trans (hb7.mono HB6.out.size)
            clear HQ hb7
            go_wp2_with fail
            go_roundw
            case rel => exact ⟨j + 1, by omega, by go_num, HD7, HW7, HB7⟩
            case measure => simp [intOf]; omega
          · have HL2 : Hid _ := lives_any wz
            go_wp2_with fail
            refine Calls.mono HL2.out ?_
            rintro e w7 ⟨rfl, hb7⟩
            go_wp2_with fail
            go_ret
            exact ⟨rfl, HBj.out.trans (hb7.mono HBj.out.size)⟩

open Go.ChangeShapes Go.WideShapes Go.ChangeAt

theorem own : ownKnob Try.prog.godebug = none := by kernel_rfl
theorem laidOut : laidOutB Try.prog = true := by kernel_rfl

set_option maxRecDepth 100000 in
theorem lifted (os : Os) (started : os.Started) (H : Type) (enc : TypeId × Value → H) :
    ReturnsInHanded {} Try.checked os 4 .any (Rows.diskSureSpec.pre6 enc Try.prog Try.f4 Rows.diskSureRow.domain false) (Rows.diskSureSpec.post enc Try.prog Try.f4 false true false false) := by
  refine returnsInHanded_of_change (C := Try.checked) own started (by kernel_rfl) Try.func4
    (ChangeSpec.witness6 (enc := enc) (C := Try.checked) false ⟨#[], #[.slice none 0 0, .slice none 0 0], []⟩ 8 (by kernel_rfl) (by kernel_rfl) (by kernel_rfl) (by kernel_rfl)) ?_
  intro W base args ds gs before hval0 hW hcnd _
  have hval : ∀ (j : Nat) t v, Try.f4.params[j]? = some t → args[j]? = some v → Value.okWide Try.prog W .any base t v := hval0
  have hW' := hW
  obtain ⟨p, q, hA0, hV, rfl, hfz, hnd⟩ := hW
  have hA : DataW.TrodAll enc Try.prog W 0 (fun _ => true) true Try.f4.params.toList args.toList ds p := hA0
  rw [Try.params4] at hA hval
  obtain ⟨v0, vs0, d0, ds0, p0, q0, hargs, rfl, rfl, h0, r0⟩ := trodAll_cons hA
  obtain ⟨v1, vs1, d1, ds1, p1, q1, rfl, rfl, rfl, h1, r1⟩ := trodAll_cons r0
  obtain ⟨rfl, rfl, rfl⟩ := trodAll_nil r1
  obtain rfl : args = #[v0, v1] := by cases args; simp_all
  obtain ⟨rfl, rfl⟩ := trodVars_none hV
  obtain ⟨a0, len0, cap0, rfl⟩ := okWide_slice Try.underlying22 (hval 0 22 v0 rfl rfl)
  have k0 := h0
  have lt0 : ∀ x ∈ p0, x.block < W.heap.size := by obtain ⟨m, hm⟩ := k0; exact DataW.trod_lt m _ _ _ hm
  obtain ⟨z0, w0, u0⟩ : ∃ L, RAs W (.slice a0 len0 cap0) L ∧ FitN L := by
    obtain ⟨fuel, hf⟩ := h0
    exact open_acts hf
  obtain ⟨a1, len1, cap1, rfl⟩ := okWide_slice Try.underlying34 (hval 1 34 v1 rfl rfl)
  have k1 := h1
  have lt1 : ∀ x ∈ p1, x.block < W.heap.size := by obtain ⟨m, hm⟩ := k1; exact DataW.trod_lt m _ _ _ hm
  obtain ⟨z1, w1⟩ : ∃ L, RI W (.slice a1 len1 cap1) L := by
    obtain ⟨fuel, hf⟩ := h1
    obtain ⟨v, l, hv, hl⟩ := open_i64s hf
    simp [Value.cells] at hv
    subst hv
    exact ⟨l, hl⟩
  clear hA0 hval0
  refine (walk a0 len0 cap0 z0 (.slice a1 len1 cap1) z1 W w0 u0 w1).mono fun e W' ⟨he, bel⟩ => ?_
  subst he
  exact ⟨_, rfl, _, _, _, [], _, [], hW', trodAll_mk1 (shut_bool Try.underlying4 _), (trodAll_cons_mk (Below.trod laidOut (by kernel_rfl) (of_decide_eq_true (by kernel_rfl)) k0 bel lt0) (trodAll_cons_mk (Below.trod laidOut (by kernel_rfl) (of_decide_eq_true (by kernel_rfl)) k1 bel lt1) trodAll_mk0)), rfl, bel.frame _, fun h => by cases h⟩

theorem over : Rows.diskSureRow.holds Try.pinned (OpenSpec.ofChange Rows.diskSureSpec) :=
  OpenClaim.holds_of_wide 4 Try.f4 rfl rfl rfl rfl rfl rfl rfl ⟨rfl, rfl, rfl, rfl, rfl⟩ rfl rfl rfl rfl rfl (by kernel_rfl) Try.func4 (by kernel_rfl)
    (of_decide_eq_true (by kernel_rfl)) (by unfold Func.isWrapper; first | (rw [if_pos (by decide +kernel)]; kernel_rfl) | (rw [if_neg (by decide +kernel)]; exact ⟨rfl, rfl⟩))
    (fun os started H enc _ => lifted os started H enc)
end Go.Proofs.Ytbbmbjlpccdclaa.diskSure
namespace Go.Proofs.Ytbbmbjlpccdclaa

theorem diskSure_holds : Rows.DiskSureSaid := diskSure.over
#print axioms diskSure_holds
end Go.Proofs.Ytbbmbjlpccdclaa
