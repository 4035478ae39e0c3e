/- The walk over PoolGoes. -/
import Derived.Test.YtfhmmiilenonkaaVr
import Derived.Test.YtfhmmiilenonkaaVo
namespace Go.Proofs.Ytfhmmiilenonkaa
open Go.RowKit Go.Shelf
set_option maxRecDepth 1000000
set_option linter.unusedVariables false

variable {N : Nat} {F : Nat → Prop} {w w' : World} {p r n : Nat} {s : Pq.St Jb}

set_option maxHeartbeats 16000000 in
theorem goes_walk (a0 : Option Addr) (nn c0 : Nat) (l : List AcP) (a1 : Option Addr) (n1 c1 : Nat) (us : List UInt8) (a2 : Option Addr) (n2 c2 : Nat) (ps : List Int) (w : World) (hx0 : RA w (.slice a0 nn c0) l) (hu : RB w (.slice a1 n1 c1) us) (hp : RW w (.slice a2 n2 c2) ps) :
    Calls Try.prog 4 #[.slice a0 nn c0, .slice a1 n1 c1, .slice a2 n2 c2] w fun e w' => e = .returned (.bool true) ∧ Below w.heap.size w w' := by
  have HF : Hid _ := few_any w (.slice a0 nn c0) l hx0
  have HLv : Hid (∀ wx, Calls Try.prog 8 #[] wx fun e w' => e = .returned (.bool true) ∧ Below wx.heap.size wx w') := fun wx => lives_any wx
  have HX0 : Hid (∀ wx, Below w.heap.size w wx → RA wx (.slice a0 nn c0) l) := fun wx hb => hx0.later hb
  have HU : Hid (∀ i, i < n1 → ∃ b off, a1 = some ⟨b, off, none⟩ ∧ ∃ u : Nat, u ≤ 255 ∧ w.cell? ⟨b, off + i, none⟩ = some (.int .u8 (u : Int))) := fun i hi => by
    obtain ⟨a, cap, he, q1, q2, q3, q4⟩ := hu
    obtain ⟨rfl, rfl, _⟩ := Value.slice.inj he
    obtain ⟨b, off, h1, h2⟩ := q4 i hi
    exact ⟨b, off, h1, _, by have := (us.getD i 0).toNat_lt; omega, h2⟩
  have HPs : Hid (∀ i, i < n2 → ∃ b off, a2 = some ⟨b, off, none⟩ ∧ ∃ x : Int, (-9223372036854775808 ≤ x ∧ x ≤ 9223372036854775807) ∧ w.cell? ⟨b, off + i, none⟩ = some (.int .i64 x)) := fun i hi => by
    obtain ⟨⟨a, cap, he, q1, q2, q4⟩, hw⟩ := hp
    obtain ⟨rfl, rfl, _⟩ := Value.slice.inj he
    obtain ⟨b, off, h1, h2⟩ := q4 i hi
    refine ⟨b, off, h1, _, hw _ ?_, h2⟩
    rw [List.getD_eq_getElem?_getD, List.getElem?_eq_getElem hi]
    exact List.getElem_mem hi
  have hn1 : n1 ≤ c1 ∧ c1 ≤ maxLen := by
    obtain ⟨a, cap, he, q1, q2, q3, q4⟩ := hu
    obtain ⟨rfl, rfl, rfl⟩ := Value.slice.inj he
    exact ⟨q1, q2⟩
  have hn2 : n2 ≤ c2 ∧ c2 ≤ maxLen := by
    obtain ⟨⟨a, cap, he, q1, q2, q4⟩, hw⟩ := hp
    obtain ⟨rfl, rfl, rfl⟩ := Value.slice.inj he
    exact ⟨q1, q2⟩
  obtain ⟨hc1, hm1⟩ := hn1
  obtain ⟨hc2, hm2⟩ := hn2
  clear hx0 hu hp
  go_enter Try.func4, Try.ntmps4
  go_wp2_with fail
  refine Calls.mono HF.out ?_
  rintro e w1 ⟨q, rfl, hq, hb1⟩
  have HB1 : Hid _ := hb1
  by_cases hqq : q = true ∧ n2 ≤ 500
  rotate_left
  · cases q with
    | false =>
      clear hb1 hq HF hqq
      go_wp2_with fail
      refine Calls.mono (HLv.out w1) ?_
      rintro e w3 ⟨rfl, hb3⟩
      have HB3 : Hid (Below w.heap.size w w3) := HB1.out.trans (hb3.mono HB1.out.size)
      clear hb3
      go_wp2_with fail
      go_ret
      exact ⟨rfl, HB3.out⟩
    | true =>
      have h500 : (500 : Int) < (n2 : Int) := by
        have : ¬ n2 ≤ 500 := fun h => hqq ⟨rfl, h⟩
        omega
      have hdd : decide ((500 : Int) < (n2 : Int)) = true := decide_eq_true h500
      clear hb1 hq HF hqq
      go_wp2_with fail
      refine Calls.mono (HLv.out w1) ?_
      rintro e w3 ⟨rfl, hb3⟩
      have HB3 : Hid (Below w.heap.size w w3) := HB1.out.trans (hb3.mono HB1.out.size)
      clear hb3
      go_wp2_with fail
      go_ret
      exact ⟨rfl, HB3.out⟩
  · obtain ⟨rfl, h500⟩ := hqq
    have h5i : ¬ (500 : Int) < (n2 : Int) := by omega
    have hdd : decide ((500 : Int) < (n2 : Int)) = false := decide_eq_false h5i
    have HBg : Hid _ := begun_any (HX0.out w1 hb1) (hq rfl).1 (hq rfl).2
    clear hb1 hq HF HX0
    go_wp2_with fail
    refine Calls.mono HBg.out ?_
    rintro e w2 ⟨p, r, rfl, hpb, hb2⟩
    obtain ⟨F, hlp⟩ := hpb.lp
    have HL : Hid _ := hlp
    have HI : Hid _ := hpb.inv
    have HB2 : Hid (Below w.heap.size w w2) := HB1.out.trans (hb2.mono HB1.out.size)
    have HN0 : Hid (w.heap.size ≤ w1.heap.size) := HB1.out.size
    generalize playsP 3 l = s0 at *
    have HLn : Hid _ := len_w hlp hpb.inv
    have hsn : s0.cnt ≤ 400 := by
      have h1 := hpb.inv.cntU 3
      rw [cntU_all hlp.ok] at h1
      omega
    clear hpb hb2 HBg hlp
    obtain ⟨n, hn⟩ : ∃ q, s0.cnt = q := ⟨_, rfl⟩
    have HNn : Hid _ := hn
    rw [hn] at HLn hsn
    clear hn
    go_wp2_with fail
    refine Calls.mono HLn.out ?_
    rintro e w3 ⟨rfl, hb3⟩
    have HL3 : Hid _ := HL.out.later hb3
    have HB3 : Hid (Below w.heap.size w w3) := HB2.out.trans (hb3.mono HB2.out.size)
    have H0 : s0.cnt + 0 = n := HNn.out
    clear hb3 HLn HL
    go_wp2_with fail
    go_loopw [9] (fun s9 wr => ∃ (i : Nat) (s : Pq.St Jb), s9 = .int .i64 i ∧ i ≤ n ∧ s.cnt + i = n ∧ Hid (LP w1.heap.size F wr p 3 s) ∧ Hid (PInv s) ∧ Hid (Below w.heap.size w wr)) (fun s9 _ => n - (intOf s9).toNat)
    case atStart => exact ⟨0, s0, rfl, Nat.zero_le _, H0, HL3, HI, HB3⟩
    case round =>
      obtain ⟨i, s, rfl, hi, hcnt, HO, HIv, HB⟩ := hrel
      rename World => wr
      by_cases hlt : i < n
      · have hin : (i : Int) < (n : Int) := by omega
        by_cases hw : i < n1
        · have hwi : (i : Int) < (n1 : Int) := by omega
          obtain ⟨ub, uo, rfl, uu, hu255, hcu⟩ := HU.out i hw
          obtain ⟨k, hk⟩ : ∃ k : Nat, k = uu % 3 := ⟨_, rfl⟩
          have hk3 : k < 3 := by omega
          have hkm : (uu : Int).tmod 3 = (k : Int) := by rw [Int.tmod_eq_emod_of_nonneg (by omega)]; omega
          have hkm2 : (uu : Int) % 3 = (k : Int) := by omega
          have hcu2 := cell_later HB.out hcu
          have huu : (uu : Int) ≤ 255 := by omega
          clear hk hcu
          by_cases hpp : i < n2
          · have hpi : (i : Int) < (n2 : Int) := by omega
            obtain ⟨pb, po, rfl, pk, hpk, hcp⟩ := HPs.out i hpp
            have hcp2 := cell_later HB.out hcp
            clear hcp
            have HT : Hid _ := take_w (v := k) (pk) HO.out HIv.out hk3 hpk
            have HTK : Hid _ := Pq.take_took HO.out.ok (w := k) hk3 (frm (pk) 3)
            have HGo : Hid _ := Pq.take_goes HO.out.ok (w := k) hk3 (frm (pk) 3) (by omega)
            go_wp2_with fail
            refine Calls.mono HT.out ?_
            rintro e w4 ⟨⟨q1, q2, q3⟩, _⟩
            obtain ⟨j, u, hx, h1⟩ := HGo.out
            rw [hx] at q3
            obtain ⟨sv, rfl, q4⟩ := q3
            have hjl : j.s.length ≤ 1000 := TakeC2.few HIv.out HO.out.ok hk3 hx
            have HI4 : Hid _ := HIv.out.take 3 k (frm (pk) 3)
            have HCn : Hid _ := HTK.out.cnt
            have HOk4 : Hid _ := HTK.out.ok
            obtain ⟨⟨s1, o1⟩, hts⟩ : ∃ q, Pq.takeS s 3 k (frm (pk) 3) = q := ⟨_, rfl⟩
            rw [hts] at q2 HI4 HCn h1 HOk4
            dsimp only at q2 HI4 HCn h1 HOk4
            have HL4 : Hid _ := q2
            have HB4 : Hid (Below w.heap.size w w4) := HB.out.trans ((Mv.below q1 HO.out.le).mono HN0.out)
            have HBx : Hid _ := bl1 w4 (.cells (jrow (j, sv)).toArray 37)
            have HL5 : Hid _ := HL4.out.later HBx.out
            have HH1 : Hid (s1.hd k = some j) := h1
            have HHe : Hid _ := held_some HL5.out HI4.out (v := k) hk3 h1
            have RJ5 : Hid _ := row_new w4 (jrow (j, sv)).toArray 37
            have HQ4 : Hid (RI w4 sv j.s) := q4.1
            obtain ⟨ja, jc, hsv, _⟩ := q4.1
            subst hsv
            obtain ⟨ml, hml⟩ : ∃ m, j.s.length = m := ⟨_, rfl⟩
            have HML : Hid _ := hml
            have HJL : Hid _ := hjl
            obtain ⟨ji, ju, jt, jb, jk, js⟩ := j
            unfold JV
            dsimp only at *
            rw [hml] at HBx HL5 HHe RJ5 HQ4 ⊢
            clear q1 q2 q4 HT HTK HGo hx hts h1 hml hjl
            go_wp2_with fail
            refine Calls.mono HHe.out ?_
            rintro e w6 ⟨sv2, rfl, y1, hb6⟩
            obtain ⟨ka, kc, hsv2, _⟩ := id y1
            have HY1 : Hid (RI w6 sv2 js) := y1
            subst hsv2
            have r6 := row_later RJ5.out hb6
            obtain ⟨d0, d1, d2, d3, d4, d5⟩ := JC.of_row (e := ⟨ji, ju, jt, jb, jk, js⟩) (v := .slice ja ml jc) r6
            simp only [Nat.zero_add] at d0 d1 d2 d3 d4 d5
            have hl6 := row_lt r6
            have hq6 : RI w6 (.slice ja ml jc) js := (HQ4.out.later HBx.out).later hb6
            have HL6 : Hid _ := HL5.out.later hb6
            have HB6 : Hid (Below w.heap.size w w6) := (HB4.out.trans (HBx.out.mono HB4.out.size)).trans (hb6.mono (HB4.out.trans (HBx.out.mono HB4.out.size)).size)
            unfold JV
            dsimp only
            rw [HML.out] at HY1 ⊢
            have HB7 : Hid _ := bl1 w6 (.cells #[.int .i64 ji, .bool ju, .int .i64 jt, .bool jb, .int .i64 jk, .slice ka ml kc] 37)
            have HSM : Hid _ := same_job ⟨ji, ju, jt, jb, jk, js⟩ ⟨ji, ju, jt, jb, jk, js⟩ (.slice ja ml jc) (.slice ka ml kc) _ (hq6.later HB7.out) (HY1.out.later HB7.out) (Nat.le_trans HJL.out (by omega)) (Nat.le_trans HJL.out (by omega))
            rw [decide_eq_true rfl] at HSM
            unfold JV at HSM
            dsimp only at HSM
            clear y1 hb6 r6 hq6 HHe RJ5 HQ4 HL5
            go_wp2_with fail
            refine Calls.mono HSM.out ?_
            rintro e w8 ⟨rfl, hb8⟩
            have hb68 := HB7.out.trans (hb8.mono HB7.out.size)
            have HL8 : Hid _ := HL6.out.later hb68
            have HB8 : Hid (Below w.heap.size w w8) := HB6.out.trans (hb68.mono HB6.out.size)
            have HDn : Hid _ := done_some HL8.out (v := k) hk3 HH1.out
            have HDc : Hid _ := Pq.done_cnt HOk4.out (w := k) hk3 HH1.out
            clear hb8 hb68 HSM
            go_wp2_with fail
            refine Calls.mono HDn.out ?_
            rintro e w9 ⟨rfl, hl9, hk9⟩
            have HL9 : Hid _ := hl9
            have HI9 : Hid (PInv (Pq.doneS s1 k)) := HI4.out.sethold k (o := none) (fun j' e => by cases e)
            have HB9 : Hid (Below w.heap.size w w9) := HB8.out.trans (((hk9.mono HL8.out.mvp).below HL8.out.le (fun k hk => hk.1)).mono HN0.out)
            have HLn : Hid _ := len_w HL9.out HI9.out
            have hdc2 : (Pq.doneS s1 k).cnt + 1 = s1.cnt := HDc.out.2
            have hcn2 : s1.cnt = s.cnt := HCn.out
            obtain ⟨m, hm⟩ : ∃ m, (Pq.doneS s1 k).cnt = m := ⟨_, rfl⟩
            have HM : Hid _ := hm
            rw [hm] at HLn hdc2
            have hmn : m + 1 + i = n := by omega
            have hmi : (n : Int) - (i : Int) - 1 = (m : Int) := by omega
            clear hl9 hk9 HDn HDc hdc2 hcn2 hm
            go_wp2_with fail
            refine Calls.mono HLn.out ?_
            rintro e wa ⟨rfl, hba⟩
            have HLa : Hid _ := HL9.out.later hba
            have HBa : Hid (Below w.heap.size w wa) := HB9.out.trans (hba.mono HB9.out.size)
            clear hba HLn
            go_wp2_with fail
            go_roundw
            case rel => exact ⟨i + 1, Pq.doneS s1 k, by go_num, by omega, by rw [HM.out]; omega, HLa, HI9, HBa⟩
            case measure => simp [intOf]; omega
          · have hpi : ¬ (i : Int) < (n2 : Int) := by omega
            have hdp : decide ((i : Int) < (n2 : Int)) = false := decide_eq_false hpi
            have HT : Hid _ := take_w (v := k) ((i : Int)) HO.out HIv.out hk3 (by omega)
            have HTK : Hid _ := Pq.take_took HO.out.ok (w := k) hk3 (frm ((i : Int)) 3)
            have HGo : Hid _ := Pq.take_goes HO.out.ok (w := k) hk3 (frm ((i : Int)) 3) (by omega)
            go_wp2_with fail
            refine Calls.mono HT.out ?_
            rintro e w4 ⟨⟨q1, q2, q3⟩, _⟩
            obtain ⟨j, u, hx, h1⟩ := HGo.out
            rw [hx] at q3
            obtain ⟨sv, rfl, q4⟩ := q3
            have hjl : j.s.length ≤ 1000 := TakeC2.few HIv.out HO.out.ok hk3 hx
            have HI4 : Hid _ := HIv.out.take 3 k (frm ((i : Int)) 3)
            have HCn : Hid _ := HTK.out.cnt
            have HOk4 : Hid _ := HTK.out.ok
            obtain ⟨⟨s1, o1⟩, hts⟩ : ∃ q, Pq.takeS s 3 k (frm ((i : Int)) 3) = q := ⟨_, rfl⟩
            rw [hts] at q2 HI4 HCn h1 HOk4
            dsimp only at q2 HI4 HCn h1 HOk4
            have HL4 : Hid _ := q2
            have HB4 : Hid (Below w.heap.size w w4) := HB.out.trans ((Mv.below q1 HO.out.le).mono HN0.out)
            have HBx : Hid _ := bl1 w4 (.cells (jrow (j, sv)).toArray 37)
            have HL5 : Hid _ := HL4.out.later HBx.out
            have HH1 : Hid (s1.hd k = some j) := h1
            have HHe : Hid _ := held_some HL5.out HI4.out (v := k) hk3 h1
            have RJ5 : Hid _ := row_new w4 (jrow (j, sv)).toArray 37
            have HQ4 : Hid (RI w4 sv j.s) := q4.1
            obtain ⟨ja, jc, hsv, _⟩ := q4.1
            subst hsv
            obtain ⟨ml, hml⟩ : ∃ m, j.s.length = m := ⟨_, rfl⟩
            have HML : Hid _ := hml
            have HJL : Hid _ := hjl
            obtain ⟨ji, ju, jt, jb, jk, js⟩ := j
            unfold JV
            dsimp only at *
            rw [hml] at HBx HL5 HHe RJ5 HQ4 ⊢
            clear q1 q2 q4 HT HTK HGo hx hts h1 hml hjl
            go_wp2_with fail
            refine Calls.mono HHe.out ?_
            rintro e w6 ⟨sv2, rfl, y1, hb6⟩
            obtain ⟨ka, kc, hsv2, _⟩ := id y1
            have HY1 : Hid (RI w6 sv2 js) := y1
            subst hsv2
            have r6 := row_later RJ5.out hb6
            obtain ⟨d0, d1, d2, d3, d4, d5⟩ := JC.of_row (e := ⟨ji, ju, jt, jb, jk, js⟩) (v := .slice ja ml jc) r6
            simp only [Nat.zero_add] at d0 d1 d2 d3 d4 d5
            have hl6 := row_lt r6
            have hq6 : RI w6 (.slice ja ml jc) js := (HQ4.out.later HBx.out).later hb6
            have HL6 : Hid _ := HL5.out.later hb6
            have HB6 : Hid (Below w.heap.size w w6) := (HB4.out.trans (HBx.out.mono HB4.out.size)).trans (hb6.mono (HB4.out.trans (HBx.out.mono HB4.out.size)).size)
            unfold JV
            dsimp only
            rw [HML.out] at HY1 ⊢
            have HB7 : Hid _ := bl1 w6 (.cells #[.int .i64 ji, .bool ju, .int .i64 jt, .bool jb, .int .i64 jk, .slice ka ml kc] 37)
            have HSM : Hid _ := same_job ⟨ji, ju, jt, jb, jk, js⟩ ⟨ji, ju, jt, jb, jk, js⟩ (.slice ja ml jc) (.slice ka ml kc) _ (hq6.later HB7.out) (HY1.out.later HB7.out) (Nat.le_trans HJL.out (by omega)) (Nat.le_trans HJL.out (by omega))
            rw [decide_eq_true rfl] at HSM
            unfold JV at HSM
            dsimp only at HSM
            clear y1 hb6 r6 hq6 HHe RJ5 HQ4 HL5
            go_wp2_with fail
            refine Calls.mono HSM.out ?_
            rintro e w8 ⟨rfl, hb8⟩
            have hb68 := HB7.out.trans (hb8.mono HB7.out.size)
            have HL8 : Hid _ := HL6.out.later hb68
            have HB8 : Hid (Below w.heap.size w w8) := HB6.out.trans (hb68.mono HB6.out.size)
            have HDn : Hid _ := done_some HL8.out (v := k) hk3 HH1.out
            have HDc : Hid _ := Pq.done_cnt HOk4.out (w := k) hk3 HH1.out
            clear hb8 hb68 HSM
            go_wp2_with fail
            refine Calls.mono HDn.out ?_
            rintro e w9 ⟨rfl, hl9, hk9⟩
            have HL9 : Hid _ := hl9
            have HI9 : Hid (PInv (Pq.doneS s1 k)) := HI4.out.sethold k (o := none) (fun j' e => by cases e)
            have HB9 : Hid (Below w.heap.size w w9) := HB8.out.trans (((hk9.mono HL8.out.mvp).below HL8.out.le (fun k hk => hk.1)).mono HN0.out)
            have HLn : Hid _ := len_w HL9.out HI9.out
            have hdc2 : (Pq.doneS s1 k).cnt + 1 = s1.cnt := HDc.out.2
            have hcn2 : s1.cnt = s.cnt := HCn.out
            obtain ⟨m, hm⟩ : ∃ m, (Pq.doneS s1 k).cnt = m := ⟨_, rfl⟩
            have HM : Hid _ := hm
            rw [hm] at HLn hdc2
            have hmn : m + 1 + i = n := by omega
            have hmi : (n : Int) - (i : Int) - 1 = (m : Int) := by omega
            clear hl9 hk9 HDn HDc hdc2 hcn2 hm
            go_wp2_with fail
            refine Calls.mono HLn.out ?_
            rintro e wa ⟨rfl, hba⟩
            have HLa : Hid _ := HL9.out.later hba
            have HBa : Hid (Below w.heap.size w wa) := HB9.out.trans (hba.mono HB9.out.size)
            clear hba HLn
            go_wp2_with fail
            go_roundw
            case rel => exact ⟨i + 1, Pq.doneS s1 k, by go_num, by omega, by rw [HM.out]; omega, HLa, HI9, HBa⟩
            case measure => simp [intOf]; omega
        · have hwi : ¬ (i : Int) < (n1 : Int) := by omega
          have hdw : decide ((i : Int) < (n1 : Int)) = false := decide_eq_false hwi
          have hk3 : 0 < 3 := by omega
          by_cases hpp : i < n2
          · have hpi : (i : Int) < (n2 : Int) := by omega
            obtain ⟨pb, po, rfl, pk, hpk, hcp⟩ := HPs.out i hpp
            have hcp2 := cell_later HB.out hcp
            clear hcp
            have HT : Hid _ := take_w (v := 0) (pk) HO.out HIv.out (by omega) hpk
            have HTK : Hid _ := Pq.take_took HO.out.ok (w := 0) (by omega) (frm (pk) 3)
            have HGo : Hid _ := Pq.take_goes HO.out.ok (w := 0) (by omega) (frm (pk) 3) (by omega)
            go_wp2_with fail
            refine Calls.mono HT.out ?_
            rintro e w4 ⟨⟨q1, q2, q3⟩, _⟩
            obtain ⟨j, u, hx, h1⟩ := HGo.out
            rw [hx] at q3
            obtain ⟨sv, rfl, q4⟩ := q3
            have hjl : j.s.length ≤ 1000 := TakeC2.few HIv.out HO.out.ok (by omega) hx
            have HI4 : Hid _ := HIv.out.take 3 0 (frm (pk) 3)
            have HCn : Hid _ := HTK.out.cnt
            have HOk4 : Hid _ := HTK.out.ok
            obtain ⟨⟨s1, o1⟩, hts⟩ : ∃ q, Pq.takeS s 3 0 (frm (pk) 3) = q := ⟨_, rfl⟩
            rw [hts] at q2 HI4 HCn h1 HOk4
            dsimp only at q2 HI4 HCn h1 HOk4
            have HL4 : Hid _ := q2
            have HB4 : Hid (Below w.heap.size w w4) := HB.out.trans ((Mv.below q1 HO.out.le).mono HN0.out)
            have HBx : Hid _ := bl1 w4 (.cells (jrow (j, sv)).toArray 37)
            have HL5 : Hid _ := HL4.out.later HBx.out
            have HH1 : Hid (s1.hd 0 = some j) := h1
            have HHe : Hid _ := held_some HL5.out HI4.out (v := 0) (by omega) h1
            have RJ5 : Hid _ := row_new w4 (jrow (j, sv)).toArray 37
            have HQ4 : Hid (RI w4 sv j.s) := q4.1
            obtain ⟨ja, jc, hsv, _⟩ := q4.1
            subst hsv
            obtain ⟨ml, hml⟩ : ∃ m, j.s.length = m := ⟨_, rfl⟩
            have HML : Hid _ := hml
            have HJL : Hid _ := hjl
            obtain ⟨ji, ju, jt, jb, jk, js⟩ := j
            unfold JV
            dsimp only at *
            rw [hml] at HBx HL5 HHe RJ5 HQ4 ⊢
            clear q1 q2 q4 HT HTK HGo hx hts h1 hml hjl
            go_wp2_with fail
            refine Calls.mono HHe.out ?_
            rintro e w6 ⟨sv2, rfl, y1, hb6⟩
            obtain ⟨ka, kc, hsv2, _⟩ := id y1
            have HY1 : Hid (RI w6 sv2 js) := y1
            subst hsv2
            have r6 := row_later RJ5.out hb6
            obtain ⟨d0, d1, d2, d3, d4, d5⟩ := JC.of_row (e := ⟨ji, ju, jt, jb, jk, js⟩) (v := .slice ja ml jc) r6
            simp only [Nat.zero_add] at d0 d1 d2 d3 d4 d5
            have hl6 := row_lt r6
            have hq6 : RI w6 (.slice ja ml jc) js := (HQ4.out.later HBx.out).later hb6
            have HL6 : Hid _ := HL5.out.later hb6
            have HB6 : Hid (Below w.heap.size w w6) := (HB4.out.trans (HBx.out.mono HB4.out.size)).trans (hb6.mono (HB4.out.trans (HBx.out.mono HB4.out.size)).size)
            unfold JV
            dsimp only
            rw [HML.out] at HY1 ⊢
            have HB7 : Hid _ := bl1 w6 (.cells #[.int .i64 ji, .bool ju, .int .i64 jt, .bool jb, .int .i64 jk, .slice ka ml kc] 37)
            have HSM : Hid _ := same_job ⟨ji, ju, jt, jb, jk, js⟩ ⟨ji, ju, jt, jb, jk, js⟩ (.slice ja ml jc) (.slice ka ml kc) _ (hq6.later HB7.out) (HY1.out.later HB7.out) (Nat.le_trans HJL.out (by omega)) (Nat.le_trans HJL.out (by omega))
            rw [decide_eq_true rfl] at HSM
            unfold JV at HSM
            dsimp only at HSM
            clear y1 hb6 r6 hq6 HHe RJ5 HQ4 HL5
            go_wp2_with fail
            refine Calls.mono HSM.out ?_
            rintro e w8 ⟨rfl, hb8⟩
            have hb68 := HB7.out.trans (hb8.mono HB7.out.size)
            have HL8 : Hid _ := HL6.out.later hb68
            have HB8 : Hid (Below w.heap.size w w8) := HB6.out.trans (hb68.mono HB6.out.size)
            have HDn : Hid _ := done_some HL8.out (v := 0) (by omega) HH1.out
            have HDc : Hid _ := Pq.done_cnt HOk4.out (w := 0) (by omega) HH1.out
            clear hb8 hb68 HSM
            go_wp2_with fail
            refine Calls.mono HDn.out ?_
            rintro e w9 ⟨rfl, hl9, hk9⟩
            have HL9 : Hid _ := hl9
            have HI9 : Hid (PInv (Pq.doneS s1 0)) := HI4.out.sethold 0 (o := none) (fun j' e => by cases e)
            have HB9 : Hid (Below w.heap.size w w9) := HB8.out.trans (((hk9.mono HL8.out.mvp).below HL8.out.le (fun k hk => hk.1)).mono HN0.out)
            have HLn : Hid _ := len_w HL9.out HI9.out
            have hdc2 : (Pq.doneS s1 0).cnt + 1 = s1.cnt := HDc.out.2
            have hcn2 : s1.cnt = s.cnt := HCn.out
            obtain ⟨m, hm⟩ : ∃ m, (Pq.doneS s1 0).cnt = m := ⟨_, rfl⟩
            have HM : Hid _ := hm
            rw [hm] at HLn hdc2
            have hmn : m + 1 + i = n := by omega
            have hmi : (n : Int) - (i : Int) - 1 = (m : Int) := by omega
            clear hl9 hk9 HDn HDc hdc2 hcn2 hm
            go_wp2_with fail
            refine Calls.mono HLn.out ?_
            rintro e wa ⟨rfl, hba⟩
            have HLa : Hid _ := HL9.out.later hba
            have HBa : Hid (Below w.heap.size w wa) := HB9.out.trans (hba.mono HB9.out.size)
            clear hba HLn
            go_wp2_with fail
            go_roundw
            case rel => exact ⟨i + 1, Pq.doneS s1 0, by go_num, by omega, by rw [HM.out]; omega, HLa, HI9, HBa⟩
            case measure => simp [intOf]; omega
          · have hpi : ¬ (i : Int) < (n2 : Int) := by omega
            have hdp : decide ((i : Int) < (n2 : Int)) = false := decide_eq_false hpi
            have HT : Hid _ := take_w (v := 0) ((i : Int)) HO.out HIv.out (by omega) (by omega)
            have HTK : Hid _ := Pq.take_took HO.out.ok (w := 0) (by omega) (frm ((i : Int)) 3)
            have HGo : Hid _ := Pq.take_goes HO.out.ok (w := 0) (by omega) (frm ((i : Int)) 3) (by omega)
            go_wp2_with fail
            refine Calls.mono HT.out ?_
            rintro e w4 ⟨⟨q1, q2, q3⟩, _⟩
            obtain ⟨j, u, hx, h1⟩ := HGo.out
            rw [hx] at q3
            obtain ⟨sv, rfl, q4⟩ := q3
            have hjl : j.s.length ≤ 1000 := TakeC2.few HIv.out HO.out.ok (by omega) hx
            have HI4 : Hid _ := HIv.out.take 3 0 (frm ((i : Int)) 3)
            have HCn : Hid _ := HTK.out.cnt
            have HOk4 : Hid _ := HTK.out.ok
            obtain ⟨⟨s1, o1⟩, hts⟩ : ∃ q, Pq.takeS s 3 0 (frm ((i : Int)) 3) = q := ⟨_, rfl⟩
            rw [hts] at q2 HI4 HCn h1 HOk4
            dsimp only at q2 HI4 HCn h1 HOk4
            have HL4 : Hid _ := q2
            have HB4 : Hid (Below w.heap.size w w4) := HB.out.trans ((Mv.below q1 HO.out.le).mono HN0.out)
            have HBx : Hid _ := bl1 w4 (.cells (jrow (j, sv)).toArray 37)
            have HL5 : Hid _ := HL4.out.later HBx.out
            have HH1 : Hid (s1.hd 0 = some j) := h1
            have HHe : Hid _ := held_some HL5.out HI4.out (v := 0) (by omega) h1
            have RJ5 : Hid _ := row_new w4 (jrow (j, sv)).toArray 37
            have HQ4 : Hid (RI w4 sv j.s) := q4.1
            obtain ⟨ja, jc, hsv, _⟩ := q4.1
            subst hsv
            obtain ⟨ml, hml⟩ : ∃ m, j.s.length = m := ⟨_, rfl⟩
            have HML : Hid _ := hml
            have HJL : Hid _ := hjl
            obtain ⟨ji, ju, jt, jb, jk, js⟩ := j
            unfold JV
            dsimp only at *
            rw [hml] at HBx HL5 HHe RJ5 HQ4 ⊢
            clear q1 q2 q4 HT HTK HGo hx hts h1 hml hjl
            go_wp2_with fail
            refine Calls.mono HHe.out ?_
            rintro e w6 ⟨sv2, rfl, y1, hb6⟩
            obtain ⟨ka, kc, hsv2, _⟩ := id y1
            have HY1 : Hid (RI w6 sv2 js) := y1
            subst hsv2
            have r6 := row_later RJ5.out hb6
            obtain ⟨d0, d1, d2, d3, d4, d5⟩ := JC.of_row (e := ⟨ji, ju, jt, jb, jk, js⟩) (v := .slice ja ml jc) r6
            simp only [Nat.zero_add] at d0 d1 d2 d3 d4 d5
            have hl6 := row_lt r6
            have hq6 : RI w6 (.slice ja ml jc) js := (HQ4.out.later HBx.out).later hb6
            have HL6 : Hid _ := HL5.out.later hb6
            have HB6 : Hid (Below w.heap.size w w6) := (HB4.out.trans (HBx.out.mono HB4.out.size)).trans (hb6.mono (HB4.out.trans (HBx.out.mono HB4.out.size)).size)
            unfold JV
            dsimp only
            rw [HML.out] at HY1 ⊢
            have HB7 : Hid _ := bl1 w6 (.cells #[.int .i64 ji, .bool ju, .int .i64 jt, .bool jb, .int .i64 jk, .slice ka ml kc] 37)
            have HSM : Hid _ := same_job ⟨ji, ju, jt, jb, jk, js⟩ ⟨ji, ju, jt, jb, jk, js⟩ (.slice ja ml jc) (.slice ka ml kc) _ (hq6.later HB7.out) (HY1.out.later HB7.out) (Nat.le_trans HJL.out (by omega)) (Nat.le_trans HJL.out (by omega))
            rw [decide_eq_true rfl] at HSM
            unfold JV at HSM
            dsimp only at HSM
            clear y1 hb6 r6 hq6 HHe RJ5 HQ4 HL5
            go_wp2_with fail
            refine Calls.mono HSM.out ?_
            rintro e w8 ⟨rfl, hb8⟩
            have hb68 := HB7.out.trans (hb8.mono HB7.out.size)
            have HL8 : Hid _ := HL6.out.later hb68
            have HB8 : Hid (Below w.heap.size w w8) := HB6.out.trans (hb68.mono HB6.out.size)
            have HDn : Hid _ := done_some HL8.out (v := 0) (by omega) HH1.out
            have HDc : Hid _ := Pq.done_cnt HOk4.out (w := 0) (by omega) HH1.out
            clear hb8 hb68 HSM
            go_wp2_with fail
            refine Calls.mono HDn.out ?_
            rintro e w9 ⟨rfl, hl9, hk9⟩
            have HL9 : Hid _ := hl9
            have HI9 : Hid (PInv (Pq.doneS s1 0)) := HI4.out.sethold 0 (o := none) (fun j' e => by cases e)
            have HB9 : Hid (Below w.heap.size w w9) := HB8.out.trans (((hk9.mono HL8.out.mvp).below HL8.out.le (fun k hk => hk.1)).mono HN0.out)
            have HLn : Hid _ := len_w HL9.out HI9.out
            have hdc2 : (Pq.doneS s1 0).cnt + 1 = s1.cnt := HDc.out.2
            have hcn2 : s1.cnt = s.cnt := HCn.out
            obtain ⟨m, hm⟩ : ∃ m, (Pq.doneS s1 0).cnt = m := ⟨_, rfl⟩
            have HM : Hid _ := hm
            rw [hm] at HLn hdc2
            have hmn : m + 1 + i = n := by omega
            have hmi : (n : Int) - (i : Int) - 1 = (m : Int) := by omega
            clear hl9 hk9 HDn HDc hdc2 hcn2 hm
            go_wp2_with fail
            refine Calls.mono HLn.out ?_
            rintro e wa ⟨rfl, hba⟩
            have HLa : Hid _ := HL9.out.later hba
            have HBa : Hid (Below w.heap.size w wa) := HB9.out.trans (hba.mono HB9.out.size)
            clear hba HLn
            go_wp2_with fail
            go_roundw
            case rel => exact ⟨i + 1, Pq.doneS s1 0, by go_num, by omega, by rw [HM.out]; omega, HLa, HI9, HBa⟩
            case measure => simp [intOf]; omega
      · have hin : i = n := by omega
        subst hin
        have hc0 : s.cnt = 0 := by omega
        have HT : Hid _ := take_w (v := 1) (i : Int) HO.out HIv.out (by omega) (by omega)
        rw [Pq.take_empty HO.out.ok (w := 1) (by omega) (frm (i : Int) 3) hc0] at HT
        go_wp2_with fail
        refine Calls.mono HT.out ?_
        rintro e w4 ⟨⟨q1, q2, q3⟩, _⟩
        obtain rfl := q3
        have HB4 : Hid (Below w.heap.size w w4) := HB.out.trans ((Mv.below q1 HO.out.le).mono HN0.out)
        have HB5 : Hid _ := bl1 w4 (.cells #[.int .i64 0, .bool false, .int .i64 0, .bool false, .int .i64 0, .slice none 0 0] 37)
        have HLn : Hid _ := len_w (LP.later q2 HB5.out) HIv.out
        dsimp only at HLn
        rw [hc0] at HLn
        have HBB : Hid (Below w.heap.size w (w4.alloc (.cells #[.int .i64 0, .bool false, .int .i64 0, .bool false, .int .i64 0, .slice none 0 0] 37))) := HB4.out.trans (HB5.out.mono HB4.out.size)
        unfold JV zJ
        dsimp only
        clear q1 q2 HT
        go_wp2_with fail
        refine Calls.mono HLn.out ?_
        rintro e w6 ⟨rfl, hb6⟩
        have HB6 : Hid (Below w.heap.size w w6) := HBB.out.trans (hb6.mono HBB.out.size)
        clear hb6 HLn
        go_wp2_with fail
        refine Calls.mono (HLv.out w6) ?_
        rintro e w7 ⟨rfl, hb7⟩
        have HB7 : Hid (Below w.heap.size w w7) := HB6.out.trans (hb7.mono HB6.out.size)
        clear hb7
        go_wp2_with fail
        go_ret
        exact ⟨rfl, HB7.out⟩
end Go.Proofs.Ytfhmmiilenonkaa
