/- The walk over PoolHolds. -/
import Derived.Test.YtfhmmiilenonkaaVj
import Derived.Test.YtfhmmiilenonkaaVh
namespace Go.Proofs.Ytfhmmiilenonkaa
open Go.RowKit Go.Shelf
set_option maxRecDepth 1000000
set_option linter.unusedVariables false

variable {N : Nat} {F : Nat → Prop} {w w' : World} {p r n : Nat} {s : Pq.St Jb}

/-- What Take tells, by whether there is a job. -/
theorem TakeC2.few {v f : Nat} {j : Jb} {u : Nat} (hi : PInv s) (hok : s.Ok n) (hv : v < n) (h : (Pq.takeS s n v f).2 = some (j, u)) : j.s.length ≤ 1000 := by
  have h1 := Pq.take_took hok hv f
  have h2 := (h1.some j u h).1
  exact (hi.take n v f).hd v j h2

set_option maxHeartbeats 8000000 in
theorem holds_walk (a0 : Option Addr) (nn c0 : Nat) (l : List AcP) (wv : Int) (a b : Int) (w : World) (hwv : 0 ≤ wv ∧ wv ≤ 255) (ha : -9223372036854775808 ≤ a ∧ a ≤ 9223372036854775807) (hb : -9223372036854775808 ≤ b ∧ b ≤ 9223372036854775807) (hx0 : RA w (.slice a0 nn c0) l) :
    Calls Try.prog 5 #[.slice a0 nn c0, .int .u8 wv, .int .i64 a, .int .i64 b] w fun e w' => e = .returned (.bool true) ∧ Below w.heap.size w w' := by
  have HF : Hid _ := few_any w (.slice a0 nn c0) l hx0
  have HLv : Hid (∀ wx, Calls Try.prog 8 #[] wx fun e w' => e = .returned (.bool true) ∧ Below wx.heap.size wx w') := fun wx => lives_any wx
  have HX0 : Hid (∀ wx, Below w.heap.size w wx → RA wx (.slice a0 nn c0) l) := fun wx hb => hx0.later hb
  have HA : Hid _ := ha
  have HBb : Hid _ := hb
  obtain ⟨k, hk⟩ : ∃ k : Nat, k = (wv % 3).toNat := ⟨_, rfl⟩
  have hk3 : k < 3 := by omega
  have hm1 : wv.tmod 3 = (k : Int) := by rw [Int.tmod_eq_emod_of_nonneg hwv.1]; omega
  have hm2 : wv % 3 = (k : Int) := by omega
  have hw1 := hwv.1
  have hw2 := hwv.2
  clear hx0 ha hb hk hwv
  go_enter Try.func5, Try.ntmps5
  go_wp2_with fail
  refine Calls.mono HF.out ?_
  rintro e w1 ⟨q, rfl, hq, hb1⟩
  have HB1 : Hid _ := hb1
  cases q with
  | false =>
    clear hb1 hq HF
    go_wp2_with fail
    refine Calls.mono (HLv.out w1) ?_
    rintro e w3 ⟨rfl, hb3⟩
    have HB3 : Hid (Below w.heap.size w w3) := HB1.out.trans (hb3.mono HB1.out.size)
    clear hb3
    go_wp2_with fail
    go_ret
    exact ⟨rfl, HB3.out⟩
  | true =>
    have HBg : Hid _ := begun_any (HX0.out w1 hb1) (hq rfl).1 (hq rfl).2
    clear hb1 hq HF HX0
    go_wp2_with fail
    refine Calls.mono HBg.out ?_
    rintro e w2 ⟨p, r, rfl, hpb, hb2⟩
    obtain ⟨F, hlp⟩ := hpb.lp
    have HL : Hid _ := hlp
    have HI : Hid _ := hpb.inv
    have HB2 : Hid (Below w.heap.size w w2) := HB1.out.trans (hb2.mono HB1.out.size)
    have HN0 : Hid (w.heap.size ≤ w1.heap.size) := HB1.out.size
    generalize playsP 3 l = s at *
    have HLn : Hid _ := len_w hlp hpb.inv
    clear hpb hb2 HBg hlp
    obtain ⟨sc, hsc⟩ : ∃ q, s.cnt = q := ⟨_, rfl⟩
    have HSC : Hid _ := hsc
    rw [hsc] at HLn
    clear hsc
    go_wp2_with fail
    refine Calls.mono HLn.out ?_
    rintro e w3 ⟨rfl, hb3⟩
    have HL3 : Hid _ := HL.out.later hb3
    have HB3 : Hid (Below w.heap.size w w3) := HB2.out.trans (hb3.mono HB2.out.size)
    have HT : Hid _ := take_w a HL3.out HI.out hk3 HA.out
    have HTK : Hid _ := Pq.take_took HL3.out.ok hk3 (frm a 3)
    clear hb3 HLn HL
    go_wp2_with fail
    refine Calls.mono HT.out ?_
    rintro e w4 ⟨⟨q1, q2, q3⟩, _⟩
    have HB4 : Hid (Below w.heap.size w w4) := HB3.out.trans ((Mv.below q1 HL3.out.le).mono HN0.out)
    have HL4 : Hid _ := q2
    have HNs : Hid (w1.heap.size ≤ w4.heap.size) := HL4.out.le
    cases hx : (Pq.takeS s 3 k (frm a 3)).2 with
    | none =>
      rw [hx] at q3
      subst q3
      have h0 : s.cnt = 0 := (HTK.out.none hx).2
      have h1 : sc = 0 := by rw [← HSC.out]; exact h0
      subst h1
      clear q1 q2 HT HTK hx
      unfold JV zJ
      dsimp only
      go_wp2_with fail
      refine Calls.mono (HLv.out _) ?_
      rintro e w5 ⟨rfl, hb5⟩
      have HB5 : Hid (Below w.heap.size w w5) := (HB4.out.alloc HB4.out.size _).trans (hb5.mono (HB4.out.alloc HB4.out.size _).size)
      clear hb5
      go_wp2_with fail
      go_ret
      exact ⟨rfl, HB5.out⟩
    | some y =>
      obtain ⟨j, u⟩ := y
      rw [hx] at q3
      obtain ⟨sv, rfl, q4⟩ := q3
      obtain ⟨h1, hu⟩ := HTK.out.some j u hx
      have hjl : j.s.length ≤ 1000 := TakeC2.few HI.out HL3.out.ok hk3 hx
      have HI4 : Hid _ := HI.out.take 3 k (frm a 3)
      have HCn : Hid _ := HTK.out.cnt
      have HQ4 : Hid (RS (fun k => k ≠ p ∧ ¬ F k) w4 sv j.s) := q4
      obtain ⟨ja, jc, hsv, _⟩ := q4.1
      subst hsv
      obtain ⟨⟨s1, o1⟩, hts⟩ : ∃ q, Pq.takeS s 3 k (frm a 3) = q := ⟨_, rfl⟩
      rw [hts] at HL4 HI4 HCn h1 hx
      dsimp only at HL4 HI4 HCn h1 hx
      have HTA : Hid (Pq.takeS s1 3 k (frm b 3) = (s1, some (j, k))) := Pq.take_again _ h1
      have HH1 : Hid (s1.hd k = some j) := h1
      have HBx : Hid _ := bl1 w4 (.cells (jrow (j, .slice ja j.s.length jc)).toArray 37)
      have HL5 : Hid _ := HL4.out.later HBx.out
      have HT2 : Hid _ := take_w b HL5.out HI4.out hk3 HBb.out
      have RJ5 : Hid _ := row_new w4 (jrow (j, .slice ja j.s.length jc)).toArray 37
      have hp4 : p < w4.heap.size := HL4.out.lt
      obtain ⟨ml, hml⟩ : ∃ m, j.s.length = m := ⟨_, rfl⟩
      have HML : Hid _ := hml
      have HJL : Hid _ := hjl
      obtain ⟨ji, ju, jt, jb, jk, js⟩ := j
      unfold JV
      dsimp only at *
      rw [hml] at HBx HL5 HT2 RJ5 HQ4 ⊢
      clear q1 q2 q4 HT HTK hx hts h1 hml hjl
      go_wp2_with fail
      refine Calls.mono HT2.out ?_
      rintro e w6 ⟨⟨y1, y2, y3⟩, y4⟩
      rw [HTA.out] at y2 y3
      obtain ⟨sv2, rfl, y5⟩ := y3
      have hkp := y4 (by rw [HH1.out]; rfl)
      obtain ⟨ka, kc, hsv2, _⟩ := id y5.1
      subst hsv2
      have r6 := hkp.row RJ5.out (by omega)
      obtain ⟨d0, d1, d2, d3, d4, d5⟩ := JC.of_row (e := ⟨ji, ju, jt, jb, jk, js⟩) (v := .slice ja ml jc) r6
      simp only [Nat.zero_add] at d0 d1 d2 d3 d4 d5
      have hl6 := row_lt r6
      have hrs6 : RS (fun k => k ≠ p ∧ ¬ F k) w6 (.slice ja ml jc) js := RS.kept (S := fun k => k ≠ p ∧ ¬ F k) (RS.later HQ4.out HBx.out) hkp (fun k hk e => hk.1 e)
      have HL6 : Hid _ := y2
      have hN5 : w1.heap.size ≤ (w4.alloc (.cells (jrow (⟨ji, ju, jt, jb, jk, js⟩, .slice ja ml jc)).toArray 37)).heap.size := HL5.out.le
      have HB6 : Hid (Below w.heap.size w w6) := (HB4.out.trans (HBx.out.mono HB4.out.size)).trans ((Mv.below y1 hN5).mono HN0.out)
      have HB7 : Hid _ := bl1 w6 (.cells #[.int .i64 ji, .bool ju, .int .i64 jt, .bool jb, .int .i64 jk, .slice ka ml kc] 37)
      have y5' : RI w6 (.slice ka ml kc) js := by have := y5.1; rw [HML.out] at this; exact this
      have HSM : Hid _ := same_job ⟨ji, ju, jt, jb, jk, js⟩ ⟨ji, ju, jt, jb, jk, js⟩ (.slice ja ml jc) (.slice ka ml kc) _ (hrs6.1.later HB7.out) (y5'.later HB7.out) (Nat.le_trans HJL.out (by omega)) (Nat.le_trans HJL.out (by omega))
      rw [decide_eq_true rfl] at HSM
      unfold JV at HSM
      dsimp only at HSM
      unfold JV
      dsimp only
      rw [HML.out]
      have HCn2 : Hid (s1.cnt = sc) := by show _ = _; rw [HCn.out, HSC.out]
      have HLn : Hid (∀ wx, Below w6.heap.size w6 wx → Calls Try.prog 14 #[.pointer (some ⟨p, 0, none⟩)] wx fun e w' => e = .returned (.int .i64 sc) ∧ Below wx.heap.size wx w') := fun wx hb => by
        have := len_w (HL6.out.later hb) HI4.out
        rw [HCn2.out] at this
        exact this
      have HJ7 : Hid (w.heap.size ≤ w6.heap.size) := HB6.out.size
      clear y1 y2 y4 y5 y5' hkp r6 hrs6 HT2 RJ5 HQ4 HL5
      go_wp2_with fail
      refine Calls.mono HSM.out ?_
      rintro e w8 ⟨rfl, hb8⟩
      have hb68 := HB7.out.trans (hb8.mono HB7.out.size)
      have HB8 : Hid (Below w.heap.size w w8) := HB6.out.trans (hb68.mono HB6.out.size)
      have HLn8 : Hid _ := HLn.out w8 hb68
      clear hb8 hb68 HSM
      go_wp2_with fail
      refine Calls.mono HLn8.out ?_
      rintro e w9 ⟨rfl, hb9⟩
      have HB9 : Hid (Below w.heap.size w w9) := HB8.out.trans (hb9.mono HB8.out.size)
      clear hb9 HLn8
      go_wp2_with fail
      refine Calls.mono (HLv.out w9) ?_
      rintro e wa ⟨rfl, hba⟩
      have HBa : Hid (Below w.heap.size w wa) := HB9.out.trans (hba.mono HB9.out.size)
      clear hba
      go_wp2_with fail
      go_ret
      exact ⟨rfl, HBa.out⟩
end Go.Proofs.Ytfhmmiilenonkaa
