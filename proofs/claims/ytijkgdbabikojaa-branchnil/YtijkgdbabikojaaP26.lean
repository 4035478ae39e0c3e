/- Texts of the seat, packed: Hc. -/
import Derived.Test.YtijkgdbabikojaaP25
/- The walk over BranchTorn. -/
namespace Go.Proofs.Ytijkgdbabikojaa
open Go.RowKit
open Dk (DS DK Okay Small WR Kp Wid cutP appendP syncP hasB hasB_true)
set_option maxRecDepth 1000000
set_option linter.unusedVariables false

theorem few_rows {l : List Ev} {j : Nat} (hj : j ≤ 100) : FewR [[], stL l j] := by
  obtain ⟨f1, f2⟩ := stL_few (l := l) (k := j) hj
  refine ⟨by show 2 ≤ 1000000; omega, fun L hL => ?_⟩
  simp only [List.mem_cons, List.not_mem_nil, or_false] at hL
  rcases hL with rfl | rfl
  · exact ⟨by simp, fun x hx => by cases hx⟩
  · exact ⟨f1, f2⟩

set_option maxHeartbeats 8000000 in
theorem torn_walk (l : List Ev) (v : Value) (sure keep : Int) (w : World) (hl : RE w v l) : Calls Try.prog 4 #[v, .int .i64 sure, .int .i64 keep] w fun e w' => e = .returned (.bool true) ∧ Below w.heap.size w w' := by
  have HL : Hid (∀ wx, Calls Try.prog 7 #[] wx fun e w' => e = .returned (.bool true) ∧ Below wx.heap.size wx w') := lives_any
  have HLA : Hid (l.length ≤ 100 → _) := fun hn => laid_any l sure v w hl hn
  obtain ⟨a, cap, rfl, hc, hcm, _⟩ := hl
  obtain ⟨n, HN⟩ : ∃ n, Hid (l.length = n) := ⟨_, rfl⟩
  rw [HN.out] at HLA ⊢
  by_cases hn : 100 < n
  · have hni : (100 : Int) < (n : Int) := by omega
    have H1 : Hid _ := HL.out w
    clear HLA HL
    go_enter Try.func4, Try.ntmps4
    go_wp2_with fail
    refine Calls.mono H1.out ?_
    rintro e w1 ⟨rfl, hb1⟩
    have HB1 : Hid _ := hb1
    clear hb1 H1
    go_wp2_with fail
    go_ret
    exact ⟨rfl, HB1.out⟩
  · have hni : ¬ (100 : Int) < (n : Int) := by omega
    have H1 : Hid _ := HLA.out (by omega)
    clear HLA
    go_enter Try.func4, Try.ntmps4
    go_wp2_with fail
    refine Calls.mono H1.out ?_
    rintro e w1 ⟨p, k, oa, oc, rfl, hk, T, S, m1, o1, s1, b1⟩
    obtain ⟨j, E, p1, p2, p3, p4, p5, p6, p7, p8, p9⟩ := torn_plain s1 keep
    have hsm := small_of s1.run.n o1 s1.tot
    obtain ⟨ct1, ct2⟩ := crash_tot s1.run.n [0, keep]
    have HOC : Hid (Okay (Dk.crashP S [0, keep]) ∧ (Dk.crashP S [0, keep]).n = 3 ∧ Dk.tot3 (Dk.crashP S [0, keep]) = 20000) := ⟨o1.crash _, ct1, by rw [ct2]; exact s1.tot⟩
    have HB1 : Hid _ := b1
    have HM1 : Hid _ := m1
    have H2 : Hid (Calls Try.prog 12 #[.pointer (some ⟨p, 0, none⟩), .slice (some ⟨w1.heap.size, 0, none⟩) 2 2] (w1.alloc (.cells #[.int .i64 0, .int .i64 keep] 3)) fun e w' => e = .returned (.int .i64 0) ∧ (∃ T', Mem w.heap.size w' T' p (Dk.crashP S [0, keep]) (.slice oa k oc) (stL l k)) ∧ Below w.heap.size w1 w') := by
      have hb : Below w1.heap.size w1 (w1.alloc (.cells #[.int .i64 0, .int .i64 keep] 3)) := (Below.refl _ _).alloc (Nat.le_refl _) _
      have hlv := m1.dk.live
      have m2 := m1.later hb
      refine Calls.mono (Dk.crash_any T _ p S _ [0, keep] m2.dk o1 (Dk.small_mono hsm (by omega) (by omega)) (RI.new w1 [0, keep] #[.int .i64 0, .int .i64 keep] rfl (by show 2 ≤ 1000000; omega)) (fun _ a n c he ht => by cases he; have h9 : w1.heap.size < w1.heap.size := hlv _ ht; omega) (by show 2 ≤ 1000000; omega)) (fun e w' hw => ?_)
      obtain ⟨r1, r2, r3⟩ := hw
      exact ⟨r1, ⟨_, m2.wr r2 r3⟩, (hb.mono m1.hB).trans (r3.below m2.hB m2.hT)⟩
    generalize Dk.crashP S [0, keep] = C at *
    clear m1 o1 s1 b1 hsm ct1 ct2 H1
    obtain ⟨Z1, HZ1⟩ : ∃ Z, Hid ((openP 3 C).2.2 = Z) := ⟨_, rfl⟩
    rw [HZ1.out] at p5 p6 p7 p8 p9
    obtain ⟨Z2, HZ2⟩ : ∃ Z, Hid ((openP 3 Z1).2.2 = Z) := ⟨_, rfl⟩
    rw [HZ2.out] at p7 p8 p9
    have HP2 : Hid _ := p2
    have HP3 : Hid _ := p3
    have HP4 : Hid _ := p4
    have HP5 : Hid _ := p5
    have HP6 : Hid _ := p6
    have HP7 : Hid _ := p7
    have HP8 : Hid _ := p8
    have HP9 : Hid _ := p9
    clear p2 p3 p4 p5 p6 p7 p8 p9
    go_wp2_with fail
    refine Calls.mono H2.out ?_
    rintro e w2 ⟨rfl, ⟨T2, m2⟩, b2⟩
    have HB2 : Hid _ := HB1.out.trans b2
    have H3 : Hid _ := open_law m2 HOC.out.2.1 HOC.out.1 HOC.out.2.2 HP3.out HP4.out HZ1.out
    clear b2 m2 H2 HB1 HM1
    go_wp2_with fail
    refine Calls.mono H3.out ?_
    rintro e w3 ⟨xa, xc, T3, rfl, x1, t3, k3, m3, o3, n3, c3, b3⟩
    have HX : Hid _ := x1
    have HM3 : Hid _ := m3
    have HB3 : Hid _ := HB2.out.trans b3
    have H4 : Hid (∀ wx, Below w3.heap.size w3 wx → _) := fun wx hb => open_law (m3.later hb) n3 o3 c3 HP5.out HP6.out HZ2.out
    obtain ⟨_, _, ex, _, _, hx⟩ := x1.rre
    simp only [Value.slice.injEq] at ex
    obtain ⟨rfl, _, rfl⟩ := ex
    obtain ⟨gx, offx, sv, rfl, cx, rx⟩ := hx 1 (stL l j) rfl
    obtain ⟨la, lc, rfl⟩ := rx.slice
    have HRX : Hid (RE w3 (.slice la j lc) (stL l j)) := by show RE _ _ _; have h9 := rx; rw [stL_len] at h9; exact h9
    obtain ⟨va, vc, hv1, hv2⟩ := ev_slice_to m3.log.re.1 j (by rw [stL_len]; exact p1)
    rw [stL_take l p1] at hv1
    have HV : Hid _ := hv1
    have HRL : Hid ((stL l j).length = j) := stL_len l j
    rw [HRL.out] at cx
    have HSA : Hid (∀ wx, Below w3.heap.size w3 wx → Calls Try.prog 10 #[.slice la j lc, .slice va j vc] wx fun e w' => e = .returned (.bool true) ∧ Below w3.heap.size w3 w' ∧ w'.cell? ⟨gx, offx + 1, none⟩ = some (.slice la j lc)) := fun wx hb => by
      obtain ⟨f1, f2⟩ := stL_few (l := l) (k := j) (by omega)
      have := sameAll_any (stL l j) (stL l j) _ _ wx (RE.later HRX.out hb) (RE.later HV.out hb) f2 f2 f1 f1
      rw [decide_eq_true rfl] at this
      exact Calls.mono this (fun e w' h => ⟨h.1, hb.trans (h.2.mono hb.size), cell_later (hb.trans (h.2.mono hb.size)) cx⟩)
    clear x1 t3 k3 m3 o3 n3 c3 b3 hx rx hv1 H3 HB2
    have hjk : decide ((k : Int) < (j : Int)) = false := decide_eq_false (by omega)
    have hjn : decide (k < j) = false := decide_eq_false (by omega)
    go_wp2_with fail
    have HS0 : Hid (Below w3.heap.size w3 w3.drew ∧ w3.drew.cell? ⟨gx, offx + 1, none⟩ = some (.slice la j lc)) := ⟨(Below.refl _ _).drew, cx⟩
    go_region_held (fun w' => Below w3.heap.size w3 w' ∧ w'.cell? ⟨gx, offx + 1, none⟩ = some (.slice la j lc)) (first | assumption | exact HS0.out | exact ⟨HB4.out, HC4.out⟩) (first | (go_simp; go_at_call 10; refine Calls.mono (HSA.out _ HS0.out.1) ?_; rintro e w4 ⟨rfl, b4, c4⟩; have HC4 : Hid _ := c4; have HB4 : Hid _ := b4))
    have H5 : Hid _ := H4.out w4 HB4.out
    have HX4 : Hid (RRT T3 w4 (.slice (some ⟨gx, offx, none⟩) 2 xc) [[], stL l j]) := RRT.kept HX.out (Kp.of_below T3 HB4.out) (fun _ _ h => h)
    have HBB : Hid _ := HB3.out.trans (Below.mono HB4.out HB3.out.size)
    have d4 := HC4.out
    clear b4 c4 HSA H4 HX HS0 HB3 HB4 HC4 hjk hjn cx hv2 HV HRX HM3
    have hsu : ¬ (0 < sure) ∨ (0 < sure ∧ ¬ sure ≤ (k : Int)) ∨ (0 < sure ∧ sure ≤ (k : Int) ∧ ¬ (j : Int) < sure) := by
      by_cases h1 : 0 < sure
      · by_cases h2 : sure ≤ (k : Int)
        · have := HP2.out h1 h2
          exact .inr (.inr ⟨h1, h2, by omega⟩)
        · exact .inr (.inl ⟨h1, h2⟩)
      · exact .inl h1
    clear HP2
    rcases hsu with s1 | ⟨s1, s2⟩ | ⟨s1, s2, s3⟩
    all_goals
      go_wp2_with fail
      refine Calls.mono H5.out ?_
      rintro e w5 ⟨ya, yc, T5, rfl, y1, t5, k5, m5, o5, n5, c5, b5⟩
      have HB5 : Hid _ := HBB.out.trans b5
      have HX5 : Hid (RRT T3 w5 (.slice (some ⟨gx, offx, none⟩) 2 xc) [[], stL l j]) := RRT.kept HX4.out k5 (fun _ _ h => h)
      have hsm := small_of n5 o5 c5
      have H6 : Hid (Calls Try.prog 9 #[.pointer (some ⟨p, 0, none⟩), .int .i64 1] w5 fun e w' => ∃ a c, e = .returned (.tuple #[.slice a j c, .int .i64 (E : Nat)]) ∧ RE w' (.slice a j c) (stL l j) ∧ Below w5.heap.size w5 w') := by
        have := load_dk m5.dk o5 (Dk.small_mono hsm (by omega) (by omega)) n5 1 (by omega)
        rw [HP7.out] at this
        refine Calls.mono this ?_
        rintro e w' ⟨a, c, q1, q2, q3⟩
        simp only [stL_len] at q1 q2
        exact ⟨a, c, q1, q2.re.1, q3⟩
      have H7 : Hid (∀ wx, Below w5.heap.size w5 wx → Calls Try.prog 14 #[.slice (some ⟨gx, offx, none⟩) 2 xc, .slice ya 2 yc] wx fun e w' => e = .returned (.bool true) ∧ Below wx.heap.size wx w') := fun wx hb => by
        have := sameRows_any [[], stL l j] [[], stL l j] _ _ wx (RRE.later (RRT.rre HX5.out) hb) (RRE.later y1.rre hb) (few_rows (by omega)) (few_rows (by omega))
        rw [decide_eq_true rfl] at this
        exact this
      obtain ⟨_, _, ex, _, _, hx⟩ := RRT.rre HX5.out
      simp only [Value.slice.injEq] at ex
      obtain ⟨rfl, _, rfl⟩ := ex
      obtain ⟨gy, offy, sv, ee, cx, rx⟩ := hx 1 (stL l j) rfl
      simp only [Option.some.injEq, Addr.mk.injEq, and_true] at ee
      obtain ⟨rfl, rfl⟩ := ee
      obtain ⟨la5, lc5, rfl⟩ := rx.slice
      have HRX : Hid (RE w5 (.slice la5 j lc5) (stL l j)) := by show RE _ _ _; have h9 := rx; rw [stL_len] at h9; exact h9
      rw [HRL.out] at cx
      have HCX : Hid (∀ wx, Below w5.heap.size w5 wx → wx.cell? ⟨gx, offx + 1, none⟩ = some (.slice la5 j lc5)) := fun wx hb => cell_later hb cx
      have H8 : Hid (∀ wx u, Below w5.heap.size w5 wx → RE wx u (stL l j) → Calls Try.prog 10 #[u, .slice la5 j lc5] wx fun e w' => e = .returned (.bool true) ∧ Below wx.heap.size wx w') := fun wx u hb hu => by
        obtain ⟨f1, f2⟩ := stL_few (l := l) (k := j) (by omega)
        have := sameAll_any (stL l j) (stL l j) u _ wx hu (RE.later HRX.out hb) f2 f2 f1 f1
        rw [decide_eq_true rfl] at this
        exact this
      have H9 : Hid (∀ wx, Below w5.heap.size w5 wx → Calls Try.prog 11 #[.pointer (some ⟨p, 0, none⟩), .int .i64 1] wx fun e w' => ∃ a c, e = .returned (.slice a E c) ∧ Below wx.heap.size wx w') := fun wx hb => by
        refine Calls.mono (Dk.read_any T5 wx p Z2 1 (m5.dk.later hb) o5 (Dk.small_mono hsm (by omega) (by omega))) ?_
        rintro e w' ⟨⟨v, q1, q2⟩, q3⟩
        obtain ⟨⟨a, c, rfl, _⟩, _⟩ := q2
        rw [HP8.out] at q1
        exact ⟨a, c, q1, q3⟩
      have H10 : Hid (∀ wx, Below w5.heap.size w5 wx → Calls Try.prog 15 #[.pointer (some ⟨p, 0, none⟩), .int .i64 1] wx fun e w' => e = .returned (.int .i64 (E : Nat)) ∧ Below wx.heap.size wx w') := fun wx hb => by
        have := Dk.synced_any T5 wx p Z2 1 (m5.dk.later hb) o5 (Dk.small_mono hsm (by omega) (by omega))
        rw [HP9.out] at this
        exact this
      clear y1 t5 k5 m5 o5 n5 c5 b5 hsm hx rx cx d4 HX4 HX5 HBB H5 HRX
      go_wp2_with fail
      refine Calls.mono H6.out ?_
      rintro e w6 ⟨za, zc, rfl, q2, q3⟩
      have HZ : Hid _ := q2
      have HB6 : Hid _ := q3
      have K7 : Hid _ := H7.out w6 q3
      clear q2 q3 H6 H7
      go_wp2_with fail
      refine Calls.mono K7.out ?_
      rintro e w7 ⟨rfl, q3⟩
      have HB7 : Hid _ := HB6.out.trans (q3.mono HB6.out.size)
      have K8 : Hid _ := H8.out w7 _ HB7.out (RE.later HZ.out q3)
      have cx7 := HCX.out w7 HB7.out
      clear q3 K7 H8 HZ HB6
      go_wp2_with fail
      refine Calls.mono K8.out ?_
      rintro e w8 ⟨rfl, q3⟩
      have HB8 : Hid _ := HB7.out.trans (q3.mono HB7.out.size)
      have K9 : Hid _ := H9.out w8 HB8.out
      clear q3 K8 H9 HB7 cx7
      go_wp2_with fail
      refine Calls.mono K9.out ?_
      rintro e w9 ⟨ra, rc, rfl, q3⟩
      have HB9 : Hid _ := HB8.out.trans (q3.mono HB8.out.size)
      have K10 : Hid _ := H10.out w9 HB9.out
      clear q3 K9 H10 HB8
      go_wp2_with fail
      refine Calls.mono K10.out ?_
      rintro e w10 ⟨rfl, q3⟩
      have HB10 : Hid _ := HB9.out.trans (q3.mono HB9.out.size)
      have K11 : Hid _ := HL.out w10
      clear q3 K10 HB9
      go_wp2_with fail
      refine Calls.mono K11.out ?_
      rintro e w11 ⟨rfl, q3⟩
      have HB11 : Hid _ := HB10.out.trans (q3.mono HB10.out.size)
      clear q3 K11 HB10
      go_wp2_with fail
      go_ret
      exact ⟨rfl, HB5.out.trans (HB11.out.mono HB5.out.size)⟩
end Go.Proofs.Ytijkgdbabikojaa

