/- The document's Take of a worker that holds none. -/
import Derived.Test.YtfhmmiilenonkaaQt
namespace Go.Proofs.Ytfhmmiilenonkaa
open Go.RowKit Go.Shelf
set_option maxRecDepth 1000000
set_option linter.unusedVariables false

variable {S : Nat → Prop} {w w' : World} {r b1 b2 b3 n : Nat} {s : Pq.St Jb} {rs hs fs : Array Value}

/-- Told by a worker's own deque, or another's. -/
theorem RV.got {u v : Nat} {rv : Value} {L : List JbP} {L' : List Jb} {e : JbP} (h : RV S w r b1 b2 b3 n s rs hs fs) (hu : u < n) (hv : v < n) (hL : RJ S w rv L) (hL' : L.map Prod.fst = L') (he : RS S w e.2 e.1.s) :
    (∃ rs hs fs, RV S (((w.setCell ⟨b1, u, none⟩ rv) |> fun w => set6 w b2 (v * 6) e).setCell ⟨b3, v, none⟩ (.bool true)) r b1 b2 b3 n ⟨s.rows.set u L', s.hold.set v (some e.1)⟩ rs hs fs) ∧ Kp (fun k => k = b1 ∨ k = b2 ∨ k = b3) w (((w.setCell ⟨b1, u, none⟩ rv) |> fun w => set6 w b2 (v * 6) e).setCell ⟨b3, v, none⟩ (.bool true)) := by
  have h1 := h.set1 hu hL hL'
  have k1 : Kp (fun k => k = b1) w (w.setCell ⟨b1, u, none⟩ rv) := (Kp.refl _ w).set _ _ rfl
  obtain ⟨hs', h2⟩ := h1.set23 (e := e) (o := some e.1) hv (he.kept k1 (fun k hk e => h.n1 (e ▸ hk))) rfl
  have k2 : Kp (fun k => k = b2) (w.setCell ⟨b1, u, none⟩ rv) (set6 (w.setCell ⟨b1, u, none⟩ rv) b2 (v * 6) e) := set6_kept _ _ _ _ _ rfl
  exact ⟨⟨_, _, _, h2⟩, ((k1.mono (T' := fun k => k = b1 ∨ k = b2 ∨ k = b3) (fun k h => .inl h)).trans k2 (fun k h _ => .inr (.inl h))).set _ _ (.inr (.inr rfl))⟩

/-- What is told is laid into the result's box. -/
theorem rt_fin {X : Nat → Prop} {W : World} {s' : Pq.St Jb} {cs : Array Value} {j : Jb} {sv : Value} {N0 : Nat} (hS : ∀ k, S k → k < N0) (hR : ∃ rs hs fs, RV S W r b1 b2 b3 n s' rs hs fs) (hk : Kp X w W) (hb : W.heap[N0]? = some (.cells cs 37 (0, 0))) (hz : cs.size = 6) (hs : RS S W sv j.s) (hN : w.heap.size ≤ N0) (h0 : r < N0) (h1 : b1 < N0) (h2 : b2 < N0) (h3 : b3 < N0) :
    (set6 W N0 0 (j, sv)).heap[N0]? = some (.cells (jrow (j, sv)).toArray 37 (0, 0)) ∧ (∃ rs hs fs, RV S (set6 W N0 0 (j, sv)) r b1 b2 b3 n s' rs hs fs) ∧ Kp X w (set6 W N0 0 (j, sv)) ∧ RS S (set6 W N0 0 (j, sv)) sv j.s := by
  have k9 : Kp (fun k => k = N0) W (set6 W N0 0 (j, sv)) := set6_kept _ _ _ _ _ rfl
  have hT : ∀ k, S k → ¬ k = N0 := fun k hk e => by have := hS k hk; omega
  obtain ⟨rs, hs', fs, hR⟩ := hR
  exact ⟨set6_whole hb hz (j, sv), ⟨rs, hs', fs, hR.kept k9 hT (by omega) (by omega) (by omega) (by omega)⟩, hk.trans k9 (fun k e hlt => by omega), hs.kept k9 hT⟩

set_option maxHeartbeats 16000000 in
theorem rtake_free {v : Nat} (pick : Int) (hSl : ∀ k, S k → k < w.heap.size) (h : RV S w r b1 b2 b3 n s rs hs fs) (hi : PInv s) (hv : v < n) (hj : s.hd v = none) (hpk : -9223372036854775808 ≤ pick ∧ pick ≤ 9223372036854775807) :
    Calls Try.prog 26 #[.pointer (some ⟨r, 0, none⟩), .int .i64 (v : Int), .int .i64 pick] w fun x w' => RTkC S w r b1 b2 b3 n (Pq.takeS s n v (frm pick n)) x w' := by
  have HTS : Hid _ := take_of h.ok hv (frm pick n)
  have HJ : Hid _ := hj
  have HI : Hid _ := hi
  have HSl : Hid (∀ k, S k → k < w.heap.size) := hSl
  clear hSl
  have HB1 : Hid _ := bl1 w (.cells #[.int .i64 0, .bool false, .int .i64 0, .bool false, .int .i64 0, .slice none 0 0] 37)
  have HR0 : Hid _ := row_new w #[.int .i64 0, .bool false, .int .i64 0, .bool false, .int .i64 0, .slice none 0 0] 37
  have HC : Hid _ := is_at (h.later HB1.out) hv
  have HH : Hid _ := h
  have c1 := h.c1
  have c3 := h.c3
  have y := h.has_at hv
  rw [hj] at y
  simp only [Option.isSome_none] at y
  obtain ⟨rv, L, yr, hL, hL2⟩ := h.row_at hv
  have hLl : L.length = (s.row v).length := by rw [← hL2, List.length_map]
  have hl128 := (hi.row v).1
  have HD : Hid (∀ wx, Below w.heap.size w wx → Calls Try.prog 46 #[rv] wx fun e w' => RTakeC S wx (takeP true (s.row v)) e w') := fun wx hb => by
    have := rpop_any S wx rv L (hL.later hb) (by omega)
    rw [hL2] at this
    exact this
  obtain ⟨ra, rc, hrv⟩ := hL.slice
  subst hrv
  obtain ⟨rl, hrl⟩ : ∃ m, L.length = m := ⟨_, rfl⟩
  rw [hrl] at yr HD
  have hvn : (v : Int) < (n : Int) := by omega
  have hr := row_lt h.blk
  have hb3 := row_lt h.q3
  have hb1 := row_lt h.q1
  have h64 := h.n64
  have h0 := h.n0
  clear h hj hi hL hL2 hLl hrl hl128
  go_enter Try.func26, Try.ntmps26
  go_wp2_with fail
  refine Calls.mono HC.out ?_
  rintro e w1 ⟨rfl, hw⟩
  rw [hw]
  clear HC hw
  go_wp2_with fail
  refine Calls.mono (HD.out _ HB1.out) ?_
  rintro e w2 ⟨rv', L', sv, rfl, q1, q2, q3, q4⟩
  have HB2 : Hid (Below w.heap.size w w2) := HB1.out.trans (q4.mono HB1.out.size)
  have HR2 : Hid _ := row_later HR0.out q4
  by_cases hrow : s.row v = []
  · have e1 : takeP true (s.row v) = ((zJ, 6), []) := by rw [hrow]; rfl
    rw [e1] at q2 q3 ⊢
    obtain ⟨a', c', hrv'⟩ := q1.slice
    subst hrv'
    obtain ⟨sa, sc, hsv, _⟩ := q3.1
    subst hsv
    have HN : Hid (nextP s v (Pq.circ n (frm pick n)) = match firstP false s (Pq.circ n (frm pick n)) with | some r => some r | none => firstP true s (Pq.circ n (frm pick n))) := by
      show _ = _
      unfold nextP
      rw [HJ.out, hrow]
      rfl
    have HR3 : Hid (∀ wr, Below (w2.alloc (.cells #[.int .i64 0, .bool false, .int .i64 0, .bool false, .int .i64 0, .slice sa 0 sc] 37)).heap.size (w2.alloc (.cells #[.int .i64 0, .bool false, .int .i64 0, .bool false, .int .i64 0, .slice sa 0 sc] 37)) wr → Below w.heap.size w wr ∧ wr.heap[w.heap.size]? = some (.cells #[.int .i64 0, .bool false, .int .i64 0, .bool false, .int .i64 0, .slice none 0 0] 37 (0, 0))) := fun wr hb =>
      ⟨(HB2.out.alloc HB2.out.size _).trans (hb.mono (HB2.out.alloc HB2.out.size _).size), row_later (row_later HR2.out (bl1 w2 _)) hb⟩
    have HZ : Hid (JV zJ (.slice sa 0 sc) = .agg #[.int .i64 0, .bool false, .int .i64 0, .bool false, .int .i64 0, .slice sa 0 sc]) := rfl
    unfold JV zJ
    dsimp only
    have hfr : frm pick n < n := frm_lt h0
    obtain ⟨f, hf⟩ : ∃ f, frm pick n = f := ⟨_, rfl⟩
    have HF : Hid _ := hf
    have hwf : (wrap64 (pick.tmod n + n)).tmod n = (f : Int) := by
      have h1 := frm_tmod (pick := pick) h0
      rw [Go.IntWalk.wrap64_in _ (by omega)]
      have := frm_at (pick := pick) 0 h0
      simp only [Int.natCast_zero, Int.add_zero, Nat.add_zero] at this
      rw [this, hf, Nat.mod_eq_of_lt (by omega)]
    have hne0 : ¬ (n : Int) = 0 := by omega
    rw [hf] at hfr
    clear q1 q2 q3 q4 HD e1 hrow hf HR0
    go_wp2_with fail
    have H00 : Hid (∀ k u, k < 0 → (Pq.circ n f)[k]? = some u → tkF false s u = none) := fun k u hk => by omega
    have HB00 : Hid (Below (w2.alloc (.cells #[.int .i64 0, .bool false, .int .i64 0, .bool false, .int .i64 0, .slice sa 0 sc] 37)).heap.size (w2.alloc (.cells #[.int .i64 0, .bool false, .int .i64 0, .bool false, .int .i64 0, .slice sa 0 sc] 37)) (w2.alloc (.cells #[.int .i64 0, .bool false, .int .i64 0, .bool false, .int .i64 0, .slice sa 0 sc] 37))) := Below.refl _ _
    generalize w2.alloc (.cells #[.int .i64 0, .bool false, .int .i64 0, .bool false, .int .i64 0, .slice sa 0 sc] 37) = w3 at *
    clear c1 c3 y yr HR2 HB2
    go_loopw [14] (fun s14 wr => ∃ i : Nat, s14 = .int .i64 i ∧ i ≤ n ∧ Hid (Below w3.heap.size w3 wr) ∧ Hid (∀ k u, k < i → (Pq.circ n f)[k]? = some u → tkF false s u = none)) (fun s14 _ => n - (intOf s14).toNat)
    case atStart => exact ⟨0, rfl, Nat.zero_le _, HB00, H00⟩
    case round =>
      obtain ⟨i, rfl, hi, HW, HNO⟩ := hrel
      rename World => wa
      clear H00 HB00
      obtain ⟨hbw, hrw⟩ := HR3.out wa HW.out
      have HHr : Hid _ := HH.out.later hbw
      by_cases hlt : i < n
      · obtain ⟨u, hu⟩ : ∃ u, u = (f + i) % n := ⟨_, rfl⟩
        have hun : u < n := by rw [hu]; exact Nat.mod_lt _ h0
        have HXK : Hid ((Pq.circ n f)[i]? = some u) := by
          show _ = _
          rw [hu]
          simp [Pq.circ, hlt]
        have hm1 : ((f : Int) + (i : Int)).tmod (n : Int) = (u : Int) := by
          rw [hu, Int.tmod_eq_emod_of_nonneg (by omega)]
          simp
        have hm2 : ((f : Int) + (i : Int)) % (n : Int) = (u : Int) := by
          rw [hu]
          simp
        have hin : (i : Int) < (n : Int) := by omega
        have hun2 : (u : Int) < (n : Int) := by omega
        have c1 := HHr.out.c1
        obtain ⟨rv, L, yr, hL, hL2⟩ := HHr.out.row_at hun
        have hLl : L.length = (s.row u).length := by rw [← hL2, List.length_map]
        have hl128 := (HI.out.row u).1
        have HD : Hid (Calls Try.prog 47 #[rv] wa fun e w' => RTakeC S wa (takeP false (s.row u)) e w') := by
          have := rsteal_any S wa rv L hL (by omega)
          rw [hL2] at this
          exact this
        obtain ⟨ra, rc, hrv⟩ := hL.slice
        subst hrv
        obtain ⟨rl, hrl⟩ : ∃ m, L.length = m := ⟨_, rfl⟩
        rw [hrl] at yr HD
        have HRW : Hid _ := hrw
        have HBW : Hid _ := hbw
        clear hu hL hL2 hLl hrl hl128 hrw hbw
        go_wp2_with fail
        refine Calls.mono HD.out ?_
        rintro e w5 ⟨rv', L', sv, rfl, q1, q2, q3, q4⟩
        have HB5 : Hid (Below w.heap.size w w5) := HBW.out.trans (q4.mono HBW.out.size)
        have HR5 : Hid _ := row_later HRW.out q4
        have HW5 : Hid (Below w3.heap.size w3 w5) := HW.out.trans (q4.mono HW.out.size)
        have HH5 : Hid _ := HHr.out.later q4
        obtain ⟨a', c', hrv'⟩ := q1.slice
        subst hrv'
        obtain ⟨sa, sc, hsv, _⟩ := q3.1
        subst hsv
        cases hrow : s.row u with
        | nil =>
          have HNO2 : Hid (∀ k x, k < i + 1 → (Pq.circ n f)[k]? = some x → tkF false s x = none) := by
            show ∀ k x, _
            intro k x hk hx
            by_cases e : k = i
            · subst e
              rw [HXK.out] at hx
              cases hx
              unfold tkF
              rw [hrow]
            · exact HNO.out k x (by omega) hx
          have hb6 : Hid (Below w3.heap.size w3 (w5.alloc (.cells #[.int .i64 0, .bool false, .int .i64 0, .bool false, .int .i64 0, .slice sa 0 sc] 37))) := HW5.out.alloc HW5.out.size _
          unfold JV takeP zJ
          rw [if_pos rfl]
          dsimp only
          clear q1 q2 q3 q4 hrow HD
          go_wp2_with fail
          go_roundw
          case rel => exact ⟨i + 1, by go_num, by omega, hb6, HNO2⟩
          case measure => simp [intOf]; omega
        | cons j rest =>
          rw [hrow] at q2 q3
          have HT1 : Hid (tkF false s u = some (j, ⟨s.rows.set u rest, s.hold⟩)) := by
            show _ = _
            unfold tkF
            rw [hrow]
          have HNX : Hid (Pq.takeS s n v (frm pick n) = (⟨s.rows.set u rest, s.hold.set v (some j)⟩, some (j, u))) := by
            show _ = _
            rw [HTS.out]
            unfold takeQ
            rw [HN.out, HF.out, firstP_some HNO.out HXK.out HT1.out]
            rfl
          have Q1 : Hid (RJ S w5 (.slice a' L'.length c') L') := q1
          have Q2 : Hid (L'.map Prod.fst = rest) := q2
          have Q3 : Hid (RS S w5 (.slice sa j.s.length sc) j.s) := q3
          have c1 := HH5.out.c1
          have c2 := HH5.out.c2
          have c3 := HH5.out.c3
          have yh := HH5.out.has_at hv
          obtain ⟨e0, ⟨z0, z1, z2, z3, z4, z5⟩, _⟩ := HH5.out.hold_at hv
          have yr1 := cell_later q4 yr
          have f1 := froz_row HH5.out.q1
          have f2 := froz_row HH5.out.q2
          have f3 := froz_row HH5.out.q3
          have f0 := froz_row HR5.out
          obtain ⟨d0, d1, d2, d3, d4, d5⟩ := JC.of_row (e := zJ) (v := .slice none 0 0) HR5.out
          simp only [Nat.zero_add] at d0 d1 d2 d3 d4 d5
          unfold zJ at d0 d1 d2 d3 d4
          dsimp only at d0 d1 d2 d3 d4
          have hx0 := row_lt HR5.out
          have hx1 := row_lt HH5.out.blk
          have hx2 := row_lt HH5.out.q1
          have hx3 := row_lt HH5.out.q2
          have hx4 := row_lt HH5.out.q3
          have hn1 := HH5.out.d1
          have hn2 := HH5.out.d2
          have hn3 := HH5.out.d3
          have hn12 := HH5.out.d12
          have hn13 := HH5.out.d13
          have hn23 := HH5.out.d23
          have hb2 := row_lt HH.out.q2
          have ha1 : b1 ≠ w.heap.size := by omega
          have ha2 : b2 ≠ w.heap.size := by omega
          have ha3 : b3 ≠ w.heap.size := by omega
          have ha4 : r ≠ w.heap.size := by omega
          obtain ⟨ji, ju, jt, jb, jk, js⟩ := j
          unfold takeP JV
          rw [if_neg (by simp), if_neg (by decide)]
          dsimp only [List.headD, List.tail] at *
          obtain ⟨ml, hml⟩ : ∃ m, js.length = m := ⟨_, rfl⟩
          have HML : Hid _ := hml
          obtain ⟨kl, hkl⟩ : ∃ m, L'.length = m := ⟨_, rfl⟩
          have HKL : Hid _ := hkl
          rw [hml, hkl]
          clear q1 q2 q3 q4 hrow HD hml hkl yr
          go_wp2_with fail
          go_region
          all_goals
            go_wp2_with fail
            obtain rfl := HML.out
            obtain rfl := HKL.out
            obtain ⟨g1, g2⟩ := HH5.out.got (e := (⟨ji, ju, jt, jb, jk, js⟩, .slice sa js.length sc)) hun hv Q1.out Q2.out Q3.out
            have hk9 := (Kp.of_below (fun k => k = b1 ∨ k = b2 ∨ k = b3) HB5.out).trans g2 (fun _ h _ => h)
            have hr9 := g2.row HR5.out (by omega)
            have hs9 : RS S _ (.slice sa js.length sc) js := RS.kept (S := S) Q3.out g2 (fun k hk e => by
              rcases e with e | e | e
              · exact HH.out.n1 (e ▸ hk)
              · exact HH.out.n2 (e ▸ hk)
              · exact HH.out.n3 (e ▸ hk))
            obtain ⟨m1, m2, m3, m4⟩ := rt_fin (j := ⟨ji, ju, jt, jb, jk, js⟩) HSl.out g1 hk9 hr9 rfl hs9 (Nat.le_refl _) (by omega) (by omega) (by omega) (by omega)
            have hb5 := (bl1 (set6 (((w5.setCell ⟨b1, u, none⟩ (.slice a' L'.length c')) |> fun w => set6 w b2 (v * 6) (⟨ji, ju, jt, jb, jk, js⟩, .slice sa js.length sc)).setCell ⟨b3, v, none⟩ (.bool true)) w.heap.size 0 (⟨ji, ju, jt, jb, jk, js⟩, .slice sa js.length sc)) (.cells #[.int .i64 ji, .bool ju, .int .i64 jt, .bool jb, .int .i64 jk, .slice sa js.length sc] 37)).drew
            refine bodyPost_ret (results_j4 rfl _ _ (e := ⟨ji, ju, jt, jb, jk, js⟩) (v := .slice sa js.length sc) rfl (row_later m1 hb5)) rfl ?_
            rw [HNX.out]
            obtain ⟨x1, x2, x3, m2⟩ := m2
            exact ⟨m3.later hb5, ⟨x1, x2, x3, m2.later hb5⟩, _, rfl, m4.later hb5⟩
      · have hin : i = n := by omega
        subst hin
        have HF1 : Hid (firstP false s (Pq.circ i f) = none) := firstP_none (fun k u hk hu => HNO.out k u (by rwa [circ_len] at hk) hu)
        have c1 := HHr.out.c1
        have c2 := HHr.out.c2
        have c3 := HHr.out.c3
        have HRW : Hid _ := hrw
        have HBW : Hid _ := hbw
        have H00 : Hid (∀ k u, k < 0 → (Pq.circ i f)[k]? = some u → tkF true s u = none) := fun k u hk => by omega
        clear hrw hbw
        go_wp2_with fail
        go_loopw [19] (fun s19 wq => ∃ q : Nat, s19 = .int .i64 q ∧ q ≤ i ∧ Hid (wq = wa) ∧ Hid (∀ k u, k < q → (Pq.circ i f)[k]? = some u → tkF true s u = none)) (fun s19 _ => i - (intOf s19).toNat)
        case atStart => exact ⟨0, rfl, Nat.zero_le _, rfl, H00⟩
        case round =>
          obtain ⟨q, rfl, hq, HWQ, HNO2⟩ := hrel
          rw [HWQ.out]
          clear H00 HWQ
          by_cases hlt2 : q < i
          · obtain ⟨u, hu⟩ : ∃ u, u = (f + q) % i := ⟨_, rfl⟩
            have hun : u < i := by rw [hu]; exact Nat.mod_lt _ h0
            have HXK : Hid ((Pq.circ i f)[q]? = some u) := by
              show _ = _
              rw [hu]
              simp [Pq.circ, hlt2]
            have hm1 : ((f : Int) + (q : Int)).tmod (i : Int) = (u : Int) := by
              rw [hu, Int.tmod_eq_emod_of_nonneg (by omega)]
              simp
            have hm2 : ((f : Int) + (q : Int)) % (i : Int) = (u : Int) := by
              rw [hu]
              simp
            have hin : (q : Int) < (i : Int) := by omega
            have hun2 : (u : Int) < (i : Int) := by omega
            have yh := HHr.out.has_at hun
            clear hu
            cases hj : s.hd u with
            | none =>
              rw [hj] at yh
              simp only [Option.isSome_none] at yh
              have HNO3 : Hid (∀ k x, k < q + 1 → (Pq.circ i f)[k]? = some x → tkF true s x = none) := by
                show ∀ k x, _
                intro k x hk hx
                by_cases e : k = q
                · subst e
                  rw [HXK.out] at hx
                  cases hx
                  unfold tkF
                  rw [hj]
                · exact HNO2.out k x (by omega) hx
              have HRF : Hid True := trivial
              clear hj
              go_wp2_with fail
              go_roundw
              case rel => exact ⟨q + 1, by go_num, by omega, HRF, HNO3⟩
              case measure => simp [intOf]; omega
            | some j =>
              have hne : u ≠ v := fun e => by have := HJ.out; rw [← e, hj] at this; cases this
              have HT1 : Hid (tkF true s u = some (j, ⟨s.rows, s.hold.set u none⟩)) := by
                show _ = _
                unfold tkF
                rw [hj]
              have HNX : Hid (Pq.takeS s i v (frm pick i) = (⟨s.rows, (s.hold.set v (some j)).set u none⟩, some (j, u))) := by
                show _ = _
                rw [HTS.out]
                unfold takeQ
                rw [HN.out, HF.out, HF1.out, firstP_some HNO2.out HXK.out HT1.out]
                simp only [Option.map_some]
                rw [List.set_comm _ _ hne]
              rw [hj] at yh
              simp only [Option.isSome_some] at yh
              obtain ⟨⟨e, sv⟩, ⟨z0, z1, z2, z3, z4, z5⟩, hS, he⟩ := HHr.out.hold_at hun
              rw [hj] at he
              simp only [Option.getD_some] at he
              subst he
              obtain ⟨sa, sc, hsv, _⟩ := hS.1
              dsimp only at hsv
              subst hsv
              have HS1 : Hid (RS S wa (.slice sa e.s.length sc) e.s) := hS
              obtain ⟨e0, ⟨t0, t1, t2, t3, t4, t5⟩, _⟩ := HHr.out.hold_at hv
              have yh2 := HHr.out.has_at hv
              have f2 := froz_row HHr.out.q2
              have f3 := froz_row HHr.out.q3
              have hn2 := HHr.out.d2
              have hn3 := HHr.out.d3
              have hn23 := HHr.out.d23
              have hv64 : (v : Int) < (i : Int) := by omega
              obtain ⟨ei, eu, et, eb, ek, es⟩ := e
              dsimp only at *
              obtain ⟨ml, hml⟩ : ∃ m, es.length = m := ⟨_, rfl⟩
              have HML : Hid _ := hml
              rw [hml] at z5
              clear hj hS hml
              go_wp2_with fail
              go_region
              all_goals
                obtain ⟨W6, hW6⟩ : ∃ W6 : World, (((((((wa.setCell ⟨b2, v * 6, none⟩ (.int .i64 ei)).setCell ⟨b2, v * 6 + 1, none⟩ (.bool eu)).setCell ⟨b2, v * 6 + 2, none⟩ (.int .i64 et)).setCell ⟨b2, v * 6 + 3, none⟩ (.bool eb)).setCell ⟨b2, v * 6 + 4, none⟩ (.int .i64 ek)).setCell ⟨b2, v * 6 + 5, none⟩ (.slice sa ml sc)).setCell ⟨b3, v, none⟩ (.bool true)).drew = W6 := ⟨_, rfl⟩
                rw [hW6]
                obtain rfl := HML.out
                obtain ⟨hs6, h6⟩ := HHr.out.set23 (e := (⟨ei, eu, et, eb, ek, es⟩, .slice sa es.length sc)) (o := some ⟨ei, eu, et, eb, ek, es⟩) hv HS1.out rfl
                have k6 : Kp (fun k => k = b2 ∨ k = b3) wa W6 := by
                  rw [← hW6]
                  have k9 : Kp (fun k => k = b2) wa (set6 wa b2 (v * 6) (⟨ei, eu, et, eb, ek, es⟩, .slice sa es.length sc)) := set6_kept _ _ _ _ _ rfl
                  exact ((k9.mono (T' := fun k => k = b2 ∨ k = b3) (fun k h => .inl h)).set ⟨b3, v, none⟩ (.bool true) (.inr rfl)).drew
                have H6 : Hid (RV S W6 r b1 b2 b3 i ⟨s.rows, s.hold.set v (some ⟨ei, eu, et, eb, ek, es⟩)⟩ rs hs6 (fs.setIfInBounds v (.bool true))) := by
                  show RV _ _ _ _ _ _ _ _ _ _ _
                  rw [← hW6]
                  exact h6.later (Below.refl _ _).drew
                have K6 : Hid _ := k6
                clear hW6 h6 k6 c1 c2 c3 yh yh2 z0 z1 z2 z3 z4 z5 t0 t1 t2 t3 t4 t5 f2 f3
                have c2 := H6.out.c2
                have c3 := H6.out.c3
                obtain ⟨e0, ⟨t0, t1, t2, t3, t4, t5⟩, _⟩ := H6.out.hold_at hun
                have yh2 := H6.out.has_at hun
                have f2 := froz_row H6.out.q2
                have f3 := froz_row H6.out.q3
                go_wp2_with fail
                go_region
              all_goals
                obtain ⟨W7, hW7⟩ : ∃ W7 : World, (((((((W6.setCell ⟨b2, u * 6, none⟩ (.int .i64 0)).setCell ⟨b2, u * 6 + 1, none⟩ (.bool false)).setCell ⟨b2, u * 6 + 2, none⟩ (.int .i64 0)).setCell ⟨b2, u * 6 + 3, none⟩ (.bool false)).setCell ⟨b2, u * 6 + 4, none⟩ (.int .i64 0)).setCell ⟨b2, u * 6 + 5, none⟩ (.slice none 0 0)).setCell ⟨b3, u, none⟩ (.bool false)).drew = W7 := ⟨_, rfl⟩
                rw [hW7]
                obtain ⟨hs7, h7⟩ := H6.out.set23 (e := (zJ, .slice none 0 0)) (o := none) hun (RS.nil _ _) rfl
                have k7 : Kp (fun k => k = b2 ∨ k = b3) W6 W7 := by
                  rw [← hW7]
                  have k9 : Kp (fun k => k = b2) W6 (set6 W6 b2 (u * 6) (zJ, .slice none 0 0)) := set6_kept _ _ _ _ _ rfl
                  exact ((k9.mono (T' := fun k => k = b2 ∨ k = b3) (fun k h => .inl h)).set ⟨b3, u, none⟩ (.bool false) (.inr rfl)).drew
                have H7 : Hid (RV S W7 r b1 b2 b3 i ⟨s.rows, (s.hold.set v (some ⟨ei, eu, et, eb, ek, es⟩)).set u none⟩ rs hs7 ((fs.setIfInBounds v (.bool true)).setIfInBounds u (.bool false))) := by
                  show RV _ _ _ _ _ _ _ _ _ _ _
                  rw [← hW7]
                  exact h7.later (Below.refl _ _).drew
                have K7 : Hid _ := K6.out.trans k7 (fun _ h _ => h)
                have HR7 : Hid _ := K7.out.row HRW.out (by have := row_lt HH.out.q2; have := row_lt HH.out.q3; omega)
                clear hW7 h7 k7 c2 c3 yh2 t0 t1 t2 t3 t4 t5 f2 f3
                have c2 := H7.out.c2
                obtain ⟨⟨e7, sv7⟩, ⟨t0, t1, t2, t3, t4, t5⟩, hS7, he7⟩ := H7.out.hold_at hv
                have hh7 : (⟨s.rows, (s.hold.set v (some ⟨ei, eu, et, eb, ek, es⟩)).set u none⟩ : Pq.St Jb).hd v = some ⟨ei, eu, et, eb, ek, es⟩ := by
                  unfold Pq.St.hd
                  rw [Pq.getD_set _ _ _ _ _ (by rw [List.length_set, HH.out.ok.h]; exact hun), if_neg (fun h => hne h.symm), Pq.getD_set _ _ _ _ _ (by rw [HH.out.ok.h]; exact hv), if_pos rfl]
                rw [hh7] at he7
                simp only [Option.getD_some] at he7
                subst he7
                obtain ⟨sb, sd, hsv, _⟩ := hS7.1
                dsimp only at hsv t0 t1 t2 t3 t4 t5
                subst hsv
                have HS7 : Hid (RS S W7 (.slice sb es.length sd) es) := hS7
                obtain ⟨d0, d1, d2, d3, d4, d5⟩ := JC.of_row (e := zJ) (v := .slice none 0 0) HR7.out
                simp only [Nat.zero_add] at d0 d1 d2 d3 d4 d5
                unfold zJ at d0 d1 d2 d3 d4
                dsimp only at d0 d1 d2 d3 d4
                have f0 := froz_row HR7.out
                clear hS7 hh7
                go_wp2_with fail
                have hk9 : Kp (fun k => k = b1 ∨ k = b2 ∨ k = b3) w W7 := (Kp.of_below _ HBW.out).trans (K7.out.mono (T' := fun k => k = b1 ∨ k = b2 ∨ k = b3) (fun k h => .inr h)) (fun _ h _ => h)
                obtain ⟨m1, m2, m3, m4⟩ := rt_fin (j := ⟨ei, eu, et, eb, ek, es⟩) HSl.out ⟨_, _, _, H7.out⟩ hk9 HR7.out rfl HS7.out (Nat.le_refl _) (row_lt HH.out.blk) (row_lt HH.out.q1) (row_lt HH.out.q2) (row_lt HH.out.q3)
                refine bodyPost_ret (results_j4 rfl _ _ (e := ⟨ei, eu, et, eb, ek, es⟩) (v := .slice sb es.length sd) rfl m1) rfl ?_
                rw [HNX.out]
                exact ⟨m3, m2, _, rfl, m4⟩
          · have hqi : q = i := by omega
            subst hqi
            have HNX : Hid (Pq.takeS s q v (frm pick q) = (s, none)) := by
              show _ = _
              rw [HTS.out]
              unfold takeQ
              rw [HN.out, HF.out, HF1.out, firstP_none (fun k u hk hu => HNO2.out k u (by rwa [circ_len] at hk) hu)]
              rfl
            obtain ⟨d0, d1, d2, d3, d4, d5⟩ := JC.of_row (e := zJ) (v := .slice none 0 0) HRW.out
            simp only [Nat.zero_add] at d0 d1 d2 d3 d4 d5
            unfold zJ at d0 d1 d2 d3 d4
            dsimp only at d0 d1 d2 d3 d4
            have f0 := froz_row HRW.out
            go_wp2_with fail
            obtain ⟨m1, m2, m3, m4⟩ := rt_fin (X := fun k => k = b1 ∨ k = b2 ∨ k = b3) (j := zJ) (sv := .slice none 0 0) HSl.out ⟨_, _, _, HHr.out⟩ (Kp.of_below _ HBW.out) HRW.out rfl (RS.nil _ _) (Nat.le_refl _) (row_lt HH.out.blk) (row_lt HH.out.q1) (row_lt HH.out.q2) (row_lt HH.out.q3)
            refine bodyPost_ret (results_j4 rfl _ _ (e := zJ) (v := .slice none 0 0) rfl m1) rfl ?_
            rw [HNX.out]
            exact ⟨m3, m2, rfl⟩
  · obtain ⟨j, hjl⟩ : ∃ j, (s.row v).getLast? = some j := ⟨_, List.getLast?_eq_some_getLast hrow⟩
    have e1 : takeP true (s.row v) = ((j, 0), (s.row v).dropLast) := by
      unfold takeP
      rw [if_neg hrow, if_pos rfl, List.getLastD_eq_getLast?, hjl]
      rfl
    have HNX : Hid (Pq.takeS s n v (frm pick n) = (⟨s.rows.set v (s.row v).dropLast, s.hold.set v (some j)⟩, some (j, v))) := by
      show _ = _
      rw [HTS.out]
      unfold takeQ nextP
      rw [HJ.out, hjl]
      rfl
    rw [e1] at q2 q3 ⊢
    obtain ⟨a', c', hrv'⟩ := q1.slice
    subst hrv'
    obtain ⟨sa, sc, hsv, _⟩ := q3.1
    subst hsv
    have HH5 : Hid _ := HH.out.later HB2.out
    have Q1 : Hid (RJ S w2 (.slice a' L'.length c') L') := q1
    have Q2 : Hid (L'.map Prod.fst = (s.row v).dropLast) := q2
    have Q3 : Hid (RS S w2 (.slice sa j.s.length sc) j.s) := q3
    have g1 := HH5.out.c1
    have g2 := HH5.out.c2
    have g3 := HH5.out.c3
    have yh := HH5.out.has_at hv
    obtain ⟨e0, ⟨z0, z1, z2, z3, z4, z5⟩, _⟩ := HH5.out.hold_at hv
    have yr1 := cell_later HB2.out yr
    have f1 := froz_row HH5.out.q1
    have f2 := froz_row HH5.out.q2
    have f3 := froz_row HH5.out.q3
    have f0 := froz_row HR2.out
    obtain ⟨d0, d1, d2, d3, d4, d5⟩ := JC.of_row (e := zJ) (v := .slice none 0 0) HR2.out
    simp only [Nat.zero_add] at d0 d1 d2 d3 d4 d5
    unfold zJ at d0 d1 d2 d3 d4
    dsimp only at d0 d1 d2 d3 d4
    have hx0 := row_lt HR2.out
    have hx1 := row_lt HH5.out.blk
    have hx2 := row_lt HH5.out.q1
    have hx3 := row_lt HH5.out.q2
    have hx4 := row_lt HH5.out.q3
    have hn1 := HH5.out.d1
    have hn2 := HH5.out.d2
    have hn3 := HH5.out.d3
    have hn12 := HH5.out.d12
    have hn13 := HH5.out.d13
    have hn23 := HH5.out.d23
    have hb2 := row_lt HH.out.q2
    have ha1 : b1 ≠ w.heap.size := by omega
    have ha2 : b2 ≠ w.heap.size := by omega
    have ha3 : b3 ≠ w.heap.size := by omega
    have ha4 : r ≠ w.heap.size := by omega
    obtain ⟨ji, ju, jt, jb, jk, js⟩ := j
    unfold JV
    dsimp only at *
    obtain ⟨ml, hml⟩ : ∃ m, js.length = m := ⟨_, rfl⟩
    have HML : Hid _ := hml
    obtain ⟨kl, hkl⟩ : ∃ m, L'.length = m := ⟨_, rfl⟩
    have HKL : Hid _ := hkl
    rw [hml, hkl]
    clear q1 q2 q3 q4 hrow HD hml hkl yr e1 hjl c1 c3 y
    go_wp2_with fail
    go_region
    all_goals
      go_wp2_with fail
      obtain rfl := HML.out
      obtain rfl := HKL.out
      obtain ⟨g1, g2⟩ := HH5.out.got (e := (⟨ji, ju, jt, jb, jk, js⟩, .slice sa js.length sc)) hv hv Q1.out Q2.out Q3.out
      have hk9 := (Kp.of_below (fun k => k = b1 ∨ k = b2 ∨ k = b3) HB2.out).trans g2 (fun _ h _ => h)
      have hr9 := g2.row HR2.out (by omega)
      have hs9 : RS S _ (.slice sa js.length sc) js := RS.kept (S := S) Q3.out g2 (fun k hk e => by
        rcases e with e | e | e
        · exact HH.out.n1 (e ▸ hk)
        · exact HH.out.n2 (e ▸ hk)
        · exact HH.out.n3 (e ▸ hk))
      obtain ⟨m1, m2, m3, m4⟩ := rt_fin (j := ⟨ji, ju, jt, jb, jk, js⟩) HSl.out g1 hk9 hr9 rfl hs9 (Nat.le_refl _) (by omega) (by omega) (by omega) (by omega)
      have hb5 := (bl1 (set6 (((w2.setCell ⟨b1, v, none⟩ (.slice a' L'.length c')) |> fun w => set6 w b2 (v * 6) (⟨ji, ju, jt, jb, jk, js⟩, .slice sa js.length sc)).setCell ⟨b3, v, none⟩ (.bool true)) w.heap.size 0 (⟨ji, ju, jt, jb, jk, js⟩, .slice sa js.length sc)) (.cells #[.int .i64 ji, .bool ju, .int .i64 jt, .bool jb, .int .i64 jk, .slice sa js.length sc] 37)).drew
      refine bodyPost_ret (results_j4 rfl _ _ (e := ⟨ji, ju, jt, jb, jk, js⟩) (v := .slice sa js.length sc) rfl (row_later m1 hb5)) rfl ?_
      rw [HNX.out]
      obtain ⟨x1, x2, x3, m2⟩ := m2
      exact ⟨m3.later hb5, ⟨x1, x2, x3, m2.later hb5⟩, _, rfl, m4.later hb5⟩

/-- Take. -/
theorem rtake_w {v : Nat} (pick : Int) (h : RV S w r b1 b2 b3 n s rs hs fs) (hi : PInv s) (hv : v < n) (hpk : -9223372036854775808 ≤ pick ∧ pick ≤ 9223372036854775807) :
    Calls Try.prog 26 #[.pointer (some ⟨r, 0, none⟩), .int .i64 (v : Int), .int .i64 pick] w fun x w' => RTkC S w r b1 b2 b3 n (Pq.takeS s n v (frm pick n)) x w' := by
  cases hj : s.hd v with
  | some j => exact rtake_held pick h hv hj
  | none =>
    have h' : RV (fun k => S k ∧ k < w.heap.size) w r b1 b2 b3 n s rs hs fs := h.mono (fun k hk hs => ⟨hs, hk⟩) (fun k hk => .inl hk.1)
    refine Calls.mono (rtake_free pick (fun k hk => hk.2) h' hi hv hj hpk) ?_
    rintro e w' ⟨k1, ⟨rs', hs', fs', hR⟩, k3⟩
    refine ⟨k1, ⟨rs', hs', fs', { hR with row := hR.row.mono (fun k _ hk => hk.1), hold := hR.hold.mono (fun k _ hk => hk.1), nr := h.nr, n1 := h.n1, n2 := h.n2, n3 := h.n3 }⟩, ?_⟩
    cases hx : (Pq.takeS s n v (frm pick n)).2 with
    | none => rw [hx] at k3; exact k3
    | some x =>
      rw [hx] at k3
      obtain ⟨sv, rfl, q⟩ := k3
      exact ⟨sv, rfl, q.mono (fun k _ hk => hk.1)⟩
end Go.Proofs.Ytfhmmiilenonkaa
