/- The walk over PoolPlays. -/
import Derived.Test.YtfhmmiilenonkaaVj
import Derived.Test.YtfhmmiilenonkaaVh
namespace Go.Proofs.Ytfhmmiilenonkaa
open Go.RowKit Go.Shelf
set_option maxRecDepth 1000000
set_option linter.unusedVariables false

variable {N : Nat} {w w' : World} {p r n : Nat} {s : Pq.St Jb}

set_option maxHeartbeats 8000000 in
theorem plays_walk (n0 : Int) (a : Option Addr) (nn c : Nat) (l : List AcP) (w : World) (hx0 : RA w (.slice a nn c) l) :
    Calls Try.prog 3 #[.int .i64 n0, .slice a nn c] w fun e w' => e = .returned (.bool true) ∧ Below w.heap.size w w' := by
  have HF : Hid _ := few_any w (.slice a nn c) l hx0
  have HLv : Hid (∀ wx, Calls Try.prog 8 #[] wx fun e w' => e = .returned (.bool true) ∧ Below wx.heap.size wx w') := fun wx => lives_any wx
  have HX0 : Hid (∀ wx, Below w.heap.size w wx → RA wx (.slice a nn c) l) := fun wx hb => hx0.later hb
  clear hx0
  go_enter Try.func3, Try.ntmps3
  go_wp2_with fail
  refine Calls.mono HF.out ?_
  rintro e w1 ⟨q, rfl, hq, hb1⟩
  have HB1 : Hid _ := hb1
  cases q with
  | false =>
    clear hb1 hq HF
    go_wp2_with fail
    refine Calls.mono (HLv.out w1) ?_
    rintro e w3 ⟨rfl, hb3⟩
    have HB3 : Hid (Below w.heap.size w w3) := HB1.out.trans (hb3.mono HB1.out.size)
    clear hb3
    go_wp2_with fail
    go_ret
    exact ⟨rfl, HB3.out⟩
  | true =>
    have hl300 : l.length ≤ 300 := (hq rfl).1
    have HX : Hid (∀ x ∈ l, okA x.1) := (hq rfl).2
    have hRA := HX0.out w1 hb1
    clear hb1 hq HF
    by_cases hn : n0 < 1 ∨ 64 < n0
    · have HN : Hid _ := new_err n0 hn w1
      have HR : Hid _ := rnew_err n0 hn w1
      clear hRA
      go_wp2_with fail
      refine Calls.mono HN.out ?_
      rintro e w2 ⟨rfl, hw2⟩
      rw [hw2]
      clear HN hw2
      go_wp2_with fail
      refine Calls.mono HR.out ?_
      rintro e w2 ⟨rfl, hw2⟩
      rw [hw2]
      clear HR hw2
      go_wp2_with fail
      refine Calls.mono (HLv.out w1) ?_
      rintro e w3 ⟨rfl, hb3⟩
      have HB3 : Hid (Below w.heap.size w w3) := HB1.out.trans (hb3.mono HB1.out.size)
      clear hb3
      go_wp2_with fail
      go_ret
      exact ⟨rfl, HB3.out⟩
    · obtain ⟨n, rfl⟩ : ∃ n : Nat, n0 = n := ⟨n0.toNat, by omega⟩
      have hn0 : 0 < n := by omega
      have hn64 : n ≤ 64 := by omega
      have HN : Hid _ := new_w n hn0 hn64 w1
      obtain ⟨a', cap, he, hc, hm, hr⟩ := hRA
      obtain ⟨N, hN⟩ : ∃ N, N = w1.heap.size := ⟨_, rfl⟩
      have HNN : Hid (N = w1.heap.size) := hN
      have HRR : Hid (∀ i x, l[i]? = some x → ∃ b off, a = some ⟨b, off, none⟩ ∧ w1.cell? ⟨b, off + i * 9, none⟩ = some (.int .i64 x.1.k) ∧ w1.cell? ⟨b, off + i * 9 + 1, none⟩ = some (.int .i64 x.1.v) ∧ w1.cell? ⟨b, off + i * 9 + 2, none⟩ = some (.int .i64 x.1.n) ∧ JC w1 b (off + i * 9 + 3) (x.1.e, x.2) ∧ RS (fun k => k < N) w1 x.2 x.1.e.s) := by
        have e1 := (Value.slice.inj he).1
        subst e1
        intro i x hx
        obtain ⟨b, off, q1, q2, q3, q4, q5, q6, _⟩ := hr i x hx
        rw [hN]
        exact ⟨b, off, q1, q2, q3, q4, q5, q6⟩
      have HLN : Hid (l.length = nn) := (Value.slice.inj he).2.1.symm
      have hc2 := (Value.slice.inj he).2.2
      have hnc : nn ≤ c := by have := HLN.out; omega
      have hcm : c ≤ maxLen := by omega
      have hn3 : nn ≤ 300 := by have := HLN.out; omega
      rw [← hN] at HN
      clear he hc hm hr hN hc2 hl300 HX0
      go_wp2_with fail
      refine Calls.mono HN.out ?_
      rintro e w2 ⟨p, rfl, hp1, hb1⟩
      have HP1 : Hid _ := hp1
      have HB2 : Hid (Below N w1 w2) := hb1
      have HR : Hid _ := rnew_w n hn0 hn64 w2 N hp1.le
      clear hp1 hb1 HN
      go_wp2_with fail
      refine Calls.mono HR.out ?_
      rintro e w3 ⟨r, b1, b2, b3, rs, hs, fs, rfl, hr, h0, h1, h2, h3, hb2⟩
      have HPB : Hid (PB N w3 p r n (playsP n (l.take 0))) := by
        have h5 := HP1.out
        have h6 := HB2.out
        rw [HNN.out] at h5 h6 hr ⊢
        exact PB.begin h5 h6 hr h0 h1 h2 h3 hb2
      have HB3 : Hid (Below N w1 w3) := HB2.out.trans (hb2.mono HP1.out.le)
      clear hr h0 h1 h2 h3 hb2 HR HP1 HB2
      go_wp2_with fail
      go_loopw [9] (fun s9 wr => ∃ i : Nat, s9 = .int .i64 i ∧ i ≤ nn ∧ Hid (PB N wr p r n (playsP n (l.take i))) ∧ Hid (Below N w1 wr)) (fun s9 _ => nn - (intOf s9).toNat)
      case atStart => exact ⟨0, rfl, Nat.zero_le _, HPB, HB3⟩
      case round =>
        obtain ⟨i, rfl, hi, HO, HB⟩ := hrel
        rename World => wr
        by_cases hlt : i < nn
        · obtain ⟨x, hx⟩ := getD_ac (L := l) (k := i) (by rw [HLN.out]; exact hlt)
          obtain ⟨b, off, rfl, d, dv, dn, dJ, hRS⟩ := HRR.out i x hx
          have hbw : Below w1.heap.size w1 wr := HNN.out ▸ HB.out
          have d' := cell_later hbw d
          have dv' := cell_later hbw dv
          have dn' := cell_later hbw dn
          obtain ⟨d0, d1, d2, d3, d4, d5⟩ := dJ.later hbw
          have HSt : Hid _ := step_any HO.out (HX.out x (List.mem_of_getElem? hx)) (hRS.later hbw)
          have HP : Hid (playsP n (l.take (i + 1)) = stepP n (playsP n (l.take i)) x.1) := playsP_take hx
          rw [← HP.out] at HSt
          obtain ⟨⟨xk, xv, xn, ⟨xi, xu, xt, xb, xkk, xs⟩⟩, xv2⟩ := x
          obtain ⟨⟨sa, sc, hsv, _⟩, _⟩ := hRS
          dsimp only at *
          subst hsv
          unfold AV at HSt
          dsimp only at HSt
          obtain ⟨sl, hsl⟩ : ∃ n, xs.length = n := ⟨_, rfl⟩
          rw [hsl] at HSt d5
          have g0 : wr.cell? ⟨b, off + i * 9 + 3, none⟩ = some (.int .i64 xi) := d0
          have g1 : wr.cell? ⟨b, off + i * 9 + 4, none⟩ = some (.bool xu) := d1
          have g2 : wr.cell? ⟨b, off + i * 9 + 5, none⟩ = some (.int .i64 xt) := d2
          have g3 : wr.cell? ⟨b, off + i * 9 + 6, none⟩ = some (.bool xb) := d3
          have g4 : wr.cell? ⟨b, off + i * 9 + 7, none⟩ = some (.int .i64 xkk) := d4
          have g5 : wr.cell? ⟨b, off + i * 9 + 8, none⟩ = some (.slice sa sl sc) := d5
          have hji : (i : Int) < (nn : Int) := by omega
          clear hx hsl hbw d dv dn dJ HO
          clear d0 d1 d2 d3 d4 d5
          go_wp2_with fail
          refine Calls.mono HSt.out ?_
          rintro e w4 ⟨rfl, ho3, hb3⟩
          have HO3 : Hid _ := ho3
          have HB4 : Hid (Below N w1 w4) := HB.out.trans hb3
          clear ho3 hb3 HSt HB
          by_cases h5 : i % 10 = 9
          · have h51 : (i : Int) % 10 = 9 := by omega
            have h52 : ((i : Int).tmod 10 == 9) = true := by rw [Int.tmod_eq_emod_of_nonneg (by omega), h51]; rfl
            have HAl : Hid _ := alike_any HO3.out
            go_wp2_with fail
            refine Calls.mono HAl.out ?_
            rintro e w5 ⟨rfl, hb5⟩
            have HO5 : Hid _ := HO3.out.later hb5
            have HB5 : Hid (Below N w1 w5) := HB4.out.trans (hb5.mono HO3.out.le)
            clear hb5 HAl HO3
            go_wp2_with fail
            go_roundw
            case rel => exact ⟨i + 1, by go_num, by omega, HO5, HB5⟩
            case measure => simp [intOf]; omega
          · have h51 : ¬ (i : Int) % 10 = 9 := by omega
            have h52 : ((i : Int).tmod 10 == 9) = false := by rw [Int.tmod_eq_emod_of_nonneg (by omega)]; simpa using h51
            go_wp2_with fail
            go_roundw
            case rel => exact ⟨i + 1, by go_num, by omega, HO3, HB4⟩
            case measure => simp [intOf]; omega
        · have hin : i = nn := by omega
          subst hin
          have HAl : Hid _ := alike_any HO.out
          have HLe : Hid (N ≤ wr.heap.size) := HO.out.le
          have HBW : Hid (Below w.heap.size w wr) := HB1.out.trans (by have := HB.out; rw [HNN.out] at this; exact this.mono HB1.out.size)
          clear HO HB
          go_wp2_with fail
          refine Calls.mono HAl.out ?_
          rintro e w5 ⟨rfl, hb5⟩
          have HB5 : Hid (Below w.heap.size w w5) := HBW.out.trans (hb5.mono HBW.out.size)
          clear hb5 HAl
          go_wp2_with fail
          refine Calls.mono (HLv.out w5) ?_
          rintro e w6 ⟨rfl, hb6⟩
          have HB6 : Hid (Below w.heap.size w w6) := HB5.out.trans (hb6.mono HB5.out.size)
          clear hb6
          go_wp2_with fail
          go_ret
          exact ⟨rfl, HB6.out⟩
end Go.Proofs.Ytfhmmiilenonkaa
