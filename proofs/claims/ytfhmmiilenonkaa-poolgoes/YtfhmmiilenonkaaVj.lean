/- The laws' begun. -/
import Derived.Test.YtfhmmiilenonkaaVi
namespace Go.Proofs.Ytfhmmiilenonkaa
open Go.RowKit Go.Shelf
set_option maxRecDepth 1000000
set_option linter.unusedVariables false

variable {N : Nat} {w w' : World} {p r n : Nat} {s : Pq.St Jb}

set_option maxHeartbeats 8000000 in
theorem begun_any {a : Option Addr} {nn c : Nat} {l : List AcP} (h : RA w (.slice a nn c) l) (hl : l.length ≤ 300) (hx : ∀ x ∈ l, okA x.1) :
    Calls Try.prog 13 #[.slice a nn c] w fun e w' => ∃ p r, e = .returned (.pointer (some ⟨p, 0, none⟩)) ∧ PB w.heap.size w' p r 3 (playsP 3 l) ∧ Below w.heap.size w w' := by
  have HN : Hid _ := new_w 3 (by omega) (by omega) w
  obtain ⟨a', cap, he, hc, hm, hr⟩ := h
  obtain ⟨N, hN⟩ : ∃ N, N = w.heap.size := ⟨_, rfl⟩
  have HNN : Hid (N = w.heap.size) := hN
  have HRR : Hid (∀ i x, l[i]? = some x → ∃ b off, a = some ⟨b, off, none⟩ ∧ w.cell? ⟨b, off + i * 9, none⟩ = some (.int .i64 x.1.k) ∧ w.cell? ⟨b, off + i * 9 + 1, none⟩ = some (.int .i64 x.1.v) ∧ w.cell? ⟨b, off + i * 9 + 2, none⟩ = some (.int .i64 x.1.n) ∧ JC w b (off + i * 9 + 3) (x.1.e, x.2) ∧ RS (fun k => k < N) w x.2 x.1.e.s) := by
    have e1 := (Value.slice.inj he).1
    subst e1
    intro i x hx
    obtain ⟨b, off, q1, q2, q3, q4, q5, q6, _⟩ := hr i x hx
    rw [hN]
    exact ⟨b, off, q1, q2, q3, q4, q5, q6⟩
  have HLN : Hid (l.length = nn) := (Value.slice.inj he).2.1.symm
  have hc2 := (Value.slice.inj he).2.2
  have hnc : nn ≤ c := by have := HLN.out; omega
  have hcm : c ≤ maxLen := by omega
  have hn3 : nn ≤ 300 := by have := HLN.out; omega
  have HX : Hid (∀ x ∈ l, okA x.1) := hx
  rw [← hN] at HN ⊢
  clear he hc hm hr hN hc2 hx hl
  go_enter Try.func13, Try.ntmps13
  go_wp2_with fail
  refine Calls.mono HN.out ?_
  rintro e w1 ⟨p, rfl, hp1, hb1⟩
  have HP1 : Hid _ := hp1
  have HB1 : Hid (Below N w w1) := hb1
  have HR : Hid _ := rnew_w 3 (by omega) (by omega) w1 N hp1.le
  clear hp1 hb1 HN
  go_wp2_with fail
  refine Calls.mono HR.out ?_
  rintro e w2 ⟨r, b1, b2, b3, rs, hs, fs, rfl, hr, h0, h1, h2, h3, hb2⟩
  have HPB : Hid (PB N w2 p r 3 (playsP 3 (l.take 0))) := by
    have h5 := HP1.out
    have h6 := HB1.out
    rw [HNN.out] at h5 h6 hr ⊢
    exact PB.begin h5 h6 hr h0 h1 h2 h3 hb2
  have HB2 : Hid (Below N w w2) := HB1.out.trans (hb2.mono HP1.out.le)
  clear hr h0 h1 h2 h3 hb2 HR HP1 HB1
  go_wp2_with fail
  go_loopw [7] (fun s7 wr => ∃ i : Nat, s7 = .int .i64 i ∧ i ≤ nn ∧ Hid (PB N wr p r 3 (playsP 3 (l.take i))) ∧ Hid (Below N w wr)) (fun s7 _ => nn - (intOf s7).toNat)
  case atStart => exact ⟨0, rfl, Nat.zero_le _, HPB, HB2⟩
  case round =>
    obtain ⟨i, rfl, hi, HO, HB⟩ := hrel
    rename World => wr
    by_cases hlt : i < nn
    · obtain ⟨x, hx⟩ := getD_ac (L := l) (k := i) (by rw [HLN.out]; exact hlt)
      obtain ⟨b, off, rfl, d, dv, dn, dJ, hRS⟩ := HRR.out i x hx
      have hbw : Below w.heap.size w wr := HNN.out ▸ HB.out
      have d' := cell_later hbw d
      have dv' := cell_later hbw dv
      have dn' := cell_later hbw dn
      obtain ⟨d0, d1, d2, d3, d4, d5⟩ := dJ.later hbw
      have HSt : Hid _ := step_any HO.out (HX.out x (List.mem_of_getElem? hx)) (hRS.later hbw)
      have HP : Hid (playsP 3 (l.take (i + 1)) = stepP 3 (playsP 3 (l.take i)) x.1) := playsP_take hx
      rw [← HP.out] at HSt
      obtain ⟨⟨xk, xv, xn, ⟨xi, xu, xt, xb, xkk, xs⟩⟩, xv2⟩ := x
      obtain ⟨⟨sa, sc, hsv, _⟩, _⟩ := hRS
      dsimp only at *
      subst hsv
      unfold AV at HSt
      dsimp only at HSt
      obtain ⟨sl, hsl⟩ : ∃ n, xs.length = n := ⟨_, rfl⟩
      rw [hsl] at HSt d5
      have g0 : wr.cell? ⟨b, off + i * 9 + 3, none⟩ = some (.int .i64 xi) := d0
      have g1 : wr.cell? ⟨b, off + i * 9 + 4, none⟩ = some (.bool xu) := d1
      have g2 : wr.cell? ⟨b, off + i * 9 + 5, none⟩ = some (.int .i64 xt) := d2
      have g3 : wr.cell? ⟨b, off + i * 9 + 6, none⟩ = some (.bool xb) := d3
      have g4 : wr.cell? ⟨b, off + i * 9 + 7, none⟩ = some (.int .i64 xkk) := d4
      have g5 : wr.cell? ⟨b, off + i * 9 + 8, none⟩ = some (.slice sa sl sc) := d5
      have hji : (i : Int) < (nn : Int) := by omega
      clear hx hsl hbw d dv dn dJ HO
      clear d0 d1 d2 d3 d4 d5
      go_wp2_with fail
      refine Calls.mono HSt.out ?_
      rintro e w3 ⟨rfl, ho3, hb3⟩
      have HO3 : Hid _ := ho3
      have HB3 : Hid (Below N w w3) := HB.out.trans hb3
      clear ho3 hb3 HSt HB
      go_wp2_with fail
      go_roundw
      case rel => exact ⟨i + 1, by go_num, by omega, HO3, HB3⟩
      case measure => simp [intOf]; omega
    · have hin : i = nn := by omega
      subst hin
      have HF : Hid (PB N wr p r 3 (playsP 3 l)) := by
        have := HO.out
        rw [List.take_of_length_le (by rw [HLN.out]; exact Nat.le_refl _)] at this
        exact this
      go_wp2_with fail
      go_ret
      exact ⟨p, r, rfl, HF.out, HB.out⟩
end Go.Proofs.Ytfhmmiilenonkaa
