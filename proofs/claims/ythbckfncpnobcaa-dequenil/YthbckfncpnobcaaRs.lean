/- The walks over DequePlays and DequeNil. -/
import Derived.Test.YthbckfncpnobcaaRr
namespace Go.Proofs.Ythbckfncpnobcaa
open Go.RowKit
set_option maxRecDepth 1000000
set_option linter.unusedVariables false

/-- A deque behind the first calls of a list. -/
def playsP (l : List Ac) : List Jb := l.foldl stepP []
theorem playsP_snoc (l : List Ac) (x : Ac) : playsP (l ++ [x]) = stepP (playsP l) x := by simp [playsP]
theorem plays_inv {l : List Ac} (h : ∀ x ∈ l, okA x) : ∀ k, LInv (playsP (l.take k)) := by
  intro k
  induction k with
  | zero => exact LInv.nil
  | succ k ih =>
    rw [List.take_add_one]
    cases hx : l[k]? with
    | none => simpa using ih
    | some x => rw [show (some x).toList = [x] from rfl, playsP_snoc]; exact ih.step (h x (List.mem_of_getElem? hx))

/-- Both rows, between two calls. -/
structure Bo (N : Nat) (w : World) (p : Nat) (a : Option Addr) (n c : Nat) (L : List Jb) : Prop where
  ex : ∃ F M, LD N F w p L ∧ RJ (Gd N F) w (.slice a n c) M ∧ M.map Prod.fst = L
  inv : LInv L
theorem Bo.later {N : Nat} {w w' : World} {p : Nat} {a : Option Addr} {n c : Nat} {L : List Jb} (h : Bo N w p a n c L) (hb : Below w.heap.size w w') : Bo N w' p a n c L := by
  obtain ⟨⟨F, M, h1, h2, h3⟩, h4⟩ := h
  exact ⟨⟨F, M, h1.later hb, h2.later hb, h3⟩, h4⟩
theorem Bo.len {N : Nat} {w : World} {p : Nat} {a : Option Addr} {n c : Nat} {L : List Jb} (h : Bo N w p a n c L) : n = L.length ∧ n ≤ 128 := by
  obtain ⟨⟨F, M, h1, ⟨a', c', e, _⟩, rfl⟩, h4⟩ := h
  have e2 := (Value.slice.inj e).2.1
  have := h4.1
  rw [List.length_map] at *
  omega
theorem Bo.le {N : Nat} {w : World} {p : Nat} {a : Option Addr} {n c : Nat} {L : List Jb} (h : Bo N w p a n c L) : N ≤ w.heap.size := by
  obtain ⟨⟨F, M, h1, _⟩, _⟩ := h
  exact h1.le

/-- A step. -/
theorem Bo.step {N : Nat} {w : World} {p : Nat} {a : Option Addr} {n c : Nat} {L : List Jb} (h : Bo N w p a n c L) (x : Ac) (hs : RS (fun b => b < N) w x.2.2 x.2.1.s) (hx : okA x) :
    Calls Try.prog 10 #[.pointer (some ⟨p, 0, none⟩), .slice a n c, AV x.1 x.2.1 x.2.2] w fun e w' => ∃ a' n' c', e = .returned (.tuple #[.slice a' n' c', .bool true]) ∧ Bo N w' p a' n' c' (stepP L x) ∧ Below N w w' := by
  obtain ⟨⟨F, M, h1, h2, rfl⟩, h4⟩ := h
  refine Calls.mono (step_any w p _ M x h1 h2 h4 hs hx) ?_
  rintro e w' ⟨F', a', n', c', M', rfl, q1, q2, q3, q4⟩
  exact ⟨a', n', c', rfl, ⟨⟨F', M', q1, q2, q3⟩, h4.step hx⟩, q4⟩
theorem Bo.lenC {N : Nat} {w : World} {p : Nat} {a : Option Addr} {n c : Nat} {L : List Jb} (h : Bo N w p a n c L) :
    Calls Try.prog 11 #[.pointer (some ⟨p, 0, none⟩)] w fun e w' => e = .returned (.int .i64 n) ∧ Bo N w' p a n c L ∧ Below w.heap.size w w' := by
  have hn := h.len
  have h0 := h
  obtain ⟨⟨F, M, h1, h2, h3⟩, h4⟩ := h
  refine Calls.mono (l_len h1 (by omega)) ?_
  rintro e w' ⟨rfl, q1, q2⟩
  exact ⟨by rw [hn.1], h0.later q2, q2⟩
theorem Bo.listC {N : Nat} {w : World} {p : Nat} {a : Option Addr} {n c : Nat} {L : List Jb} (h : Bo N w p a n c L) :
    Calls Try.prog 13 #[.pointer (some ⟨p, 0, none⟩)] w fun e w' => ∃ a' n' c' A, e = .returned (.slice a' n' c') ∧ LiW w.heap.size w' (.slice a' n' c') A ∧ A.map Prod.fst = L ∧ Bo N w' p a n c L ∧ Below w.heap.size w w' := by
  have hn := h.len
  have h0 := h
  obtain ⟨⟨F, M, h1, h2, h3⟩, h4⟩ := h
  refine Calls.mono (l_list h1 (by omega) (fun x hx => Nat.le_trans (h4.2 x hx) (by omega))) ?_
  rintro e w' ⟨a', n', c', A, rfl, q1, q2, q3, q4⟩
  exact ⟨a', n', c', A, rfl, q1, q2, h0.later q4, q4⟩
/-- The list that is told is the document's row. -/
theorem Bo.sameC {N : Nat} {S : Nat → Prop} {w : World} {p : Nat} {a a' : Option Addr} {n c n' c' : Nat} {L : List Jb} {A : List JbP} (h : Bo N w p a n c L) (hA : RJ S w (.slice a' n' c') A) (hA2 : A.map Prod.fst = L) :
    Calls Try.prog 12 #[.slice a' n' c', .slice a n c] w fun e w' => e = .returned (.bool true) ∧ Below w.heap.size w w' := by
  obtain ⟨⟨F, M, h1, h2, h3⟩, h4⟩ := h
  have hl := h4.1
  have fs : ∀ B : List JbP, B.map Prod.fst = L → FewS B := fun B hB x hx => by have := h4.2 x.1 (by rw [← hB]; exact List.mem_map_of_mem hx); omega
  have ln : ∀ B : List JbP, B.map Prod.fst = L → B.length = L.length := fun B hB => by rw [← hB, List.length_map]
  have := sameAll_any S (Gd N F) A M _ _ w hA h2 (fs A hA2) (fs M h3) (by rw [ln A hA2]; omega) (by rw [ln M h3]; omega)
  rw [decide_eq_true (by rw [hA2, h3])] at this
  exact this

set_option maxHeartbeats 8000000 in
theorem plays_walk (a : Option Addr) (n c : Nat) (l : List Ac) (w : World) (hx : RA w (.slice a n c) l) :
    Calls Try.prog 3 #[.slice a n c] w fun e w' => e = .returned (.bool true) ∧ Below w.heap.size w w' := by
  have HN : Hid _ := l_new w
  have HX : Hid (RA w (.slice a n c) l) := hx
  obtain ⟨a', cap, he, hc, hm, hr⟩ := hx
  have HRR : Hid (∀ i x, l[i]? = some x → ∃ b off, a = some ⟨b, off, none⟩ ∧ w.cell? ⟨b, off + i * 7, none⟩ = some (.int .i64 x.1) ∧ JC w b (off + i * 7 + 1) x.2 ∧ RS (fun k => k < w.heap.size) w x.2.2 x.2.1.s) := by
    have e1 := (Value.slice.inj he).1
    subst e1
    exact hr
  have HLN : Hid (l.length = n) := (Value.slice.inj he).2.1.symm
  have hc2 := (Value.slice.inj he).2.2
  have hnc : n ≤ c := by have := HLN.out; omega
  have hcm : c ≤ maxLen := by omega
  obtain ⟨N, hN⟩ : ∃ N, N = w.heap.size := ⟨_, rfl⟩
  have HNN : Hid (N = w.heap.size) := hN
  rw [← hN] at HN ⊢
  clear he hc hm hr hN hc2
  go_enter Try.func3, Try.ntmps3
  go_wp2_with fail
  refine Calls.mono HN.out ?_
  rintro e w1 ⟨p, rfl, hd1, hb1⟩
  have HD1 : Hid _ := hd1
  have HB1 : Hid (Below N w w1) := hb1
  have HF : Hid _ := few_any w1 (.slice a n c) l (by
    obtain ⟨a', cap, he, hc, hm, hr⟩ := HX.out
    refine ⟨a', cap, he, hc, hm, fun i x hx => ?_⟩
    obtain ⟨b, off, q1, q2, q3, q4⟩ := hr i x hx
    have hb := HNN.out ▸ hb1
    exact ⟨b, off, q1, cell_later hb q2, q3.later hb, (q4.later hb).mono (fun k hk _ => hk)⟩)
  clear hd1 hb1 HN
  go_wp2_with fail
  refine Calls.mono HF.out ?_
  rintro e w2 ⟨q, rfl, hq, hb2⟩
  have HB2 : Hid (Below N w w2) := HB1.out.trans (hb2.mono HD1.out.le)
  cases q with
  | false =>
    have HLv : Hid _ := lives_any w2
    have HSz : Hid (N ≤ w2.heap.size) := Nat.le_trans HD1.out.le hb2.size
    clear hb2 hq HF
    go_wp2_with fail
    refine Calls.mono HLv.out ?_
    rintro e w3 ⟨rfl, hb3⟩
    have HB3 : Hid (Below N w w3) := HB2.out.trans (hb3.mono HSz.out)
    clear hb3 HLv
    go_wp2_with fail
    go_ret
    exact ⟨rfl, HB3.out⟩
  | true =>
    have HOK : Hid _ := (hq rfl).2
    have HLen : Hid _ := (hq rfl).1
    have hn4 : n ≤ 400 := by have := HLen.out; have := HLN.out; omega
    have HI : Hid _ := plays_inv HOK.out
    have HBo : Hid (Bo N w2 p none 0 0 (playsP (l.take 0))) := ⟨⟨_, [], HD1.out.later hb2, RJ.nil _ _, rfl⟩, LInv.nil⟩
    clear hb2 hq HF HD1
    go_wp2_with fail
    go_loopw [5, 4] (fun s5 s4 wr => ∃ (i : Nat) (ra : Option Addr) (rn rc : Nat), s5 = .int .i64 i ∧ s4 = .slice ra rn rc ∧ i ≤ n ∧ Hid (Bo N wr p ra rn rc (playsP (l.take i))) ∧ Hid (Below N w wr)) (fun s5 _ _ => n - (intOf s5).toNat)
    case atStart => exact ⟨0, none, 0, 0, rfl, rfl, Nat.zero_le _, HBo, HB2⟩
    case round =>
      obtain ⟨i, ra, rn, rc, rfl, rfl, hi, HO, HB⟩ := hrel
      rename World => wr
      by_cases hlt : i < n
      · obtain ⟨x, hx⟩ := getD_ac (L := l) (k := i) (by rw [HLN.out]; exact hlt)
        obtain ⟨b, off, rfl, d, dJ, hRS⟩ := HRR.out i x hx
        have hbw : Below w.heap.size w wr := HNN.out ▸ HB.out
        have d' := cell_later hbw d
        obtain ⟨d0, d1, d2, d3, d4, d5⟩ := dJ.later hbw
        have HSt : Hid _ := HO.out.step x ((hRS.later hbw).mono (fun k _ hk => by rw [HNN.out]; exact hk)) (HOK.out x (List.mem_of_getElem? hx))
        have HP : Hid (playsP (l.take (i + 1)) = stepP (playsP (l.take i)) x) := by
          show _ = _
          rw [List.take_add_one, hx]
          exact playsP_snoc _ _
        rw [← HP.out] at HSt
        obtain ⟨xk, ⟨xi, xu, xt, xb, xkk, xs⟩, xv⟩ := x
        obtain ⟨⟨sa, sc, hsv, _⟩, _⟩ := hRS
        dsimp only at *
        subst hsv
        unfold AV at HSt
        dsimp only at HSt
        obtain ⟨sl, hsl⟩ : ∃ n, xs.length = n := ⟨_, rfl⟩
        rw [hsl] at HSt d5
        have hji : (i : Int) < (n : Int) := by omega
        clear hx hsl hbw d dJ HO
        go_wp2_with fail
        refine Calls.mono HSt.out ?_
        rintro e w3 ⟨ra3, rn3, rc3, rfl, ho3, hb3⟩
        have HB3 : Hid (Below N w w3) := HB.out.trans hb3
        have HLe : Hid _ := ho3.lenC
        have HN3 : Hid (N ≤ w3.heap.size) := ho3.le
        clear hb3 ho3 HSt HB d' d0 d1 d2 d3 d4 d5
        go_wp2_with fail
        refine Calls.mono HLe.out ?_
        rintro e w4 ⟨rfl, ho4, hb4⟩
        have HB4 : Hid (Below N w w4) := HB3.out.trans (hb4.mono HN3.out)
        have HO4 : Hid _ := ho4
        clear hb4 ho4 HLe
        by_cases h5 : i % 6 = 5
        · have h51 : (i : Int) % 6 = 5 := by omega
          have h52 : ((i : Int).tmod 6 == 5) = true := by rw [Int.tmod_eq_emod_of_nonneg (by omega), h51]; rfl
          have HLi : Hid _ := HO4.out.listC
          have HN4 : Hid (N ≤ w4.heap.size) := HO4.out.le
          clear HO4
          go_wp2_with fail
          refine Calls.mono HLi.out ?_
          rintro e w5 ⟨la, ln, lc, A, rfl, hA, hA2, ho5, hb5⟩
          have HB5 : Hid (Below N w w5) := HB4.out.trans (hb5.mono HN4.out)
          have HO5 : Hid _ := ho5
          have HSm : Hid _ := ho5.sameC hA.rj hA2
          clear hb5 ho5 hA hA2 HLi
          go_wp2_with fail
          refine Calls.mono HSm.out ?_
          rintro e w6 ⟨rfl, hb6⟩
          have HB6 : Hid (Below N w w6) := HB5.out.trans (hb6.mono HO5.out.le)
          have HO6 : Hid _ := HO5.out.later hb6
          clear hb6 HSm HO5
          go_wp2_with fail
          go_roundw
          case rel => exact ⟨i + 1, ra3, rn3, rc3, by go_num, rfl, by omega, HO6, HB6⟩
          case measure => simp [intOf]; omega
        · have h51 : ¬ (i : Int) % 6 = 5 := by omega
          have h52 : ((i : Int).tmod 6 == 5) = false := by rw [Int.tmod_eq_emod_of_nonneg (by omega)]; simpa using h51
          go_wp2_with fail
          go_roundw
          case rel => exact ⟨i + 1, ra3, rn3, rc3, by go_num, rfl, by omega, HO4, HB4⟩
          case measure => simp [intOf]; omega
      · have hin : i = n := by omega
        subst hin
        have HLi : Hid _ := HO.out.listC
        have HN4 : Hid (N ≤ wr.heap.size) := HO.out.le
        clear HO
        go_wp2_with fail
        refine Calls.mono HLi.out ?_
        rintro e w5 ⟨la, ln, lc, A, rfl, hA, hA2, ho5, hb5⟩
        have HB5 : Hid (Below N w w5) := HB.out.trans (hb5.mono HN4.out)
        have HN5 : Hid (N ≤ w5.heap.size) := ho5.le
        have HSm : Hid _ := ho5.sameC hA.rj hA2
        clear hb5 ho5 hA hA2 HLi
        go_wp2_with fail
        refine Calls.mono HSm.out ?_
        rintro e w6 ⟨rfl, hb6⟩
        have HB6 : Hid (Below N w w6) := HB5.out.trans (hb6.mono HN5.out)
        have HLv : Hid _ := lives_any w6
        have HN6 : Hid (N ≤ w6.heap.size) := Nat.le_trans HN5.out hb6.size
        clear hb6 HSm
        go_wp2_with fail
        refine Calls.mono HLv.out ?_
        rintro e w7 ⟨rfl, hb7⟩
        have HB7 : Hid (Below N w w7) := HB6.out.trans (hb7.mono HN6.out)
        clear hb7 HLv
        go_wp2_with fail
        go_ret
        exact ⟨rfl, HB7.out⟩
end Go.Proofs.Ythbckfncpnobcaa
