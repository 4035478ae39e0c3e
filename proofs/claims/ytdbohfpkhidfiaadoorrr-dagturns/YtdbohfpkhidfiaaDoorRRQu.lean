/- The law DagTurns. -/
import Derived.Test.YtdbohfpkhidfiaaDoorRRQt
import Derived.Test.YtdbohfpkhidfiaaDoorRRQr
namespace Go.Proofs.YtdbohfpkhidfiaaDoorRR
open Go.RowKit

theorem fewP_le {n : Nat} (h : fewP n = true) : n ≤ 8192 := by
  unfold fewP at h
  simp at h
  omega

theorem mem_bits_dec {s k : Nat} (hk : k < 64) : decide (k ∈ bitsOf s) = s.testBit k := by
  cases hb : s.testBit k with
  | true => exact decide_eq_true (List.mem_filter.2 ⟨List.mem_range.2 hk, hb⟩)
  | false => exact decide_eq_false (fun hm => by rw [of_bitsOf hm] at hb; cases hb)

set_option maxRecDepth 1000000 in
set_option maxHeartbeats 4000000 in
theorem turns_any (n : Int) (v : Value) (l : List (Int × Int)) (w : World) (hl : RdA w v l) (hT : Tab w) :
    Calls Tryd.prog 5 #[.int .i64 n, v] w fun e w' => e = .returned (.bool true) ∧ Below w.heap.size w w' := by
  have HT : Hid (Tab w) := hT
  have HA : Hid (RdA w v l) := hl
  have ML : Hid (∀ w1, Below w.heap.size w w1 → Calls Tryd.prog 8 #[] w1 fun e w' => e = .returned (.bool true) ∧ Below w.heap.size w w') := fun w1 hb => (lives_any w1 (hT.later hb)).mono fun e w' h => ⟨h.1, hb.trans (h.2.mono hb.size)⟩
  obtain ⟨a, cap, rfl, _⟩ := hl
  clear hT
  have MF : Hid _ := few_any l.length cap a w
  cases hF : fewP l.length with
  | false =>
    rw [hF] at MF
    go_enter Tryd.func5, Tryd.ntmps5
    go_wp2_with fail
    refine Calls.mono MF.out ?_
    rintro e w1 ⟨rfl, rfl⟩
    go_wp2_with fail
    refine Calls.mono (ML.out _ (Below.refl _ _)) ?_
    rintro e w2 ⟨rfl, hb⟩
    have HB : Hid _ := hb
    go_wp2_with fail
    go_ret
    exact ⟨rfl, HB.out⟩
  | true =>
    rw [hF] at MF
    have hlen := fewP_le hF
    have MO : Hid (Calls Tryd.prog 10 #[.int .i64 n, .slice a l.length cap] w fun e w' => ReachC n l w e w') := Reach_any n _ l w HA.out HT.out
    unfold ReachC at MO
    rcases weave_turn n l with ⟨c, hP, hP'⟩ | ⟨o, o', hP, hP'⟩
    · rw [hP] at MO
      have HPP : Hid _ := hP'
      clear hP hP'
      go_enter Tryd.func5, Tryd.ntmps5
      go_wp2_with fail
      refine Calls.mono MF.out ?_
      rintro e w0 ⟨rfl, rfl⟩
      go_wp2_with fail
      refine Calls.mono MO.out ?_
      rintro e w1 ⟨hb1, rfl⟩
      have HB1 : Hid (Below w0.heap.size w0 w1) := hb1
      clear hb1 MO MF
      go_wp2_with fail
      refine Calls.mono (Turn_any _ l w1 (HA.out.later HB1.out) hlen) ?_
      rintro e w2 ⟨hb2, u, rfl, hu⟩
      have HU : Hid _ := hu
      have HB2 : Hid (Below w0.heap.size w0 w2) := HB1.out.trans (hb2.mono HB1.out.size)
      clear hb2 HB1
      go_wp2_with fail
      refine Calls.mono (Reach_any n u (swapA l) w2 hu (HT.out.later HB2.out)) ?_
      unfold ReachC
      rw [HPP.out]
      rintro e w3 ⟨hb3, rfl⟩
      have HB3 : Hid (Below w0.heap.size w0 w3) := HB2.out.trans (hb3.mono HB2.out.size)
      clear hb3 HB2 HU hu
      go_wp2_with fail
      refine Calls.mono (Turn_any _ l w3 (HA.out.later HB3.out) hlen) ?_
      rintro e w4 ⟨hb4, u4, rfl, hu4⟩
      have HB4 : Hid (Below w0.heap.size w0 w4) := HB3.out.trans (hb4.mono HB3.out.size)
      clear hb4 HB3
      go_wp2_with fail
      refine Calls.mono (Turn_any u4 (swapA l) w4 hu4 (by rw [swapA_len]; exact hlen)) ?_
      rintro e w5 ⟨hb5, u5, rfl, hu5⟩
      rw [swapA_swapA] at hu5
      have HB5 : Hid (Below w0.heap.size w0 w5) := HB4.out.trans (hb5.mono HB4.out.size)
      clear hb5 HB4
      go_wp2_with fail
      have MS := sameA_any l l u5 _ w5 hu5 (HA.out.later HB5.out) (by omega) (by omega)
      rw [decide_eq_true (show l = l from rfl)] at MS
      refine Calls.mono MS ?_
      rintro e w6 ⟨rfl, hb6⟩
      have HB6 : Hid (Below w0.heap.size w0 w6) := HB5.out.trans (hb6.mono HB5.out.size)
      clear hb6 HB5 MS hu5 hu4
      go_wp2_with fail
      go_loopw [9, 10] (fun iv _ wr => iv = .int .i64 0 ∧ wr = w6) (fun _ _ _ => 0)
      case atStart => exact ⟨rfl, rfl⟩
      case round =>
        obtain ⟨rfl, rfl⟩ := hrel
        go_wp2_with fail
        refine Calls.mono (ML.out _ HB6.out) ?_
        rintro e w7 ⟨rfl, hb⟩
        have HB7 : Hid _ := hb
        go_wp2_with fail
        go_ret
        exact ⟨rfl, HB7.out⟩
    · rw [hP] at MO
      obtain ⟨⟨hn0, hn64⟩, _, _, _, hWl, hOk, hol⟩ := weave_facts hP
      obtain ⟨_, _, _, _, hWl', hOk', hol'⟩ := weave_facts hP'
      have HRT0 : Hid (∀ x y, x < n.toNat → y < n.toNat → ((reachP (webOf n.toNat l) o).getD x 0).testBit y = ((reachP (webOf n.toNat (swapA l)) o').getD y 0).testBit x) := fun x y hx hy => reach_turn hP hP' hx hy
      obtain ⟨m, rfl⟩ : ∃ m : Nat, n = (m : Int) := ⟨n.toNat, by omega⟩
      simp only [Int.toNat_natCast] at hWl hol MO HRT0 hP' hOk hWl' hol' hOk'
      have hm : m ≤ 64 := by omega
      have hrl := (told_all hWl hm hOk).rl
      have hrl' := (told_all hWl' hm hOk').rl
      have HPP : Hid _ := hP'
      generalize webOf m l = W at *
      generalize webOf m (swapA l) = W' at *
      have HLat : Hid (∀ x, x < m → (reachL W o)[x]? = some (bitsOf ((reachP W o).getD x 0))) := by
        show ∀ x, _
        intro x hx
        unfold reachL
        rw [List.getElem?_map, List.getD_eq_getElem?_getD, List.getElem?_eq_getElem (by rw [hrl]; exact hx)]
        rfl
      have HLat' : Hid (∀ x, x < m → (reachL W' o')[x]? = some (bitsOf ((reachP W' o').getD x 0))) := by
        show ∀ x, _
        intro x hx
        unfold reachL
        rw [List.getElem?_map, List.getD_eq_getElem?_getD, List.getElem?_eq_getElem (by rw [hrl']; exact hx)]
        rfl
      clear hP hP' hWl hWl' hOk hOk' hol hol' hrl hrl' hn0 hn64
      go_enter Tryd.func5, Tryd.ntmps5
      go_wp2_with fail
      refine Calls.mono MF.out ?_
      rintro e w0 ⟨rfl, rfl⟩
      go_wp2_with fail
      refine Calls.mono MO.out ?_
      rintro e w1 ⟨hb1, v1, rfl, hI1, hl1⟩
      have HB1 : Hid (Below w0.heap.size w0 w1) := hb1
      have HI1 : Hid (RdL w1 v1 (reachL W o)) := hI1
      obtain ⟨a1, cap1, rfl, _⟩ := hI1
      rw [hl1] at HI1 ⊢
      clear hb1 MO MF
      go_wp2_with fail
      refine Calls.mono (Turn_any _ l w1 (HA.out.later HB1.out) hlen) ?_
      rintro e w2 ⟨hb2, u, rfl, hu⟩
      have HB2 : Hid (Below w0.heap.size w0 w2) := HB1.out.trans (hb2.mono HB1.out.size)
      have HI1' : Hid (RdL w2 (.slice a1 m cap1) (reachL W o)) := HI1.out.later hb2
      clear hb2 HB1 HI1
      go_wp2_with fail
      refine Calls.mono (Reach_any (m : Int) u (swapA l) w2 hu (HT.out.later HB2.out)) ?_
      unfold ReachC
      rw [HPP.out]
      rintro e w3 ⟨hb3, v3, rfl, hI3, hl3⟩
      simp only [Int.toNat_natCast] at hl3
      have HB3 : Hid (Below w0.heap.size w0 w3) := HB2.out.trans (hb3.mono HB2.out.size)
      have HI1 : Hid (RdL w3 (.slice a1 m cap1) (reachL W o)) := HI1'.out.later hb3
      have HI3 : Hid (RdL w3 v3 (reachL W' o')) := hI3
      obtain ⟨a3, cap3, rfl, _⟩ := hI3
      rw [hl3] at HI3 ⊢
      clear hb3 HB2 hu HI1'
      go_wp2_with fail
      refine Calls.mono (Turn_any _ l w3 (HA.out.later HB3.out) hlen) ?_
      rintro e w4 ⟨hb4, u4, rfl, hu4⟩
      have HB4 : Hid (Below w0.heap.size w0 w4) := HB3.out.trans (hb4.mono HB3.out.size)
      have HI1' : Hid (RdL w4 (.slice a1 m cap1) (reachL W o)) := HI1.out.later hb4
      have HI3' : Hid (RdL w4 (.slice a3 m cap3) (reachL W' o')) := HI3.out.later hb4
      clear hb4 HB3 HI1 HI3
      go_wp2_with fail
      refine Calls.mono (Turn_any u4 (swapA l) w4 hu4 (by rw [swapA_len]; exact hlen)) ?_
      rintro e w5 ⟨hb5, u5, rfl, hu5⟩
      rw [swapA_swapA] at hu5
      have HB5 : Hid (Below w0.heap.size w0 w5) := HB4.out.trans (hb5.mono HB4.out.size)
      have HI1 : Hid (RdL w5 (.slice a1 m cap1) (reachL W o)) := HI1'.out.later hb5
      have HI3 : Hid (RdL w5 (.slice a3 m cap3) (reachL W' o')) := HI3'.out.later hb5
      clear hb5 HB4 HI1' HI3'
      go_wp2_with fail
      have MS := sameA_any l l u5 _ w5 hu5 (HA.out.later HB5.out) (by omega) (by omega)
      rw [decide_eq_true (show l = l from rfl)] at MS
      refine Calls.mono MS ?_
      rintro e w6 ⟨rfl, hb6⟩
      have HB6 : Hid (Below w0.heap.size w0 w6) := HB5.out.trans (hb6.mono HB5.out.size)
      obtain ⟨a1', cap1', heq1, hc1, hr1⟩ := HI1.out.later hb6
      rw [hl1] at heq1 hc1
      cases heq1
      obtain ⟨a3', cap3', heq3, hc3, hr3⟩ := HI3.out.later hb6
      rw [hl3] at heq3 hc3
      cases heq3
      have HR1 : Hid _ := hr1
      have HR3 : Hid _ := hr3
      clear hb6 HB5 MS hu5 hu4 HI1 HI3 hr1 hr3 hl1 hl3
      go_wp2_with fail
      go_loopw [9, 10] (fun iv _ wr => ∃ (i : Nat), i ≤ m ∧ iv = .int .i64 i ∧ Hid (Below w6.heap.size w6 wr)) (fun iv _ _ => m - (intOf iv).toNat)
      case atStart => exact ⟨0, Nat.zero_le _, rfl, Below.refl _ _⟩
      case round =>
        obtain ⟨i, hi, rfl, HB⟩ := hrel
        rename World => w7
        by_cases hlt : i < m
        · have hii : (i : Int) < (m : Int) := by omega
          go_wp2_with fail
          go_loopw [10] (fun jv wr => ∃ (j : Nat), j ≤ m ∧ jv = .int .i64 j ∧ Hid (Below w6.heap.size w6 wr)) (fun jv _ => m - (intOf jv).toNat)
          case atStart => exact ⟨0, Nat.zero_le _, rfl, HB⟩
          case round =>
            obtain ⟨j, hj, rfl, HBj⟩ := hrel
            rename World => w8
            by_cases hjl : j < m
            · obtain ⟨b1, o1, x1, rfl, c1, y1⟩ := HR1.out i _ (HLat.out i hlt)
              obtain ⟨b3, o3, x3, rfl, c3, y3⟩ := HR3.out j _ (HLat'.out j hjl)
              have d1 := cell_later HBj.out c1
              have d3 := cell_later HBj.out c3
              have z1 := y1.later HBj.out
              have z3 := y3.later HBj.out
              have hrt := HRT0.out i j hlt hjl
              have hl1 := bitsOf_len ((reachP W o).getD i 0)
              have hl3 := bitsOf_len ((reachP W' o').getD j 0)
              obtain ⟨bb, hbb⟩ : ∃ bb, ((reachP W o).getD i 0).testBit j = bb := ⟨_, rfl⟩
              have HM1 : Hid (∀ q, Calls Tryd.prog 12 #[x1, .int .i64 (j : Int)] (w8.drewN q) fun e w' => e = .returned (.bool bb) ∧ w' = w8.drewN q) := by
                show ∀ q, _
                intro q
                have := In_any _ x1 j (w8.drewN q) (z1.drewN q) (by omega)
                rw [mem_bits_dec (by omega), hbb] at this
                exact this
              have HM3 : Hid (∀ q, Calls Tryd.prog 12 #[x3, .int .i64 (i : Int)] (w8.drewN q) fun e w' => e = .returned (.bool bb) ∧ w' = w8.drewN q) := by
                show ∀ q, _
                intro q
                have := In_any _ x3 i (w8.drewN q) (z3.drewN q) (by omega)
                rw [mem_bits_dec (by omega), ← hrt, hbb] at this
                exact this
              obtain ⟨q1, k1, rfl, _⟩ := y1
              obtain ⟨q3, k3, rfl, _⟩ := y3
              generalize (bitsOf ((reachP W o).getD i 0)).length = n1 at *
              generalize (bitsOf ((reachP W' o').getD j 0)).length = n3 at *
              have hji : (j : Int) < (m : Int) := by omega
              have hbq : (bb == bb) = true := by simp
              have hbn : (bb != bb) = false := by simp
              have HM : Hid (∀ (q : Nat) (x : Value) (y : Int), (x = .slice q1 n1 k1 ∧ y = (j : Int)) ∨ (x = .slice q3 n3 k3 ∧ y = (i : Int)) → Calls Tryd.prog 12 #[x, .int .i64 y] (w8.drewN q) fun e w' => e = .returned (.bool bb) ∧ w' = w8.drewN q) := by
                show ∀ (q : Nat) (x : Value) (y : Int), _
                rintro q x y (⟨rfl, rfl⟩ | ⟨rfl, rfl⟩)
                · exact HM1.out q
                · exact HM3.out q
              clear c1 c3 z1 z3 hrt hbb HM1 HM3
              go_wp2_with fail
              go_quiet ((go_at_call 12; exact Calls.quiet_of_same (HM.out _ _ _ (by first | exact .inl ⟨rfl, rfl⟩ | exact .inr ⟨rfl, rfl⟩))))
              have HB9 : Hid (Below w6.heap.size w6 (w8.drewN nq)) := bl_drawn HBj.out nq
              go_wp2_with fail
              go_roundw
              case rel => exact ⟨j + 1, by omega, by go_num, HB9⟩
              case measure => simp [intOf]; omega
            · have hjm : j = m := by omega
              subst hjm
              go_wp2_with fail
              go_roundw
              case rel => exact ⟨i + 1, by omega, by go_num, HBj⟩
              case measure => simp [intOf]; omega
        · have him : i = m := by omega
          subst him
          go_wp2_with fail
          refine Calls.mono (ML.out _ (HB6.out.trans (HB.out.mono HB6.out.size))) ?_
          rintro e w9 ⟨rfl, hb⟩
          have HB9 : Hid _ := hb
          go_wp2_with fail
          go_ret
          exact ⟨rfl, HB9.out⟩
end Go.Proofs.YtdbohfpkhidfiaaDoorRR
