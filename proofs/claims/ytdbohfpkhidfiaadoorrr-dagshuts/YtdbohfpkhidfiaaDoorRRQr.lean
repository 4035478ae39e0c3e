/- The law DagFollows. -/
import Derived.Test.YtdbohfpkhidfiaaDoorRRPc
namespace Go.Proofs.YtdbohfpkhidfiaaDoorRR
open Go.RowKit

theorem RdI.drewN {w : World} {v : Value} {l : List Nat} (h : RdI w v l) (m : Nat) : RdI (w.drewN m) v l := h.later (bl_drawn (Below.refl _ _) m)

theorem own_drewN {w : World} {base : Nat} {e : TypeId} {size : Nat} {v : Value} {n : Nat} {xs : List Value} (h : w.ownsRow base e size v n xs) (m : Nat) : (w.drewN m).ownsRow base e size v n xs := h

set_option maxRecDepth 1000000 in
set_option maxHeartbeats 4000000 in
theorem follows_any (n : Int) (v : Value) (l : List (Int × Int)) (w : World) (hl : RdA w v l) (hT : Tab w) :
    Calls Tryd.prog 3 #[.int .i64 n, v] w fun e w' => e = .returned (.bool true) ∧ Below w.heap.size w w' := by
  have HT : Hid (Tab w) := hT
  have HA : Hid (RdA w v l) := hl
  have ML : Hid (∀ w1, Below w.heap.size w w1 → Calls Tryd.prog 8 #[] w1 fun e w' => e = .returned (.bool true) ∧ Below w.heap.size w w') := fun w1 hb => (lives_any w1 (hT.later hb)).mono fun e w' h => ⟨h.1, hb.trans (h.2.mono hb.size)⟩
  obtain ⟨a, cap, rfl, _⟩ := hl
  clear hT
  obtain ⟨i0, hi0, hz0, hz1, hz2⟩ := info_parts Tryd.info3
  have MF : Hid _ := few_any l.length cap a w
  cases hF : fewP l.length with
  | false =>
    rw [hF] at MF
    go_enter Tryd.func3, Tryd.ntmps3
    go_wp2_with fail
    refine Calls.mono MF.out ?_
    rintro e w1 ⟨rfl, rfl⟩
    go_wp2_with fail
    refine Calls.mono (ML.out _ (Below.refl _ _)) ?_
    rintro e w2 ⟨rfl, hb⟩
    have HB : Hid _ := hb
    go_wp2_with fail
    go_ret
    exact ⟨rfl, HB.out⟩
  | true =>
    rw [hF] at MF
    have MO : Hid (Calls Tryd.prog 9 #[.int .i64 n, .slice a l.length cap] w fun e w' => OrderC n l w e w') := Order_any n _ l w HA.out HT.out
    unfold OrderC at MO
    cases hP : weaveP n l with
    | bad c =>
      rw [hP] at MO
      have hc : ((c == 0)) = false := by rcases weaveP_code hP with rfl | rfl <;> rfl
      go_enter Tryd.func3, Tryd.ntmps3
      go_wp2_with fail
      refine Calls.mono MF.out ?_
      rintro e w1 ⟨rfl, rfl⟩
      go_wp2_with fail
      refine Calls.mono MO.out ?_
      rintro e w2 ⟨hb, rfl⟩
      have HB : Hid _ := hb
      clear hb
      go_wp2_with fail
      refine Calls.mono (ML.out _ HB.out) ?_
      rintro e w3 ⟨rfl, hb⟩
      have HB2 : Hid _ := hb
      go_wp2_with fail
      go_ret
      exact ⟨rfl, HB2.out⟩
    | ok W o =>
      rw [hP] at MO
      obtain ⟨⟨hn0, hn64⟩, _, _, hWok, hWl, hOk, hol⟩ := weave_facts hP
      obtain ⟨m, rfl⟩ : ∃ m : Nat, n = (m : Int) := ⟨n.toNat, by omega⟩
      simp only [Int.toNat_natCast] at hWl hol MO
      have hm : m ≤ 64 := by omega
      have HTold : Hid (Told o o.length m (reachP W o) (levP W o)) := told_all hWl hm hOk
      have HOl : Hid (o.length = m) := hol
      have HOn : Hid (∀ x ∈ o, x < m) := by show ∀ x ∈ o, _; intro x hx; rw [← hWl]; exact hOk.lt x hx
      have HNd : Hid (o.Nodup) := hOk.nodup
      have HPP : Hid (weaveP (m : Int) l = .ok W o) := hP
      clear hn0 hn64 hWok hWl hOk hol hP
      go_enter Tryd.func3, Tryd.ntmps3
      go_wp2_with fail
      refine Calls.mono MF.out ?_
      rintro e w0 ⟨rfl, rfl⟩
      go_wp2_with fail
      refine Calls.mono MO.out ?_
      rintro e w1 ⟨hb1, v1, rfl, hI1, _⟩
      have HB1 : Hid (Below w0.heap.size w0 w1) := hb1
      have HI1 : Hid (RdI w1 v1 o) := hI1
      obtain ⟨a1, cap1, rfl, _⟩ := hI1
      rw [HOl.out] at HI1 ⊢
      clear hb1 MO MF
      go_wp2_with fail
      refine Calls.mono (Reach_any (m : Int) _ l w1 (HA.out.later HB1.out) (HT.out.later HB1.out)) ?_
      unfold ReachC
      rw [HPP.out]
      rintro e w2 ⟨hb2, v2, rfl, hI2, hl2⟩
      simp only [Int.toNat_natCast] at hl2
      have HB2 : Hid (Below w0.heap.size w0 w2) := HB1.out.trans (hb2.mono HB1.out.size)
      have HI1' : Hid (RdI w2 (.slice a1 m cap1) o) := HI1.out.later hb2
      have HI2 : Hid (RdL w2 v2 (reachL W o)) := hI2
      obtain ⟨a2, cap2, rfl, _⟩ := hI2
      rw [hl2] at HI2 ⊢
      clear hb2 HI1 HB1
      go_wp2_with fail
      refine Calls.mono (Levels_any (m : Int) _ l w2 (HA.out.later HB2.out) (HT.out.later HB2.out)) ?_
      unfold LevC
      rw [HPP.out]
      rintro e w3 ⟨hb3, v3, rfl, hI3, hl3⟩
      simp only [Int.toNat_natCast] at hl3
      have HB3 : Hid (Below w0.heap.size w0 w3) := HB2.out.trans (hb3.mono HB2.out.size)
      obtain ⟨a1', cap1', heq1, hc1, hr1⟩ := HI1'.out.later hb3
      rw [HOl.out] at heq1 hc1
      cases heq1
      obtain ⟨a2', cap2', heq2, hc2, hr2⟩ := HI2.out.later hb3
      rw [hl2] at heq2 hc2
      cases heq2
      obtain ⟨a3, cap3, rfl, hc3, hr3⟩ := hI3
      rw [hl3] at hc3 ⊢
      have HR1 : Hid _ := hr1
      have HR2 : Hid _ := hr2
      have HR3 : Hid _ := hr3
      have HLat : Hid (∀ x, x < m → (reachL W o)[x]? = some (bitsOf ((reachP W o).getD x 0))) := by
        show ∀ x, _
        intro x hx
        unfold reachL
        rw [List.getElem?_map, List.getD_eq_getElem?_getD, List.getElem?_eq_getElem (by rw [HTold.out.rl]; exact hx)]
        rfl
      have HHat : Hid (∀ x, x < m → (levP W o)[x]? = some ((levP W o).getD x 0)) := by
        show ∀ x, _
        intro x hx
        rw [List.getD_eq_getElem?_getD, List.getElem?_eq_getElem (by rw [HTold.out.hl]; exact hx)]
        rfl
      have HO0 : Hid (w3.ownsRow w3.heap.size 3 1 (.slice none 0 0) (o.take 0).length (ivs (o.take 0))) := World.ownsRow_nil _ _ _ _
      clear hb3 HI1' HI2 hr1 hr2 hr3 HB2 hl2 hl3
      generalize reachL W o = LL at *
      generalize reachP W o = R at *
      generalize levP W o = H at *
      go_wp2_with fail
      go_loopw [11, 12, 13, 14, 15] (fun sv iv _ _ _ wr => ∃ (k : Nat), k ≤ m ∧ iv = .int .i64 k ∧ Hid (wr.ownsRow w3.heap.size 3 1 sv (o.take k).length (ivs (o.take k))) ∧ Hid (Below w3.heap.size w3 wr)) (fun _ iv _ _ _ _ => m - (intOf iv).toNat)
      case atStart => exact ⟨0, Nat.zero_le _, rfl, HO0, Below.refl _ _⟩
      case round =>
        obtain ⟨k, hk, rfl, HO, HB⟩ := hrel
        rename World => w4
        clear HO0
        by_cases hlt : k < m
        · obtain ⟨x, hx⟩ : ∃ x, o[k]? = some x := ⟨_, List.getElem?_eq_getElem (by rw [HOl.out]; exact hlt)⟩
          have hxm := HOn.out x (List.mem_of_getElem? hx)
          obtain ⟨b1, o1, rfl, c1⟩ := HR1.out k x hx
          have d1 := cell_later HB.out c1
          have hHx := HHat.out x hxm
          obtain ⟨b3, o3, rfl, c3⟩ := HR3.out x _ hHx
          have d3 := cell_later HB.out c3
          obtain ⟨b2, o2, u2, rfl, c2, hy2⟩ := HR2.out x _ (HLat.out x hxm)
          have hy2' := hy2.later HB.out
          have d2 := cell_later HB.out c2
          have HC2 : Hid _ := c2
          have HC3 : Hid _ := c3
          obtain ⟨ay, cy, rfl, hcy, hry⟩ := hy2
          have HRY : Hid _ := hry
          have hfew := HTold.out.few k x (by rw [HOl.out]; exact hlt) hx
          have hsl : (o.take k).length ≤ 64 := by rw [List.length_take]; omega
          have HMI : Hid (∀ q, Calls Tryd.prog 12 #[u11, .int .i64 (x : Int)] (w4.drewN q) fun e w' => e = .returned (.bool false) ∧ w' = w4.drewN q) := by
            show ∀ q, _
            intro q
            have := In_any (o.take k) u11 x (w4.drewN q) ((RdI.of_own HO.out).drewN q) (by omega)
            rw [decide_eq_false (nodup_at HNd.out hx)] at this
            exact this
          have HAb : Hid (∀ y ∈ bitsOf (R.getD x 0), y ∈ o.take k ∧ H.getD y 0 < H.getD x 0) := by
            show ∀ y ∈ bitsOf (R.getD x 0), _
            intro y hy
            have hb := of_bitsOf hy
            exact ⟨HTold.out.ahead k x (by rw [HOl.out]; exact hlt) hx y hb, HTold.out.above k x (by rw [HOl.out]; exact hlt) hx y hb⟩
          have HS : Hid (o.take (k + 1) = o.take k ++ [x]) := by show _ = _; rw [List.take_add_one, hx]; rfl
          have hbl := bitsOf_len (R.getD x 0)
          obtain ⟨q, HQ⟩ : ∃ q, Hid ((bitsOf (R.getD x 0)).length = q) := ⟨_, rfl⟩
          rw [HQ.out] at d2 hcy hbl hfew HC2
          obtain ⟨hh, HHH⟩ : ∃ hh, Hid (H.getD x 0 = hh) := ⟨_, rfl⟩
          rw [HHH.out] at d3 hfew HC3 HAb
          have hki : (k : Int) < (m : Int) := by omega
          have hxi : (x : Int) < (m : Int) := by omega
          have t1 : decide ((x : Int) < 0) = false := by simp
          have t2 : decide ((x : Int) ≥ (m : Int)) = false := by simp; omega
          have t3 : decide ((hh : Int) < 0) = false := by simp
          have t4 : decide ((hh : Int) > (q : Int)) = false := by simp; omega
          have t5 : decide (m ≤ x) = false := by simp; omega
          have t6 : decide (q < hh) = false := by simp; omega
          have t2' : decide ((m : Int) ≤ (x : Int)) = false := by simp; omega
          have t4' : decide ((q : Int) < (hh : Int)) = false := by simp; omega
          clear hx c1 c2 c3 hHx hy2' hry
          go_wp2_with fail
          go_quiet ((go_at_call 12; exact Calls.quiet_of_same (HMI.out _)))
          go_wp2_with fail
          have HOq : Hid ((w4.drewN nq).ownsRow w3.heap.size 3 1 u11 (o.take k).length (ivs (o.take k))) := own_drewN HO.out nq
          have HBq : Hid (Below w3.heap.size w3 (w4.drewN nq)) := bl_drawn HB.out nq
          generalize w4.drewN nq = w5 at *
          clear d1 d2 d3 HO HB HMI
          go_loopw [14, 15] (fun jv _ wr => ∃ (j : Nat), j ≤ q ∧ jv = .int .i64 j ∧ Hid (wr.ownsRow w3.heap.size 3 1 u11 (o.take k).length (ivs (o.take k))) ∧ Hid (Below w3.heap.size w3 wr)) (fun jv _ _ => q - (intOf jv).toNat)
          case atStart => exact ⟨0, Nat.zero_le _, rfl, HOq, HBq⟩
          case round =>
            obtain ⟨j, hj, rfl, HOj, HBj⟩ := hrel
            rename World => w6
            clear HOq HBq
            have d2 := cell_later HBj.out HC2.out
            by_cases hjl : j < q
            · obtain ⟨y, hy⟩ : ∃ y, (bitsOf (R.getD x 0))[j]? = some y := ⟨_, List.getElem?_eq_getElem (by rw [HQ.out]; exact hjl)⟩
              obtain ⟨b4, o4, rfl, c4⟩ := HRY.out j y hy
              have d4 := cell_later HBj.out c4
              obtain ⟨hyk, hyh⟩ := HAb.out y (List.mem_of_getElem? hy)
              have hym := HOn.out y (List.mem_of_mem_take hyk)
              obtain ⟨b5, o5, e5, c5⟩ := HR3.out y _ (HHat.out y hym)
              cases e5
              have d5 := cell_later HBj.out c5
              have d3 := cell_later HBj.out HC3.out
              have HMI : Hid (∀ q, Calls Tryd.prog 12 #[u11, .int .i64 (y : Int)] (w6.drewN q) fun e w' => e = .returned (.bool true) ∧ w' = w6.drewN q) := by
                show ∀ q, _
                intro q
                have := In_any (o.take k) u11 y (w6.drewN q) ((RdI.of_own HOj.out).drewN q) (by omega)
                rw [decide_eq_true hyk] at this
                exact this
              obtain ⟨hg, HHG⟩ : ∃ hg, Hid (H.getD y 0 = hg) := ⟨_, rfl⟩
              rw [HHG.out] at d5 hyh
              have hji : (j : Int) < (q : Int) := by omega
              have hyi : (y : Int) < (m : Int) := by omega
              have s1 : decide ((y : Int) < 0) = false := by simp
              have s2 : decide ((y : Int) ≥ (m : Int)) = false := by simp; omega
              have s2' : decide ((m : Int) ≤ (y : Int)) = false := by simp; omega
              have s3 : decide ((hg : Int) ≥ (hh : Int)) = false := by simp; omega
              have s3' : decide ((hh : Int) ≤ (hg : Int)) = false := by simp; omega
              clear hy c4 c5 hyk
              go_wp2_with fail
              go_quiet ((go_at_call 12; exact Calls.quiet_of_same (HMI.out _)))
              have HO7 : Hid ((w6.drewN nq).ownsRow w3.heap.size 3 1 u11 (o.take k).length (ivs (o.take k))) := own_drewN HOj.out nq
              have HB7 : Hid (Below w3.heap.size w3 (w6.drewN nq)) := bl_drawn HBj.out nq
              go_wp2_with fail
              go_roundw
              case rel => exact ⟨j + 1, by omega, by go_num, HO7, HB7⟩
              case measure => simp [intOf]; omega
            · have hjq : j = q := by omega
              subst hjq
              have ho := HOj.out
              have hz := HBj.out.size
              have hlk : (o.take k).length = k := by rw [List.length_take, HOl.out]; omega
              have HLk : Hid _ := hlk
              rw [hlk] at ho
              go_wp2_with (at_builtin; refine wpList_append_own_at _ rfl _ _ 25 rfl w3.heap.size 3 i0 _ 1 8 Tryd.underlying25 hi0 hz0 hz1 hz2 rfl (by decide) _ k (ivs (o.take k)) rfl (ho.alloc _) ⟨w6.heap.size, 0, none⟩ 1 1 [.int .i64 (x : Int)] rfl rfl (new_cells w6 [.int .i64 (x : Int)] 3) (by simp [Value.oneCell']) (by unfold maxLen; omega) (by omega) (by simp; omega) ?_; intro v7 w7 ho7 hg7 _ hat7; obtain ⟨g7, cap7, rfl⟩ := ownsRow_succ' ho7)
              have HB7 : Hid (Below w3.heap.size w3 w7) := Below.grown (HBj.out.alloc hz _) hg7 (by simp; omega) (fun j hj => (ho.lt _ hj).1)
              have HO7 : Hid (w7.ownsRow w3.heap.size 3 1 (.slice (some ⟨g7, 0, none⟩) (k + 1) cap7) (o.take (k + 1)).length (ivs (o.take (k + 1)))) := by
                show World.ownsRow _ _ _ _ _ _ _
                rw [HS.out, ivs_snoc, List.length_append, HLk.out]
                exact ho7
              clear ho hg7 hat7 ho7 HBj HOj
              go_wp2_with fail
              go_roundw
              case rel => exact ⟨k + 1, by omega, by go_num, HO7, HB7⟩
              case measure => simp [intOf]; omega
        · have hkm : k = m := by omega
          subst hkm
          go_wp2_with fail
          refine Calls.mono (ML.out _ (HB3.out.trans (HB.out.mono HB3.out.size))) ?_
          rintro e w5 ⟨rfl, hb⟩
          have HB5 : Hid _ := hb
          go_wp2_with fail
          go_ret
          exact ⟨rfl, HB5.out⟩
end Go.Proofs.YtdbohfpkhidfiaaDoorRR
