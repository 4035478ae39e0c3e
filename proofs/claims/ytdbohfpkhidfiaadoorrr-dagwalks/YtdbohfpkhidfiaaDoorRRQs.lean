/- The law DagWalks. -/
import Derived.Test.YtdbohfpkhidfiaaDoorRRPd
import Derived.Test.YtdbohfpkhidfiaaDoorRRQr
namespace Go.Proofs.YtdbohfpkhidfiaaDoorRR
open Go.RowKit

/-- A slice of bytes that came in. -/
def RdB (w : World) (v : Value) (l : List Nat) : Prop := ∃ a cap, v = .slice a l.length cap ∧ l.length ≤ cap ∧ ∀ (i : Nat) (x : Nat), l[i]? = some x → ∃ b off, a = some ⟨b, off, none⟩ ∧ x < 256 ∧ w.cell? ⟨b, off + i, none⟩ = some (.int .u8 (x : Int))

theorem own_below {w w' : World} {B : Nat} {e : TypeId} {size : Nat} {v : Value} {n : Nat} {xs : List Value} (h : w.ownsRow B e size v n xs) (hbel : Below w.heap.size w w') : w'.ownsRow B e size v n xs := by
  obtain ⟨h1, h2⟩ := h
  refine ⟨h1, ?_⟩
  rcases h2 with h3 | ⟨g, cap, cur, h4, h5, h6, h7⟩
  · exact .inl h3
  · exact .inr ⟨g, cap, cur, h4, h5, (hbel.block g (Array.getElem?_eq_some_iff.1 h6).1).trans h6, h7⟩

theorem rem_nat (p q : Nat) : Int.tmod (p : Int) (q : Int) = ((p % q : Nat) : Int) := by
  rw [Int.tmod_eq_emod_of_nonneg (by omega)]
  rfl

set_option maxRecDepth 1000000 in
set_option maxHeartbeats 4000000 in
theorem walks_any (n : Int) (v pv : Value) (l : List (Int × Int)) (ps : List Nat) (w : World) (hl : RdA w v l) (hp : RdB w pv ps) (hT : Tab w) :
    Calls Tryd.prog 6 #[.int .i64 n, v, pv] w fun e w' => e = .returned (.bool true) ∧ Below w.heap.size w w' := by
  have HT : Hid (Tab w) := hT
  have HA : Hid (RdA w v l) := hl
  have ML : Hid (∀ w1, Below w.heap.size w w1 → Calls Tryd.prog 8 #[] w1 fun e w' => e = .returned (.bool true) ∧ Below w.heap.size w w') := fun w1 hb => (lives_any w1 (hT.later hb)).mono fun e w' h => ⟨h.1, hb.trans (h.2.mono hb.size)⟩
  obtain ⟨a, cap, rfl, _⟩ := hl
  obtain ⟨pa, pc, rfl, hpc, hpr⟩ := hp
  have HPR : Hid _ := hpr
  obtain ⟨pn, HPN⟩ : ∃ pn, Hid (ps.length = pn) := ⟨_, rfl⟩
  rw [HPN.out] at hpc ⊢
  clear hT hpr
  obtain ⟨i0, hi0, hz0, hz1, hz2⟩ := info_parts Tryd.info3
  have MF : Hid _ := few_any l.length cap a w
  cases hF : fewP l.length with
  | false =>
    rw [hF] at MF
    go_enter Tryd.func6, Tryd.ntmps6
    go_wp2_with fail
    refine Calls.mono MF.out ?_
    rintro e w1 ⟨rfl, rfl⟩
    go_wp2_with fail
    refine Calls.mono (ML.out _ (Below.refl _ _)) ?_
    rintro e w2 ⟨rfl, hb⟩
    have HB : Hid _ := hb
    go_wp2_with fail
    go_ret
    exact ⟨rfl, HB.out⟩
  | true =>
    rw [hF] at MF
    have MO : Hid (Calls Tryd.prog 9 #[.int .i64 n, .slice a l.length cap] w fun e w' => OrderC n l w e w') := Order_any n _ l w HA.out HT.out
    unfold OrderC at MO
    cases hP : weaveP n l with
    | bad c =>
      rw [hP] at MO
      have hc : ((c == 0)) = false := by rcases weaveP_code hP with rfl | rfl <;> rfl
      go_enter Tryd.func6, Tryd.ntmps6
      go_wp2_with fail
      refine Calls.mono MF.out ?_
      rintro e w1 ⟨rfl, rfl⟩
      go_wp2_with fail
      refine Calls.mono MO.out ?_
      rintro e w2 ⟨hb, rfl⟩
      have HB : Hid _ := hb
      clear hb
      go_wp2_with fail
      refine Calls.mono (ML.out _ HB.out) ?_
      rintro e w3 ⟨rfl, hb⟩
      have HB2 : Hid _ := hb
      go_wp2_with fail
      go_ret
      exact ⟨rfl, HB2.out⟩
    | ok W o =>
      rw [hP] at MO
      obtain ⟨⟨hn0, hn64⟩, _, _, hWok, hWl, hOk, hol⟩ := weave_facts hP
      obtain ⟨m, rfl⟩ : ∃ m : Nat, n = (m : Int) := ⟨n.toNat, by omega⟩
      simp only [Int.toNat_natCast] at hWl hol MO
      have hm : m ≤ 64 := by omega
      have HWl : Hid (W.length = m) := hWl
      have HOk : Hid (OrdOk W o) := hOk
      have HOl : Hid (o.length = m) := hol
      have HPP : Hid (weaveP (m : Int) l = .ok W o) := hP
      clear hn0 hn64 hWok hWl hOk hol hP
      go_enter Tryd.func6, Tryd.ntmps6
      go_wp2_with fail
      refine Calls.mono MF.out ?_
      rintro e w0 ⟨rfl, rfl⟩
      go_wp2_with fail
      refine Calls.mono MO.out ?_
      rintro e w1 ⟨hb1, v1, rfl, hI1, _⟩
      have HB1 : Hid (Below w0.heap.size w0 w1) := hb1
      obtain ⟨a1, cap1, rfl, _⟩ := hI1
      have HO0 : Hid (w1.ownsRow w1.heap.size 3 1 (.slice none 0 0) ([] : List Nat).length (ivs [])) := World.ownsRow_nil _ _ _ _
      have hz1' := hb1.size
      rw [HOl.out]
      clear hb1 MO MF
      go_wp2_with fail
      go_loopw [9, 10, 11, 12, 13, 14] (fun dv iv _ _ _ _ wr => ∃ (k : Nat) (D : List Nat), k ≤ m ∧ iv = .int .i64 k ∧ Hid (D.length = k) ∧ Hid (D.Nodup) ∧ Hid (∀ x ∈ D, x < m) ∧ Hid (wr.ownsRow w1.heap.size 3 1 dv D.length (ivs D)) ∧ Hid (Below w1.heap.size w1 wr)) (fun _ iv _ _ _ _ _ => m - (intOf iv).toNat)
      case atStart => exact ⟨0, [], Nat.zero_le _, rfl, rfl, List.nodup_nil, by show ∀ x ∈ [], _; simp, HO0, Below.refl _ _⟩
      case round =>
        obtain ⟨k, D, hk, rfl, HDl, HDn, HDm, HO, HB⟩ := hrel
        rename World => w4
        clear HO0
        have HBB : Hid (Below w0.heap.size w0 w4) := HB1.out.trans (HB.out.mono HB1.out.size)
        have hdk := HDl.out
        have MR : Hid (Calls Tryd.prog 17 #[.int .i64 (m : Int), .slice a l.length cap, u9] w4 fun e w' => ReadyC (m : Int) l D w4 e w') := Ready_any (m : Int) _ u9 l D w4 (HA.out.later HBB.out) (RdI.of_own HO.out) (by simpa using HDm.out) (by omega) (HT.out.later HBB.out)
        unfold ReadyC at MR
        rw [HPP.out] at MR
        by_cases hlt : k < m
        · have HNe : Hid (readyP W D ≠ []) := ready_some (by rw [HWl.out]; exact hm) HOk.out (by rw [HOl.out, HWl.out]) (by rw [HWl.out, HDl.out]; exact hlt)
          have HRm : Hid (∀ x ∈ readyP W D, x < m ∧ x ∉ D) := by
            show ∀ x ∈ readyP W D, _
            intro x hx
            have := (readyP_mem (by rw [HWl.out]; exact hm)).1 hx
            exact ⟨by rw [← HWl.out]; exact this.1.1, this.2⟩
          have hbl : (readyP W D).length ≤ 64 := bitsOf_len _
          have hne : 0 < (readyP W D).length := List.length_pos_iff.2 HNe.out
          have hki : (k : Int) < (m : Int) := by omega
          go_wp2_with fail
          refine Calls.mono MR.out ?_
          rintro e w5 ⟨hb5, rv, rfl, hrv⟩
          obtain ⟨ra, rc, rfl, hrc, hrr⟩ := hrv
          have HRR : Hid _ := hrr
          have HO5 : Hid (w5.ownsRow w1.heap.size 3 1 u9 D.length (ivs D)) := own_below HO.out hb5
          have HB5 : Hid (Below w1.heap.size w1 w5) := HB.out.trans (hb5.mono HB.out.size)
          have HBB5 : Hid (Below w0.heap.size w0 w5) := HB1.out.trans (HB5.out.mono HB1.out.size)
          generalize readyP W D = RL at *
          obtain ⟨q, HQ⟩ : ∃ q, Hid (RL.length = q) := ⟨_, rfl⟩
          rw [HQ.out] at hbl hne hrc ⊢
          have hq0 : ((q : Int) == 0) = false := by simp; omega
          have hq0' : ((q : Int) = 0) = False := by simp; omega
          clear MR HO HB hrr hb5 HNe HBB
          by_cases hkp : k < pn
          · obtain ⟨z, hz⟩ : ∃ z, ps[k]? = some z := ⟨_, List.getElem?_eq_getElem (by rw [HPN.out]; exact hkp)⟩
            obtain ⟨pb, po, rfl, hz256, cz⟩ := HPR.out k z hz
            have dz := cell_later HBB5.out cz
            have hkpi : (k : Int) < (pn : Int) := by omega
            clear hz cz
            obtain ⟨p, hpz⟩ : ∃ p : Nat, z = p := ⟨_, rfl⟩
            subst hpz
            have hrem := rem_nat z q
            have hlt2 : z % q < q := Nat.mod_lt _ hne
            obtain ⟨x, hx⟩ : ∃ x, RL[z % q]? = some x := ⟨_, List.getElem?_eq_getElem (by rw [HQ.out]; exact hlt2)⟩
            obtain ⟨hxm, hxD⟩ := HRm.out x (List.mem_of_getElem? hx)
            obtain ⟨rb, ro, rfl, cx⟩ := HRR.out _ x hx
            have MI : Hid _ := In_any D u9 x w5 (RdI.of_own HO5.out) (by omega)
            rw [decide_eq_false hxD] at MI
            have hlt2i : ((z % q : Nat) : Int) < (q : Int) := by omega
            clear hx
            generalize z % q = zq at *
            go_wp2_with fail
            refine Calls.mono MI.out ?_
            rintro e w6 ⟨rfl, rfl⟩
            have ho := HO5.out
            have hz := HB5.out.size
            rw [hdk] at ho
            go_wp2_with (at_builtin; refine wpList_append_own_at _ rfl _ _ 25 rfl w1.heap.size 3 i0 _ 1 8 Tryd.underlying25 hi0 hz0 hz1 hz2 rfl (by decide) _ k (ivs D) rfl (ho.alloc _) ⟨w6.heap.size, 0, none⟩ 1 1 [.int .i64 (x : Int)] rfl rfl (new_cells w6 [.int .i64 (x : Int)] 3) (by simp [Value.oneCell']) (by unfold maxLen; omega) (by omega) (by simp; omega) ?_; intro v7 w7 ho7 hg7 _ hat7; obtain ⟨g7, cap7, rfl⟩ := ownsRow_succ' ho7)
            have HB7 : Hid (Below w1.heap.size w1 w7) := Below.grown (HB5.out.alloc hz _) hg7 (by simp; omega) (fun j hj => (ho.lt _ hj).1)
            have HO7 : Hid (w7.ownsRow w1.heap.size 3 1 (.slice (some ⟨g7, 0, none⟩) (k + 1) cap7) (D ++ [x]).length (ivs (D ++ [x]))) := by
              show World.ownsRow _ _ _ _ _ _ _
              rw [ivs_snoc, List.length_append, HDl.out]
              exact ho7
            have HDl2 : Hid ((D ++ [x]).length = k + 1) := by show _ = _; rw [List.length_append, HDl.out]; rfl
            have HDn2 : Hid ((D ++ [x]).Nodup) := by
              show List.Nodup _
              rw [List.nodup_append]
              refine ⟨HDn.out, by simp, ?_⟩
              intro a ha b hb
              simp at hb
              subst hb
              exact fun he => hxD (he ▸ ha)
            have HDm2 : Hid (∀ y ∈ D ++ [x], y < m) := by
              show ∀ y ∈ D ++ [x], _
              intro y hy
              rcases List.mem_append.1 hy with h1 | h1
              · exact HDm.out y h1
              · simp at h1; rw [h1]; exact hxm
            clear ho hg7 hat7 ho7 HB5 HO5
            go_wp2_with fail
            go_roundw
            case rel => exact ⟨k + 1, D ++ [x], by omega, by go_num, HDl2, HDn2, HDm2, HO7, HB7⟩
            case measure => simp [intOf]; omega
          · have hkpi : decide ((k : Int) < (pn : Int)) = false := by simp; omega
            have hkpn : decide (k < pn) = false := by simp; omega
            obtain ⟨x, hx⟩ : ∃ x, RL[0]? = some x := ⟨_, List.getElem?_eq_getElem (by rw [HQ.out]; exact hne)⟩
            obtain ⟨hxm, hxD⟩ := HRm.out x (List.mem_of_getElem? hx)
            obtain ⟨rb, ro, rfl, cx⟩ := HRR.out 0 x hx
            rw [Nat.add_zero] at cx
            have MI : Hid _ := In_any D u9 x w5 (RdI.of_own HO5.out) (by omega)
            rw [decide_eq_false hxD] at MI
            have hlt2i : (0 : Int) < (q : Int) := by omega
            have hrem : Int.tmod 0 (q : Int) = 0 := Int.zero_tmod _
            clear hx
            go_wp2_with fail
            refine Calls.mono MI.out ?_
            rintro e w6 ⟨rfl, rfl⟩
            have ho := HO5.out
            have hz := HB5.out.size
            rw [hdk] at ho
            go_wp2_with (at_builtin; refine wpList_append_own_at _ rfl _ _ 25 rfl w1.heap.size 3 i0 _ 1 8 Tryd.underlying25 hi0 hz0 hz1 hz2 rfl (by decide) _ k (ivs D) rfl (ho.alloc _) ⟨w6.heap.size, 0, none⟩ 1 1 [.int .i64 (x : Int)] rfl rfl (new_cells w6 [.int .i64 (x : Int)] 3) (by simp [Value.oneCell']) (by unfold maxLen; omega) (by omega) (by simp; omega) ?_; intro v7 w7 ho7 hg7 _ hat7; obtain ⟨g7, cap7, rfl⟩ := ownsRow_succ' ho7)
            have HB7 : Hid (Below w1.heap.size w1 w7) := Below.grown (HB5.out.alloc hz _) hg7 (by simp; omega) (fun j hj => (ho.lt _ hj).1)
            have HO7 : Hid (w7.ownsRow w1.heap.size 3 1 (.slice (some ⟨g7, 0, none⟩) (k + 1) cap7) (D ++ [x]).length (ivs (D ++ [x]))) := by
              show World.ownsRow _ _ _ _ _ _ _
              rw [ivs_snoc, List.length_append, HDl.out]
              exact ho7
            have HDl2 : Hid ((D ++ [x]).length = k + 1) := by show _ = _; rw [List.length_append, HDl.out]; rfl
            have HDn2 : Hid ((D ++ [x]).Nodup) := by
              show List.Nodup _
              rw [List.nodup_append]
              refine ⟨HDn.out, by simp, ?_⟩
              intro a ha b hb
              simp at hb
              subst hb
              exact fun he => hxD (he ▸ ha)
            have HDm2 : Hid (∀ y ∈ D ++ [x], y < m) := by
              show ∀ y ∈ D ++ [x], _
              intro y hy
              rcases List.mem_append.1 hy with h1 | h1
              · exact HDm.out y h1
              · simp at h1; rw [h1]; exact hxm
            clear ho hg7 hat7 ho7 HB5 HO5
            go_wp2_with fail
            go_roundw
            case rel => exact ⟨k + 1, D ++ [x], by omega, by go_num, HDl2, HDn2, HDm2, HO7, HB7⟩
            case measure => simp [intOf]; omega
        · have hkm : k = m := by omega
          subst hkm
          have HRE : Hid (readyP W D = []) := ready_none (by rw [HWl.out]; exact hm) HDn.out (by rw [HWl.out]; exact HDm.out) (by rw [HDl.out, HWl.out])
          go_wp2_with fail
          refine Calls.mono MR.out ?_
          rintro e w5 ⟨hb5, rv, rfl, hrv⟩
          rw [HRE.out] at hrv
          have HRV : Hid _ := hrv
          have HBB5 : Hid (Below w0.heap.size w0 w5) := HBB.out.trans (hb5.mono HBB.out.size)
          have MS : Hid (Calls Tryd.prog 18 #[rv, .slice none 0 0] w5 fun e w' => e = .returned (.bool true) ∧ Below w5.heap.size w5 w') := by
            have := sameI_any [] [] rv (.slice none 0 0) w5 hrv (nil_I w5) (by simp) (by simp)
            rw [decide_eq_true (show ([] : List Nat) = [] from rfl)] at this
            exact this
          obtain ⟨ra, rc, rfl, _⟩ := hrv
          clear MR hb5 HO HB
          go_wp2_with fail
          refine Calls.mono MS.out ?_
          rintro e w6 ⟨rfl, hb6⟩
          have HB6 : Hid _ := HBB5.out.trans (hb6.mono HBB5.out.size)
          clear hb6
          go_wp2_with fail
          refine Calls.mono (ML.out _ HB6.out) ?_
          rintro e w7 ⟨rfl, hb⟩
          have HB7 : Hid _ := hb
          go_wp2_with fail
          go_ret
          exact ⟨rfl, HB7.out⟩
end Go.Proofs.YtdbohfpkhidfiaaDoorRR
