/- The walk over MergeAll. -/
import Derived.Test.YtamfpmpooaejkaaNt
namespace Go.Proofs.Ytamfpmpooaejkaa
open Go.RowKit Go.Shelf
set_option maxRecDepth 1000000
set_option linter.unusedVariables false

theorem hist_brs {n : Nat} {H : List Ev} (h : hist (n : Int) H = true) : ∃ bs, Mg.brs evS (List.replicate n 0) H = some bs := by
  unfold hist at h
  rw [Bool.and_eq_true, Int.toNat_natCast] at h
  exact Option.isSome_iff_exists.1 h.2
theorem prts_get {n i : Nat} {H : List Ev} {bs : List Nat} (hb : Mg.brs evS (List.replicate n 0) H = some bs) (hi : i < n) : (prts n H).getD i [] = Mg.part i H bs := by
  unfold prts
  rw [List.getD_eq_getElem?_getD, List.getElem?_map, List.getElem?_range hi, hb]
  rfl
theorem list_getD {R S : List (List Ev)} (hl : R.length = S.length) (h : ∀ i, i < R.length → R.getD i [] = S.getD i []) : R = S := by
  apply List.ext_getElem?
  intro i
  by_cases hi : i < R.length
  · rw [getD_row hi, getD_row (by omega), h i hi]
  · rw [List.getElem?_eq_none (by omega), List.getElem?_eq_none (by omega)]

theorem sum_mul : ∀ (l : List Nat) (c : Nat), (∀ x ∈ l, x ≤ c) → l.sum ≤ l.length * c
  | [], c, _ => by simp
  | x :: l, c, h => by
    have h1 := sum_mul l c (fun y hy => h y (List.mem_cons_of_mem _ hy))
    have h2 := h x (List.mem_cons_self ..)
    rw [List.sum_cons, List.length_cons, Nat.add_mul]
    omega
theorem part_le (i : Nat) : ∀ (h : List Ev) (bs : List Nat), (Mg.part i h bs).length ≤ h.length
  | [], bs => by cases bs <;> simp [Mg.part]
  | e :: h, [] => by simp [Mg.part]
  | e :: h, b :: bs => by
    rw [Mg.part]
    have := part_le i h bs
    split
    · simp only [List.length_cons]; omega
    · simp only [List.length_cons]; omega
theorem spl_tot (n : Int) (H : List Ev) (h : H.length ≤ 150) : Mg.tot (spl n H) ≤ 9600 := by
  unfold spl
  split
  · rename_i hh
    have hn := hist_n hh
    unfold Mg.tot
    refine Nat.le_trans (sum_mul _ 150 ?_) ?_
    · intro x hx
      obtain ⟨L, hL, rfl⟩ := List.mem_map.1 hx
      unfold prts at hL
      obtain ⟨i, _, rfl⟩ := List.mem_map.1 hL
      exact Nat.le_trans (part_le i _ _) h
    · rw [List.length_map, prts_len]
      omega
  · simp [Mg.tot]

/-- A history's parts are merged whole, and its merge has the same parts. -/
theorem all_plain {n : Int} {H : List Ev} (h : hist n H = true) : (mgH (spl n H)).length = H.length ∧ hist n (mgH (spl n H)) = true ∧ spl n (mgH (spl n H)) = spl n H := by
  have hn := hist_n h
  obtain ⟨m, rfl⟩ : ∃ m : Nat, n = (m : Int) := ⟨n.toNat, by omega⟩
  obtain ⟨bs, hb⟩ := hist_brs h
  have e1 : spl (m : Int) H = prts m H := by unfold spl; rw [if_pos h, Int.toNat_natCast]
  rw [e1]
  have hl : (prts m H).length = m := prts_len m H
  have e2 : mgH (prts m H) = (Mg.mer evS (prts m H)).1 := by unfold mgH; rw [hl, if_pos (by omega)]
  have hall := Mg.mer_all evS (prts m H) H bs (by rw [hl]; exact hb) (fun i hi => prts_get hb (by rw [← hl]; exact hi))
  have hok := Mg.mer_ok evS (prts m H)
  rw [hl] at hok hall
  have h3 : hist (m : Int) (mgH (prts m H)) = true := by
    unfold hist
    rw [e2, Int.toNat_natCast, hok.1, decide_eq_true hn]
    rfl
  refine ⟨by rw [e2]; exact hall.1, h3, ?_⟩
  unfold spl
  rw [if_pos h3, Int.toNat_natCast]
  refine list_getD (by rw [prts_len, prts_len]) (fun i hi => ?_)
  rw [prts_len] at hi
  rw [e2, prts_get hok.1 hi, (hall.2 i hi).2]

set_option maxHeartbeats 8000000 in
theorem all_walk (H : List Ev) (hv : Value) (n : Int) (w : World) (hh : RE w hv H) : Calls Try.prog 6 #[hv, .int .i64 n] w fun e w' => e = .returned (.bool true) ∧ Below w.heap.size w w' := by
  have HRH : Hid (RE w hv H) := hh
  obtain ⟨ha, hc, rfl, _⟩ := hh
  have HSH : Hid _ := short_any ha H.length hc w
  by_cases h150 : H.length ≤ 150
  · rw [decide_eq_true h150] at HSH
    have HC1 : Hid _ := c_split _ H n w HRH.out (by omega)
    cases hhs : hist n H with
    | false =>
      unfold SplC at HC1
      rw [show spl n H = [] by unfold spl; rw [hhs]; rfl, show chkN n H = 2 by unfold chkN; rw [hhs]; rfl] at HC1
      clear HRH h150 hhs
      generalize H.length = m at *
      go_enter Try.func6, Try.ntmps6
      go_wp2_with fail
      refine Calls.mono HSH.out ?_
      rintro e w1 ⟨rfl, h⟩
      obtain rfl := h.symm
      clear HSH
      go_wp2_with fail
      refine Calls.mono HC1.out ?_
      rintro e w1 ⟨a1, c1, rfl, r1, r2, r4⟩
      have HB1 : Hid (Below w.heap.size w w1) := r4
      clear r1 r2 r4 HC1
      simp only [List.length_nil]
      go_wp2_with fail
      refine Calls.mono (lives_any _) ?_
      rintro e w2 ⟨rfl, r4⟩
      have HB2 : Hid (Below w.heap.size w w2) := HB1.out.trans (r4.mono HB1.out.size)
      clear r4
      go_wp2_with fail
      go_ret
      exact ⟨rfl, HB2.out⟩
    | true =>
      obtain ⟨p1, p2, p3⟩ := all_plain hhs
      have hm2 : Hid (Mg.tot (spl n H) ≤ 100000) := Nat.le_trans (spl_tot n H h150) (by omega)
      have HCM : Hid (∀ w1 v, RRE w1 v (spl n H) → Calls Try.prog 11 #[v] w1 fun e w' => MrgC (spl n H) w1 e w') := fun w1 v hr => c_merge v _ w1 hr hm2.out
      have HCS : Hid (∀ w1 v, RE w1 v (mgH (spl n H)) → Calls Try.prog 16 #[v, .int .i64 n] w1 fun e w' => SplC n (mgH (spl n H)) w1 e w') := fun w1 v hr => c_split v _ n w1 hr (by rw [p1]; omega)
      have HFS : Hid ((∀ L ∈ spl n H, ∀ x ∈ L, x.s.length ≤ 1000000) → FewR (spl n H)) := fun hs => spl_few n H (by omega) hs
      unfold SplC at HC1 HCS
      unfold MrgC at HCM
      rw [p3] at HCS
      have e1 : chkN n H = 0 := by unfold chkN; rw [hhs]; rfl
      have e2 : chkN n (mgH (spl n H)) = 0 := by unfold chkN; rw [p2]; rfl
      rw [e1] at HC1
      rw [e2] at HCS
      have HGL : Hid ((mgH (spl n H)).length = H.length) := p1
      clear HRH hhs p1 p2 p3 e1 e2 hm2
      generalize mgH (spl n H) = G at *
      generalize (mgN (spl n H)).length = nl at *
      generalize spl n H = X at *
      rw [HGL.out] at HCM
      have hGn : G.length ≤ 150 := by rw [HGL.out]; exact h150
      obtain ⟨m, HM⟩ : ∃ m, Hid (H.length = m) := ⟨_, rfl⟩
      rw [HM.out] at HSH HC1 HCM ⊢
      clear h150
      go_enter Try.func6, Try.ntmps6
      go_wp2_with fail
      refine Calls.mono HSH.out ?_
      rintro e w1 ⟨rfl, h⟩
      obtain rfl := h.symm
      clear HSH
      go_wp2_with fail
      refine Calls.mono HC1.out ?_
      rintro e w1 ⟨a1, c1, rfl, r1, r2, r4⟩
      have HB1 : Hid (Below w.heap.size w w1) := r4
      have HR1 : Hid (RRE w1 (.slice a1 X.length c1) X) := r1
      have HF : Hid (FewR X) := HFS.out r2
      clear r1 r2 r4 HC1 HFS
      go_wp2_with fail
      refine Calls.mono (HCM.out w1 _ HR1.out) ?_
      rintro e w2 ⟨va, vc, na, nc, rfl, r1, r2, r3, r4⟩
      have HR1 : Hid (RRE w2 (.slice a1 X.length c1) X) := HR1.out.later r4
      have HG2 : Hid (RE w2 (.slice va m vc) G) := r1
      have HSG : Hid (∀ x ∈ G, x.s.length ≤ 1000000) := r2
      have HB2 : Hid (Below w.heap.size w w2) := HB1.out.trans (r4.mono HB1.out.size)
      clear r1 r2 r3 r4 HB1
      go_wp2_with fail
      refine Calls.mono (HCS.out w2 _ HG2.out) ?_
      rintro e w3 ⟨a2, c2, rfl, r1, r2, r4⟩
      have HR1 : Hid (RRE w3 (.slice a1 X.length c1) X) := HR1.out.later r4
      have HG3 : Hid (RE w3 (.slice va m vc) G) := HG2.out.later r4
      have HR2 : Hid (RRE w3 (.slice a2 X.length c2) X) := r1
      have HB3 : Hid (Below w.heap.size w w3) := HB2.out.trans (r4.mono HB2.out.size)
      clear r1 r2 r4 HCS HG2 HB2
      go_wp2_with fail
      refine Calls.mono (HCM.out w3 _ HR2.out) ?_
      rintro e w4 ⟨vb, vd, nb, nd, rfl, r1, r2, r3, r4⟩
      have HR1 : Hid (RRE w4 (.slice a1 X.length c1) X) := HR1.out.later r4
      have HR2 : Hid (RRE w4 (.slice a2 X.length c2) X) := HR2.out.later r4
      have HG4 : Hid (RE w4 (.slice va m vc) G) := HG3.out.later r4
      have HG5 : Hid (RE w4 (.slice vb m vd) G) := r1
      have HB4 : Hid (Below w.heap.size w w4) := HB3.out.trans (r4.mono HB3.out.size)
      clear r1 r2 r3 r4 HCM HG3 HB3
      have HSA : Hid (Calls Try.prog 18 #[.slice a1 X.length c1, .slice a2 X.length c2] w4 fun e w' => e = .returned (.bool true) ∧ Below w4.heap.size w4 w') := by
        have h9 := sameRows_any X X _ _ w4 HR1.out HR2.out HF.out HF.out
        rw [decide_eq_true rfl] at h9
        exact h9
      go_wp2_with fail
      refine Calls.mono HSA.out ?_
      rintro e w5 ⟨rfl, r4⟩
      have HB5 : Hid (Below w.heap.size w w5) := HB4.out.trans (r4.mono HB4.out.size)
      have HSB : Hid (Calls Try.prog 13 #[.slice va m vc, .slice vb m vd] w5 fun e w' => e = .returned (.bool true) ∧ Below w5.heap.size w5 w') := by
        have h9 := sameAll_any G G _ _ w5 (HG4.out.later r4) (HG5.out.later r4) HSG.out HSG.out (by omega) (by omega)
        rw [decide_eq_true rfl] at h9
        exact h9
      clear r4 HSA
      go_wp2_with fail
      refine Calls.mono HSB.out ?_
      rintro e w6 ⟨rfl, r4⟩
      have HB6 : Hid (Below w.heap.size w w6) := HB5.out.trans (r4.mono HB5.out.size)
      clear r4 HSB
      go_wp2_with fail
      refine Calls.mono (lives_any _) ?_
      rintro e w7 ⟨rfl, r4⟩
      have HB7 : Hid (Below w.heap.size w w7) := HB6.out.trans (r4.mono HB6.out.size)
      clear r4
      go_wp2_with fail
      go_ret
      exact ⟨rfl, HB7.out⟩
  · rw [decide_eq_false h150] at HSH
    clear HRH h150
    generalize H.length = m at *
    go_enter Try.func6, Try.ntmps6
    go_wp2_with fail
    refine Calls.mono HSH.out ?_
    rintro e w1 ⟨rfl, h⟩
    obtain rfl := h.symm
    go_wp2_with fail
    refine Calls.mono (lives_any _) ?_
    rintro e w1 ⟨rfl, hb⟩
    have HB : Hid _ := hb
    clear hb
    go_wp2_with fail
    go_ret
    exact ⟨rfl, HB.out⟩
end Go.Proofs.Ytamfpmpooaejkaa
