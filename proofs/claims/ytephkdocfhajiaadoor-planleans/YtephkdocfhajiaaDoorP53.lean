/- Texts of the seat, packed: Tn. -/
import Derived.Test.YtephkdocfhajiaaDoorP52
import Derived.Test.YtephkdocfhajiaaDoorP50
import Derived.Test.YtephkdocfhajiaaDoorP49
import Derived.Deep.RegionHeldLaw
/- The walk over PlanLeans. -/
namespace Go.Proofs.YtephkdocfhajiaaDoor
open Go.RowKit Go.Shelf Go.Proofs.YtephkdocfhajiaaDoor.Sx
set_option linter.unusedVariables false

/-- What PlanLeans asks of a body, with letters for what is told. -/
structure LeanF (its : List It) (il : Nat) (K : List Nat) (R : List (List Nat)) (ovf : Nat → List Nat) (W' r : List Nat) : Prop where
  few : K.length ≤ 64
  lt : ∀ i, i < K.length → K.getD i 0 < il
  wv : Dg.weaveP (K.length : Int) (arcK its K K.length) = .ok W' r
  rl : R = Dg.reachL W' r
  len : ∀ n, n ≤ K.length → (arcK its K n).length ≤ 1100
  over : ∀ i k, i < K.length → k < K.length → i ∈ R.getD k [] → K.getD k 0 ∈ ovf (K.getD i 0)
  cnt : ∀ i, i < K.length → ((List.range K.length).filter fun k => decide (i ∈ R.getD k [])).length = (ovf (K.getD i 0)).length
  lo : ∀ i, (ovf i).length ≤ 1000
  af : ∀ v, (aftI its v).length ≤ 16
  rb : ∀ k, (R.getD k []).length ≤ 1000

theorem leanF {x : By} {t : Tr} {its : List It} (hP : planT x t = some its) (hk : Kd true t) (inn alt : Int) : ∃ R W' r, LeanF its its.length (kidsL its inn alt) R (fun i => overL (ovT its) (i : Int)) W' r := by
  obtain ⟨Kx, hKx⟩ : ∃ K, K = kidsL its inn alt := ⟨_, rfl⟩
  have hh := plan_hangs hP hk
  obtain ⟨h0, h64, hat⟩ := hangs_at hh
  obtain ⟨i2, a2, hK⟩ : ∃ i2 a2, Kin its Kx i2 a2 := by
    by_cases hr : 0 ≤ inn ∧ inn < (its.length : Int)
    · exact ⟨inn, alt, by rw [hKx]; exact kin_of hr⟩
    · refine ⟨(its.length : Int), 0, ?_⟩
      have : Kx = [] := by rw [hKx]; unfold kidsL; rw [if_neg hr]
      rw [this]
      refine ⟨List.nodup_nil, fun v => ⟨fun h => (by cases h), ?_⟩⟩
      rintro ⟨z, hz, h1, _⟩
      have := (hat v z hz).1
      have := (List.getElem?_eq_some_iff.1 hz).1
      omega
  rw [← hKx]
  obtain ⟨hn64, r, hr⟩ := loc_weave hP hk hK
  obtain ⟨_, _, _, _, Wv, ov, hwv⟩ := right_facts (saga_of_plan hP hk)
  have hovT : ovT its = Dg.reachL Wv ov := by unfold ovT; rw [hwv]
  have haft : ∀ v, (aftI its v).length ≤ 16 := by
    intro v
    unfold aftI
    cases hz : its[v]? with
    | none => simp
    | some z => have := (hat v z hz).2.2.2.1; simp only; omega
  refine ⟨_, _, r, ⟨hn64, fun i hi => ?_, hr, rfl, fun n hn => ?_, fun i k hi hk2 hm => ?_, fun i hi => ?_, fun i => ?_, haft, fun k => ?_⟩⟩
  · obtain ⟨z, hz, _⟩ := hK.at_ hi
    exact (List.getElem?_eq_some_iff.1 hz).1
  · have := arcK_len hK haft n
    omega
  · show Kx.getD k 0 ∈ overL (ovT its) (Kx.getD i 0 : Int)
    rw [hovT]
    exact (lean_count hP hK hwv hr hi).1 k hk2 hm
  · show _ = (overL (ovT its) (Kx.getD i 0 : Int)).length
    rw [hovT]
    exact (lean_count hP hK hwv hr hi).2
  · show (overL (ovT its) (i : Int)).length ≤ 1000
    rw [hovT]
    unfold overL
    split
    · rename_i h
      have hlt : (i : Int).toNat < (Dg.reachL Wv ov).length := by omega
      rw [List.getD_eq_getElem?_getD, List.getElem?_eq_getElem hlt]
      obtain ⟨u, _, hu⟩ := List.mem_map.1 (show (Dg.reachL Wv ov)[(i : Int).toNat] ∈ (Dg.reachP Wv ov).map Dg.bitsOf from List.getElem_mem hlt)
      show ((Dg.reachL Wv ov)[(i : Int).toNat]).length ≤ 1000
      rw [← hu]
      have := bits_64 u
      omega
    · simp
  · by_cases hk2 : k < (Dg.reachL (Dg.webOf Kx.length (arcK its Kx Kx.length)) r).length
    · rw [List.getD_eq_getElem?_getD, List.getElem?_eq_getElem hk2]
      obtain ⟨u, _, hu⟩ := List.mem_map.1 (show (Dg.reachL (Dg.webOf Kx.length (arcK its Kx Kx.length)) r)[k] ∈ (Dg.reachP (Dg.webOf Kx.length (arcK its Kx Kx.length)) r).map Dg.bitsOf from List.getElem_mem hk2)
      show ((Dg.reachL (Dg.webOf Kx.length (arcK its Kx Kx.length)) r)[k]).length ≤ 1000
      rw [← hu]
      have := bits_64 u
      omega
    · rw [List.getD_eq_getElem?_getD, List.getElem?_eq_none (by omega)]
      simp

theorem small_arcs (its : List It) (K : List Nat) (h : K.length ≤ 64) : Dg.Small (arcK its K K.length) := by
  intro p hp
  obtain ⟨i, j, h1, h2, _, rfl⟩ := (arcK_mem _).1 hp
  simp only []
  omega

theorem arcJ_mono (K : List Nat) (i : Nat) (on : Int) {n : Nat} : ∀ {m : Nat}, n ≤ m → (arcJ K i on n).length ≤ (arcJ K i on m).length
  | 0, h => by
    have : n = 0 := by omega
    subst this
    exact Nat.le_refl _
  | m + 1, h => by
    by_cases e : n = m + 1
    · subst e
      exact Nat.le_refl _
    · have := arcJ_mono K i on (m := m) (n := n) (by omega)
      show _ ≤ (arcJ K i on m ++ _).length
      rw [List.length_append]
      omega

theorem arcA_mono (K : List Nat) (i : Nat) (l : List Int) {n : Nat} : ∀ {m : Nat}, n ≤ m → (arcA K i l n).length ≤ (arcA K i l m).length
  | 0, h => by
    have : n = 0 := by omega
    subst this
    exact Nat.le_refl _
  | m + 1, h => by
    by_cases e : n = m + 1
    · subst e
      exact Nat.le_refl _
    · have := arcA_mono K i l (m := m) (n := n) (by omega)
      show _ ≤ (arcA K i l m ++ _).length
      rw [List.length_append]
      omega

/-- Counting, a step at a time. -/
theorem cnt_step (R : List (List Nat)) (i n : Nat) : ∃ cn : Nat → Nat, cn 0 = 0 ∧ (∀ k, cn k ≤ k) ∧ (∀ k, i ∈ R.getD k [] → cn (k + 1) = cn k + 1) ∧ (∀ k, i ∉ R.getD k [] → cn (k + 1) = cn k) ∧ cn n = ((List.range n).filter fun k => decide (i ∈ R.getD k [])).length := by
  refine ⟨fun n => ((List.range n).filter fun k => decide (i ∈ R.getD k [])).length, rfl, fun k => ?_, fun k hk => ?_, fun k hk => ?_, rfl⟩
  · have := List.length_filter_le (fun k => decide (i ∈ R.getD k [])) (List.range k)
    rw [List.length_range] at this
    exact this
  · show ((List.range (k + 1)).filter _).length = _
    rw [List.range_succ, List.filter_append, List.length_append, List.filter_cons_of_pos (p := fun k => decide (i ∈ R.getD k [])) (decide_eq_true hk)]
    rfl
  · show ((List.range (k + 1)).filter _).length = _
    rw [List.range_succ, List.filter_append, List.length_append, List.filter_cons_of_neg (p := fun k => decide (i ∈ R.getD k [])) (by rw [decide_eq_false hk]; decide)]
    rfl

set_option maxRecDepth 1000000 in
set_option maxHeartbeats 40000000 in
theorem leans_walk (hLv : ∀ wx : World, Dg.Tab wx → Calls Tryd.prog 9 #[] wx fun e w' => e = .returned (.bool true) ∧ Below wx.heap.size wx w') (x : By) (t : Tr) (a : Option Addr) (ca : Nat) (inn alt : Int) (w : World) (hT : Dg.Tab w)
    (ht : TAt (· < w.heap.size) w true t a 0 t.len) (hm : t.len ≤ maxLen) (hb : t.bnd) (hx : x.length ≤ maxLen) :
    Calls Tryd.prog 5 #[.agg #[.string ⟨x.toArray⟩, .slice a t.len ca], .int .i64 inn, .int .i64 alt] w fun e w' => e = .returned (.bool true) ∧ Below w.heap.size w w' := by
  have HLv : Hid _ := hLv
  have HT : Hid (Dg.Tab w) := hT
  have HTt : Hid (TAt (· < w.heap.size) w true t a 0 t.len) := ht
  have HKd : Hid (Kd true t) := TAt.kd t ht
  obtain ⟨W1, HW1⟩ : ∃ W1, W1 = w.alloc (.cells #[.string ⟨x.toArray⟩, .slice a t.len ca] 24) := ⟨_, rfl⟩
  have hb1 : Below w.heap.size w W1 := by rw [HW1]; exact (Below.refl _ w).alloc (Nat.le_refl _) _
  have r2 : W1.heap[w.heap.size]? = some (.cells #[.string ⟨x.toArray⟩, .slice a t.len ca] 24 (0, 0)) := by rw [HW1]; exact Dg.row_new w _ 24
  have g20 := (Dg.cell_row r2 0).trans rfl
  have g21 := (Dg.cell_row r2 1).trans rfl
  have MF : Hid _ := few_any x t _ W1 a ca (ht.below hb1) hm hb hx
  have HB1 : Hid _ := hb1
  clear hLv hT ht hm hb hx hb1 r2
  obtain ⟨tl, HTL⟩ : ∃ tl, Hid (t.len = tl) := ⟨_, rfl⟩
  rw [HTL.out] at MF HW1 g21 ⊢
  go_enter Tryd.func5, Tryd.ntmps5
  go_wp2_with fail
  rw [← HW1]
  clear HW1
  refine Calls.mono MF.out ?_
  rintro e w2 ⟨q, rfl, hb2, hq⟩
  have HB2 : Hid (Below w.heap.size w w2) := HB1.out.trans (hb2.mono HB1.out.size)
  have i20 := Dg.cell_later hb2 g20
  have i21 := Dg.cell_later hb2 g21
  clear hb2 MF g20 g21
  cases q with
  | false =>
    clear hq i20 i21
    go_wp2_with fail
    refine Calls.mono (HLv.out w2 (HT.out.later HB2.out)) ?_
    rintro e w3 ⟨rfl, hb3⟩
    have HB3 : Hid (Below w.heap.size w w3) := HB2.out.trans (hb3.mono HB2.out.size)
    clear hb3
    go_wp2_with fail
    go_ret
    exact ⟨rfl, HB3.out⟩
  | true =>
    obtain ⟨hx200, hpc, hsh⟩ := hq rfl
    have HFt : Hid (Fair t) := few_fair hpc hsh
    have HXl : Hid (x.length ≤ 1000000) := by show _ ≤ _; omega
    clear hq hpc hsh hx200
    have MM : Hid _ := Make_any w2 x t a ca (TAt.later HTt.out HB2.out) HFt.out (HT.out.later HB2.out)
    rw [HTL.out] at MM
    go_wp2_with fail
    refine Calls.mono MM.out ?_
    rintro e w4 ⟨hb4, h4⟩
    have HB4 : Hid (Below w.heap.size w w4) := HB2.out.trans (hb4.mono HB2.out.size)
    clear hb4 MM i20 i21
    cases hP : planT x t with
    | none =>
      rw [hP] at h4
      obtain rfl : e = .returned (.tuple #[.agg #[.slice none 0 0], .int .i64 11]) := h4
      have hbA : Below w4.heap.size w4 (w4.alloc (.cells #[.slice none 0 0] 27)) := (Below.refl _ _).alloc (Nat.le_refl _) _
      have HBz : Hid (Below w.heap.size w (w4.alloc (.cells #[.slice none 0 0] 27))) := HB4.out.trans (hbA.mono HB4.out.size)
      have hnil : sagaP [] = none := by
        unfold sagaP
        rw [if_neg]
        rintro ⟨h1, _⟩
        exact absurd h1 (by decide)
      have hkn : kidsI [] inn alt = [] := by unfold kidsI; rw [hnil]; rfl
      have MK : Hid _ := KidsP_any [] (.slice none 0 0) inn alt _ ⟨none, 0, rfl, Nat.le_refl _, fun i x hx => by simp at hx⟩ ⟨fun x hx => (nomatch hx), fun x hx => (nomatch hx)⟩ (HT.out.later HBz.out)
      rw [hkn] at MK
      clear hP hbA hnil hkn
      go_wp2_with fail
      refine Calls.mono MK.out ?_
      rintro e w5 ⟨hb5, u5, rfl, hu5⟩
      obtain ⟨sa, sc, rfl, _⟩ := hu5
      have HB5 : Hid (Below w.heap.size w w5) := HBz.out.trans (hb5.mono HBz.out.size)
      clear hb5 MK
      go_wp2_with fail
      refine Calls.mono (HLv.out _ (HT.out.later HB5.out)) ?_
      rintro e w6 ⟨rfl, hb6⟩
      have HB6 : Hid (Below w.heap.size w w6) := HB5.out.trans (hb6.mono HB5.out.size)
      clear hb6
      go_wp2_with fail
      go_ret
      exact ⟨rfl, HB6.out⟩
    | some its =>
      rw [hP] at h4
      obtain ⟨v4, rfl, hs4⟩ := h4
      have hr4 := hs4.rd
      obtain ⟨ia, icap, rfl, _, hrr0⟩ := id hr4
      obtain ⟨z0, hz0⟩ : ∃ z0, its[0]? = some z0 := ⟨_, List.getElem?_eq_getElem (allF hP HKd.out (right_facts (saga_of_plan hP HKd.out)).2.2.2.2.choose_spec.choose_spec).pos⟩
      obtain ⟨b1, off1, _, _, _, rfl, _⟩ := hrr0 0 z0 hz0
      clear hz0 hrr0
      have hsg := saga_of_plan hP HKd.out
      obtain ⟨R, W', r, hLF⟩ := leanF hP HKd.out inn alt
      obtain ⟨il, HIL⟩ : ∃ il, Hid (its.length = il) := ⟨_, rfl⟩
      obtain ⟨ovf, hov⟩ : ∃ ovf : Nat → List Nat, ∀ i, ovf i = overL (ovT its) (i : Int) := ⟨_, fun _ => rfl⟩
      have hoe : (fun i : Nat => overL (ovT its) (i : Int)) = ovf := by funext i; exact (hov i).symm
      rw [hoe] at hLF
      obtain ⟨KL, hKL⟩ : ∃ KL, KL = kidsL its inn alt := ⟨_, rfl⟩
      rw [← hKL] at hLF
      have hbA : Below w4.heap.size w4 (w4.alloc (.cells #[.slice (some ⟨b1, off1, none⟩) its.length icap] 27)) := (Below.refl _ _).alloc (Nat.le_refl _) _
      have m5 := (Dg.cell_row (Dg.row_new w4 #[.slice (some ⟨b1, off1, none⟩) its.length icap] 27) 0).trans rfl
      have HB5 : Hid (Below w.heap.size w (w4.alloc (.cells #[.slice (some ⟨b1, off1, none⟩) its.length icap] 27))) := HB4.out.trans (hbA.mono HB4.out.size)
      have hr5 := hr4.later hbA
      have hFI := plan_fairI hP HFt.out HXl.out
      have MK : Hid _ := KidsP_any its (.slice (some ⟨b1, off1, none⟩) its.length icap) inn alt _ hr5 hFI (HT.out.later HB5.out)
      have hkI : kidsI its inn alt = KL := by rw [hKL]; unfold kidsI; rw [hsg]; rfl
      rw [hkI] at MK
      rw [HIL.out] at MK m5 HB5 hr5 hLF ⊢
      have HLF : Hid (LeanF its il KL R ovf W' r) := hLF
      have HOv : Hid (∀ (wx : World), RdIt wx (.slice (some ⟨b1, off1, none⟩) il icap) its → Dg.Tab wx → ∀ j : Nat, Calls Tryd.prog 20 #[.agg #[.slice (some ⟨b1, off1, none⟩) il icap], .int .i64 (j : Int)] wx fun e w' => ∃ s c, e = .returned (.slice s (ovf j).length c) ∧ Dg.RdI w' (.slice s (ovf j).length c) (ovf j) ∧ Below wx.heap.size wx w') := by
        show ∀ wx, _
        intro wx hrd hTx j
        have h := OverP_any its (.slice (some ⟨b1, off1, none⟩) il icap) (j : Int) wx hrd hFI hTx
        have e1 : overI its (j : Int) = ovf j := by rw [hov]; unfold overI; rw [hsg]; rfl
        rw [e1] at h
        refine Calls.mono h ?_
        rintro e w' ⟨hb, u, rfl, hu⟩
        have hi := RdI.of_z hu
        obtain ⟨a, c, rfl, _⟩ := id hi
        exact ⟨a, c, rfl, hi, hb⟩
      have HIn : Hid (∀ (wx : World) (l : List Nat) (v : Value) (y : Nat), Dg.RdI wx v l → l.length ≤ 1000 → Calls Tryd.prog 21 #[v, .int .i64 (y : Int)] wx fun e w' => e = .returned (.bool (decide (y ∈ l))) ∧ wx = w') := fun wx l v y h1 h2 => Calls.mono (Dg.In_any l v y wx h1 (by omega)) (fun e w' h => ⟨h.1, h.2.symm⟩)
      have hfew := hLF.few
      clear hP hs4 hr4 hsg hbA hLF hKL hkI hoe hov hFI
      obtain ⟨W0, HW0⟩ : ∃ W0, W0 = w4.alloc (.cells #[.slice (some ⟨b1, off1, none⟩) il icap] 27) := ⟨_, rfl⟩
      obtain ⟨B, HBe⟩ : ∃ B, B = w4.heap.size := ⟨_, rfl⟩
      rw [← HW0] at MK m5 hr5 HB5
      rw [← HBe] at m5
      have HR5 : Hid (RdIt W0 (.slice (some ⟨b1, off1, none⟩) il icap) its) := hr5
      have HM5 : Hid _ := m5
      clear hr5
      go_wp2_with fail
      rw [← HW0]
      rw [← HBe]
      clear HW0 HBe
      refine Calls.mono MK.out ?_
      rintro e wk ⟨hbk, uk, rfl, huk⟩
      have hik := RdI.of_z huk
      obtain ⟨sk, ck, rfl, _⟩ := id hik
      have HKi : Hid (Dg.RdI wk (.slice sk KL.length ck) KL) := hik
      have HBk : Hid (Below W0.heap.size W0 wk) := hbk
      have gk := Dg.cell_later hbk m5
      have HGk : Hid _ := gk
      clear MK huk hik hbk m5
      go_wp2_with fail
      obtain ⟨kl, HKl⟩ : ∃ kl, Hid (KL.length = kl) := ⟨_, rfl⟩
      rw [HKl.out] at hfew HKi ⊢
      obtain ⟨i0, hi0, hz0, hz1, hz2⟩ := info_parts Dg.Tryd.info50
      have HO0 : Hid (wk.ownsRow wk.heap.size 50 2 (.slice none 0 0) (arcK its KL 0).length (Dg.avs (arcK its KL 0))) := World.ownsRow_nil _ _ _ _
      have HAf : Hid (∀ v, v < il → ∃ av am ac, W0.cell? ⟨b1, off1 + v * 8 + 7, none⟩ = some (.slice av am ac) ∧ RdZ W0 (.slice av am ac) (aftI its v)) := by
        show ∀ v, _
        intro v hv
        obtain ⟨z, hz⟩ : ∃ z, its[v]? = some z := ⟨_, List.getElem?_eq_getElem (by rw [HIL.out]; exact hv)⟩
        obtain ⟨ra, rc, he, _, hrr⟩ := HR5.out
        obtain ⟨hra, _, _⟩ := Value.slice.inj he
        obtain ⟨b', off', av, am, ac, hb', _, _, _, _, _, _, _, k7, hz7⟩ := hrr v z hz
        rw [← hra] at hb'
        cases hb'
        refine ⟨av, am, ac, k7, ?_⟩
        have : aftI its v = z.after := by unfold aftI; rw [hz]
        rw [this]
        exact hz7
      have HKc : Hid (∀ i, i < kl → ∃ b off, sk = some ⟨b, off, none⟩ ∧ wk.cell? ⟨b, off + i, none⟩ = some (.int .i64 ((KL.getD i 0 : Nat) : Int)) ∧ KL.getD i 0 < il) := by
        show ∀ i, _
        intro i hi
        obtain ⟨ra, rc, he, _, hrr⟩ := HKi.out
        obtain ⟨hra, _, _⟩ := Value.slice.inj he
        have hg : KL[i]? = some (KL.getD i 0) := by rw [List.getD_eq_getElem?_getD, List.getElem?_eq_getElem (by rw [HKl.out]; exact hi)]; rfl
        obtain ⟨b, off, hb, hc⟩ := hrr i _ hg
        exact ⟨b, off, by rw [hra]; exact hb, hc, HLF.out.lt i (by rw [HKl.out]; exact hi)⟩
      go_loopw [10, 11] (fun lv iv wr => ∃ (i : Nat), i ≤ kl ∧ iv = .int .i64 i ∧ Hid (wr.ownsRow wk.heap.size 50 2 lv (arcK its KL i).length (Dg.avs (arcK its KL i))) ∧ Hid (Below wk.heap.size wk wr)) (fun _ iv _ => kl - (intOf iv).toNat)
      case atStart => exact ⟨0, Nat.zero_le _, rfl, HO0, Below.refl _ _⟩
      case round =>
        obtain ⟨i, hi, rfl, HO, HB⟩ := hrel
        rename World => wr
        clear HO0
        by_cases hlt : i < kl
        · obtain ⟨b2, off2, rfl, hck, hvl⟩ := HKc.out i hlt
          have dk := Dg.cell_later HB.out hck
          have gb := Dg.cell_later HB.out HGk.out
          obtain ⟨av, am, ac, ha7, hzA⟩ := HAf.out (KL.getD i 0) hvl
          have h7 := Dg.cell_later HB.out (Dg.cell_later HBk.out ha7)
          have hzA2 := hzA.later HBk.out
          obtain ⟨A, HA⟩ : ∃ A, Hid (A = aftI its (KL.getD i 0)) := ⟨_, rfl⟩
          rw [← HA.out] at hzA2
          obtain ⟨za, zc, hze, hzc, hzr⟩ := hzA2
          obtain ⟨hz1', hz2', hz3'⟩ := Value.slice.inj hze
          obtain ⟨m, HM⟩ : ∃ m, Hid (A.length = m) := ⟨_, rfl⟩
          rw [HM.out] at hz2' hzc
          subst hz1' hz2' hz3'
          have HZr : Hid (∀ k, k < am → ∃ b off, av = some ⟨b, off, none⟩ ∧ wk.cell? ⟨b, off + k, none⟩ = some (.int .i64 (A.getD k 0))) := by
            show ∀ k, _
            intro k hk
            have hg : A[k]? = some (A.getD k 0) := by rw [List.getD_eq_getElem?_getD, List.getElem?_eq_getElem (by rw [HM.out]; exact hk)]; rfl
            exact hzr k _ hg
          have ham : am ≤ 16 := by
            have h9 := HLF.out.af (KL.getD i 0)
            rw [← HA.out, HM.out] at h9
            exact h9
          have HAK : Hid (arcK its KL (i + 1) = arcK its KL i ++ arcA KL i A am) := by
            show _ = _
            rw [arcK, ← HA.out, HM.out]
          have HLen : Hid (∀ n, n ≤ kl → (arcK its KL n).length ≤ 1100) := fun n hn => HLF.out.len n (by rw [HKl.out]; exact hn)
          obtain ⟨v, HV⟩ : ∃ v, Hid (v = KL.getD i 0) := ⟨_, rfl⟩
          rw [← HV.out] at dk hvl h7
          have hd1 : decide ((v : Int) < 0) = false := decide_eq_false (by omega)
          have hd3 : decide ((il : Int) ≤ (v : Int)) = false := decide_eq_false (by omega)
          have hd4 : decide (il ≤ v) = false := decide_eq_false (by omega)
          have HS1 : Hid (wr.drew.cell? ⟨b2, off2 + i, none⟩ = some (.int .i64 (v : Int)) ∧ wr.drew.cell? ⟨B, 0, none⟩ = some (.slice (some ⟨b1, off1, none⟩) il icap)) := ⟨dk, gb⟩
          clear hck ha7 hzA hze hzr
          go_wp2_with fail
          go_region_held (fun w' => w'.cell? ⟨b2, off2 + i, none⟩ = some (.int .i64 (v : Int)) ∧ w'.cell? ⟨B, 0, none⟩ = some (.slice (some ⟨b1, off1, none⟩) il icap)) (first | assumption | exact HS1.out) (fail)
          all_goals
            have HS2 : Hid (wr.drew.cell? ⟨b2, off2 + i, none⟩ = some (.int .i64 (v : Int)) ∧ wr.drew.cell? ⟨B, 0, none⟩ = some (.slice (some ⟨b1, off1, none⟩) il icap) ∧ wr.drew.cell? ⟨b1, off1 + v * 8 + 7, none⟩ = some (.slice av am ac)) := ⟨dk, gb, h7⟩
            go_wp2_with fail
            go_region_held (fun w' => w'.cell? ⟨b2, off2 + i, none⟩ = some (.int .i64 (v : Int)) ∧ w'.cell? ⟨B, 0, none⟩ = some (.slice (some ⟨b1, off1, none⟩) il icap) ∧ w'.cell? ⟨b1, off1 + v * 8 + 7, none⟩ = some (.slice av am ac)) (first | assumption | exact HS2.out) (fail)
            all_goals
              have HO1 : Hid (wr.ownsRow wk.heap.size 50 2 u10 (arcK its KL i ++ arcA KL i A 0).length (Dg.avs (arcK its KL i ++ arcA KL i A 0))) := by
                show World.ownsRow _ _ _ _ _ _ _
                have h9 : arcA KL i A 0 = [] := rfl
                rw [h9, List.append_nil]
                exact HO.out
              have HBd : Hid (Below wk.heap.size wk wr.drew.drew) := HB.out.drew.drew
              clear HS1 HS2 HO HB dk gb h7 hd1 hd3 hd4
              go_wp2_with fail
              go_loopw [10, 13] (fun lv kv wx => ∃ (k : Nat), k ≤ am ∧ kv = .int .i64 k ∧ Hid (wx.ownsRow wk.heap.size 50 2 lv (arcK its KL i ++ arcA KL i A k).length (Dg.avs (arcK its KL i ++ arcA KL i A k))) ∧ Hid (Below wk.heap.size wk wx)) (fun _ kv _ => am - (intOf kv).toNat)
              case atStart => exact ⟨0, Nat.zero_le _, rfl, HO1.out.drew.drew, HBd⟩
              case round =>
                obtain ⟨k, hk, rfl, HOx, HBx⟩ := hrel
                rename World => wx
                clear HO1 HBd
                by_cases hkl : k < am
                · obtain ⟨b3, off3, rfl, hcl⟩ := HZr.out k hkl
                  obtain ⟨on, HOn⟩ : ∃ on, Hid (on = A.getD k 0) := ⟨_, rfl⟩
                  rw [← HOn.out] at hcl
                  have HCl : Hid (wk.cell? ⟨b3, off3 + k, none⟩ = some (.int .i64 on)) := hcl
                  have HPs : Hid (arcK its KL i ++ arcA KL i A (k + 1) = (arcK its KL i ++ arcA KL i A k) ++ arcJ KL i on kl) := by
                    show _ = _
                    rw [arcA, ← HOn.out, HKl.out, List.append_assoc]
                  have HPl : Hid (∀ j, j ≤ kl → ((arcK its KL i ++ arcA KL i A k) ++ arcJ KL i on j).length ≤ 1100) := by
                    show ∀ j, _
                    intro j hj
                    have h1 := HLen.out (i + 1) (by omega)
                    rw [HAK.out, List.length_append] at h1
                    have h2 := arcA_mono KL i A (n := k + 1) (m := am) (by omega)
                    have h3 : (arcA KL i A (k + 1)).length = (arcA KL i A k).length + (arcJ KL i on kl).length := by rw [arcA, ← HOn.out, HKl.out, List.length_append]
                    have h4 := arcJ_mono KL i on hj
                    rw [List.length_append, List.length_append]
                    omega
                  obtain ⟨Pk, HPk⟩ : ∃ Pk, Hid (Pk = arcK its KL i ++ arcA KL i A k) := ⟨_, rfl⟩
                  rw [← HPk.out] at HPs HPl HOx
                  have HO2 : Hid (wx.ownsRow wk.heap.size 50 2 u10 (Pk ++ arcJ KL i on 0).length (Dg.avs (Pk ++ arcJ KL i on 0))) := by
                    show World.ownsRow _ _ _ _ _ _ _
                    have h9 : arcJ KL i on 0 = [] := rfl
                    rw [h9, List.append_nil]
                    exact HOx.out
                  clear HPk HOx hcl
                  go_wp2_with fail
                  go_loopw [10, 14] (fun lv jv wy => ∃ (j : Nat), j ≤ kl ∧ jv = .int .i64 j ∧ Hid (wy.ownsRow wk.heap.size 50 2 lv (Pk ++ arcJ KL i on j).length (Dg.avs (Pk ++ arcJ KL i on j))) ∧ Hid (Below wk.heap.size wk wy)) (fun _ jv _ => kl - (intOf jv).toNat)
                  case atStart => exact ⟨0, Nat.zero_le _, rfl, HO2, HBx⟩
                  case round =>
                    obtain ⟨j, hj, rfl, HOy, HBy⟩ := hrel
                    rename World => wy
                    clear HO2 HBx
                    by_cases hjl : j < kl
                    · obtain ⟨b4, off4, he4, hcj, _⟩ := HKc.out j hjl
                      cases he4
                      have dj := Dg.cell_later HBy.out hcj
                      have dl := Dg.cell_later HBy.out HCl.out
                      have hLn := HPl.out j (by omega)
                      obtain ⟨xj, HXj⟩ : ∃ xj, Hid (xj = KL.getD j 0) := ⟨_, rfl⟩
                      rw [← HXj.out] at dj
                      have HS3 : Hid (wy.drew.cell? ⟨b2, off2 + j, none⟩ = some (.int .i64 (xj : Int)) ∧ wy.drew.cell? ⟨b3, off3 + k, none⟩ = some (.int .i64 on)) := ⟨dj, dl⟩
                      have ho := HOy.out.drew
                      have HBe : Hid (Below wk.heap.size wk wy.drew) := HBy.out.drew
                      have hz3 := HBe.out.size
                      clear hcj HOy HBy
                      by_cases hq : (xj : Int) = on
                      · have HRn : Hid (Pk ++ arcJ KL i on (j + 1) = (Pk ++ arcJ KL i on j) ++ [((j : Int), (i : Int))]) := by
                          show _ = _
                          rw [arcJ, if_pos (by rw [← HXj.out]; exact hq), List.append_assoc]
                        obtain ⟨Aj, HAj⟩ : ∃ Aj, Hid (Pk ++ arcJ KL i on j = Aj) := ⟨_, rfl⟩
                        rw [HAj.out] at ho hLn HRn
                        have hde : decide ((xj : Int) = on) = true := decide_eq_true hq
                        go_wp2_with fail
                        go_region_held (fun w' => w'.cell? ⟨b2, off2 + j, none⟩ = some (.int .i64 (xj : Int)) ∧ w'.cell? ⟨b3, off3 + k, none⟩ = some (.int .i64 on)) (first | assumption | exact HS3.out) (fail)
                        all_goals
                          clear dj dl HS3
                          rename_i hHe
                          clear hHe
                          generalize wy.drew = wd at *
                          go_wp2_with (at_builtin; refine wpList_append_own_at _ rfl _ _ 48 rfl wk.heap.size 50 i0 _ 2 16 Tryd.underlying48 hi0 hz0 hz1 hz2 rfl (by decide) _ Aj.length (Dg.avs Aj) rfl (ho.alloc _) ⟨wd.heap.size, 0, none⟩ 1 1 [.int .i64 (j : Int), .int .i64 (i : Int)] rfl rfl (Dg.new_cells wd [.int .i64 (j : Int), .int .i64 (i : Int)] 50) (by simp [Value.oneCell']) (by unfold maxLen; omega) (by omega) (by simp; omega) ?_; intro v7 w7 ho7 hg7 _ hat7; obtain ⟨g7, cap7, rfl⟩ := Dg.ownsRow_succ' ho7)
                          have HB7 : Hid (Below wk.heap.size wk w7) := Below.grown (HBe.out.alloc hz3 _) hg7 (by simp; omega) (fun k hk => (ho.lt _ hk).1)
                          have HO7 : Hid (w7.ownsRow wk.heap.size 50 2 (.slice (some ⟨g7, 0, none⟩) (Aj.length + 1) cap7) (Pk ++ arcJ KL i on (j + 1)).length (Dg.avs (Pk ++ arcJ KL i on (j + 1)))) := by
                            show World.ownsRow _ _ _ _ _ _ _
                            rw [HRn.out, Dg.avs_append, Dg.avs_one, List.length_append]
                            exact ho7
                          clear ho hg7 hat7 ho7 HBe
                          go_wp2_with fail
                          go_roundw
                          case rel => exact ⟨j + 1, by omega, by go_num, HO7, HB7⟩
                          case measure => simp [intOf]; omega
                      · have hde : decide ((xj : Int) = on) = false := decide_eq_false hq
                        have HO7 : Hid (wy.drew.ownsRow wk.heap.size 50 2 u10 (Pk ++ arcJ KL i on (j + 1)).length (Dg.avs (Pk ++ arcJ KL i on (j + 1)))) := by
                          show World.ownsRow _ _ _ _ _ _ _
                          rw [arcJ, if_neg (by rw [← HXj.out]; exact hq), List.append_nil]
                          exact ho
                        clear ho
                        go_wp2_with fail
                        go_region_held (fun w' => w'.cell? ⟨b2, off2 + j, none⟩ = some (.int .i64 (xj : Int)) ∧ w'.cell? ⟨b3, off3 + k, none⟩ = some (.int .i64 on)) (first | assumption | exact HS3.out) (fail)
                        all_goals
                          clear dj dl HS3
                          go_wp2_with fail
                          go_roundw
                          case rel => exact ⟨j + 1, by omega, by go_num, HO7, HBe⟩
                          case measure => simp [intOf]; omega
                    · have hje : j = kl := by omega
                      subst hje
                      have HO9 : Hid (wy.ownsRow wk.heap.size 50 2 u10 (arcK its KL i ++ arcA KL i A (k + 1)).length (Dg.avs (arcK its KL i ++ arcA KL i A (k + 1)))) := by
                        show World.ownsRow _ _ _ _ _ _ _
                        rw [HPs.out]
                        exact HOy.out
                      go_wp2_with fail
                      go_roundw
                      case rel => exact ⟨k + 1, by omega, by go_num, HO9, HBy⟩
                      case measure => simp [intOf]; omega
                · have hke : k = am := by omega
                  subst hke
                  have HO9 : Hid (wx.ownsRow wk.heap.size 50 2 u10 (arcK its KL (i + 1)).length (Dg.avs (arcK its KL (i + 1)))) := by
                    show World.ownsRow _ _ _ _ _ _ _
                    rw [HAK.out]
                    exact HOx.out
                  go_wp2_with fail
                  go_roundw
                  case rel => exact ⟨i + 1, by omega, by go_num, HO9, HBx⟩
                  case measure => simp [intOf]; omega
        · have hie : kl = i := by omega
          subst hie
          have HOr : Hid (wr.ownsRow wk.heap.size 50 2 u10 (arcK its KL KL.length).length (Dg.avs (arcK its KL KL.length))) := by
            show World.ownsRow _ _ _ _ _ _ _
            rw [HKl.out]
            exact HO.out
          have hrA := Dg.RdA.of_own HOr.out (small_arcs its KL HLF.out.few)
          have HBr : Hid (Below w.heap.size w wr) := (HB5.out.trans (HBk.out.mono HB5.out.size)).trans (HB.out.mono (Nat.le_trans HB5.out.size HBk.out.size))
          have hRe := Dg.Reach_any (KL.length : Int) u10 (arcK its KL KL.length) wr hrA (HT.out.later HBr.out)
          unfold Dg.ReachC at hRe
          rw [HLF.out.wv] at hRe
          simp only [] at hRe
          rw [← HLF.out.rl, Int.toNat_natCast, HKl.out] at hRe
          have HRe : Hid _ := hRe
          clear hRe hrA HO
          go_wp2_with fail
          refine Calls.mono HRe.out ?_
          rintro e wq ⟨hbq, vq, rfl, hLq, hlq⟩
          obtain ⟨sq, cq, rfl, _⟩ := id hLq
          rw [hlq]
          rw [hlq] at hLq
          have HKq : Hid (∀ i, i < kl → ∃ b off, sk = some ⟨b, off, none⟩ ∧ wq.cell? ⟨b, off + i, none⟩ = some (.int .i64 ((KL.getD i 0 : Nat) : Int))) := by
            show ∀ i, _
            intro i hi
            obtain ⟨b, off, h1, h2, _⟩ := HKc.out i hi
            exact ⟨b, off, h1, Dg.cell_later hbq (Dg.cell_later HB.out h2)⟩
          have HGq : Hid (wq.cell? ⟨B, 0, none⟩ = some (.slice (some ⟨b1, off1, none⟩) il icap)) := Dg.cell_later hbq (Dg.cell_later HB.out HGk.out)
          have HRq : Hid (RdIt wq (.slice (some ⟨b1, off1, none⟩) il icap) its) := ((HR5.out.later HBk.out).later HB.out).later hbq
          have HBw : Hid (Below w.heap.size w wq) := HBr.out.trans (hbq.mono HBr.out.size)
          have HTq : Hid (Dg.Tab wq) := HT.out.later HBw.out
          have HRc : Hid (∀ k, k < kl → ∃ b off u, sq = some ⟨b, off, none⟩ ∧ wq.cell? ⟨b, off + k, none⟩ = some u ∧ Dg.RdI wq u (R.getD k [])) := by
            show ∀ k, _
            intro k hk
            obtain ⟨ra, rc, he, _, hrr⟩ := hLq
            obtain ⟨hra, _, _⟩ := Value.slice.inj he
            have hg : R[k]? = some (R.getD k []) := by rw [List.getD_eq_getElem?_getD, List.getElem?_eq_getElem (by rw [hlq]; exact hk)]; rfl
            obtain ⟨b, off, u, h1, h2, h3⟩ := hrr k _ hg
            exact ⟨b, off, u, by rw [hra]; exact h1, h2, h3⟩
          clear hbq hLq hlq HRe HOr HAf HKc HB HBk HR5 HM5 HGk
          go_wp2_with fail
          go_loopw [17] (fun iv wx => ∃ (i : Nat), i ≤ kl ∧ iv = .int .i64 i ∧ Hid (Below wq.heap.size wq wx)) (fun iv _ => kl - (intOf iv).toNat)
          case atStart => exact ⟨0, Nat.zero_le _, rfl, Below.refl _ _⟩
          case round =>
            obtain ⟨i, hi, rfl, HBx⟩ := hrel
            rename World => wx
            by_cases hlt : i < kl
            · obtain ⟨b2, off2, rfl, hck⟩ := HKq.out i hlt
              have dk := Dg.cell_later HBx.out hck
              have gb := Dg.cell_later HBx.out HGq.out
              obtain ⟨v, HV⟩ : ∃ v, Hid (v = KL.getD i 0) := ⟨_, rfl⟩
              rw [← HV.out] at dk
              obtain ⟨cn, hc0, hcl, hcy, hcz, hce⟩ := cnt_step R i kl
              have HCy : Hid (∀ k, i ∈ R.getD k [] → cn (k + 1) = cn k + 1) := hcy
              have HCz : Hid (∀ k, i ∉ R.getD k [] → cn (k + 1) = cn k) := hcz
              have HC0 : Hid (cn 0 = 0) := hc0
              have HCl : Hid (∀ k, cn k ≤ k) := hcl
              have HCe : Hid (cn kl = (ovf v).length) := by
                show _ = _
                have h9 := HLF.out.cnt i (by rw [HKl.out]; exact hlt)
                rw [HKl.out] at h9
                rw [hce, h9, HV.out]
              have HOvr : Hid (∀ k, k < kl → i ∈ R.getD k [] → KL.getD k 0 ∈ ovf v) := by
                show ∀ k, _
                intro k hk hm
                have h9 := HLF.out.over i k (by rw [HKl.out]; exact hlt) (by rw [HKl.out]; exact hk) hm
                rw [HV.out]
                exact h9
              have hlo := HLF.out.lo v
              have HS4 : Hid (Below wq.heap.size wq wx.drew ∧ wx.drew.cell? ⟨b2, off2 + i, none⟩ = some (.int .i64 (v : Int)) ∧ wx.drew.cell? ⟨B, 0, none⟩ = some (.slice (some ⟨b1, off1, none⟩) il icap)) := ⟨HBx.out.drew, dk, gb⟩
              have H20 : Hid (∀ wy : World, (Below wq.heap.size wq wy ∧ wy.cell? ⟨b2, off2 + i, none⟩ = some (.int .i64 (v : Int)) ∧ wy.cell? ⟨B, 0, none⟩ = some (.slice (some ⟨b1, off1, none⟩) il icap)) → Calls Tryd.prog 20 #[.agg #[.slice (some ⟨b1, off1, none⟩) il icap], .int .i64 (v : Int)] wy fun e w' => ∃ s c, e = .returned (.slice s (ovf v).length c) ∧ Dg.RdI w' (.slice s (ovf v).length c) (ovf v) ∧ (Below wq.heap.size wq w' ∧ w'.cell? ⟨b2, off2 + i, none⟩ = some (.int .i64 (v : Int)) ∧ w'.cell? ⟨B, 0, none⟩ = some (.slice (some ⟨b1, off1, none⟩) il icap))) := by
                show ∀ wy : World, _
                rintro wy ⟨h1, h2, h3⟩
                refine Calls.mono (HOv.out wy (HRq.out.later h1) (HTq.out.later h1) v) ?_
                rintro e w' ⟨s, c, h4, h5, h6⟩
                exact ⟨s, c, h4, h5, h1.trans (h6.mono h1.size), Dg.cell_later h6 h2, Dg.cell_later h6 h3⟩
              clear hck hc0 hcl hcy hcz hce
              go_wp2_with fail
              go_region_held (fun w' => (Below wq.heap.size wq w' ∧ w'.cell? ⟨b2, off2 + i, none⟩ = some (.int .i64 (v : Int)) ∧ w'.cell? ⟨B, 0, none⟩ = some (.slice (some ⟨b1, off1, none⟩) il icap))) (first | assumption | exact HS4.out) (first | (go_at_call 20; refine Calls.mono (H20.out _ (by assumption)) ?_; rintro e w20 ⟨s20, c20, rfl, hi20, hS20⟩))
              all_goals
                have HB20 : Hid (Below wq.heap.size wq w20) := hS20.1
                have HI20 : Hid (Dg.RdI w20 (.slice s20 (ovf v).length c20) (ovf v)) := hi20
                obtain ⟨O, HOe⟩ : ∃ O, Hid (O = ovf v) := ⟨_, rfl⟩
                rw [← HOe.out] at HI20 HCe HOvr hlo ⊢
                clear hi20 hS20 HS4 H20 dk gb HOe
                go_wp2_with fail
                go_loopw [19, 20] (fun nv kv wy => ∃ (k : Nat), k ≤ kl ∧ kv = .int .i64 k ∧ nv = .int .i64 ((cn k : Nat) : Int) ∧ Hid (Below w20.heap.size w20 wy)) (fun _ kv _ => kl - (intOf kv).toNat)
                case atStart => exact ⟨0, Nat.zero_le _, rfl, by rw [HC0.out]; rfl, Below.refl _ _⟩
                case round =>
                  obtain ⟨k, hk, rfl, rfl, HBy⟩ := hrel
                  rename World => wy
                  have HBqy : Hid (Below wq.heap.size wq wy) := HB20.out.trans (HBy.out.mono HB20.out.size)
                  by_cases hkl : k < kl
                  · obtain ⟨b3, off3, uk, rfl, hcu, hiu⟩ := HRc.out k hkl
                    have du := Dg.cell_later HBqy.out hcu
                    have hiy := hiu.later HBqy.out
                    have hlr := HLF.out.rb k
                    have hci := HCl.out k
                    obtain ⟨Rk, HRk⟩ : ∃ Rk, Hid (Rk = R.getD k []) := ⟨_, rfl⟩
                    rw [← HRk.out] at hiy hlr
                    obtain ⟨ua, uc, rfl, _⟩ := id hiy
                    clear hcu hiu
                    go_wp2_with fail
                    refine Calls.mono (HIn.out _ _ _ _ hiy hlr) ?_
                    rintro e w21 ⟨rfl, rfl⟩
                    clear du hiy
                    by_cases hin : i ∈ Rk
                    · have hdi : decide (i ∈ Rk) = true := decide_eq_true hin
                      have HCs : Hid (cn (k + 1) = cn k + 1) := HCy.out k (by rw [← HRk.out]; exact hin)
                      obtain ⟨b4, off4, he4, hck4⟩ := HKq.out k hkl
                      cases he4
                      have d4 := Dg.cell_later HBqy.out hck4
                      have hmo := HOvr.out k hkl (by rw [← HRk.out]; exact hin)
                      obtain ⟨xk, HXk⟩ : ∃ xk, Hid (xk = KL.getD k 0) := ⟨_, rfl⟩
                      rw [← HXk.out] at d4 hmo
                      have hdo : decide (xk ∈ O) = true := decide_eq_true hmo
                      have hoy := HI20.out.later HBy.out
                      clear hck4
                      go_wp2_with fail
                      refine Calls.mono (HIn.out _ _ _ _ hoy hlo) ?_
                      rintro e w22 ⟨rfl, rfl⟩
                      go_wp2_with fail
                      go_roundw
                      case rel => exact ⟨k + 1, by omega, by go_num, by rw [HCs.out]; rfl, HBy⟩
                      case measure => simp [intOf]; omega
                    · have hdi : decide (i ∈ Rk) = false := decide_eq_false hin
                      have HCs : Hid (cn (k + 1) = cn k) := HCz.out k (by rw [← HRk.out]; exact hin)
                      go_wp2_with fail
                      go_roundw
                      case rel => exact ⟨k + 1, by omega, by go_num, by rw [HCs.out], HBy⟩
                      case measure => simp [intOf]; omega
                  · have hke : kl = k := by omega
                    subst hke
                    rw [HCe.out]
                    go_wp2_with fail
                    go_roundw
                    case rel => exact ⟨i + 1, by omega, by go_num, HBqy⟩
                    case measure => simp [intOf]; omega
            · go_wp2_with fail
              refine Calls.mono (HLv.out _ (HTq.out.later HBx.out)) ?_
              rintro e w9 ⟨rfl, hb9⟩
              have HB8 : Hid (Below w.heap.size w wx) := HBw.out.trans (HBx.out.mono HBw.out.size)
              have HB9 : Hid (Below w.heap.size w w9) := HB8.out.trans (hb9.mono HB8.out.size)
              clear hb9
              go_wp2_with fail
              go_ret
              exact ⟨rfl, HB9.out⟩
end Go.Proofs.YtephkdocfhajiaaDoor

