/- The walk over Text. -/
import Derived.Test.YtcnodkkdhkkicaaDoorEe
import Derived.Test.YtcnodkkdhkkicaaDoorEg
import Derived.Deep.RegionHeldLaw
namespace Go.Proofs.YtcnodkkdhkkicaaDoor
open Go.RowKit
set_option linter.unusedVariables false

theorem Tab.up {B B' : Nat} {w : World} (h : Tab B w) (hB : B ≤ B') : Tab B' w := fun w' hb => h w' (hb.mono hB)
theorem Tab.later {B : Nat} {w w' : World} (h : Tab B w) (hb : Below B w w') : Tab B w' := fun w2 h2 => h w2 (hb.trans h2)

theorem head_any (k i t : Int) (h : okH k i t = true) (H : List UInt8) (hH : H = headT k i t) (w : World) :
    Calls Tryd.prog 28 #[sortV k, .int .i64 i, .int .i64 t] w fun e w' => e = .returned (.string ⟨H.toArray⟩) ∧ Below w.heap.size w w' := by
  subst hH
  exact headText_any k i t w h

set_option maxRecDepth 1000000 in
set_option maxHeartbeats 4000000 in
theorem text_ev (e : Ev) (sv : Value) (w : World) (hv : RI w sv e.s) (hn : e.s.length ≤ 1000000) (htab : Tab w.heap.size w) :
    Calls Tryd.prog 12 #[EvV e sv] w fun x w' => x = .returned (.string ⟨(textE e).toArray⟩) ∧ Below w.heap.size w w' := by
  have HX : Hid (Below w.heap.size w (w.alloc (.cells #[.int .i64 e.k, .int .i64 e.i, .int .i64 e.t, sv] 25))) := (Below.refl _ _).alloc (Nat.le_refl _) _
  have HC : Hid (∀ c : Int, ((evE e : Nat) : Int) = c → ∀ wx : World, Below w.heap.size w wx → Calls Tryd.prog 10 #[.agg #[.int .i64 e.k, .int .i64 e.i, .int .i64 e.t, sv]] wx fun x w' => x = .returned (.int .i64 c) ∧ Below wx.heap.size wx w') := by
    show ∀ c, _
    rintro c rfl wx hb
    exact check_ev e sv wx (hv.later hb) hn
  have HBX : Hid (Box (w.alloc (.cells #[.int .i64 e.k, .int .i64 e.i, .int .i64 e.t, sv] 25)) w.heap.size e.k e.i e.t sv) := Box.new w e.k e.i e.t sv
  by_cases ho : okE e = true
  · have HT : Hid (textE e = headT e.k e.i e.t ++ stampT e.s) := by show _ = _; unfold textE; rw [if_pos ho]; rfl
    replace HC : Hid _ := HC.out 0 (by unfold evE; rw [if_pos ho]; rfl)
    have hoh : okH e.k e.i e.t = true := by unfold okE at ho; rw [Bool.and_eq_true] at ho; exact ho.1
    have HS : Hid _ := sortOf_any e.k
    have HH : Hid _ := head_any e.k e.i e.t hoh _ rfl
    have hhd := okE_head ho
    have hhl : (headT e.k e.i e.t).length ≤ 50 := head_len hhd.2.2.2.1 hhd.2.2.2.2.2.1
    have hst := okE_stamp ho
    have HV : Hid (RI w sv e.s) := hv
    have HTab : Hid (Tab w.heap.size w) := htab
    obtain ⟨sa, sc, rfl, hs1, hs2, hrr⟩ := hv
    clear hrr hn ho hoh hhd htab
    unfold EvV
    generalize headT e.k e.i e.t = H at *
    generalize sortV e.k = sk at *
    generalize textE e = T at *
    generalize e.k = k at *
    generalize e.i = i at *
    generalize e.t = t at *
    generalize e.s = s at *
    go_enter Tryd.func12, Tryd.ntmps12
    go_wp2_with fail
    refine Calls.mono (HC.out _ HX.out) ?_
    rintro e w1 ⟨rfl, hb1⟩
    have HBX1 : Hid (Box w1 w.heap.size k i t (.slice sa s.length sc)) := HBX.out.later hb1
    have HB1 : Hid (Below w.heap.size w w1) := HX.out.trans (hb1.mono (by simp))
    have d0 := HBX1.out.c0
    have d1 := HBX1.out.c1
    have d2 := HBX1.out.c2
    have d3 := HBX1.out.c3
    clear hb1 HBX HX HC
    go_wp2_with fail
    have HS0 : Hid (Below w.heap.size w w1.drew ∧ w1.drew.cell? ⟨w.heap.size, 0, none⟩ = some (.int .i64 k) ∧ w1.drew.cell? ⟨w.heap.size, 1, none⟩ = some (.int .i64 i) ∧ w1.drew.cell? ⟨w.heap.size, 2, none⟩ = some (.int .i64 t)) := ⟨HB1.out.drew, d0, d1, d2⟩
    have HK : Hid (∀ wx wy : World, (Below w.heap.size w wx ∧ wx.cell? ⟨w.heap.size, 0, none⟩ = some (.int .i64 k) ∧ wx.cell? ⟨w.heap.size, 1, none⟩ = some (.int .i64 i) ∧ wx.cell? ⟨w.heap.size, 2, none⟩ = some (.int .i64 t)) → Below wx.heap.size wx wy → (Below w.heap.size w wy ∧ wy.cell? ⟨w.heap.size, 0, none⟩ = some (.int .i64 k) ∧ wy.cell? ⟨w.heap.size, 1, none⟩ = some (.int .i64 i) ∧ wy.cell? ⟨w.heap.size, 2, none⟩ = some (.int .i64 t))) := fun wx wy hx hb => ⟨hx.1.trans (hb.mono hx.1.size), (hb.cell (p := ⟨w.heap.size, 0, none⟩) (lt_of_cell hx.2.1)).trans hx.2.1, (hb.cell (p := ⟨w.heap.size, 1, none⟩) (lt_of_cell hx.2.2.1)).trans hx.2.2.1, (hb.cell (p := ⟨w.heap.size, 2, none⟩) (lt_of_cell hx.2.2.2)).trans hx.2.2.2⟩
    go_region_held_law (fun w' => Below w.heap.size w w' ∧ w'.cell? ⟨w.heap.size, 0, none⟩ = some (.int .i64 k) ∧ w'.cell? ⟨w.heap.size, 1, none⟩ = some (.int .i64 i) ∧ w'.cell? ⟨w.heap.size, 2, none⟩ = some (.int .i64 t)) (first | assumption | exact HS0.out | exact HK.out _ _ HS0.out hb2 | exact HK.out _ _ (HK.out _ _ HS0.out hb2) hb3) (first
      | (go_simp; go_at_call 26; refine Calls.mono (HS.out _) ?_; rintro e wq ⟨rfl, h2⟩; obtain rfl := h2)
      | (go_simp; go_at_call 28; refine Calls.mono (HH.out _) ?_; rintro e w2 ⟨rfl, hb2⟩; obtain ⟨V3, w3, hcv, hm3, hb3⟩ := bytes_of H w2 (by omega) w.heap.size (HK.out _ _ HS0.out hb2).1.size))
    have HB3 : Hid (Below w.heap.size w w3) := (HK.out _ _ (HK.out _ _ HS0.out hb2) hb3).1
    have HBX3 : Hid (Box w3 w.heap.size k i t (.slice sa s.length sc)) := Box.later (Box.later (w := w1.drew) HBX1.out hb2) hb3
    have HM3 : Hid (MB w.heap.size w3 V3 H) := hm3
    have g3 := HBX3.out.c3
    clear hb2 hb3 hm3 hcv HK HS0 HBX1 HB1 d0 d1 d2 d3 HS HH
    have HR : Hid (∀ wr, Below w.heap.size w wr → ∀ j, j < s.length → ∃ b off, sa = some ⟨b, off, none⟩ ∧ wr.cell? ⟨b, off + j, none⟩ = some (.int .i64 (s.getD j 0))) := fun wr hb j hj => by
      obtain ⟨a', c', he, _, _, hc⟩ := RI.later HV.out hb
      simp only [Value.slice.injEq] at he
      obtain ⟨rfl, _, rfl⟩ := he
      exact hc j hj
    have HZ : Hid (∀ j, j < s.length → 0 ≤ s.getD j 0 ∧ s.getD j 0 ≤ 1099511627776) := fun j hj => by
      have h1 := okS_all hst
      unfold allN at h1
      rw [List.all_eq_true] at h1
      have h2 := h1 s[j] (List.getElem_mem hj)
      rw [show s.getD j 0 = s[j] by simp [hj]]
      exact of_decide_eq_true h2
    have HLen : Hid (∀ j, j ≤ s.length → (H ++ stampT (s.take j)).length ≤ 2000) := fun j hj => by
      have h1 := okS_len hst
      have h2 := stampT_len (s.take j) (fun n hn => by
        obtain ⟨q, hq, rfl⟩ := List.mem_iff_getElem.1 (List.mem_of_mem_take hn)
        have := (HZ.out q hq).2
        rwa [show s.getD q 0 = s[q] by simp [hq]] at this)
      rw [List.length_take] at h2
      rw [List.length_append]
      omega
    have hsl := okS_len hst
    clear hst HV hhl
    go_wp2_with fail
    go_loopw [3, 5, 21] (fun tv _ iv wr => ∃ (j : Nat), j ≤ s.length ∧ iv = .int .i64 j ∧ Hid (MB w.heap.size wr tv (H ++ stampT (s.take j))) ∧ Hid (Below w.heap.size w wr)) (fun _ _ iv _ => s.length - (intOf iv).toNat)
    case atStart => exact ⟨0, Nat.zero_le _, rfl, by show MB _ _ _ _; rw [List.take_zero, stampT_nil, List.append_nil]; exact HM3.out, HB3⟩
    case round =>
      obtain ⟨j, hj, rfl, HM, HB⟩ := hrel
      rename World => wr
      clear HM3 HB3 HBX3 g3
      by_cases hlt : j < s.length
      · obtain ⟨b1, o1, rfl, hc1⟩ := HR.out wr HB.out j hlt
        obtain ⟨z1, z2⟩ := HZ.out j hlt
        have hL := HLen.out j hj
        have HST : Hid (stampT (s.take (j + 1)) = stampT (s.take j) ++ 32 :: dgs (s.getD j 0).toNat) := by
          show _ = _
          rw [List.take_add_one, List.getElem?_eq_getElem hlt, show s.getD j 0 = s[j] by simp [hlt]]
          exact stampT_snoc _ _
        generalize s.getD j 0 = z at *
        obtain ⟨u, rfl⟩ : ∃ u : Nat, z = (u : Int) := ⟨z.toNat, by omega⟩
        rw [Int.toNat_natCast] at HST
        obtain ⟨L, HLL⟩ : ∃ L, Hid (L = H ++ stampT (s.take j)) := ⟨_, rfl⟩
        rw [← HLL.out] at HM hL
        have HNEW : Hid _ := (RB.new wr [32] #[.int .u8 32] 5 rfl (by simp)).cells.2
        have HL1 : Hid (L.length + [(32 : UInt8)].length ≤ 1000000) := by show _ ≤ _; simp; omega
        have HL2 : Hid ((L ++ [32]).length ≤ 100000) := by show _ ≤ _; simp; omega
        have HS1 : Hid (w.heap.size ≤ (wr.alloc (.cells #[.int .u8 32] 5)).heap.size) := by show _ ≤ _; have := HB.out.size; simp; omega
        have HB4 : Hid (Below w.heap.size w (wr.alloc (.cells #[.int .u8 32] 5))) := HB.out.alloc HB.out.size _
        have HM4 : Hid _ := HM.out.later ((Below.refl wr.heap.size wr).alloc (Nat.le_refl _) (.cells #[.int .u8 32] 5))
        go_wp2_with (first
          | (at_builtin; refine app_slice rfl _ _ rfl w.heap.size _ L [32] rfl HM4.out ⟨wr.heap.size, 0, none⟩ 1 1 rfl rfl HNEW.out HL1.out HS1.out ?_; intro v6 w6 hm6 hb6; have HM6 : Hid _ := hm6; have HB6 : Hid (Below w.heap.size w w6) := HB4.out.trans hb6; clear hm6 hb6))
        refine Calls.mono (appendInt_any w.heap.size u (by omega) _ (L ++ [32]) _ HM6.out HL2.out HB6.out.size (HTab.out.later HB6.out)) ?_
        rintro e w7 ⟨v7, rfl, hm7, hb7⟩
        have HM7 : Hid (MB w.heap.size w7 v7 (H ++ stampT (s.take (j + 1)))) := by
          show MB _ _ _ _
          rw [HST.out]
          rw [HLL.out] at hm7
          simpa using hm7
        have HB7 : Hid (Below w.heap.size w w7) := HB6.out.trans hb7
        clear hm7 hb7 HM6 HB6 HM4 HB4 HNEW HL1 HL2 HS1 HST hL
        go_wp2_with fail
        go_roundw
        case rel => exact ⟨j + 1, by omega, by go_num, HM7, HB7⟩
        case measure => simp [intOf]; omega
      · have hjn : j = s.length := by omega
        have HE : Hid (H ++ stampT (s.take j) = T) := by show _ = _; rw [hjn, List.take_length, HT.out]
        rw [HE.out] at HM
        have hcv := string_of_RB HM.out.rb
        clear hjn HE HT
        go_wp2_with fail
        go_ret
        exact ⟨rfl, HB.out⟩
  · replace HC : Hid _ := HC.out 2 (by unfold evE; rw [if_neg ho]; rfl)
    have HT : Hid (textE e = []) := by show _ = _; unfold textE; rw [if_neg ho]
    rw [HT.out]
    obtain ⟨sa, sc, rfl, _, _, hrr⟩ := hv
    clear hrr ho hn htab
    unfold EvV
    go_enter Tryd.func12, Tryd.ntmps12
    go_wp2_with fail
    refine Calls.mono (HC.out _ HX.out) ?_
    rintro e w1 ⟨rfl, hb1⟩
    have HB1 : Hid (Below w.heap.size w w1) := HX.out.trans (hb1.mono (by simp))
    clear hb1 HX
    go_wp2_with fail
    go_ret
    exact ⟨rfl, HB1.out⟩
end Go.Proofs.YtcnodkkdhkkicaaDoor
