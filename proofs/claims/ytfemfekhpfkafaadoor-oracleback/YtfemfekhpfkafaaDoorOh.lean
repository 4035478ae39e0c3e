/- The walk over the document's Make. -/
import Derived.Test.YtfemfekhpfkafaaDoorOg
import Derived.Test.YtfemfekhpfkafaaDoorWg
namespace Go.Proofs.YtfemfekhpfkafaaDoor.Or
open Go.RowKit Go.Proofs.YtfemfekhpfkafaaDoor
set_option maxRecDepth 1000000
set_option linter.unusedVariables false

theorem bvs_u8 (x : Nat) (h : x < 256) : bvs [UInt8.ofNat x] = [.int .u8 (x : Int)] := by
  simp only [bvs, List.map_cons, List.map_nil, u8_nat, List.cons.injEq, and_true]
  congr 1
  omega
theorem tl_succ0 {f : Nat → Nat} {k : Nat} (h : f k = 0) : tl f (k + 1) = tl f k := by
  conv => lhs; unfold tl
  rw [if_pos h]
theorem tl_succ1 {f : Nat → Nat} {k : Nat} (h : f k ≠ 0) : tl f (k + 1) = k + 1 := by
  conv => lhs; unfold tl
  rw [if_neg h]
theorem bt_in {F S : List Int} {k z : Nat} (hz : (S.getD k 0).toNat = z) (h : (k : Int) ∈ F) : bt F S k = z + 4 := by
  unfold bt
  rw [if_pos h, hz]
theorem bt_out {F S : List Int} {k z : Nat} (hz : (S.getD k 0).toNat = z) (h : ¬ (k : Int) ∈ F) : bt F S k = z := by
  unfold bt
  rw [if_neg h, hz, Nat.add_zero]

/-- What the document's Make gives back. -/
def RMakeC (w : World) (F S : List Int) (e : Ending) (w' : World) : Prop :=
  Below w.heap.size w w' ∧ if okM F S = true then e = .returned (.tuple #[.string ⟨(mk F S).toArray⟩, .int .i64 0]) else e = .returned (.tuple #[.string ⟨#[]⟩, .int .i64 2])

set_option maxHeartbeats 2000000 in
theorem rmake_any (F S : List Int) (fv sv : Value) (w : World) (hf : RI w fv F) (hs : RI w sv S) (hfl : F.length ≤ 1000000) (hsl : S.length ≤ 1000000) :
    Calls Tryd.prog 17 #[fv, sv] w (RMakeC w F S) := by
  have HI : Hid (∀ wx i, Below w.heap.size w wx → Calls Tryd.prog 23 #[fv, .int .i64 i] wx fun e w' => e = .returned (.bool (decide (i ∈ F))) ∧ w' = wx) :=
    fun wx i hb => rin_any F fv i wx (hf.later hb) hfl
  obtain ⟨a, cap, rfl, hc, _, hr⟩ := hs
  obtain ⟨fa, fcap, rfl, hfc, _, hfr⟩ := hf
  have HR : Hid _ := hr
  have HFR : Hid _ := hfr
  obtain ⟨n, HN⟩ : ∃ n, Hid (S.length = n) := ⟨_, rfl⟩
  obtain ⟨m, HM⟩ : ∃ n, Hid (F.length = n) := ⟨_, rfl⟩
  rw [HN.out] at hsl hc ⊢
  rw [HM.out] at hfl hfc HI ⊢
  clear hr hfr
  have HBad : Hid (∀ w', okM F S = false → Below w.heap.size w w' → RMakeC w F S (.returned (.tuple #[.string ⟨#[]⟩, .int .i64 2])) w') :=
    fun w' h hb => ⟨hb, by rw [if_neg (by rw [h]; exact Bool.noConfusion)]⟩
  by_cases h64 : n ≤ 64
  · go_enter Tryd.func17, Tryd.ntmps17
    go_wp2_with fail
    go_loopw [6] (fun iv wr => ∃ (k : Nat), k ≤ n ∧ iv = .int .i64 k ∧ Hid (∀ j, j < k → 0 ≤ S.getD j 0 ∧ S.getD j 0 ≤ 3) ∧ Hid (Below w.heap.size w wr)) (fun iv _ => n - (intOf iv).toNat)
    case atStart => exact ⟨0, Nat.zero_le _, rfl, fun j hj => by omega, Below.refl _ _⟩
    case round =>
      obtain ⟨k, hk, rfl, HX, HB⟩ := hrel
      rename World => w1
      by_cases hlt : k < n
      · obtain ⟨b, off, rfl, c0⟩ := HR.out k (by rw [HN.out]; exact hlt)
        have d0 := cell_later HB.out c0
        obtain ⟨y, HY⟩ : ∃ y, Hid (y = S.getD k 0) := ⟨_, rfl⟩
        rw [← HY.out] at d0
        have hki : (k : Int) < (n : Int) := by omega
        clear c0
        by_cases hy0 : 0 ≤ y
        · by_cases hy3 : y ≤ 3
          · have HX2 : Hid (∀ j, j < k + 1 → 0 ≤ S.getD j 0 ∧ S.getD j 0 ≤ 3) := by
              show ∀ j, _
              intro j hj
              by_cases hjk : j = k
              · subst hjk; rw [← HY.out]; exact ⟨hy0, hy3⟩
              · exact HX.out j (by omega)
            clear HY HX
            go_wp2_with fail
            go_roundw
            case rel => exact ⟨k + 1, by omega, by go_num, HX2, HB.out⟩
            case measure => simp [intOf]; omega
          · have HF : Hid (okM F S = false) := ok_bad_slip (k := k) (by rw [HN.out]; exact hlt) (by rw [← HY.out]; exact fun h => hy3 h.2)
            clear HY HX
            go_wp2_with fail
            go_ret2
            exact HBad.out _ HF.out HB.out
        · have HF : Hid (okM F S = false) := ok_bad_slip (k := k) (by rw [HN.out]; exact hlt) (by rw [← HY.out]; exact fun h => hy0 h.1)
          clear HY HX
          go_wp2_with fail
          go_ret2
          exact HBad.out _ HF.out HB.out
      · have hkn : k = n := by omega
        subst hkn
        have HX9 : Hid _ := HX
        clear HX
        go_wp2_with fail
        go_loopw [7] (fun iv wr => ∃ (q : Nat), q ≤ m ∧ iv = .int .i64 q ∧ Hid (∀ j, j < q → 0 ≤ F.getD j 0 ∧ F.getD j 0 < 64) ∧ Hid (Below w.heap.size w wr)) (fun iv _ => m - (intOf iv).toNat)
        case atStart => exact ⟨0, Nat.zero_le _, rfl, fun j hj => by omega, HB.out⟩
        case round =>
          clear HB
          obtain ⟨q, hq, rfl, HX, HB⟩ := hrel
          rename World => w2
          by_cases hlt : q < m
          · obtain ⟨b, off, rfl, c0⟩ := HFR.out q (by rw [HM.out]; exact hlt)
            have d0 := cell_later HB.out c0
            obtain ⟨y, HY⟩ : ∃ y, Hid (y = F.getD q 0) := ⟨_, rfl⟩
            rw [← HY.out] at d0
            have hki : (q : Int) < (m : Int) := by omega
            clear c0
            by_cases hy0 : 0 ≤ y
            · by_cases hy3 : y < 64
              · have HX2 : Hid (∀ j, j < q + 1 → 0 ≤ F.getD j 0 ∧ F.getD j 0 < 64) := by
                  show ∀ j, _
                  intro j hj
                  by_cases hjk : j = q
                  · subst hjk; rw [← HY.out]; exact ⟨hy0, hy3⟩
                  · exact HX.out j (by omega)
                clear HY HX
                go_wp2_with fail
                go_roundw
                case rel => exact ⟨q + 1, by omega, by go_num, HX2, HB.out⟩
                case measure => simp [intOf]; omega
              · have HF : Hid (okM F S = false) := ok_bad_fail (k := q) (by rw [HM.out]; exact hlt) (by rw [← HY.out]; exact fun h => hy3 h.2)
                have hy4 : 64 ≤ y := by omega
                clear HY HX
                go_wp2_with fail
                go_ret2
                exact HBad.out _ HF.out HB.out
            · have HF : Hid (okM F S = false) := ok_bad_fail (k := q) (by rw [HM.out]; exact hlt) (by rw [← HY.out]; exact fun h => hy0 h.1)
              clear HY HX
              go_wp2_with fail
              go_ret2
              exact HBad.out _ HF.out HB.out
          · have hkn : q = m := by omega
            subst hkn
            have HOK : Hid (okM F S = true) := ok_all (by rw [HN.out]; exact h64) (by rw [HN.out]; exact HX9.out) (by rw [HM.out]; exact HX.out)
            clear HX HX9 HFR
            go_wp2_with fail
            go_loopw [10, 8, 9] (fun iv ov nv wr => ∃ (i : Nat), i ≤ 64 ∧ iv = .int .i64 i ∧ ov = .string ⟨(bytesL (bt F S) i).toArray⟩ ∧ nv = .int .i64 ((tl (bt F S) i : Nat) : Int) ∧ Hid (Below w.heap.size w wr)) (fun iv _ _ _ => 64 - (intOf iv).toNat)
            case atStart => exact ⟨0, Nat.zero_le _, rfl, rfl, rfl, HB.out⟩
            case round =>
              clear HB
              obtain ⟨i, hi, rfl, rfl, rfl, HB⟩ := hrel
              rename World => w3
              have HS9 : Hid ((bytesL (bt F S) i).length = i) := bytesL_len _ _
              obtain ⟨t, HTT⟩ : ∃ t, Hid (t = tl (bt F S) i) := ⟨_, rfl⟩
              have ht : t ≤ i := by rw [HTT.out]; exact tl_le _ _
              rw [← HTT.out]
              by_cases hlt : i < 64
              · have hii : (i : Int) < 64 := by omega
                by_cases hn : i < k
                · have hni : (i : Int) < (k : Int) := by omega
                  obtain ⟨b, off, rfl, c0⟩ := HR.out i (by rw [HN.out]; exact hn)
                  have d0 := cell_later HB.out c0
                  have hz4 := okM_at HOK.out i
                  obtain ⟨z, HZ, hz⟩ : ∃ z : Nat, Hid ((S.getD i 0).toNat = z) ∧ S.getD i 0 = (z : Int) := ⟨_, rfl, by omega⟩
                  rw [hz] at d0 hz4
                  have hz3 : z ≤ 3 := by omega
                  clear c0 hz hz4
                  have HIi : Hid (∀ wx, Below w.heap.size w wx → Calls Tryd.prog 23 #[.slice fa q fcap, .int .i64 i] wx fun e w' => e = .returned (.bool (decide ((i : Int) ∈ F))) ∧ w' = wx) := fun wx hb => HI.out wx i hb
                  by_cases hin : (i : Int) ∈ F
                  · rw [decide_eq_true hin] at HIi
                    have HBT : Hid (bt F S i = z + 4) := bt_in HZ.out hin
                    clear hin HZ
                    have hm : IntKind.u8.wrap ((z : Int) + 4) = (z : Int) + 4 := by simp [IntKind.wrap, IntKind.signed, IntKind.bits]; try omega
                    have hbv0 : bvs [UInt8.ofNat (z + 4)] = [.int .u8 ((z : Int) + 4)] := by
                      have := bvs_u8 (z + 4) (by omega)
                      simpa using this
                    have HBV : Hid _ := hbv0
                    clear hbv0
                    have hcv := fun wx => str_new wx (UInt8.ofNat (z + 4)) ((z : Int) + 4) HBV.out
                    have HE : Hid (bytesL (bt F S) (i + 1) = bytesL (bt F S) i ++ [UInt8.ofNat (z + 4)]) := by show _ = _; rw [bytesL_succ, HBT.out]
                    have hcat : (⟨(bytesL (bt F S) i).toArray⟩ : ByteArray) ++ ⟨[UInt8.ofNat (z + 4)].toArray⟩ = ⟨(bytesL (bt F S) i ++ [UInt8.ofNat (z + 4)]).toArray⟩ := bcat _ _
                    have HB3 : Hid (Below w.heap.size w (w3.alloc (.cells #[.int .u8 ((z : Int) + 4)] 5))) := HB.out.alloc HB.out.size _
                    have hsz : (bytesL (bt F S) i).length ≤ 64 := by rw [HS9.out]; omega
                    rw [← HE.out] at hcat
                    generalize HO9 : (⟨(bytesL (bt F S) i).toArray⟩ : ByteArray) = O at *
                    generalize HO8 : (⟨[UInt8.ofNat (z + 4)].toArray⟩ : ByteArray) = O8 at *
                    have hos : O.size ≤ 64 := by rw [← HO9, bsize]; exact hsz
                    have ho8 : O8.size = 1 := by rw [← HO8]; rfl
                    clear HO9 HO8 hsz
                    have HTE : Hid (tl (bt F S) (i + 1) = i + 1) := tl_succ1 (by rw [HBT.out]; omega)
                    clear HBT HTT
                    go_wp2_with fail
                    refine Calls.mono (HIi.out _ HB.out) ?_
                    rintro e w4 ⟨rfl, rfl⟩
                    go_wp2_with fail
                    exact ⟨⟨i + 1, by omega, by go_num, by first | rfl | rw [← hcat] | rw [hcat], by rw [HTE.out]; try go_num, HB3.out⟩, by simp [intOf]; omega⟩
                  · rw [decide_eq_false hin] at HIi
                    have HBT : Hid (bt F S i = z) := bt_out HZ.out hin
                    clear hin HZ
                    by_cases hz0 : z = 0
                    · subst hz0
                      rw [Int.natCast_zero] at d0
                      have hm : IntKind.u8.wrap (0) = 0 := by simp [IntKind.wrap, IntKind.signed, IntKind.bits]; try omega
                      have hbv0 : bvs [UInt8.ofNat (0)] = [.int .u8 (0)] := by
                        have := bvs_u8 (0) (by omega)
                        simpa using this
                      have HBV : Hid _ := hbv0
                      clear hbv0
                      have hcv := fun wx => str_new wx (UInt8.ofNat (0)) (0) HBV.out
                      have HE : Hid (bytesL (bt F S) (i + 1) = bytesL (bt F S) i ++ [UInt8.ofNat (0)]) := by show _ = _; rw [bytesL_succ, HBT.out]
                      have hcat : (⟨(bytesL (bt F S) i).toArray⟩ : ByteArray) ++ ⟨[UInt8.ofNat (0)].toArray⟩ = ⟨(bytesL (bt F S) i ++ [UInt8.ofNat (0)]).toArray⟩ := bcat _ _
                      have HB3 : Hid (Below w.heap.size w (w3.alloc (.cells #[.int .u8 (0)] 5))) := HB.out.alloc HB.out.size _
                      have hsz : (bytesL (bt F S) i).length ≤ 64 := by rw [HS9.out]; omega
                      rw [← HE.out] at hcat
                      generalize HO9 : (⟨(bytesL (bt F S) i).toArray⟩ : ByteArray) = O at *
                      generalize HO8 : (⟨[UInt8.ofNat (0)].toArray⟩ : ByteArray) = O8 at *
                      have hos : O.size ≤ 64 := by rw [← HO9, bsize]; exact hsz
                      have ho8 : O8.size = 1 := by rw [← HO8]; rfl
                      clear HO9 HO8 hsz
                      have HTE : Hid (tl (bt F S) (i + 1) = t) := by show _ = _; rw [HTT.out]; exact tl_succ0 HBT.out
                      clear HBT HTT
                      go_wp2_with fail
                      refine Calls.mono (HIi.out _ HB.out) ?_
                      rintro e w4 ⟨rfl, rfl⟩
                      go_wp2_with fail
                      exact ⟨⟨i + 1, by omega, by go_num, by first | rfl | rw [← hcat] | rw [hcat], by rw [HTE.out]; try go_num, HB3.out⟩, by simp [intOf]; omega⟩
                    · have hzp : 0 < (z : Int) := by omega
                      have hm : IntKind.u8.wrap ((z : Int)) = (z : Int) := by simp [IntKind.wrap, IntKind.signed, IntKind.bits]; try omega
                      have hbv0 : bvs [UInt8.ofNat (z)] = [.int .u8 ((z : Int))] := by
                        have := bvs_u8 (z) (by omega)
                        simpa using this
                      have HBV : Hid _ := hbv0
                      clear hbv0
                      have hcv := fun wx => str_new wx (UInt8.ofNat (z)) ((z : Int)) HBV.out
                      have HE : Hid (bytesL (bt F S) (i + 1) = bytesL (bt F S) i ++ [UInt8.ofNat (z)]) := by show _ = _; rw [bytesL_succ, HBT.out]
                      have hcat : (⟨(bytesL (bt F S) i).toArray⟩ : ByteArray) ++ ⟨[UInt8.ofNat (z)].toArray⟩ = ⟨(bytesL (bt F S) i ++ [UInt8.ofNat (z)]).toArray⟩ := bcat _ _
                      have HB3 : Hid (Below w.heap.size w (w3.alloc (.cells #[.int .u8 ((z : Int))] 5))) := HB.out.alloc HB.out.size _
                      have hsz : (bytesL (bt F S) i).length ≤ 64 := by rw [HS9.out]; omega
                      rw [← HE.out] at hcat
                      generalize HO9 : (⟨(bytesL (bt F S) i).toArray⟩ : ByteArray) = O at *
                      generalize HO8 : (⟨[UInt8.ofNat (z)].toArray⟩ : ByteArray) = O8 at *
                      have hos : O.size ≤ 64 := by rw [← HO9, bsize]; exact hsz
                      have ho8 : O8.size = 1 := by rw [← HO8]; rfl
                      clear HO9 HO8 hsz
                      have HTE : Hid (tl (bt F S) (i + 1) = i + 1) := tl_succ1 (by rw [HBT.out]; omega)
                      clear HBT HTT
                      go_wp2_with fail
                      refine Calls.mono (HIi.out _ HB.out) ?_
                      rintro e w4 ⟨rfl, rfl⟩
                      go_wp2_with fail
                      exact ⟨⟨i + 1, by omega, by go_num, by first | rfl | rw [← hcat] | rw [hcat], by rw [HTE.out]; try go_num, HB3.out⟩, by simp [intOf]; omega⟩
                · have hni : ¬ ((i : Int) < (k : Int)) := by omega
                  have HZ : Hid ((S.getD i 0).toNat = 0) := by
                    have : S.getD i 0 = 0 := by simp [show S.length ≤ i by rw [HN.out]; omega]
                    show _ = _
                    rw [this]; rfl
                  have HIi : Hid (∀ wx, Below w.heap.size w wx → Calls Tryd.prog 23 #[.slice fa q fcap, .int .i64 i] wx fun e w' => e = .returned (.bool (decide ((i : Int) ∈ F))) ∧ w' = wx) := fun wx hb => HI.out wx i hb
                  by_cases hin : (i : Int) ∈ F
                  · rw [decide_eq_true hin] at HIi
                    have HBT : Hid (bt F S i = 4) := bt_in (z := 0) HZ.out hin
                    clear hin HZ
                    have hm : IntKind.u8.wrap (4) = 4 := by simp [IntKind.wrap, IntKind.signed, IntKind.bits]; try omega
                    have hbv0 : bvs [UInt8.ofNat (4)] = [.int .u8 (4)] := by
                      have := bvs_u8 (4) (by omega)
                      simpa using this
                    have HBV : Hid _ := hbv0
                    clear hbv0
                    have hcv := fun wx => str_new wx (UInt8.ofNat (4)) (4) HBV.out
                    have HE : Hid (bytesL (bt F S) (i + 1) = bytesL (bt F S) i ++ [UInt8.ofNat (4)]) := by show _ = _; rw [bytesL_succ, HBT.out]
                    have hcat : (⟨(bytesL (bt F S) i).toArray⟩ : ByteArray) ++ ⟨[UInt8.ofNat (4)].toArray⟩ = ⟨(bytesL (bt F S) i ++ [UInt8.ofNat (4)]).toArray⟩ := bcat _ _
                    have HB3 : Hid (Below w.heap.size w (w3.alloc (.cells #[.int .u8 (4)] 5))) := HB.out.alloc HB.out.size _
                    have hsz : (bytesL (bt F S) i).length ≤ 64 := by rw [HS9.out]; omega
                    rw [← HE.out] at hcat
                    generalize HO9 : (⟨(bytesL (bt F S) i).toArray⟩ : ByteArray) = O at *
                    generalize HO8 : (⟨[UInt8.ofNat (4)].toArray⟩ : ByteArray) = O8 at *
                    have hos : O.size ≤ 64 := by rw [← HO9, bsize]; exact hsz
                    have ho8 : O8.size = 1 := by rw [← HO8]; rfl
                    clear HO9 HO8 hsz
                    have HTE : Hid (tl (bt F S) (i + 1) = i + 1) := tl_succ1 (by rw [HBT.out]; omega)
                    clear HBT HTT
                    go_wp2_with fail
                    refine Calls.mono (HIi.out _ HB.out) ?_
                    rintro e w4 ⟨rfl, rfl⟩
                    go_wp2_with fail
                    exact ⟨⟨i + 1, by omega, by go_num, by first | rfl | rw [← hcat] | rw [hcat], by rw [HTE.out]; try go_num, HB3.out⟩, by simp [intOf]; omega⟩
                  · rw [decide_eq_false hin] at HIi
                    have HBT : Hid (bt F S i = 0) := bt_out HZ.out hin
                    clear hin HZ
                    have hm : IntKind.u8.wrap (0) = 0 := by simp [IntKind.wrap, IntKind.signed, IntKind.bits]; try omega
                    have hbv0 : bvs [UInt8.ofNat (0)] = [.int .u8 (0)] := by
                      have := bvs_u8 (0) (by omega)
                      simpa using this
                    have HBV : Hid _ := hbv0
                    clear hbv0
                    have hcv := fun wx => str_new wx (UInt8.ofNat (0)) (0) HBV.out
                    have HE : Hid (bytesL (bt F S) (i + 1) = bytesL (bt F S) i ++ [UInt8.ofNat (0)]) := by show _ = _; rw [bytesL_succ, HBT.out]
                    have hcat : (⟨(bytesL (bt F S) i).toArray⟩ : ByteArray) ++ ⟨[UInt8.ofNat (0)].toArray⟩ = ⟨(bytesL (bt F S) i ++ [UInt8.ofNat (0)]).toArray⟩ := bcat _ _
                    have HB3 : Hid (Below w.heap.size w (w3.alloc (.cells #[.int .u8 (0)] 5))) := HB.out.alloc HB.out.size _
                    have hsz : (bytesL (bt F S) i).length ≤ 64 := by rw [HS9.out]; omega
                    rw [← HE.out] at hcat
                    generalize HO9 : (⟨(bytesL (bt F S) i).toArray⟩ : ByteArray) = O at *
                    generalize HO8 : (⟨[UInt8.ofNat (0)].toArray⟩ : ByteArray) = O8 at *
                    have hos : O.size ≤ 64 := by rw [← HO9, bsize]; exact hsz
                    have ho8 : O8.size = 1 := by rw [← HO8]; rfl
                    clear HO9 HO8 hsz
                    have HTE : Hid (tl (bt F S) (i + 1) = t) := by show _ = _; rw [HTT.out]; exact tl_succ0 HBT.out
                    clear HBT HTT
                    go_wp2_with fail
                    refine Calls.mono (HIi.out _ HB.out) ?_
                    rintro e w4 ⟨rfl, rfl⟩
                    go_wp2_with fail
                    exact ⟨⟨i + 1, by omega, by go_num, by first | rfl | rw [← hcat] | rw [hcat], by rw [HTE.out]; try go_num, HB3.out⟩, by simp [intOf]; omega⟩
              · have hi64 : i = 64 := by omega
                subst hi64
                have HMK : Hid (mk F S = (bytesL (bt F S) 64).take t) := by
                  show _ = _
                  rw [HTT.out, bytesL_take _ _ _ (tl_le _ _)]
                  rfl
                have hcut := fun wx => str_to (bytesL (bt F S) 64) t (t : Int) rfl (by rw [HS9.out]; exact ht) wx
                rw [← HMK.out] at hcut
                generalize (⟨(bytesL (bt F S) 64).toArray⟩ : ByteArray) = O at *
                clear HTT HMK HS9
                go_wp2_with fail
                go_ret2
                exact ⟨HB.out, by rw [if_pos HOK.out]; rfl⟩
  · have HF : Hid (okM F S = false) := by
      cases hb : okM F S with
      | false => rfl
      | true => exact absurd (okM_len hb) (by rw [HN.out]; exact h64)
    go_enter Tryd.func17, Tryd.ntmps17
    go_wp2_with fail
    go_ret2
    exact HBad.out _ HF.out (Below.refl _ _)
end Go.Proofs.YtfemfekhpfkafaaDoor.Or
