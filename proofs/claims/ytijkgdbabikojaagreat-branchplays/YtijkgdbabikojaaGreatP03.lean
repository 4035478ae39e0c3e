/- Texts of the seat, packed: FWg FWh FWi FWj FWk. -/
import Derived.Test.YtijkgdbabikojaaGreatP02
/- The walks over the document's Frame, Put and Take. -/
namespace Go.Proofs.YtijkgdbabikojaaGreat.Fr
set_option maxRecDepth 1000000
open Go.RowKit
set_option linter.unusedVariables false

theorem bcat (a b : List UInt8) : (⟨a.toArray⟩ : ByteArray) ++ ⟨b.toArray⟩ = ⟨(a ++ b).toArray⟩ := by
  apply ByteArray.ext
  rw [ByteArray.data_append]
  simp

theorem bsize (a : List UInt8) : (⟨a.toArray⟩ : ByteArray).size = a.length := by simp [ByteArray.size]

set_option maxRecDepth 1000000 in
set_option maxHeartbeats 1000000 in
theorem rframe_any (l : List UInt8) (w : World) (hl : l.length ≤ 1024) :
    Calls Tryz.prog 66 #[.string ⟨l.toArray⟩] w fun e w' => e = .returned (.string ⟨(frameP l).toArray⟩) ∧ Below w.heap.size w w' := by
  have HH : Hid (bvs (hd2 l.length) = [.int .u8 ((l.length : Int) / 256), .int .u8 ((l.length : Int) % 256)]) := by
    show _ = _
    rw [hd_bytes]
    congr 2
    rw [Nat.mod_eq_of_lt (by omega)]
    rfl
  have hc1 : (convert 34 9 (.slice (some ⟨w.heap.size, 0, none⟩) 2 2)).run Tryz.prog (w.alloc (.cells #[.int .u8 ((l.length : Int) / 256), .int .u8 ((l.length : Int) % 256)] 5)) = .ok (.string ⟨(hd2 l.length).toArray⟩) (w.alloc (.cells #[.int .u8 ((l.length : Int) / 256), .int .u8 ((l.length : Int) % 256)] 5)) :=
    string_of_RB (RB.new w (hd2 l.length) #[.int .u8 ((l.length : Int) / 256), .int .u8 ((l.length : Int) % 256)] 5 HH.out.symm (by rw [hd2_len]; omega))
  have hsz := bsize l
  have hcat : (⟨(hd2 l.length).toArray⟩ : ByteArray) ++ ⟨l.toArray⟩ = ⟨(hd2 l.length ++ l).toArray⟩ := bcat _ _
  have HSM : Hid (∀ wx, Calls Tryz.prog 93 #[.string ⟨(hd2 l.length ++ l).toArray⟩] wx fun e w' => e = .returned (.int .u32 (sumP (hd2 l.length ++ l) : Nat)) ∧ w' = wx) := fun wx => rsum_any _ _ rfl wx (by rw [List.length_append, hd2_len]; omega)
  have hq := sumP_lt (hd2 l.length ++ l)
  have HF : Hid (frameP l = hd2 l.length ++ l ++ le4 (sumP (hd2 l.length ++ l))) := rfl
  generalize sumP (hd2 l.length ++ l) = q at *
  obtain ⟨w1, HW1⟩ : ∃ w1, Hid (w1 = w.alloc (.cells #[.int .u8 ((l.length : Int) / 256), .int .u8 ((l.length : Int) % 256)] 5)) := ⟨_, rfl⟩
  have HLE : Hid (bvs (le4 q) = [.int .u8 ((q : Int) % 256), .int .u8 ((q : Int) / 256 % 256), .int .u8 ((q : Int) / 65536 % 256), .int .u8 ((q : Int) / 16777216)]) := by
    have e3 : (q : Int) / 16777216 = ((q / 16777216 % 256 : Nat) : Int) := by omega
    show _ = _
    rw [e3]
    simp [bvs, le4]
  have hc2 := string_of_RB (RB.new (w.alloc (.cells #[.int .u8 ((l.length : Int) / 256), .int .u8 ((l.length : Int) % 256)] 5)) (le4 q) #[.int .u8 ((q : Int) % 256), .int .u8 ((q : Int) / 256 % 256), .int .u8 ((q : Int) / 65536 % 256), .int .u8 ((q : Int) / 16777216)] 5 HLE.out.symm (by rw [le4_len]; omega))
  rw [World.size_alloc, le4_len] at hc2
  have hcat2 : (⟨(hd2 l.length ++ l).toArray⟩ : ByteArray) ++ ⟨(le4 q).toArray⟩ = ⟨(hd2 l.length ++ l ++ le4 q).toArray⟩ := bcat _ _
  have h2 := hd2_len l.length
  have h4 := le4_len q
  go_enter Tryz.func66, Tryz.ntmps66
  go_wp2_with (first
    | (go_at_call 93; refine Calls.mono (HSM.out _) ?_; rintro e w2 ⟨rfl, rfl⟩))
  go_ret
  rw [HF.out]
  exact ⟨rfl, ((Below.refl _ _).alloc (Nat.le_refl _) _).alloc (by simp) _⟩

end Go.Proofs.YtijkgdbabikojaaGreat.Fr

/- The walk over the document's Take. -/
namespace Go.Proofs.YtijkgdbabikojaaGreat.Fr
set_option maxRecDepth 1000000
open Go.RowKit
set_option linter.unusedVariables false

theorem bext (l : List UInt8) (i j : Nat) : (⟨l.toArray⟩ : ByteArray).extract i j = ⟨((l.take j).drop i).toArray⟩ := by
  apply ByteArray.ext
  simp [ByteArray.data_extract, List.extract_toArray, List.extract_eq_take_drop, List.drop_take]

theorem str_from (l : List UInt8) (p : Nat) (hp : p ≤ l.length) (wx : World) : (Instr.sliceAt 9 (.string ⟨l.toArray⟩) (some (.int .i64 p)) none none).run Tryz.prog wx = .ok (.string ⟨(l.drop p).toArray⟩) wx := by
  rw [run_sliceAt_string wx 9 _ _ _ _ Tryz.underlying9, run_slice_string_l wx 9 _ Tryz.underlying9 .i64 p (by omega) (by rw [bsize]; omega), bext, bsize, List.take_length, Int.toNat_natCast]

theorem str_to (l : List UInt8) (p : Nat) (e : Int) (he : e = p) (hp : p ≤ l.length) (wx : World) : (Instr.sliceAt 9 (.string ⟨l.toArray⟩) none (some (.int .i64 e)) none).run Tryz.prog wx = .ok (.string ⟨(l.take p).toArray⟩) wx := by
  subst he
  rw [run_sliceAt_string wx 9 _ _ _ _ Tryz.underlying9, run_slice_string_h wx 9 _ Tryz.underlying9 .i64 p (by omega) (by rw [bsize]; omega), bext, List.drop_zero, Int.toNat_natCast]

theorem str_mid (l : List UInt8) (i p : Nat) (e0 e : Int) (he0 : e0 = i) (he : e = p) (hi : i ≤ p) (hp : p ≤ l.length) (wx : World) : (Instr.sliceAt 9 (.string ⟨l.toArray⟩) (some (.int .i64 e0)) (some (.int .i64 e)) none).run Tryz.prog wx = .ok (.string ⟨((l.take p).drop i).toArray⟩) wx := by
  subst he he0
  rw [run_sliceAt_string wx 9 _ _ _ _ Tryz.underlying9, run_slice_string wx 9 _ .i64 .i64 i p Tryz.underlying9 (by omega) (by omega) (by rw [bsize]; omega), bext, Int.toNat_natCast, Int.toNat_natCast]

theorem str_at (l : List UInt8) (i : Nat) (e : Int) (he : e = i) (hi : i < l.length) (wx : World) : (Instr.index 9 (.string ⟨l.toArray⟩) (.int .i64 e)).run Tryz.prog wx = .ok (.int .u8 ((l.getD i 0).toNat : Nat)) wx := by
  subst he
  rw [run_index_string wx 9 _ .i64 i Tryz.underlying9, dif_pos ⟨by omega, by rw [bsize]; omega⟩]
  congr 3
  show ((l.toArray)[(i : Int).toNat]'_).toNat = _
  simp [hi]

set_option maxRecDepth 1000000 in
set_option maxHeartbeats 1000000 in
theorem rtake_out (l : List UInt8) (p : Int) (w : World) (hp : p < 0 ∨ (l.length : Int) < p) (hl : l.length ≤ 100000) :
    Calls Tryz.prog 94 #[.string ⟨l.toArray⟩, .int .i64 p] w fun e w' => e = .returned (.tuple #[.string ⟨#[]⟩, .int .i64 0, .int .i64 2]) ∧ w' = w := by
  have hsz := bsize l
  by_cases h0 : p < 0
  · go_enter Tryz.func94, Tryz.ntmps94
    go_wp2_with fail
    go_ret3
    exact ⟨rfl, rfl⟩
  · have h1 : (l.length : Int) < p := by omega
    go_enter Tryz.func94, Tryz.ntmps94
    go_wp2_with fail
    go_ret3
    exact ⟨rfl, rfl⟩

set_option maxRecDepth 1000000 in
set_option maxHeartbeats 1000000 in
theorem rtake_few (l : List UInt8) (p : Nat) (w : World) (hp : p ≤ l.length) (hl : l.length ≤ 100000) (he : (l.drop p).length < 2) :
    Calls Tryz.prog 94 #[.string ⟨l.toArray⟩, .int .i64 p] w fun e w' => e = .returned (.tuple #[.string ⟨#[]⟩, .int .i64 0, .int .i64 ((measureP (l.drop p)).2 : Nat)]) ∧ w' = w := by
  have hS := str_from l p hp
  have HM : Hid ((measureP (l.drop p)).2 = if (l.drop p).length = 0 then 16 else 3) := by
    show _ = _
    unfold measureP
    by_cases h0 : (l.drop p).length = 0
    · rw [if_pos h0, if_pos h0]
    · rw [if_neg h0, if_neg h0, if_pos he]
  generalize (measureP (l.drop p)).2 = er at *
  generalize l.drop p = d at *
  by_cases h0 : d.length = 0
  · rw [if_pos h0] at HM
    rw [HM.out]
    go_enter Tryz.func94, Tryz.ntmps94
    go_wp2_with fail
    go_ret3
    exact ⟨rfl, rfl⟩
  · rw [if_neg h0] at HM
    rw [HM.out]
    go_enter Tryz.func94, Tryz.ntmps94
    go_wp2_with fail
    go_ret3
    exact ⟨rfl, rfl⟩

theorem measure_two (d : List UInt8) (h : 2 ≤ d.length) : measureP d = if 1024 < num2 d then (0, 5) else if d.length < num2 d + 6 then (0, 3) else (num2 d + 6, 0) := by
  unfold measureP
  rw [if_neg (by omega), if_neg (by omega)]

set_option maxRecDepth 1000000 in
set_option maxHeartbeats 1000000 in
theorem rtake_err (l : List UInt8) (p : Nat) (w : World) (hp : p ≤ l.length) (hl : l.length ≤ 100000) (h2 : 2 ≤ (l.drop p).length) (he : ¬ (measureP (l.drop p)).2 = 0) :
    Calls Tryz.prog 94 #[.string ⟨l.toArray⟩, .int .i64 p] w fun e w' => e = .returned (.tuple #[.string ⟨#[]⟩, .int .i64 0, .int .i64 ((measureP (l.drop p)).2 : Nat)]) ∧ Below w.heap.size w w' := by
  have hS := str_from l p hp
  have hdl : (l.drop p).length ≤ 100000 := by rw [List.length_drop]; omega
  have HM := measure_two (l.drop p) h2
  generalize l.drop p = d at *
  have hI0 := str_at d 0 0 rfl (by omega)
  have hI1 := str_at d 1 1 rfl (by omega)
  have hn : num2 d = 256 * (d.getD 0 0).toNat + (d.getD 1 0).toNat := rfl
  have hy0 := byte_lt (d.getD 0 0)
  have hy1 := byte_lt (d.getD 1 0)
  rw [HM] at he ⊢
  clear HM
  generalize num2 d = q at *
  generalize (d.getD 0 0).toNat = y0 at *
  generalize (d.getD 1 0).toNat = y1 at *
  by_cases h3 : 1024 < q
  · rw [if_pos h3]
    have h3' : 1024 < 256 * (y0 : Int) + (y1 : Int) := by omega
    clear he hn h3
    go_enter Tryz.func94, Tryz.ntmps94
    go_wp2_with fail
    go_quiet (fail)
    go_wp2_with fail
    go_ret3
    exact ⟨rfl, below_drewN (Below.refl _ _) _⟩
  · rw [if_neg h3] at he ⊢
    by_cases h4 : d.length < q + 6
    · rw [if_pos h4]
      have h3' : 256 * (y0 : Int) + (y1 : Int) ≤ 1024 := by omega
      have h4' : (d.length : Int) < 256 * (y0 : Int) + (y1 : Int) + 6 := by omega
      clear he hn h3 h4
      go_enter Tryz.func94, Tryz.ntmps94
      go_wp2_with fail
      go_quiet (fail)
      go_wp2_with fail
      go_ret3
      exact ⟨rfl, below_drewN (Below.refl _ _) _⟩
    · rw [if_neg h4] at he
      exact absurd rfl he
end Go.Proofs.YtijkgdbabikojaaGreat.Fr

/- The walk over the document's Take where a whole frame stands. -/
namespace Go.Proofs.YtijkgdbabikojaaGreat.Fr
set_option maxRecDepth 1000000
open Go.RowKit
set_option linter.unusedVariables false

theorem list_neq (a b : List UInt8) (wx : World) : (binOp .neq 9 (.string ⟨a.toArray⟩) (.string ⟨b.toArray⟩)).run Tryz.prog wx = .ok (.bool (!(a == b))) wx := by
  rw [binOp_string_neq]
  have h : ∀ c : List UInt8, (⟨c.toArray⟩ : ByteArray).toList = c := fun c => by rw [ByteArray.toList_eq]
  rw [h, h]
  rfl

theorem list_eql (a b : List UInt8) (wx : World) : (binOp .eql 9 (.string ⟨a.toArray⟩) (.string ⟨b.toArray⟩)).run Tryz.prog wx = .ok (.bool (a == b)) wx := by
  rw [binOp_string_eql]
  have h : ∀ c : List UInt8, (⟨c.toArray⟩ : ByteArray).toList = c := fun c => by rw [ByteArray.toList_eq]
  rw [h, h]
  rfl

set_option maxRecDepth 1000000 in
set_option maxHeartbeats 1000000 in
theorem rtake_full (l : List UInt8) (p : Nat) (w : World) (hp : p ≤ l.length) (hl : l.length ≤ 100000) (he : (measureP (l.drop p)).2 = 0) :
    Calls Tryz.prog 94 #[.string ⟨l.toArray⟩, .int .i64 p] w fun e w' => Below w.heap.size w w' ∧ e = .returned (if openP ((l.drop p).take (measureP (l.drop p)).1) then .tuple #[.string ⟨(((l.drop p).drop 2).take ((measureP (l.drop p)).1 - 6)).toArray⟩, .int .i64 ((p + (measureP (l.drop p)).1 : Nat) : Int), .int .i64 0] else .tuple #[.string ⟨#[]⟩, .int .i64 0, .int .i64 12]) := by
  have hS := str_from l p hp
  have hdl : (l.drop p).length ≤ 100000 := by rw [List.length_drop]; omega
  obtain ⟨m1, m2, m3⟩ := measure_ok he
  have HM := measure_two (l.drop p) (by omega)
  generalize l.drop p = d at *
  have hI0 := str_at d 0 0 rfl (by omega)
  have hI1 := str_at d 1 1 rfl (by omega)
  have hn : num2 d = 256 * (d.getD 0 0).toNat + (d.getD 1 0).toNat := rfl
  have hy0 := byte_lt (d.getD 0 0)
  have hy1 := byte_lt (d.getD 1 0)
  obtain ⟨q, HQ⟩ : ∃ q, Hid (q = num2 d) := ⟨_, rfl⟩
  have hq : (measureP d).1 = q + 6 ∧ q ≤ 1024 ∧ q + 6 ≤ d.length := by
    rw [HQ.out]
    rw [HM] at he ⊢
    by_cases h3 : 1024 < num2 d
    · rw [if_pos h3] at he; simp at he
    · rw [if_neg h3] at he ⊢
      by_cases h4 : d.length < num2 d + 6
      · rw [if_pos h4] at he; simp at he
      · rw [if_neg h4]
        exact ⟨rfl, by omega, by omega⟩
  obtain ⟨hq1, hq2, hq3⟩ := hq
  rw [hq1, show q + 6 - 6 = q by omega]
  have hok := frame_is d q HQ.out.symm hq3
  have hbd : (d.take (q + 2)).drop 2 = (d.drop 2).take q := by rw [List.drop_take, show q + 2 - 2 = q by omega]
  rw [hbd] at hok
  have hM1 := str_mid d 2 (q + 2) 2 ((q : Int) + 2) rfl (by omega) (by omega) (by omega)
  have hT1 := str_to d (q + 6) ((q : Int) + 6) (by omega) (by omega)
  rw [hbd] at hM1
  have hbl : ((d.drop 2).take q).length ≤ 1024 := by rw [List.length_take]; omega
  have HFR : Hid (∀ wx, Calls Tryz.prog 66 #[.string ⟨((d.drop 2).take q).toArray⟩] wx fun e w' => e = .returned (.string ⟨(frameP ((d.drop 2).take q)).toArray⟩) ∧ Below wx.heap.size wx w') := fun wx => rframe_any _ wx hbl
  have hn' : 256 * ((d.getD 0 0).toNat : Int) + ((d.getD 1 0).toNat : Int) = (q : Int) := by rw [HQ.out, hn]; omega
  have HOK : Hid ((frameP ((d.drop 2).take q) == d.take (q + 6)) = openP (d.take (q + 6))) := hok
  clear hok hbd HM hn HQ m1 m2 m3 hq1 he
  generalize openP (d.take (q + 6)) = ok at *
  generalize frameP ((d.drop 2).take q) = fr at *
  generalize (d.drop 2).take q = bd at *
  generalize d.take (q + 6) = dt at *
  generalize (d.getD 0 0).toNat = y0 at *
  generalize (d.getD 1 0).toNat = y1 at *
  go_enter Tryz.func94, Tryz.ntmps94
  go_wp2_with fail
  go_quiet (fail)
  have hb1 : Below w.heap.size w (w.drewN nq) := below_drewN (Below.refl _ _) _
  generalize w.drewN nq = w1 at *
  go_wp2_with fail
  have HS0 : Hid (Below w.heap.size w w1.drew) := hb1.drew
  have HK : Hid (∀ w2 w3 : World, Below w.heap.size w w2 → Below w2.heap.size w2 w3 → Below w.heap.size w w3) := fun w2 w3 h1 h2 => h1.trans (h2.mono h1.size)
  have hq4 : (q : Int) + 6 ≤ ((⟨d.toArray⟩ : ByteArray).size : Int) := by rw [bsize]; omega
  have hq5 : 0 ≤ (q : Int) + 6 := by omega
  have hq6 : (q : Int) + 6 ≤ (d.length : Int) := by omega
  have hwq : IntKind.i64.wrap ((q : Int) + 6) = (q : Int) + 6 := by rw [IntKind.wrap_i64]; omega
  clear hb1
  go_region_with (first | (go_at_call 66; refine Calls.mono (HFR.out _) ?_; rintro e w4 ⟨rfl, hb4⟩))
  all_goals
    have HB4 : Hid (Below w.heap.size w w4) := HK.out _ _ HS0.out hb4
    clear hb4 HK HS0 HFR
    rw [HOK.out]
    clear HOK
    cases ok with
    | false =>
      go_wp2_with fail
      go_ret3
      exact ⟨HB4.out, rfl⟩
    | true =>
      go_wp2_with fail
      go_ret3
      exact ⟨HB4.out, by go_num⟩
end Go.Proofs.YtijkgdbabikojaaGreat.Fr

/- The walks over the document's All and Same. -/
namespace Go.Proofs.YtijkgdbabikojaaGreat.Fr
set_option maxRecDepth 1000000
open Go.RowKit
set_option linter.unusedVariables false

theorem rtake_any (l : List UInt8) (p : Nat) (w : World) (hp : p ≤ l.length) (hl : l.length ≤ 100000) :
    Calls Tryz.prog 94 #[.string ⟨l.toArray⟩, .int .i64 p] w fun e w' => Below w.heap.size w w' ∧ e = .returned (.tuple #[.string ⟨(takeP l p).1.toArray⟩, .int .i64 ((takeP l p).2.1 : Nat), .int .i64 ((takeP l p).2.2 : Nat)]) := by
  by_cases he : (measureP (l.drop p)).2 = 0
  · refine Calls.mono (rtake_full l p w hp hl he) ?_
    rintro e w' ⟨h1, h2⟩
    refine ⟨h1, ?_⟩
    unfold takeP
    rw [if_pos he]
    by_cases h3 : openP ((l.drop p).take (measureP (l.drop p)).1) = true
    · rw [if_pos h3] at h2 ⊢
      exact h2
    · rw [if_neg h3] at h2 ⊢
      exact h2
  · by_cases h2 : (l.drop p).length < 2
    · refine Calls.mono (rtake_few l p w hp hl h2) ?_
      rintro e w' ⟨h1, rfl⟩
      refine ⟨Below.refl _ _, ?_⟩
      unfold takeP
      rw [if_neg he]
      exact h1
    · refine Calls.mono (rtake_err l p w hp hl (by omega) he) ?_
      rintro e w' ⟨h1, h3⟩
      refine ⟨h3, ?_⟩
      unfold takeP
      rw [if_neg he]
      exact h1

theorem Tryz.info9 : (Tryz.prog.info? 9).map (fun i => (i.zero, i.size, i.bytes)) = some (some (.string ⟨#[]⟩), 1, 16) := by kernel_rfl

/-- Texts as they lie in memory. -/
def svs (L : List (List UInt8)) : List Value := L.map fun b => Value.string ⟨b.toArray⟩

set_option maxRecDepth 1000000 in
set_option maxHeartbeats 1000000 in
theorem rall_any (l : List UInt8) (w : World) (hl : l.length ≤ 100000) :
    Calls Tryz.prog 67 #[.string ⟨l.toArray⟩] w fun e w' => Below w.heap.size w w' ∧ ∃ v, e = .returned (.tuple #[v, .int .i64 ((allP l (l.length + 1) 0).2.1 : Nat), .int .i64 ((allP l (l.length + 1) 0).2.2 : Nat)]) ∧ w'.ownsRow w.heap.size 9 1 v (allP l (l.length + 1) 0).1.length (svs (allP l (l.length + 1) 0).1) := by
  obtain ⟨i0, hi, hz0, hz1, hz2⟩ := info_parts Tryz.info9
  obtain ⟨R, HR⟩ : ∃ R, Hid (R = allP l (l.length + 1) 0) := ⟨_, rfl⟩
  rw [← HR.out]
  have HT : Hid (∀ (p : Nat) (wx : World), p ≤ l.length → Calls Tryz.prog 94 #[.string ⟨l.toArray⟩, .int .i64 p] wx fun e w' => Below wx.heap.size wx w' ∧ e = .returned (.tuple #[.string ⟨(takeP l p).1.toArray⟩, .int .i64 ((takeP l p).2.1 : Nat), .int .i64 ((takeP l p).2.2 : Nat)])) := fun p wx hp => rtake_any l p wx hp hl
  go_enter Tryz.func67, Tryz.ntmps67
  go_wp2
  go_loopw [5, 6] (fun bv pv wr => ∃ (p f cap : Nat) (av : Option Addr) (L : List (List UInt8)), p ≤ l.length ∧ 6 * L.length ≤ p ∧ Hid (l.length < p + f) ∧ pv = .int .i64 p ∧ bv = .slice av L.length cap ∧ Hid (wr.ownsRow w.heap.size 9 1 (.slice av L.length cap) L.length (svs L)) ∧ Hid (R = (L ++ (allP l f p).1, (allP l f p).2)) ∧ Below w.heap.size w wr) (fun _ pv _ => l.length - (intOf pv).toNat)
  case atStart => exact ⟨0, l.length + 1, 0, none, [], Nat.zero_le _, Nat.le_refl _, by show _ < _; omega, rfl, rfl, World.ownsRow_nil _ _ _ _, HR.out, Below.refl _ _⟩
  case round =>
    obtain ⟨p, f, cap, av, L, hp, hLp, HF, rfl, rfl, HL, HE, hbw⟩ := hrel
    have HC := HT.out p wr hp
    have HBW : Hid (Below w.heap.size w wr) := hbw
    have hsz := hbw.size
    clear hbw HT
    obtain ⟨f, rfl⟩ : ∃ f', f = f' + 1 := ⟨f - 1, by have := HF.out; omega⟩
    by_cases hlt : L.length < l.length
    · by_cases he : (takeP l p).2.2 = 0
      · obtain ⟨n1, n2, n3, n4⟩ := takeP_next he
        have HE2 : Hid (R = (L ++ [(takeP l p).1] ++ (allP l f (takeP l p).2.1).1, (allP l f (takeP l p).2.1).2)) := by
          show _ = _
          rw [HE.out, allP_step he]
          simp
        have HF2 : Hid (l.length < (takeP l p).2.1 + f) := by have := HF.out; show _ < _; omega
        rw [he] at HC
        have HC2 : Hid (Calls Tryz.prog 94 #[.string ⟨l.toArray⟩, .int .i64 p] wr fun e w' => Below wr.heap.size wr w' ∧ e = .returned (.tuple #[.string ⟨(takeP l p).1.toArray⟩, .int .i64 ((takeP l p).2.1 : Nat), .int .i64 ((0 : Nat) : Int)])) := HC
        clear HC HE he n3 n4
        generalize (takeP l p).2.1 = p2 at *
        generalize (takeP l p).1 = bd at *
        have hLl : L.length ≤ 100000 := by omega
        go_wp2_with (first
          | (go_at_call 94; refine Calls.mono HC2.out ?_; rintro e w2 ⟨hb2, rfl⟩; have HB2 : Hid (Below wr.heap.size wr w2) := hb2; clear hb2)
          | (at_builtin; refine wpList_append_own _ rfl _ _ 110 rfl w.heap.size 9 i0 (.string ⟨#[]⟩) 1 16 Tryz.underlying110 hi hz0 hz1 hz2 rfl (by decide) _ L.length (svs L) rfl (owns_later (owns_later HL.out HB2.out) ((Below.refl _ _).alloc (Nat.le_refl _) _)) ⟨w2.heap.size, 0, none⟩ 1 1 [.string ⟨bd.toArray⟩] rfl rfl (cell_one_new _ _ _) (fun u hu => by simp at hu; subst hu; rfl) (by unfold maxLen; omega) (by omega) (by have := HB2.out.size; simp; omega) ?_; intro v4 w4 ho4 hg4 _))
        have HO4 : Hid (w4.ownsRow w.heap.size 9 1 v4 (L ++ [bd]).length (svs (L ++ [bd]))) := by
          show w4.ownsRow _ _ _ _ _ _
          rw [List.length_append, svs, List.map_append]
          exact ho4
        have hb5 : Below w.heap.size w w4 := Below.grown ((HBW.out.trans (HB2.out.mono hsz)).alloc (by have := HB2.out.size; omega) _) hg4 (by have := HB2.out.size; simp; omega) (fun k hk => ((HL.out).lt _ hk).1)
        obtain ⟨a4, c4, rfl⟩ := owns_slice HO4.out
        go_roundw
        case rel => exact ⟨p2, f, c4, a4, L ++ [bd], by omega, by rw [List.length_append]; simp; omega, HF2, rfl, rfl, HO4, HE2, hb5⟩
        case measure => simp [intOf]; omega
      · have HE2 : Hid (R = (L, p, (takeP l p).2.2)) := by
          show _ = _
          rw [HE.out, allP_stop he]
          simp
        have HC2 : Hid (Calls Tryz.prog 94 #[.string ⟨l.toArray⟩, .int .i64 p] wr fun e w' => Below wr.heap.size wr w' ∧ e = .returned (.tuple #[.string ⟨(takeP l p).1.toArray⟩, .int .i64 ((takeP l p).2.1 : Nat), .int .i64 ((takeP l p).2.2 : Nat)])) := HC
        clear HC HE
        generalize (takeP l p).2.1 = p2 at *
        generalize (takeP l p).1 = bd at *
        generalize (takeP l p).2.2 = er at *
        have hLl : L.length ≤ 100000 := by omega
        go_wp2_with (first
          | (go_at_call 94; refine Calls.mono HC2.out ?_; rintro e w2 ⟨hb2, rfl⟩; have HB2 : Hid (Below wr.heap.size wr w2) := hb2; clear hb2))
        go_ret3
        rw [HE2.out]
        exact ⟨HBW.out.trans (HB2.out.mono hsz), _, rfl, owns_later HL.out HB2.out⟩
    · have hl0 : l.length = 0 := by omega
      have hL0 : L = [] := List.eq_nil_of_length_eq_zero (by omega)
      have hp0 : p = 0 := by omega
      subst hL0 hp0
      have HE2 : Hid (R = ([], 0, 16)) := by
        show _ = _
        rw [HE.out, allP_stop (by rw [takeP_end l 0 (by omega)]; decide), takeP_end l 0 (by omega)]
        rfl
      clear HC HE
      have hlt2 : ¬ 0 < l.length := by omega
      clear hlt
      go_wp2_with fail
      go_ret3
      rw [HE2.out]
      exact ⟨HBW.out, _, rfl, HL.out⟩
end Go.Proofs.YtijkgdbabikojaaGreat.Fr

/- The walks over the document's Same, and the law's small and put. -/
namespace Go.Proofs.YtijkgdbabikojaaGreat.Fr
set_option maxRecDepth 1000000
open Go.RowKit
set_option linter.unusedVariables false

/-- A slice of texts that reads as a list. -/
def RS (w : World) (v : Value) (L : List (List UInt8)) : Prop :=
  ∃ a cap, v = .slice a L.length cap ∧ L.length ≤ cap ∧ cap ≤ maxLen ∧ ∀ (i : Nat) (b : List UInt8), L[i]? = some b → ∃ g off, a = some ⟨g, off, none⟩ ∧ w.cell? ⟨g, off + i, none⟩ = some (.string ⟨b.toArray⟩)

/-- A slice of slices of bytes that reads as a list. -/
def RSB (w : World) (v : Value) (L : List (List UInt8)) : Prop :=
  ∃ a cap, v = .slice a L.length cap ∧ ∀ (i : Nat) (b : List UInt8), L[i]? = some b → ∃ g off x, a = some ⟨g, off, none⟩ ∧ w.cell? ⟨g, off + i, none⟩ = some x ∧ RB w x b

theorem RS.later {w wx : World} {v : Value} {L : List (List UInt8)} (h : RS w v L) (hb : Below w.heap.size w wx) : RS wx v L := by
  obtain ⟨a, cap, hv, h1, h2, hc⟩ := h
  refine ⟨a, cap, hv, h1, h2, fun i b hi => ?_⟩
  obtain ⟨g, off, ha, hcell⟩ := hc i b hi
  exact ⟨g, off, ha, cell_later hb hcell⟩

theorem RSB.later {w wx : World} {v : Value} {L : List (List UInt8)} (h : RSB w v L) (hb : Below w.heap.size w wx) : RSB wx v L := by
  obtain ⟨a, cap, hv, hc⟩ := h
  refine ⟨a, cap, hv, fun i b hi => ?_⟩
  obtain ⟨g, off, x, ha, hcell, hx⟩ := hc i b hi
  exact ⟨g, off, x, ha, cell_later hb hcell, hx.later hb⟩

theorem RBB.reads {B : Nat} {w : World} {v : Value} {L : List (List UInt8)} (h : RBB B w v L) : RSB w v L := by
  obtain ⟨xs, h1, h2⟩ := h
  rcases h1.2 with ⟨rfl, h0⟩ | ⟨g, cap, cur, rfl, _, _, h3, h4, _⟩
  · have hL : L = [] := List.eq_nil_of_length_eq_zero h0
    subst hL
    exact ⟨none, 0, rfl, fun i b hi => by simp at hi⟩
  · refine ⟨_, cap, rfl, fun i b hi => ?_⟩
    obtain ⟨x, h5, h6⟩ := h2 i b hi
    have hil := (List.getElem?_eq_some_iff.1 hi).1
    refine ⟨g, 0, x, rfl, ?_, RB.of_owns h6 rfl⟩
    rw [Nat.zero_add, h1.cellAt i (by have := h1.1; omega)]
    exact h5

theorem RS.of_owns {B : Nat} {w : World} {v : Value} {n : Nat} {L : List (List UInt8)} (h : w.ownsRow B 9 1 v n (svs L)) (hn : n = L.length) : RS w v L := by
  subst hn
  rcases h.2 with ⟨rfl, h0⟩ | ⟨g, cap, cur, rfl, _, _, h3, h4, _⟩
  · have hL : L = [] := List.eq_nil_of_length_eq_zero h0
    subst hL
    exact ⟨none, 0, rfl, by simp, by unfold maxLen; omega, fun i b hi => by simp at hi⟩
  · refine ⟨_, cap, rfl, h3, h4, fun i b hi => ⟨g, 0, rfl, ?_⟩⟩
    have hil := (List.getElem?_eq_some_iff.1 hi).1
    rw [Nat.zero_add, h.cellAt i (by have := h.1; omega)]
    simp [svs, hi]

end Go.Proofs.YtijkgdbabikojaaGreat.Fr

