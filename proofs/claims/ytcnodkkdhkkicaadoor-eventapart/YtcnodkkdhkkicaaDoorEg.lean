/- The walks over the library's AppendUint and AppendInt, at bytes of the call's own. -/
import Derived.Test.YtcnodkkdhkkicaaDoorEf
import Derived.Lib.ItoaMem
namespace Go.Proofs.YtcnodkkdhkkicaaDoor
open Go.RowKit Go.Sort
set_option linter.unusedVariables false

theorem small_any (i : Nat) (h : i < 100) (w : World) : Calls Tryd.prog 55 #[.int .i64 i] w fun e w' => e = .returned (.string ⟨(dgs i).toArray⟩) ∧ w' = w :=
  Any.internal_strconv_small { Tryd.laysAI with } i h w

theorem numDigits_any (u : Nat) (h1 : 1 ≤ u) (h2 : u < 18446744073709551616) (w : World) (htab : Lib.TabIs Tryd.prog w "internal/strconv.uint64pow10" .u64 Lib.pow10Tab) :
    Calls Tryd.prog 56 #[.int .u64 u] w fun e w' => e = .returned (.int .i64 (Lib.nDigits u)) ∧ w' = w :=
  Any.internal_strconv_numDigits { Tryd.laysAI with } u h1 h2 w htab

/-- A new row of digits: what the library lays for a number from 100 on. -/
theorem format_any (u : Nat) (h1 : 100 ≤ u) (h2 : u < 18446744073709551616) (w : World) :
    Calls Tryd.prog 57 #[.slice (some ⟨w.heap.size, 0, none⟩) (Lib.nDigits u) 24, .int .u64 u] (w.alloc (.cells Lib.zeros24 87)) fun e w' => e = .returned (.tuple #[]) ∧ (∀ j x, (bvs (dgs u))[j]? = some x → w'.cell? ((⟨w.heap.size, 0, none⟩ : Addr).add j) = some x) ∧ Below w.heap.size w w' := by
  have hnd : Lib.nDigits u ≤ 20 := by have := Lib.numDigits_eq u (by omega) h2; split at this <;> omega
  have hH0 := Lib.holds_zero0 w 87 (Lib.nDigits u) (by omega)
  have hfmt := Any.internal_strconv_formatBase10 (P := Tryd.prog) (ρ := Tryd.laysAI_ren) { Tryd.laysAI with } w.heap.size 0 24 u (Array.replicate (Lib.nDigits u) 0) (w.alloc (.cells Lib.zeros24 87)) hH0 (by rw [Array.size_replicate]; exact Lib.lt_pow_nDigits u) h2 (by rw [Array.size_replicate]; omega)
  rw [Array.size_replicate] at hfmt
  refine Calls.mono hfmt ?_
  rintro e w' ⟨rfl, k, v', dk, rfl, hF⟩
  refine ⟨rfl, ?_, ?_⟩
  · intro j x hj
    have hjl : j < (dgs u).length := by
      have h5 := (List.getElem?_eq_some_iff.1 hj).1
      rwa [bvs_len] at h5
    have e5 : (bvs (dgs u))[j]? = some (Value.int .u8 ((dgs u)[j].toNat : Int)) := by simp [bvs, hjl]
    rw [e5] at hj
    cases hj
    have e6 : (dgs u)[j] = dk[j]! := Lib.row_is_numeral hF j hjl
    rw [e6, Lib.add_plain, World.cell?_drewN]
    exact cell?_putRow (fun (b : UInt8) => Value.int .u8 (b.toNat : Int)) _ w.heap.size 0 _ dk hH0 (by rw [hF.size, Array.size_replicate]) j (by rw [hF.size]; unfold dgs at hjl; rw [Lib.decDigits_length] at hjl; exact hjl)
  · obtain ⟨os, eo⟩ := Lib.fin_at w (.cells Lib.zeros24 87) dk k 0
    rw [eo]
    exact Lib.below_grow w.heap.size w (Nat.le_refl _) k os

set_option maxRecDepth 1000000 in
set_option maxHeartbeats 4000000 in
theorem appendUint_any (B u : Nat) (hu : u ≤ 1099511627776) (v : Value) (l : List UInt8) (w : World) (hv : MB B w v l) (hl : l.length ≤ 100000) (hB : B ≤ w.heap.size) (htab : Tab B w) :
    Calls Tryd.prog 52 #[v, .int .u64 u, .int .i64 10] w fun e w' => ∃ v', e = .returned v' ∧ MB B w' v' (l ++ dgs u) ∧ Below B w w' := by
  have hdl := dgs_small hu
  have HV : Hid (MB B w v l) := hv
  have HB : Hid (B ≤ w.heap.size) := hB
  by_cases h : u < 100
  · have HS : Hid _ := small_any u h
    have HL : Hid (l.length + (dgs u).length ≤ 1000000) := by show _ ≤ _; omega
    generalize dgs u = D at *
    clear hv hdl htab hB hl
    go_enter Tryd.func52, Tryd.ntmps52
    go_wp2_with fail
    refine Calls.mono (HS.out _) ?_
    rintro e w1 ⟨rfl, h2⟩
    obtain rfl := h2.symm
    clear h2
    go_wp2_with (first
      | (at_builtin; refine app_str rfl _ _ rfl B v l D rfl HV.out rfl HL.out HB.out ?_; intro v' w2 hm2 hb2; have HM2 : Hid _ := hm2; have HB2 : Hid _ := hb2; clear hm2 hb2))
    go_ret
    exact ⟨_, rfl, HM2.out, HB2.out⟩
  · have hnd : Lib.nDigits u ≤ 20 := by have := Lib.numDigits_eq u (by omega) (by omega); split at this <;> omega
    have hsl : ∀ W : World, (Instr.sliceAt 87 (.pointer (some ⟨w.heap.size, 0, none⟩)) none (some (.int .i64 (Lib.nDigits u : Int))) none).run Tryd.prog W = .ok (.slice (some ⟨w.heap.size, 0, none⟩) (Lib.nDigits u) 24) W := fun W => by
      have hal : Tryd.prog.arrayLen 87 = 24 := by kernel_rfl
      rw [run_sliceAt_array_h W 87 ⟨w.heap.size, 0, none⟩ (by simp [Program.arrayLen, Program.elem, Tryd.underlying87]) .i64 (Lib.nDigits u : Int) (by omega) (by rw [hal]; omega)]
      go_simp
    have HN : Hid _ := numDigits_any u (by omega) (by omega) (w.alloc (.cells Lib.zeros24 87)) (htab _ ((Below.refl _ _).alloc hB _))
    have HF : Hid _ := format_any u (by omega) (by omega) w
    have HL : Hid (l.length + (dgs u).length ≤ 1000000) := by show _ ≤ _; omega
    have HE : Hid (Lib.nDigits u = (dgs u).length) := by show _ = _; unfold dgs; rw [Lib.decDigits_length]
    have iu : (100 : Int) ≤ (u : Int) := by omega
    generalize dgs u = D at *
    generalize Lib.nDigits u = nd at *
    clear hv hdl htab hB hl h
    go_enter Tryd.func52, Tryd.ntmps52
    go_wp2_with fail
    refine Calls.mono HN.out ?_
    rintro e w1 ⟨rfl, h2⟩
    obtain rfl := h2
    go_wp2_with fail
    refine Calls.mono HF.out ?_
    rintro e w2 ⟨rfl, hc2, hb2⟩
    have HC2 : Hid _ := hc2
    have HB2 : Hid (Below w.heap.size w w2) := hb2
    clear hc2 hb2 HF
    go_wp2_with (first
      | (at_builtin; refine app_slice rfl _ _ rfl B v l D rfl (HV.out.later HB2.out) _ nd 24 rfl HE.out HC2.out HL.out (Nat.le_trans HB.out HB2.out.size) ?_; intro v' w3 hm3 hb3; have HM3 : Hid _ := hm3; have HB3 : Hid _ := hb3; clear hm3 hb3))
    go_ret
    exact ⟨_, rfl, HM3.out, (HB2.out.mono HB.out).trans HB3.out⟩

set_option maxRecDepth 1000000 in
set_option maxHeartbeats 4000000 in
theorem appendInt_in (B u : Nat) (hu : u ≤ 1099511627776) (v : Value) (l : List UInt8) (w : World) (hv : MB B w v l) (hl : l.length ≤ 100000) (hB : B ≤ w.heap.size) (htab : Tab B w) :
    Calls Tryd.prog 42 #[v, .int .i64 u, .int .i64 10] w fun e w' => ∃ v', e = .returned v' ∧ MB B w' v' (l ++ dgs u) ∧ Below B w w' := by
  have HA : Hid _ := appendUint_any B u hu v l w hv hl hB htab
  have hw : IntKind.u64.wrap (u : Int) = (u : Int) := by simp [IntKind.wrap, IntKind.signed, IntKind.bits]; omega
  clear hv htab
  go_enter Tryd.func42, Tryd.ntmps42
  go_wp2_with fail
  refine Calls.mono HA.out ?_
  rintro e w1 ⟨v1, rfl, hm, hb⟩
  have HM : Hid _ := hm
  have HB1 : Hid _ := hb
  clear hm hb
  go_wp2_with fail
  go_ret
  exact ⟨_, rfl, HM.out, HB1.out⟩

set_option maxRecDepth 1000000 in
set_option maxHeartbeats 4000000 in
theorem appendInt_any (B u : Nat) (hu : u ≤ 1099511627776) (v : Value) (l : List UInt8) (w : World) (hv : MB B w v l) (hl : l.length ≤ 100000) (hB : B ≤ w.heap.size) (htab : Tab B w) :
    Calls Tryd.prog 29 #[v, .int .i64 u, .int .i64 10] w fun e w' => ∃ v', e = .returned v' ∧ MB B w' v' (l ++ dgs u) ∧ Below B w w' := by
  have HA : Hid _ := appendInt_in B u hu v l w hv hl hB htab
  clear hv htab
  go_enter Tryd.func29, Tryd.ntmps29
  go_wp2_with fail
  refine Calls.mono HA.out ?_
  rintro e w1 ⟨v1, rfl, hm, hb⟩
  have HM : Hid _ := hm
  have HB1 : Hid _ := hb
  clear hm hb
  go_wp2_with fail
  go_ret
  exact ⟨_, rfl, HM.out, HB1.out⟩
end Go.Proofs.YtcnodkkdhkkicaaDoor
