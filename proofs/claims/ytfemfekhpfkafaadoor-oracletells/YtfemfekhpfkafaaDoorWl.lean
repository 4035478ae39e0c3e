/- What came in: how it reads. -/
import Derived.Test.YtfemfekhpfkafaaDoorWi
import Derived.ChangeOld
import Derived.Deep.Strs
import Derived.OpenShut
import Derived.ProofKit
import Derived.ShutString
namespace Go.Proofs.YtfemfekhpfkafaaDoor

open Go.RowKit Go.ChangeShapes Go.WideShapes Go.ChangeAt

set_option linter.unusedVariables false

variable {H : Type} {enc : TypeId × Value → H} {w : World} {base : Nat} {spare : Nat → Bool} {held : Bool}

theorem reads_u8s {a : Addr} {len cap : Nat} {zs : List Int} (h : ∀ i, i < zs.length → w.cell? (a.add i) = some (.int .u8 (zs.getD i 0))) (hw : ∀ n ∈ zs, (Lit.int .u8 n).wf = true) (hl : len ≤ zs.length) (hc : len ≤ cap) (hm : cap ≤ maxLen) : RB w (.slice (some a) len cap) ((zs.take len).map fun z => UInt8.ofNat z.toNat) := by
  have hlen : ((zs.take len).map fun z => UInt8.ofNat z.toNat).length = len := by simp; omega
  refine ⟨some a, cap, by rw [hlen], by rw [hlen]; exact hc, hm, (fun h => by cases h), fun i hi => ?_⟩
  rw [hlen] at hi
  have hz : i < zs.length := by omega
  have hwf := hw zs[i] (List.getElem_mem hz)
  have hwf2 : 0 ≤ zs[i] ∧ zs[i] ≤ 255 := by simpa [Lit.wf, IntKind.min, IntKind.max, IntKind.signed, IntKind.bits] using hwf
  obtain ⟨b, off, rfl, hcc⟩ := ints_at h (by omega)
  refine ⟨b, off, rfl, ?_⟩
  rw [hcc i (by omega)]
  have e1 : zs.getD i 0 = zs[i] := by simp [hz]
  have e2 : ((zs.take len).map fun z => UInt8.ofNat z.toNat).getD i 0 = UInt8.ofNat zs[i].toNat := by simp [hz, hi]
  rw [e1, e2, u8_nat, Nat.mod_eq_of_lt (by omega)]
  congr 2
  omega

theorem open_u8s {fuel : Nat} {cs : List Value} {x : DataW H × List MemPlace} (h : DataW.trod enc Tryd.prog w base spare held fuel 22 cs = some x) : ∃ v l, cs = [v] ∧ RB w v l := by
  rcases open_ints Tryd.underlying22 Tryd.underlying5 (by kernel_rfl) h with ⟨hcs, _⟩ | ⟨x, l, c, zs, hcs, _, hl, hm, hz, _, hcell, hwz⟩
  · exact ⟨_, [], hcs, RB.nil w⟩
  · exact ⟨_, _, hcs, reads_u8s hcell hwz (by rw [hz]; split <;> omega) hl hm⟩

theorem open_i64s {fuel : Nat} {cs : List Value} {x : DataW H × List MemPlace} (h : DataW.trod enc Tryd.prog w base spare held fuel 33 cs = some x) : ∃ v l, cs = [v] ∧ RI w v l := by
  rcases open_ints Tryd.underlying33 Tryd.underlying3 (by kernel_rfl) h with ⟨hcs, _⟩ | ⟨x, l, c, zs, hcs, _, hl, hm, hz, _, hcell, hwz⟩
  · exact ⟨_, [], hcs, RI.nil w⟩
  · have hlz : l ≤ zs.length := by rw [hz]; split <;> omega
    have hlen : (zs.take l).length = l := by simp; omega
    refine ⟨_, zs.take l, hcs, ⟨some x, c, by rw [hlen], by rw [hlen]; exact hl, hm, fun i hi => ?_⟩⟩
    rw [hlen] at hi
    obtain ⟨b, off, rfl, hcc⟩ := ints_at hcell (by omega)
    refine ⟨b, off, rfl, ?_⟩
    rw [hcc i (by omega)]
    congr 2
    simp only [List.getD_eq_getElem?_getD, List.getElem?_take]
    rw [if_pos hi]

/-- A part of a slice of bytes. -/
theorem slice_part {w : World} {a : Option Addr} {n ca : Nat} {l : List UInt8} (h : RB w (.slice a n ca) l) (lo hi : Nat) (h1 : lo ≤ hi) (h2 : hi ≤ l.length) :
    ∃ V, RB w V ((l.take hi).drop lo) ∧ ∀ wx : World, (Instr.sliceAt 22 (.slice a n ca) (some (.int .i64 lo)) (some (.int .i64 hi)) none).run Tryd.prog wx = .ok V wx := by
  have h0 := h
  obtain ⟨a', ca', he, h3, _, _⟩ := h0
  simp only [Value.slice.injEq] at he
  obtain ⟨rfl, rfl, rfl⟩ := he
  have hs := h.sub lo hi ca h1 h2 (by omega) (Nat.le_refl _)
  refine ⟨_, hs, fun wx => ?_⟩
  rw [run_sliceAt_slice wx 22 _ _ _ _ Tryd.underlying22, run_slice_lh wx 22 a l.length ca Tryd.underlying22 .i64 .i64 lo hi (by omega) (by omega) (by omega)]
  have : (sizeOf (Tryd.prog.elem 22)).run Tryd.prog wx = .ok 1 wx := by kernel_rfl
  rw [this]
  simp

end Go.Proofs.YtfemfekhpfkafaaDoor
