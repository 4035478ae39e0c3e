/- Walks over strings.Builder: copyCheck, WriteByte, WriteString, String. -/
import Derived.Test.YtchdecoceokcmaaWM
import Derived.Lib.Builder
import Derived.Lib.UnsafeStr
import Derived.Lib.AppendStr
import Derived.Laws.Externs
import Derived.Deep.RegionWith
namespace Go.Proofs.Ytchdecoceokcmaa
open Go.RowKit
set_option linter.unusedVariables false

/-- A builder's block and its bytes. -/
structure BAt (w : World) (b B : Nat) (p v : Value) (l : List UInt8) : Prop where
  blk : w.heap[b]? = some (.cells #[p, v] 56 (0, 0))
  own : w.ownsRow B 5 1 v l.length (bvs l)
  lt : b < B
  le : B ≤ w.heap.size
  nil : l = [] → v = .slice none 0 0

/-- A builder that holds these bytes. -/
def IsB (w : World) (b B : Nat) (l : List UInt8) : Prop := ∃ v, BAt w b B (.pointer none) v l ∨ BAt w b B (.pointer (some ⟨b, 0, none⟩)) v l

/-- Blocks that hold no bytes are left as they were, but for one. -/
def Kt (b : Nat) (w w' : World) : Prop := ∀ k c t fz, w.heap[k]? = some (.cells c t fz) → t ≠ 5 → k ≠ b → w'.heap[k]? = some (.cells c t fz)

theorem Kt.trans {b : Nat} {x y z : World} (h : Kt b x y) (k : Kt b y z) : Kt b x z := fun i c t fz hi ht hb => k i c t fz (h i c t fz hi ht hb) ht hb

theorem Kt.setCell (b : Nat) (w : World) (i : Nat) (v : Value) : Kt b w (w.setCell ⟨b, i, none⟩ v) := fun k c t fz hk _ hb => by rw [heap_setCell_other w ⟨b, i, none⟩ k v hb]; exact hk

theorem Try.info56 : (Try.prog.info? 56).map (fun i => i.size) = some 2 := by kernel_rfl

set_option maxRecDepth 1000000 in
set_option maxHeartbeats 1000000 in
theorem cc_used (b : Nat) (w : World) (h0 : w.cell? ⟨b, 0, none⟩ = some (.pointer (some ⟨b, 0, none⟩))) :
    Calls Try.prog 38 #[.pointer (some ⟨b, 0, none⟩)] w fun e w' => e = .returned (.tuple #[]) ∧ w' = w := by
  obtain ⟨j, hj, _⟩ := Option.map_eq_some_iff.1 Try.info56
  go_enter Try.func38, Try.ntmps38
  go_wp2
  rw [Lib.run_neq_ptr_same w _ Try.underlying54 hj]
  go_wp2
  go_end0
  exact ⟨rfl, rfl⟩

set_option maxRecDepth 1000000 in
set_option maxHeartbeats 1000000 in
theorem cc_fresh (b : Nat) (w : World) (h0 : w.cell? ⟨b, 0, none⟩ = some (.pointer none)) (hsh : w.shape? b = some (56, 2)) (hfz : w.frozen? ⟨b, 0, none⟩ = false) :
    Calls Try.prog 38 #[.pointer (some ⟨b, 0, none⟩)] w fun e w' => e = .returned (.tuple #[]) ∧ w' = w.setCell ⟨b, 0, none⟩ (.pointer (some ⟨b, 0, none⟩)) := by
  obtain ⟨j, hj, hjs⟩ := Option.map_eq_some_iff.1 Try.info56
  go_enter Try.func38, Try.ntmps38
  go_wp2
  rw [Lib.run_to_unsafe w ⟨b, 0, none⟩ Try.underlying54 Try.underlying79 hj (by rw [hjs]; decide) hsh (Nat.zero_lt_succ 1)]
  simp only [Result.andThen]
  rw [Oper.upon_value]
  go_wp2
  rw [run_callFunc_extern Try.func44 (by kernel_rfl) (by kernel_rfl) (by kernel_rfl) (e := Extern.AbiNoEscape.same) (by kernel_rfl)]
  rw [Lib.run_noEscape]
  simp only [Result.andThen]
  rw [Oper.upon_value]
  go_wp2
  rw [Lib.run_from_unsafe w ⟨b, 0, none⟩ Try.underlying79 Try.underlying54 hj hsh (by kernel_rfl)]
  simp only [Result.andThen]
  rw [Oper.upon_value]
  go_wp2
  go_end0
  exact ⟨rfl, rfl⟩

theorem cc_any (b B : Nat) (l : List UInt8) (w : World) (h : IsB w b B l) :
    Calls Try.prog 38 #[.pointer (some ⟨b, 0, none⟩)] w fun e w' => e = .returned (.tuple #[]) ∧ (∃ v, BAt w' b B (.pointer (some ⟨b, 0, none⟩)) v l) ∧ KB b B w w' ∧ Kt b w w' := by
  obtain ⟨v, h | h⟩ := h
  · obtain ⟨h1, h2, h3, h4, h5⟩ := h
    refine (cc_fresh b w (cell_blk h1 0) (by simp [World.shape?, h1]) (frozen_of_row w b 0 _ 56 h1)).mono ?_
    rintro e w' ⟨rfl, rfl⟩
    exact ⟨rfl, ⟨v, ⟨heap_setCell_same w b 0 _ 56 _ h1, ownsRow_setCell_below h2 h3 _, h3, by simpa using h4, h5⟩⟩, KB.setCell b B w 0 _, Kt.setCell b w 0 _⟩
  · refine (cc_used b w (cell_blk h.blk 0)).mono ?_
    rintro e w' ⟨rfl, rfl⟩
    exact ⟨rfl, ⟨v, h⟩, KB.refl b B _, fun _ _ _ _ h _ _ => h⟩
end Go.Proofs.Ytchdecoceokcmaa
