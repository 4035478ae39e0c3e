/- A walk over strings.IndexByte, and over strings.ContainsRune at the six marks. -/
import Derived.Test.YtchdecoceokcmaaWH
import Derived.Test.YtchdecoceokcmaaMd
import Derived.Lib.Bytealg
namespace Go.Proofs.Ytchdecoceokcmaa
open Go.RowKit

set_option maxRecDepth 1000000 in
set_option maxHeartbeats 1000000 in
theorem ibyte51 (s : ByteArray) (c : Int) (w : World) :
    Calls Try.prog 51 #[.string s, .int .u8 c] w fun e w' => e = .returned (.int .i64 (Lib.indexByte s.data.toList c.toNat.toUInt8)) ∧ w' = w := by
  go_enter Try.func51, Try.ntmps51
  go_wp2
  rw [run_callFunc_extern Try.func53 (by kernel_rfl) (by kernel_rfl) (by kernel_rfl) (e := Extern.BytealgIndexByte.indexByte) (by kernel_rfl), Lib.run_indexByteString]
  simp only [Result.andThen]
  rw [Oper.upon_value]
  go_wp2
  go_ret
  exact ⟨rfl, rfl⟩

set_option maxRecDepth 1000000 in
set_option maxHeartbeats 1000000 in
theorem ibyte (s : ByteArray) (c : Int) (w : World) :
    Calls Try.prog 46 #[.string s, .int .u8 c] w fun e w' => e = .returned (.int .i64 (Lib.indexByte s.data.toList c.toNat.toUInt8)) ∧ w' = w := by
  go_enter Try.func46, Try.ntmps46
  go_wp2_with (go_at_call 51; refine (ibyte51 _ _ _).mono ?_; rintro e w' ⟨rfl, rfl⟩)
  go_ret
  exact ⟨rfl, rfl⟩

/-- The six marks. -/
theorem ib_marks (c : Int) (h0 : 0 ≤ c) (h1 : c < 256) : decide (0 ≤ Lib.indexByte [123, 125, 40, 41, 59, 44] c.toNat.toUInt8) = isMark c := by
  have h : ∀ n : Fin 256, decide (0 ≤ Lib.indexByte [123, 125, 40, 41, 59, 44] n.val.toUInt8) = isMark (n.val : Int) := by decide +kernel
  have := h ⟨c.toNat, by omega⟩
  simp only at this
  rw [this]
  congr 1
  omega

set_option maxRecDepth 1000000 in
set_option maxHeartbeats 1000000 in
theorem irune_ascii (c : Int) (h0 : 0 ≤ c) (h1 : c < 128) (w : World) :
    Calls Try.prog 41 #[.string ⟨#[123, 125, 40, 41, 59, 44]⟩, .int .i32 c] w fun e w' => ∃ k : Int, e = .returned (.int .i64 k) ∧ decide (0 ≤ k) = isMark c ∧ Below w.heap.size w w' := by
  have HM : Hid _ := ib_marks c h0 (by omega)
  go_enter Try.func41, Try.ntmps41
  go_wp2_with (go_at_call 46; refine (ibyte _ _ _).mono ?_; rintro e w' ⟨rfl, rfl⟩)
  go_ret
  exact ⟨_, rfl, HM.out, Below.refl _ _⟩
end Go.Proofs.Ytchdecoceokcmaa
