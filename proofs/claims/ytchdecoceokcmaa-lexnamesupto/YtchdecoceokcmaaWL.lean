/- A walk over 'lives': the program tells the document's examples. -/
import Derived.Test.YtchdecoceokcmaaWV
import Derived.Test.YtchdecoceokcmaaWZ
import Derived.KernelRfl
namespace Go.Proofs.Ytchdecoceokcmaa
open Go.RowKit
set_option linter.unusedVariables false

theorem px1 : Parts (⟨#[97, 49, 123, 98, 44, 32, 35, 32, 99, 10, 195, 188, 125]⟩ : ByteArray).data.toList [97, 49, 123, 98, 44, 32, 35, 32, 99, 10, 252, 125] [] := ⟨by decide +kernel, by decide +kernel, .inl rfl⟩
theorem px2 : Parts (⟨#[97, 33]⟩ : ByteArray).data.toList [97, 33] [] := ⟨by decide +kernel, by decide +kernel, .inl rfl⟩
theorem px3 : Parts (⟨#[49, 50]⟩ : ByteArray).data.toList [49, 50] [] := ⟨by decide +kernel, by decide +kernel, .inl rfl⟩
theorem px4 : Parts (⟨#[97, 49]⟩ : ByteArray).data.toList [97, 49] [] := ⟨by decide +kernel, by decide +kernel, .inl rfl⟩
theorem px5 : Parts (⟨#[49, 97]⟩ : ByteArray).data.toList [49, 97] [] := ⟨by decide +kernel, by decide +kernel, .inl rfl⟩
theorem px6 : Parts (⟨#[]⟩ : ByteArray).data.toList [] [] := ⟨by decide +kernel, by decide +kernel, .inl rfl⟩

theorem lx1 : lexR [97, 49, 123, 98, 44, 32, 35, 32, 99, 10, 252, 125] [] = ⟨[⟨1, [97, 49], 0⟩, ⟨2, [123], 2⟩, ⟨1, [98], 3⟩, ⟨2, [44], 4⟩, ⟨1, [195, 188], 10⟩, ⟨2, [125], 12⟩], 13, 0⟩ := by kernel_rfl
theorem lx2 : lexR [97, 33] [] = ⟨[], 1, 10⟩ := by kernel_rfl
theorem lx3 : lexR [49, 50] [] = ⟨[], 0, 10⟩ := by kernel_rfl

theorem nx4 (w : World) : Calls Try.prog 13 #[.string ⟨#[97, 49]⟩] w fun e w' => e = .returned (.bool true) ∧ Below w.heap.size w w' := by
  have h := name_any ⟨#[97, 49]⟩ _ _ px4 w
  have e : nameB (answer ⟨#[97, 49]⟩ [97, 49] []) [97, 49] = true := by kernel_rfl
  rwa [e] at h
theorem nx5 (w : World) : Calls Try.prog 13 #[.string ⟨#[49, 97]⟩] w fun e w' => e = .returned (.bool false) ∧ Below w.heap.size w w' := by
  have h := name_any ⟨#[49, 97]⟩ _ _ px5 w
  have e : nameB (answer ⟨#[49, 97]⟩ [49, 97] []) [49, 97] = false := by kernel_rfl
  rwa [e] at h
theorem nx6 (w : World) : Calls Try.prog 13 #[.string ⟨#[]⟩] w fun e w' => e = .returned (.bool false) ∧ Below w.heap.size w w' := by
  have h := name_any ⟨#[]⟩ _ _ px6 w
  have e : nameB (answer ⟨#[]⟩ [] []) [] = false := by kernel_rfl
  rwa [e] at h

set_option maxRecDepth 1000000 in
set_option maxHeartbeats 2000000 in
theorem lives_any (w : World) : Calls Try.prog 9 #[] w fun e w' => e = .returned (.bool true) ∧ Below w.heap.size w w' := by
  go_enter Try.func9, Try.ntmps9
  go_wp2_with fail
  refine (lex_any _ _ _ px1 _ (by decide)).mono ?_
  rw [lx1]
  rintro e w1 ⟨v1, rfl, ho1, hb1⟩
  have hr1 := readsX_of_readsT (readsT_of_owns ho1)
  clear ho1
  go_wp2_with fail
  refine (lex_any _ _ _ px2 _ (by decide)).mono ?_
  rw [lx2]
  rintro e w2 ⟨v2, rfl, ho2, hb2⟩
  have hr2 := hr1.later hb2
  have hb02 := hb1.trans (hb2.mono hb1.size)
  clear ho2 hr1 hb1 hb2
  go_wp2_with fail
  refine (lex_any _ _ _ px3 _ (by decide)).mono ?_
  rw [lx3]
  rintro e w3 ⟨v3, rfl, ho3, hb3⟩
  have hr3 := hr2.later hb3
  have hb03 := hb02.trans (hb3.mono hb02.size)
  clear ho3 hr2 hb02 hb3
  go_wp2_with fail
  refine (join_any v1 _ _ hr3 (by decide) (by decide)).mono ?_
  rintro e w4 ⟨rfl, hb4⟩
  have hb04 := hb03.trans (hb4.mono hb03.size)
  clear hb03 hb4 hr3
  rw [show jn (bys (txts [⟨1, [97, 49], 0⟩, ⟨2, [123], 2⟩, ⟨1, [98], 3⟩, ⟨2, [44], 4⟩, ⟨1, [195, 188], 10⟩, ⟨2, [125], 12⟩])) = [97, 49, 32, 123, 32, 98, 32, 44, 32, 195, 188, 32, 125] by rfl]
  go_wp2_with fail
  refine (nx4 _).mono ?_
  rintro e w5 ⟨rfl, hb5⟩
  have hb05 := hb04.trans (hb5.mono hb04.size)
  clear hb04 hb5
  go_wp2_with fail
  refine (word_any _ _).mono ?_
  rintro e w6 ⟨rfl, hw6⟩
  rw [show isWord (⟨#[111, 114]⟩ : ByteArray).data.toList = true by rfl]
  subst hw6
  go_wp2_with fail
  refine (nx5 _).mono ?_
  rintro e w7 ⟨rfl, hb7⟩
  have hb07 := hb05.trans (hb7.mono hb05.size)
  clear hb05 hb7
  go_wp2_with fail
  refine (nx6 _).mono ?_
  rintro e w8 ⟨rfl, hb8⟩
  have hb08 := hb07.trans (hb8.mono hb07.size)
  clear hb07 hb8
  go_wp2_with fail
  refine (word_any _ _).mono ?_
  rintro e w9 ⟨rfl, hw9⟩
  rw [show isWord (⟨#[97]⟩ : ByteArray).data.toList = false by rfl]
  subst hw9
  go_wp2
  go_ret
  exact ⟨rfl, hb08⟩
end Go.Proofs.Ytchdecoceokcmaa
