/- A walk over 'lives': the program tells the document's examples. -/
import Derived.Test.YtilmgmafhmgddaaWU
import Derived.Test.YtilmgmafhmgddaaWT
import Derived.Test.YtilmgmafhmgddaaWC
namespace Go.Proofs.Ytilmgmafhmgddaa
open Go.RowKit

theorem parts_ex1 : Parts (⟨#[97, 195, 169, 226, 130, 172]⟩ : ByteArray).data.toList [97, 233, 8364] [] :=
  ⟨by decide +kernel, by decide +kernel, .inl rfl⟩
theorem parts_ex2 : Parts (⟨#[97, 195, 169, 98]⟩ : ByteArray).data.toList [97, 233, 98] [] :=
  ⟨by decide +kernel, by decide +kernel, .inl rfl⟩
theorem nocp_ex : NoCp [195] := by
  intro c hc hp
  have h1 := enc_pos c hc
  have h2 := hp.length_le
  simp only [List.length_cons, List.length_nil] at h2
  obtain ⟨n, rfl, h⟩ := cp_cases c hc
  rcases h with h | ⟨h3, h4⟩ | ⟨h3, h4, _⟩ | ⟨h3, h4⟩
  · rw [enc1 n h] at hp
    obtain ⟨t, ht⟩ := hp
    have e := congrArg (fun l : List UInt8 => (l.getD 0 0).toNat) ht
    simp only [List.cons_append, List.getD_cons_zero, ofNat_toNat n (by omega)] at e
    have e2 : (195 : UInt8).toNat = 195 := rfl
    omega
  · rw [enc2 n h3 h4] at h2; simp at h2
  · rw [enc3 n h3 h4] at h2; simp at h2
  · rw [enc4 n h3] at h2; simp at h2
theorem parts_ex3 : Parts (⟨#[97, 195]⟩ : ByteArray).data.toList [97] [195] :=
  ⟨by decide +kernel, by decide +kernel, .inr nocp_ex⟩

theorem reads_one (w : World) (x : Int) (g cap : Nat) (hg : w.cell? ⟨g, 0, none⟩ = some (.int .i64 x)) : Reads w (.slice (some ⟨g, 0, none⟩) 1 cap) [x] := by
  refine ⟨_, cap, rfl, (fun h => by cases h), fun i hi => ⟨g, 0, rfl, ?_⟩⟩
  have h : i = 0 := by simpa using hi
  subst h
  simpa using hg

theorem reads_three (w : World) (x y z : Int) (g cap : Nat) (h0 : w.cell? ⟨g, 0, none⟩ = some (.int .i64 x)) (h1 : w.cell? ⟨g, 1, none⟩ = some (.int .i64 y)) (h2 : w.cell? ⟨g, 2, none⟩ = some (.int .i64 z)) : Reads w (.slice (some ⟨g, 0, none⟩) 3 cap) [x, y, z] := by
  refine ⟨_, cap, rfl, (fun h => by cases h), fun i hi => ⟨g, 0, rfl, ?_⟩⟩
  match i, hi with
  | 0, _ => simpa using h0
  | 1, _ => simpa using h1
  | 2, _ => simpa using h2
  | i + 3, hi => simp at hi; omega

theorem cut_ex (w : World) : Calls Try.prog 12 #[.string ⟨#[97, 195, 169, 98]⟩, .int .i64 2] w fun e w' => e = .returned (.tuple #[.string ⟨#[97, 195, 169]⟩, .string ⟨#[98]⟩]) ∧ Below w.heap.size w w' := by
  have h := cut_any ⟨#[97, 195, 169, 98]⟩ _ _ parts_ex2 2 w (by decide) (by decide) (by decide)
  have e : cutV [97, 233, 98] 2 = 3 := by decide +kernel
  rw [e] at h
  exact h

theorem bad_ex (w : World) : Calls Try.prog 15 #[.string ⟨#[97, 195]⟩] w fun e w' => e = .returned (.int .i64 1) ∧ Below w.heap.size w w' := by
  have h := bad_any ⟨#[97, 195]⟩ _ _ parts_ex3 w (by decide)
  have e : badV [97] [195] = 1 := by decide +kernel
  rw [e] at h
  exact h

theorem class_ex (w : World) : Calls Try.prog 21 #[.int .i64 233] w fun e w' => e = .returned (.int .i64 1) ∧ Below w.heap.size w w' := by
  have h := gclass_any 233 w
  have e : cls 233 = 1 := by decide +kernel
  rw [e] at h
  refine h.mono ?_
  rintro e w' ⟨rfl, rfl⟩
  exact ⟨rfl, ((Below.refl _ _).alloc (Nat.le_refl _) _).alloc (by simp) _⟩

set_option maxRecDepth 1000000 in
set_option maxHeartbeats 2000000 in
theorem lives_any (w : World) : Calls Try.prog 9 #[] w fun e w' => e = .returned (.bool true) ∧ Below w.heap.size w w' := by
  go_enter Try.func9, Try.ntmps9
  go_wp2_with fail
  refine (runes_good _ _ parts_ex1 _ (by decide)).mono ?_
  rintro e w1 ⟨v, rfl, hown, hb1⟩
  have hv := reads_of_owns hown rfl
  clear hown
  go_wp2_with fail
  refine (text_bad _ [] [] 55296 (by simp) (by decide) _ (reads_one _ _ _ _ (by simp)) (by decide)).mono ?_
  rintro e w2 ⟨rfl, hb2⟩
  have hb12 : Below w1.heap.size w1 w2 := ((Below.refl _ _).alloc (Nat.le_refl _) _).trans (hb2.mono (by simp))
  clear hb2
  go_wp2_with fail
  refine (cut_ex _).mono ?_
  rintro e w3 ⟨rfl, hb3⟩
  have hb13 : Below w1.heap.size w1 w3 := hb12.trans (hb3.mono hb12.size)
  clear hb3 hb12
  have hz1 := hb1.size
  have hz13 := hb13.size
  go_wp2_with fail
  refine (same_eq _ _ [97, 233, 8364] _ (hv.later (hb13.alloc hz13 _)) (reads_three _ _ _ _ _ _ (by simp) (by simp) (by simp)) (by decide)).mono ?_
  rintro e w4 ⟨rfl, n, rfl⟩
  have hb4 : Below w.heap.size w ((w3.alloc (.cells #[.int .i64 97, .int .i64 233, .int .i64 8364] 3)).drewN n) := below_drewN ((hb1.trans (hb13.mono hz1)).alloc (by omega) _) n
  clear hb13 hb1 hv
  have hz4 := hb4.size
  generalize (w3.alloc (.cells #[.int .i64 97, .int .i64 233, .int .i64 8364] 3)).drewN n = w4 at *
  go_wp2_with fail
  refine (bad_ex _).mono ?_
  rintro e w5 ⟨rfl, hb5⟩
  have hb05 : Below w.heap.size w w5 := hb4.trans (hb5.mono hz4)
  clear hb5 hb4
  have hz5 := hb05.size
  go_wp2_with fail
  refine (class_ex _).mono ?_
  rintro e w6 ⟨rfl, hb6⟩
  have hb06 : Below w.heap.size w w6 := hb05.trans (hb6.mono hz5)
  clear hb6 hb05
  go_wp2
  go_ret
  exact ⟨rfl, hb06⟩
end Go.Proofs.Ytilmgmafhmgddaa
