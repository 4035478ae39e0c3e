/- Walks over the document's Text: the text of code points; the error where one number is none. -/
import Derived.Test.YtilmgmafhmgddaaWO
namespace Go.Proofs.Ytilmgmafhmgddaa
open Go.RowKit

theorem ba_ext {Y : ByteArray} {l : List UInt8} (h : Y.data.toList = l) : Y = ⟨l.toArray⟩ := by
  apply ByteArray.ext
  apply Array.ext'
  simpa using h

theorem one_str (c : Int) (hc : isCp c = true) (Y : ByteArray) (hY : Y.data.toList = enc c) (w : World) :
    Calls Try.prog 27 #[.int .i64 c] w fun e w' => e = .returned (.string Y) ∧ Below w.heap.size w w' := by
  rw [ba_ext hY]
  exact one_any c hc w

theorem ba_append (a b : ByteArray) : (a ++ b).data.toList = a.data.toList ++ b.data.toList := by
  rw [ByteArray.data_append]
  simp

set_option maxRecDepth 1000000 in
set_option maxHeartbeats 1000000 in
theorem rtext_good (x : Value) (l : List Int) (hcp : ∀ c ∈ l, isCp c = true) (w : World) (hx : Reads w x l) (hl : l.length ≤ 100000) :
    Calls Try.prog 18 #[x] w fun e w' => e = .returned (.tuple #[.string ⟨(encAll l).toArray⟩, .int .i64 0]) ∧ Below w.heap.size w w' := by
  obtain ⟨a, ca, rfl, _, hca⟩ := hx
  go_enter Try.func18, Try.ntmps18
  go_wp2
  go_loopw [4, 5] (fun sv i wr => ∃ (k : Nat) (S : ByteArray), k ≤ l.length ∧ i = .int .i64 k ∧ sv = .string S ∧ Hid (S.data.toList = encAll (l.take k)) ∧ S.size ≤ 4 * k ∧ Below w.heap.size w wr) (fun _ i _ => l.length - (intOf i).toNat)
  case atStart => exact ⟨0, ⟨#[]⟩, Nat.zero_le _, rfl, rfl, rfl, Nat.le_refl _, Below.refl _ _⟩
  case round =>
    obtain ⟨k, S, hk, rfl, rfl, HS, hm, hbw⟩ := hrel
    by_cases hlt : k < l.length
    · obtain ⟨b1, o1, rfl, hc1⟩ := hca k hlt
      have hd1 := cell_later hbw hc1
      have hcz : isCp (l.getD k 0) = true := hcp _ (by simp [hlt])
      have HT : Hid (l.take (k + 1) = l.take k ++ [l.getD k 0]) := take_snoc l k hlt
      generalize l.getD k 0 = z at *
      have hep := enc_pos z hcz
      have hsw := hbw.size
      have HC : Hid (isCp z = true) := hcz
      obtain ⟨Y, HY⟩ : ∃ Y : ByteArray, Hid (Y.data.toList = enc z) := ⟨⟨(enc z).toArray⟩, by show _ = _; simp⟩
      have hYz : Y.size = (enc z).length := by rw [← size_list, HY.out]
      have hYs : Y.size ≤ 4 := by omega
      have HSz : Hid ((S ++ Y).data.toList = encAll (l.take (k + 1))) := by show _ = _; rw [ba_append, HS.out, HY.out, HT.out, encAll_append, encAll_one]
      have HSS : Hid ((S ++ Y).size ≤ 4 * (k + 1)) := by show _ ≤ _; simp; omega
      clear hca hc1 hcp hYz hep
      go_wp2_with (first
        | (go_at_call 26; refine (is_any _ _).mono ?_; rintro e w' ⟨rfl, rfl⟩)
        | (go_at_call 27; refine (one_str z HC.out Y HY.out _).mono ?_; rintro e w3 ⟨rfl, hb3⟩))
      have hbw3 : Below w.heap.size w w3 := hbw.trans (hb3.mono hsw)
      go_roundw
      case rel => exact ⟨k + 1, S ++ Y, by omega, by go_num, rfl, HSz, HSS.out, hbw3⟩
      case measure => simp [intOf]; omega
    · have hkk : k = l.length := by omega
      have HK : Hid (S = ⟨(encAll l).toArray⟩) := by
        show _ = _
        have h := HS.out
        rw [hkk, List.take_length] at h
        exact ba_ext h
      clear hkk
      go_wp2
      go_ret2
      rw [← HK.out]
      exact ⟨rfl, hbw⟩

set_option maxRecDepth 1000000 in
set_option maxHeartbeats 1000000 in
theorem rtext_bad (x : Value) (d t : List Int) (y : Int) (hcp : ∀ c ∈ d, isCp c = true) (hy : isCp y = false) (w : World) (hx : Reads w x (d ++ y :: t)) (hl : (d ++ y :: t).length ≤ 100000) :
    Calls Try.prog 18 #[x] w fun e w' => e = .returned (.tuple #[.string ByteArray.empty, .int .i64 2]) ∧ Below w.heap.size w w' := by
  obtain ⟨a, ca, rfl, _, hca⟩ := hx
  obtain ⟨l, hL⟩ : ∃ l, l = d ++ y :: t := ⟨_, rfl⟩
  have hdl : d.length < l.length := by rw [hL]; simp
  have hyl : l.getD d.length 0 = y := by rw [hL]; simp
  have hcl : ∀ k, k < d.length → isCp (l.getD k 0) = true := by
    intro k hk
    rw [hL]
    refine hcp _ ?_
    simp [List.getElem?_append_left hk, hk]
  rw [← hL] at hca hl ⊢
  clear hL hcp
  go_enter Try.func18, Try.ntmps18
  go_wp2
  go_loopw [4, 5] (fun sv i wr => ∃ (k : Nat) (S : ByteArray), k ≤ d.length ∧ i = .int .i64 k ∧ sv = .string S ∧ S.size ≤ 4 * k ∧ Below w.heap.size w wr) (fun _ i _ => l.length - (intOf i).toNat)
  case atStart => exact ⟨0, ⟨#[]⟩, Nat.zero_le _, rfl, rfl, Nat.le_refl _, Below.refl _ _⟩
  case round =>
    obtain ⟨k, S, hk, rfl, rfl, hm, hbw⟩ := hrel
    have hlt : k < l.length := by omega
    obtain ⟨b1, o1, rfl, hc1⟩ := hca k hlt
    have hd1 := cell_later hbw hc1
    have hsw := hbw.size
    by_cases hkd : k < d.length
    · have hcz := hcl k hkd
      generalize l.getD k 0 = z at *
      have hep := enc_pos z hcz
      have HC : Hid (isCp z = true) := hcz
      obtain ⟨Y, HY⟩ : ∃ Y : ByteArray, Hid (Y.data.toList = enc z) := ⟨⟨(enc z).toArray⟩, by show _ = _; simp⟩
      have hYz : Y.size = (enc z).length := by rw [← size_list, HY.out]
      have hYs : Y.size ≤ 4 := by omega
      have HSS : Hid ((S ++ Y).size ≤ 4 * (k + 1)) := by show _ ≤ _; simp; omega
      clear hca hc1 hcl hyl hYz hep
      go_wp2_with (first
        | (go_at_call 26; refine (is_any _ _).mono ?_; rintro e w' ⟨rfl, rfl⟩)
        | (go_at_call 27; refine (one_str z HC.out Y HY.out _).mono ?_; rintro e w3 ⟨rfl, hb3⟩))
      have hbw3 : Below w.heap.size w w3 := hbw.trans (hb3.mono hsw)
      go_roundw
      case rel => exact ⟨k + 1, S ++ Y, by omega, by go_num, rfl, HSS.out, hbw3⟩
      case measure => simp [intOf]; omega
    · have hkk : k = d.length := by omega
      subst hkk
      rw [hyl] at hc1 hd1
      clear hca hc1 hcl hyl
      go_wp2_with (go_at_call 26; refine (is_any _ _).mono ?_; rintro e w' ⟨rfl, rfl⟩)
      go_ret2
      exact ⟨rfl, hbw⟩
end Go.Proofs.Ytilmgmafhmgddaa
