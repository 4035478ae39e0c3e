/- Walks over the document's point, run and mark of layer 2. -/
import Derived.Test.YtchdecoceokcmaaWG
import Derived.Test.YtchdecoceokcmaaWD
import Derived.Test.YtchdecoceokcmaaMe
import Derived.Test.YtchdecoceokcmaaWT
namespace Go.Proofs.Ytchdecoceokcmaa
open Go.RowKit
set_option linter.unusedVariables false

set_option maxRecDepth 1000000 in
set_option maxHeartbeats 1000000 in
theorem mark_any (r : Int) (w : World) : Calls Try.prog 26 #[.int .i64 r] w fun e w' => e = .returned (.bool (isMark r)) ∧ w' = w := by
  go_enter Try.func26, Try.ntmps26
  go_wp2
  all_goals go_ret
  all_goals refine ⟨ret_bool ?_, rfl⟩
  all_goals unfold isMark
  all_goals first | (simp_all; done) | (rw [Bool.eq_iff_iff]; simp_all; done) | (rw [Bool.eq_iff_iff]; simp; omega)

set_option maxRecDepth 1000000 in
set_option maxHeartbeats 1000000 in
theorem point_cp_a (s x : ByteArray) (at_ : Nat) (c : Int) (cs' : List Int) (rest' : List UInt8) (hs : s.size ≤ 65536) (hat : at_ < s.size) (h4 : s.size ≤ at_ + 4) (hx : s.extract at_ (min s.size (at_ + 4)) = x) (hp : Parts x.data.toList (c :: cs') rest') (w : World) :
    Calls Try.prog 23 #[.string s, .int .i64 at_] w fun e w' => e = .returned (.tuple #[.int .i64 c, .int .i64 ((enc c).length : Nat)]) ∧ Below w.heap.size w w' := by
  have HX : Hid (x.size ≤ 100000) := by show _ ≤ _; rw [← hx]; simp; omega
  have hc : isCp c = true := hp.cp c (by simp)
  have hez := enc_pos c hc
  have HCUT : Hid (cutV (c :: cs') 1 = (enc c).length) := by show _ = _; simp [cutV, encAll]
  have HFIRST : Hid (x.extract 0 (enc c).length = ⟨(enc c).toArray⟩) := by
    refine extract_mid x [] (enc c) (encAll cs' ++ rest') ?_ _ _ rfl (by simp)
    rw [hp.eq]
    simp [encAll]
  have HP1 : Hid (Parts (⟨(enc c).toArray⟩ : ByteArray).data.toList [c] []) := ⟨by simp [encAll], by simpa using hc, .inl rfl⟩
  have HX1 : Hid ((⟨(enc c).toArray⟩ : ByteArray).size ≤ 100000) := by show (enc c).toArray.size ≤ _; simp; omega
  have HSZ : Hid ((((⟨(enc c).toArray⟩ : ByteArray).size : Nat) : Int) = ((enc c).length : Nat)) := by show (((enc c).toArray.size : Nat) : Int) = _; simp
  have HP : Hid _ := hp
  clear hp hez
  rw [show min s.size (at_ + 4) = s.size by omega] at hx
  generalize hgE : (⟨(enc c).toArray⟩ : ByteArray) = E at *
  go_enter Try.func23, Try.ntmps23
  go_wp2_with fail
  refine (rcut_any x (c :: cs') rest' HP.out 1 _ HX.out).mono ?_
  rw [HCUT.out, HFIRST.out]
  rintro e w1 ⟨rfl, hb1⟩
  go_wp2_with fail
  refine (rrunes_good _ [c] HP1.out _ HX1.out).mono ?_
  rintro e w2 ⟨v, rfl, hown, hb2⟩
  have hr := reads_of_owns hown rfl
  have hb02 := hb1.trans (hb2.mono hb1.size)
  clear hown hb1 hb2
  obtain ⟨a, cap, rfl, _, hc⟩ := hr
  obtain ⟨b, off, rfl, hcell⟩ := hc 0 (by simp)
  simp only [Nat.add_zero, List.getD_cons_zero] at hcell
  clear hc
  go_wp2
  go_ret2
  rw [HSZ.out]
  exact ⟨rfl, hb02⟩

set_option maxRecDepth 1000000 in
set_option maxHeartbeats 1000000 in
theorem point_cp_b (s x : ByteArray) (at_ : Nat) (c : Int) (cs' : List Int) (rest' : List UInt8) (hs : s.size ≤ 65536) (hat : at_ < s.size) (h4 : ¬ s.size ≤ at_ + 4) (hx : s.extract at_ (min s.size (at_ + 4)) = x) (hp : Parts x.data.toList (c :: cs') rest') (w : World) :
    Calls Try.prog 23 #[.string s, .int .i64 at_] w fun e w' => e = .returned (.tuple #[.int .i64 c, .int .i64 ((enc c).length : Nat)]) ∧ Below w.heap.size w w' := by
  have HX : Hid (x.size ≤ 100000) := by show _ ≤ _; rw [← hx]; simp; omega
  have hc : isCp c = true := hp.cp c (by simp)
  have hez := enc_pos c hc
  have HCUT : Hid (cutV (c :: cs') 1 = (enc c).length) := by show _ = _; simp [cutV, encAll]
  have HFIRST : Hid (x.extract 0 (enc c).length = ⟨(enc c).toArray⟩) := by
    refine extract_mid x [] (enc c) (encAll cs' ++ rest') ?_ _ _ rfl (by simp)
    rw [hp.eq]
    simp [encAll]
  have HP1 : Hid (Parts (⟨(enc c).toArray⟩ : ByteArray).data.toList [c] []) := ⟨by simp [encAll], by simpa using hc, .inl rfl⟩
  have HX1 : Hid ((⟨(enc c).toArray⟩ : ByteArray).size ≤ 100000) := by show (enc c).toArray.size ≤ _; simp; omega
  have HSZ : Hid ((((⟨(enc c).toArray⟩ : ByteArray).size : Nat) : Int) = ((enc c).length : Nat)) := by show (((enc c).toArray.size : Nat) : Int) = _; simp
  have HP : Hid _ := hp
  clear hp hez
  rw [show min s.size (at_ + 4) = at_ + 4 by omega] at hx
  have hto : ((at_ : Int) + 4).toNat = at_ + 4 := by omega
  generalize hgE : (⟨(enc c).toArray⟩ : ByteArray) = E at *
  go_enter Try.func23, Try.ntmps23
  go_wp2_with fail
  refine (rcut_any x (c :: cs') rest' HP.out 1 _ HX.out).mono ?_
  rw [HCUT.out, HFIRST.out]
  rintro e w1 ⟨rfl, hb1⟩
  go_wp2_with fail
  refine (rrunes_good _ [c] HP1.out _ HX1.out).mono ?_
  rintro e w2 ⟨v, rfl, hown, hb2⟩
  have hr := reads_of_owns hown rfl
  have hb02 := hb1.trans (hb2.mono hb1.size)
  clear hown hb1 hb2
  obtain ⟨a, cap, rfl, _, hc⟩ := hr
  obtain ⟨b, off, rfl, hcell⟩ := hc 0 (by simp)
  simp only [Nat.add_zero, List.getD_cons_zero] at hcell
  clear hc
  go_wp2
  go_ret2
  rw [HSZ.out]
  exact ⟨rfl, hb02⟩

set_option maxRecDepth 1000000 in
set_option maxHeartbeats 1000000 in
theorem point_no_a (s x : ByteArray) (at_ : Nat) (hs : s.size ≤ 65536) (hat : at_ < s.size) (h4 : s.size ≤ at_ + 4) (hx : s.extract at_ (min s.size (at_ + 4)) = x) (hp : x.data.toList = [] ∨ NoCp x.data.toList) (w : World) :
    Calls Try.prog 23 #[.string s, .int .i64 at_] w fun e w' => e = .returned (.tuple #[.int .i64 0, .int .i64 0]) ∧ Below w.heap.size w w' := by
  have HX : Hid (x.size ≤ 100000) := by show _ ≤ _; rw [← hx]; simp; omega
  have HCUT : Hid (cutV [] 1 = 0) := by show _ = _; simp [cutV, encAll]
  have HFIRST : Hid (x.extract 0 0 = ⟨#[]⟩) := by show _ = _; simp; rfl
  have HP1 : Hid (Parts (⟨#[]⟩ : ByteArray).data.toList [] []) := ⟨rfl, by simp, .inl rfl⟩
  have HP : Hid (Parts x.data.toList [] x.data.toList) := ⟨by simp [encAll], by simp, hp⟩
  clear hp
  rw [show min s.size (at_ + 4) = s.size by omega] at hx
  go_enter Try.func23, Try.ntmps23
  go_wp2_with fail
  refine (rcut_any x [] x.data.toList HP.out 1 _ HX.out).mono ?_
  rw [HCUT.out, HFIRST.out]
  rintro e w1 ⟨rfl, hb1⟩
  go_wp2_with fail
  refine (rrunes_good _ [] HP1.out _ (by decide)).mono ?_
  rintro e w2 ⟨v, rfl, hown, hb2⟩
  have hr := reads_of_owns hown rfl
  have hb02 := hb1.trans (hb2.mono hb1.size)
  clear hown hb1 hb2
  obtain ⟨a, cap, rfl, _, hc⟩ := hr
  clear hc
  go_wp2
  go_ret2
  exact ⟨rfl, hb02⟩

set_option maxRecDepth 1000000 in
set_option maxHeartbeats 1000000 in
theorem point_no_b (s x : ByteArray) (at_ : Nat) (hs : s.size ≤ 65536) (hat : at_ < s.size) (h4 : ¬ s.size ≤ at_ + 4) (hx : s.extract at_ (min s.size (at_ + 4)) = x) (hp : x.data.toList = [] ∨ NoCp x.data.toList) (w : World) :
    Calls Try.prog 23 #[.string s, .int .i64 at_] w fun e w' => e = .returned (.tuple #[.int .i64 0, .int .i64 0]) ∧ Below w.heap.size w w' := by
  have HX : Hid (x.size ≤ 100000) := by show _ ≤ _; rw [← hx]; simp; omega
  have HCUT : Hid (cutV [] 1 = 0) := by show _ = _; simp [cutV, encAll]
  have HFIRST : Hid (x.extract 0 0 = ⟨#[]⟩) := by show _ = _; simp; rfl
  have HP1 : Hid (Parts (⟨#[]⟩ : ByteArray).data.toList [] []) := ⟨rfl, by simp, .inl rfl⟩
  have HP : Hid (Parts x.data.toList [] x.data.toList) := ⟨by simp [encAll], by simp, hp⟩
  clear hp
  rw [show min s.size (at_ + 4) = at_ + 4 by omega] at hx
  have hto : ((at_ : Int) + 4).toNat = at_ + 4 := by omega
  go_enter Try.func23, Try.ntmps23
  go_wp2_with fail
  refine (rcut_any x [] x.data.toList HP.out 1 _ HX.out).mono ?_
  rw [HCUT.out, HFIRST.out]
  rintro e w1 ⟨rfl, hb1⟩
  go_wp2_with fail
  refine (rrunes_good _ [] HP1.out _ (by decide)).mono ?_
  rintro e w2 ⟨v, rfl, hown, hb2⟩
  have hr := reads_of_owns hown rfl
  have hb02 := hb1.trans (hb2.mono hb1.size)
  clear hown hb1 hb2
  obtain ⟨a, cap, rfl, _, hc⟩ := hr
  clear hc
  go_wp2
  go_ret2
  exact ⟨rfl, hb02⟩

end Go.Proofs.Ytchdecoceokcmaa
