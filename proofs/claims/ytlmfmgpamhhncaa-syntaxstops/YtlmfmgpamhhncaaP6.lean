/- Texts of the seat, packed: XA XB XC XD XE. -/
import Derived.Test.YtlmfmgpamhhncaaP3
import Derived.Test.YtlmfmgpamhhncaaP2
import Derived.Test.YtlmfmgpamhhncaaP1
import Derived.Test.YtlmfmgpamhhncaaP4
import Derived.Test.YtlmfmgpamhhncaaP5
/- Walks over the document's point, run and mark of layer 2. -/
namespace Go.Proofs.Ytlmfmgpamhhncaa
open Go.RowKit
set_option linter.unusedVariables false

set_option maxRecDepth 1000000 in
set_option maxHeartbeats 1000000 in
theorem mark_any (r : Int) (w : World) : Calls Try.prog 56 #[.int .i64 r] w fun e w' => e = .returned (.bool (isMark r)) ∧ w' = w := by
  go_enter Try.func56, Try.ntmps56
  go_wp2
  all_goals go_ret
  all_goals refine ⟨ret_bool ?_, rfl⟩
  all_goals unfold isMark
  all_goals first | (simp_all; done) | (rw [Bool.eq_iff_iff]; simp_all; done) | (rw [Bool.eq_iff_iff]; simp; omega)

set_option maxRecDepth 1000000 in
set_option maxHeartbeats 1000000 in
theorem point_cp_a (s x : ByteArray) (at_ : Nat) (c : Int) (cs' : List Int) (rest' : List UInt8) (hs : s.size ≤ 65536) (hat : at_ < s.size) (h4 : s.size ≤ at_ + 4) (hx : s.extract at_ (min s.size (at_ + 4)) = x) (hp : Parts x.data.toList (c :: cs') rest') (w : World) :
    Calls Try.prog 53 #[.string s, .int .i64 at_] w fun e w' => e = .returned (.tuple #[.int .i64 c, .int .i64 ((enc c).length : Nat)]) ∧ Below w.heap.size w w' := by
  have HX : Hid (x.size ≤ 100000) := by show _ ≤ _; rw [← hx]; simp; omega
  have hc : isCp c = true := hp.cp c (by simp)
  have hez := enc_pos c hc
  have HCUT : Hid (cutV (c :: cs') 1 = (enc c).length) := by show _ = _; simp [cutV, encAll]
  have HFIRST : Hid (x.extract 0 (enc c).length = ⟨(enc c).toArray⟩) := by
    refine extract_mid x [] (enc c) (encAll cs' ++ rest') ?_ _ _ rfl (by simp)
    rw [hp.eq]
    simp [encAll]
  have HP1 : Hid (Parts (⟨(enc c).toArray⟩ : ByteArray).data.toList [c] []) := ⟨by simp [encAll], by simpa using hc, .inl rfl⟩
  have HX1 : Hid ((⟨(enc c).toArray⟩ : ByteArray).size ≤ 100000) := by show (enc c).toArray.size ≤ _; simp; omega
  have HSZ : Hid ((((⟨(enc c).toArray⟩ : ByteArray).size : Nat) : Int) = ((enc c).length : Nat)) := by show (((enc c).toArray.size : Nat) : Int) = _; simp
  have HP : Hid _ := hp
  clear hp hez
  rw [show min s.size (at_ + 4) = s.size by omega] at hx
  generalize hgE : (⟨(enc c).toArray⟩ : ByteArray) = E at *
  go_enter Try.func53, Try.ntmps53
  go_wp2_with fail
  refine (rcut_any x (c :: cs') rest' HP.out 1 _ HX.out).mono ?_
  rw [HCUT.out, HFIRST.out]
  rintro e w1 ⟨rfl, hb1⟩
  go_wp2_with fail
  refine (rrunes_good _ [c] HP1.out _ HX1.out).mono ?_
  rintro e w2 ⟨v, rfl, hown, hb2⟩
  have hr := reads_of_owns hown rfl
  have hb02 := hb1.trans (hb2.mono hb1.size)
  clear hown hb1 hb2
  obtain ⟨a, cap, rfl, _, hc⟩ := hr
  obtain ⟨b, off, rfl, hcell⟩ := hc 0 (by simp)
  simp only [Nat.add_zero, List.getD_cons_zero] at hcell
  clear hc
  go_wp2
  go_ret2
  rw [HSZ.out]
  exact ⟨rfl, hb02⟩

set_option maxRecDepth 1000000 in
set_option maxHeartbeats 1000000 in
theorem point_cp_b (s x : ByteArray) (at_ : Nat) (c : Int) (cs' : List Int) (rest' : List UInt8) (hs : s.size ≤ 65536) (hat : at_ < s.size) (h4 : ¬ s.size ≤ at_ + 4) (hx : s.extract at_ (min s.size (at_ + 4)) = x) (hp : Parts x.data.toList (c :: cs') rest') (w : World) :
    Calls Try.prog 53 #[.string s, .int .i64 at_] w fun e w' => e = .returned (.tuple #[.int .i64 c, .int .i64 ((enc c).length : Nat)]) ∧ Below w.heap.size w w' := by
  have HX : Hid (x.size ≤ 100000) := by show _ ≤ _; rw [← hx]; simp; omega
  have hc : isCp c = true := hp.cp c (by simp)
  have hez := enc_pos c hc
  have HCUT : Hid (cutV (c :: cs') 1 = (enc c).length) := by show _ = _; simp [cutV, encAll]
  have HFIRST : Hid (x.extract 0 (enc c).length = ⟨(enc c).toArray⟩) := by
    refine extract_mid x [] (enc c) (encAll cs' ++ rest') ?_ _ _ rfl (by simp)
    rw [hp.eq]
    simp [encAll]
  have HP1 : Hid (Parts (⟨(enc c).toArray⟩ : ByteArray).data.toList [c] []) := ⟨by simp [encAll], by simpa using hc, .inl rfl⟩
  have HX1 : Hid ((⟨(enc c).toArray⟩ : ByteArray).size ≤ 100000) := by show (enc c).toArray.size ≤ _; simp; omega
  have HSZ : Hid ((((⟨(enc c).toArray⟩ : ByteArray).size : Nat) : Int) = ((enc c).length : Nat)) := by show (((enc c).toArray.size : Nat) : Int) = _; simp
  have HP : Hid _ := hp
  clear hp hez
  rw [show min s.size (at_ + 4) = at_ + 4 by omega] at hx
  have hto : ((at_ : Int) + 4).toNat = at_ + 4 := by omega
  generalize hgE : (⟨(enc c).toArray⟩ : ByteArray) = E at *
  go_enter Try.func53, Try.ntmps53
  go_wp2_with fail
  refine (rcut_any x (c :: cs') rest' HP.out 1 _ HX.out).mono ?_
  rw [HCUT.out, HFIRST.out]
  rintro e w1 ⟨rfl, hb1⟩
  go_wp2_with fail
  refine (rrunes_good _ [c] HP1.out _ HX1.out).mono ?_
  rintro e w2 ⟨v, rfl, hown, hb2⟩
  have hr := reads_of_owns hown rfl
  have hb02 := hb1.trans (hb2.mono hb1.size)
  clear hown hb1 hb2
  obtain ⟨a, cap, rfl, _, hc⟩ := hr
  obtain ⟨b, off, rfl, hcell⟩ := hc 0 (by simp)
  simp only [Nat.add_zero, List.getD_cons_zero] at hcell
  clear hc
  go_wp2
  go_ret2
  rw [HSZ.out]
  exact ⟨rfl, hb02⟩

set_option maxRecDepth 1000000 in
set_option maxHeartbeats 1000000 in
theorem point_no_a (s x : ByteArray) (at_ : Nat) (hs : s.size ≤ 65536) (hat : at_ < s.size) (h4 : s.size ≤ at_ + 4) (hx : s.extract at_ (min s.size (at_ + 4)) = x) (hp : x.data.toList = [] ∨ NoCp x.data.toList) (w : World) :
    Calls Try.prog 53 #[.string s, .int .i64 at_] w fun e w' => e = .returned (.tuple #[.int .i64 0, .int .i64 0]) ∧ Below w.heap.size w w' := by
  have HX : Hid (x.size ≤ 100000) := by show _ ≤ _; rw [← hx]; simp; omega
  have HCUT : Hid (cutV [] 1 = 0) := by show _ = _; simp [cutV, encAll]
  have HFIRST : Hid (x.extract 0 0 = ⟨#[]⟩) := by show _ = _; simp; rfl
  have HP1 : Hid (Parts (⟨#[]⟩ : ByteArray).data.toList [] []) := ⟨rfl, by simp, .inl rfl⟩
  have HP : Hid (Parts x.data.toList [] x.data.toList) := ⟨by simp [encAll], by simp, hp⟩
  clear hp
  rw [show min s.size (at_ + 4) = s.size by omega] at hx
  go_enter Try.func53, Try.ntmps53
  go_wp2_with fail
  refine (rcut_any x [] x.data.toList HP.out 1 _ HX.out).mono ?_
  rw [HCUT.out, HFIRST.out]
  rintro e w1 ⟨rfl, hb1⟩
  go_wp2_with fail
  refine (rrunes_good _ [] HP1.out _ (by decide)).mono ?_
  rintro e w2 ⟨v, rfl, hown, hb2⟩
  have hr := reads_of_owns hown rfl
  have hb02 := hb1.trans (hb2.mono hb1.size)
  clear hown hb1 hb2
  obtain ⟨a, cap, rfl, _, hc⟩ := hr
  clear hc
  go_wp2
  go_ret2
  exact ⟨rfl, hb02⟩

set_option maxRecDepth 1000000 in
set_option maxHeartbeats 1000000 in
theorem point_no_b (s x : ByteArray) (at_ : Nat) (hs : s.size ≤ 65536) (hat : at_ < s.size) (h4 : ¬ s.size ≤ at_ + 4) (hx : s.extract at_ (min s.size (at_ + 4)) = x) (hp : x.data.toList = [] ∨ NoCp x.data.toList) (w : World) :
    Calls Try.prog 53 #[.string s, .int .i64 at_] w fun e w' => e = .returned (.tuple #[.int .i64 0, .int .i64 0]) ∧ Below w.heap.size w w' := by
  have HX : Hid (x.size ≤ 100000) := by show _ ≤ _; rw [← hx]; simp; omega
  have HCUT : Hid (cutV [] 1 = 0) := by show _ = _; simp [cutV, encAll]
  have HFIRST : Hid (x.extract 0 0 = ⟨#[]⟩) := by show _ = _; simp; rfl
  have HP1 : Hid (Parts (⟨#[]⟩ : ByteArray).data.toList [] []) := ⟨rfl, by simp, .inl rfl⟩
  have HP : Hid (Parts x.data.toList [] x.data.toList) := ⟨by simp [encAll], by simp, hp⟩
  clear hp
  rw [show min s.size (at_ + 4) = at_ + 4 by omega] at hx
  have hto : ((at_ : Int) + 4).toNat = at_ + 4 := by omega
  go_enter Try.func53, Try.ntmps53
  go_wp2_with fail
  refine (rcut_any x [] x.data.toList HP.out 1 _ HX.out).mono ?_
  rw [HCUT.out, HFIRST.out]
  rintro e w1 ⟨rfl, hb1⟩
  go_wp2_with fail
  refine (rrunes_good _ [] HP1.out _ (by decide)).mono ?_
  rintro e w2 ⟨v, rfl, hown, hb2⟩
  have hr := reads_of_owns hown rfl
  have hb02 := hb1.trans (hb2.mono hb1.size)
  clear hown hb1 hb2
  obtain ⟨a, cap, rfl, _, hc⟩ := hr
  clear hc
  go_wp2
  go_ret2
  exact ⟨rfl, hb02⟩

end Go.Proofs.Ytlmfmgpamhhncaa

/- The document's point at a place of a text, and its run: where a name's code points end. -/
namespace Go.Proofs.Ytlmfmgpamhhncaa
open Go.RowKit
set_option linter.unusedVariables false

theorem mid_list (s : ByteArray) (i j : Nat) : (s.extract i j).data.toList = (s.data.toList.drop i).take (j - i) := by
  rw [Lib.extract_data]

theorem point_at (s : ByteArray) (cs d todo : List Int) (c : Int) (rest : List UInt8) (hp : Parts s.data.toList cs rest) (hC : cs = d ++ c :: todo) (hs : s.size ≤ 65536) (p : Nat) (hpd : p = (encAll d).length) (w : World) :
    Calls Try.prog 53 #[.string s, .int .i64 p] w fun e w' => e = .returned (.tuple #[.int .i64 c, .int .i64 ((enc c).length : Nat)]) ∧ Below w.heap.size w w' := by
  subst hpd
  have hz := size_list s
  have hc : isCp c = true := hp.cp c (by rw [hC]; simp)
  have hez := enc_pos c hc
  have hS : s.data.toList = encAll d ++ (enc c ++ (encAll todo ++ rest)) := by rw [hp.eq, hC, encAll_append]; simp [encAll]
  have hsz : (encAll d).length + ((enc c).length + ((encAll todo).length + rest.length)) = s.size := by rw [← hz, hS]; simp
  have hx : (s.extract (encAll d).length (min s.size ((encAll d).length + 4))).data.toList = enc c ++ (encAll todo ++ rest).take (min s.size ((encAll d).length + 4) - (encAll d).length - (enc c).length) := by
    rw [mid_list, hS, List.drop_left, List.take_append, List.take_of_length_le (by omega)]
  obtain ⟨cs', rest', hp'⟩ := parts_exists ((encAll todo ++ rest).take (min s.size ((encAll d).length + 4) - (encAll d).length - (enc c).length))
  have hP : Parts (s.extract (encAll d).length (min s.size ((encAll d).length + 4))).data.toList (c :: cs') rest' := by
    refine ⟨by rw [hx, hp'.eq]; simp [encAll], ?_, hp'.stop⟩
    intro y hy
    rcases List.mem_cons.1 hy with rfl | hy
    · exact hc
    · exact hp'.cp y hy
  by_cases h4 : s.size ≤ (encAll d).length + 4
  · exact point_cp_a s _ _ c cs' rest' hs (by omega) h4 rfl hP w
  · exact point_cp_b s _ _ c cs' rest' hs (by omega) h4 rfl hP w

theorem point_end (s : ByteArray) (cs : List Int) (rest : List UInt8) (hp : Parts s.data.toList cs rest) (hr : rest ≠ []) (hs : s.size ≤ 65536) (p : Nat) (hpd : p = (encAll cs).length) (w : World) :
    Calls Try.prog 53 #[.string s, .int .i64 p] w fun e w' => e = .returned (.tuple #[.int .i64 0, .int .i64 0]) ∧ Below w.heap.size w w' := by
  subst hpd
  have hz := size_list s
  have hn : NoCp rest := hp.stop.resolve_left hr
  have hrl := List.length_pos_iff.2 hr
  have hsz : (encAll cs).length + rest.length = s.size := by rw [← hz, hp.eq]; simp
  have hx : (s.extract (encAll cs).length (min s.size ((encAll cs).length + 4))).data.toList = rest.take (min s.size ((encAll cs).length + 4) - (encAll cs).length) := by
    rw [mid_list, hp.eq, List.drop_left]
  have hP : (s.extract (encAll cs).length (min s.size ((encAll cs).length + 4))).data.toList = [] ∨ NoCp (s.extract (encAll cs).length (min s.size ((encAll cs).length + 4))).data.toList := by
    right
    rw [hx]
    intro c hc hpre
    exact hn c hc (hpre.trans (List.take_prefix _ _))
  by_cases h4 : s.size ≤ (encAll cs).length + 4
  · exact point_no_a s _ _ hs (by omega) h4 rfl hP w
  · exact point_no_b s _ _ hs (by omega) h4 rfl hP w

theorem rclass_k (c : Int) (w : World) : Calls Try.prog 54 #[.int .i64 c] w fun e w' => e = .returned (.int .i64 (kl c)) ∧ w' = w := rclass_any c w

set_option maxRecDepth 1000000 in
set_option maxHeartbeats 1000000 in
theorem run_any (s : ByteArray) (cs d0 todo0 : List Int) (rest : List UInt8) (hp : Parts s.data.toList cs rest) (hC0 : cs = d0 ++ todo0) (hs : s.size ≤ 65536) (p : Nat) (hpd : p = (encAll d0).length) (w : World) :
    Calls Try.prog 55 #[.string s, .int .i64 p] w fun e w' => e = .returned (.int .i64 ((encAll d0).length + (encAll (todo0.takeWhile isNm)).length : Nat)) ∧ Below w.heap.size w w' := by
  have hz := size_list s
  have hbl := Below.refl w.heap.size w
  go_enter Try.func55, Try.ntmps55
  go_wp2
  go_loopw [1, 5, 6, 7] (fun av _ _ _ wr => ∃ (d todo : List Int) (q : Nat), Hid (todo0 = d ++ todo) ∧ Hid (todo0.takeWhile isNm = d ++ todo.takeWhile isNm) ∧ av = .int .i64 q ∧ Hid (q = (encAll d0).length + (encAll d).length) ∧ q ≤ s.size ∧ Below w.heap.size w wr) (fun av _ _ _ _ => s.size - (intOf av).toNat)
  case atStart => exact ⟨[], todo0, p, rfl, rfl, rfl, by show _ = _; rw [hpd]; rfl, by rw [hpd, ← hz, hp.eq, hC0, encAll_append]; simp, hbl⟩
  case round =>
    obtain ⟨d, todo, q, HC, HT, rfl, HQ, hqs, hbw⟩ := hrel
    have hC : cs = (d0 ++ d) ++ todo := by rw [hC0, HC.out]; simp
    have hq2 : q = (encAll (d0 ++ d)).length := by rw [HQ.out, encAll_append]; simp
    have hzw := hbw.size
    cases todo with
    | cons c todo =>
      have hc : isCp c = true := hp.cp c (by rw [hC]; simp)
      have hez := enc_pos c hc
      have hsz : q + (enc c).length ≤ s.size := by
        rw [← hz, hp.eq, hC, encAll_append, hq2]
        simp [encAll]
      have HP : Hid _ := fun wx => point_at s cs (d0 ++ d) todo c rest hp hC hs q hq2 wx
      have hlt : q < s.size := by omega
      by_cases hk : isNm c = true
      · have HT2 : Hid (todo0.takeWhile isNm = (d ++ [c]) ++ todo.takeWhile isNm) := by show _ = _; rw [HT.out, List.takeWhile_cons, hk]; simp
        have HC2 : Hid (todo0 = (d ++ [c]) ++ todo) := by show _ = _; rw [HC.out]; simp
        have HQ2 : Hid (q + (enc c).length = (encAll d0).length + (encAll (d ++ [c])).length) := by show _ = _; rw [HQ.out, encAll_append, encAll_one, List.length_append]; omega
        have hk2 := (isNm_iff c).1 hk
        have hn0 : (((enc c).length : Int) == 0) = false := by rw [beq_eq_false_iff_ne]; omega
        clear hp hz hC hq2 HT HC HQ hpd hC0 hc hk
        generalize (enc c).length = k at *
        go_wp2_with fail
        refine Calls.mono (HP.out _) ?_
        rintro e w1 ⟨rfl, hb1⟩
        have hbw1 := hbw.trans (hb1.mono hzw)
        clear HP hb1 hbw
        rcases hk2 with hk2 | hk2
        · have HK : Hid (kl c = 1) := hk2
          clear hk2
          go_wp2_with (go_at_call 54; refine (rclass_k _ _).mono ?_; rintro e w' ⟨rfl, hw'⟩; rw [hw', HK.out])
          go_roundw
          case rel => exact ⟨d ++ [c], todo, q + k, HC2, HT2, by go_num, HQ2, by omega, hbw1⟩
          case measure => simp [intOf]; omega
        · have HK : Hid (kl c = 2) := hk2
          clear hk2
          go_wp2_with (go_at_call 54; refine (rclass_k _ _).mono ?_; rintro e w' ⟨rfl, hw'⟩; rw [hw', HK.out])
          go_roundw
          case rel => exact ⟨d ++ [c], todo, q + k, HC2, HT2, by go_num, HQ2, by omega, hbw1⟩
          case measure => simp [intOf]; omega
      · have hk0 : isNm c = false := by simpa using hk
        have HE : Hid ((encAll d0).length + (encAll (todo0.takeWhile isNm)).length = q) := by show _ = _; rw [HT.out, List.takeWhile_cons, hk0, HQ.out]; simp
        have hk2 : ¬ (kl c = 1 ∨ kl c = 2) := fun h => hk ((isNm_iff c).2 h)
        have hk3 : (kl c != 1) = true := by rw [bne_iff_ne]; omega
        have hk4 : (kl c != 2) = true := by rw [bne_iff_ne]; omega
        have hn0 : (((enc c).length : Int) == 0) = false := by rw [beq_eq_false_iff_ne]; omega
        clear hp hz hC hq2 HT HC HQ hpd hC0 hc hk hk0 hk2
        generalize (enc c).length = k at *
        go_wp2_with fail
        refine Calls.mono (HP.out _) ?_
        rintro e w1 ⟨rfl, hb1⟩
        have hbw1 := hbw.trans (hb1.mono hzw)
        clear HP hb1 hbw
        go_wp2_with (go_at_call 54; refine (rclass_k _ _).mono ?_; rintro e w' ⟨rfl, hw'⟩; rw [hw'])
        go_ret
        rw [HE.out]
        exact ⟨rfl, hbw1⟩
    | nil =>
      have HE : Hid ((encAll d0).length + (encAll (todo0.takeWhile isNm)).length = q) := by show _ = _; rw [HT.out, HQ.out]; simp
      have hC1 : cs = d0 ++ d := by rw [hC]; simp
      have hsz : q + rest.length = s.size := by rw [← hz, hp.eq, hq2, hC1]; simp
      by_cases hr : rest = []
      · have hge : ¬ q < s.size := by rw [← hsz, hr]; simp
        clear hp hz hC hq2 HT HC HQ hpd hC0 hC1 hsz hr
        go_wp2
        go_ret
        rw [HE.out]
        exact ⟨rfl, hbw⟩
      · have hrl := List.length_pos_iff.2 hr
        have hlt : q < s.size := by omega
        have HP : Hid _ := fun wx => point_end s cs rest hp hr hs q (by rw [hq2, hC1]) wx
        have hk0 : Hid (kl 0 = 0) := by show _ = _; decide +kernel
        clear hp hz hC hq2 HT HC HQ hpd hC0 hC1 hsz hr
        go_wp2_with fail
        refine Calls.mono (HP.out _) ?_
        rintro e w1 ⟨rfl, hb1⟩
        have hbw1 := hbw.trans (hb1.mono hzw)
        clear HP hb1 hbw
        go_wp2_with (go_at_call 54; refine (rclass_k _ _).mono ?_; rintro e w' ⟨rfl, hw'⟩; rw [hw', hk0.out])
        go_ret
        rw [HE.out]
        exact ⟨rfl, hbw1⟩
end Go.Proofs.Ytlmfmgpamhhncaa

/- A walk over the document's Lex: it answers as the machine does. -/
namespace Go.Proofs.Ytlmfmgpamhhncaa
open Go.RowKit
set_option linter.unusedVariables false

/-- No name's code point stands at the front. -/
def Front (st : Sc) (todo : List Int) : Prop := st.cur ≠ none → ∀ c t, todo = c :: t → isNm c = false

theorem cells_plain (w : World) (x y z : Value) : ∀ j u, [x, y, z][j]? = some u → (w.alloc (.cells #[x, y, z] 48)).cell? ((⟨w.heap.size, 0, none⟩ : Addr).add j) = some u := cells3 w x y z 48

/-- A token is put behind the tokens. -/
theorem toks_push {W w3 : World} {B : Nat} {o : Obj} {v v' : Value} {l : List Tok} {t : Tok} (hown : W.ownsRow B 48 3 v l.length (tvs l)) (hle : B ≤ W.heap.size) (hg : (W.alloc o).grownBy w3 v.ownBlock) : Below B W w3 :=
  Below.grown ((Below.refl _ _).alloc hle _) hg (by simp; omega) (fun j hj => (hown.lt _ hj).1)

set_option maxRecDepth 1000000 in
set_option maxHeartbeats 4000000 in
theorem rlex_any (s : ByteArray) (cs : List Int) (rest : List UInt8) (hp : Parts s.data.toList cs rest) (w : World) (hs : s.size ≤ 65536) :
    Calls Try.prog 28 #[.string s] w fun e w' => Lexed w (lexR cs rest) e w' := by
  have hz := size_list s
  have hbl := Below.refl w.heap.size w
  go_enter Try.func28, Try.ntmps28
  go_wp2
  go_loopw [5, 6, 7, 8, 9, 10, 11] (fun ov av rv _ _ _ _ wr => ∃ (d todo : List Int) (st : Sc) (q : Nat), Hid (cs = d ++ todo) ∧ Hid (goS sc0 0 d = .ok st) ∧ av = .int .i64 q ∧ Hid (q = (encAll d).length) ∧ rv = .bool st.remark ∧ Hid (Front st todo) ∧ q ≤ s.size ∧ wr.ownsRow w.heap.size 48 3 ov st.toks.length (tvs st.toks) ∧ Below w.heap.size w wr) (fun _ av _ _ _ _ _ _ => s.size - (intOf av).toNat)
  case atStart => exact ⟨[], cs, sc0, 0, rfl, rfl, rfl, rfl, rfl, (fun h => absurd rfl h), Nat.zero_le _, World.ownsRow_nil _ _ _ _, hbl⟩
  case round =>
    obtain ⟨d, todo, st, q, HC, HG, rfl, HQ, rfl, HF, hqs, hown, hbw⟩ := hrel
    have hzw := hbw.size
    cases todo with
    | nil =>
      have hC1 : cs = d := by rw [HC.out]; simp
      have hsz : q + rest.length = s.size := by rw [← hz, hp.eq, HQ.out, hC1]; simp
      by_cases hr : rest = []
      · have hge : ¬ q < s.size := by rw [← hsz, hr]; simp
        have HR : Hid (lexR cs rest = ⟨st.toks, s.size, 0⟩) := by
          show _ = _
          rw [hr, lexR_ok (by rw [hC1]; exact HG.out), hC1, ← HQ.out, ← hsz, hr]
          simp
        clear hp hz HC HG HQ hC1 hsz hr HF
        generalize st.remark = rm at *
        go_wp2
        go_ret3
        rw [HR.out]
        exact ⟨_, rfl, hown, hbw⟩
      · have hrl := List.length_pos_iff.2 hr
        have hlt : q < s.size := by omega
        have HP : Hid _ := fun wx => point_end s cs rest hp hr hs q (by rw [HQ.out, hC1]) wx
        have hk0 : Hid (kl 0 = 0) := by show _ = _; decide +kernel
        have HR : Hid (lexR cs rest = ⟨[], q, 4⟩) := by
          show _ = _
          unfold lexR
          rw [show goS sc0 0 cs = .ok st by rw [hC1]; exact HG.out]
          simp only [hr, if_false]
          rw [HQ.out, hC1]
        clear hp hz HC HG HQ hC1 hsz hr HF hown
        generalize st.remark = rm at *
        go_wp2_with fail
        refine Calls.mono (HP.out _) ?_
        rintro e w1 ⟨rfl, hb1⟩
        have hbw1 := hbw.trans (hb1.mono hzw)
        clear HP hb1 hbw
        go_wp2_with (go_at_call 54; refine (rclass_k _ _).mono ?_; rintro e w' ⟨rfl, hw'⟩; rw [hw', hk0.out])
        go_ret3
        rw [HR.out]
        exact ⟨_, rfl, World.ownsRow_nil _ _ _ _, hbw1⟩
    | cons c todo =>
      have hc : isCp c = true := hp.cp c (by rw [HC.out]; simp)
      have hez := enc_pos c hc
      have hC := HC.out
      have hsz : q + (enc c).length ≤ s.size := by
        rw [← hz, hp.eq, hC, encAll_append, HQ.out]
        simp [encAll]
      have hlt : q < s.size := by omega
      have HP : Hid _ := fun wx => point_at s cs d todo c rest hp hC hs q HQ.out wx
      have hn0 : (((enc c).length : Int) == 0) = false := by rw [beq_eq_false_iff_ne]; omega
      have hstep := goS_snoc_ok HG.out c
      rw [Nat.zero_add, ← HQ.out] at hstep
      have HSTEP : Hid (goS sc0 0 (d ++ [c]) = stepS st q c) := hstep
      have HC2 : Hid (cs = (d ++ [c]) ++ todo) := by show _ = _; rw [HC.out]; simp
      have HQ2 : Hid (q + (enc c).length = (encAll (d ++ [c])).length) := by show _ = _; rw [HQ.out, encAll_append, encAll_one, List.length_append]
      have hcd : ∀ x ∈ d, isCp x = true := fun x hx => hp.cp x (by rw [hC]; simp [hx])
      have htl : st.toks.length ≤ 100000 := by
        have := toks_len d hcd st HG.out
        rw [← HQ.out] at this
        omega
      have HRM : Hid (st.remark = true → st.cur = none) := remark_cur d st HG.out
      have hstop : ∀ p e, stepS st q c = .err p e → lexR cs rest = ⟨[], p, e⟩ := by
        intro p e he
        unfold lexR
        rw [HC2.out, goS_append, HSTEP.out, he]
      by_cases hrm : st.remark = true
      · have HSTEP2 : Hid (goS sc0 0 (d ++ [c]) = .ok ⟨st.done, st.cur, decide (c ≠ 10)⟩) := by show _ = _; rw [HSTEP.out]; unfold stepS; rw [if_pos hrm]
        have HD : Hid ((c != 10) = decide (c ≠ 10)) := by show _ = _; rw [Bool.eq_iff_iff]; simp
        have HN : Hid (st.cur = none) := HRM.out hrm
        clear hp hz HC HG HQ hC hstep hcd hc HF hstop HSTEP HRM
        rw [hrm]
        clear hrm
        generalize (enc c).length = k at *
        go_wp2_with fail
        refine Calls.mono (HP.out _) ?_
        rintro e w1 ⟨rfl, hb1⟩
        have hbw1 := hbw.trans (hb1.mono hzw)
        have hown1 := owns_later hown hb1
        have hzw1 := hbw1.size
        clear HP hb1 hbw hown
        go_wp2_with (go_at_call 54; refine (rclass_k _ _).mono ?_; rintro e w' ⟨rfl, hw'⟩; rw [hw'])
        go_roundw
        case rel => exact ⟨d ++ [c], todo, _, q + k, HC2, HSTEP2, by go_num, HQ2, by rw [HD.out], (fun h => absurd HN.out h), by omega, hown1, hbw1⟩
        case measure => simp [intOf]; omega
      have hrm0 : st.remark = false := by simpa using hrm
      by_cases h35 : c = 35
      · have HSTEP2 : Hid (goS sc0 0 (d ++ [c]) = .ok ⟨st.toks, none, true⟩) := by show _ = _; rw [HSTEP.out]; unfold stepS; rw [if_neg hrm, if_pos h35]
        have h35b : (c == 35) = true := by rw [h35]; rfl
        have h10 : (c != 10) = true := by rw [h35]; rfl
        have HT : Hid (Sc.toks ⟨st.toks, none, true⟩ = st.toks) := by show _ = _; simp [Sc.toks, curToks]
        clear hp hz HC HG HQ hC hstep hcd hc HF hstop HSTEP HRM h35 hrm
        rw [hrm0]
        clear hrm0
        generalize (enc c).length = k at *
        go_wp2_with fail
        refine Calls.mono (HP.out _) ?_
        rintro e w1 ⟨rfl, hb1⟩
        have hbw1 := hbw.trans (hb1.mono hzw)
        have hown1 := owns_later hown hb1
        have hzw1 := hbw1.size
        clear HP hb1 hbw hown
        go_wp2_with (go_at_call 54; refine (rclass_k _ _).mono ?_; rintro e w' ⟨rfl, hw'⟩; rw [hw'])
        go_roundw
        case rel => exact ⟨d ++ [c], todo, _, q + k, HC2, HSTEP2, by go_num, HQ2, rfl, (fun h => absurd rfl h), by omega, by rw [HT.out]; exact hown1, hbw1⟩
        case measure => simp [intOf]; omega
      have h35b : (c == 35) = false := by rw [beq_eq_false_iff_ne]; exact h35
      by_cases hk1 : kl c = 1
      · have hcur : st.cur = none := by
          cases hcc : st.cur with
          | none => rfl
          | some x =>
            have := HF.out (by rw [hcc]; simp) c todo rfl
            rw [(isNm_iff c).2 (.inl hk1)] at this
            cases this
        obtain ⟨r', hr'⟩ : ∃ r', (c :: todo).takeWhile isNm = c :: r' := ⟨todo.takeWhile isNm, by rw [List.takeWhile_cons, (isNm_iff c).2 (.inl hk1)]; rfl⟩
        obtain ⟨td, htd⟩ : ∃ td, td = (c :: todo).dropWhile isNm := ⟨_, rfl⟩
        have hsplit : c :: todo = (c :: r') ++ td := by rw [htd, ← hr', List.takeWhile_append_dropWhile]
        have hall : ∀ x ∈ r', isNm x = true := fun x hx => takeWhile_all isNm (c :: todo) x (by rw [hr']; simp [hx])
        have hcpr : ∀ x ∈ c :: r', isCp x = true := fun x hx => hp.cp x (by rw [hC, hsplit]; simp only [List.mem_append]; exact .inr (.inl hx))
        have hst : st = ⟨st.done, none, false⟩ := by rw [← hcur, ← hrm0]
        have hgn := go_name c r' hk1 hall hcpr st.done q
        rw [← hst] at hgn
        have hgd : goS sc0 0 (d ++ (c :: r')) = goS st q (c :: r') := by rw [goS_append, HG.out]; simp only [Nat.zero_add]; rw [← HQ.out]
        have HRUN : Hid _ := fun wx => run_any s cs d (c :: todo) rest hp hC hs q HQ.out wx
        rw [hr', ← HQ.out] at HRUN
        have hEs : q + (encAll (c :: r')).length ≤ s.size := by
          rw [← hz, hp.eq, hC, hsplit, encAll_append, encAll_append, HQ.out]
          simp
        have HTX : Hid (s.extract q (q + (encAll (c :: r')).length) = ⟨(encAll (c :: r')).toArray⟩) := by
          refine extract_mid s (encAll d) (encAll (c :: r')) (encAll td ++ rest) ?_ _ _ HQ.out (by rw [HQ.out])
          rw [hp.eq, hC, hsplit, encAll_append, encAll_append]
          simp
        have HC3 : Hid (cs = (d ++ (c :: r')) ++ td) := by show _ = _; rw [hC, hsplit]; simp
        have HQ3 : Hid (q + (encAll (c :: r')).length = (encAll (d ++ (c :: r'))).length) := by show _ = _; rw [encAll_append, List.length_append, HQ.out]
        have hL1 : 1 ≤ (encAll (c :: r')).length := by simp [encAll]; omega
        have HK : Hid (kl c = 1) := hk1
        have HTK : Hid (st.toks = st.done) := by show _ = _; simp [Sc.toks, hcur, curToks]
        have HFR : Hid (∀ x y, td = x :: y → isNm x = false) := fun x y h => dropWhile_head isNm (c :: todo) x y (by rw [← htd]; exact h)
        generalize htt : encAll (c :: r') = tt at *
        obtain ⟨L, hL⟩ : ∃ L, tt.length = L := ⟨_, rfl⟩
        rw [hL] at HRUN hEs HTX HQ3 hL1
        by_cases hbig : 24 < L
        · rw [if_pos (by rw [hL]; exact hbig)] at hgn
          have HR : Hid (lexR cs rest = ⟨[], q, 5⟩) := by
            show _ = _
            unfold lexR
            rw [HC3.out, goS_append, hgd, hgn]
          clear hp hz HC HG HQ hC hstep hcd hc HF hstop HSTEP HRM h35 hrm hk1 hcur hr' htd hsplit hall hcpr hst hgn hgd HC2 HQ2 HC3 HQ3 HFR HTX htt HTK hown
          rw [hrm0]
          clear hrm0
          generalize (enc c).length = k at *
          have hbd : 24 < ((q + L : Nat) : Int) - (q : Int) := by omega
          go_wp2_with fail
          refine Calls.mono (HP.out _) ?_
          rintro e w1 ⟨rfl, hb1⟩
          have hbw1 := hbw.trans (hb1.mono hzw)
          have hzw1 := hbw1.size
          clear HP hb1 hbw
          go_wp2_with (go_at_call 54; refine (rclass_k _ _).mono ?_; rintro e w' ⟨rfl, hw'⟩; rw [hw', HK.out])
          refine Calls.mono (HRUN.out _) ?_
          rintro e w2 ⟨rfl, hb2⟩
          have hbw2 := hbw1.trans (hb2.mono hzw1)
          clear HRUN hb2 hbw1
          generalize hE : q + L = E at *
          go_wp2
          go_ret3
          rw [HR.out]
          exact ⟨_, rfl, World.ownsRow_nil _ _ _ _, hbw2⟩
        · rw [if_neg (by rw [hL]; exact hbig)] at hgn
          have HSTEP2 : Hid (goS sc0 0 (d ++ (c :: r')) = .ok ⟨st.done, some (q, tt), false⟩) := by show _ = _; rw [hgd, hgn]
          have HT : Hid (Sc.toks ⟨st.done, some (q, tt), false⟩ = st.toks ++ [⟨1, tt, q⟩]) := by show _ = _; rw [HTK.out]; simp [Sc.toks, curToks]
          clear hp hz HC HG HQ hC hstep hcd hc HF hstop HSTEP HRM h35 hrm hk1 hcur hr' htd hsplit hall hcpr hst hgn hgd HC2 HQ2 htt HTK
          rw [hrm0]
          clear hrm0
          generalize (enc c).length = k at *
          go_wp2_with fail
          refine Calls.mono (HP.out _) ?_
          rintro e w1 ⟨rfl, hb1⟩
          have hbw1 := hbw.trans (hb1.mono hzw)
          have hown1 := owns_later hown hb1
          have hzw1 := hbw1.size
          clear HP hb1 hbw hown
          go_wp2_with (go_at_call 54; refine (rclass_k _ _).mono ?_; rintro e w' ⟨rfl, hw'⟩; rw [hw', HK.out])
          refine Calls.mono (HRUN.out _) ?_
          rintro e w2 ⟨rfl, hb2⟩
          have hbw2 := hbw1.trans (hb2.mono hzw1)
          have hown2 := owns_later hown1 hb2
          have hzw2 := hbw2.size
          clear HRUN hb2 hbw1 hown1
          generalize hE : q + L = E at *
          have hqE : q ≤ E := by omega
          have HE : Hid (q + L = E) := hE
          clear hE
          have hbd : ¬ (24 : Int) < (E : Int) - (q : Int) := by have := HE.out; omega
          go_wp2_with (at_builtin; refine append_tok rfl _ _ rfl w.heap.size _ st.toks rfl (hown2.alloc _) ⟨1, tt, q⟩ ⟨w2.heap.size, 0, none⟩ rfl (fun j u h => cells_plain w2 (.int .i64 1) (.string (s.extract q E)) (.int .i64 q) j u (by rw [HTX.out]; exact h)) htl (by simp; omega) ?_; intro g cap w3 ho3 hgrow3)
          have hbw3 := hbw2.trans (toks_push (t := ⟨1, tt, q⟩) (v' := .bool true) hown2 hzw2 hgrow3)
          go_roundw
          case rel => exact ⟨d ++ (c :: r'), td, _, E, HC3, HSTEP2, by go_num, HQ3, rfl, (fun _ x y h => HFR.out x y h), hEs, by rw [HT.out]; simpa using ho3, hbw3⟩
          case measure => have := HE.out; simp [intOf]; omega
      by_cases hmk : isMark c = true
      · obtain ⟨hk4, _, _, _, _, _⟩ := kl_mark c hmk
        have HSTEP2 : Hid (goS sc0 0 (d ++ [c]) = .ok ⟨st.toks ++ [⟨2, enc c, q⟩], none, false⟩) := by show _ = _; rw [HSTEP.out]; unfold stepS; rw [if_neg hrm, if_neg h35, if_neg (by omega), if_pos hmk]
        have HT : Hid (Sc.toks ⟨st.toks ++ [⟨2, enc c, q⟩], none, false⟩ = st.toks ++ [⟨2, enc c, q⟩]) := by show _ = _; simp [Sc.toks, curToks]
        have HTX : Hid (s.extract q (q + (enc c).length) = ⟨(enc c).toArray⟩) := by
          refine extract_mid s (encAll d) (enc c) (encAll todo ++ rest) ?_ _ _ HQ.out (by rw [HQ.out])
          rw [hp.eq, hC, encAll_append]
          simp [encAll]
        have HK : Hid (kl c = 4) := hk4
        have HM : Hid (isMark c = true) := hmk
        clear hp hz HC HG HQ hC hstep hcd hc HF hstop HSTEP HRM h35 hrm hk1 hmk hk4
        rw [hrm0]
        clear hrm0
        generalize hk : (enc c).length = k at *
        generalize enc c = tt at *
        clear hk
        go_wp2_with fail
        refine Calls.mono (HP.out _) ?_
        rintro e w1 ⟨rfl, hb1⟩
        have hbw1 := hbw.trans (hb1.mono hzw)
        have hown1 := owns_later hown hb1
        have hzw1 := hbw1.size
        clear HP hb1 hbw hown
        go_wp2_with (first
          | (go_at_call 54; refine (rclass_k _ _).mono ?_; rintro e w' ⟨rfl, hw'⟩; rw [hw', HK.out])
          | (go_at_call 56; refine (mark_any _ _).mono ?_; rintro e w' ⟨rfl, hw'⟩; rw [hw', HM.out])
          | (at_builtin; refine append_tok rfl _ _ rfl w.heap.size _ st.toks rfl (hown1.alloc _) ⟨2, tt, q⟩ ⟨w1.heap.size, 0, none⟩ rfl (fun j u h => cells_plain w1 (.int .i64 2) (.string (s.extract q (q + k))) (.int .i64 q) j u (by rw [HTX.out]; exact h)) htl (by simp; omega) ?_; intro g cap w3 ho3 hgrow3))
        have hbw3 := hbw1.trans (toks_push (t := ⟨2, tt, q⟩) (v' := .bool true) hown1 hzw1 hgrow3)
        go_roundw
        case rel => exact ⟨d ++ [c], todo, _, q + k, HC2, HSTEP2, by go_num, HQ2, rfl, (fun h => absurd rfl h), by omega, by rw [HT.out]; simpa using ho3, hbw3⟩
        case measure => simp [intOf]; omega
      have hmk0 : isMark c = false := by simpa using hmk
      have hk1b : (kl c == 1) = false := by rw [beq_eq_false_iff_ne]; exact hk1
      have HM : Hid (isMark c = false) := hmk0
      by_cases hk3 : kl c = 3
      · have HSTEP2 : Hid (goS sc0 0 (d ++ [c]) = .ok ⟨st.toks, none, false⟩) := by show _ = _; rw [HSTEP.out]; unfold stepS; rw [if_neg hrm, if_neg h35, if_pos hk3]
        have HT : Hid (Sc.toks ⟨st.toks, none, false⟩ = st.toks) := by show _ = _; simp [Sc.toks, curToks]
        have HK : Hid (kl c = 3) := hk3
        clear hp hz HC HG HQ hC hstep hcd hc HF hstop HSTEP HRM h35 hrm hk1 hmk hmk0 hk3 hk1b
        rw [hrm0]
        clear hrm0
        generalize (enc c).length = k at *
        go_wp2_with fail
        refine Calls.mono (HP.out _) ?_
        rintro e w1 ⟨rfl, hb1⟩
        have hbw1 := hbw.trans (hb1.mono hzw)
        have hown1 := owns_later hown hb1
        have hzw1 := hbw1.size
        clear HP hb1 hbw hown
        go_wp2_with (first
          | (go_at_call 54; refine (rclass_k _ _).mono ?_; rintro e w' ⟨rfl, hw'⟩; rw [hw', HK.out])
          | (go_at_call 56; refine (mark_any _ _).mono ?_; rintro e w' ⟨rfl, hw'⟩; rw [hw', HM.out]))
        go_roundw
        case rel => exact ⟨d ++ [c], todo, _, q + k, HC2, HSTEP2, by go_num, HQ2, rfl, (fun h => absurd rfl h), by omega, by rw [HT.out]; exact hown1, hbw1⟩
        case measure => simp [intOf]; omega
      · have hst2 : stepS st q c = .err q 10 := by
          unfold stepS
          rw [if_neg hrm, if_neg h35, if_neg hk3, if_neg hmk]
          by_cases hk2 : kl c = 2
          · rw [if_pos hk2]
            cases hcc : st.cur with
            | none => rfl
            | some x =>
              have := HF.out (by rw [hcc]; simp) c todo rfl
              rw [(isNm_iff c).2 (.inr hk2)] at this
              cases this
          · rw [if_neg hk2, if_neg hk1]
        have HR : Hid (lexR cs rest = ⟨[], q, 10⟩) := hstop q 10 hst2
        have hk3b : (kl c != 3) = true := by rw [bne_iff_ne]; exact hk3
        clear hp hz HC HG HQ hC hstep hcd hc HF hstop HSTEP HRM h35 hrm hk1 hmk hmk0 hk3 hst2 HC2 HQ2
        rw [hrm0]
        clear hrm0
        generalize (enc c).length = k at *
        go_wp2_with fail
        refine Calls.mono (HP.out _) ?_
        rintro e w1 ⟨rfl, hb1⟩
        have hbw1 := hbw.trans (hb1.mono hzw)
        have hown1 := owns_later hown hb1
        have hzw1 := hbw1.size
        clear HP hb1 hbw hown
        go_wp2_with (first
          | (go_at_call 54; refine (rclass_k _ _).mono ?_; rintro e w' ⟨rfl, hw'⟩; rw [hw'])
          | (go_at_call 56; refine (mark_any _ _).mono ?_; rintro e w' ⟨rfl, hw'⟩; rw [hw', HM.out]))
        go_ret3
        rw [HR.out]
        exact ⟨_, rfl, World.ownsRow_nil _ _ _ _, hbw1⟩
end Go.Proofs.Ytlmfmgpamhhncaa

/- lex.Name in plain words, and a walk over the law's 'texts'. -/
namespace Go.Proofs.Ytlmfmgpamhhncaa
open Go.RowKit
set_option linter.unusedVariables false

/-- Is a text a name? -/
noncomputable def isName (x : List UInt8) : Bool := @decide (nameP x) (Classical.propDecidable _)

theorem isName_iff (x : List UInt8) : isName x = true ↔ nameP x := by simp [isName]

theorem nameB_eq (s : ByteArray) (cs : List Int) (rest : List UInt8) (hp : Parts s.data.toList cs rest) : nameB (answer s cs rest) s.data.toList = isName s.data.toList := by
  rw [Bool.eq_iff_iff]
  have hz := size_list s
  constructor
  · intro h
    rw [isName_iff]
    unfold nameB at h
    split at h
    · rename_i t ht
      rw [decide_eq_true_eq] at h
      obtain ⟨h1, h2, h3⟩ := h
      unfold answer at ht h1
      split at ht
      · unfold lexR at ht
        cases hg : goS sc0 0 cs with
        | err p e => rw [hg] at ht; cases ht
        | ok st =>
          rw [hg] at ht
          by_cases hr : rest = []
          · simp only [hr, if_true] at ht
            rcases (tok_inv cs hp.cp st hg).2 t (by rw [ht]; simp) with ⟨_, hn⟩ | ⟨h4, _⟩
            · rw [← h3]; exact hn
            · omega
          · simp [hr] at ht
      · cases ht
    · cases h
  · intro h
    rw [isName_iff] at h
    obtain ⟨r, hr, hn⟩ := h
    have hn2 := hn
    obtain ⟨c, r', e1, e2, e3, e4, e5⟩ := hn
    obtain ⟨rfl, rfl⟩ := parts_unique cs r _ rest [] hp ⟨by rw [hr]; simp, e4, .inl rfl⟩
    have hg : goS sc0 0 cs = .ok ⟨[], some (0, encAll cs), false⟩ := name_go hn2 [] 0
    have hsz : s.size ≤ 65536 := by rw [← hz, hr]; omega
    unfold answer
    rw [if_pos hsz, lexR_ok hg]
    simp [nameB, Sc.toks, curToks, hr]

theorem name_is (s : ByteArray) (w : World) :
    Calls Try.prog 66 #[.string s] w fun e w' => e = .returned (.bool (isName s.data.toList)) ∧ Below w.heap.size w w' := by
  obtain ⟨cs, rest, hp⟩ := parts_exists s.data.toList
  have h := name_any s cs rest hp w
  rwa [nameB_eq s cs rest hp] at h

/-- Is a text one of the six marks? -/
def isMk (x : List UInt8) : Bool := x == [123] || x == [125] || x == [40] || x == [41] || x == [59] || x == [44]

/-- A slice that reads as texts. -/
def ReadsS (w : World) (v : Value) (xs : List ByteArray) : Prop :=
  ∃ a cap, v = .slice a xs.length cap ∧ ∀ i x, xs[i]? = some x → ∃ b off, a = some ⟨b, off, none⟩ ∧ w.cell? ⟨b, off + i, none⟩ = some (.string x)

theorem ReadsS.later {w wx : World} {v : Value} {xs : List ByteArray} (h : ReadsS w v xs) (hb : Below w.heap.size w wx) : ReadsS wx v xs := by
  obtain ⟨a, cap, hv, hr⟩ := h
  refine ⟨a, cap, hv, fun i x hi => ?_⟩
  obtain ⟨b, off, ha, c⟩ := hr i x hi
  exact ⟨b, off, ha, cell_later hb c⟩

noncomputable def mkTok (x : ByteArray) : Tok := if isName x.data.toList then ⟨1, x.data.toList, 0⟩ else ⟨2, x.data.toList, 0⟩

noncomputable def good (x : ByteArray) : Bool := isName x.data.toList || isMk x.data.toList

theorem ba_eta (x : ByteArray) : (⟨x.data.toList.toArray⟩ : ByteArray) = x := by
  apply ByteArray.ext
  simp

theorem isMk_cases (x : ByteArray) (h : isMk x.data.toList = true) : x = ⟨#[123]⟩ ∨ x = ⟨#[125]⟩ ∨ x = ⟨#[40]⟩ ∨ x = ⟨#[41]⟩ ∨ x = ⟨#[59]⟩ ∨ x = ⟨#[44]⟩ := by
  have go : ∀ l : List UInt8, x.data.toList = l → x = ⟨l.toArray⟩ := fun l hl => by rw [← hl, ba_eta]
  simp only [isMk, Bool.or_eq_true, beq_iff_eq] at h
  rcases h with ((((h | h) | h) | h) | h) | h
  · exact .inl (go _ h)
  · exact .inr (.inl (go _ h))
  · exact .inr (.inr (.inl (go _ h)))
  · exact .inr (.inr (.inr (.inl (go _ h))))
  · exact .inr (.inr (.inr (.inr (.inl (go _ h)))))
  · exact .inr (.inr (.inr (.inr (.inr (go _ h)))))


end Go.Proofs.Ytlmfmgpamhhncaa

/- Walks over the document's Name, Word and Join. -/
namespace Go.Proofs.Ytlmfmgpamhhncaa
open Go.RowKit
set_option linter.unusedVariables false

theorem takeWhile_id (p : Int → Bool) (l : List Int) (h : ∀ x ∈ l, p x = true) : l.takeWhile p = l := by
  induction l with
  | nil => rfl
  | cons a l ih => rw [List.takeWhile_cons, h a (by simp), ih (fun x hx => h x (by simp [hx]))]; rfl

theorem name_facts {x : List UInt8} (h : nameP x) : 1 ≤ x.length ∧ x.length ≤ 24 := by
  obtain ⟨r, rfl, c, r', rfl, _, _, h4, h5⟩ := h
  have := enc_pos c (h4 c (by simp))
  simp [encAll] at h5 ⊢
  omega

/-- A text is a name just where its run is all of it and a Letter stands first. -/
theorem name_run (s : ByteArray) (cs : List Int) (rest : List UInt8) (hp : Parts s.data.toList cs rest) : nameP s.data.toList ↔ ∃ c r, cs = c :: r ∧ kl c = 1 ∧ (encAll (cs.takeWhile isNm)).length = s.size ∧ s.size ≤ 24 := by
  have hz := size_list s
  constructor
  · rintro ⟨r, hr, hn⟩
    obtain ⟨c, r', e1, e2, e3, e4, e5⟩ := hn
    obtain ⟨rfl, rfl⟩ := parts_unique cs r _ rest [] hp ⟨by rw [hr]; simp, e4, .inl rfl⟩
    refine ⟨c, r', e1, e2, ?_, by rw [← hz, hr]; exact e5⟩
    have hall : ∀ x ∈ cs, isNm x = true := by
      intro x hx
      rw [e1] at hx
      rcases List.mem_cons.1 hx with rfl | hx
      · exact (isNm_iff x).2 (.inl e2)
      · exact e3 x hx
    rw [takeWhile_id isNm cs hall, ← hz, hr]
  · rintro ⟨c, r, rfl, hk, hlen, hsz⟩
    have hall := takeWhile_all isNm (c :: r)
    have hsplit : c :: r = (c :: r).takeWhile isNm ++ (c :: r).dropWhile isNm := (List.takeWhile_append_dropWhile).symm
    have hl : s.size = (encAll ((c :: r).takeWhile isNm)).length + (encAll ((c :: r).dropWhile isNm)).length + rest.length := by
      rw [← hz, hp.eq]
      conv => lhs; rw [hsplit, encAll_append]
      simp
      omega
    have hd0 : (c :: r).dropWhile isNm = [] := by
      cases hd : (c :: r).dropWhile isNm with
      | nil => rfl
      | cons y t =>
        exfalso
        have hy : isCp y = true := hp.cp y (by rw [hsplit, hd]; simp)
        have := enc_pos y hy
        rw [hd] at hl
        simp [encAll] at hl
        omega
    have hr0 : rest = [] := List.eq_nil_of_length_eq_zero (by omega)
    rw [hd0, List.append_nil] at hsplit
    refine ⟨c :: r, by rw [hp.eq, hr0]; simp, c, r, rfl, hk, ?_, hp.cp, ?_⟩
    · intro x hx
      exact hall x (by rw [← hsplit]; simp [hx])
    · have : (encAll (c :: r)).length = s.size := by rw [← hz, hp.eq, hr0]; simp
      omega

theorem isName_false {x : List UInt8} (h : ¬ nameP x) : isName x = false := by
  cases hb : isName x with
  | false => rfl
  | true => exact absurd ((isName_iff x).1 hb) h

set_option maxRecDepth 1000000 in
set_option maxHeartbeats 1000000 in
theorem rname_any (s : ByteArray) (w : World) (hs : s.size ≤ 65536) : Calls Try.prog 80 #[.string s] w fun e w' => e = .returned (.bool (isName s.data.toList)) ∧ Below w.heap.size w w' := by
  obtain ⟨cs, rest, hp⟩ := parts_exists s.data.toList
  have hz := size_list s
  have hbl := Below.refl w.heap.size w
  have hnr := name_run s cs rest hp
  have hnf := @name_facts s.data.toList
  rw [hz] at hnf
  by_cases h0 : s.size = 0
  · have HF : Hid (isName s.data.toList = false) := isName_false (fun h => by have := hnf h; omega)
    have he : s = ⟨#[]⟩ := by
      apply ByteArray.ext
      apply Array.ext'
      exact List.eq_nil_of_length_eq_zero (by rw [hz]; exact h0)
    clear hp hz hnr hnf h0
    rw [HF.out]
    subst he
    go_enter Try.func80, Try.ntmps80
    go_wp2
    go_ret
    exact ⟨rfl, hbl⟩
  have hne : (s.toList == []) = false := by
    rw [Lib.toList_data, beq_eq_false_iff_ne]
    intro h
    rw [h] at hz
    simp at hz
    omega
  by_cases h24 : 24 < s.size
  · have HF : Hid (isName s.data.toList = false) := isName_false (fun h => by have := hnf h; omega)
    clear hp hz hnr hnf h0
    rw [HF.out]
    go_enter Try.func80, Try.ntmps80
    go_wp2
    go_ret
    exact ⟨rfl, hbl⟩
  have HRUN : Hid _ := fun wx => run_any s cs [] cs rest hp rfl hs 0 rfl wx
  have e0 : (encAll []).length = 0 := rfl
  rw [e0, Nat.zero_add] at HRUN
  by_cases hrun : (encAll (cs.takeWhile isNm)).length = s.size
  · cases cs with
    | nil => simp [encAll] at hrun; omega
    | cons c r =>
      have HP : Hid _ := fun wx => point_at s (c :: r) [] r c rest hp rfl hs 0 rfl wx
      have HK : Hid (isName s.data.toList = decide (kl c = 1)) := by
        show _ = _
        rw [Bool.eq_iff_iff, isName_iff, hnr, decide_eq_true_eq]
        constructor
        · rintro ⟨c2, r2, e, h1, _⟩
          simp only [List.cons.injEq] at e
          rw [e.1]
          exact h1
        · intro h1
          exact ⟨c, r, rfl, h1, hrun, by omega⟩
      rw [hrun] at HRUN
      clear hp hz hnr hnf hrun
      rw [HK.out]
      generalize (enc c).length = k at *
      go_enter Try.func80, Try.ntmps80
      go_wp2_with fail
      refine Calls.mono (HRUN.out _) ?_
      rintro e w1 ⟨rfl, hb1⟩
      clear HRUN
      go_wp2_with fail
      refine Calls.mono (HP.out _) ?_
      rintro e w2 ⟨rfl, hb2⟩
      have hb02 := hb1.trans (hb2.mono hb1.size)
      clear HP hb1 hb2
      go_wp2_with (go_at_call 54; refine (rclass_k _ _).mono ?_; rintro e w' ⟨rfl, hw'⟩; rw [hw'])
      go_ret
      refine ⟨ret_bool ?_, hb02⟩
      rw [Bool.eq_iff_iff]
      simp
  · have HF : Hid (isName s.data.toList = false) := isName_false (fun h => by obtain ⟨_, _, _, _, h1, _⟩ := hnr.1 h; exact hrun h1)
    have hrb : (((encAll (cs.takeWhile isNm)).length : Int) != (s.size : Int)) = true := by rw [bne_iff_ne]; omega
    clear hp hz hnr hnf hrun
    rw [HF.out]
    generalize (encAll (cs.takeWhile isNm)).length = k at *
    go_enter Try.func80, Try.ntmps80
    go_wp2_with fail
    refine Calls.mono (HRUN.out _) ?_
    rintro e w1 ⟨rfl, hb1⟩
    clear HRUN
    go_wp2
    go_ret
    exact ⟨rfl, hb1⟩

set_option maxRecDepth 1000000 in
set_option maxHeartbeats 2000000 in
theorem rword_any (s : ByteArray) (w : World) : Calls Try.prog 81 #[.string s] w fun e w' => e = .returned (.bool (isWord s.data.toList)) ∧ Below w.heap.size w w' := by
  have hbl : ∀ o, Below w.heap.size w (w.alloc o) := fun o => (Below.refl _ _).alloc (Nat.le_refl _) o
  have HBL : Hid _ := hbl
  clear hbl
  go_enter Try.func81, Try.ntmps81
  go_wp2
  refine wp_loop_rounds 9 ?_
  rw [rounds_succ]
  go_wp2
  · go_ret
    refine ⟨ret_bool ?_, HBL.out _⟩
    simp_all [isWord, Lib.toList_data]
  rw [rounds_succ]
  go_wp2
  · go_ret
    refine ⟨ret_bool ?_, HBL.out _⟩
    simp_all [isWord, Lib.toList_data]
  rw [rounds_succ]
  go_wp2
  · go_ret
    refine ⟨ret_bool ?_, HBL.out _⟩
    simp_all [isWord, Lib.toList_data]
  rw [rounds_succ]
  go_wp2
  · go_ret
    refine ⟨ret_bool ?_, HBL.out _⟩
    simp_all [isWord, Lib.toList_data]
  rw [rounds_succ]
  go_wp2
  · go_ret
    refine ⟨ret_bool ?_, HBL.out _⟩
    simp_all [isWord, Lib.toList_data]
  rw [rounds_succ]
  go_wp2
  · go_ret
    refine ⟨ret_bool ?_, HBL.out _⟩
    simp_all [isWord, Lib.toList_data]
  rw [rounds_succ]
  go_wp2
  · go_ret
    refine ⟨ret_bool ?_, HBL.out _⟩
    simp_all [isWord, Lib.toList_data]
  rw [rounds_succ]
  go_wp2
  · go_ret
    refine ⟨ret_bool ?_, HBL.out _⟩
    simp_all [isWord, Lib.toList_data]
  rw [rounds_succ]
  go_wp2
  go_ret
  refine ⟨ret_bool ?_, HBL.out _⟩
  simp_all [isWord, Lib.toList_data]
  refine ⟨⟨⟨⟨⟨⟨⟨?_, ?_⟩, ?_⟩, ?_⟩, ?_⟩, ?_⟩, ?_⟩, ?_⟩ <;> (intro h; simp_all)


end Go.Proofs.Ytlmfmgpamhhncaa

