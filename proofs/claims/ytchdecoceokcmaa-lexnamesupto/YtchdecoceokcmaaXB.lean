/- The document's point at a place of a text, and its run: where a name's code points end. -/
import Derived.Test.YtchdecoceokcmaaXA
import Derived.Test.YtchdecoceokcmaaMf
namespace Go.Proofs.Ytchdecoceokcmaa
open Go.RowKit
set_option linter.unusedVariables false

theorem mid_list (s : ByteArray) (i j : Nat) : (s.extract i j).data.toList = (s.data.toList.drop i).take (j - i) := by
  rw [Lib.extract_data]

theorem point_at (s : ByteArray) (cs d todo : List Int) (c : Int) (rest : List UInt8) (hp : Parts s.data.toList cs rest) (hC : cs = d ++ c :: todo) (hs : s.size ≤ 65536) (p : Nat) (hpd : p = (encAll d).length) (w : World) :
    Calls Try.prog 23 #[.string s, .int .i64 p] w fun e w' => e = .returned (.tuple #[.int .i64 c, .int .i64 ((enc c).length : Nat)]) ∧ Below w.heap.size w w' := by
  subst hpd
  have hz := size_list s
  have hc : isCp c = true := hp.cp c (by rw [hC]; simp)
  have hez := enc_pos c hc
  have hS : s.data.toList = encAll d ++ (enc c ++ (encAll todo ++ rest)) := by rw [hp.eq, hC, encAll_append]; simp [encAll]
  have hsz : (encAll d).length + ((enc c).length + ((encAll todo).length + rest.length)) = s.size := by rw [← hz, hS]; simp
  have hx : (s.extract (encAll d).length (min s.size ((encAll d).length + 4))).data.toList = enc c ++ (encAll todo ++ rest).take (min s.size ((encAll d).length + 4) - (encAll d).length - (enc c).length) := by
    rw [mid_list, hS, List.drop_left, List.take_append, List.take_of_length_le (by omega)]
  obtain ⟨cs', rest', hp'⟩ := parts_exists ((encAll todo ++ rest).take (min s.size ((encAll d).length + 4) - (encAll d).length - (enc c).length))
  have hP : Parts (s.extract (encAll d).length (min s.size ((encAll d).length + 4))).data.toList (c :: cs') rest' := by
    refine ⟨by rw [hx, hp'.eq]; simp [encAll], ?_, hp'.stop⟩
    intro y hy
    rcases List.mem_cons.1 hy with rfl | hy
    · exact hc
    · exact hp'.cp y hy
  by_cases h4 : s.size ≤ (encAll d).length + 4
  · exact point_cp_a s _ _ c cs' rest' hs (by omega) h4 rfl hP w
  · exact point_cp_b s _ _ c cs' rest' hs (by omega) h4 rfl hP w

theorem point_end (s : ByteArray) (cs : List Int) (rest : List UInt8) (hp : Parts s.data.toList cs rest) (hr : rest ≠ []) (hs : s.size ≤ 65536) (p : Nat) (hpd : p = (encAll cs).length) (w : World) :
    Calls Try.prog 23 #[.string s, .int .i64 p] w fun e w' => e = .returned (.tuple #[.int .i64 0, .int .i64 0]) ∧ Below w.heap.size w w' := by
  subst hpd
  have hz := size_list s
  have hn : NoCp rest := hp.stop.resolve_left hr
  have hrl := List.length_pos_iff.2 hr
  have hsz : (encAll cs).length + rest.length = s.size := by rw [← hz, hp.eq]; simp
  have hx : (s.extract (encAll cs).length (min s.size ((encAll cs).length + 4))).data.toList = rest.take (min s.size ((encAll cs).length + 4) - (encAll cs).length) := by
    rw [mid_list, hp.eq, List.drop_left]
  have hP : (s.extract (encAll cs).length (min s.size ((encAll cs).length + 4))).data.toList = [] ∨ NoCp (s.extract (encAll cs).length (min s.size ((encAll cs).length + 4))).data.toList := by
    right
    rw [hx]
    intro c hc hpre
    exact hn c hc (hpre.trans (List.take_prefix _ _))
  by_cases h4 : s.size ≤ (encAll cs).length + 4
  · exact point_no_a s _ _ hs (by omega) h4 rfl hP w
  · exact point_no_b s _ _ hs (by omega) h4 rfl hP w

theorem rclass_k (c : Int) (w : World) : Calls Try.prog 24 #[.int .i64 c] w fun e w' => e = .returned (.int .i64 (kl c)) ∧ w' = w := rclass_any c w

set_option maxRecDepth 1000000 in
set_option maxHeartbeats 1000000 in
theorem run_any (s : ByteArray) (cs d0 todo0 : List Int) (rest : List UInt8) (hp : Parts s.data.toList cs rest) (hC0 : cs = d0 ++ todo0) (hs : s.size ≤ 65536) (p : Nat) (hpd : p = (encAll d0).length) (w : World) :
    Calls Try.prog 25 #[.string s, .int .i64 p] w fun e w' => e = .returned (.int .i64 ((encAll d0).length + (encAll (todo0.takeWhile isNm)).length : Nat)) ∧ Below w.heap.size w w' := by
  have hz := size_list s
  have hbl := Below.refl w.heap.size w
  go_enter Try.func25, Try.ntmps25
  go_wp2
  go_loopw [1, 5, 6, 7] (fun av _ _ _ wr => ∃ (d todo : List Int) (q : Nat), Hid (todo0 = d ++ todo) ∧ Hid (todo0.takeWhile isNm = d ++ todo.takeWhile isNm) ∧ av = .int .i64 q ∧ Hid (q = (encAll d0).length + (encAll d).length) ∧ q ≤ s.size ∧ Below w.heap.size w wr) (fun av _ _ _ _ => s.size - (intOf av).toNat)
  case atStart => exact ⟨[], todo0, p, rfl, rfl, rfl, by show _ = _; rw [hpd]; rfl, by rw [hpd, ← hz, hp.eq, hC0, encAll_append]; simp, hbl⟩
  case round =>
    obtain ⟨d, todo, q, HC, HT, rfl, HQ, hqs, hbw⟩ := hrel
    have hC : cs = (d0 ++ d) ++ todo := by rw [hC0, HC.out]; simp
    have hq2 : q = (encAll (d0 ++ d)).length := by rw [HQ.out, encAll_append]; simp
    have hzw := hbw.size
    cases todo with
    | cons c todo =>
      have hc : isCp c = true := hp.cp c (by rw [hC]; simp)
      have hez := enc_pos c hc
      have hsz : q + (enc c).length ≤ s.size := by
        rw [← hz, hp.eq, hC, encAll_append, hq2]
        simp [encAll]
      have HP : Hid _ := fun wx => point_at s cs (d0 ++ d) todo c rest hp hC hs q hq2 wx
      have hlt : q < s.size := by omega
      by_cases hk : isNm c = true
      · have HT2 : Hid (todo0.takeWhile isNm = (d ++ [c]) ++ todo.takeWhile isNm) := by show _ = _; rw [HT.out, List.takeWhile_cons, hk]; simp
        have HC2 : Hid (todo0 = (d ++ [c]) ++ todo) := by show _ = _; rw [HC.out]; simp
        have HQ2 : Hid (q + (enc c).length = (encAll d0).length + (encAll (d ++ [c])).length) := by show _ = _; rw [HQ.out, encAll_append, encAll_one, List.length_append]; omega
        have hk2 := (isNm_iff c).1 hk
        have hn0 : (((enc c).length : Int) == 0) = false := by rw [beq_eq_false_iff_ne]; omega
        clear hp hz hC hq2 HT HC HQ hpd hC0 hc hk
        generalize (enc c).length = k at *
        go_wp2_with fail
        refine Calls.mono (HP.out _) ?_
        rintro e w1 ⟨rfl, hb1⟩
        have hbw1 := hbw.trans (hb1.mono hzw)
        clear HP hb1 hbw
        rcases hk2 with hk2 | hk2
        · have HK : Hid (kl c = 1) := hk2
          clear hk2
          go_wp2_with (go_at_call 24; refine (rclass_k _ _).mono ?_; rintro e w' ⟨rfl, hw'⟩; rw [hw', HK.out])
          go_roundw
          case rel => exact ⟨d ++ [c], todo, q + k, HC2, HT2, by go_num, HQ2, by omega, hbw1⟩
          case measure => simp [intOf]; omega
        · have HK : Hid (kl c = 2) := hk2
          clear hk2
          go_wp2_with (go_at_call 24; refine (rclass_k _ _).mono ?_; rintro e w' ⟨rfl, hw'⟩; rw [hw', HK.out])
          go_roundw
          case rel => exact ⟨d ++ [c], todo, q + k, HC2, HT2, by go_num, HQ2, by omega, hbw1⟩
          case measure => simp [intOf]; omega
      · have hk0 : isNm c = false := by simpa using hk
        have HE : Hid ((encAll d0).length + (encAll (todo0.takeWhile isNm)).length = q) := by show _ = _; rw [HT.out, List.takeWhile_cons, hk0, HQ.out]; simp
        have hk2 : ¬ (kl c = 1 ∨ kl c = 2) := fun h => hk ((isNm_iff c).2 h)
        have hk3 : (kl c != 1) = true := by rw [bne_iff_ne]; omega
        have hk4 : (kl c != 2) = true := by rw [bne_iff_ne]; omega
        have hn0 : (((enc c).length : Int) == 0) = false := by rw [beq_eq_false_iff_ne]; omega
        clear hp hz hC hq2 HT HC HQ hpd hC0 hc hk hk0 hk2
        generalize (enc c).length = k at *
        go_wp2_with fail
        refine Calls.mono (HP.out _) ?_
        rintro e w1 ⟨rfl, hb1⟩
        have hbw1 := hbw.trans (hb1.mono hzw)
        clear HP hb1 hbw
        go_wp2_with (go_at_call 24; refine (rclass_k _ _).mono ?_; rintro e w' ⟨rfl, hw'⟩; rw [hw'])
        go_ret
        rw [HE.out]
        exact ⟨rfl, hbw1⟩
    | nil =>
      have HE : Hid ((encAll d0).length + (encAll (todo0.takeWhile isNm)).length = q) := by show _ = _; rw [HT.out, HQ.out]; simp
      have hC1 : cs = d0 ++ d := by rw [hC]; simp
      have hsz : q + rest.length = s.size := by rw [← hz, hp.eq, hq2, hC1]; simp
      by_cases hr : rest = []
      · have hge : ¬ q < s.size := by rw [← hsz, hr]; simp
        clear hp hz hC hq2 HT HC HQ hpd hC0 hC1 hsz hr
        go_wp2
        go_ret
        rw [HE.out]
        exact ⟨rfl, hbw⟩
      · have hrl := List.length_pos_iff.2 hr
        have hlt : q < s.size := by omega
        have HP : Hid _ := fun wx => point_end s cs rest hp hr hs q (by rw [hq2, hC1]) wx
        have hk0 : Hid (kl 0 = 0) := by show _ = _; decide +kernel
        clear hp hz hC hq2 HT HC HQ hpd hC0 hC1 hsz hr
        go_wp2_with fail
        refine Calls.mono (HP.out _) ?_
        rintro e w1 ⟨rfl, hb1⟩
        have hbw1 := hbw.trans (hb1.mono hzw)
        clear HP hb1 hbw
        go_wp2_with (go_at_call 24; refine (rclass_k _ _).mono ?_; rintro e w' ⟨rfl, hw'⟩; rw [hw', hk0.out])
        go_ret
        rw [HE.out]
        exact ⟨rfl, hbw1⟩
end Go.Proofs.Ytchdecoceokcmaa
