/- A walk over the document's Lex: it answers as the machine does. -/
import Derived.Test.YtchdecoceokcmaaXB
namespace Go.Proofs.Ytchdecoceokcmaa
open Go.RowKit
set_option linter.unusedVariables false

/-- No name's code point stands at the front. -/
def Front (st : Sc) (todo : List Int) : Prop := st.cur ≠ none → ∀ c t, todo = c :: t → isNm c = false

theorem cells_plain (w : World) (x y z : Value) : ∀ j u, [x, y, z][j]? = some u → (w.alloc (.cells #[x, y, z] 38)).cell? ((⟨w.heap.size, 0, none⟩ : Addr).add j) = some u := cells3 w x y z 38

/-- A token is put behind the tokens. -/
theorem toks_push {W w3 : World} {B : Nat} {o : Obj} {v v' : Value} {l : List Tok} {t : Tok} (hown : W.ownsRow B 38 3 v l.length (tvs l)) (hle : B ≤ W.heap.size) (hg : (W.alloc o).grownBy w3 v.ownBlock) : Below B W w3 :=
  Below.grown ((Below.refl _ _).alloc hle _) hg (by simp; omega) (fun j hj => (hown.lt _ hj).1)

set_option maxRecDepth 1000000 in
set_option maxHeartbeats 4000000 in
theorem rlex_any (s : ByteArray) (cs : List Int) (rest : List UInt8) (hp : Parts s.data.toList cs rest) (w : World) (hs : s.size ≤ 65536) :
    Calls Try.prog 11 #[.string s] w fun e w' => Lexed w (lexR cs rest) e w' := by
  have hz := size_list s
  have hbl := Below.refl w.heap.size w
  go_enter Try.func11, Try.ntmps11
  go_wp2
  go_loopw [5, 6, 7, 8, 9, 10, 11] (fun ov av rv _ _ _ _ wr => ∃ (d todo : List Int) (st : Sc) (q : Nat), Hid (cs = d ++ todo) ∧ Hid (goS sc0 0 d = .ok st) ∧ av = .int .i64 q ∧ Hid (q = (encAll d).length) ∧ rv = .bool st.remark ∧ Hid (Front st todo) ∧ q ≤ s.size ∧ wr.ownsRow w.heap.size 38 3 ov st.toks.length (tvs st.toks) ∧ Below w.heap.size w wr) (fun _ av _ _ _ _ _ _ => s.size - (intOf av).toNat)
  case atStart => exact ⟨[], cs, sc0, 0, rfl, rfl, rfl, rfl, rfl, (fun h => absurd rfl h), Nat.zero_le _, World.ownsRow_nil _ _ _ _, hbl⟩
  case round =>
    obtain ⟨d, todo, st, q, HC, HG, rfl, HQ, rfl, HF, hqs, hown, hbw⟩ := hrel
    have hzw := hbw.size
    cases todo with
    | nil =>
      have hC1 : cs = d := by rw [HC.out]; simp
      have hsz : q + rest.length = s.size := by rw [← hz, hp.eq, HQ.out, hC1]; simp
      by_cases hr : rest = []
      · have hge : ¬ q < s.size := by rw [← hsz, hr]; simp
        have HR : Hid (lexR cs rest = ⟨st.toks, s.size, 0⟩) := by
          show _ = _
          rw [hr, lexR_ok (by rw [hC1]; exact HG.out), hC1, ← HQ.out, ← hsz, hr]
          simp
        clear hp hz HC HG HQ hC1 hsz hr HF
        generalize st.remark = rm at *
        go_wp2
        go_ret3
        rw [HR.out]
        exact ⟨_, rfl, hown, hbw⟩
      · have hrl := List.length_pos_iff.2 hr
        have hlt : q < s.size := by omega
        have HP : Hid _ := fun wx => point_end s cs rest hp hr hs q (by rw [HQ.out, hC1]) wx
        have hk0 : Hid (kl 0 = 0) := by show _ = _; decide +kernel
        have HR : Hid (lexR cs rest = ⟨[], q, 4⟩) := by
          show _ = _
          unfold lexR
          rw [show goS sc0 0 cs = .ok st by rw [hC1]; exact HG.out]
          simp only [hr, if_false]
          rw [HQ.out, hC1]
        clear hp hz HC HG HQ hC1 hsz hr HF hown
        generalize st.remark = rm at *
        go_wp2_with fail
        refine Calls.mono (HP.out _) ?_
        rintro e w1 ⟨rfl, hb1⟩
        have hbw1 := hbw.trans (hb1.mono hzw)
        clear HP hb1 hbw
        go_wp2_with (go_at_call 24; refine (rclass_k _ _).mono ?_; rintro e w' ⟨rfl, hw'⟩; rw [hw', hk0.out])
        go_ret3
        rw [HR.out]
        exact ⟨_, rfl, World.ownsRow_nil _ _ _ _, hbw1⟩
    | cons c todo =>
      have hc : isCp c = true := hp.cp c (by rw [HC.out]; simp)
      have hez := enc_pos c hc
      have hC := HC.out
      have hsz : q + (enc c).length ≤ s.size := by
        rw [← hz, hp.eq, hC, encAll_append, HQ.out]
        simp [encAll]
      have hlt : q < s.size := by omega
      have HP : Hid _ := fun wx => point_at s cs d todo c rest hp hC hs q HQ.out wx
      have hn0 : (((enc c).length : Int) == 0) = false := by rw [beq_eq_false_iff_ne]; omega
      have hstep := goS_snoc_ok HG.out c
      rw [Nat.zero_add, ← HQ.out] at hstep
      have HSTEP : Hid (goS sc0 0 (d ++ [c]) = stepS st q c) := hstep
      have HC2 : Hid (cs = (d ++ [c]) ++ todo) := by show _ = _; rw [HC.out]; simp
      have HQ2 : Hid (q + (enc c).length = (encAll (d ++ [c])).length) := by show _ = _; rw [HQ.out, encAll_append, encAll_one, List.length_append]
      have hcd : ∀ x ∈ d, isCp x = true := fun x hx => hp.cp x (by rw [hC]; simp [hx])
      have htl : st.toks.length ≤ 100000 := by
        have := toks_len d hcd st HG.out
        rw [← HQ.out] at this
        omega
      have HRM : Hid (st.remark = true → st.cur = none) := remark_cur d st HG.out
      have hstop : ∀ p e, stepS st q c = .err p e → lexR cs rest = ⟨[], p, e⟩ := by
        intro p e he
        unfold lexR
        rw [HC2.out, goS_append, HSTEP.out, he]
      by_cases hrm : st.remark = true
      · have HSTEP2 : Hid (goS sc0 0 (d ++ [c]) = .ok ⟨st.done, st.cur, decide (c ≠ 10)⟩) := by show _ = _; rw [HSTEP.out]; unfold stepS; rw [if_pos hrm]
        have HD : Hid ((c != 10) = decide (c ≠ 10)) := by show _ = _; rw [Bool.eq_iff_iff]; simp
        have HN : Hid (st.cur = none) := HRM.out hrm
        clear hp hz HC HG HQ hC hstep hcd hc HF hstop HSTEP HRM
        rw [hrm]
        clear hrm
        generalize (enc c).length = k at *
        go_wp2_with fail
        refine Calls.mono (HP.out _) ?_
        rintro e w1 ⟨rfl, hb1⟩
        have hbw1 := hbw.trans (hb1.mono hzw)
        have hown1 := owns_later hown hb1
        have hzw1 := hbw1.size
        clear HP hb1 hbw hown
        go_wp2_with (go_at_call 24; refine (rclass_k _ _).mono ?_; rintro e w' ⟨rfl, hw'⟩; rw [hw'])
        go_roundw
        case rel => exact ⟨d ++ [c], todo, _, q + k, HC2, HSTEP2, by go_num, HQ2, by rw [HD.out], (fun h => absurd HN.out h), by omega, hown1, hbw1⟩
        case measure => simp [intOf]; omega
      have hrm0 : st.remark = false := by simpa using hrm
      by_cases h35 : c = 35
      · have HSTEP2 : Hid (goS sc0 0 (d ++ [c]) = .ok ⟨st.toks, none, true⟩) := by show _ = _; rw [HSTEP.out]; unfold stepS; rw [if_neg hrm, if_pos h35]
        have h35b : (c == 35) = true := by rw [h35]; rfl
        have h10 : (c != 10) = true := by rw [h35]; rfl
        have HT : Hid (Sc.toks ⟨st.toks, none, true⟩ = st.toks) := by show _ = _; simp [Sc.toks, curToks]
        clear hp hz HC HG HQ hC hstep hcd hc HF hstop HSTEP HRM h35 hrm
        rw [hrm0]
        clear hrm0
        generalize (enc c).length = k at *
        go_wp2_with fail
        refine Calls.mono (HP.out _) ?_
        rintro e w1 ⟨rfl, hb1⟩
        have hbw1 := hbw.trans (hb1.mono hzw)
        have hown1 := owns_later hown hb1
        have hzw1 := hbw1.size
        clear HP hb1 hbw hown
        go_wp2_with (go_at_call 24; refine (rclass_k _ _).mono ?_; rintro e w' ⟨rfl, hw'⟩; rw [hw'])
        go_roundw
        case rel => exact ⟨d ++ [c], todo, _, q + k, HC2, HSTEP2, by go_num, HQ2, rfl, (fun h => absurd rfl h), by omega, by rw [HT.out]; exact hown1, hbw1⟩
        case measure => simp [intOf]; omega
      have h35b : (c == 35) = false := by rw [beq_eq_false_iff_ne]; exact h35
      by_cases hk1 : kl c = 1
      · have hcur : st.cur = none := by
          cases hcc : st.cur with
          | none => rfl
          | some x =>
            have := HF.out (by rw [hcc]; simp) c todo rfl
            rw [(isNm_iff c).2 (.inl hk1)] at this
            cases this
        obtain ⟨r', hr'⟩ : ∃ r', (c :: todo).takeWhile isNm = c :: r' := ⟨todo.takeWhile isNm, by rw [List.takeWhile_cons, (isNm_iff c).2 (.inl hk1)]; rfl⟩
        obtain ⟨td, htd⟩ : ∃ td, td = (c :: todo).dropWhile isNm := ⟨_, rfl⟩
        have hsplit : c :: todo = (c :: r') ++ td := by rw [htd, ← hr', List.takeWhile_append_dropWhile]
        have hall : ∀ x ∈ r', isNm x = true := fun x hx => takeWhile_all isNm (c :: todo) x (by rw [hr']; simp [hx])
        have hcpr : ∀ x ∈ c :: r', isCp x = true := fun x hx => hp.cp x (by rw [hC, hsplit]; simp only [List.mem_append]; exact .inr (.inl hx))
        have hst : st = ⟨st.done, none, false⟩ := by rw [← hcur, ← hrm0]
        have hgn := go_name c r' hk1 hall hcpr st.done q
        rw [← hst] at hgn
        have hgd : goS sc0 0 (d ++ (c :: r')) = goS st q (c :: r') := by rw [goS_append, HG.out]; simp only [Nat.zero_add]; rw [← HQ.out]
        have HRUN : Hid _ := fun wx => run_any s cs d (c :: todo) rest hp hC hs q HQ.out wx
        rw [hr', ← HQ.out] at HRUN
        have hEs : q + (encAll (c :: r')).length ≤ s.size := by
          rw [← hz, hp.eq, hC, hsplit, encAll_append, encAll_append, HQ.out]
          simp
        have HTX : Hid (s.extract q (q + (encAll (c :: r')).length) = ⟨(encAll (c :: r')).toArray⟩) := by
          refine extract_mid s (encAll d) (encAll (c :: r')) (encAll td ++ rest) ?_ _ _ HQ.out (by rw [HQ.out])
          rw [hp.eq, hC, hsplit, encAll_append, encAll_append]
          simp
        have HC3 : Hid (cs = (d ++ (c :: r')) ++ td) := by show _ = _; rw [hC, hsplit]; simp
        have HQ3 : Hid (q + (encAll (c :: r')).length = (encAll (d ++ (c :: r'))).length) := by show _ = _; rw [encAll_append, List.length_append, HQ.out]
        have hL1 : 1 ≤ (encAll (c :: r')).length := by simp [encAll]; omega
        have HK : Hid (kl c = 1) := hk1
        have HTK : Hid (st.toks = st.done) := by show _ = _; simp [Sc.toks, hcur, curToks]
        have HFR : Hid (∀ x y, td = x :: y → isNm x = false) := fun x y h => dropWhile_head isNm (c :: todo) x y (by rw [← htd]; exact h)
        generalize htt : encAll (c :: r') = tt at *
        obtain ⟨L, hL⟩ : ∃ L, tt.length = L := ⟨_, rfl⟩
        rw [hL] at HRUN hEs HTX HQ3 hL1
        by_cases hbig : 24 < L
        · rw [if_pos (by rw [hL]; exact hbig)] at hgn
          have HR : Hid (lexR cs rest = ⟨[], q, 5⟩) := by
            show _ = _
            unfold lexR
            rw [HC3.out, goS_append, hgd, hgn]
          clear hp hz HC HG HQ hC hstep hcd hc HF hstop HSTEP HRM h35 hrm hk1 hcur hr' htd hsplit hall hcpr hst hgn hgd HC2 HQ2 HC3 HQ3 HFR HTX htt HTK hown
          rw [hrm0]
          clear hrm0
          generalize (enc c).length = k at *
          have hbd : 24 < ((q + L : Nat) : Int) - (q : Int) := by omega
          go_wp2_with fail
          refine Calls.mono (HP.out _) ?_
          rintro e w1 ⟨rfl, hb1⟩
          have hbw1 := hbw.trans (hb1.mono hzw)
          have hzw1 := hbw1.size
          clear HP hb1 hbw
          go_wp2_with (go_at_call 24; refine (rclass_k _ _).mono ?_; rintro e w' ⟨rfl, hw'⟩; rw [hw', HK.out])
          refine Calls.mono (HRUN.out _) ?_
          rintro e w2 ⟨rfl, hb2⟩
          have hbw2 := hbw1.trans (hb2.mono hzw1)
          clear HRUN hb2 hbw1
          generalize hE : q + L = E at *
          go_wp2
          go_ret3
          rw [HR.out]
          exact ⟨_, rfl, World.ownsRow_nil _ _ _ _, hbw2⟩
        · rw [if_neg (by rw [hL]; exact hbig)] at hgn
          have HSTEP2 : Hid (goS sc0 0 (d ++ (c :: r')) = .ok ⟨st.done, some (q, tt), false⟩) := by show _ = _; rw [hgd, hgn]
          have HT : Hid (Sc.toks ⟨st.done, some (q, tt), false⟩ = st.toks ++ [⟨1, tt, q⟩]) := by show _ = _; rw [HTK.out]; simp [Sc.toks, curToks]
          clear hp hz HC HG HQ hC hstep hcd hc HF hstop HSTEP HRM h35 hrm hk1 hcur hr' htd hsplit hall hcpr hst hgn hgd HC2 HQ2 htt HTK
          rw [hrm0]
          clear hrm0
          generalize (enc c).length = k at *
          go_wp2_with fail
          refine Calls.mono (HP.out _) ?_
          rintro e w1 ⟨rfl, hb1⟩
          have hbw1 := hbw.trans (hb1.mono hzw)
          have hown1 := owns_later hown hb1
          have hzw1 := hbw1.size
          clear HP hb1 hbw hown
          go_wp2_with (go_at_call 24; refine (rclass_k _ _).mono ?_; rintro e w' ⟨rfl, hw'⟩; rw [hw', HK.out])
          refine Calls.mono (HRUN.out _) ?_
          rintro e w2 ⟨rfl, hb2⟩
          have hbw2 := hbw1.trans (hb2.mono hzw1)
          have hown2 := owns_later hown1 hb2
          have hzw2 := hbw2.size
          clear HRUN hb2 hbw1 hown1
          generalize hE : q + L = E at *
          have hqE : q ≤ E := by omega
          have HE : Hid (q + L = E) := hE
          clear hE
          have hbd : ¬ (24 : Int) < (E : Int) - (q : Int) := by have := HE.out; omega
          go_wp2_with (at_builtin; refine append_tok rfl _ _ rfl w.heap.size _ st.toks rfl (hown2.alloc _) ⟨1, tt, q⟩ ⟨w2.heap.size, 0, none⟩ rfl (fun j u h => cells_plain w2 (.int .i64 1) (.string (s.extract q E)) (.int .i64 q) j u (by rw [HTX.out]; exact h)) htl (by simp; omega) ?_; intro g cap w3 ho3 hgrow3)
          have hbw3 := hbw2.trans (toks_push (t := ⟨1, tt, q⟩) (v' := .bool true) hown2 hzw2 hgrow3)
          go_roundw
          case rel => exact ⟨d ++ (c :: r'), td, _, E, HC3, HSTEP2, by go_num, HQ3, rfl, (fun _ x y h => HFR.out x y h), hEs, by rw [HT.out]; simpa using ho3, hbw3⟩
          case measure => have := HE.out; simp [intOf]; omega
      by_cases hmk : isMark c = true
      · obtain ⟨hk4, _, _, _, _, _⟩ := kl_mark c hmk
        have HSTEP2 : Hid (goS sc0 0 (d ++ [c]) = .ok ⟨st.toks ++ [⟨2, enc c, q⟩], none, false⟩) := by show _ = _; rw [HSTEP.out]; unfold stepS; rw [if_neg hrm, if_neg h35, if_neg (by omega), if_pos hmk]
        have HT : Hid (Sc.toks ⟨st.toks ++ [⟨2, enc c, q⟩], none, false⟩ = st.toks ++ [⟨2, enc c, q⟩]) := by show _ = _; simp [Sc.toks, curToks]
        have HTX : Hid (s.extract q (q + (enc c).length) = ⟨(enc c).toArray⟩) := by
          refine extract_mid s (encAll d) (enc c) (encAll todo ++ rest) ?_ _ _ HQ.out (by rw [HQ.out])
          rw [hp.eq, hC, encAll_append]
          simp [encAll]
        have HK : Hid (kl c = 4) := hk4
        have HM : Hid (isMark c = true) := hmk
        clear hp hz HC HG HQ hC hstep hcd hc HF hstop HSTEP HRM h35 hrm hk1 hmk hk4
        rw [hrm0]
        clear hrm0
        generalize hk : (enc c).length = k at *
        generalize enc c = tt at *
        clear hk
        go_wp2_with fail
        refine Calls.mono (HP.out _) ?_
        rintro e w1 ⟨rfl, hb1⟩
        have hbw1 := hbw.trans (hb1.mono hzw)
        have hown1 := owns_later hown hb1
        have hzw1 := hbw1.size
        clear HP hb1 hbw hown
        go_wp2_with (first
          | (go_at_call 24; refine (rclass_k _ _).mono ?_; rintro e w' ⟨rfl, hw'⟩; rw [hw', HK.out])
          | (go_at_call 26; refine (mark_any _ _).mono ?_; rintro e w' ⟨rfl, hw'⟩; rw [hw', HM.out])
          | (at_builtin; refine append_tok rfl _ _ rfl w.heap.size _ st.toks rfl (hown1.alloc _) ⟨2, tt, q⟩ ⟨w1.heap.size, 0, none⟩ rfl (fun j u h => cells_plain w1 (.int .i64 2) (.string (s.extract q (q + k))) (.int .i64 q) j u (by rw [HTX.out]; exact h)) htl (by simp; omega) ?_; intro g cap w3 ho3 hgrow3))
        have hbw3 := hbw1.trans (toks_push (t := ⟨2, tt, q⟩) (v' := .bool true) hown1 hzw1 hgrow3)
        go_roundw
        case rel => exact ⟨d ++ [c], todo, _, q + k, HC2, HSTEP2, by go_num, HQ2, rfl, (fun h => absurd rfl h), by omega, by rw [HT.out]; simpa using ho3, hbw3⟩
        case measure => simp [intOf]; omega
      have hmk0 : isMark c = false := by simpa using hmk
      have hk1b : (kl c == 1) = false := by rw [beq_eq_false_iff_ne]; exact hk1
      have HM : Hid (isMark c = false) := hmk0
      by_cases hk3 : kl c = 3
      · have HSTEP2 : Hid (goS sc0 0 (d ++ [c]) = .ok ⟨st.toks, none, false⟩) := by show _ = _; rw [HSTEP.out]; unfold stepS; rw [if_neg hrm, if_neg h35, if_pos hk3]
        have HT : Hid (Sc.toks ⟨st.toks, none, false⟩ = st.toks) := by show _ = _; simp [Sc.toks, curToks]
        have HK : Hid (kl c = 3) := hk3
        clear hp hz HC HG HQ hC hstep hcd hc HF hstop HSTEP HRM h35 hrm hk1 hmk hmk0 hk3 hk1b
        rw [hrm0]
        clear hrm0
        generalize (enc c).length = k at *
        go_wp2_with fail
        refine Calls.mono (HP.out _) ?_
        rintro e w1 ⟨rfl, hb1⟩
        have hbw1 := hbw.trans (hb1.mono hzw)
        have hown1 := owns_later hown hb1
        have hzw1 := hbw1.size
        clear HP hb1 hbw hown
        go_wp2_with (first
          | (go_at_call 24; refine (rclass_k _ _).mono ?_; rintro e w' ⟨rfl, hw'⟩; rw [hw', HK.out])
          | (go_at_call 26; refine (mark_any _ _).mono ?_; rintro e w' ⟨rfl, hw'⟩; rw [hw', HM.out]))
        go_roundw
        case rel => exact ⟨d ++ [c], todo, _, q + k, HC2, HSTEP2, by go_num, HQ2, rfl, (fun h => absurd rfl h), by omega, by rw [HT.out]; exact hown1, hbw1⟩
        case measure => simp [intOf]; omega
      · have hst2 : stepS st q c = .err q 10 := by
          unfold stepS
          rw [if_neg hrm, if_neg h35, if_neg hk3, if_neg hmk]
          by_cases hk2 : kl c = 2
          · rw [if_pos hk2]
            cases hcc : st.cur with
            | none => rfl
            | some x =>
              have := HF.out (by rw [hcc]; simp) c todo rfl
              rw [(isNm_iff c).2 (.inr hk2)] at this
              cases this
          · rw [if_neg hk2, if_neg hk1]
        have HR : Hid (lexR cs rest = ⟨[], q, 10⟩) := hstop q 10 hst2
        have hk3b : (kl c != 3) = true := by rw [bne_iff_ne]; exact hk3
        clear hp hz HC HG HQ hC hstep hcd hc HF hstop HSTEP HRM h35 hrm hk1 hmk hmk0 hk3 hst2 HC2 HQ2
        rw [hrm0]
        clear hrm0
        generalize (enc c).length = k at *
        go_wp2_with fail
        refine Calls.mono (HP.out _) ?_
        rintro e w1 ⟨rfl, hb1⟩
        have hbw1 := hbw.trans (hb1.mono hzw)
        have hown1 := owns_later hown hb1
        have hzw1 := hbw1.size
        clear HP hb1 hbw hown
        go_wp2_with (first
          | (go_at_call 24; refine (rclass_k _ _).mono ?_; rintro e w' ⟨rfl, hw'⟩; rw [hw'])
          | (go_at_call 26; refine (mark_any _ _).mono ?_; rintro e w' ⟨rfl, hw'⟩; rw [hw', HM.out]))
        go_ret3
        rw [HR.out]
        exact ⟨_, rfl, World.ownsRow_nil _ _ _ _, hbw1⟩
end Go.Proofs.Ytchdecoceokcmaa
