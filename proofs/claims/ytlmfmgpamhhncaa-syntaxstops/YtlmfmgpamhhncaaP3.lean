/- Texts of the seat, packed: WF WG WI WJ WK. -/
import Derived.Test.YtlmfmgpamhhncaaP2
import Derived.Test.YtlmfmgpamhhncaaP1
import Derived.Deep.RegionWith
import Derived.Deep.QuietTactic
import Derived.BigQuiet
import Derived.Lib.Bytealg
import Derived.Laws.Runes
import Derived.LoopN
import Derived.WalkMore
/- A walk over the document's 'first': the code point at a text's beginning. -/
namespace Go.Proofs.Ytlmfmgpamhhncaa
open Go.RowKit

theorem one_at (c : Int) (hc : isCp c = true) (Y : ByteArray) (hY : Y.data.toList = enc c) (w : World) :
    Calls Try.prog 101 #[.int .i64 c] w fun e w' => e = .returned (.string Y) ∧ Below w.heap.size w w' := by
  have e : Y = ⟨(enc c).toArray⟩ := by
    apply ByteArray.ext
    apply Array.ext'
    simpa using hY
  rw [e]
  exact one_any c hc w

theorem ret_same {k : IntKind} {a b : Int} (h : a = b) : Ending.returned (.int k a) = .returned (.int k b) := by rw [h]

set_option maxRecDepth 1000000 in
set_option maxHeartbeats 8000000 in
theorem first_any (s : ByteArray) (K : Nat) (c R : Int) (hT : Target s.data.toList K c) (h5 : K = 5 → R = -1) (hc5 : K ≠ 5 → R = c) (w : World) (hs : s.size ≤ 100000) :
    Calls Try.prog 99 #[.string s] w fun e w' => e = .returned (.int .i64 R) ∧ Below w.heap.size w w' := by
  have HT : Hid (Target s.data.toList K c) := hT
  have H5 : Hid (K = 5 → R = -1) := h5
  have HC5 : Hid (K ≠ 5 → R = c) := hc5
  have hKs : Hid (K ≠ 5 → K ≤ 4 ∧ K ≤ s.size) := by
    intro hk
    rcases hT with ⟨h, _⟩ | ⟨h1, h2, h3⟩
    · exact absurd h hk
    · have hp := enc_pos c h1
      have := h3.length_le
      rw [size_list] at this
      omega
  clear hT h5 hc5
  go_enter Try.func99, Try.ntmps99
  go_wp2
  go_loopw [3, 4, 5] (fun n _ _ wr => ∃ (k : Nat), 1 ≤ k ∧ k ≤ 5 ∧ n = .int .i64 k ∧ k ≤ K ∧ Below w.heap.size w wr) (fun n _ _ _ => 5 - (intOf n).toNat)
  case atStart =>
    refine ⟨1, by omega, by omega, rfl, ?_, Below.refl _ _⟩
    rcases HT.out with ⟨h, _⟩ | ⟨h1, h2, _⟩
    · omega
    · have := enc_pos c h1
      omega
  case round =>
    obtain ⟨k, hk1, hk2, rfl, hkK, hbw⟩ := hrel
    have hsw := hbw.size
    by_cases hlt : k ≤ 4 ∧ k ≤ s.size
    · obtain ⟨h4, hsz⟩ := hlt
      have hkk : k = 1 ∨ k = 2 ∨ k = 3 ∨ k = 4 := by omega
      clear hKs
      rcases hkk with rfl | rfl | rfl | rfl
      · have htr := trip s.data.toList K c HT.out 1 (by omega) (by omega) ((bt s 0 : Nat) : Int) (cand1 s c)
        have l0 : 0 < s.size := by omega
        have e0 := bt_at s 0 l0
        have g0 := bt_lt s 0
        have HTR : Hid _ := htr
        clear htr HT
        go_wp2
        refine wp_loop_rounds 1 ?_
        rw [rounds_succ]
        go_wp2
        have htr := HTR.out
        clear HTR e0 g0
        generalize ((bt s 0 : Nat) : Int) = X at htr ⊢
        have htq : ((wid X == 1) = false ∧ K ≠ 1) ∨ (isCp X = true ∧ (wid X == 1) = true ∧ ∃ q : Bool, decide (enc X = s.data.toList.take 1) = q ∧ (q = false → K ≠ 1) ∧ (q = true → R = X)) := by
          rcases htr with ⟨hw, hK⟩ | ⟨hc, hw, he, hK⟩ | ⟨hc, hw, he, hK, hXc⟩
          · exact .inl ⟨hw, hK⟩
          · exact .inr ⟨hc, hw, false, by simpa using he, fun _ => hK, fun h => by cases h⟩
          · exact .inr ⟨hc, hw, true, by simpa using he, (fun h => by cases h), fun _ => by rw [HC5.out (by omega), hXc]⟩
        clear htr
        rcases htq with ⟨hw, hK⟩ | ⟨hc, hw, q, hdq, hq0, hq1⟩
        · go_quiet ((go_at_call 91; exact Calls.quiet_of_same (rwidth_any _ _)))
          all_goals go_wp2
          all_goals go_roundw
          case rel => exact ⟨2, by omega, by omega, rfl, by omega, below_drewN hbw _⟩
          case measure => simp [intOf]
        · have HC : Hid (isCp X = true) := hc
          obtain ⟨Y, HY⟩ : ∃ Y : ByteArray, Hid (Y.data.toList = enc X) := ⟨⟨(enc X).toArray⟩, by show _ = _; simp⟩
          have hq : (Y.toList == (s.extract 0 1).toList) = q := by rw [cmp_eq s Y 1 _ HY.out]; exact hdq
          have HQ0 : Hid (q = false → K ≠ 1) := hq0
          have HQ1 : Hid (q = true → R = X) := hq1
          clear hc hdq hq0 hq1
          go_region_with (first | (go_at_call 91; refine (rwidth_any _ _).mono ?_; rintro e w' ⟨rfl, rfl⟩) | (go_at_call 101; refine (one_at X HC.out Y HY.out _).mono ?_; rintro e w3 ⟨rfl, hb3⟩))
          all_goals clear hq
          cases q
          · have hK := HQ0.out rfl
            go_wp2
            go_roundw
            case rel => exact ⟨2, by omega, by omega, rfl, by omega, hbw.drew.trans (hb3.mono (by simp; omega))⟩
            case measure => simp [intOf]
          · have HR : Hid (R = X) := HQ1.out rfl
            go_wp2
            go_ret
            exact ⟨ret_same HR.out.symm, hbw.drew.trans (hb3.mono (by simp; omega))⟩
      · have htr := trip s.data.toList K c HT.out 2 (by omega) (by omega) (64 * ((bt s 0 : Int) % 32) + (bt s 1 : Int) % 64) (cand2 s c)
        have l0 : 0 < s.size := by omega
        have e0 := bt_at s 0 l0
        have g0 := bt_lt s 0
        have l1 : 1 < s.size := by omega
        have e1 := bt_at s 1 l1
        have g1 := bt_lt s 1
        have HTR : Hid _ := htr
        clear htr HT
        go_wp2
        refine wp_loop_rounds 2 ?_
        rw [rounds_succ]
        go_wp2
        rw [rounds_succ]
        go_wp2
        have htr := HTR.out
        clear HTR e0 g0 e1 g1
        generalize (64 * ((bt s 0 : Int) % 32) + (bt s 1 : Int) % 64) = X at htr ⊢
        have htq : ((wid X == 2) = false ∧ K ≠ 2) ∨ (isCp X = true ∧ (wid X == 2) = true ∧ ∃ q : Bool, decide (enc X = s.data.toList.take 2) = q ∧ (q = false → K ≠ 2) ∧ (q = true → R = X)) := by
          rcases htr with ⟨hw, hK⟩ | ⟨hc, hw, he, hK⟩ | ⟨hc, hw, he, hK, hXc⟩
          · exact .inl ⟨hw, hK⟩
          · exact .inr ⟨hc, hw, false, by simpa using he, fun _ => hK, fun h => by cases h⟩
          · exact .inr ⟨hc, hw, true, by simpa using he, (fun h => by cases h), fun _ => by rw [HC5.out (by omega), hXc]⟩
        clear htr
        rcases htq with ⟨hw, hK⟩ | ⟨hc, hw, q, hdq, hq0, hq1⟩
        · go_quiet ((go_at_call 91; exact Calls.quiet_of_same (rwidth_any _ _)))
          all_goals go_wp2
          all_goals go_roundw
          case rel => exact ⟨3, by omega, by omega, rfl, by omega, below_drewN (hbw.alloc hsw _) _⟩
          case measure => simp [intOf]
        · have HC : Hid (isCp X = true) := hc
          obtain ⟨Y, HY⟩ : ∃ Y : ByteArray, Hid (Y.data.toList = enc X) := ⟨⟨(enc X).toArray⟩, by show _ = _; simp⟩
          have hq : (Y.toList == (s.extract 0 2).toList) = q := by rw [cmp_eq s Y 2 _ HY.out]; exact hdq
          have HQ0 : Hid (q = false → K ≠ 2) := hq0
          have HQ1 : Hid (q = true → R = X) := hq1
          clear hc hdq hq0 hq1
          go_region_with (first | (go_at_call 91; refine (rwidth_any _ _).mono ?_; rintro e w' ⟨rfl, rfl⟩) | (go_at_call 101; refine (one_at X HC.out Y HY.out _).mono ?_; rintro e w3 ⟨rfl, hb3⟩))
          all_goals clear hq
          cases q
          · have hK := HQ0.out rfl
            go_wp2
            go_roundw
            case rel => exact ⟨3, by omega, by omega, rfl, by omega, (hbw.alloc hsw _).drew.trans (hb3.mono (by simp; omega))⟩
            case measure => simp [intOf]
          · have HR : Hid (R = X) := HQ1.out rfl
            go_wp2
            go_ret
            exact ⟨ret_same HR.out.symm, (hbw.alloc hsw _).drew.trans (hb3.mono (by simp; omega))⟩
      · have htr := trip s.data.toList K c HT.out 3 (by omega) (by omega) (64 * (64 * ((bt s 0 : Int) % 16) + (bt s 1 : Int) % 64) + (bt s 2 : Int) % 64) (cand3 s c)
        have l0 : 0 < s.size := by omega
        have e0 := bt_at s 0 l0
        have g0 := bt_lt s 0
        have l1 : 1 < s.size := by omega
        have e1 := bt_at s 1 l1
        have g1 := bt_lt s 1
        have l2 : 2 < s.size := by omega
        have e2 := bt_at s 2 l2
        have g2 := bt_lt s 2
        have HTR : Hid _ := htr
        clear htr HT
        go_wp2
        refine wp_loop_rounds 3 ?_
        rw [rounds_succ]
        go_wp2
        rw [rounds_succ]
        go_wp2
        rw [rounds_succ]
        go_wp2
        have htr := HTR.out
        clear HTR e0 g0 e1 g1 e2 g2
        generalize (64 * (64 * ((bt s 0 : Int) % 16) + (bt s 1 : Int) % 64) + (bt s 2 : Int) % 64) = X at htr ⊢
        have htq : ((wid X == 3) = false ∧ K ≠ 3) ∨ (isCp X = true ∧ (wid X == 3) = true ∧ ∃ q : Bool, decide (enc X = s.data.toList.take 3) = q ∧ (q = false → K ≠ 3) ∧ (q = true → R = X)) := by
          rcases htr with ⟨hw, hK⟩ | ⟨hc, hw, he, hK⟩ | ⟨hc, hw, he, hK, hXc⟩
          · exact .inl ⟨hw, hK⟩
          · exact .inr ⟨hc, hw, false, by simpa using he, fun _ => hK, fun h => by cases h⟩
          · exact .inr ⟨hc, hw, true, by simpa using he, (fun h => by cases h), fun _ => by rw [HC5.out (by omega), hXc]⟩
        clear htr
        rcases htq with ⟨hw, hK⟩ | ⟨hc, hw, q, hdq, hq0, hq1⟩
        · go_quiet ((go_at_call 91; exact Calls.quiet_of_same (rwidth_any _ _)))
          all_goals go_wp2
          all_goals go_roundw
          case rel => exact ⟨4, by omega, by omega, rfl, by omega, below_drewN (hbw.alloc hsw _) _⟩
          case measure => simp [intOf]
        · have HC : Hid (isCp X = true) := hc
          obtain ⟨Y, HY⟩ : ∃ Y : ByteArray, Hid (Y.data.toList = enc X) := ⟨⟨(enc X).toArray⟩, by show _ = _; simp⟩
          have hq : (Y.toList == (s.extract 0 3).toList) = q := by rw [cmp_eq s Y 3 _ HY.out]; exact hdq
          have HQ0 : Hid (q = false → K ≠ 3) := hq0
          have HQ1 : Hid (q = true → R = X) := hq1
          clear hc hdq hq0 hq1
          go_region_with (first | (go_at_call 91; refine (rwidth_any _ _).mono ?_; rintro e w' ⟨rfl, rfl⟩) | (go_at_call 101; refine (one_at X HC.out Y HY.out _).mono ?_; rintro e w3 ⟨rfl, hb3⟩))
          all_goals clear hq
          cases q
          · have hK := HQ0.out rfl
            go_wp2
            go_roundw
            case rel => exact ⟨4, by omega, by omega, rfl, by omega, (hbw.alloc hsw _).drew.trans (hb3.mono (by simp; omega))⟩
            case measure => simp [intOf]
          · have HR : Hid (R = X) := HQ1.out rfl
            go_wp2
            go_ret
            exact ⟨ret_same HR.out.symm, (hbw.alloc hsw _).drew.trans (hb3.mono (by simp; omega))⟩
      · have htr := trip s.data.toList K c HT.out 4 (by omega) (by omega) (64 * (64 * (64 * ((bt s 0 : Int) % 8) + (bt s 1 : Int) % 64) + (bt s 2 : Int) % 64) + (bt s 3 : Int) % 64) (cand4 s c)
        have l0 : 0 < s.size := by omega
        have e0 := bt_at s 0 l0
        have g0 := bt_lt s 0
        have l1 : 1 < s.size := by omega
        have e1 := bt_at s 1 l1
        have g1 := bt_lt s 1
        have l2 : 2 < s.size := by omega
        have e2 := bt_at s 2 l2
        have g2 := bt_lt s 2
        have l3 : 3 < s.size := by omega
        have e3 := bt_at s 3 l3
        have g3 := bt_lt s 3
        have HTR : Hid _ := htr
        clear htr HT
        go_wp2
        refine wp_loop_rounds 4 ?_
        rw [rounds_succ]
        go_wp2
        rw [rounds_succ]
        go_wp2
        rw [rounds_succ]
        go_wp2
        rw [rounds_succ]
        go_wp2
        have htr := HTR.out
        clear HTR e0 g0 e1 g1 e2 g2 e3 g3
        generalize (64 * (64 * (64 * ((bt s 0 : Int) % 8) + (bt s 1 : Int) % 64) + (bt s 2 : Int) % 64) + (bt s 3 : Int) % 64) = X at htr ⊢
        have htq : ((wid X == 4) = false ∧ K ≠ 4) ∨ (isCp X = true ∧ (wid X == 4) = true ∧ ∃ q : Bool, decide (enc X = s.data.toList.take 4) = q ∧ (q = false → K ≠ 4) ∧ (q = true → R = X)) := by
          rcases htr with ⟨hw, hK⟩ | ⟨hc, hw, he, hK⟩ | ⟨hc, hw, he, hK, hXc⟩
          · exact .inl ⟨hw, hK⟩
          · exact .inr ⟨hc, hw, false, by simpa using he, fun _ => hK, fun h => by cases h⟩
          · exact .inr ⟨hc, hw, true, by simpa using he, (fun h => by cases h), fun _ => by rw [HC5.out (by omega), hXc]⟩
        clear htr
        rcases htq with ⟨hw, hK⟩ | ⟨hc, hw, q, hdq, hq0, hq1⟩
        · go_quiet ((go_at_call 91; exact Calls.quiet_of_same (rwidth_any _ _)))
          all_goals go_wp2
          all_goals go_roundw
          case rel => exact ⟨5, by omega, by omega, rfl, by omega, below_drewN (hbw.alloc hsw _) _⟩
          case measure => simp [intOf]
        · have HC : Hid (isCp X = true) := hc
          obtain ⟨Y, HY⟩ : ∃ Y : ByteArray, Hid (Y.data.toList = enc X) := ⟨⟨(enc X).toArray⟩, by show _ = _; simp⟩
          have hq : (Y.toList == (s.extract 0 4).toList) = q := by rw [cmp_eq s Y 4 _ HY.out]; exact hdq
          have HQ0 : Hid (q = false → K ≠ 4) := hq0
          have HQ1 : Hid (q = true → R = X) := hq1
          clear hc hdq hq0 hq1
          go_region_with (first | (go_at_call 91; refine (rwidth_any _ _).mono ?_; rintro e w' ⟨rfl, rfl⟩) | (go_at_call 101; refine (one_at X HC.out Y HY.out _).mono ?_; rintro e w3 ⟨rfl, hb3⟩))
          all_goals clear hq
          cases q
          · have hK := HQ0.out rfl
            go_wp2
            go_roundw
            case rel => exact ⟨5, by omega, by omega, rfl, by omega, (hbw.alloc hsw _).drew.trans (hb3.mono (by simp; omega))⟩
            case measure => simp [intOf]
          · have HR : Hid (R = X) := HQ1.out rfl
            go_wp2
            go_ret
            exact ⟨ret_same HR.out.symm, (hbw.alloc hsw _).drew.trans (hb3.mono (by simp; omega))⟩
    · have HK : Hid (R = -1) := by
        refine H5.out ?_
        apply Classical.byContradiction
        intro hne
        have := hKs.out hne
        omega
      clear hKs
      by_cases h4 : k ≤ 4
      · have h6 : ¬ k ≤ s.size := by omega
        clear hlt
        go_wp2
        go_ret
        exact ⟨ret_same HK.out.symm, hbw⟩
      · clear hlt
        go_wp2
        go_ret
        exact ⟨ret_same HK.out.symm, hbw⟩
end Go.Proofs.Ytlmfmgpamhhncaa

/- Walks over the document's 'read', Runes, Bad and Cut: a text's code points, its first bad byte, and where it is cut. -/
namespace Go.Proofs.Ytlmfmgpamhhncaa
open Go.RowKit

theorem first_cp (s : ByteArray) (d todo : List Int) (c : Int) (rest : List UInt8) (h : s.data.toList = encAll (d ++ c :: todo) ++ rest) (hc : isCp c = true) (pos : Nat) (hpos : pos = (encAll d).length) (w : World) (hs : s.size ≤ 100000) :
    Calls Try.prog 99 #[.string (s.extract pos s.size)] w fun e w' => e = .returned (.int .i64 c) ∧ Below w.heap.size w w' := by
  have hz := size_list s
  have hT : (s.extract pos s.size).data.toList = enc c ++ (encAll todo ++ rest) := by
    rw [Lib.extract_data, hpos, ← hz, h, encAll_append]
    simp [encAll]
    rw [List.take_of_length_le (by simp)]
  have hp := enc_pos c hc
  refine first_any _ (enc c).length c c (.inr ⟨hc, rfl, by rw [hT]; exact ⟨_, rfl⟩⟩) (by omega) (fun _ => rfl) w (by simp; omega)

theorem first_none (s : ByteArray) (cs : List Int) (rest : List UInt8) (h : s.data.toList = encAll cs ++ rest) (hn : NoCp rest) (pos : Nat) (hpos : pos = (encAll cs).length) (w : World) (hs : s.size ≤ 100000) :
    Calls Try.prog 99 #[.string (s.extract pos s.size)] w fun e w' => e = .returned (.int .i64 (-1)) ∧ Below w.heap.size w w' := by
  have hz := size_list s
  have hT : (s.extract pos s.size).data.toList = rest := by
    rw [Lib.extract_data, hpos, ← hz, h]
    simp
  refine first_any _ 5 0 (-1) (.inl ⟨rfl, by rw [hT]; exact hn⟩) (fun _ => rfl) (fun h => absurd rfl h) w (by simp; omega)

set_option maxRecDepth 1000000 in
set_option maxHeartbeats 1000000 in
theorem read_any (s : ByteArray) (cs : List Int) (rest : List UInt8) (hp0 : Parts s.data.toList cs rest) (w : World) (hs : s.size ≤ 100000) :
    Calls Try.prog 90 #[.string s] w fun e w' => ∃ v, e = .returned (.tuple #[v, .int .i64 (badV cs rest)]) ∧ w'.ownsRow w.heap.size 3 1 v cs.length (ivs cs) ∧ Below w.heap.size w w' := by
  obtain ⟨i0, hi, hz0, hz1, hz2⟩ := info_parts Try.info3
  have hz := size_list s
  go_enter Try.func90, Try.ntmps90
  go_wp2
  go_loopw [4, 5, 6] (fun v av _ wr => ∃ (d todo : List Int) (pos : Nat), Hid (cs = d ++ todo) ∧ av = .int .i64 pos ∧ Hid (pos = (encAll d).length) ∧ pos ≤ s.size ∧ wr.ownsRow w.heap.size 3 1 v d.length (ivs d) ∧ Below w.heap.size w wr) (fun _ av _ _ => s.size - (intOf av).toNat)
  case atStart => exact ⟨[], cs, 0, rfl, rfl, rfl, Nat.zero_le _, World.ownsRow_nil _ _ _ _, Below.refl _ _⟩
  case round =>
    obtain ⟨d, todo, pos, HC, rfl, HPOS, hps, hown, hbw⟩ := hrel
    have hsw := hbw.size
    cases todo with
    | cons c todo =>
      have hS : s.data.toList = encAll (d ++ c :: todo) ++ rest := by rw [← HC.out]; exact hp0.eq
      have hc : isCp c = true := hp0.cp c (by rw [HC.out]; simp)
      have hcd : ∀ x ∈ d, isCp x = true := fun x hx => hp0.cp x (by rw [HC.out]; simp [hx])
      have hk := enc_pos c hc
      have hge := (encAll_len_ge d hcd).1
      have hlen : (encAll (d ++ [c])).length = pos + (enc c).length := by rw [encAll_append, encAll_one, HPOS.out]; simp
      have hsz : pos + (enc c).length ≤ s.size := by
        rw [← hz, hS, encAll_append, HPOS.out]
        simp [encAll]
      have hdl : d.length ≤ 100000 := by have := HPOS.out; omega
      have hcb := (isCp_iff c).1 hc
      have hf := fun wx => first_cp s d todo c rest hS hc pos HPOS.out wx hs
      have HF : Hid _ := hf
      have HR : Hid (cs = (d ++ [c]) ++ todo) := by show _ = _; rw [HC.out]; simp
      have HL : Hid (pos + (enc c).length = (encAll (d ++ [c])).length) := hlen.symm
      have HW : Hid (wid c = ((enc c).length : Int)) := (enc_len c hc).symm
      obtain ⟨hcb1, hcb2, _⟩ := hcb
      have hneg : ¬ c < 0 := by omega
      generalize (enc c).length = k at *
      have hlt : pos < s.size := by omega
      clear hS hc hcd hlen HC hp0 hz hf HPOS hge
      go_wp2_with fail
      refine Calls.mono (HF.out wr) ?_
      rintro e w1 ⟨rfl, hb1⟩
      clear HF
      have hown1 := owns_later hown hb1
      have hbw1 : Below w.heap.size w w1 := hbw.trans (hb1.mono hsw)
      have hsw1 := hbw1.size
      clear hown hbw hb1
      go_wp2_with (first
        | (at_builtin; refine wpList_append_own _ rfl _ _ 133 rfl w.heap.size 3 i0 (.int .i64 0) 1 8 Try.underlying133 hi hz0 hz1 hz2 rfl (by decide) _ _ _ rfl (hown1.alloc _) ⟨w1.heap.size, 0, none⟩ 1 1 [.int .i64 c] rfl rfl (cell_one_new _ _ _) (fun x hx => by simp at hx; subst hx; rfl) (by unfold maxLen; omega) (by omega) (by simp; omega) ?_; intro v' w3 hown' hgrow3 hnil3)
        | (go_at_call 91; refine (rwidth_any _ _).mono ?_; rintro e w' ⟨rfl, hw'⟩; rw [hw', HW.out]))
      have hbw3 : Below w.heap.size w w3 := Below.grown (hbw1.alloc hsw1 _) hgrow3 (by simp; omega) (fun j hj => (hown1.lt _ hj).1)
      go_roundw
      case rel => exact ⟨d ++ [c], todo, pos + k, HR, by go_num, HL, hsz, by rw [ivs_snoc]; simpa using hown', hbw3⟩
      case measure => simp [intOf]; omega
    | nil =>
      have hC : cs = d := by simpa using HC.out
      subst hC
      by_cases hr : rest = []
      · have hge : ¬ pos < s.size := by
          rw [← hz, hp0.eq, hr, HPOS.out]
          simp
        have HB : Hid (badV cs rest = -1) := by show _ = _; simp [badV, hr]
        clear hr hp0 hz HC HPOS
        go_wp2
        go_ret2
        rw [HB.out]
        exact ⟨_, rfl, hown, hbw⟩
      · have hn : NoCp rest := hp0.stop.resolve_left hr
        have hlt : pos < s.size := by
          rw [← hz, hp0.eq, HPOS.out]
          have := List.length_pos_iff.2 hr
          simp
          omega
        have HB : Hid (badV cs rest = (pos : Int)) := by show _ = _; rw [HPOS.out]; simp [badV, hr]
        have HF : Hid _ := fun wx => first_none s cs rest hp0.eq hn pos HPOS.out wx hs
        clear hr hp0 hz HC HPOS hn
        go_wp2_with fail
        refine Calls.mono (HF.out wr) ?_
        rintro e w1 ⟨rfl, hb1⟩
        clear HF
        go_wp2
        go_ret2
        rw [HB.out]
        exact ⟨_, rfl, owns_later hown hb1, hbw.trans (hb1.mono hsw)⟩

set_option maxRecDepth 1000000 in
set_option maxHeartbeats 1000000 in
theorem rrunes_bad (s : ByteArray) (cs : List Int) (rest : List UInt8) (hp0 : Parts s.data.toList cs rest) (hr : rest ≠ []) (w : World) (hs : s.size ≤ 100000) :
    Calls Try.prog 78 #[.string s] w fun e w' => e = .returned (.tuple #[.slice none 0 0, .int .i64 4]) ∧ Below w.heap.size w w' := by
  have hb : 0 ≤ badV cs rest := by simp [badV, hr]
  go_enter Try.func78, Try.ntmps78
  go_wp2_with (go_at_call 90; refine (read_any s cs rest hp0 _ hs).mono ?_; rintro e w1 ⟨v, rfl, _, hb1⟩)
  go_ret2
  exact ⟨rfl, hb1⟩

set_option maxRecDepth 1000000 in
set_option maxHeartbeats 1000000 in
theorem rrunes_good (s : ByteArray) (cs : List Int) (hp0 : Parts s.data.toList cs []) (w : World) (hs : s.size ≤ 100000) :
    Calls Try.prog 78 #[.string s] w fun e w' => ∃ v, e = .returned (.tuple #[v, .int .i64 0]) ∧ w'.ownsRow w.heap.size 3 1 v cs.length (ivs cs) ∧ Below w.heap.size w w' := by
  have hb : badV cs [] < 0 := by simp [badV]
  go_enter Try.func78, Try.ntmps78
  go_wp2_with (go_at_call 90; refine (read_any s cs [] hp0 _ hs).mono ?_; rintro e w1 ⟨v, rfl, ho1, hb1⟩)
  go_ret2
  exact ⟨_, rfl, ho1, hb1⟩

set_option maxRecDepth 1000000 in
set_option maxHeartbeats 1000000 in
theorem rcut_any (s : ByteArray) (cs : List Int) (rest : List UInt8) (hp0 : Parts s.data.toList cs rest) (n : Int) (w : World) (hs : s.size ≤ 100000) :
    Calls Try.prog 77 #[.string s, .int .i64 n] w fun e w' => e = .returned (.tuple #[.string (s.extract 0 (cutV cs n)), .string (s.extract (cutV cs n) s.size)]) ∧ Below w.heap.size w w' := by
  have hz := size_list s
  have hsz : (encAll cs).length ≤ s.size := by rw [← hz, hp0.eq]; simp
  have hcl : cs.length ≤ 100000 := by have := (encAll_len_ge cs hp0.cp).1; omega
  have HCP : Hid (∀ c ∈ cs, isCp c = true) := hp0.cp
  go_enter Try.func77, Try.ntmps77
  go_wp2_with (go_at_call 90; refine (read_any s cs rest hp0 _ hs).mono ?_; rintro e w1 ⟨v, rfl, ho1, hb1⟩)
  have hr1 := reads_of_owns ho1 rfl
  have hz1 := hb1.size
  obtain ⟨a, ca, rfl, _, hca⟩ := hr1
  clear ho1 hp0 hz
  go_loopw [8, 9] (fun av i wr => ∃ (k pos : Nat), k ≤ cs.length ∧ (k : Int) ≤ max n 0 ∧ i = .int .i64 k ∧ av = .int .i64 pos ∧ Hid (pos = (encAll (cs.take k)).length) ∧ pos ≤ s.size ∧ Below w1.heap.size w1 wr) (fun _ i _ => cs.length - (intOf i).toNat)
  case atStart => exact ⟨0, 0, Nat.zero_le _, by omega, rfl, rfl, rfl, Nat.zero_le _, Below.refl _ _⟩
  case round =>
    obtain ⟨k, pos, hk, hkn, rfl, rfl, HPOS, hps, hbw⟩ := hrel
    have hsw := hbw.size
    by_cases hgo : k < cs.length ∧ (k : Int) < n
    · obtain ⟨hlt, hltn⟩ := hgo
      obtain ⟨b1, o1, rfl, hc1⟩ := hca k hlt
      have hd1 := cell_later hbw hc1
      have hcz : isCp (cs.getD k 0) = true := HCP.out _ (by simp [hlt])
      have HTK : Hid (cs.take (k + 1) = cs.take k ++ [cs.getD k 0]) := take_snoc cs k hlt
      generalize cs.getD k 0 = z at *
      have HW : Hid (wid z = ((enc z).length : Int)) := (enc_len z hcz).symm
      have hep := enc_pos z hcz
      have HNX : Hid (pos + (enc z).length = (encAll (cs.take (k + 1))).length) := by show _ = _; rw [HTK.out, encAll_append, encAll_one, HPOS.out]; simp
      have hps2 : pos + (enc z).length ≤ s.size := by
        rw [HNX.out]
        have h2 : encAll cs = encAll (cs.take (k + 1)) ++ encAll (cs.drop (k + 1)) := by rw [← encAll_append, List.take_append_drop]
        have h3 := congrArg List.length h2
        simp only [List.length_append] at h3
        omega
      generalize (enc z).length = q at *
      have hkn2 : ((k + 1 : Nat) : Int) ≤ max n 0 := by omega
      clear hca hc1 hcz
      go_wp2_with (go_at_call 91; refine (rwidth_any _ _).mono ?_; rintro e w' ⟨rfl, hw'⟩; rw [hw', HW.out])
      go_roundw
      case rel => exact ⟨k + 1, pos + q, by omega, hkn2, by go_num, by go_num, HNX, hps2, hbw⟩
      case measure => simp [intOf]; omega
    · have HE : Hid (cutV cs n = pos) := by
        show _ = _
        rw [HPOS.out]
        unfold cutV
        by_cases h1 : k < cs.length
        · have h2 : n.toNat = k := by omega
          rw [h2]
        · rw [List.take_of_length_le (show cs.length ≤ k by omega), List.take_of_length_le (show cs.length ≤ n.toNat by omega)]
      have hbf : Below w.heap.size w wr := hb1.trans (hbw.mono hz1)
      clear hca HPOS
      by_cases h1 : k < cs.length
      · have h2 : ¬ (k : Int) < n := by omega
        clear hgo
        go_wp2
        go_quiet (fail)
        go_wp2
        go_ret2
        rw [HE.out]
        exact ⟨rfl, below_drewN hbf _⟩
      · clear hgo
        go_wp2
        go_quiet (fail)
        go_wp2
        go_ret2
        rw [HE.out]
        exact ⟨rfl, below_drewN hbf _⟩
end Go.Proofs.Ytlmfmgpamhhncaa

/- A walk over strings.IndexByte, and over strings.ContainsRune at the six marks. -/
namespace Go.Proofs.Ytlmfmgpamhhncaa
open Go.RowKit

set_option maxRecDepth 1000000 in
set_option maxHeartbeats 1000000 in
theorem ibyte51 (s : ByteArray) (c : Int) (w : World) :
    Calls Try.prog 100 #[.string s, .int .u8 c] w fun e w' => e = .returned (.int .i64 (Lib.indexByte s.data.toList c.toNat.toUInt8)) ∧ w' = w := by
  go_enter Try.func100, Try.ntmps100
  go_wp2
  rw [run_callFunc_extern Try.func102 (by kernel_rfl) (by kernel_rfl) (by kernel_rfl) (e := Extern.BytealgIndexByte.indexByte) (by kernel_rfl), Lib.run_indexByteString]
  simp only [Result.andThen]
  rw [Oper.upon_value]
  go_wp2
  go_ret
  exact ⟨rfl, rfl⟩

set_option maxRecDepth 1000000 in
set_option maxHeartbeats 1000000 in
theorem ibyte (s : ByteArray) (c : Int) (w : World) :
    Calls Try.prog 93 #[.string s, .int .u8 c] w fun e w' => e = .returned (.int .i64 (Lib.indexByte s.data.toList c.toNat.toUInt8)) ∧ w' = w := by
  go_enter Try.func93, Try.ntmps93
  go_wp2_with (go_at_call 100; refine (ibyte51 _ _ _).mono ?_; rintro e w' ⟨rfl, rfl⟩)
  go_ret
  exact ⟨rfl, rfl⟩

/-- The six marks. -/
theorem ib_marks (c : Int) (h0 : 0 ≤ c) (h1 : c < 256) : decide (0 ≤ Lib.indexByte [123, 125, 40, 41, 59, 44] c.toNat.toUInt8) = isMark c := by
  have h : ∀ n : Fin 256, decide (0 ≤ Lib.indexByte [123, 125, 40, 41, 59, 44] n.val.toUInt8) = isMark (n.val : Int) := by decide +kernel
  have := h ⟨c.toNat, by omega⟩
  simp only at this
  rw [this]
  congr 1
  omega

set_option maxRecDepth 1000000 in
set_option maxHeartbeats 1000000 in
theorem irune_ascii (c : Int) (h0 : 0 ≤ c) (h1 : c < 128) (w : World) :
    Calls Try.prog 86 #[.string ⟨#[123, 125, 40, 41, 59, 44]⟩, .int .i32 c] w fun e w' => ∃ k : Int, e = .returned (.int .i64 k) ∧ decide (0 ≤ k) = isMark c ∧ Below w.heap.size w w' := by
  have HM : Hid _ := ib_marks c h0 (by omega)
  go_enter Try.func86, Try.ntmps86
  go_wp2_with (go_at_call 93; refine (ibyte _ _ _).mono ?_; rintro e w' ⟨rfl, rfl⟩)
  go_ret
  exact ⟨_, rfl, HM.out, Below.refl _ _⟩
end Go.Proofs.Ytlmfmgpamhhncaa

/- A walk over strings.ContainsRune at the six marks: does a code point stand among them? -/
namespace Go.Proofs.Ytlmfmgpamhhncaa
open Go.RowKit

theorem encode_cp (c : Int) (h : isCp c = true) : Utf8.encode c = ⟨(enc c).toArray⟩ := by
  have hv := valid_of c h
  unfold Utf8.encode enc encN
  simp only [hv, if_true]
  generalize c.toNat = n
  clear hv h
  by_cases h1 : n < 128
  · simp only [h1, if_true]
  by_cases h2 : n < 2048
  · simp only [h1, h2, if_true, if_false]
  by_cases h3 : n < 65536
  · simp only [h1, h2, h3, if_true, if_false]
  · simp only [h1, h2, h3, if_false]

theorem no_mark (c : Int) (h : 128 ≤ c) : isMark c = false := by
  unfold isMark
  rw [decide_eq_false_iff_not]
  omega

theorem parts_marks : Parts (⟨#[123, 125, 40, 41, 59, 44]⟩ : ByteArray).data.toList [123, 125, 40, 41, 59, 44] [] :=
  ⟨by decide +kernel, by decide +kernel, .inl rfl⟩

set_option maxRecDepth 1000000 in
set_option maxHeartbeats 1000000 in
theorem irune_bad (w : World) :
    Calls Try.prog 86 #[.string ⟨#[123, 125, 40, 41, 59, 44]⟩, .int .i32 65533] w fun e w' => e = .returned (.int .i64 (-1)) ∧ Below w.heap.size w w' := by
  obtain ⟨s, hs⟩ : ∃ s : ByteArray, s = ⟨#[123, 125, 40, 41, 59, 44]⟩ := ⟨_, rfl⟩
  rw [← hs]
  have hp0 : Parts s.data.toList [123, 125, 40, 41, 59, 44] [] := by rw [hs]; exact parts_marks
  have hsz6 : s.size = 6 := by rw [hs]; rfl
  have hlt : ∀ c ∈ ([123, 125, 40, 41, 59, 44] : List Int), (c == 65533) = false := by decide
  generalize ([123, 125, 40, 41, 59, 44] : List Int) = cs at *
  clear hs
  have hz := size_list s
  have hbl : ∀ n, Below w.heap.size w (w.iter s n) := fun n => (Below.refl _ _).alloc (Nat.le_refl _) _
  go_enter Try.func86, Try.ntmps86
  go_wp2
  go_loopw [5, 6] (fun _ _ wr => ∃ (d todo : List Int), Hid (cs = d ++ todo) ∧ wr = w.iter s (encAll d).length) (fun _ _ wr => s.size - wr.iterPos w.heap.size)
  case atStart => exact ⟨[], cs, rfl, rfl⟩
  case round =>
    obtain ⟨d, todo, HC, rfl⟩ := hrel
    have hip : ∀ n, (w.iter s n).iterPos w.heap.size = n := fun n => by simp
    cases todo with
    | cons c todo =>
      have hS : s.data.toList = encAll (d ++ c :: todo) ++ [] := by rw [← HC.out]; exact hp0.eq
      have hc : isCp c = true := hp0.cp c (by rw [HC.out]; simp)
      have h2 : (c == 65533) = false := hlt c (by rw [HC.out]; simp)
      have hd := decode_at s d todo c [] hS hc
      have hk := enc_pos c hc
      have hlen : (encAll (d ++ [c])).length = (encAll d).length + (enc c).length := by rw [encAll_append, encAll_one]; simp
      have hsz : (encAll d).length + (enc c).length ≤ s.size := by
        rw [← hz, hS, encAll_append]
        simp [encAll]
      have hcn := cp_toNat c hc
      have HR : Hid (cs = (d ++ [c]) ++ todo) := by show _ = _; rw [HC.out]; simp
      have HL : Hid ((encAll (d ++ [c])).length = (encAll d).length + (enc c).length) := hlen
      generalize hp1 : (encAll d).length = pos at *
      generalize hk1 : (enc c).length = k at *
      have hnx : ∀ ty, (Instr.next (.pointer (some ⟨w.heap.size, 0, none⟩)) true ty).run Try.prog (w.iter s pos) = .ok (.tuple #[.bool true, .int .i64 pos, .int .i32 c]) (w.iter s (pos + k)) := by
        intro ty
        have h := run_next_any (P := Try.prog) w s pos ty (by omega)
        rw [hd] at h
        simp only [hcn] at h
        exact h
      clear hS hc hd hlen hcn HC hp1 hk1 hp0 hz hlt
      go_wp2
      go_roundw
      case rel => exact ⟨d ++ [c], todo, HR, by rw [HL.out]⟩
      case measure => simp; omega
    | nil =>
      have hC : cs = d := by simpa using HC.out
      subst hC
      have hsz : ¬ (encAll cs).length < s.size := by
        rw [← hz, hp0.eq]
        simp
      generalize (encAll cs).length = pos at *
      have hnx : ∀ ty, (Instr.next (.pointer (some ⟨w.heap.size, 0, none⟩)) true ty).run Try.prog (w.iter s pos) = _ := fun ty => run_next_end w s pos ty hsz
      clear hp0 hz hlt
      go_wp2
      go_ret
      exact ⟨rfl, hbl _⟩

end Go.Proofs.Ytlmfmgpamhhncaa

/- A walk over strings.ContainsRune at the six marks: a code point beyond ASCII is none of them. -/
namespace Go.Proofs.Ytlmfmgpamhhncaa
open Go.RowKit

set_option maxRecDepth 1000000 in
set_option maxHeartbeats 1000000 in
theorem vrune (c : Int) (hc : isCp c = true) (w : World) : Calls Try.prog 94 #[.int .i32 c] w fun e w' => e = .returned (.bool true) ∧ w' = w := by
  rw [isCp_iff] at hc
  obtain ⟨h1, h2, h3⟩ := hc
  go_enter Try.func94, Try.ntmps94
  go_wp2
  all_goals go_ret
  all_goals first | exact ⟨rfl, rfl⟩ | (exfalso; omega)

theorem ib_none (l : List UInt8) (b : UInt8) (h : ∀ x ∈ l, x ≠ b) : Lib.indexByte l b = -1 := by
  induction l with
  | nil => rfl
  | cons x l ih =>
    unfold Lib.indexByte
    have h1 : (x == b) = false := by rw [beq_eq_false_iff_ne]; exact h x (by simp)
    rw [h1, ih (fun y hy => h y (by simp [hy]))]
    rfl

theorem ib_sub (k : Nat) (b : Nat) (h0 : 128 ≤ b) (h1 : b < 256) : Lib.indexByte ((⟨#[123, 125, 40, 41, 59, 44]⟩ : ByteArray).extract k 6).data.toList ((b : Int).toNat.toUInt8) = -1 := by
  apply ib_none
  intro x hx
  have hx2 : x ∈ ([123, 125, 40, 41, 59, 44] : List UInt8) := by
    rw [Lib.extract_data] at hx
    exact List.mem_of_mem_drop (List.mem_of_mem_take hx)
  have hl : ∀ y ∈ ([123, 125, 40, 41, 59, 44] : List UInt8), y.toNat < 128 := by decide
  have h2 := hl x hx2
  rintro rfl
  rw [Int.toNat_natCast] at h2
  have e : b.toUInt8.toNat = b := ofNat_toNat b h1
  omega

set_option maxRecDepth 1000000 in
set_option maxHeartbeats 1000000 in
theorem irune_2 (c : Int) (rs : ByteArray) (hc : isCp c = true) (h128 : 128 ≤ c) (hne : (c == 65533) = false) (hrs : rs.size = 2) (hb : 128 ≤ bt rs 1) (w : World)
    (hcv : ∀ w, (convert 21 9 (.int .i32 c)).run Try.prog w = .ok (.string rs) w) :
    Calls Try.prog 86 #[.string ⟨#[123, 125, 40, 41, 59, 44]⟩, .int .i32 c] w fun e w' => e = .returned (.int .i64 (-1)) ∧ Below w.heap.size w w' := by
  obtain ⟨s, hs⟩ : ∃ s : ByteArray, s = ⟨#[123, 125, 40, 41, 59, 44]⟩ := ⟨_, rfl⟩
  have HC : Hid (isCp c = true) := hc
  have hb2 := bt_lt rs 1
  have HIB : Hid (∀ wx, Calls Try.prog 93 #[.string (s.extract 2 6), .int .u8 (bt rs 1 : Int)] wx fun e w' => e = .returned (.int .i64 (-1)) ∧ w' = wx) := by
    intro wx
    have h := ibyte (s.extract 2 6) (bt rs 1 : Int) wx
    rw [hs, ib_sub 2 (bt rs 1) hb hb2, ← hs] at h
    exact h
  have hs6 : s.size = 6 := by rw [hs]; rfl
  have hsb : bt s 1 < 128 := by rw [hs]; decide
  rw [← hs]
  clear hs hc
  have l1 : 1 < s.size := by omega
  have l2 : 1 < rs.size := by omega
  have e1 := bt_at s 1 l1
  have e2 := bt_at rs 1 l2
  have hd : ((bt s 1 : Int) != (bt rs 1 : Int)) = true := by rw [bne_iff_ne]; omega
  have hw0 : Below w.heap.size w w := Below.refl _ _
  have hwr : IntKind.i64.wrap 2 = 2 := by decide
  go_enter Try.func86, Try.ntmps86
  go_wp2_with (go_at_call 94; refine (vrune _ HC.out _).mono ?_; rintro e w' ⟨rfl, rfl⟩)
  go_step3
  go_wp2
  refine wp_loop_rounds 1 ?_
  rw [rounds_succ]
  go_wp2
  go_step3
  go_wp2
  go_quiet (fail)
  have hw1 := below_drewN hw0 nq
  generalize World.drewN _ nq = w1 at *
  go_wp2
  go_quiet ((go_at_call 93; exact Calls.quiet_of_same (HIB.out _)))
  go_wp2
  simp only [Exit.noGoto, Exit.inBlock, Exit.then]
  go_ret
  exact ⟨rfl, below_drewN hw1 _⟩

set_option maxRecDepth 1000000 in
set_option maxHeartbeats 1000000 in
theorem irune_3 (c : Int) (rs : ByteArray) (hc : isCp c = true) (h128 : 128 ≤ c) (hne : (c == 65533) = false) (hrs : rs.size = 3) (hb : 128 ≤ bt rs 2) (w : World)
    (hcv : ∀ w, (convert 21 9 (.int .i32 c)).run Try.prog w = .ok (.string rs) w) :
    Calls Try.prog 86 #[.string ⟨#[123, 125, 40, 41, 59, 44]⟩, .int .i32 c] w fun e w' => e = .returned (.int .i64 (-1)) ∧ Below w.heap.size w w' := by
  obtain ⟨s, hs⟩ : ∃ s : ByteArray, s = ⟨#[123, 125, 40, 41, 59, 44]⟩ := ⟨_, rfl⟩
  have HC : Hid (isCp c = true) := hc
  have hb2 := bt_lt rs 2
  have HIB : Hid (∀ wx, Calls Try.prog 93 #[.string (s.extract 3 6), .int .u8 (bt rs 2 : Int)] wx fun e w' => e = .returned (.int .i64 (-1)) ∧ w' = wx) := by
    intro wx
    have h := ibyte (s.extract 3 6) (bt rs 2 : Int) wx
    rw [hs, ib_sub 3 (bt rs 2) hb hb2, ← hs] at h
    exact h
  have hs6 : s.size = 6 := by rw [hs]; rfl
  have hsb : bt s 2 < 128 := by rw [hs]; decide
  rw [← hs]
  clear hs hc
  have l1 : 2 < s.size := by omega
  have l2 : 2 < rs.size := by omega
  have e1 := bt_at s 2 l1
  have e2 := bt_at rs 2 l2
  have hd : ((bt s 2 : Int) != (bt rs 2 : Int)) = true := by rw [bne_iff_ne]; omega
  have hw0 : Below w.heap.size w w := Below.refl _ _
  have hwr : IntKind.i64.wrap 3 = 3 := by decide
  go_enter Try.func86, Try.ntmps86
  go_wp2_with (go_at_call 94; refine (vrune _ HC.out _).mono ?_; rintro e w' ⟨rfl, rfl⟩)
  go_step3
  go_wp2
  refine wp_loop_rounds 1 ?_
  rw [rounds_succ]
  go_wp2
  go_step3
  go_wp2
  go_quiet (fail)
  have hw1 := below_drewN hw0 nq
  generalize World.drewN _ nq = w1 at *
  go_wp2
  go_quiet ((go_at_call 93; exact Calls.quiet_of_same (HIB.out _)))
  go_wp2
  simp only [Exit.noGoto, Exit.inBlock, Exit.then]
  go_ret
  exact ⟨rfl, below_drewN hw1 _⟩

set_option maxRecDepth 1000000 in
set_option maxHeartbeats 1000000 in
theorem irune_4 (c : Int) (rs : ByteArray) (hc : isCp c = true) (h128 : 128 ≤ c) (hne : (c == 65533) = false) (hrs : rs.size = 4) (hb : 128 ≤ bt rs 3) (w : World)
    (hcv : ∀ w, (convert 21 9 (.int .i32 c)).run Try.prog w = .ok (.string rs) w) :
    Calls Try.prog 86 #[.string ⟨#[123, 125, 40, 41, 59, 44]⟩, .int .i32 c] w fun e w' => e = .returned (.int .i64 (-1)) ∧ Below w.heap.size w w' := by
  obtain ⟨s, hs⟩ : ∃ s : ByteArray, s = ⟨#[123, 125, 40, 41, 59, 44]⟩ := ⟨_, rfl⟩
  have HC : Hid (isCp c = true) := hc
  have hb2 := bt_lt rs 3
  have HIB : Hid (∀ wx, Calls Try.prog 93 #[.string (s.extract 4 6), .int .u8 (bt rs 3 : Int)] wx fun e w' => e = .returned (.int .i64 (-1)) ∧ w' = wx) := by
    intro wx
    have h := ibyte (s.extract 4 6) (bt rs 3 : Int) wx
    rw [hs, ib_sub 4 (bt rs 3) hb hb2, ← hs] at h
    exact h
  have hs6 : s.size = 6 := by rw [hs]; rfl
  have hsb : bt s 3 < 128 := by rw [hs]; decide
  rw [← hs]
  clear hs hc
  have l1 : 3 < s.size := by omega
  have l2 : 3 < rs.size := by omega
  have e1 := bt_at s 3 l1
  have e2 := bt_at rs 3 l2
  have hd : ((bt s 3 : Int) != (bt rs 3 : Int)) = true := by rw [bne_iff_ne]; omega
  have hw0 : Below w.heap.size w w := Below.refl _ _
  have hwr : IntKind.i64.wrap 4 = 4 := by decide
  go_enter Try.func86, Try.ntmps86
  go_wp2_with (go_at_call 94; refine (vrune _ HC.out _).mono ?_; rintro e w' ⟨rfl, rfl⟩)
  go_step3
  go_wp2
  refine wp_loop_rounds 1 ?_
  rw [rounds_succ]
  go_wp2
  go_step3
  go_wp2
  go_quiet (fail)
  have hw1 := below_drewN hw0 nq
  generalize World.drewN _ nq = w1 at *
  go_wp2
  go_quiet ((go_at_call 93; exact Calls.quiet_of_same (HIB.out _)))
  go_wp2
  simp only [Exit.noGoto, Exit.inBlock, Exit.then]
  go_ret
  exact ⟨rfl, below_drewN hw1 _⟩

theorem irune_any (c : Int) (hc : isCp c = true) (w : World) :
    Calls Try.prog 86 #[.string ⟨#[123, 125, 40, 41, 59, 44]⟩, .int .i32 c] w fun e w' => ∃ k : Int, e = .returned (.int .i64 k) ∧ decide (0 ≤ k) = isMark c ∧ Below w.heap.size w w' := by
  have hci := (isCp_iff c).1 hc
  by_cases h : c < 128
  · exact irune_ascii c hci.1 h w
  have hm : decide ((0 : Int) ≤ -1) = isMark c := by rw [no_mark c (by omega)]; rfl
  by_cases hb : c = 65533
  · subst hb
    refine (irune_bad w).mono ?_
    rintro e w' ⟨rfl, h2⟩
    exact ⟨_, rfl, hm, h2⟩
  have hne : (c == 65533) = false := by rw [beq_eq_false_iff_ne]; exact hb
  have hcv : ∀ w, (convert 21 9 (.int .i32 c)).run Try.prog w = .ok (.string ⟨(enc c).toArray⟩) w := by
    intro w
    rw [run_convert_int_string w 21 9 .i32 c (by kernel_rfl) Try.underlying9, encode_cp _ hc]
  obtain ⟨n, rfl, hn⟩ := cp_cases c hc
  rcases hn with hn | ⟨h1, h2⟩ | ⟨h1, h2, h3⟩ | ⟨h1, h2⟩
  · omega
  · refine (irune_2 n _ hc (by omega) hne ?_ ?_ w hcv).mono ?_
    · rw [enc2 n h1 h2]; rfl
    · rw [enc2 n h1 h2]
      show 128 ≤ (UInt8.ofNat (128 + n % 64)).toNat
      rw [ofNat_toNat _ (by omega)]
      omega
    · rintro e w' ⟨rfl, h2⟩
      exact ⟨_, rfl, hm, h2⟩
  · refine (irune_3 n _ hc (by omega) hne ?_ ?_ w hcv).mono ?_
    · rw [enc3 n h1 h2]; rfl
    · rw [enc3 n h1 h2]
      show 128 ≤ (UInt8.ofNat (128 + n % 64)).toNat
      rw [ofNat_toNat _ (by omega)]
      omega
    · rintro e w' ⟨rfl, h2⟩
      exact ⟨_, rfl, hm, h2⟩
  · refine (irune_4 n _ hc (by omega) hne ?_ ?_ w hcv).mono ?_
    · rw [enc4 n h1]; rfl
    · rw [enc4 n h1]
      show 128 ≤ (UInt8.ofNat (128 + n % 64)).toNat
      rw [ofNat_toNat _ (by omega)]
      omega
    · rintro e w' ⟨rfl, h2⟩
      exact ⟨_, rfl, hm, h2⟩

set_option maxRecDepth 1000000 in
set_option maxHeartbeats 1000000 in
theorem has_mark (c : Int) (hc : isCp c = true) (w : World) :
    Calls Try.prog 70 #[.string ⟨#[123, 125, 40, 41, 59, 44]⟩, .int .i32 c] w fun e w' => e = .returned (.bool (isMark c)) ∧ Below w.heap.size w w' := by
  go_enter Try.func70, Try.ntmps70
  go_wp2_with fail
  refine (irune_any c hc _).mono ?_
  rintro e w' ⟨k, rfl, hm, hb⟩
  have HM : Hid _ := hm
  clear hm
  go_wp2
  go_ret
  exact ⟨ret_bool HM.out, hb⟩
end Go.Proofs.Ytlmfmgpamhhncaa

