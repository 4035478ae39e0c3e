/- The code points of a text are the text again, the text of code points is these again, each has as many bytes as its width says: for every string and slice of ints, with no condition. -/
import Derived.Test.YtilmgmafhmgddaaRows
import Derived.Test.YtilmgmafhmgddaaWL
import Derived.Test.YtilmgmafhmgddaaWX
import Derived.ProofKit
import Derived.OpenShut
import Derived.ShutString
import Derived.ChangeOld
namespace Go.Proofs.Ytilmgmafhmgddaa.glyphBack
open Go.ChangeShapes Go.WideShapes Go.ChangeAt Go.RowKit
open Go.ChangeMaps (open_string shut_string)
set_option linter.unusedVariables false

theorem own : ownKnob Try.prog.godebug = none := by kernel_rfl
theorem laidOut : laidOutB Try.prog = true := by kernel_rfl

/-- A slice of integers that came in: nil, or a row of cells. -/
def IsRow (k : IntKind) (w : World) (a : Option Addr) (len cap : Nat) (zs : List Int) : Prop :=
  (a = none ∧ len = 0 ∧ cap = 0 ∧ zs = []) ∨
  ∃ x, a = some x ∧ len ≤ cap ∧ cap ≤ maxLen ∧ zs.length = cap ∧ (∀ i, i < zs.length → w.cell? (x.add i) = some (.int k (zs.getD i 0))) ∧ ∀ n ∈ zs, (Lit.int k n).wf = true

theorem isRow_reads {w : World} {a : Option Addr} {len cap : Nat} {zs : List Int} (h : IsRow .i64 w a len cap zs) : (zs.take len).length = len ∧ Reads w (.slice a len cap) (zs.take len) := by
  rcases h with ⟨rfl, rfl, rfl, rfl⟩ | ⟨x, rfl, h1, h2, h3, h4, _⟩
  · exact ⟨rfl, none, 0, rfl, fun _ => rfl, by simp⟩
  · have hl : (zs.take len).length = len := by simp; omega
    refine ⟨hl, some x, cap, by rw [hl], (fun h => by cases h), fun i hi => ?_⟩
    obtain ⟨b, off, rfl, hc⟩ := ints_at h4 (by omega)
    refine ⟨b, off, rfl, ?_⟩
    rw [hc i (by omega)]
    have hi2 : i < len := by omega
    simp [hi2]

set_option maxRecDepth 1000000 in
set_option maxHeartbeats 2000000 in
theorem walk_g_g (s : ByteArray) (a1 : Option Addr) (len1 cap1 : Nat) (l : List Int) (w : World) (hs : s.size ≤ 5000) (hl : len1 ≤ 2000) (hlen : l.length = len1) (hrd : Reads w (.slice a1 len1 cap1) l)
    (cs : List Int) (rest : List UInt8) (hp0 : Parts s.data.toList cs rest) (hr : rest = []) (hcp : ∀ c ∈ l, isCp c = true) :
    Calls Try.prog 6 #[.string s, .slice a1 len1 cap1] w fun e w' => e = .returned (.bool true) ∧ Below w.heap.size w w' := by
  have hs1 : s.size ≤ 100000 := by omega
  have hle2 : l.length ≤ 2000 := by omega
  have hle : l.length ≤ 100000 := by omega
  have HLEN : Hid (l.length = len1) := hlen
  have hn1 : ¬ 5000 < s.size := by omega
  have hn2 : ¬ 2000 < len1 := by omega
  subst hr
  have hcs : cs.length ≤ 100000 := by
    have h1 := (encAll_len_ge cs hp0.cp).1
    have h2 := size_list s
    rw [hp0.eq] at h2
    simp at h2
    omega
  have es : (⟨(encAll cs).toArray⟩ : ByteArray) = s := by
    have h := hp0.eq
    rw [List.append_nil] at h
    exact (ba_ext h).symm
  have HE : Hid ((⟨(encAll cs).toArray⟩ : ByteArray) = s) := es
  have HP : Hid (Parts s.data.toList cs []) := hp0
  clear es hp0 hlen
  go_enter Try.func6, Try.ntmps6
  go_wp2_with fail
  refine (runes_good s cs HP.out _ hs1).mono ?_
  rintro e w1 ⟨v, rfl, hown, hb1⟩
  have hz1 := hb1.size
  have hv := reads_of_owns hown rfl
  clear hown
  go_wp2_with fail
  have ht := text_good v cs HP.out.cp w1 hv hcs
  rw [HE.out] at ht
  refine ht.mono ?_
  clear ht hv
  rintro e w2 ⟨rfl, hb2⟩
  have hb02 : Below w.heap.size w w2 := hb1.trans (hb2.mono hz1)
  have hz2 := hb02.size
  clear hb1 hb2
  go_wp2_with fail
  have htb := bad_any s cs [] HP.out w2 hs1
  rw [show badV cs [] = -1 from rfl] at htb
  refine htb.mono ?_
  clear htb
  rintro e w3 ⟨rfl, hb3⟩
  have hb03 : Below w.heap.size w w3 := hb02.trans (hb3.mono hz2)
  have hz3 := hb03.size
  clear hb02 hb3
  go_wp2_with fail
  obtain ⟨T, HT⟩ : ∃ T : ByteArray, Hid (T = ⟨(encAll l).toArray⟩) := ⟨_, rfl⟩
  have hTl : T.data.toList = encAll l ++ [] := by rw [HT.out]; simp
  have hTz : T.size = (encAll l).length := by rw [← size_list, hTl]; simp
  have hbd := encAll_len_ge l hcp
  have hTs : T.size ≤ 100000 := by omega
  have HPT : Hid (Parts T.data.toList l []) := ⟨hTl, hcp, .inl rfl⟩
  have HTZ : Hid (T.size = (encAll l).length) := hTz
  have HCP : Hid (∀ c ∈ l, isCp c = true) := hcp
  have ht := text_good (.slice a1 len1 cap1) l hcp w3 (hrd.later hb03) hle
  rw [← HT.out] at ht
  refine ht.mono ?_
  clear ht hTl hTz hcp hbd
  rintro e w4 ⟨rfl, hb4⟩
  have hb04 : Below w.heap.size w w4 := hb03.trans (hb4.mono hz3)
  have hz4 := hb04.size
  clear hb03 hb4
  go_wp2_with fail
  refine (runes_good T l HPT.out _ hTs).mono ?_
  rintro e w5 ⟨v5, rfl, hown5, hb5⟩
  have hb05 : Below w.heap.size w w5 := hb04.trans (hb5.mono hz4)
  have hz5 := hb05.size
  have hv5 := reads_of_owns hown5 rfl
  clear hown5 hb04 hb5
  go_wp2_with fail
  have hrd5 := hrd.later hb05
  obtain ⟨aa, ca, hav, _, hca⟩ := hrd5
  simp only [Value.slice.injEq] at hav
  have hav1 := hav.1
  subst hav1
  clear hav
  go_loopw [13, 14] (fun nv i wr => ∃ (k m : Nat), k ≤ len1 ∧ i = .int .i64 k ∧ nv = .int .i64 m ∧ Hid (m = (encAll (l.take k)).length) ∧ m ≤ 4 * k ∧ Below w5.heap.size w5 wr) (fun _ i _ => len1 - (intOf i).toNat)
  case atStart => exact ⟨0, 0, Nat.zero_le _, rfl, rfl, rfl, Nat.le_refl _, Below.refl _ _⟩
  case round =>
    obtain ⟨k, m, hk, rfl, rfl, HM, hm, hbw⟩ := hrel
    have hsw := hbw.size
    by_cases hlt : k < len1
    · have hlt2 : k < l.length := by rw [HLEN.out]; exact hlt
      obtain ⟨b1, o1, rfl, hc1⟩ := hca k hlt2
      have hd1 := cell_later hbw hc1
      have hcz : isCp (l.getD k 0) = true := HCP.out _ (by simp [hlt2])
      have HTK : Hid (l.take (k + 1) = l.take k ++ [l.getD k 0]) := take_snoc l k hlt2
      generalize l.getD k 0 = z at *
      have HWL : Hid (wid z = ((enc z).length : Int)) := (enc_len z hcz).symm
      have hep := enc_pos z hcz
      have HNX : Hid (m + (enc z).length = (encAll (l.take (k + 1))).length) := by show _ = _; rw [HTK.out, encAll_append, encAll_one, HM.out]; simp
      generalize (enc z).length = q at *
      clear hca hc1 hcz hlt2
      go_wp2_with (go_at_call 19; refine (gwidth_any _ _).mono ?_; rintro e w' ⟨rfl, rfl⟩; rw [HWL.out])
      go_roundw
      case rel => exact ⟨k + 1, m + q, by omega, by go_num, by go_num, HNX, by omega, hbw.alloc hsw _⟩
      case measure => simp [intOf]; omega
    · have HMT : Hid (m = T.size) := by
        show _ = _
        have h := HM.out
        rw [List.take_of_length_le (by rw [HLEN.out]; omega)] at h
        rw [HTZ.out]
        exact h
      clear hca HM
      go_wp2_with fail
      refine (same_eq _ _ l _ (hv5.later hbw) ((hrd.later hb05).later hbw) hle).mono ?_
      rintro e w6 ⟨rfl, n6, rfl⟩
      have hb6 : Below w.heap.size w (wr.drewN n6) := below_drewN (hb05.trans (hbw.mono hz5)) n6
      have hz6 := hb6.size
      clear hbw hv5 hrd hb05
      generalize wr.drewN n6 = w6 at *
      have hq : ((m : Int) == (T.size : Int)) = true := by rw [HMT.out]; simp
      go_wp2_with fail
      refine (lives_any _).mono ?_
      rintro e w7 ⟨rfl, hb7⟩
      go_wp2
      go_ret
      exact ⟨rfl, hb6.trans (hb7.mono hz6)⟩

set_option maxRecDepth 1000000 in
set_option maxHeartbeats 2000000 in
theorem walk_g_b (s : ByteArray) (a1 : Option Addr) (len1 cap1 : Nat) (l : List Int) (w : World) (hs : s.size ≤ 5000) (hl : len1 ≤ 2000) (hlen : l.length = len1) (hrd : Reads w (.slice a1 len1 cap1) l)
    (cs : List Int) (rest : List UInt8) (hp0 : Parts s.data.toList cs rest) (hr : rest = []) (d t : List Int) (y : Int) (hL : l = d ++ y :: t) (hcp : ∀ c ∈ d, isCp c = true) (hy : isCp y = false) :
    Calls Try.prog 6 #[.string s, .slice a1 len1 cap1] w fun e w' => e = .returned (.bool true) ∧ Below w.heap.size w w' := by
  have hs1 : s.size ≤ 100000 := by omega
  have hle2 : l.length ≤ 2000 := by omega
  have hle : l.length ≤ 100000 := by omega
  have HLEN : Hid (l.length = len1) := hlen
  have hn1 : ¬ 5000 < s.size := by omega
  have hn2 : ¬ 2000 < len1 := by omega
  subst hr
  have hcs : cs.length ≤ 100000 := by
    have h1 := (encAll_len_ge cs hp0.cp).1
    have h2 := size_list s
    rw [hp0.eq] at h2
    simp at h2
    omega
  have es : (⟨(encAll cs).toArray⟩ : ByteArray) = s := by
    have h := hp0.eq
    rw [List.append_nil] at h
    exact (ba_ext h).symm
  have HE : Hid ((⟨(encAll cs).toArray⟩ : ByteArray) = s) := es
  have HP : Hid (Parts s.data.toList cs []) := hp0
  clear es hp0 hlen
  go_enter Try.func6, Try.ntmps6
  go_wp2_with fail
  refine (runes_good s cs HP.out _ hs1).mono ?_
  rintro e w1 ⟨v, rfl, hown, hb1⟩
  have hz1 := hb1.size
  have hv := reads_of_owns hown rfl
  clear hown
  go_wp2_with fail
  have ht := text_good v cs HP.out.cp w1 hv hcs
  rw [HE.out] at ht
  refine ht.mono ?_
  clear ht hv
  rintro e w2 ⟨rfl, hb2⟩
  have hb02 : Below w.heap.size w w2 := hb1.trans (hb2.mono hz1)
  have hz2 := hb02.size
  clear hb1 hb2
  go_wp2_with fail
  have htb := bad_any s cs [] HP.out w2 hs1
  rw [show badV cs [] = -1 from rfl] at htb
  refine htb.mono ?_
  clear htb
  rintro e w3 ⟨rfl, hb3⟩
  have hb03 : Below w.heap.size w w3 := hb02.trans (hb3.mono hz2)
  have hz3 := hb03.size
  clear hb02 hb3
  go_wp2_with fail
  subst hL
  refine (text_bad (.slice a1 len1 cap1) d t y hcp hy w3 (hrd.later hb03) hle).mono ?_
  rintro e w4 ⟨rfl, hb4⟩
  have hb04 : Below w.heap.size w w4 := hb03.trans (hb4.mono hz3)
  have hz4 := hb04.size
  clear hb03 hb4 hrd
  go_wp2_with fail
  refine (lives_any _).mono ?_
  rintro e w7 ⟨rfl, hb7⟩
  go_wp2
  go_ret
  exact ⟨rfl, hb04.trans (hb7.mono hz4)⟩

set_option maxRecDepth 1000000 in
set_option maxHeartbeats 2000000 in
theorem walk_b_g (s : ByteArray) (a1 : Option Addr) (len1 cap1 : Nat) (l : List Int) (w : World) (hs : s.size ≤ 5000) (hl : len1 ≤ 2000) (hlen : l.length = len1) (hrd : Reads w (.slice a1 len1 cap1) l)
    (cs : List Int) (rest : List UInt8) (hp0 : Parts s.data.toList cs rest) (hr : rest ≠ []) (hcp : ∀ c ∈ l, isCp c = true) :
    Calls Try.prog 6 #[.string s, .slice a1 len1 cap1] w fun e w' => e = .returned (.bool true) ∧ Below w.heap.size w w' := by
  have hs1 : s.size ≤ 100000 := by omega
  have hle2 : l.length ≤ 2000 := by omega
  have hle : l.length ≤ 100000 := by omega
  have HLEN : Hid (l.length = len1) := hlen
  have hn1 : ¬ 5000 < s.size := by omega
  have hn2 : ¬ 2000 < len1 := by omega
  have hcs : cs.length ≤ 100000 := by
    have h1 := (encAll_len_ge cs hp0.cp).1
    have h2 := size_list s
    rw [hp0.eq] at h2
    simp at h2
    omega
  obtain ⟨B, hB, HBV⟩ : ∃ B : Nat, B < s.size ∧ Hid (badV cs rest = (B : Int)) := by
    refine ⟨(encAll cs).length, ?_, by show _ = _; simp [badV, hr]⟩
    rw [← size_list s, hp0.eq]
    have := List.length_pos_iff.2 hr
    simp
    omega
  have HP : Hid (Parts s.data.toList cs rest) := hp0
  have HNE : Hid (rest ≠ []) := hr
  clear hp0 hlen hr
  go_enter Try.func6, Try.ntmps6
  go_wp2_with fail
  refine (runes_bad s cs rest HP.out HNE.out _ hs1).mono ?_
  rintro e w1 ⟨rfl, hb1⟩
  have hz1 := hb1.size
  go_wp2_with fail
  have htb := bad_any s cs rest HP.out w1 hs1
  rw [HBV.out] at htb
  refine htb.mono ?_
  clear htb
  rintro e w2 ⟨rfl, hb2⟩
  have hb02 : Below w.heap.size w w2 := hb1.trans (hb2.mono hz1)
  have hz2 := hb02.size
  clear hb1 hb2
  go_wp2_with fail
  have htb := bad_any s cs rest HP.out w2 hs1
  rw [HBV.out] at htb
  refine htb.mono ?_
  clear htb
  rintro e w3 ⟨rfl, hb3⟩
  have hb03 : Below w.heap.size w w3 := hb02.trans (hb3.mono hz2)
  have hz3 := hb03.size
  clear hb02 hb3
  go_wp2_with fail
  obtain ⟨T, HT⟩ : ∃ T : ByteArray, Hid (T = ⟨(encAll l).toArray⟩) := ⟨_, rfl⟩
  have hTl : T.data.toList = encAll l ++ [] := by rw [HT.out]; simp
  have hTz : T.size = (encAll l).length := by rw [← size_list, hTl]; simp
  have hbd := encAll_len_ge l hcp
  have hTs : T.size ≤ 100000 := by omega
  have HPT : Hid (Parts T.data.toList l []) := ⟨hTl, hcp, .inl rfl⟩
  have HTZ : Hid (T.size = (encAll l).length) := hTz
  have HCP : Hid (∀ c ∈ l, isCp c = true) := hcp
  have ht := text_good (.slice a1 len1 cap1) l hcp w3 (hrd.later hb03) hle
  rw [← HT.out] at ht
  refine ht.mono ?_
  clear ht hTl hTz hcp hbd
  rintro e w4 ⟨rfl, hb4⟩
  have hb04 : Below w.heap.size w w4 := hb03.trans (hb4.mono hz3)
  have hz4 := hb04.size
  clear hb03 hb4
  go_wp2_with fail
  refine (runes_good T l HPT.out _ hTs).mono ?_
  rintro e w5 ⟨v5, rfl, hown5, hb5⟩
  have hb05 : Below w.heap.size w w5 := hb04.trans (hb5.mono hz4)
  have hz5 := hb05.size
  have hv5 := reads_of_owns hown5 rfl
  clear hown5 hb04 hb5
  go_wp2_with fail
  have hrd5 := hrd.later hb05
  obtain ⟨aa, ca, hav, _, hca⟩ := hrd5
  simp only [Value.slice.injEq] at hav
  have hav1 := hav.1
  subst hav1
  clear hav
  go_loopw [13, 14] (fun nv i wr => ∃ (k m : Nat), k ≤ len1 ∧ i = .int .i64 k ∧ nv = .int .i64 m ∧ Hid (m = (encAll (l.take k)).length) ∧ m ≤ 4 * k ∧ Below w5.heap.size w5 wr) (fun _ i _ => len1 - (intOf i).toNat)
  case atStart => exact ⟨0, 0, Nat.zero_le _, rfl, rfl, rfl, Nat.le_refl _, Below.refl _ _⟩
  case round =>
    obtain ⟨k, m, hk, rfl, rfl, HM, hm, hbw⟩ := hrel
    have hsw := hbw.size
    by_cases hlt : k < len1
    · have hlt2 : k < l.length := by rw [HLEN.out]; exact hlt
      obtain ⟨b1, o1, rfl, hc1⟩ := hca k hlt2
      have hd1 := cell_later hbw hc1
      have hcz : isCp (l.getD k 0) = true := HCP.out _ (by simp [hlt2])
      have HTK : Hid (l.take (k + 1) = l.take k ++ [l.getD k 0]) := take_snoc l k hlt2
      generalize l.getD k 0 = z at *
      have HWL : Hid (wid z = ((enc z).length : Int)) := (enc_len z hcz).symm
      have hep := enc_pos z hcz
      have HNX : Hid (m + (enc z).length = (encAll (l.take (k + 1))).length) := by show _ = _; rw [HTK.out, encAll_append, encAll_one, HM.out]; simp
      generalize (enc z).length = q at *
      clear hca hc1 hcz hlt2
      go_wp2_with (go_at_call 19; refine (gwidth_any _ _).mono ?_; rintro e w' ⟨rfl, rfl⟩; rw [HWL.out])
      go_roundw
      case rel => exact ⟨k + 1, m + q, by omega, by go_num, by go_num, HNX, by omega, hbw.alloc hsw _⟩
      case measure => simp [intOf]; omega
    · have HMT : Hid (m = T.size) := by
        show _ = _
        have h := HM.out
        rw [List.take_of_length_le (by rw [HLEN.out]; omega)] at h
        rw [HTZ.out]
        exact h
      clear hca HM
      go_wp2_with fail
      refine (same_eq _ _ l _ (hv5.later hbw) ((hrd.later hb05).later hbw) hle).mono ?_
      rintro e w6 ⟨rfl, n6, rfl⟩
      have hb6 : Below w.heap.size w (wr.drewN n6) := below_drewN (hb05.trans (hbw.mono hz5)) n6
      have hz6 := hb6.size
      clear hbw hv5 hrd hb05
      generalize wr.drewN n6 = w6 at *
      have hq : ((m : Int) == (T.size : Int)) = true := by rw [HMT.out]; simp
      go_wp2_with fail
      refine (lives_any _).mono ?_
      rintro e w7 ⟨rfl, hb7⟩
      go_wp2
      go_ret
      exact ⟨rfl, hb6.trans (hb7.mono hz6)⟩

set_option maxRecDepth 1000000 in
set_option maxHeartbeats 2000000 in
theorem walk_b_b (s : ByteArray) (a1 : Option Addr) (len1 cap1 : Nat) (l : List Int) (w : World) (hs : s.size ≤ 5000) (hl : len1 ≤ 2000) (hlen : l.length = len1) (hrd : Reads w (.slice a1 len1 cap1) l)
    (cs : List Int) (rest : List UInt8) (hp0 : Parts s.data.toList cs rest) (hr : rest ≠ []) (d t : List Int) (y : Int) (hL : l = d ++ y :: t) (hcp : ∀ c ∈ d, isCp c = true) (hy : isCp y = false) :
    Calls Try.prog 6 #[.string s, .slice a1 len1 cap1] w fun e w' => e = .returned (.bool true) ∧ Below w.heap.size w w' := by
  have hs1 : s.size ≤ 100000 := by omega
  have hle2 : l.length ≤ 2000 := by omega
  have hle : l.length ≤ 100000 := by omega
  have HLEN : Hid (l.length = len1) := hlen
  have hn1 : ¬ 5000 < s.size := by omega
  have hn2 : ¬ 2000 < len1 := by omega
  have hcs : cs.length ≤ 100000 := by
    have h1 := (encAll_len_ge cs hp0.cp).1
    have h2 := size_list s
    rw [hp0.eq] at h2
    simp at h2
    omega
  obtain ⟨B, hB, HBV⟩ : ∃ B : Nat, B < s.size ∧ Hid (badV cs rest = (B : Int)) := by
    refine ⟨(encAll cs).length, ?_, by show _ = _; simp [badV, hr]⟩
    rw [← size_list s, hp0.eq]
    have := List.length_pos_iff.2 hr
    simp
    omega
  have HP : Hid (Parts s.data.toList cs rest) := hp0
  have HNE : Hid (rest ≠ []) := hr
  clear hp0 hlen hr
  go_enter Try.func6, Try.ntmps6
  go_wp2_with fail
  refine (runes_bad s cs rest HP.out HNE.out _ hs1).mono ?_
  rintro e w1 ⟨rfl, hb1⟩
  have hz1 := hb1.size
  go_wp2_with fail
  have htb := bad_any s cs rest HP.out w1 hs1
  rw [HBV.out] at htb
  refine htb.mono ?_
  clear htb
  rintro e w2 ⟨rfl, hb2⟩
  have hb02 : Below w.heap.size w w2 := hb1.trans (hb2.mono hz1)
  have hz2 := hb02.size
  clear hb1 hb2
  go_wp2_with fail
  have htb := bad_any s cs rest HP.out w2 hs1
  rw [HBV.out] at htb
  refine htb.mono ?_
  clear htb
  rintro e w3 ⟨rfl, hb3⟩
  have hb03 : Below w.heap.size w w3 := hb02.trans (hb3.mono hz2)
  have hz3 := hb03.size
  clear hb02 hb3
  go_wp2_with fail
  subst hL
  refine (text_bad (.slice a1 len1 cap1) d t y hcp hy w3 (hrd.later hb03) hle).mono ?_
  rintro e w4 ⟨rfl, hb4⟩
  have hb04 : Below w.heap.size w w4 := hb03.trans (hb4.mono hz3)
  have hz4 := hb04.size
  clear hb03 hb4 hrd
  go_wp2_with fail
  refine (lives_any _).mono ?_
  rintro e w7 ⟨rfl, hb7⟩
  go_wp2
  go_ret
  exact ⟨rfl, hb04.trans (hb7.mono hz4)⟩


set_option maxRecDepth 1000000 in
set_option maxHeartbeats 1000000 in
theorem walk_big (s : ByteArray) (a1 : Option Addr) (len1 cap1 : Nat) (w : World) (h : 5000 < s.size ∨ 2000 < len1) :
    Calls Try.prog 6 #[.string s, .slice a1 len1 cap1] w fun e w' => e = .returned (.bool true) ∧ Below w.heap.size w w' := by
  by_cases h1 : 5000 < s.size
  · clear h
    go_enter Try.func6, Try.ntmps6
    go_wp2_with fail
    refine (lives_any _).mono ?_
    rintro e w1 ⟨rfl, hb1⟩
    go_wp2
    go_ret
    exact ⟨rfl, hb1⟩
  · have h2 : 2000 < len1 := h.resolve_left h1
    clear h
    go_enter Try.func6, Try.ntmps6
    go_wp2_with fail
    refine (lives_any _).mono ?_
    rintro e w1 ⟨rfl, hb1⟩
    go_wp2
    go_ret
    exact ⟨rfl, hb1⟩

theorem walk (a0 : ByteArray) (a1 : Option Addr) (len1 cap1 : Nat) (z1 : List Int) (w : World) (w0 : a0.size ≤ maxLen) (w1 : IsRow .i64 w a1 len1 cap1 z1) :
    Calls Try.prog 6 #[.string a0, .slice a1 len1 cap1] w fun e w' => e = .returned (.bool true) ∧ Below w.heap.size w w' := by
  by_cases h : 5000 < a0.size ∨ 2000 < len1
  · exact walk_big a0 a1 len1 cap1 w h
  obtain ⟨hlen, hrd⟩ := isRow_reads w1
  obtain ⟨cs, rest, hp0⟩ := parts_exists a0.data.toList
  by_cases hr : rest = []
  · rcases split_cp (z1.take len1) with hcp | ⟨d, y, t, hL, hcp, hy⟩
    · exact walk_g_g a0 a1 len1 cap1 _ w (by omega) (by omega) hlen hrd cs rest hp0 hr hcp
    · exact walk_g_b a0 a1 len1 cap1 _ w (by omega) (by omega) hlen hrd cs rest hp0 hr d t y hL hcp hy
  · rcases split_cp (z1.take len1) with hcp | ⟨d, y, t, hL, hcp, hy⟩
    · exact walk_b_g a0 a1 len1 cap1 _ w (by omega) (by omega) hlen hrd cs rest hp0 hr hcp
    · exact walk_b_b a0 a1 len1 cap1 _ w (by omega) (by omega) hlen hrd cs rest hp0 hr d t y hL hcp hy

set_option maxRecDepth 100000 in
theorem lifted (os : Os) (started : os.Started) (H : Type) (enc : TypeId × Value → H) :
    ReturnsInHanded {} Try.checked os 6 .any (Rows.glyphBackSpec.pre6 enc Try.prog Try.f6 Rows.glyphBackRow.domain false) (Rows.glyphBackSpec.post enc Try.prog Try.f6 false true false false) := by
  refine returnsInHanded_of_change (C := Try.checked) own started (by kernel_rfl) Try.func6
    (ChangeSpec.witness6 (enc := enc) (C := Try.checked) false ⟨#[], #[.string ByteArray.empty, .slice none 0 0], []⟩ 8 (by kernel_rfl) (by kernel_rfl) (by kernel_rfl) (by kernel_rfl)) ?_
  intro W base args ds gs before hval0 hW hcnd _
  have hval : ∀ (j : Nat) t v, Try.f6.params[j]? = some t → args[j]? = some v → Value.okWide Try.prog W .any base t v := hval0
  have hW' := hW
  obtain ⟨p, q, hA0, hV, rfl, hfz, hnd⟩ := hW
  have hA : DataW.TrodAll enc Try.prog W 0 (fun _ => true) true Try.f6.params.toList args.toList ds p := hA0
  rw [Try.params6] at hA hval
  obtain ⟨v0, vs0, d0, ds0, p0, q0, hargs, rfl, rfl, h0, r0⟩ := trodAll_cons hA
  obtain ⟨v1, vs1, d1, ds1, p1, q1, rfl, rfl, rfl, h1, r1⟩ := trodAll_cons r0
  obtain ⟨rfl, rfl, rfl⟩ := trodAll_nil r1
  obtain rfl : args = #[v0, v1] := by cases args; simp_all
  obtain ⟨rfl, rfl⟩ := trodVars_none hV
  obtain ⟨a0, rfl, rfl, rfl, w0⟩ := open_string Try.underlying9 (hval 0 9 v0 rfl rfl) h0
  obtain ⟨a1, len1, cap1, rfl⟩ := okWide_slice Try.underlying23 (hval 1 23 v1 rfl rfl)
  have k1 := h1
  have lt1 : ∀ x ∈ p1, x.block < W.heap.size := by obtain ⟨m, hm⟩ := k1; exact DataW.trod_lt m _ _ _ hm
  obtain ⟨z1, w1⟩ : ∃ zs, IsRow .i64 W a1 len1 cap1 zs := by
    obtain ⟨fuel, hf⟩ := h1
    rcases open_ints Try.underlying23 Try.underlying3 (by kernel_rfl) hf with ⟨hcs, _⟩ | ⟨x, l, c, zs, hcs, _, hl, hm, hz, _, hcell, hwz⟩
    · simp [Value.cells] at hcs
      obtain ⟨rfl, rfl, rfl⟩ := hcs
      exact ⟨[], .inl ⟨rfl, rfl, rfl, rfl⟩⟩
    · simp [Value.cells] at hcs
      obtain ⟨rfl, rfl, rfl⟩ := hcs
      exact ⟨zs, .inr ⟨_, rfl, hl, hm, by simpa using hz, hcell, hwz⟩⟩
  clear hA0 hval0
  refine (walk a0 a1 len1 cap1 z1 W w0 w1).mono fun e W' ⟨he, bel⟩ => ?_
  subst he
  exact ⟨_, rfl, _, _, _, [], _, [], hW', trodAll_mk1 (shut_bool Try.underlying4 _), (trodAll_cons_mk (shut_string Try.underlying9 w0) (trodAll_cons_mk (Below.trod laidOut (by kernel_rfl) (of_decide_eq_true (by kernel_rfl)) k1 bel lt1) trodAll_mk0)), rfl, bel.frame _, fun h => by cases h⟩

theorem over : Rows.glyphBackRow.holds Try.pinned (OpenSpec.ofChange Rows.glyphBackSpec) :=
  OpenClaim.holds_of_wide 6 Try.f6 rfl rfl rfl rfl rfl rfl rfl ⟨rfl, rfl, rfl, rfl, rfl⟩ rfl rfl rfl rfl rfl (by kernel_rfl) Try.func6 (by kernel_rfl)
    (of_decide_eq_true (by kernel_rfl)) (by unfold Func.isWrapper; first | (rw [if_pos (by decide +kernel)]; kernel_rfl) | (rw [if_neg (by decide +kernel)]; exact ⟨rfl, rfl⟩))
    (fun os started H enc _ => lifted os started H enc)
end Go.Proofs.Ytilmgmafhmgddaa.glyphBack
namespace Go.Proofs.Ytilmgmafhmgddaa

theorem glyphBack_holds : Rows.GlyphBackSaid := glyphBack.over
#print axioms glyphBack_holds
end Go.Proofs.Ytilmgmafhmgddaa
