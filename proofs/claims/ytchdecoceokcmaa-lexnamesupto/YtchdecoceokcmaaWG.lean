/- Walks over the document's 'read', Runes, Bad and Cut: a text's code points, its first bad byte, and where it is cut. -/
import Derived.Test.YtchdecoceokcmaaWF
namespace Go.Proofs.Ytchdecoceokcmaa
open Go.RowKit

theorem first_cp (s : ByteArray) (d todo : List Int) (c : Int) (rest : List UInt8) (h : s.data.toList = encAll (d ++ c :: todo) ++ rest) (hc : isCp c = true) (pos : Nat) (hpos : pos = (encAll d).length) (w : World) (hs : s.size ≤ 100000) :
    Calls Try.prog 50 #[.string (s.extract pos s.size)] w fun e w' => e = .returned (.int .i64 c) ∧ Below w.heap.size w w' := by
  have hz := size_list s
  have hT : (s.extract pos s.size).data.toList = enc c ++ (encAll todo ++ rest) := by
    rw [Lib.extract_data, hpos, ← hz, h, encAll_append]
    simp [encAll]
    rw [List.take_of_length_le (by simp)]
  have hp := enc_pos c hc
  refine first_any _ (enc c).length c c (.inr ⟨hc, rfl, by rw [hT]; exact ⟨_, rfl⟩⟩) (by omega) (fun _ => rfl) w (by simp; omega)

theorem first_none (s : ByteArray) (cs : List Int) (rest : List UInt8) (h : s.data.toList = encAll cs ++ rest) (hn : NoCp rest) (pos : Nat) (hpos : pos = (encAll cs).length) (w : World) (hs : s.size ≤ 100000) :
    Calls Try.prog 50 #[.string (s.extract pos s.size)] w fun e w' => e = .returned (.int .i64 (-1)) ∧ Below w.heap.size w w' := by
  have hz := size_list s
  have hT : (s.extract pos s.size).data.toList = rest := by
    rw [Lib.extract_data, hpos, ← hz, h]
    simp
  refine first_any _ 5 0 (-1) (.inl ⟨rfl, by rw [hT]; exact hn⟩) (fun _ => rfl) (fun h => absurd rfl h) w (by simp; omega)

set_option maxRecDepth 1000000 in
set_option maxHeartbeats 1000000 in
theorem read_any (s : ByteArray) (cs : List Int) (rest : List UInt8) (hp0 : Parts s.data.toList cs rest) (w : World) (hs : s.size ≤ 100000) :
    Calls Try.prog 42 #[.string s] w fun e w' => ∃ v, e = .returned (.tuple #[v, .int .i64 (badV cs rest)]) ∧ w'.ownsRow w.heap.size 3 1 v cs.length (ivs cs) ∧ Below w.heap.size w w' := by
  obtain ⟨i0, hi, hz0, hz1, hz2⟩ := info_parts Try.info3
  have hz := size_list s
  go_enter Try.func42, Try.ntmps42
  go_wp2
  go_loopw [4, 5, 6] (fun v av _ wr => ∃ (d todo : List Int) (pos : Nat), Hid (cs = d ++ todo) ∧ av = .int .i64 pos ∧ Hid (pos = (encAll d).length) ∧ pos ≤ s.size ∧ wr.ownsRow w.heap.size 3 1 v d.length (ivs d) ∧ Below w.heap.size w wr) (fun _ av _ _ => s.size - (intOf av).toNat)
  case atStart => exact ⟨[], cs, 0, rfl, rfl, rfl, Nat.zero_le _, World.ownsRow_nil _ _ _ _, Below.refl _ _⟩
  case round =>
    obtain ⟨d, todo, pos, HC, rfl, HPOS, hps, hown, hbw⟩ := hrel
    have hsw := hbw.size
    cases todo with
    | cons c todo =>
      have hS : s.data.toList = encAll (d ++ c :: todo) ++ rest := by rw [← HC.out]; exact hp0.eq
      have hc : isCp c = true := hp0.cp c (by rw [HC.out]; simp)
      have hcd : ∀ x ∈ d, isCp x = true := fun x hx => hp0.cp x (by rw [HC.out]; simp [hx])
      have hk := enc_pos c hc
      have hge := (encAll_len_ge d hcd).1
      have hlen : (encAll (d ++ [c])).length = pos + (enc c).length := by rw [encAll_append, encAll_one, HPOS.out]; simp
      have hsz : pos + (enc c).length ≤ s.size := by
        rw [← hz, hS, encAll_append, HPOS.out]
        simp [encAll]
      have hdl : d.length ≤ 100000 := by have := HPOS.out; omega
      have hcb := (isCp_iff c).1 hc
      have hf := fun wx => first_cp s d todo c rest hS hc pos HPOS.out wx hs
      have HF : Hid _ := hf
      have HR : Hid (cs = (d ++ [c]) ++ todo) := by show _ = _; rw [HC.out]; simp
      have HL : Hid (pos + (enc c).length = (encAll (d ++ [c])).length) := hlen.symm
      have HW : Hid (wid c = ((enc c).length : Int)) := (enc_len c hc).symm
      obtain ⟨hcb1, hcb2, _⟩ := hcb
      have hneg : ¬ c < 0 := by omega
      generalize (enc c).length = k at *
      have hlt : pos < s.size := by omega
      clear hS hc hcd hlen HC hp0 hz hf HPOS hge
      go_wp2_with fail
      refine Calls.mono (HF.out wr) ?_
      rintro e w1 ⟨rfl, hb1⟩
      clear HF
      have hown1 := owns_later hown hb1
      have hbw1 : Below w.heap.size w w1 := hbw.trans (hb1.mono hsw)
      have hsw1 := hbw1.size
      clear hown hbw hb1
      go_wp2_with (first
        | (at_builtin; refine wpList_append_own _ rfl _ _ 71 rfl w.heap.size 3 i0 (.int .i64 0) 1 8 Try.underlying71 hi hz0 hz1 hz2 rfl (by decide) _ _ _ rfl (hown1.alloc _) ⟨w1.heap.size, 0, none⟩ 1 1 [.int .i64 c] rfl rfl (cell_one_new _ _ _) (fun x hx => by simp at hx; subst hx; rfl) (by unfold maxLen; omega) (by omega) (by simp; omega) ?_; intro v' w3 hown' hgrow3 hnil3)
        | (go_at_call 43; refine (rwidth_any _ _).mono ?_; rintro e w' ⟨rfl, hw'⟩; rw [hw', HW.out]))
      have hbw3 : Below w.heap.size w w3 := Below.grown (hbw1.alloc hsw1 _) hgrow3 (by simp; omega) (fun j hj => (hown1.lt _ hj).1)
      go_roundw
      case rel => exact ⟨d ++ [c], todo, pos + k, HR, by go_num, HL, hsz, by rw [ivs_snoc]; simpa using hown', hbw3⟩
      case measure => simp [intOf]; omega
    | nil =>
      have hC : cs = d := by simpa using HC.out
      subst hC
      by_cases hr : rest = []
      · have hge : ¬ pos < s.size := by
          rw [← hz, hp0.eq, hr, HPOS.out]
          simp
        have HB : Hid (badV cs rest = -1) := by show _ = _; simp [badV, hr]
        clear hr hp0 hz HC HPOS
        go_wp2
        go_ret2
        rw [HB.out]
        exact ⟨_, rfl, hown, hbw⟩
      · have hn : NoCp rest := hp0.stop.resolve_left hr
        have hlt : pos < s.size := by
          rw [← hz, hp0.eq, HPOS.out]
          have := List.length_pos_iff.2 hr
          simp
          omega
        have HB : Hid (badV cs rest = (pos : Int)) := by show _ = _; rw [HPOS.out]; simp [badV, hr]
        have HF : Hid _ := fun wx => first_none s cs rest hp0.eq hn pos HPOS.out wx hs
        clear hr hp0 hz HC HPOS hn
        go_wp2_with fail
        refine Calls.mono (HF.out wr) ?_
        rintro e w1 ⟨rfl, hb1⟩
        clear HF
        go_wp2
        go_ret2
        rw [HB.out]
        exact ⟨_, rfl, owns_later hown hb1, hbw.trans (hb1.mono hsw)⟩

set_option maxRecDepth 1000000 in
set_option maxHeartbeats 1000000 in
theorem rrunes_bad (s : ByteArray) (cs : List Int) (rest : List UInt8) (hp0 : Parts s.data.toList cs rest) (hr : rest ≠ []) (w : World) (hs : s.size ≤ 100000) :
    Calls Try.prog 36 #[.string s] w fun e w' => e = .returned (.tuple #[.slice none 0 0, .int .i64 4]) ∧ Below w.heap.size w w' := by
  have hb : 0 ≤ badV cs rest := by simp [badV, hr]
  go_enter Try.func36, Try.ntmps36
  go_wp2_with (go_at_call 42; refine (read_any s cs rest hp0 _ hs).mono ?_; rintro e w1 ⟨v, rfl, _, hb1⟩)
  go_ret2
  exact ⟨rfl, hb1⟩

set_option maxRecDepth 1000000 in
set_option maxHeartbeats 1000000 in
theorem rrunes_good (s : ByteArray) (cs : List Int) (hp0 : Parts s.data.toList cs []) (w : World) (hs : s.size ≤ 100000) :
    Calls Try.prog 36 #[.string s] w fun e w' => ∃ v, e = .returned (.tuple #[v, .int .i64 0]) ∧ w'.ownsRow w.heap.size 3 1 v cs.length (ivs cs) ∧ Below w.heap.size w w' := by
  have hb : badV cs [] < 0 := by simp [badV]
  go_enter Try.func36, Try.ntmps36
  go_wp2_with (go_at_call 42; refine (read_any s cs [] hp0 _ hs).mono ?_; rintro e w1 ⟨v, rfl, ho1, hb1⟩)
  go_ret2
  exact ⟨_, rfl, ho1, hb1⟩

set_option maxRecDepth 1000000 in
set_option maxHeartbeats 1000000 in
theorem rcut_any (s : ByteArray) (cs : List Int) (rest : List UInt8) (hp0 : Parts s.data.toList cs rest) (n : Int) (w : World) (hs : s.size ≤ 100000) :
    Calls Try.prog 35 #[.string s, .int .i64 n] w fun e w' => e = .returned (.tuple #[.string (s.extract 0 (cutV cs n)), .string (s.extract (cutV cs n) s.size)]) ∧ Below w.heap.size w w' := by
  have hz := size_list s
  have hsz : (encAll cs).length ≤ s.size := by rw [← hz, hp0.eq]; simp
  have hcl : cs.length ≤ 100000 := by have := (encAll_len_ge cs hp0.cp).1; omega
  have HCP : Hid (∀ c ∈ cs, isCp c = true) := hp0.cp
  go_enter Try.func35, Try.ntmps35
  go_wp2_with (go_at_call 42; refine (read_any s cs rest hp0 _ hs).mono ?_; rintro e w1 ⟨v, rfl, ho1, hb1⟩)
  have hr1 := reads_of_owns ho1 rfl
  have hz1 := hb1.size
  obtain ⟨a, ca, rfl, _, hca⟩ := hr1
  clear ho1 hp0 hz
  go_loopw [8, 9] (fun av i wr => ∃ (k pos : Nat), k ≤ cs.length ∧ (k : Int) ≤ max n 0 ∧ i = .int .i64 k ∧ av = .int .i64 pos ∧ Hid (pos = (encAll (cs.take k)).length) ∧ pos ≤ s.size ∧ Below w1.heap.size w1 wr) (fun _ i _ => cs.length - (intOf i).toNat)
  case atStart => exact ⟨0, 0, Nat.zero_le _, by omega, rfl, rfl, rfl, Nat.zero_le _, Below.refl _ _⟩
  case round =>
    obtain ⟨k, pos, hk, hkn, rfl, rfl, HPOS, hps, hbw⟩ := hrel
    have hsw := hbw.size
    by_cases hgo : k < cs.length ∧ (k : Int) < n
    · obtain ⟨hlt, hltn⟩ := hgo
      obtain ⟨b1, o1, rfl, hc1⟩ := hca k hlt
      have hd1 := cell_later hbw hc1
      have hcz : isCp (cs.getD k 0) = true := HCP.out _ (by simp [hlt])
      have HTK : Hid (cs.take (k + 1) = cs.take k ++ [cs.getD k 0]) := take_snoc cs k hlt
      generalize cs.getD k 0 = z at *
      have HW : Hid (wid z = ((enc z).length : Int)) := (enc_len z hcz).symm
      have hep := enc_pos z hcz
      have HNX : Hid (pos + (enc z).length = (encAll (cs.take (k + 1))).length) := by show _ = _; rw [HTK.out, encAll_append, encAll_one, HPOS.out]; simp
      have hps2 : pos + (enc z).length ≤ s.size := by
        rw [HNX.out]
        have h2 : encAll cs = encAll (cs.take (k + 1)) ++ encAll (cs.drop (k + 1)) := by rw [← encAll_append, List.take_append_drop]
        have h3 := congrArg List.length h2
        simp only [List.length_append] at h3
        omega
      generalize (enc z).length = q at *
      have hkn2 : ((k + 1 : Nat) : Int) ≤ max n 0 := by omega
      clear hca hc1 hcz
      go_wp2_with (go_at_call 43; refine (rwidth_any _ _).mono ?_; rintro e w' ⟨rfl, hw'⟩; rw [hw', HW.out])
      go_roundw
      case rel => exact ⟨k + 1, pos + q, by omega, hkn2, by go_num, by go_num, HNX, hps2, hbw⟩
      case measure => simp [intOf]; omega
    · have HE : Hid (cutV cs n = pos) := by
        show _ = _
        rw [HPOS.out]
        unfold cutV
        by_cases h1 : k < cs.length
        · have h2 : n.toNat = k := by omega
          rw [h2]
        · rw [List.take_of_length_le (show cs.length ≤ k by omega), List.take_of_length_le (show cs.length ≤ n.toNat by omega)]
      have hbf : Below w.heap.size w wr := hb1.trans (hbw.mono hz1)
      clear hca HPOS
      by_cases h1 : k < cs.length
      · have h2 : ¬ (k : Int) < n := by omega
        clear hgo
        go_wp2
        go_quiet (fail)
        go_wp2
        go_ret2
        rw [HE.out]
        exact ⟨rfl, below_drewN hbf _⟩
      · clear hgo
        go_wp2
        go_quiet (fail)
        go_wp2
        go_ret2
        rw [HE.out]
        exact ⟨rfl, below_drewN hbf _⟩
end Go.Proofs.Ytchdecoceokcmaa
