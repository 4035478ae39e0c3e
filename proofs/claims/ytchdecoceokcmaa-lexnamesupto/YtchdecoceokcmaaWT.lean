/- A walk over lex.Lex: a text's tokens, or the first byte that can't be. -/
import Derived.Test.YtchdecoceokcmaaWS
namespace Go.Proofs.Ytchdecoceokcmaa
open Go.RowKit
set_option linter.unusedVariables false

/-- The bytes of a text between two places. -/
theorem extract_mid (s : ByteArray) (a x b : List UInt8) (h : s.data.toList = a ++ x ++ b) (i j : Nat) (hi : i = a.length) (hj : j = a.length + x.length) : s.extract i j = ⟨x.toArray⟩ := by
  apply ByteArray.ext
  apply Array.ext'
  rw [Lib.extract_data, h, hi, hj]
  simp

theorem goS_bounds (cs d todo : List Int) (c : Int) (hC : cs = d ++ c :: todo) (s : ByteArray) (hS : s.data.toList = encAll cs) (st : Sc) (hg : goS sc0 0 d = .ok st) :
    s.extract (encAll d).length ((encAll d).length + (enc c).length) = ⟨(enc c).toArray⟩ ∧ ∀ p t, st.cur = some (p, t) → p ≤ (encAll d).length ∧ s.extract p ((encAll d).length + (enc c).length) = ⟨(t ++ enc c).toArray⟩ := by
  refine ⟨extract_mid s (encAll d) (enc c) (encAll todo) (by rw [hS, hC, encAll_append]; simp [encAll]) _ _ rfl rfl, ?_⟩
  intro p t hc
  obtain ⟨d1, d2, e1, e2, e3, _, _, _⟩ := cur_inv d st hg p t hc
  have hl : (encAll d).length = (encAll d1).length + (encAll d2).length := by rw [e1, encAll_append, List.length_append]
  refine ⟨by omega, extract_mid s (encAll d1) (t ++ enc c) (encAll todo) ?_ _ _ e3 ?_⟩
  · rw [hS, hC, e1, e2, encAll_append, encAll_append]
    simp [encAll]
  · rw [hl, e2, List.length_append]
    omega

/-- What 'Lex' answers. -/
def Lexed (w : World) (r : Res) (e : Ending) (w' : World) : Prop :=
  ∃ v, e = .returned (.tuple #[v, .int .i64 (r.place : Int), .int .i64 r.err]) ∧ w'.ownsRow w.heap.size 38 3 v r.toks.length (tvs r.toks) ∧ Below w.heap.size w w'

theorem step_e {st : Sc} {p : Nat} {c : Int} {q : Nat} {e : Int} (h : stepS st p c = .err q e) : (e != 0) = true := by
  obtain ⟨_, _, _, _, h⟩ := step_err h
  rcases h with ⟨_, rfl, _⟩ | ⟨_, rfl, _⟩ <;> rfl

set_option maxRecDepth 1000000 in
set_option maxHeartbeats 4000000 in
theorem lex_whole (s : ByteArray) (cs : List Int) (hp0 : Parts s.data.toList cs []) (w : World) (hs : s.size ≤ 65536) :
    Calls Try.prog 10 #[.string s] w fun e w' => Lexed w (lexR cs []) e w' := by
  have hz := size_list s
  have hb : badV cs [] < 0 := by simp [badV]
  have hE : (encAll cs).length = s.size := by rw [← hz, hp0.eq]; simp
  have ht : s.data.toList = encAll cs := by rw [hp0.eq]; simp
  have hts : s.size ≤ 100000 := by omega
  go_enter Try.func10, Try.ntmps10
  go_wp2_with (go_at_call 21; refine (bad_any s cs [] hp0 _ (by omega)).mono ?_; rintro e w1 ⟨rfl, hb1⟩)
  have hsz1 := hb1.size
  have hS0 : ScanAt ((w1.alloc (.cells #[.string s, .slice none 0 0, .bool false, .bool false] 46)).iter s 0) w1.heap.size (w1.heap.size + 2) s (.slice none 0 0) sc0 := by
    refine ⟨?_, World.ownsRow_nil _ _ _ _, by omega, ?_⟩
    · show ((w1.alloc (.cells #[.string s, .slice none 0 0, .bool false, .bool false] 46)).alloc (.stringIter s 0)).heap[w1.heap.size]? = _
      rw [Below.heap_alloc _ _ _ (by simp)]
      exact heap_alloc_new w1 _
    · show _ ≤ ((w1.alloc (.cells #[.string s, .slice none 0 0, .bool false, .bool false] 46)).alloc (.stringIter s 0)).heap.size
      simp
  have hI0 : ((w1.alloc (.cells #[.string s, .slice none 0 0, .bool false, .bool false] 46)).iter s 0).heap[w1.heap.size + 1]? = some (.stringIter s 0) := by
    have h := World.iter_heap (w1.alloc (.cells #[.string s, .slice none 0 0, .bool false, .bool false] 46)) s 0
    simpa using h
  have hB0 : Below w.heap.size w ((w1.alloc (.cells #[.string s, .slice none 0 0, .bool false, .bool false] 46)).iter s 0) := (hb1.alloc (by omega) _).alloc (by simp; omega) _
  generalize w1.heap.size = b at *
  go_loopw [8, 9, 10, 11] (fun _ _ _ _ wr => ∃ (d todo : List Int) (st : Sc) (v : Value), Hid (cs = d ++ todo) ∧ Hid (goS sc0 0 d = .ok st) ∧ ScanAt wr b (b + 2) s v st ∧ wr.heap[b + 1]? = some (.stringIter s (encAll d).length) ∧ Below w.heap.size w wr) (fun _ _ _ _ wr => s.size - wr.iterPos (b + 1))
  case atStart => exact ⟨[], cs, sc0, _, rfl, rfl, hS0, hI0, hB0⟩
  case round =>
    clear hS0 hI0 hB0
    obtain ⟨d, todo, st, v, HC, HG, hS, hit, hbw⟩ := hrel
    have hpos0 := iter_pos_of hit
    have hzw := hbw.size
    cases todo with
    | cons c todo =>
      have hc : isCp c = true := hp0.cp c (by rw [HC.out]; simp)
      have hcd : ∀ x ∈ d, isCp x = true := fun x hx => hp0.cp x (by rw [HC.out]; simp [hx])
      have hS2 : s.data.toList = encAll (d ++ c :: todo) ++ [] := by rw [ht, HC.out]; simp
      have hd := decode_at s d todo c [] hS2 hc
      have hk := enc_pos c hc
      have hlen : (encAll (d ++ [c])).length = (encAll d).length + (enc c).length := by rw [encAll_append, encAll_one]; simp
      have hsz : (encAll d).length + (enc c).length ≤ s.size := by
        rw [← size_list s, hS2, encAll_append]
        simp [encAll]
      have hcn := cp_toNat c hc
      have htl := toks_len d hcd st HG.out
      obtain ⟨hx0, hx⟩ := goS_bounds cs d todo c HC.out s ht st HG.out
      have hstep := goS_snoc_ok HG.out c
      rw [Nat.zero_add] at hstep
      have HSTEP : Hid (goS sc0 0 (d ++ [c]) = stepS st (encAll d).length c) := hstep
      have HCD : Hid (cs = (d ++ [c]) ++ todo) := by show _ = _; rw [HC.out]; simp
      have HL : Hid ((encAll (d ++ [c])).length = (encAll d).length + (enc c).length) := hlen
      have hS1 : ScanAt (wr.iterAt (b + 1) s ((encAll d).length + (enc c).length)) b (b + 2) s v st :=
        ⟨by rw [Lib.iterAt_other _ _ _ _ _ (by omega)]; exact hS.blk, owns_iterAt hS.own (by omega) _ _, hS.lt, by rw [Lib.iterAt_size]; exact hS.le⟩
      have HT : Hid _ := take_any b (b + 2) s v st (encAll d).length c hc _ hS1 hts hsz (by omega) hx0 hx
      have hit2 := Lib.iterAt_heap wr (b + 1) s (encAll d).length ((encAll d).length + (enc c).length) hit
      have hbw2 := Lib.below_iterAt hbw (k := b + 1) (by omega) s ((encAll d).length + (enc c).length)
      clear hx0 hx hstep htl hS2 hlen hS hcd hS1
      generalize hp1 : (encAll d).length = pos at *
      generalize hk1 : (enc c).length = k at *
      have hnx : ∀ ty, (Instr.next (.pointer (some ⟨b + 1, 0, none⟩)) true ty).run Try.prog wr = .ok (.tuple #[.bool true, .int .i64 pos, .int .i32 c]) (wr.iterAt (b + 1) s (pos + k)) := by
        intro ty
        have h := Lib.run_next_any_at (P := Try.prog) wr (b + 1) s pos ty hit (by omega)
        rw [hd] at h
        simp only [hcn] at h
        exact h
      obtain ⟨W1, hW1⟩ : ∃ W1, W1 = wr.iterAt (b + 1) s (pos + k) := ⟨_, rfl⟩
      rw [← hW1] at hnx hit2 hbw2 HT
      clear hW1 hit hbw hc hd hcn HC hp1 hk1 hp0 hz ht HG
      go_wp2_with fail
      refine Calls.mono HT.out ?_
      clear HT
      rintro e w2 hT
      cases hq : stepS st pos c with
      | ok st' =>
        rw [hq] at hT HSTEP
        obtain ⟨rfl, ⟨v', hS'⟩, hkb⟩ := hT
        have hit3 : w2.heap[b + 1]? = some (.stringIter s (pos + k)) := (hkb.block (b + 1) (by omega) (by omega)).trans hit2
        have hbw3 : Below w.heap.size w w2 := hbw2.trans (hkb.below (by omega) (by omega))
        clear hkb hq
        go_wp2
        go_roundw
        case rel => exact ⟨d ++ [c], todo, st', v', HCD, HSTEP, hS', by rw [HL.out]; exact hit3, hbw3⟩
        case measure => rw [iter_pos_of hit3, hpos0]; omega
      | err p x =>
        have hx0 := step_e hq
        rw [hq] at hT HSTEP
        obtain ⟨rfl, hkb⟩ := hT
        have hbw3 : Below w.heap.size w w2 := hbw2.trans (hkb.below (by omega) (by omega))
        have HR : Hid (lexR cs [] = ⟨[], p, x⟩) := by
          show _ = _
          unfold lexR
          rw [HCD.out, goS_append, HSTEP.out]
        clear hkb hq
        go_wp2
        go_ret3
        rw [HR.out]
        exact ⟨_, rfl, World.ownsRow_nil _ _ _ _, hbw3⟩
    | nil =>
      have hC : cs = d := by simpa using HC.out
      subst hC
      obtain ⟨c0, c1, c2, c3, hf⟩ := hS.cells
      have hsz : ¬ (encAll cs).length < s.size := by
        rw [← size_list s, ht]
        omega
      generalize hp1 : (encAll cs).length = pos at *
      have hnx : ∀ ty, (Instr.next (.pointer (some ⟨b + 1, 0, none⟩)) true ty).run Try.prog wr = _ := fun ty => Lib.run_next_end_at wr (b + 1) s pos ty hit hsz
      have HR : Hid (lexR cs [] = ⟨st.toks, s.size, 0⟩) := by show _ = _; unfold lexR; rw [HG.out]; simp only [if_true]; rw [hp1, hE]
      have HO := owns_low hS.own (B' := w.heap.size) (by omega)
      clear hp0 hz HC ht HG hE hS
      go_wp2
      go_ret3
      rw [HR.out]
      exact ⟨v, rfl, HO, hbw⟩

set_option maxRecDepth 1000000 in
set_option maxHeartbeats 4000000 in
theorem lex_part (s : ByteArray) (cs : List Int) (rest : List UInt8) (hp0 : Parts s.data.toList cs rest) (hr : rest ≠ []) (w : World) (hs : s.size ≤ 65536) :
    Calls Try.prog 10 #[.string s] w fun e w' => Lexed w (lexR cs rest) e w' := by
  have hz := size_list s
  obtain ⟨E, hE⟩ : ∃ E : Nat, (encAll cs).length = E := ⟨_, rfl⟩
  have hbE : Hid (badV cs rest = (E : Int)) := by show _ = _; simp [badV, hr, hE]
  have hEs : E ≤ s.size := by rw [← hz, hp0.eq, ← hE]; simp
  have HEE : Hid ((encAll cs).length = E) := hE
  clear hE
  go_enter Try.func10, Try.ntmps10
  go_wp2_with (go_at_call 21; refine (bad_any s cs rest hp0 _ (by omega)).mono ?_; rintro e w1 ⟨rfl, hb1⟩; rw [hbE.out])
  have hsz1 := hb1.size
  have ht : (s.extract 0 E).data.toList = encAll cs := by
    rw [Lib.extract_data]
    rw [hp0.eq, ← HEE.out]
    simp
  have htz : (s.extract 0 E).size = E := by simp; try omega
  generalize s.extract 0 E = t at *
  have hts : t.size ≤ 100000 := by omega
  have hS0 : ScanAt ((w1.alloc (.cells #[.string t, .slice none 0 0, .bool false, .bool false] 46)).iter t 0) w1.heap.size (w1.heap.size + 2) t (.slice none 0 0) sc0 := by
    refine ⟨?_, World.ownsRow_nil _ _ _ _, by omega, ?_⟩
    · show ((w1.alloc (.cells #[.string t, .slice none 0 0, .bool false, .bool false] 46)).alloc (.stringIter t 0)).heap[w1.heap.size]? = _
      rw [Below.heap_alloc _ _ _ (by simp)]
      exact heap_alloc_new w1 _
    · show _ ≤ ((w1.alloc (.cells #[.string t, .slice none 0 0, .bool false, .bool false] 46)).alloc (.stringIter t 0)).heap.size
      simp
  have hI0 : ((w1.alloc (.cells #[.string t, .slice none 0 0, .bool false, .bool false] 46)).iter t 0).heap[w1.heap.size + 1]? = some (.stringIter t 0) := by
    have h := World.iter_heap (w1.alloc (.cells #[.string t, .slice none 0 0, .bool false, .bool false] 46)) t 0
    simpa using h
  have hB0 : Below w.heap.size w ((w1.alloc (.cells #[.string t, .slice none 0 0, .bool false, .bool false] 46)).iter t 0) := (hb1.alloc (by omega) _).alloc (by simp; omega) _
  generalize w1.heap.size = b at *
  go_loopw [8, 9, 10, 11] (fun _ _ _ _ wr => ∃ (d todo : List Int) (st : Sc) (v : Value), Hid (cs = d ++ todo) ∧ Hid (goS sc0 0 d = .ok st) ∧ ScanAt wr b (b + 2) t v st ∧ wr.heap[b + 1]? = some (.stringIter t (encAll d).length) ∧ Below w.heap.size w wr) (fun _ _ _ _ wr => t.size - wr.iterPos (b + 1))
  case atStart => exact ⟨[], cs, sc0, _, rfl, rfl, hS0, hI0, hB0⟩
  case round =>
    clear hS0 hI0 hB0
    obtain ⟨d, todo, st, v, HC, HG, hS, hit, hbw⟩ := hrel
    have hpos0 := iter_pos_of hit
    have hzw := hbw.size
    cases todo with
    | cons c todo =>
      have hc : isCp c = true := hp0.cp c (by rw [HC.out]; simp)
      have hcd : ∀ x ∈ d, isCp x = true := fun x hx => hp0.cp x (by rw [HC.out]; simp [hx])
      have hS2 : t.data.toList = encAll (d ++ c :: todo) ++ [] := by rw [ht, HC.out]; simp
      have hd := decode_at t d todo c [] hS2 hc
      have hk := enc_pos c hc
      have hlen : (encAll (d ++ [c])).length = (encAll d).length + (enc c).length := by rw [encAll_append, encAll_one]; simp
      have hsz : (encAll d).length + (enc c).length ≤ t.size := by
        rw [← size_list t, hS2, encAll_append]
        simp [encAll]
      have hcn := cp_toNat c hc
      have htl := toks_len d hcd st HG.out
      obtain ⟨hx0, hx⟩ := goS_bounds cs d todo c HC.out t ht st HG.out
      have hstep := goS_snoc_ok HG.out c
      rw [Nat.zero_add] at hstep
      have HSTEP : Hid (goS sc0 0 (d ++ [c]) = stepS st (encAll d).length c) := hstep
      have HCD : Hid (cs = (d ++ [c]) ++ todo) := by show _ = _; rw [HC.out]; simp
      have HL : Hid ((encAll (d ++ [c])).length = (encAll d).length + (enc c).length) := hlen
      have hS1 : ScanAt (wr.iterAt (b + 1) t ((encAll d).length + (enc c).length)) b (b + 2) t v st :=
        ⟨by rw [Lib.iterAt_other _ _ _ _ _ (by omega)]; exact hS.blk, owns_iterAt hS.own (by omega) _ _, hS.lt, by rw [Lib.iterAt_size]; exact hS.le⟩
      have HT : Hid _ := take_any b (b + 2) t v st (encAll d).length c hc _ hS1 hts hsz (by omega) hx0 hx
      have hit2 := Lib.iterAt_heap wr (b + 1) t (encAll d).length ((encAll d).length + (enc c).length) hit
      have hbw2 := Lib.below_iterAt hbw (k := b + 1) (by omega) t ((encAll d).length + (enc c).length)
      clear hx0 hx hstep htl hS2 hlen hS hcd hS1
      generalize hp1 : (encAll d).length = pos at *
      generalize hk1 : (enc c).length = k at *
      have hnx : ∀ ty, (Instr.next (.pointer (some ⟨b + 1, 0, none⟩)) true ty).run Try.prog wr = .ok (.tuple #[.bool true, .int .i64 pos, .int .i32 c]) (wr.iterAt (b + 1) t (pos + k)) := by
        intro ty
        have h := Lib.run_next_any_at (P := Try.prog) wr (b + 1) t pos ty hit (by omega)
        rw [hd] at h
        simp only [hcn] at h
        exact h
      obtain ⟨W1, hW1⟩ : ∃ W1, W1 = wr.iterAt (b + 1) t (pos + k) := ⟨_, rfl⟩
      rw [← hW1] at hnx hit2 hbw2 HT
      clear hW1 hit hbw hc hd hcn HC hp1 hk1 hp0 hz ht HG hr
      go_wp2_with fail
      refine Calls.mono HT.out ?_
      clear HT
      rintro e w2 hT
      cases hq : stepS st pos c with
      | ok st' =>
        rw [hq] at hT HSTEP
        obtain ⟨rfl, ⟨v', hS'⟩, hkb⟩ := hT
        have hit3 : w2.heap[b + 1]? = some (.stringIter t (pos + k)) := (hkb.block (b + 1) (by omega) (by omega)).trans hit2
        have hbw3 : Below w.heap.size w w2 := hbw2.trans (hkb.below (by omega) (by omega))
        clear hkb hq
        go_wp2
        go_roundw
        case rel => exact ⟨d ++ [c], todo, st', v', HCD, HSTEP, hS', by rw [HL.out]; exact hit3, hbw3⟩
        case measure => rw [iter_pos_of hit3, hpos0]; omega
      | err p x =>
        have hx0 := step_e hq
        rw [hq] at hT HSTEP
        obtain ⟨rfl, hkb⟩ := hT
        have hbw3 : Below w.heap.size w w2 := hbw2.trans (hkb.below (by omega) (by omega))
        have HR : Hid (lexR cs rest = ⟨[], p, x⟩) := by
          show _ = _
          unfold lexR
          rw [HCD.out, goS_append, HSTEP.out]
        clear hkb hq
        go_wp2
        go_ret3
        rw [HR.out]
        exact ⟨_, rfl, World.ownsRow_nil _ _ _ _, hbw3⟩
    | nil =>
      have hC : cs = d := by simpa using HC.out
      subst hC
      obtain ⟨c0, c1, c2, c3, hf⟩ := hS.cells
      have hsz : ¬ (encAll cs).length < t.size := by
        rw [← size_list t, ht]
        omega
      generalize hp1 : (encAll cs).length = pos at *
      have hnx : ∀ ty, (Instr.next (.pointer (some ⟨b + 1, 0, none⟩)) true ty).run Try.prog wr = _ := fun ty => Lib.run_next_end_at wr (b + 1) t pos ty hit hsz
      have HR : Hid (lexR cs rest = ⟨[], E, 4⟩) := by show _ = _; unfold lexR; rw [HG.out]; simp only [hr, if_false]; rw [hp1, HEE.out]
      clear hp0 hz HC ht HG hr hS
      go_wp2
      go_ret3
      rw [HR.out]
      exact ⟨_, rfl, World.ownsRow_nil _ _ _ _, hbw⟩

theorem lex_any (s : ByteArray) (cs : List Int) (rest : List UInt8) (hp0 : Parts s.data.toList cs rest) (w : World) (hs : s.size ≤ 65536) :
    Calls Try.prog 10 #[.string s] w fun e w' => Lexed w (lexR cs rest) e w' := by
  by_cases hr : rest = []
  · subst hr
    exact lex_whole s cs hp0 w hs
  · exact lex_part s cs rest hp0 hr w hs

set_option maxRecDepth 1000000 in
set_option maxHeartbeats 2000000 in
theorem lex_great (s : ByteArray) (w : World) (hs : ¬ s.size ≤ 65536) :
    Calls Try.prog 10 #[.string s] w fun e w' => Lexed w ⟨[], 0, 5⟩ e w' := by
  go_enter Try.func10, Try.ntmps10
  go_wp2
  go_ret3
  exact ⟨_, rfl, World.ownsRow_nil _ _ _ _, Below.refl _ _⟩
end Go.Proofs.Ytchdecoceokcmaa
