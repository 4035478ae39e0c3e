/- Texts of the seat, packed: SWT SWU SWX SWZ SMg SWV. -/
import Derived.Test.YtephkdocfhajiaaDoorP07
import Derived.Test.YtephkdocfhajiaaDoorP06
import Derived.Deep.RegionWith
import Derived.Laws.Externs
import Derived.Lib.AppendStr
import Derived.Lib.Builder
import Derived.Lib.UnsafeStr
import Derived.Test.YtephkdocfhajiaaDoorP05
/- A walk over lex.Lex: a text's tokens, or the first byte that can't be. -/
namespace Go.Proofs.YtephkdocfhajiaaDoor.Sx

open Go.RowKit

set_option linter.unusedVariables false

/-- The bytes of a text between two places. -/
theorem extract_mid (s : ByteArray) (a x b : List UInt8) (h : s.data.toList = a ++ x ++ b) (i j : Nat) (hi : i = a.length) (hj : j = a.length + x.length) : s.extract i j = ⟨x.toArray⟩ := by
  apply ByteArray.ext
  apply Array.ext'
  rw [Lib.extract_data, h, hi, hj]
  simp

theorem goS_bounds (cs d todo : List Int) (c : Int) (hC : cs = d ++ c :: todo) (s : ByteArray) (hS : s.data.toList = encAll cs) (st : Sc) (hg : goS sc0 0 d = .ok st) :
    s.extract (encAll d).length ((encAll d).length + (enc c).length) = ⟨(enc c).toArray⟩ ∧ ∀ p t, st.cur = some (p, t) → p ≤ (encAll d).length ∧ s.extract p ((encAll d).length + (enc c).length) = ⟨(t ++ enc c).toArray⟩ := by
  refine ⟨extract_mid s (encAll d) (enc c) (encAll todo) (by rw [hS, hC, encAll_append]; simp [encAll]) _ _ rfl rfl, ?_⟩
  intro p t hc
  obtain ⟨d1, d2, e1, e2, e3, _, _, _⟩ := cur_inv d st hg p t hc
  have hl : (encAll d).length = (encAll d1).length + (encAll d2).length := by rw [e1, encAll_append, List.length_append]
  refine ⟨by omega, extract_mid s (encAll d1) (t ++ enc c) (encAll todo) ?_ _ _ e3 ?_⟩
  · rw [hS, hC, e1, e2, encAll_append, encAll_append]
    simp [encAll]
  · rw [hl, e2, List.length_append]
    omega

/-- What 'Lex' answers. -/
def Lexed (w : World) (r : Res) (e : Ending) (w' : World) : Prop :=
  ∃ v, e = .returned (.tuple #[v, .int .i64 (r.place : Int), .int .i64 r.err]) ∧ w'.ownsRow w.heap.size 136 3 v r.toks.length (tvs r.toks) ∧ Below w.heap.size w w'

theorem step_e {st : Sc} {p : Nat} {c : Int} {q : Nat} {e : Int} (h : stepS st p c = .err q e) : (e != 0) = true := by
  obtain ⟨_, _, _, _, h⟩ := step_err h
  rcases h with ⟨_, rfl, _⟩ | ⟨_, rfl, _⟩ <;> rfl

set_option maxRecDepth 1000000 in
set_option maxHeartbeats 4000000 in
theorem lex_whole (s : ByteArray) (cs : List Int) (hp0 : Parts s.data.toList cs []) (w : World) (hs : s.size ≤ 65536) :
    Calls Tryd.prog 80 #[.string s] w fun e w' => Lexed w (lexR cs []) e w' := by
  have hz := size_list s
  have hb : badV cs [] < 0 := by simp [badV]
  have hE : (encAll cs).length = s.size := by rw [← hz, hp0.eq]; simp
  have ht : s.data.toList = encAll cs := by rw [hp0.eq]; simp
  have hts : s.size ≤ 100000 := by omega
  go_enter Tryd.func80, Tryd.ntmps80
  go_wp2_with (go_at_call 83; refine (bad_any s cs [] hp0 _ (by omega)).mono ?_; rintro e w1 ⟨rfl, hb1⟩)
  have hsz1 := hb1.size
  have hS0 : ScanAt ((w1.alloc (.cells #[.string s, .slice none 0 0, .bool false, .bool false] 143)).iter s 0) w1.heap.size (w1.heap.size + 2) s (.slice none 0 0) sc0 := by
    refine ⟨?_, World.ownsRow_nil _ _ _ _, by omega, ?_⟩
    · show ((w1.alloc (.cells #[.string s, .slice none 0 0, .bool false, .bool false] 143)).alloc (.stringIter s 0)).heap[w1.heap.size]? = _
      rw [Below.heap_alloc _ _ _ (by simp)]
      exact heap_alloc_new w1 _
    · show _ ≤ ((w1.alloc (.cells #[.string s, .slice none 0 0, .bool false, .bool false] 143)).alloc (.stringIter s 0)).heap.size
      simp
  have hI0 : ((w1.alloc (.cells #[.string s, .slice none 0 0, .bool false, .bool false] 143)).iter s 0).heap[w1.heap.size + 1]? = some (.stringIter s 0) := by
    have h := World.iter_heap (w1.alloc (.cells #[.string s, .slice none 0 0, .bool false, .bool false] 143)) s 0
    simpa using h
  have hB0 : Below w.heap.size w ((w1.alloc (.cells #[.string s, .slice none 0 0, .bool false, .bool false] 143)).iter s 0) := (hb1.alloc (by omega) _).alloc (by simp; omega) _
  generalize w1.heap.size = b at *
  go_loopw [8, 9, 10, 11] (fun _ _ _ _ wr => ∃ (d todo : List Int) (st : Sc) (v : Value), Hid (cs = d ++ todo) ∧ Hid (goS sc0 0 d = .ok st) ∧ ScanAt wr b (b + 2) s v st ∧ wr.heap[b + 1]? = some (.stringIter s (encAll d).length) ∧ Below w.heap.size w wr) (fun _ _ _ _ wr => s.size - wr.iterPos (b + 1))
  case atStart => exact ⟨[], cs, sc0, _, rfl, rfl, hS0, hI0, hB0⟩
  case round =>
    clear hS0 hI0 hB0
    obtain ⟨d, todo, st, v, HC, HG, hS, hit, hbw⟩ := hrel
    have hpos0 := iter_pos_of hit
    have hzw := hbw.size
    cases todo with
    | cons c todo =>
      have hc : isCp c = true := hp0.cp c (by rw [HC.out]; simp)
      have hcd : ∀ x ∈ d, isCp x = true := fun x hx => hp0.cp x (by rw [HC.out]; simp [hx])
      have hS2 : s.data.toList = encAll (d ++ c :: todo) ++ [] := by rw [ht, HC.out]; simp
      have hd := decode_at s d todo c [] hS2 hc
      have hk := enc_pos c hc
      have hlen : (encAll (d ++ [c])).length = (encAll d).length + (enc c).length := by rw [encAll_append, encAll_one]; simp
      have hsz : (encAll d).length + (enc c).length ≤ s.size := by
        rw [← size_list s, hS2, encAll_append]
        simp [encAll]
      have hcn := cp_toNat c hc
      have htl := toks_len d hcd st HG.out
      obtain ⟨hx0, hx⟩ := goS_bounds cs d todo c HC.out s ht st HG.out
      have hstep := goS_snoc_ok HG.out c
      rw [Nat.zero_add] at hstep
      have HSTEP : Hid (goS sc0 0 (d ++ [c]) = stepS st (encAll d).length c) := hstep
      have HCD : Hid (cs = (d ++ [c]) ++ todo) := by show _ = _; rw [HC.out]; simp
      have HL : Hid ((encAll (d ++ [c])).length = (encAll d).length + (enc c).length) := hlen
      have hS1 : ScanAt (wr.iterAt (b + 1) s ((encAll d).length + (enc c).length)) b (b + 2) s v st :=
        ⟨by rw [Lib.iterAt_other _ _ _ _ _ (by omega)]; exact hS.blk, owns_iterAt hS.own (by omega) _ _, hS.lt, by rw [Lib.iterAt_size]; exact hS.le⟩
      have HT : Hid _ := take_any b (b + 2) s v st (encAll d).length c hc _ hS1 hts hsz (by omega) hx0 hx
      have hit2 := Lib.iterAt_heap wr (b + 1) s (encAll d).length ((encAll d).length + (enc c).length) hit
      have hbw2 := Lib.below_iterAt hbw (k := b + 1) (by omega) s ((encAll d).length + (enc c).length)
      clear hx0 hx hstep htl hS2 hlen hS hcd hS1
      generalize hp1 : (encAll d).length = pos at *
      generalize hk1 : (enc c).length = k at *
      have hnx : ∀ ty, (Instr.next (.pointer (some ⟨b + 1, 0, none⟩)) true ty).run Tryd.prog wr = .ok (.tuple #[.bool true, .int .i64 pos, .int .i32 c]) (wr.iterAt (b + 1) s (pos + k)) := by
        intro ty
        have h := Lib.run_next_any_at (P := Tryd.prog) wr (b + 1) s pos ty hit (by omega)
        rw [hd] at h
        simp only [hcn] at h
        exact h
      obtain ⟨W1, hW1⟩ : ∃ W1, W1 = wr.iterAt (b + 1) s (pos + k) := ⟨_, rfl⟩
      rw [← hW1] at hnx hit2 hbw2 HT
      clear hW1 hit hbw hc hd hcn HC hp1 hk1 hp0 hz ht HG
      go_wp2_with fail
      refine Calls.mono HT.out ?_
      clear HT
      rintro e w2 hT
      cases hq : stepS st pos c with
      | ok st' =>
        rw [hq] at hT HSTEP
        obtain ⟨rfl, ⟨v', hS'⟩, hkb⟩ := hT
        have hit3 : w2.heap[b + 1]? = some (.stringIter s (pos + k)) := (hkb.block (b + 1) (by omega) (by omega)).trans hit2
        have hbw3 : Below w.heap.size w w2 := hbw2.trans (hkb.below (by omega) (by omega))
        clear hkb hq
        go_wp2
        go_roundw
        case rel => exact ⟨d ++ [c], todo, st', v', HCD, HSTEP, hS', by rw [HL.out]; exact hit3, hbw3⟩
        case measure => rw [iter_pos_of hit3, hpos0]; omega
      | err p x =>
        have hx0 := step_e hq
        rw [hq] at hT HSTEP
        obtain ⟨rfl, hkb⟩ := hT
        have hbw3 : Below w.heap.size w w2 := hbw2.trans (hkb.below (by omega) (by omega))
        have HR : Hid (lexR cs [] = ⟨[], p, x⟩) := by
          show _ = _
          unfold lexR
          rw [HCD.out, goS_append, HSTEP.out]
        clear hkb hq
        go_wp2
        go_ret3
        rw [HR.out]
        exact ⟨_, rfl, World.ownsRow_nil _ _ _ _, hbw3⟩
    | nil =>
      have hC : cs = d := by simpa using HC.out
      subst hC
      obtain ⟨c0, c1, c2, c3, hf⟩ := hS.cells
      have hsz : ¬ (encAll cs).length < s.size := by
        rw [← size_list s, ht]
        omega
      generalize hp1 : (encAll cs).length = pos at *
      have hnx : ∀ ty, (Instr.next (.pointer (some ⟨b + 1, 0, none⟩)) true ty).run Tryd.prog wr = _ := fun ty => Lib.run_next_end_at wr (b + 1) s pos ty hit hsz
      have HR : Hid (lexR cs [] = ⟨st.toks, s.size, 0⟩) := by show _ = _; unfold lexR; rw [HG.out]; simp only [if_true]; rw [hp1, hE]
      have HO := owns_low hS.own (B' := w.heap.size) (by omega)
      clear hp0 hz HC ht HG hE hS
      go_wp2
      go_ret3
      rw [HR.out]
      exact ⟨v, rfl, HO, hbw⟩

set_option maxRecDepth 1000000 in
set_option maxHeartbeats 4000000 in
theorem lex_part (s : ByteArray) (cs : List Int) (rest : List UInt8) (hp0 : Parts s.data.toList cs rest) (hr : rest ≠ []) (w : World) (hs : s.size ≤ 65536) :
    Calls Tryd.prog 80 #[.string s] w fun e w' => Lexed w (lexR cs rest) e w' := by
  have hz := size_list s
  obtain ⟨E, hE⟩ : ∃ E : Nat, (encAll cs).length = E := ⟨_, rfl⟩
  have hbE : Hid (badV cs rest = (E : Int)) := by show _ = _; simp [badV, hr, hE]
  have hEs : E ≤ s.size := by rw [← hz, hp0.eq, ← hE]; simp
  have HEE : Hid ((encAll cs).length = E) := hE
  clear hE
  go_enter Tryd.func80, Tryd.ntmps80
  go_wp2_with (go_at_call 83; refine (bad_any s cs rest hp0 _ (by omega)).mono ?_; rintro e w1 ⟨rfl, hb1⟩; rw [hbE.out])
  have hsz1 := hb1.size
  have ht : (s.extract 0 E).data.toList = encAll cs := by
    rw [Lib.extract_data]
    rw [hp0.eq, ← HEE.out]
    simp
  have htz : (s.extract 0 E).size = E := by simp; try omega
  generalize s.extract 0 E = t at *
  have hts : t.size ≤ 100000 := by omega
  have hS0 : ScanAt ((w1.alloc (.cells #[.string t, .slice none 0 0, .bool false, .bool false] 143)).iter t 0) w1.heap.size (w1.heap.size + 2) t (.slice none 0 0) sc0 := by
    refine ⟨?_, World.ownsRow_nil _ _ _ _, by omega, ?_⟩
    · show ((w1.alloc (.cells #[.string t, .slice none 0 0, .bool false, .bool false] 143)).alloc (.stringIter t 0)).heap[w1.heap.size]? = _
      rw [Below.heap_alloc _ _ _ (by simp)]
      exact heap_alloc_new w1 _
    · show _ ≤ ((w1.alloc (.cells #[.string t, .slice none 0 0, .bool false, .bool false] 143)).alloc (.stringIter t 0)).heap.size
      simp
  have hI0 : ((w1.alloc (.cells #[.string t, .slice none 0 0, .bool false, .bool false] 143)).iter t 0).heap[w1.heap.size + 1]? = some (.stringIter t 0) := by
    have h := World.iter_heap (w1.alloc (.cells #[.string t, .slice none 0 0, .bool false, .bool false] 143)) t 0
    simpa using h
  have hB0 : Below w.heap.size w ((w1.alloc (.cells #[.string t, .slice none 0 0, .bool false, .bool false] 143)).iter t 0) := (hb1.alloc (by omega) _).alloc (by simp; omega) _
  generalize w1.heap.size = b at *
  go_loopw [8, 9, 10, 11] (fun _ _ _ _ wr => ∃ (d todo : List Int) (st : Sc) (v : Value), Hid (cs = d ++ todo) ∧ Hid (goS sc0 0 d = .ok st) ∧ ScanAt wr b (b + 2) t v st ∧ wr.heap[b + 1]? = some (.stringIter t (encAll d).length) ∧ Below w.heap.size w wr) (fun _ _ _ _ wr => t.size - wr.iterPos (b + 1))
  case atStart => exact ⟨[], cs, sc0, _, rfl, rfl, hS0, hI0, hB0⟩
  case round =>
    clear hS0 hI0 hB0
    obtain ⟨d, todo, st, v, HC, HG, hS, hit, hbw⟩ := hrel
    have hpos0 := iter_pos_of hit
    have hzw := hbw.size
    cases todo with
    | cons c todo =>
      have hc : isCp c = true := hp0.cp c (by rw [HC.out]; simp)
      have hcd : ∀ x ∈ d, isCp x = true := fun x hx => hp0.cp x (by rw [HC.out]; simp [hx])
      have hS2 : t.data.toList = encAll (d ++ c :: todo) ++ [] := by rw [ht, HC.out]; simp
      have hd := decode_at t d todo c [] hS2 hc
      have hk := enc_pos c hc
      have hlen : (encAll (d ++ [c])).length = (encAll d).length + (enc c).length := by rw [encAll_append, encAll_one]; simp
      have hsz : (encAll d).length + (enc c).length ≤ t.size := by
        rw [← size_list t, hS2, encAll_append]
        simp [encAll]
      have hcn := cp_toNat c hc
      have htl := toks_len d hcd st HG.out
      obtain ⟨hx0, hx⟩ := goS_bounds cs d todo c HC.out t ht st HG.out
      have hstep := goS_snoc_ok HG.out c
      rw [Nat.zero_add] at hstep
      have HSTEP : Hid (goS sc0 0 (d ++ [c]) = stepS st (encAll d).length c) := hstep
      have HCD : Hid (cs = (d ++ [c]) ++ todo) := by show _ = _; rw [HC.out]; simp
      have HL : Hid ((encAll (d ++ [c])).length = (encAll d).length + (enc c).length) := hlen
      have hS1 : ScanAt (wr.iterAt (b + 1) t ((encAll d).length + (enc c).length)) b (b + 2) t v st :=
        ⟨by rw [Lib.iterAt_other _ _ _ _ _ (by omega)]; exact hS.blk, owns_iterAt hS.own (by omega) _ _, hS.lt, by rw [Lib.iterAt_size]; exact hS.le⟩
      have HT : Hid _ := take_any b (b + 2) t v st (encAll d).length c hc _ hS1 hts hsz (by omega) hx0 hx
      have hit2 := Lib.iterAt_heap wr (b + 1) t (encAll d).length ((encAll d).length + (enc c).length) hit
      have hbw2 := Lib.below_iterAt hbw (k := b + 1) (by omega) t ((encAll d).length + (enc c).length)
      clear hx0 hx hstep htl hS2 hlen hS hcd hS1
      generalize hp1 : (encAll d).length = pos at *
      generalize hk1 : (enc c).length = k at *
      have hnx : ∀ ty, (Instr.next (.pointer (some ⟨b + 1, 0, none⟩)) true ty).run Tryd.prog wr = .ok (.tuple #[.bool true, .int .i64 pos, .int .i32 c]) (wr.iterAt (b + 1) t (pos + k)) := by
        intro ty
        have h := Lib.run_next_any_at (P := Tryd.prog) wr (b + 1) t pos ty hit (by omega)
        rw [hd] at h
        simp only [hcn] at h
        exact h
      obtain ⟨W1, hW1⟩ : ∃ W1, W1 = wr.iterAt (b + 1) t (pos + k) := ⟨_, rfl⟩
      rw [← hW1] at hnx hit2 hbw2 HT
      clear hW1 hit hbw hc hd hcn HC hp1 hk1 hp0 hz ht HG hr
      go_wp2_with fail
      refine Calls.mono HT.out ?_
      clear HT
      rintro e w2 hT
      cases hq : stepS st pos c with
      | ok st' =>
        rw [hq] at hT HSTEP
        obtain ⟨rfl, ⟨v', hS'⟩, hkb⟩ := hT
        have hit3 : w2.heap[b + 1]? = some (.stringIter t (pos + k)) := (hkb.block (b + 1) (by omega) (by omega)).trans hit2
        have hbw3 : Below w.heap.size w w2 := hbw2.trans (hkb.below (by omega) (by omega))
        clear hkb hq
        go_wp2
        go_roundw
        case rel => exact ⟨d ++ [c], todo, st', v', HCD, HSTEP, hS', by rw [HL.out]; exact hit3, hbw3⟩
        case measure => rw [iter_pos_of hit3, hpos0]; omega
      | err p x =>
        have hx0 := step_e hq
        rw [hq] at hT HSTEP
        obtain ⟨rfl, hkb⟩ := hT
        have hbw3 : Below w.heap.size w w2 := hbw2.trans (hkb.below (by omega) (by omega))
        have HR : Hid (lexR cs rest = ⟨[], p, x⟩) := by
          show _ = _
          unfold lexR
          rw [HCD.out, goS_append, HSTEP.out]
        clear hkb hq
        go_wp2
        go_ret3
        rw [HR.out]
        exact ⟨_, rfl, World.ownsRow_nil _ _ _ _, hbw3⟩
    | nil =>
      have hC : cs = d := by simpa using HC.out
      subst hC
      obtain ⟨c0, c1, c2, c3, hf⟩ := hS.cells
      have hsz : ¬ (encAll cs).length < t.size := by
        rw [← size_list t, ht]
        omega
      generalize hp1 : (encAll cs).length = pos at *
      have hnx : ∀ ty, (Instr.next (.pointer (some ⟨b + 1, 0, none⟩)) true ty).run Tryd.prog wr = _ := fun ty => Lib.run_next_end_at wr (b + 1) t pos ty hit hsz
      have HR : Hid (lexR cs rest = ⟨[], E, 4⟩) := by show _ = _; unfold lexR; rw [HG.out]; simp only [hr, if_false]; rw [hp1, HEE.out]
      clear hp0 hz HC ht HG hr hS
      go_wp2
      go_ret3
      rw [HR.out]
      exact ⟨_, rfl, World.ownsRow_nil _ _ _ _, hbw⟩

theorem lex_any (s : ByteArray) (cs : List Int) (rest : List UInt8) (hp0 : Parts s.data.toList cs rest) (w : World) (hs : s.size ≤ 65536) :
    Calls Tryd.prog 80 #[.string s] w fun e w' => Lexed w (lexR cs rest) e w' := by
  by_cases hr : rest = []
  · subst hr
    exact lex_whole s cs hp0 w hs
  · exact lex_part s cs rest hp0 hr w hs

set_option maxRecDepth 1000000 in
set_option maxHeartbeats 2000000 in
theorem lex_great (s : ByteArray) (w : World) (hs : ¬ s.size ≤ 65536) :
    Calls Tryd.prog 80 #[.string s] w fun e w' => Lexed w ⟨[], 0, 5⟩ e w' := by
  go_enter Tryd.func80, Tryd.ntmps80
  go_wp2
  go_ret3
  exact ⟨_, rfl, World.ownsRow_nil _ _ _ _, Below.refl _ _⟩

end Go.Proofs.YtephkdocfhajiaaDoor.Sx

/- Walks over the document's Same and SameTexts: slices that read as tokens. -/
namespace Go.Proofs.YtephkdocfhajiaaDoor.Sx

open Go.RowKit

set_option linter.unusedVariables false

/-- A slice that reads as tokens. -/
def ReadsT (w : World) (v : Value) (l : List Tok) : Prop :=
  ∃ a cap, v = .slice a l.length cap ∧ (a = none → cap = 0) ∧ l.length ≤ cap ∧ ∀ i t, l[i]? = some t → ∃ b off, a = some ⟨b, off, none⟩ ∧ w.cell? ⟨b, off + i * 3, none⟩ = some (.int .i64 t.kind) ∧ w.cell? ⟨b, off + i * 3 + 1, none⟩ = some (.string ⟨t.text.toArray⟩) ∧ w.cell? ⟨b, off + i * 3 + 2, none⟩ = some (.int .i64 (t.at_ : Int))

theorem readsT_of_owns {w : World} {B : Nat} {v : Value} {l : List Tok} (h : w.ownsRow B 136 3 v l.length (tvs l)) : ReadsT w v l := by
  rcases h.2 with ⟨rfl, h0⟩ | ⟨g, cap, cur, rfl, hb, hg, hnc, hcm, _⟩
  · have h1 : l = [] := List.eq_nil_of_length_eq_zero h0
    subst h1
    exact ⟨none, 0, rfl, fun _ => rfl, Nat.le_refl _, by simp⟩
  · refine ⟨_, cap, rfl, (fun h => by cases h), hnc, fun i t hi => ⟨g, 0, rfl, ?_, ?_, ?_⟩⟩
    all_goals have hil : i < l.length := (List.getElem?_eq_some_iff.1 hi).1
    · rw [Nat.zero_add, h.cellAt _ (by omega)]
      exact tvs_at l i 0 t hi (by omega)
    · rw [Nat.zero_add, h.cellAt _ (by omega)]
      exact tvs_at l i 1 t hi (by omega)
    · rw [Nat.zero_add, h.cellAt _ (by omega)]
      exact tvs_at l i 2 t hi (by omega)

theorem ReadsT.later {w wx : World} {v : Value} {l : List Tok} (h : ReadsT w v l) (hb : Below w.heap.size w wx) : ReadsT wx v l := by
  obtain ⟨a, cap, hv, hn, hc, hr⟩ := h
  refine ⟨a, cap, hv, hn, hc, fun i t hi => ?_⟩
  obtain ⟨b, off, ha, c0, c1, c2⟩ := hr i t hi
  exact ⟨b, off, ha, cell_later hb c0, cell_later hb c1, cell_later hb c2⟩

end Go.Proofs.YtephkdocfhajiaaDoor.Sx

/- Walks over strings.Builder: copyCheck, WriteByte, WriteString, String. -/
namespace Go.Proofs.YtephkdocfhajiaaDoor.Sx

open Go.RowKit

set_option linter.unusedVariables false

/-- A builder's block and its bytes. -/
structure BAt (w : World) (b B : Nat) (p v : Value) (l : List UInt8) : Prop where
  blk : w.heap[b]? = some (.cells #[p, v] 91 (0, 0))
  own : w.ownsRow B 5 1 v l.length (bvs l)
  lt : b < B
  le : B ≤ w.heap.size
  nil : l = [] → v = .slice none 0 0

/-- A builder that holds these bytes. -/
def IsB (w : World) (b B : Nat) (l : List UInt8) : Prop := ∃ v, BAt w b B (.pointer none) v l ∨ BAt w b B (.pointer (some ⟨b, 0, none⟩)) v l

/-- Blocks that hold no bytes are left as they were, but for one. -/
def Kt (b : Nat) (w w' : World) : Prop := ∀ k c t fz, w.heap[k]? = some (.cells c t fz) → t ≠ 5 → k ≠ b → w'.heap[k]? = some (.cells c t fz)

theorem Kt.trans {b : Nat} {x y z : World} (h : Kt b x y) (k : Kt b y z) : Kt b x z := fun i c t fz hi ht hb => k i c t fz (h i c t fz hi ht hb) ht hb

theorem Kt.setCell (b : Nat) (w : World) (i : Nat) (v : Value) : Kt b w (w.setCell ⟨b, i, none⟩ v) := fun k c t fz hk _ hb => by rw [heap_setCell_other w ⟨b, i, none⟩ k v hb]; exact hk

end Go.Proofs.YtephkdocfhajiaaDoor.Sx

/- Walks over lex.Join and the document's Join: the tokens' texts, one blank between any two. -/
namespace Go.Proofs.YtephkdocfhajiaaDoor.Sx

open Go.RowKit

set_option linter.unusedVariables false

/-- A slice of tokens, of which the texts alone are told. -/
def ReadsX (w : World) (v : Value) (xs : List ByteArray) : Prop :=
  ∃ a cap, v = .slice a xs.length cap ∧ (a = none → cap = 0) ∧ xs.length ≤ cap ∧ ∀ i x, xs[i]? = some x → ∃ b off k p, a = some ⟨b, off, none⟩ ∧ w.cell? ⟨b, off + i * 3, none⟩ = some (.int .i64 k) ∧ w.cell? ⟨b, off + i * 3 + 1, none⟩ = some (.string x) ∧ w.cell? ⟨b, off + i * 3 + 2, none⟩ = some (.int .i64 p)

theorem ReadsX.later {w wx : World} {v : Value} {xs : List ByteArray} (h : ReadsX w v xs) (hb : Below w.heap.size w wx) : ReadsX wx v xs := by
  obtain ⟨a, cap, hv, hn, hc, hr⟩ := h
  refine ⟨a, cap, hv, hn, hc, fun i t hi => ?_⟩
  obtain ⟨b, off, k, p, ha, c0, c1, c2⟩ := hr i t hi
  exact ⟨b, off, k, p, ha, cell_later hb c0, cell_later hb c1, cell_later hb c2⟩

theorem IsB.later {w w1 : World} {b B : Nat} {l : List UInt8} (h : IsB w b B l) (hb : Below w.heap.size w w1) : IsB w1 b B l := by
  have go : ∀ p v, BAt w b B p v l → BAt w1 b B p v l := by
    rintro p v ⟨h1, h2, h3, h4, h5⟩
    have hz := hb.size
    exact ⟨(hb.block b (by omega)).trans h1, owns_later h2 hb, h3, by omega, h5⟩
  obtain ⟨v, h | h⟩ := h
  · exact ⟨v, .inl (go _ _ h)⟩
  · exact ⟨v, .inr (go _ _ h)⟩

theorem IsB.le {w : World} {b B : Nat} {l : List UInt8} (h : IsB w b B l) : B ≤ w.heap.size := by
  obtain ⟨v, h | h⟩ := h
  · exact h.le
  · exact h.le

end Go.Proofs.YtephkdocfhajiaaDoor.Sx

/- Plain facts about texts that are made of names and marks, with gaps between them. -/
namespace Go.Proofs.YtephkdocfhajiaaDoor.Sx

theorem parts_unique : ∀ (cs cs' : List Int) (l rest rest' : List UInt8), Parts l cs rest → Parts l cs' rest' → cs = cs' ∧ rest = rest' := by
  intro cs
  induction cs with
  | nil =>
    intro cs' l rest rest' h h'
    have e1 : l = rest := by rw [h.eq]; simp [encAll]
    cases cs' with
    | nil =>
      have e2 : l = rest' := by rw [h'.eq]; simp [encAll]
      exact ⟨rfl, by rw [← e1, ← e2]⟩
    | cons c cs' =>
      exfalso
      have hc := h'.cp c (by simp)
      have hpre : enc c <+: l := ⟨encAll cs' ++ rest', by rw [h'.eq]; simp [encAll]⟩
      have hep := enc_pos c hc
      rcases h.stop with h0 | h0
      · rw [e1, h0] at hpre
        have := hpre.length_le
        simp at this
        rw [this] at hep
        simp at hep
      · exact h0 c hc (by rw [← e1]; exact hpre)
  | cons c cs ih =>
    intro cs' l rest rest' h h'
    have hc := h.cp c (by simp)
    have hpre : enc c <+: l := ⟨encAll cs ++ rest, by rw [h.eq]; simp [encAll]⟩
    have hep := enc_pos c hc
    cases cs' with
    | nil =>
      exfalso
      have e2 : l = rest' := by rw [h'.eq]; simp [encAll]
      rcases h'.stop with h0 | h0
      · rw [e2, h0] at hpre
        have := hpre.length_le
        simp at this
        rw [this] at hep
        simp at hep
      · exact h0 c hc (by rw [← e2]; exact hpre)
    | cons c' cs' =>
      have hc' := h'.cp c' (by simp)
      have hpre' : enc c' <+: l := ⟨encAll cs' ++ rest', by rw [h'.eq]; simp [encAll]⟩
      have e := enc_unique c c' l hc hc' hpre hpre'
      subst e
      have hl : encAll cs ++ rest = encAll cs' ++ rest' := by
        have h1 := h.eq
        rw [h'.eq] at h1
        simp only [encAll, List.append_assoc, List.append_cancel_left_eq] at h1
        exact h1.symm
      obtain ⟨a, b⟩ := ih cs' (encAll cs ++ rest) rest rest' ⟨rfl, fun x hx => h.cp x (by simp [hx]), h.stop⟩ ⟨hl, fun x hx => h'.cp x (by simp [hx]), h'.stop⟩
      exact ⟨by rw [a], b⟩

/-- A name's code points. -/
def IsName (r : List Int) : Prop := ∃ c r', r = c :: r' ∧ kl c = 1 ∧ (∀ x ∈ r', isNm x = true) ∧ (∀ x ∈ r, isCp x = true) ∧ (encAll r).length ≤ 24

/-- Is a text a name? -/
def nameP (x : List UInt8) : Prop := ∃ r, x = encAll r ∧ IsName r

theorem name_go {r : List Int} (h : IsName r) (done : List Tok) (p : Nat) : goS ⟨done, none, false⟩ p r = .ok ⟨done, some (p, encAll r), false⟩ := by
  obtain ⟨c, r', rfl, h1, h2, h3, h4⟩ := h
  rw [go_name c r' h1 h2 h3, if_neg (by omega)]

/-- Each token is a name or a mark; the name that goes on is a name. -/
theorem tok_inv : ∀ (d : List Int), (∀ c ∈ d, isCp c = true) → ∀ s, goS sc0 0 d = .ok s → (∀ q t, s.cur = some (q, t) → ∃ r, t = encAll r ∧ IsName r) ∧ ∀ t ∈ s.toks, (t.kind = 1 ∧ nameP t.text) ∨ (t.kind = 2 ∧ ∃ c, isMark c = true ∧ t.text = enc c) := by
  intro d
  induction d using snoc_ind with
  | h0 =>
    intro _ s h
    simp only [goS, Out.ok.injEq] at h
    rw [← h]
    exact ⟨fun q t h => (by cases h), fun t ht => (by simp [Sc.toks, sc0, curToks] at ht)⟩
  | h1 d c ih =>
    intro hcp s h
    obtain ⟨s1, h1, h2⟩ := goS_prefix h
    rw [goS_snoc_ok h1, Nat.zero_add] at h
    obtain ⟨hcur, htok⟩ := ih (fun x hx => hcp x (by simp [hx])) s1 h1
    have hc := hcp c (by simp)
    have hdone : ∀ t ∈ s1.done, (t.kind = 1 ∧ nameP t.text) ∨ (t.kind = 2 ∧ ∃ c, isMark c = true ∧ t.text = enc c) := fun t ht => htok t (by simp [Sc.toks, ht])
    rcases step_ok h with ⟨a, rfl⟩ | ⟨_, _, rfl⟩ | ⟨_, hm, rfl⟩ | ⟨_, hn, hk, rfl⟩ | ⟨q, u, _, hq, hk, hle, rfl⟩
    · exact ⟨hcur, htok⟩
    · refine ⟨fun q t h => (by cases h), fun t ht => htok t ?_⟩
      simpa [Sc.toks, curToks] using ht
    · refine ⟨fun q t h => (by cases h), fun t ht => ?_⟩
      simp only [Sc.toks, curToks, List.append_nil] at ht
      rcases List.mem_append.1 ht with ht | ht
      · exact htok t ht
      · simp only [List.mem_singleton] at ht
        subst ht
        exact .inr ⟨rfl, c, hm, rfl⟩
    · have hone : IsName [c] := ⟨c, [], rfl, hk, by simp, by simpa using hc, by have := enc_pos c hc; simp [encAll]; omega⟩
      refine ⟨?_, ?_⟩
      · intro q t h
        simp only [Option.some.injEq, Prod.mk.injEq] at h
        exact ⟨[c], by rw [← h.2]; simp [encAll], hone⟩
      · intro t ht
        simp only [Sc.toks, curToks] at ht
        rcases List.mem_append.1 ht with ht | ht
        · exact hdone t ht
        · simp only [List.mem_singleton] at ht
          subst ht
          exact .inl ⟨rfl, [c], by simp [encAll], hone⟩
    · obtain ⟨r, rfl, c0, r', hr, k0, k1, k2, k3⟩ := hcur q u hq
      obtain ⟨d1, d2, f1, f2, f3, _, _, _⟩ := cur_inv d s1 h1 q _ hq
      have hl : (encAll d).length = q + (encAll r).length := by rw [f1, encAll_append, List.length_append, f3, f2]
      have hnew : IsName (r ++ [c]) := by
        refine ⟨c0, r' ++ [c], by rw [hr]; rfl, k0, ?_, ?_, ?_⟩
        · intro x hx
          rcases List.mem_append.1 hx with hx | hx
          · exact k1 x hx
          · simp only [List.mem_singleton] at hx
            subst hx
            exact (isNm_iff x).2 hk
        · intro x hx
          rcases List.mem_append.1 hx with hx | hx
          · exact k2 x hx
          · simp only [List.mem_singleton] at hx
            subst hx
            exact hc
        · rw [encAll_append, encAll_one, List.length_append]
          omega
      have he : encAll r ++ enc c = encAll (r ++ [c]) := by rw [encAll_append, encAll_one]
      refine ⟨?_, ?_⟩
      · intro q' t h
        simp only [Option.some.injEq, Prod.mk.injEq] at h
        exact ⟨r ++ [c], by rw [← h.2, he], hnew⟩
      · intro t ht
        simp only [Sc.toks, curToks] at ht
        rcases List.mem_append.1 ht with ht | ht
        · exact hdone t ht
        · simp only [List.mem_singleton] at ht
          subst ht
          exact .inl ⟨rfl, r ++ [c], he, hnew⟩

end Go.Proofs.YtephkdocfhajiaaDoor.Sx

/- Walks over lex.Name and lex.Word. -/
namespace Go.Proofs.YtephkdocfhajiaaDoor.Sx

open Go.RowKit

set_option linter.unusedVariables false

/-- Is a text a name, by the answer of the machine? -/
def nameB (r : Res) (s : List UInt8) : Bool := match r.toks with
  | [t] => decide (r.err = 0 ∧ t.kind = 1 ∧ t.text = s)
  | _ => false

/-- Any answer of 'Lex' at a text: whichever it is. -/
def answer (s : ByteArray) (cs : List Int) (rest : List UInt8) : Res := if s.size ≤ 65536 then lexR cs rest else ⟨[], 0, 5⟩

theorem lex_all (s : ByteArray) (cs : List Int) (rest : List UInt8) (hp0 : Parts s.data.toList cs rest) (w : World) :
    Calls Tryd.prog 80 #[.string s] w fun e w' => Lexed w (answer s cs rest) e w' := by
  unfold answer
  split
  · rename_i h
    exact lex_any s cs rest hp0 w h
  · rename_i h
    exact lex_great s w h

set_option maxRecDepth 1000000 in
set_option maxHeartbeats 1000000 in
theorem name_any (s : ByteArray) (cs : List Int) (rest : List UInt8) (hp0 : Parts s.data.toList cs rest) (w : World) :
    Calls Tryd.prog 65 #[.string s] w fun e w' => e = .returned (.bool (nameB (answer s cs rest) s.data.toList)) ∧ Below w.heap.size w w' := by
  have HL : Hid _ := lex_all s cs rest hp0 w
  generalize answer s cs rest = r at *
  obtain ⟨toks, place, err⟩ := r
  clear hp0
  go_enter Tryd.func65, Tryd.ntmps65
  go_wp2_with fail
  refine Calls.mono HL.out ?_
  rintro e w1 ⟨v, rfl, hown, hb1⟩
  clear HL
  simp only at hown
  have hr := readsT_of_owns hown
  clear hown
  obtain ⟨a, cap, rfl, hn0, hcap, hr⟩ := hr
  by_cases h0 : err = 0
  · subst h0
    rcases toks with _ | ⟨t, _ | ⟨t2, toks⟩⟩
    · clear hr hn0
      go_wp2
      go_ret
      exact ⟨rfl, hb1⟩
    · obtain ⟨b, off, rfl, c0, c1, c2⟩ := hr 0 t rfl
      simp only [Nat.zero_mul, Nat.add_zero] at c0 c1
      have HN : Hid (nameB ⟨[t], place, 0⟩ s.data.toList = decide (t.kind = 1 ∧ t.text = s.data.toList)) := by
        show _ = _
        simp [nameB]
      by_cases hk : t.kind = 1
      · rw [hk] at c0
        have HK : Hid (t.kind = 1) := hk
        clear hr hn0 hk c2
        go_wp2
        go_ret
        refine ⟨ret_bool ?_, hb1⟩
        rw [HN.out, HK.out, Lib.toList_data, Bool.eq_iff_iff]
        simp
      · have hk2 : (t.kind == 1) = false := by rw [beq_eq_false_iff_ne]; exact hk
        have HK : Hid (¬ t.kind = 1) := hk
        clear hr hn0 hk c2
        go_wp2
        go_ret
        refine ⟨ret_bool ?_, hb1⟩
        rw [HN.out]
        have := HK.out
        simp [this]
    · have hl2 : (((t :: t2 :: toks).length : Int) == 1) = false := by rw [beq_eq_false_iff_ne]; simp; omega
      clear hr hn0
      generalize ht : (t :: t2 :: toks).length = n at *
      go_wp2
      go_ret
      exact ⟨rfl, hb1⟩
  · have h2 : (err == 0) = false := by rw [beq_eq_false_iff_ne]; exact h0
    have HN : Hid (nameB ⟨toks, place, err⟩ s.data.toList = false) := by
      show _ = _
      unfold nameB
      split
      · simp [h0]
      · rfl
    clear h0 hr hn0
    go_wp2
    go_ret
    exact ⟨ret_bool HN.out.symm, hb1⟩

/-- Is a text one of the words? -/
def isWord (l : List UInt8) : Bool := l == [115, 97, 103, 97] || l == [115, 116, 101, 112] || l == [115, 117, 98] || l == [117, 110, 100, 111] || l == [97, 102, 116, 101, 114] || l == [118, 105, 116, 97, 108] || l == [108, 111, 111, 115, 101] || l == [111, 114]

set_option maxRecDepth 1000000 in
set_option maxHeartbeats 1000000 in
theorem word_any (s : ByteArray) (w : World) : Calls Tryd.prog 66 #[.string s] w fun e w' => e = .returned (.bool (isWord s.data.toList)) ∧ w' = w := by
  go_enter Tryd.func66, Tryd.ntmps66
  go_wp2
  all_goals go_ret
  all_goals refine ⟨ret_bool ?_, rfl⟩
  all_goals simp_all [isWord, Lib.toList_data]

end Go.Proofs.YtephkdocfhajiaaDoor.Sx

