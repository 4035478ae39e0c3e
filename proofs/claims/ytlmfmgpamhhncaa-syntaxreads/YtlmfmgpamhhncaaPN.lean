/- Texts of the seat, packed: Uk. -/
import Derived.Test.YtlmfmgpamhhncaaPM
import Derived.Test.YtlmfmgpamhhncaaPH
import Derived.Test.YtlmfmgpamhhncaaP6
/- The document's Read. -/
namespace Go.Proofs.Ytlmfmgpamhhncaa
open Go.RowKit

/-- How the document's reader ends. -/
theorem saga_end (L : List By) {x : By} {i1 i2 j : Nat} {bad1 bad2 bad' : Bool} {t : Tr} (h1 : i1 = if isT L 0 wSaga then 1 else 0) (hb1 : bad1 = !isT L 0 wSaga) (h2 : nmF L i1 bad1 = (x, i2, bad2))
    (h3 : Bdy (if bad2 then .no i2 else brace L (rd nmP L L.length true) i2) t j bad') :
    (bad' = true ∧ rSaga nmP L L.length = .no j) ∨ (bad' = false ∧ rSaga nmP L L.length = if j = L.length then .ok (x, t) j else .no j) := by
  unfold rSaga
  cases hs : isT L 0 wSaga with
  | false =>
    rw [hs] at h1 hb1
    simp at h1 hb1
    subst h1 hb1
    rw [nmF_bad] at h2
    simp at h2
    obtain ⟨_, rfl, rfl⟩ := h2
    simp only [if_true] at h3
    cases bad' with
    | true => have h4 : (Got.no 0 : Got Tr) = .no j := h3; cases h4; exact .inl ⟨rfl, rfl⟩
    | false => have h4 : (Got.no 0 : Got Tr) = .ok t j := h3; cases h4
  | true =>
    rw [hs] at h1 hb1
    simp at h1 hb1
    subst h1 hb1
    simp only [if_true]
    cases hn : rName nmP L 1 with
    | no k =>
      rw [nmF_no hn] at h2
      simp at h2
      obtain ⟨_, rfl, rfl⟩ := h2
      simp only [if_true] at h3
      cases bad' with
      | true => have h4 : (Got.no k : Got Tr) = .no j := h3; cases h4; exact .inl ⟨rfl, rfl⟩
      | false => have h4 : (Got.no k : Got Tr) = .ok t j := h3; cases h4
    | ok y k =>
      rw [nmF_ok hn] at h2
      simp at h2
      obtain ⟨rfl, rfl, rfl⟩ := h2
      simp only [Bool.false_eq_true, if_false] at h3
      cases bad' with
      | true =>
        have h4 : brace L (rd nmP L L.length true) k = .no j := h3
        dsimp only
        rw [h4]
        exact .inl ⟨rfl, rfl⟩
      | false =>
        have h4 : brace L (rd nmP L L.length true) k = .ok t j := h3
        dsimp only
        rw [h4]
        exact .inr ⟨rfl, rfl⟩

theorem rSaga_bare {L : List By} {F k : Nat} {x : By} {t : Tr} (h : rSaga nmP L F = .ok (x, t) k) : t.bare = true := by
  unfold rSaga at h
  split at h
  · split at h
    · cases h
    · split at h
      · cases h
      · rename_i u m h2
        split at h
        · cases h
          unfold brace at h2
          split at h2
          · exact (rd_ok nmP L F _ _ _ _ h2).2
          · cases h2
        · cases h
  · cases h

set_option maxRecDepth 1000000 in
set_option maxHeartbeats 4000000 in
theorem ref_read (s : ByteArray) (cs : List Int) (rest : List UInt8) (hp0 : Parts s.data.toList cs rest) (w : World) (hs64 : s.size ≤ 65536) :
    Calls Try.prog 10 #[.string s] w fun e w' => ReadC s.size (rAns s.size (lexR cs rest)) w e w' := by
  have hz := size_list s
  have hlen : (lexR cs rest).toks.length ≤ 65536 := by
    unfold lexR
    cases hg : goS sc0 0 cs with
    | err p e => simp
    | ok st =>
      dsimp only
      split
      · have := toks_len cs hp0.cp st hg
        have h2 : (encAll cs).length ≤ s.size := by rw [← hz, hp0.eq]; simp
        simp only
        omega
      · simp
  have htx : ∀ t ∈ (lexR cs rest).toks, t.text.length ≤ 65536 := by
    unfold lexR
    cases hg : goS sc0 0 cs with
    | err p e => simp
    | ok st =>
      dsimp only
      split
      · intro t ht
        rcases (tok_inv cs hp0.cp st hg).2 t ht with ⟨_, r, hr, c, r', _, _, _, _, h24⟩ | ⟨_, c, hc, hte⟩
        · rw [hr]; omega
        · have := (isTok_cp (r := [c]) (k := 2) (.inr ⟨rfl, c, hc, rfl⟩)).2
          rw [hte]
          simp [encAll] at this
          omega
      · simp
  have HL : Hid _ := rlex_any s cs rest hp0 (w.alloc (.cells #[.string ⟨#[]⟩, .slice none 0 0] 25)) hs64
  generalize lexR cs rest = r at *
  obtain ⟨toks, place, err⟩ := r
  dsimp only at *
  have b0 := row_new w #[.string ⟨#[]⟩, .slice none 0 0] 25
  have hbw0 : Below w.heap.size w (w.alloc (.cells #[.string ⟨#[]⟩, .slice none 0 0] 25)) := (Below.refl _ _).alloc (Nat.le_refl _) _
  clear hp0
  obtain ⟨A, HA⟩ : ∃ A, Hid (A = rAns s.size ⟨toks, place, err⟩) := ⟨_, rfl⟩
  rw [← HA.out]
  go_enter Try.func10, Try.ntmps10
  go_wp2_with fail
  refine Calls.mono HL.out ?_
  clear HL
  rintro e w1 ⟨v1, rfl, ho1, hb1⟩
  have b1 : w1.heap[w.heap.size]? = some (.cells #[.string ⟨#[]⟩, .slice none 0 0] 25 (0, 0)) := (hb1.block _ (by simp)).trans b0
  have hbw1 : Below w.heap.size w w1 := hbw0.trans (hb1.mono (by simp))
  have e0 := (cell_row b1 0).trans rfl
  have e1 := (cell_row b1 1).trans rfl
  have ef := froz_row b1
  by_cases he : err = 0
  · subst he
    have hrT := readsT_of_owns ho1
    obtain ⟨ta, tc, rfl, _, _, htc⟩ := hrT
    have hz1 := hb1.size
    simp at hz1
    obtain ⟨L, HLx⟩ : ∃ L, Hid (L = tx toks) := ⟨_, rfl⟩
    have hLl : L.length = toks.length := by rw [HLx.out]; simp [tx]
    have hLx : ∀ x ∈ L, x.length ≤ 65536 := by
      intro x hx
      rw [HLx.out] at hx
      obtain ⟨t, ht, rfl⟩ := List.mem_map.1 hx
      exact htx t ht
    have R2 : RF (w1.alloc (.cells #[.slice ta L.length tc, .int .i64 ((0 : Nat) : Int), .bool false] 64)) w1.heap.size ta tc L 0 false := by
      refine ⟨row_new w1 _ 64, fun j x hj => ?_, by omega, Nat.zero_le _⟩
      rw [HLx.out, tx, List.getElem?_map] at hj
      cases ht : toks[j]? with
      | none => rw [ht] at hj; simp at hj
      | some t =>
        rw [ht] at hj
        simp at hj
        obtain ⟨b, off, h1, _, h2, _⟩ := htc j t ht
        have hlt := lt_of_cell? h2
        refine ⟨b, off, h1, by simp at hlt; omega, ?_⟩
        rw [← hj]
        exact (World.cell?_of_block (a := ⟨b, off + j * 3 + 1, none⟩) (Below.heap_alloc _ _ _ hlt)).trans h2
    have hB2 : Below w1.heap.size w1 (w1.alloc (.cells #[.slice ta L.length tc, .int .i64 ((0 : Nat) : Int), .bool false] 64)) := (Below.refl _ _).alloc (Nat.le_refl _) _
    have M2 : Hid _ := must_ok _ w1.heap.size tc 0 ta L wSaga R2
    have HR2 : Hid _ := R2
    rw [hLl] at M2 hB2
    clear R2
    go_wp2_with fail
    refine Calls.mono M2.out ?_
    rintro e w3 ⟨rfl, k3, r3⟩
    have hat := nmF_at L _ (!isT L 0 wSaga) r3.le
    have M3 : Hid _ := name_rf w3 w1.heap.size tc _ ta L _ r3 hLx
    obtain ⟨x, i2, bad2, hnm⟩ : ∃ x i2 bad2, nmF L (if isT L 0 wSaga then 0 + 1 else 0) (!isT L 0 wSaga) = (x, i2, bad2) := ⟨_, _, _, rfl⟩
    rw [hnm] at M3 hat
    have HNM : Hid _ := hnm
    have hz3 := k3.size
    simp at hz3
    have hb3 : Below w1.heap.size w1 w3 := hB2.trans (k3.below (Nat.le_refl _) (by simp))
    clear M2 hnm
    go_wp2_with fail
    refine Calls.mono M3.out ?_
    rintro e w4 ⟨rfl, k4, r4⟩
    dsimp only at r4 hat ⊢
    have hz4 := k4.size
    have hb4 : Below w1.heap.size w1 w4 := hb3.trans (k4.below (Nat.le_refl _) (by omega))
    have hA4 : Below w4.heap.size w4 (w4.alloc (.cells #[.string ⟨x.toArray⟩, .slice none 0 0] 25)) := (Below.refl _ _).alloc (Nat.le_refl _) _
    have M4 : Hid _ := docs_all L w1.heap.size tc ta hLx L.length (w4.alloc (.cells #[.string ⟨x.toArray⟩, .slice none 0 0] 25)) i2 bad2 (r4.keep hA4) (by omega)
    have g4 := row_new w4 #[.string ⟨x.toArray⟩, .slice none 0 0] 25
    have hb4' : Below w1.heap.size w1 (w4.alloc (.cells #[.string ⟨x.toArray⟩, .slice none 0 0] 25)) := hb4.alloc (by omega) _
    clear M3 k3 k4 r3 hb3
    go_wp2_with fail
    refine Calls.mono M4.out ?_
    rintro e w5 ⟨k5, t, v, j, bad', rfl, ⟨a, c, rfl, ht⟩, r5, hij, hbd⟩
    have hz5 := k5.size
    simp at hz5
    have g5 := row_ke g4 k5 (by omega)
    have g5c := (cell_row g5 1).trans rfl
    have g5f := froz_row g5 1
    have g6 : (w5.setCell ⟨w4.heap.size, 1, none⟩ (.slice a t.len c)).heap[w4.heap.size]? = some (.cells #[.string ⟨x.toArray⟩, .slice a t.len c] 25 (0, 0)) := row_set g5 1 _
    have hb5 : Below w1.heap.size w1 w5 := hb4'.trans (k5.below (Nat.le_refl _) (by simp; omega))
    have hB16 : Below w1.heap.size w1 (w5.setCell ⟨w4.heap.size, 1, none⟩ (.slice a t.len c)) := hb5.setCell (p := ⟨w4.heap.size, 1, none⟩) (by show w1.heap.size ≤ w4.heap.size; omega) _
    have htl : Tlt ta L (w1.heap.size + 1) := by have := HR2.out.tlt; simpa using this
    have r6 := r5.setFar (c := w4.heap.size) (j := 1) htl (.slice a t.len c) (by omega) (by omega)
    have ht6 : TAt (fun b => w4.heap.size < b) (w5.setCell ⟨w4.heap.size, 1, none⟩ (.slice a t.len c)) true t a 0 t.len := ht.keep (Keeps.setCell _ _ (by simp)) (fun b hb _ => by simp at hb; omega) _ _ _ _ _
    have hbw6 : Below w.heap.size w (w5.setCell ⟨w4.heap.size, 1, none⟩ (.slice a t.len c)) := hbw1.trans (hB16.mono (by omega))
    have b6 : (w5.setCell ⟨w4.heap.size, 1, none⟩ (.slice a t.len c)).heap[w.heap.size]? = some (.cells #[.string ⟨#[]⟩, .slice none 0 0] 25 (0, 0)) := (hB16.block _ (by omega)).trans b1
    have hEnd := saga_end L rfl rfl HNM.out hbd
    have hjle := r5.le
    clear M4 k5 r5 g4 g5 hb4 hb4' hb5 ht hbd hA4
    go_upto_region 8 with fail
    generalize w5.setCell ⟨w4.heap.size, 1, none⟩ (.slice a t.len c) = w6 at *
    have p0 := (cell_row b6 0).trans rfl
    have p1 := (cell_row b6 1).trans rfl
    have pf := froz_row b6
    have q0 := (cell_row r6.blk 0).trans rfl
    have q1 := (cell_row r6.blk 1).trans rfl
    have q2 := (cell_row r6.blk 2).trans rfl
    have u0 := (cell_row g6 0).trans rfl
    have u1' := (cell_row g6 1).trans rfl
    clear g5c g5f e0 e1 ef
    rcases hEnd with ⟨rfl, hG⟩ | ⟨rfl, hG⟩
    · by_cases hj : j = L.length
      · have hA : A = .bad s.size 10 := by
          rw [HA.out]
          unfold rAns
          rw [if_neg (by simp)]
          rw [show toks.map (·.text) = L from HLx.out.symm, hG]
          simp only [atOf]
          rw [List.getElem?_eq_none (by omega)]
        have hje : ((j : Int) == (toks.length : Int)) = true := by simp; omega
        have HJ : Hid _ := hj
        clear hj
        go_wp2_with fail
        refine ret3c rfl w.heap.size _ _ rfl rfl (row_set (row_set b6 0 _) 1 _) ?_
        refine ⟨?_, ?_⟩
        · exact (hbw6.setCell (p := ⟨w.heap.size, 0, none⟩) (Nat.le_refl _) _).setCell (p := ⟨w.heap.size, 1, none⟩) (Nat.le_refl _) _
        · rw [hA]
          rfl
      · have hjl : j < toks.length := by omega
        obtain ⟨t0, ht0⟩ : ∃ t0, toks[j]? = some t0 := ⟨_, List.getElem?_eq_getElem hjl⟩
        obtain ⟨tb, toff, rfl, _, _, d2⟩ := htc j t0 ht0
        have hA : A = .bad t0.at_ 10 := by
          rw [HA.out]
          unfold rAns
          rw [if_neg (by simp)]
          rw [show toks.map (·.text) = L from HLx.out.symm, hG]
          simp only [atOf, ht0]
        have d2' := cell_later hB16 d2
        have hji : (j : Int) < (toks.length : Int) := by omega
        have hjne : ((j : Int) == (toks.length : Int)) = false := by simp; omega
        go_wp2_with fail
        go_region
        go_wp2_with fail
        refine ret3c rfl w.heap.size _ _ rfl rfl (row_set (row_set b6 0 _) 1 _) ?_
        refine ⟨?_, ?_⟩
        · exact ((hbw6.setCell (p := ⟨w.heap.size, 0, none⟩) (Nat.le_refl _) _).setCell (p := ⟨w.heap.size, 1, none⟩) (Nat.le_refl _) _).drew
        · rw [hA]
          rfl
    · by_cases hj : j = L.length
      · rw [if_pos hj] at hG
        have hbare := rSaga_bare hG
        have hsz := rSaga_sz hG
        have hbig := bigL_eq t hbare
        have hjf : decide ((j : Int) < (toks.length : Int)) = false := by simp; omega
        have hjn : ¬ (j : Int) < (toks.length : Int) := by omega
        have HJ : Hid _ := hj
        clear hj
        have hL1 : L.length ≤ 65536 := by omega
        have hz6 : w1.heap.size ≤ w6.heap.size := hB16.size
        have hzw := hbw1.size
        have hg6l := (Array.getElem?_eq_some_iff.1 g6).1
        have M5 : Hid _ := rdepth_any x t _ w6 a c ht6 (by omega)
        have hdl := dep_le_sz t
        have hcl := cnt_le_sz t
        clear q0 r6
        go_wp2_with fail
        refine Calls.mono M5.out ?_
        rintro e w7 ⟨rfl, hb7⟩
        have b7 := (hb7.block _ (by omega)).trans b6
        have g7 := (hb7.block _ hg6l).trans g6
        have hbw7 : Below w.heap.size w w7 := hbw6.trans (hb7.mono (by omega))
        have hB17 : Below w1.heap.size w1 w7 := hB16.trans (hb7.mono hz6)
        have ht7 := ht6.below hb7
        have p07 := (cell_row b7 0).trans rfl
        have p17 := (cell_row b7 1).trans rfl
        have pf7 := froz_row b7
        have u07 := (cell_row g7 0).trans rfl
        have u17 := (cell_row g7 1).trans rfl
        clear M5 b6 g6 hbw6 hB16 ht6 p0 p1 pf u0 u1' q1 q2
        have hz7 := hb7.size
        clear hb7
        by_cases hd : 70 < t.dep + 1
        · have hdi : (70 : Int) < ((t.dep + 1 : Nat) : Int) := by omega
          obtain ⟨t0, ht0⟩ : ∃ t0, toks[0]? = some t0 := ⟨_, List.getElem?_eq_getElem (by omega)⟩
          obtain ⟨tb, toff, rfl, _, _, d2⟩ := htc 0 t0 ht0
          have hA : A = .bad t0.at_ 5 := by
            rw [HA.out]
            unfold rAns
            rw [if_neg (by simp)]
            rw [show toks.map (·.text) = L from HLx.out.symm, hG]
            have hbg : bigL (fltn 1 t) = true := by rw [hbig]; simp; omega
            simp only [hbg, if_true, atOf, ht0]
          have d2' := cell_later hB17 d2
          have hl0 : (0 : Int) < (toks.length : Int) := by omega
          simp only [Nat.zero_mul, Nat.add_zero] at d2'
          go_wp2_with fail
          go_region
          go_wp2_with fail
          refine ret3c rfl w.heap.size _ _ rfl rfl (row_set (row_set b7 0 _) 1 _) ?_
          refine ⟨?_, ?_⟩
          · exact ((hbw7.setCell (p := ⟨w.heap.size, 0, none⟩) (Nat.le_refl _) _).setCell (p := ⟨w.heap.size, 1, none⟩) (Nat.le_refl _) _).drew
          · rw [hA]
            rfl
        · have hdi : decide ((70 : Int) < ((t.dep + 1 : Nat) : Int)) = false := by simp; omega
          have hdn : ¬ (70 : Int) < ((t.dep + 1 : Nat) : Int) := by omega
          have M6 : Hid _ := rcount_any x t _ w7 a c ht7 (by omega)
          go_wp2_with fail
          refine Calls.mono M6.out ?_
          rintro e w8 ⟨rfl, hb8⟩
          have b8 := (hb8.block _ (by omega)).trans b7
          have g8 := (hb8.block _ (by omega)).trans g7
          have hbw8 : Below w.heap.size w w8 := hbw7.trans (hb8.mono (by omega))
          have hB18 : Below w1.heap.size w1 w8 := hB17.trans (hb8.mono (by omega))
          have ht8 := ht7.below hb8
          have p08 := (cell_row b8 0).trans rfl
          have p18 := (cell_row b8 1).trans rfl
          have pf8 := froz_row b8
          have u08 := (cell_row g8 0).trans rfl
          have u18' := (cell_row g8 1).trans rfl
          have hg8l := (Array.getElem?_eq_some_iff.1 g8).1
          clear M6 b7 g7 hbw7 hB17 ht7 p07 p17 pf7 u07 u17 hb8
          by_cases hc : 1000 < t.cnt
          · have hci : (1000 : Int) < (t.cnt : Int) := by omega
            obtain ⟨t0, ht0⟩ : ∃ t0, toks[0]? = some t0 := ⟨_, List.getElem?_eq_getElem (by omega)⟩
            obtain ⟨tb, toff, rfl, _, _, d2⟩ := htc 0 t0 ht0
            have hA : A = .bad t0.at_ 5 := by
              rw [HA.out]
              unfold rAns
              rw [if_neg (by simp)]
              rw [show toks.map (·.text) = L from HLx.out.symm, hG]
              have hbg : bigL (fltn 1 t) = true := by rw [hbig]; simp; omega
              simp only [hbg, if_true, atOf, ht0]
            have d2' := cell_later hB18 d2
            have hl0 : (0 : Int) < (toks.length : Int) := by omega
            simp only [Nat.zero_mul, Nat.add_zero] at d2'
            go_wp2_with fail
            go_region
            go_wp2_with fail
            refine ret3c rfl w.heap.size _ _ rfl rfl (row_set (row_set b8 0 _) 1 _) ?_
            refine ⟨?_, ?_⟩
            · exact ((hbw8.setCell (p := ⟨w.heap.size, 0, none⟩) (Nat.le_refl _) _).setCell (p := ⟨w.heap.size, 1, none⟩) (Nat.le_refl _) _).drew
            · rw [hA]
              rfl
          · have hci : decide ((1000 : Int) < (t.cnt : Int)) = false := by simp; omega
            have hcn : ¬ (1000 : Int) < (t.cnt : Int) := by omega
            have hA : A = .good x t := by
              rw [HA.out]
              unfold rAns
              rw [if_neg (by simp)]
              rw [show toks.map (·.text) = L from HLx.out.symm, hG]
              have hbg : bigL (fltn 1 t) = false := by rw [hbig]; simp; omega
              simp only [hbg, Bool.false_eq_true, if_false]
            go_wp2_with fail
            refine ret3c rfl w.heap.size _ _ rfl rfl (row_set (row_set b8 0 _) 1 _) ?_
            refine ⟨?_, ?_⟩
            · exact (hbw8.setCell (p := ⟨w.heap.size, 0, none⟩) (Nat.le_refl _) _).setCell (p := ⟨w.heap.size, 1, none⟩) (Nat.le_refl _) _
            · rw [hA]
              refine ⟨_, rfl, a, c, rfl, ?_⟩
              exact (ht8.keep (Q := fun b => w4.heap.size < b) (Keeps.setCell _ _ (by omega)) (fun _ h _ => h) _ _ _ _ _).keep (Keeps.setCell _ _ (by omega)) (fun b h _ => by omega) _ _ _ _ _
      · rw [if_neg hj] at hG
        have hjl : j < toks.length := by omega
        obtain ⟨t0, ht0⟩ : ∃ t0, toks[j]? = some t0 := ⟨_, List.getElem?_eq_getElem hjl⟩
        obtain ⟨tb, toff, rfl, _, _, d2⟩ := htc j t0 ht0
        have hA : A = .bad t0.at_ 10 := by
          rw [HA.out]
          unfold rAns
          rw [if_neg (by simp)]
          rw [show toks.map (·.text) = L from HLx.out.symm, hG]
          simp only [atOf, ht0]
        have d2' := cell_later hB16 d2
        have hji : (j : Int) < (toks.length : Int) := by omega
        have hjne : ((j : Int) == (toks.length : Int)) = false := by simp; omega
        go_wp2_with fail
        go_region
        go_wp2_with fail
        refine ret3c rfl w.heap.size _ _ rfl rfl (row_set (row_set b6 0 _) 1 _) ?_
        refine ⟨?_, ?_⟩
        · exact ((hbw6.setCell (p := ⟨w.heap.size, 0, none⟩) (Nat.le_refl _) _).setCell (p := ⟨w.heap.size, 1, none⟩) (Nat.le_refl _) _).drew
        · rw [hA]
          rfl
  · have hA : A = .bad place err := by rw [HA.out]; simp [rAns, he]
    have hne : (err != 0) = true := by simp [he]
    go_wp2_with fail
    refine ret3c rfl w.heap.size _ _ rfl rfl (row_set (row_set b1 0 _) 1 _) ?_
    refine ⟨?_, ?_⟩
    · exact (hbw1.setCell (p := ⟨w.heap.size, 0, none⟩) (Nat.le_refl _) _).setCell (p := ⟨w.heap.size, 1, none⟩) (Nat.le_refl _) _
    · rw [hA]
      rfl
end Go.Proofs.Ytlmfmgpamhhncaa

