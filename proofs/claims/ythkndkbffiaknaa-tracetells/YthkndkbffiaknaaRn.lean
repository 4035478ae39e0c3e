/- TraceLeft's walk. -/
import Derived.Test.YthkndkbffiaknaaRl
import Derived.Lib.AppendZeros
namespace Go.Proofs.Ythkndkbffiaknaa.Tz
open Go.RowKit Go.Shelf Go.Proofs.Ythkndkbffiaknaa
set_option maxRecDepth 1000000
set_option linter.unusedVariables false

/-- All effects of a slice behind none. -/
theorem run_append_es (t ty : TypeId) (ht : Try.prog.underlying t = some (.slice 37)) {w : World} {g n c : Nat} {a : Option Addr} {L : List Ef} (h : RE w (.slice a n c) L) (h1 : 1 ≤ L.length) (hl : L.length ≤ 1000000) :
    ∃ ad cp w', (Builtin.append_ #[t, t] ty #[.slice (some ⟨g, 0, none⟩) 0 0, .slice a n c]).run Try.prog w = .ok (.slice ad L.length cp) w' ∧ OwE w' (.slice ad L.length cp) L ∧ Below w.heap.size w w' ∧ (Value.slice ad L.length cp).ownBlock = some w.heap.size := by
  obtain ⟨i0, hi, hz0, hz1, hz2⟩ := info_parts Try.info37
  obtain ⟨a', c', e, _, _, hc⟩ := h
  simp only [Value.slice.injEq] at e
  obtain ⟨rfl, rfl, rfl⟩ := e
  have h0 : L[0]? = some (L.getD 0 default) := by simp [List.getD, show 0 < L.length by omega]
  obtain ⟨_, b, off, ha, _⟩ := hc 0 _ h0
  subst ha
  have hone : ∀ u ∈ erows L, u.oneCell' = true := by
    intro u hu
    unfold erows at hu
    rw [List.mem_flatMap] at hu
    obtain ⟨p, _, hp⟩ := hu
    simp only [erow, List.mem_cons, List.not_mem_nil, or_false] at hp
    rcases hp with rfl | rfl | rfl | rfl <;> rfl
  have hsrc : Src Try.prog i0.size t (.slice (some ⟨b, off, none⟩) L.length c) L.length (erows L) w :=
    Src.ofSlice w ht ⟨b, off, none⟩ L.length c (erows L) (by rw [hz1, erows_len]) (fun j u hu => by
      have hj : j < L.length * 4 := by rw [← erows_len]; exact (List.getElem?_eq_some_iff.1 hu).1
      obtain ⟨q, hq⟩ : ∃ q, L[j / 4]? = some q := ⟨_, List.getElem?_eq_getElem (by omega)⟩
      have e : j = j / 4 * 4 + j % 4 := by omega
      obtain ⟨_, b', off', hb', c0, c1, c2, c3⟩ := hc (j / 4) q hq
      simp only [Option.some.injEq, Addr.mk.injEq, and_true] at hb'
      obtain ⟨rfl, rfl⟩ := hb'
      rw [add_at]
      rw [e, erows_get L (j / 4) q hq (j % 4) (by omega)] at hu
      have h4 : j % 4 < 4 := by omega
      have e2 : off + j = off + j / 4 * 4 + j % 4 := by omega
      rw [e2]
      generalize j % 4 = r at hu h4
      match r, h4, hu with
      | 0, _, hu => simp [erow] at hu; subst hu; exact c0
      | 1, _, hu => simp [erow] at hu; subst hu; exact c1
      | 2, _, hu => simp [erow] at hu; subst hu; exact c2
      | 3, _, hu => simp [erow] at hu; subst hu; exact c3) hone
  have hold : (Builtin.firstCells i0.size 0 (.slice (some ⟨g, 0, none⟩) 0 0)).run Try.prog w.drew = .ok ([] : List Value).toArray w.drew := run_firstCells_some w.drew i0.size 0 ⟨g, 0, none⟩ 0 0 [] (by simp) (fun j u hu => by simp at hu)
  have hr := run_append_grow_src (P := Try.prog) w t t ty 37 i0 _ ht hi hz0 (some ⟨g, 0, none⟩) 0 0 [] hold _ L.length (erows L) hsrc (by omega) (by omega) (growslice_fits (by omega) (by rw [hz2]; omega))
  rw [Nat.zero_add] at hr
  refine ⟨_, _, _, hr, .inr ⟨w.heap.size, _, _, rfl, ?_, ?_, heap_alloc_new w.drew _, ?_, ?_⟩, ⟨rfl, rfl, rfl, by simp, fun k hk => heap_alloc_old w.drew _ hk⟩, rfl⟩
  · exact grownCap_ge _ _ _ _
  · exact grownCap_le_maxLen _ _ _ _ (by unfold maxLen; omega)
  · have := grownCap_ge w L.length 0 37
    simp only [List.nil_append, Array.size_append, List.size_toArray, erows_len, size_zeroCells]
    have e6 : (EV ⟨0, false, 0, false⟩).cells.size = 4 := rfl
    rw [e6]
    omega
  · intro i q hq j hj
    rw [List.nil_append, Array.getElem?_append_left]
    · rw [List.getElem?_toArray]
      exact erows_get _ i q hq j hj
    · have := (List.getElem?_eq_some_iff.1 hq).1
      simp only [List.size_toArray, erows_len]
      omega

set_option maxHeartbeats 16000000 in
theorem left_walk (a : Option Addr) (n c : Nat) (l : List Ef) (z : Int) (w : World) (h : RE w (.slice a n c) l) (hz : (Lit.int .i64 z).wf = true) : Calls Try.prog 5 #[.slice a n c, .int .i64 z] w fun e w' => e = .returned (.bool true) ∧ Below w.heap.size w w' := by
  have hn : n = l.length := by obtain ⟨a', c', e, _⟩ := h; exact (Value.slice.inj e).2.1
  have HN : Hid (l.length = n) := hn.symm
  have HL : Hid (∀ wx, Calls Try.prog 6 #[] wx fun e w' => e = .returned (.bool true) ∧ Below wx.heap.size wx w') := lives_any
  have HZ : Hid _ := hz
  by_cases hbig : (150 : Int) < (n : Int)
  · clear h hn hz
    go_enter Try.func5, Try.ntmps5
    go_wp2_with fail
    refine Calls.mono (HL.out _) ?_
    rintro e w2 ⟨rfl, hb2⟩
    have HB2 : Hid _ := hb2
    clear hb2
    go_wp2_with fail
    go_ret
    exact ⟨rfl, HB2.out⟩
  · have HS : Hid (l.length ≤ 1000000 ∧ l.length ≤ 150) := by show _ ∧ _; rw [HN.out]; omega
    have HRE : Hid (∀ wx, Below w.heap.size w wx → RE wx (.slice a n c) l) := fun wx hb => h.later hb
    have HLA : Hid _ := left_any l _ HS.out.1 w h
    clear h hn hz
    go_enter Try.func5, Try.ntmps5
    go_wp2_with fail
    refine Calls.mono HLA.out ?_
    rintro e w1 ⟨rv, out, rfl, hri, hso, hme, hb1⟩
    have hlen9 : out.length ≤ 150 := by
      have hs : out ⊆ l.map Ef.i := fun x hx => by
        obtain ⟨⟨e, he, h1, _⟩, _⟩ := (hme x).1 hx
        exact List.mem_map.2 ⟨e, he, h1⟩
      have := List.Nodup.length_le_of_subset (rising_nodup hso) hs
      have := HS.out
      rw [List.length_map] at *
      omega
    obtain ⟨ra, rc, hrs, _⟩ := id hri
    subst hrs
    obtain ⟨m, hm⟩ : ∃ m, out.length = m := ⟨_, rfl⟩
    have HM : Hid (out.length = m) := hm
    rw [hm] at hri ⊢
    have HRI : Hid (∀ wx, Below w1.heap.size w1 wx → RI wx (.slice ra m rc) out) := fun wx hb => hri.later hb
    have HSO : Hid (out.Pairwise (· < ·) ∧ ∀ x, x ∈ out ↔ leftP l x) := ⟨hso, hme⟩
    have HB1 : Hid (Below w.heap.size w w1) := hb1
    have hm150 : (m : Int) ≤ 150 := by omega
    clear hri hso hme hb1 HLA hm hlen9
    go_wp2_with fail
    go_loopw [6] (fun s6 wr => ∃ (i : Nat), s6 = .int .i64 i ∧ 1 ≤ i ∧ (i ≤ m ∨ i = 1) ∧ Hid (Below w1.heap.size w1 wr)) (fun s6 _ => m + 1 - (intOf s6).toNat)
    case atStart => exact ⟨1, rfl, Nat.le_refl _, .inr rfl, Below.refl _ _⟩
    case round =>
      obtain ⟨i, rfl, hi1, him, HB⟩ := hrel
      rename World => wr
      by_cases hlt : i < m
      · obtain ⟨ra', rc', hrs, _, _, hc⟩ := HRI.out wr HB.out
        simp only [Value.slice.injEq] at hrs
        obtain ⟨hra9, hm9, hrc9⟩ := hrs
        clear hm9
        subst hra9
        subst hrc9
        obtain ⟨b, off, ha, y0⟩ := hc (i - 1) (by have := HM.out; omega)
        obtain ⟨b', off', ha', y1⟩ := hc i (by have := HM.out; omega)
        subst ha
        simp only [Option.some.injEq, Addr.mk.injEq, and_true] at ha'
        obtain ⟨rfl, rfl⟩ := ha'
        have hxy : out.getD (i - 1) 0 < out.getD i 0 := by
          have h1 : i - 1 < out.length := by have := HM.out; omega
          have h2 : i < out.length := by have := HM.out; omega
          rw [List.getD_eq_getElem?_getD, List.getElem?_eq_getElem h1, List.getD_eq_getElem?_getD, List.getElem?_eq_getElem h2]
          exact List.pairwise_iff_getElem.1 HSO.out.1 (i - 1) i h1 h2 (by omega)
        obtain ⟨x, hx⟩ : ∃ x, out.getD (i - 1) 0 = x := ⟨_, rfl⟩
        obtain ⟨y, hy⟩ : ∃ y, out.getD i 0 = y := ⟨_, rfl⟩
        rw [hx] at y0 hxy
        rw [hy] at y1 hxy
        obtain ⟨i9, hi9⟩ : ∃ q, q = i - 1 := ⟨_, rfl⟩
        rw [← hi9] at y0
        obtain rfl : i = i9 + 1 := by omega
        have hii : ((i9 : Int) + 1) < (m : Int) := by omega
        have hii9 : (i9 : Int) < (m : Int) := by omega
        have hge : ¬ y ≤ x := by omega
        have e9 : ((i9 + 1 : Nat) : Int) = (i9 : Int) + 1 := by omega
        clear hc hx hy hi9 hi1 him hlt
        rw [e9]
        go_wp2_with fail
        go_region
        have HB2 : Hid (Below w1.heap.size w1 wr.drew) := HB.out.drew
        clear y0 y1
        go_wp2_with fail
        go_roundw
        case rel => exact ⟨i9 + 1 + 1, by go_num, by omega, .inl (by omega), HB2⟩
        case measure => simp [intOf] <;> omega
      · by_cases hm0 : m = 0
        · subst hm0
          have e9 : ¬ (i : Int) < 0 := by omega
          clear hlt him
          go_wp2_with fail
          refine Calls.mono (HL.out _) ?_
          rintro e w2 ⟨rfl, hb2⟩
          have HB2 : Hid (Below w.heap.size w w2) := by
            have h1 := HB1.out.trans (HB.out.mono HB1.out.size)
            exact h1.trans (hb2.mono h1.size)
          clear hb2
          go_wp2_with fail
          go_ret
          exact ⟨rfl, HB2.out⟩
        · have hmi : ¬ (i : Int) < (m : Int) := by omega
          have hm1 : ¬ (m : Int) = 0 := by omega
          -- which of them
          obtain ⟨idx, hidx, him⟩ : ∃ idx : Nat, wrap64 ((IntKind.u64.wrap z).tmod (m : Int)) = (idx : Int) ∧ idx < m := by
            have h0 : 0 ≤ IntKind.u64.wrap z := by rw [IntKind.wrap_u64]; omega
            have h1 : (IntKind.u64.wrap z).tmod (m : Int) = (IntKind.u64.wrap z) % (m : Int) := Int.tmod_eq_emod_of_nonneg h0
            have h2 : 0 ≤ (IntKind.u64.wrap z) % (m : Int) := Int.emod_nonneg _ (by omega)
            have h3 : (IntKind.u64.wrap z) % (m : Int) < m := Int.emod_lt_of_pos _ (by omega)
            refine ⟨((IntKind.u64.wrap z) % (m : Int)).toNat, ?_, by omega⟩
            rw [h1, Go.IntWalk.wrap64_in _ (by omega)]
            omega
          have hidm : (idx : Int) < (m : Int) := by omega
          obtain ⟨ra', rc', hrs, _, _, hc⟩ := HRI.out wr HB.out
          simp only [Value.slice.injEq] at hrs
          obtain ⟨hra9, hm9, hrc9⟩ := hrs
          clear hm9
          subst hra9
          subst hrc9
          obtain ⟨b, off, ha, y0⟩ := hc idx (by have := HM.out; omega)
          subst ha
          obtain ⟨k, hk⟩ : ∃ k, out.getD idx 0 = k := ⟨_, rfl⟩
          have HKM : Hid (k ∈ out) := by
            have h1 : idx < out.length := by have := HM.out; omega
            rw [← hk, List.getD_eq_getElem?_getD, List.getElem?_eq_getElem h1]
            exact List.getElem_mem h1
          rw [hk] at y0
          clear hc hk
          clear hlt him hi1
          -- the trace, and the step undone behind it
          have hBw : Below w.heap.size w wr := HB1.out.trans (HB.out.mono HB1.out.size)
          have HBw : Hid _ := hBw
          have hl1 : 1 ≤ l.length := by
            have h1 := HKM.out
            have h2 := ((HSO.out.2 k).1 h1).1
            obtain ⟨e, he, _⟩ := h2
            exact List.length_pos_of_mem he
          obtain ⟨ad, cp, w7, hrun1, how7, hb7, hob7⟩ := run_append_es 22 22 Try.underlying22 (g := wr.heap.size) ((HRE.out wr hBw).later (bl1 wr (.cells #[] 37))) hl1 HS.out.1
          have hnb : (w7.alloc (.cells #[.int .i64 k, .bool true, .int .i64 9, .bool true] 37)).heap[w7.heap.size]? = some (.cells (erow ⟨k, true, 9, true⟩).toArray 37 (0, 0)) := heap_alloc_new _ _
          obtain ⟨ad8, cp8, w8, hrun2, how8, hgr8, hob8⟩ := run_append_e 22 22 Try.underlying22 (how7.later (bl1 w7 (.cells #[.int .i64 k, .bool true, .int .i64 9, .bool true] 37))) ⟨k, true, 9, true⟩ hnb (fun e => by have := how7.lt _ e; omega) (by have := HS.out.1; omega)
          have hkw : wfK (k, true, 9) := by
            obtain ⟨⟨e, he, h1, _⟩, _⟩ := (HSO.out.2 k).1 HKM.out
            have h2 := (HRE.out w (Below.refl _ _)).wf e he
            exact ⟨h1 ▸ h2.1, wf_small (i := 9) (by decide) (by decide)⟩
          have hre8 : RE w8 (.slice ad8 (l.length + 1) cp8) (l ++ [⟨k, true, 9, true⟩]) := how8.re (fun e he => by
            rcases List.mem_append.1 he with he | he
            · exact (HRE.out w (Below.refl _ _)).wf e he
            · simp at he
              subst he
              exact hkw)
          have hb78 : Below wr.heap.size wr w8 := by
            have h1 : Below wr.heap.size wr w7 := (bl1 wr (.cells #[] 37)).trans (hb7.mono (by simp))
            have h2 := h1.trans ((bl1 w7 (.cells #[.int .i64 k, .bool true, .int .i64 9, .bool true] 37)).mono h1.size)
            refine h2.grown hgr8 h2.size (fun g hg => ?_)
            rw [hob7] at hg
            cases hg
            simp
          have HB8 : Hid (Below w.heap.size w w8 ∧ Below w1.heap.size w1 w8) := ⟨hBw.trans (hb78.mono hBw.size), HB.out.trans (hb78.mono HB.out.size)⟩
          have HLF : Hid _ := left_any (l ++ [⟨k, true, 9, true⟩]) _ (by rw [List.length_append]; have := HS.out.2; simp; omega) w8 hre8
          rw [HN.out] at hrun1 hrun2 HLF
          clear how7 how8 hb7 hob7 hnb hgr8 hob8 hre8 hb78 hBw hkw hl1
          go_wp2_with (first | (at_builtin; refine Lib.wpList_append_run _ rfl _ _ _ _ rfl _ _ rfl rfl _ _ hrun1 ?_) | (at_builtin; refine Lib.wpList_append_run _ rfl _ _ _ _ rfl _ _ rfl rfl _ _ hrun2 ?_))
          refine Calls.mono HLF.out ?_
          rintro e w9 ⟨rv9, out9, rfl, hri9, hso9, hme9, hb9⟩
          obtain ⟨hlen, hno⟩ := left_now HSO.out.1 hso9 HSO.out.2 hme9 HKM.out
          obtain ⟨ra9, rc9, hrs9, _⟩ := id hri9
          subst hrs9
          obtain ⟨m9, hm9⟩ : ∃ q, out9.length = q := ⟨_, rfl⟩
          have hmm : (m9 : Int) = (m : Int) - 1 := by have := HM.out; omega
          have HI9 : Hid _ := in_any k out9 _ w9 hri9 (by have := HM.out; have := hm150; omega)
          rw [decide_eq_false hno, hm9] at HI9
          rw [hm9]
          have HB9 : Hid (Below w.heap.size w w9) := HB8.out.1.trans (hb9.mono HB8.out.1.size)
          clear hri9 hso9 hme9 hb9 hlen hno hm9 HLF hrun1 hrun2 y0
          go_wp2_with fail
          refine Calls.mono HI9.out ?_
          rintro e wa ⟨rfl, hba⟩
          have HBa : Hid (Below w.heap.size w wa) := HB9.out.trans (hba.mono HB9.out.size)
          clear hba HI9
          go_wp2_with fail
          refine Calls.mono (HL.out _) ?_
          rintro e wb ⟨rfl, hbb⟩
          have HBb : Hid (Below w.heap.size w wb) := HBa.out.trans (hbb.mono HBa.out.size)
          clear hbb
          go_wp2_with fail
          go_ret
          exact ⟨rfl, HBb.out⟩
end Go.Proofs.Ythkndkbffiaknaa.Tz
