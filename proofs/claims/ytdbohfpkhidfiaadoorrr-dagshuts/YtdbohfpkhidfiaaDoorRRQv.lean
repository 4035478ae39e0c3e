/- The law DagShuts. -/
import Derived.Test.YtdbohfpkhidfiaaDoorRRPg
import Derived.Test.YtdbohfpkhidfiaaDoorRRQr
import Derived.Test.YtdbohfpkhidfiaaDoorRRQt
namespace Go.Proofs.YtdbohfpkhidfiaaDoorRR
open Go.RowKit

/-- 'append' onto a row of the call's own, as one step of a region that draws its order. -/
theorem step_append_own {P : Program} {ops : Array Oper} {o : Oper} {a : Act} {w : World} {K : Act → World → Prop} {Q : Exit → Act → World → Prop} {E : Prop}
    (hg : o.guard = none) (s x : Operand) (t : TypeId) (hop : o.op = Op.call { callee := Callee.builtin Builtin.append, args := #[s, x], argTypes := #[t, t] })
    (base : Nat) (e : TypeId) (i : TypeInfo) (z : Value) (size bytes : Nat) (h1 : P.underlying t = some (.slice e)) (h2 : P.info? e = some i) (h3 : i.zero = some z) (h4 : i.size = size) (h5 : i.bytes = bytes) (h6 : z.cells.size = size) (h7 : 0 < size)
    (v : Value) (n : Nat) (xs : List Value) (hs : a.eval s = v) (hown : w.ownsRow base e size v n xs)
    (ad : Addr) (m c : Nat) (news : List Value) (hx : a.eval x = .slice (some ad) m c) (hl : news.length = m * size) (hnews : ∀ j u, news[j]? = some u → w.cell? (ad.add j) = some u) (h1c : ∀ u ∈ news, u.oneCell' = true)
    (b1 : n + m ≤ maxLen) (b2 : (n + m) * bytes ≤ 140737488355328) (b3 : base ≤ w.heap.size)
    (hK : ∀ v' w', w'.ownsRow base e size v' (n + m) (xs ++ news) → w.grownBy w' v.ownBlock → (v'.ownBlock = v.ownBlock ∨ v'.ownBlock = some w.heap.size) → K (a.put o.dst v') w') :
    if Region.wanted o (yielded ops a.tmps) = true then Oper.wp P o a w K Q else E := by
  have hw : Region.wanted o (yielded ops a.tmps) = true := by simp [Region.wanted, hg]
  rw [if_pos hw]
  obtain ⟨v', w', hrun, r1, r2, _, r4⟩ := run_append_own_at (P := P) w base t o.type e i z size bytes h1 h2 h3 h4 h5 h6 h7 v n xs hown ad m c news hl hnews h1c b1 b2 b3
  unfold Oper.wp
  simp [execOp, hop, resolve, invoke, builtin, hs, hx, hrun, Result.andThen]
  exact hK v' w' r1 r2 r4

theorem reachL_short {W o : List Nat} : ∀ x ∈ reachL W o, x.length ≤ 100000 := by
  intro x hx
  obtain ⟨y, _, rfl⟩ := List.mem_map.1 hx
  have := bitsOf_len y
  omega

theorem avs_one' (l : List (Int × Int)) : ∀ u ∈ avs l, u.oneCell' = true := by
  induction l with
  | nil => intro u hu; cases hu
  | cons t l ih =>
    intro u hu
    simp only [avs] at hu
    rcases List.mem_append.1 hu with hu | hu
    · simp [av] at hu
      rcases hu with rfl | rfl <;> rfl
    · exact ih u hu

theorem RdA.cells {w : World} {b off n cap : Nat} {l : List (Int × Int)} (h : RdA w (.slice (some ⟨b, off, none⟩) n cap) l) : ∀ j u, (avs l)[j]? = some u → w.cell? ⟨b, off + j, none⟩ = some u := by
  intro j u hj
  obtain ⟨a, c, he, _, _, hr⟩ := h
  cases he
  have hjl : j < l.length * 2 := by have := (List.getElem?_eq_some_iff.1 hj).1; rwa [avs_len] at this
  obtain ⟨t, ht⟩ : ∃ t, l[j / 2]? = some t := ⟨_, List.getElem?_eq_getElem (by omega)⟩
  obtain ⟨b', o', hb, c0, c1⟩ := hr (j / 2) t ht
  simp only [Option.some.injEq, Addr.mk.injEq] at hb
  obtain ⟨rfl, rfl, _⟩ := hb
  rcases Nat.mod_two_eq_zero_or_one j with hm | hm
  · have e : j = j / 2 * 2 + 0 := by omega
    rw [e, avs_at l (j / 2) 0 t ht (by omega)] at hj
    rw [e]
    simp [av] at hj
    rw [← hj]
    exact c0
  · have e : j = j / 2 * 2 + 1 := by omega
    rw [e, avs_at l (j / 2) 1 t ht (by omega)] at hj
    rw [e]
    simp [av] at hj
    rw [← hj, ← Nat.add_assoc]
    exact c1

theorem avs_cut (l : List (Int × Int)) (i : Nat) : avs l = avs (l.take i) ++ avs (l.drop i) := by rw [← avs_append, List.take_append_drop]

theorem add_plain' (b off j : Nat) : (⟨b, off, none⟩ : Addr).add j = ⟨b, off + j, none⟩ := by unfold Addr.add; split <;> simp_all

theorem RdA.front {w : World} {b off n cap : Nat} {l : List (Int × Int)} (h : RdA w (.slice (some ⟨b, off, none⟩) n cap) l) (i : Nat) : ∀ j u, (avs (l.take i))[j]? = some u → w.cell? ((⟨b, off, none⟩ : Addr).add j) = some u := by
  intro j u hj
  rw [add_plain']
  refine h.cells j u ?_
  rw [avs_cut l i, List.getElem?_append_left (List.getElem?_eq_some_iff.1 hj).1]
  exact hj

theorem RdA.back {w : World} {b off n cap : Nat} {l : List (Int × Int)} (h : RdA w (.slice (some ⟨b, off, none⟩) n cap) l) (i : Nat) (hi : i ≤ l.length) : ∀ j u, (avs (l.drop i))[j]? = some u → w.cell? ((⟨b, off + i * 2, none⟩ : Addr).add j) = some u := by
  intro j u hj
  rw [add_plain', Nat.add_assoc]
  refine h.cells _ u ?_
  have hl : (avs (l.take i)).length = i * 2 := by rw [avs_len, List.length_take]; omega
  rw [avs_cut l i, List.getElem?_append_right (by omega), hl, show i * 2 + j - i * 2 = j by omega]
  exact hj

theorem pick_lt (kk : Int) (q : Nat) (h0 : 0 < q) (hq : q ≤ 4096) : ∃ ii : Nat, ii < q ∧ wrap64 ((IntKind.u64.wrap kk).tmod (q : Int)) = (ii : Int) := by
  have h1 : 0 ≤ IntKind.u64.wrap kk := by rw [IntKind.wrap_u64]; omega
  have h2 : 0 ≤ (IntKind.u64.wrap kk).tmod (q : Int) := Int.tmod_nonneg _ h1
  have h3 : (IntKind.u64.wrap kk).tmod (q : Int) < (q : Int) := Int.tmod_lt_of_pos _ (by omega)
  refine ⟨((IntKind.u64.wrap kk).tmod (q : Int)).toNat, by omega, ?_⟩
  rw [Int.toNat_of_nonneg h2]
  generalize (IntKind.u64.wrap kk).tmod (q : Int) = z at *
  unfold wrap64
  omega

set_option maxRecDepth 1000000 in
set_option maxHeartbeats 4000000 in
theorem shuts_any (n kk : Int) (v : Value) (l : List (Int × Int)) (w : World) (hl : RdA w v l) (hT : Tab w) :
    Calls Tryd.prog 4 #[.int .i64 n, v, .int .i64 kk] w fun e w' => e = .returned (.bool true) ∧ Below w.heap.size w w' := by
  have HT : Hid (Tab w) := hT
  have HA : Hid (RdA w v l) := hl
  have ML : Hid (∀ w1, Below w.heap.size w w1 → Calls Tryd.prog 8 #[] w1 fun e w' => e = .returned (.bool true) ∧ Below w.heap.size w w') := fun w1 hb => (lives_any w1 (hT.later hb)).mono fun e w' h => ⟨h.1, hb.trans (h.2.mono hb.size)⟩
  obtain ⟨a, cap, rfl, _⟩ := hl
  clear hT
  obtain ⟨i0, hi0, hz0, hz1, hz2⟩ := info_parts Tryd.info46
  have MF : Hid _ := few_any l.length cap a w
  cases hF : fewP l.length with
  | false =>
    rw [hF] at MF
    go_enter Tryd.func4, Tryd.ntmps4
    go_wp2_with fail
    refine Calls.mono MF.out ?_
    rintro e w1 ⟨rfl, rfl⟩
    go_wp2_with fail
    refine Calls.mono (ML.out _ (Below.refl _ _)) ?_
    rintro e w2 ⟨rfl, hb⟩
    have HB : Hid _ := hb
    go_wp2_with fail
    go_ret
    exact ⟨rfl, HB.out⟩
  | true =>
    rw [hF] at MF
    have MO : Hid (Calls Tryd.prog 13 #[.int .i64 n, .slice a l.length cap] w fun e w' => RedC n l w e w') := Reduce_any n _ l w HA.out HT.out
    unfold RedC at MO
    cases hP : weaveP n l with
    | bad c =>
      rw [hP] at MO
      have hc : ((c == 0)) = false := by rcases weaveP_code hP with rfl | rfl <;> rfl
      go_enter Tryd.func4, Tryd.ntmps4
      go_wp2_with fail
      refine Calls.mono MF.out ?_
      rintro e w1 ⟨rfl, rfl⟩
      go_wp2_with fail
      refine Calls.mono MO.out ?_
      rintro e w2 ⟨hb, rfl⟩
      have HB : Hid _ := hb
      clear hb
      go_wp2_with fail
      refine Calls.mono (ML.out _ HB.out) ?_
      rintro e w3 ⟨rfl, hb⟩
      have HB2 : Hid _ := hb
      go_wp2_with fail
      go_ret
      exact ⟨rfl, HB2.out⟩
    | ok W o =>
      rw [hP] at MO
      obtain ⟨⟨hn0, hn64⟩, _, _, _, hWl, hOk, hol⟩ := weave_facts hP
      obtain ⟨m, rfl⟩ : ∃ m : Nat, n = (m : Int) := ⟨n.toNat, by omega⟩
      obtain ⟨hm, hFl, hFs, ⟨o', hP2, hR2, hA2⟩, hEr⟩ := shut_all hP
      simp only [Int.toNat_natCast] at MO
      have HPP : Hid (weaveP (m : Int) l = .ok W o) := hP
      have HSh : Hid (∀ (X Y : List Nat), ∀ x ∈ reachL X Y, x.length ≤ 100000) := fun X Y => reachL_short
      generalize needP W (reachP W o) = NW at *
      have HP2 : Hid _ := hP2
      have HA2 : Hid _ := hA2
      have HFs : Hid _ := hFs
      have HEr : Hid _ := hEr
      have HR2 : Hid (reachL NW o' = reachL W o) := hR2
      clear hn0 hn64 hWl hOk hol hP hP2 hA2 hFs hEr hR2
      generalize redP NW = FF at *
      obtain ⟨q, HQ⟩ : ∃ q, Hid (FF.length = q) := ⟨_, rfl⟩
      rw [HQ.out] at hFl MO
      go_enter Tryd.func4, Tryd.ntmps4
      go_wp2_with fail
      refine Calls.mono MF.out ?_
      rintro e w0 ⟨rfl, rfl⟩
      go_wp2_with fail
      refine Calls.mono MO.out ?_
      rintro e w1 ⟨hb1, v1, rfl, hO1, _⟩
      have HB1 : Hid (Below w0.heap.size w0 w1) := hb1
      have HF1 : Hid (RdA w1 v1 FF) := RdA.of_own (B := w0.heap.size) (by rw [HQ.out]; exact hO1) HFs.out
      obtain ⟨a1, cap1, rfl, hc1⟩ : ∃ a1 cap1, v1 = .slice a1 q cap1 ∧ q ≤ cap1 := by
        obtain ⟨a1, cap1, h1, h2, _⟩ := HF1.out
        rw [HQ.out] at h1 h2
        exact ⟨a1, cap1, h1, h2⟩
      clear hb1 MO MF hO1
      go_wp2_with fail
      refine Calls.mono (Reach_any (m : Int) _ l w1 (HA.out.later HB1.out) (HT.out.later HB1.out)) ?_
      unfold ReachC
      rw [HPP.out]
      rintro e w2 ⟨hb2, v2, rfl, hI2, hl2⟩
      simp only [Int.toNat_natCast] at hl2
      have HB2 : Hid (Below w0.heap.size w0 w2) := HB1.out.trans (hb2.mono HB1.out.size)
      have HF2 : Hid (RdA w2 (.slice a1 q cap1) FF) := HF1.out.later hb2
      have HL2 : Hid (RdL w2 v2 (reachL W o)) := hI2
      have HLl : Hid _ := hl2
      obtain ⟨a2, cap2, rfl⟩ : ∃ a2 cap2, v2 = .slice a2 m cap2 := by
        obtain ⟨a2, cap2, h1, _⟩ := hI2
        rw [hl2] at h1
        exact ⟨a2, cap2, h1⟩
      clear hb2 HB1 HF1 hl2
      go_wp2_with fail
      refine Calls.mono (Reach_any (m : Int) _ FF w2 HF2.out (HT.out.later HB2.out)) ?_
      unfold ReachC
      rw [HP2.out]
      rintro e w3 ⟨hb3, v3, rfl, hI3, hl3⟩
      rw [HR2.out] at hI3
      have HB3 : Hid (Below w0.heap.size w0 w3) := HB2.out.trans (hb3.mono HB2.out.size)
      have HF3 : Hid (RdA w3 (.slice a1 q cap1) FF) := HF2.out.later hb3
      have HL3 : Hid (RdL w3 (.slice a2 m cap2) (reachL W o)) := HL2.out.later hb3
      have HI3 : Hid (RdL w3 v3 (reachL W o)) := hI3
      obtain ⟨a3, cap3, rfl⟩ : ∃ a3 cap3, v3 = .slice a3 m cap3 := by
        obtain ⟨a3, cap3, h1, _⟩ := hI3
        rw [HLl.out] at h1
        exact ⟨a3, cap3, h1⟩
      clear hb3 HB2 HF2 HL2 hl3
      go_wp2_with fail
      refine Calls.mono (Reduce_any (m : Int) _ FF w3 HF3.out (HT.out.later HB3.out)) ?_
      unfold RedC
      rw [HP2.out]
      dsimp only
      rw [HA2.out]
      rintro e w4 ⟨hb4, v4, rfl, hO4, _⟩
      have HB4 : Hid (Below w0.heap.size w0 w4) := HB3.out.trans (hb4.mono HB3.out.size)
      have HF4 : Hid (RdA w4 (.slice a1 q cap1) FF) := HF3.out.later hb4
      have HL4 : Hid (RdL w4 (.slice a2 m cap2) (reachL W o)) := HL3.out.later hb4
      have HI4 : Hid (RdL w4 (.slice a3 m cap3) (reachL W o)) := HI3.out.later hb4
      have HG4 : Hid (RdA w4 v4 FF) := RdA.of_own hO4 HFs.out
      obtain ⟨a4, cap4, rfl⟩ : ∃ a4 cap4, v4 = .slice a4 q cap4 := by
        obtain ⟨a4, cap4, h1, _⟩ := HG4.out
        rw [HQ.out] at h1
        exact ⟨a4, cap4, h1⟩
      clear hb4 HB3 HF3 HL3 HI3 hO4
      go_wp2_with fail
      have MS := sameL_any (reachL W o) (reachL W o) _ _ w4 HL4.out HI4.out (by rw [HLl.out]; omega) (by rw [HLl.out]; omega) (HSh.out W o) (HSh.out W o)
      rw [decide_eq_true (show reachL W o = reachL W o from rfl)] at MS
      refine Calls.mono MS ?_
      rintro e w5 ⟨rfl, hb5⟩
      have HB5 : Hid (Below w0.heap.size w0 w5) := HB4.out.trans (hb5.mono HB4.out.size)
      have HF5 : Hid (RdA w5 (.slice a1 q cap1) FF) := HF4.out.later hb5
      have HL5 : Hid (RdL w5 (.slice a2 m cap2) (reachL W o)) := HL4.out.later hb5
      have HG5 : Hid (RdA w5 (.slice a4 q cap4) FF) := HG4.out.later hb5
      clear hb5 MS HB4 HF4 HL4 HI4 HG4
      go_wp2_with fail
      have MS := sameA_any FF FF _ _ w5 HF5.out HG5.out (by rw [HQ.out]; omega) (by rw [HQ.out]; omega)
      rw [decide_eq_true (show FF = FF from rfl)] at MS
      refine Calls.mono MS ?_
      rintro e w6 ⟨rfl, hb6⟩
      have HB6 : Hid (Below w0.heap.size w0 w6) := HB5.out.trans (hb6.mono HB5.out.size)
      have HF6 : Hid (RdA w6 (.slice a1 q cap1) FF) := HF5.out.later hb6
      have HL6 : Hid (RdL w6 (.slice a2 m cap2) (reachL W o)) := HL5.out.later hb6
      clear hb6 MS HB5 HF5 HL5 HG5
      by_cases hq0 : q = 0
      · subst hq0
        go_wp2_with fail
        refine Calls.mono (ML.out _ HB6.out) ?_
        rintro e w7 ⟨rfl, hb⟩
        have HB7 : Hid _ := hb
        go_wp2_with fail
        go_ret
        exact ⟨rfl, HB7.out⟩
      · have hqf : ((q : Int) == 0) = false := by simp; omega
        obtain ⟨b1, f1, rfl⟩ : ∃ b1 f1, a1 = some ⟨b1, f1, none⟩ := by
          obtain ⟨_, _, h1, _, _, hr⟩ := HF6.out
          cases h1
          obtain ⟨b, off, hb, _⟩ := hr 0 _ (List.getElem?_eq_getElem (by rw [HQ.out]; omega))
          exact ⟨b, off, hb⟩
        obtain ⟨ii, hil, hie⟩ := pick_lt kk q (by omega) (by omega)
        obtain ⟨W2, o2, hP3, hne⟩ := HEr.out ii (by rw [HQ.out]; exact hil)
        have HP3 : Hid _ := hP3
        have HNE : Hid _ := hne
        clear hP3 hne
        have hic : ii ≤ cap1 := by omega
        have HT1 : Hid ((FF.take ii).length = ii) := by show _ = _; rw [List.length_take, HQ.out]; omega
        have HT2 : Hid ((FF.drop (ii + 1)).length = q - (ii + 1)) := by show _ = _; rw [List.length_drop, HQ.out]
        have HT3 : Hid (FF.eraseIdx ii = FF.take ii ++ FF.drop (ii + 1)) := List.eraseIdx_eq_take_drop_succ FF ii
        have HO0 : Hid (((w6.alloc (.cells #[] 46)).drew).ownsRow w6.heap.size 46 2 (.slice (some ⟨w6.heap.size, 0, none⟩) 0 0) 0 []) := World.ownsRow_made w6 #[] 0 (Nat.le_refl _) (by decide) rfl
        have HB0 : Hid (Below w6.heap.size w6 (w6.alloc (.cells #[] 46)).drew) := bl_drawn1 ((Below.refl _ _).alloc (Nat.le_refl _) _)
        have HC1 : Hid (∀ j u, (avs (FF.take ii))[j]? = some u → ((w6.alloc (.cells #[] 46)).drew).cell? ((⟨b1, f1, none⟩ : Addr).add j) = some u) := (HF6.out.later HB0.out).front ii
        have HK2 : Hid (∀ wx, Below w6.heap.size w6 wx → ∀ j u, (avs (FF.drop (ii + 1)))[j]? = some u → wx.cell? ((⟨b1, f1 + (ii + 1) * 2, none⟩ : Addr).add j) = some u) := fun wx hb => (HF6.out.later hb).back (ii + 1) (by rw [HQ.out]; omega)
        have hwr : IntKind.i64.wrap ((ii : Int) + 1) = ((ii + 1 : Nat) : Int) := by rw [IntKind.wrap_i64]; omega
        have hic1 : ii + 1 ≤ q := by omega
        obtain ⟨i1, hi1⟩ : ∃ i1, ii + 1 = i1 := ⟨_, rfl⟩
        rw [hi1] at hic1 HT2 HT3 HK2 hwr
        have hic2 : (i1 : Int) ≤ (q : Int) := by omega
        have HI1 : Hid _ := hi1
        clear hi1
        by_cases hcq : cap1 = i1
        · subst hcq
          have HD : Hid (FF.drop cap1 = []) := List.eq_nil_of_length_eq_zero (by rw [HT2.out]; omega)
          go_wp2_with fail
          go_region_law (first
            | (refine step_append_own rfl (.tmp 88) (.tmp 91) 22 rfl w6.heap.size 46 i0 _ 2 16 Tryd.underlying22 hi0 hz0 hz1 hz2 rfl (by decide) (.slice (some ⟨w6.heap.size, 0, none⟩) 0 0) 0 [] rfl HO0.out ⟨b1, f1, none⟩ ii cap1 (avs (FF.take ii)) rfl (by rw [avs_len, HT1.out]) HC1.out (avs_one' _) (by unfold maxLen; omega) (by omega) (by simp) ?_
               intro v7 w7 ho7 hg7 hat7
               have X7 : Hid (Below w6.heap.size w6 w7) := Below.grown HB0.out hg7 (by simp) (fun j hj => (HO0.out.lt _ hj).1)
               have Y7 : Hid (w7.ownsRow w6.heap.size 46 2 v7 (0 + ii) ([] ++ avs (FF.take ii))) := ho7
               clear ho7 hg7 hat7)
            | (refine step_append_own rfl (.tmp 92) (.tmp 96) 22 rfl w6.heap.size 46 i0 _ 2 16 Tryd.underlying22 hi0 hz0 hz1 hz2 rfl (by decide) v7 (0 + ii) ([] ++ avs (FF.take ii)) rfl Y7.out ⟨b1, f1, none⟩ 0 0 (avs []) rfl rfl (by intro j u h; cases h) (avs_one' _) (by unfold maxLen; omega) (by omega) X7.out.size ?_
               intro v8 w8 ho8 hg8 hat8
               have X8 : Hid (Below w6.heap.size w6 w8) := Below.grown X7.out hg8 X7.out.size (fun j hj => (Y7.out.lt _ hj).1)
               have Y8 : Hid (w8.ownsRow w6.heap.size 46 2 v8 (0 + ii + 0) ([] ++ avs (FF.take ii) ++ (avs []))) := ho8
               clear ho8 hg8 hat8))
          have HE8 : Hid (RdA w8 v8 (FF.eraseIdx ii)) := by
            show RdA _ _ _
            refine RdA.of_own (B := w6.heap.size) ?_ (fun p hp => HFs.out p (List.mem_of_mem_eraseIdx hp))
            have h9 := Y8.out
            rw [List.nil_append, ← avs_append] at h9
            rw [HT3.out, List.length_append, HT1.out, HT2.out]
            rw [HD.out, show q - cap1 = 0 by omega]
            simpa using h9
          obtain ⟨a8, n8, cap8, rfl⟩ : ∃ a8 n8 cap8, v8 = .slice a8 n8 cap8 := by
            obtain ⟨a8, cap8, h1, _⟩ := HE8.out
            exact ⟨a8, _, cap8, h1⟩
          have HB8 : Hid (Below w0.heap.size w0 w8) := HB6.out.trans (X8.out.mono HB6.out.size)
          have HL8 : Hid (RdL w8 (.slice a2 m cap2) (reachL W o)) := HL6.out.later X8.out
          clear X7 Y7 X8 Y8 HO0 HB0 HC1 HK2 HB6 HL6 HF6
          go_wp2_with fail
          refine Calls.mono (Reach_any (m : Int) _ (FF.eraseIdx ii) w8 HE8.out (HT.out.later HB8.out)) ?_
          unfold ReachC
          rw [HP3.out]
          rintro e w9 ⟨hb9, v9, rfl, hI9, hl9⟩
          simp only [Int.toNat_natCast] at hl9
          have HB9 : Hid (Below w0.heap.size w0 w9) := HB8.out.trans (hb9.mono HB8.out.size)
          have HL9 : Hid (RdL w9 (.slice a2 m cap2) (reachL W o)) := HL8.out.later hb9
          have HI9 : Hid (RdL w9 v9 (reachL W2 o2)) := hI9
          have HLm : Hid _ := hl9
          obtain ⟨a9, cap9, rfl⟩ : ∃ a9 cap9, v9 = .slice a9 m cap9 := by
            obtain ⟨a9, cap9, h1, _⟩ := hI9
            rw [hl9] at h1
            exact ⟨a9, cap9, h1⟩
          clear hb9 HB8 HL8 HE8 hl9
          go_wp2_with fail
          have MS := sameL_any (reachL W o) (reachL W2 o2) _ _ w9 HL9.out HI9.out (by rw [HLl.out]; omega) (by rw [HLm.out]; omega) (HSh.out W o) (HSh.out W2 o2)
          rw [decide_eq_false HNE.out] at MS
          refine Calls.mono MS ?_
          rintro e w10 ⟨rfl, hb10⟩
          have HB10 : Hid (Below w0.heap.size w0 w10) := HB9.out.trans (hb10.mono HB9.out.size)
          clear hb10 MS HB9 HL9 HI9
          go_wp2_with fail
          refine Calls.mono (ML.out _ HB10.out) ?_
          rintro e w11 ⟨rfl, hb⟩
          have HB11 : Hid _ := hb
          go_wp2_with fail
          go_ret
          exact ⟨rfl, HB11.out⟩
        · go_wp2_with fail
          go_region_law (first
            | (refine step_append_own rfl (.tmp 88) (.tmp 91) 22 rfl w6.heap.size 46 i0 _ 2 16 Tryd.underlying22 hi0 hz0 hz1 hz2 rfl (by decide) (.slice (some ⟨w6.heap.size, 0, none⟩) 0 0) 0 [] rfl HO0.out ⟨b1, f1, none⟩ ii cap1 (avs (FF.take ii)) rfl (by rw [avs_len, HT1.out]) HC1.out (avs_one' _) (by unfold maxLen; omega) (by omega) (by simp) ?_
               intro v7 w7 ho7 hg7 hat7
               have X7 : Hid (Below w6.heap.size w6 w7) := Below.grown HB0.out hg7 (by simp) (fun j hj => (HO0.out.lt _ hj).1)
               have Y7 : Hid (w7.ownsRow w6.heap.size 46 2 v7 (0 + ii) ([] ++ avs (FF.take ii))) := ho7
               clear ho7 hg7 hat7)
            | (refine step_append_own rfl (.tmp 92) (.tmp 96) 22 rfl w6.heap.size 46 i0 _ 2 16 Tryd.underlying22 hi0 hz0 hz1 hz2 rfl (by decide) v7 (0 + ii) ([] ++ avs (FF.take ii)) rfl Y7.out ⟨b1, f1 + i1 * 2, none⟩ (q - i1) (cap1 - i1) (avs (FF.drop i1)) rfl (by rw [avs_len, HT2.out]) (HK2.out _ X7.out) (avs_one' _) (by unfold maxLen; omega) (by omega) X7.out.size ?_
               intro v8 w8 ho8 hg8 hat8
               have X8 : Hid (Below w6.heap.size w6 w8) := Below.grown X7.out hg8 X7.out.size (fun j hj => (Y7.out.lt _ hj).1)
               have Y8 : Hid (w8.ownsRow w6.heap.size 46 2 v8 (0 + ii + (q - i1)) ([] ++ avs (FF.take ii) ++ (avs (FF.drop i1)))) := ho8
               clear ho8 hg8 hat8))
          have HE8 : Hid (RdA w8 v8 (FF.eraseIdx ii)) := by
            show RdA _ _ _
            refine RdA.of_own (B := w6.heap.size) ?_ (fun p hp => HFs.out p (List.mem_of_mem_eraseIdx hp))
            have h9 := Y8.out
            rw [List.nil_append, ← avs_append] at h9
            rw [HT3.out, List.length_append, HT1.out, HT2.out]
            rw [Nat.zero_add] at h9
            exact h9
          obtain ⟨a8, n8, cap8, rfl⟩ : ∃ a8 n8 cap8, v8 = .slice a8 n8 cap8 := by
            obtain ⟨a8, cap8, h1, _⟩ := HE8.out
            exact ⟨a8, _, cap8, h1⟩
          have HB8 : Hid (Below w0.heap.size w0 w8) := HB6.out.trans (X8.out.mono HB6.out.size)
          have HL8 : Hid (RdL w8 (.slice a2 m cap2) (reachL W o)) := HL6.out.later X8.out
          clear X7 Y7 X8 Y8 HO0 HB0 HC1 HK2 HB6 HL6 HF6
          go_wp2_with fail
          refine Calls.mono (Reach_any (m : Int) _ (FF.eraseIdx ii) w8 HE8.out (HT.out.later HB8.out)) ?_
          unfold ReachC
          rw [HP3.out]
          rintro e w9 ⟨hb9, v9, rfl, hI9, hl9⟩
          simp only [Int.toNat_natCast] at hl9
          have HB9 : Hid (Below w0.heap.size w0 w9) := HB8.out.trans (hb9.mono HB8.out.size)
          have HL9 : Hid (RdL w9 (.slice a2 m cap2) (reachL W o)) := HL8.out.later hb9
          have HI9 : Hid (RdL w9 v9 (reachL W2 o2)) := hI9
          have HLm : Hid _ := hl9
          obtain ⟨a9, cap9, rfl⟩ : ∃ a9 cap9, v9 = .slice a9 m cap9 := by
            obtain ⟨a9, cap9, h1, _⟩ := hI9
            rw [hl9] at h1
            exact ⟨a9, cap9, h1⟩
          clear hb9 HB8 HL8 HE8 hl9
          go_wp2_with fail
          have MS := sameL_any (reachL W o) (reachL W2 o2) _ _ w9 HL9.out HI9.out (by rw [HLl.out]; omega) (by rw [HLm.out]; omega) (HSh.out W o) (HSh.out W2 o2)
          rw [decide_eq_false HNE.out] at MS
          refine Calls.mono MS ?_
          rintro e w10 ⟨rfl, hb10⟩
          have HB10 : Hid (Below w0.heap.size w0 w10) := HB9.out.trans (hb10.mono HB9.out.size)
          clear hb10 MS HB9 HL9 HI9
          go_wp2_with fail
          refine Calls.mono (ML.out _ HB10.out) ?_
          rintro e w11 ⟨rfl, hb⟩
          have HB11 : Hid _ := hb
          go_wp2_with fail
          go_ret
          exact ⟨rfl, HB11.out⟩
end Go.Proofs.YtdbohfpkhidfiaaDoorRR
