/- Reduced arcs lead where all lead; without any one of them they don't (plain words). -/
import Derived.Test.YtdbohfpkhidfiaaDoorRRPf
namespace Go.Proofs.YtdbohfpkhidfiaaDoorRR

theorem fold_dif (R : List Nat) : ∀ (l : List Nat) (a i : Nat), (l.foldl (fun a f => dif a (R.getD f 0)) a).testBit i = true ↔ a.testBit i = true ∧ ∀ f ∈ l, (R.getD f 0).testBit i = false := by
  intro l
  induction l with
  | nil => intro a i; simp
  | cons f l ih =>
    intro a i
    rw [List.foldl_cons, ih, dif_bit]
    simp only [Bool.and_eq_true, Bool.not_eq_true', List.mem_cons, forall_eq_or_imp]
    exact ⟨fun h => ⟨h.1.1, h.1.2, h.2⟩, fun h => ⟨⟨h.1, h.2.1⟩, h.2.2⟩⟩

theorem needOne_bit (R : List Nat) (x i : Nat) : (needOne R x).testBit i = true ↔ x.testBit i = true ∧ ∀ f ∈ bitsOf x, (R.getD f 0).testBit i = false := fold_dif R _ x i

theorem needP_len (W R : List Nat) : (needP W R).length = W.length := by simp [needP]

theorem needP_at (W R : List Nat) (t : Nat) : (needP W R).getD t 0 = needOne R (W.getD t 0) := by
  unfold needP
  rw [List.getD_eq_getElem?_getD, List.getD_eq_getElem?_getD, List.getElem?_map]
  cases W[t]? with
  | some x => rfl
  | none => rfl

theorem needP_sub {W R : List Nat} {t f : Nat} (h : ((needP W R).getD t 0).testBit f = true) : (W.getD t 0).testBit f = true := by
  rw [needP_at, needOne_bit] at h
  exact h.1

/-- Sets alike, bit by bit. -/
theorem sets_eq {A B : List Nat} (hl : A.length = B.length) (h : ∀ t, t < A.length → ∀ f, (A.getD t 0).testBit f = true ↔ (B.getD t 0).testBit f = true) : A = B := by
  apply List.ext_getElem hl
  intro t h1 h2
  have := h t h1
  rw [List.getD_eq_getElem?_getD, List.getElem?_eq_getElem h1, List.getD_eq_getElem?_getD, List.getElem?_eq_getElem h2] at this
  exact Nat.eq_of_testBit_eq fun f => Bool.eq_iff_iff.2 (this f)

theorem ord_sub {W N o : List Nat} (hO : OrdOk W o) (hl : N.length = W.length) (hs : ∀ t f, (N.getD t 0).testBit f = true → (W.getD t 0).testBit f = true) : OrdOk N o :=
  ⟨hO.nodup, fun x hx => by rw [hl]; exact hO.lt x hx, fun k x hk i hi => hO.ahead k x hk i (hs x i hi)⟩

theorem chain_sub {W N : List Nat} (hs : ∀ t f, (N.getD t 0).testBit f = true → (W.getD t 0).testBit f = true) {f t : Nat} (h : Chain N f t) : Chain W f t := by
  induction h with
  | one e => exact .one (hs _ _ e)
  | more _ e ih => exact .more ih (hs _ _ e)

/-- A chain leads on in the order. -/
theorem chain_pos {W o : List Nat} (hO : OrdOk W o) {f t : Nat} (h : Chain W f t) : ∀ k : Nat, o[k]? = some t → ∃ j : Nat, j < k ∧ o[j]? = some f := by
  induction h with
  | one e =>
    intro k hk
    exact mem_take_at (hO.ahead k _ hk _ e)
  | more _ e ih =>
    intro k hk
    obtain ⟨j, hj, hg⟩ := mem_take_at (hO.ahead k _ hk _ e)
    obtain ⟨i, hi, hf⟩ := ih j hg
    exact ⟨i, by omega, hf⟩

theorem pos_eq {o : List Nat} (hn : o.Nodup) {i j x : Nat} (hi : o[i]? = some x) (hj : o[j]? = some x) : i = j :=
  (List.getElem?_inj (List.getElem?_eq_some_iff.1 hi).1 hn).1 (hi.trans hj.symm)

/-- Where all arcs lead, those that must be lead. -/
theorem chain_need {W o : List Nat} (hn : W.length ≤ 64) (hO : OrdOk W o) (hl : o.length = W.length) : ∀ (d i k f t : Nat), k ≤ i + d → o[i]? = some f → o[k]? = some t → Chain W f t → Chain (needP W (reachP W o)) f t := by
  intro d
  induction d with
  | zero =>
    intro i k f t hd hi hk h
    obtain ⟨j, hj, hf⟩ := chain_pos hO h k hk
    have := pos_eq hO.nodup hi hf
    omega
  | succ d ih =>
    intro i k f t hd hi hk h
    have split : ∀ g, Chain W f g → (W.getD t 0).testBit g = true → Chain (needP W (reachP W o)) f t := by
      intro g hfg hgt
      obtain ⟨j, hj, hg⟩ := chain_pos hO (.one hgt) k hk
      obtain ⟨i', hi', hf⟩ := chain_pos hO hfg j hg
      have := pos_eq hO.nodup hi hf
      exact Chain.trans (ih i j f g (by omega) hi hg hfg) (ih j k g t (by omega) hg hk (.one hgt))
    cases h with
    | one e =>
      cases hN : ((needP W (reachP W o)).getD t 0).testBit f with
      | true => exact .one hN
      | false =>
        have : ∃ g ∈ bitsOf (W.getD t 0), ((reachP W o).getD g 0).testBit f = true := by
          apply Classical.byContradiction
          intro hc
          have hb : ((needP W (reachP W o)).getD t 0).testBit f = true := by
            rw [needP_at, needOne_bit]
            refine ⟨e, fun g hg => ?_⟩
            cases hb : ((reachP W o).getD g 0).testBit f with
            | false => rfl
            | true => exact absurd ⟨g, hg, hb⟩ hc
          rw [hb] at hN
          cases hN
        obtain ⟨g, hg, hgf⟩ := this
        have hgW : g < W.length := hO.lt g (List.mem_of_mem_take (hO.ahead k t hk g (of_bitsOf hg)))
        exact split g ((reach_chain hn hO hl hgW f).1 hgf) (of_bitsOf hg)
    | more c e => exact split _ c e

theorem chain_need_iff {W o : List Nat} (hn : W.length ≤ 64) (hO : OrdOk W o) (hl : o.length = W.length) {f t : Nat} (ht : t < W.length) : Chain (needP W (reachP W o)) f t ↔ Chain W f t := by
  constructor
  · exact chain_sub fun t f => needP_sub
  · intro h
    obtain ⟨k, hk⟩ := List.mem_iff_getElem?.1 (ord_all hO hl ht)
    obtain ⟨i, hi, hf⟩ := chain_pos hO h k hk
    exact chain_need hn hO hl k i k f t (by omega) hf hk h

theorem reach_len {W o : List Nat} {n : Nat} (hW : W.length = n) (hn : n ≤ 64) (hO : OrdOk W o) : (reachP W o).length = n := (told_all hW hn hO).rl

/-- Two webs of the same chains reach alike. -/
theorem reach_same {W o N o' : List Nat} (hn : W.length ≤ 64) (hO : OrdOk W o) (hl : o.length = W.length) (hN : N.length = W.length) (hO' : OrdOk N o') (hl' : o'.length = N.length) (h : ∀ f t, t < W.length → (Chain N f t ↔ Chain W f t)) : reachP N o' = reachP W o := by
  have r1 := reach_len rfl hn hO
  have r2 := reach_len rfl (by omega) hO'
  refine sets_eq (by omega) fun t ht f => ?_
  rw [reach_chain (by omega) hO' hl' (by omega), reach_chain hn hO hl (by omega)]
  exact h f t (by omega)

/-- Without what it needs not a web needs all. -/
theorem need_again {W o : List Nat} : needP (needP W (reachP W o)) (reachP W o) = needP W (reachP W o) := by
  refine sets_eq (by simp [needP]) fun t _ f => ?_
  constructor
  · exact needP_sub
  · intro h
    rw [needP_at, needOne_bit]
    refine ⟨h, fun g hg => ?_⟩
    have hg' := needP_sub (of_bitsOf hg)
    rw [needP_at, needOne_bit] at h
    refine h.2 g ?_
    unfold bitsOf at hg ⊢
    rw [List.mem_filter] at hg ⊢
    exact ⟨hg.1, hg'⟩

theorem redP_ends {N : List Nat} : (redP N).all (endsOk N.length) = true := by
  rw [List.all_eq_true]
  intro p hp
  obtain ⟨f, t, h1, h2, _, rfl⟩ := redP_mem.1 hp
  simp only [endsOk, decide_eq_true_eq]
  omega

theorem redP_len {N : List Nat} (h : N.length ≤ 64) : (redP N).length ≤ 4096 := by
  have := redTo_len N N.length N.length
  have h2 : N.length * N.length ≤ 64 * 64 := Nat.mul_le_mul h h
  unfold redP
  omega

theorem redP_web {N : List Nat} (hok : WebOk N) : webOf N.length (redP N) = N := by
  refine sets_eq (webOf_len _ _) fun t ht f => ?_
  rw [webOf_len] at ht
  rw [webOf_bit _ _ redP_ends, redP_mem]
  constructor
  · rintro ⟨⟨f', t', _, _, h, e⟩, _⟩
    simp only [Prod.mk.injEq] at e
    have e1 : f = f' := by omega
    have e2 : t = t' := by omega
    subst e1 e2
    exact h
  · intro h
    refine ⟨⟨f, t, hok (N.getD t 0) ?_ f h, ht, h, rfl⟩, ht⟩
    rw [List.getD_eq_getElem?_getD, List.getElem?_eq_getElem ht]
    exact List.getElem_mem ht

theorem webOk_sub {W N : List Nat} (hok : WebOk W) (hl : N.length = W.length) (hs : ∀ t f, (N.getD t 0).testBit f = true → (W.getD t 0).testBit f = true) : WebOk N := by
  intro x hx i hi
  obtain ⟨t, ht, rfl⟩ := mem_getD hx
  have h2 : W.getD t 0 ∈ W := by
    rw [List.getD_eq_getElem?_getD, List.getElem?_eq_getElem (by omega)]
    exact List.getElem_mem (by omega)
  have := hok _ h2 i (hs t i hi)
  omega

theorem redP_nodup (N : List Nat) : (redP N).Nodup := by
  have rowNd : ∀ f k, (redRow N f k).Nodup := by
    intro f k
    unfold redRow
    refine List.Pairwise.map _ (R := fun a b => a ≠ b) ?_ (List.Pairwise.filter _ List.nodup_range)
    intro a b hab e
    simp only [Prod.mk.injEq] at e
    omega
  have : ∀ n f, (redTo N n f).Nodup ∧ ∀ p ∈ redTo N n f, p.1 < (f : Int) := by
    intro n f
    induction f with
    | zero => simp [redTo]
    | succ f ih =>
      rw [redTo_succ]
      refine ⟨List.nodup_append.2 ⟨ih.1, rowNd f n, ?_⟩, ?_⟩
      · intro a ha b hb e
        obtain ⟨t, _, _, rfl⟩ := redRow_mem hb
        subst e
        have := ih.2 _ ha
        simp only at this
        omega
      · intro p hp
        rcases List.mem_append.1 hp with h | h
        · have := ih.2 p h
          omega
        · obtain ⟨t, _, _, rfl⟩ := redRow_mem h
          simp only
          omega
  exact (this _ _).1

theorem erase_mem_iff {α : Type} {l : List α} (hn : l.Nodup) {i : Nat} {p : α} (hi : l[i]? = some p) (q : α) : q ∈ l.eraseIdx i ↔ q ∈ l ∧ q ≠ p := by
  rw [List.mem_eraseIdx_iff_getElem?]
  constructor
  · rintro ⟨j, hj, hq⟩
    refine ⟨List.mem_of_getElem? hq, fun e => hj ?_⟩
    subst e
    exact (List.getElem?_inj (List.getElem?_eq_some_iff.1 hq).1 hn).1 (hq.trans hi.symm)
  · rintro ⟨hq, hne⟩
    obtain ⟨j, hj⟩ := List.mem_iff_getElem?.1 hq
    refine ⟨j, fun e => hne ?_, hj⟩
    subst e
    exact Option.some.inj (hj.symm.trans hi)

theorem weave_ok {m : Nat} (hm : m ≤ 64) {l : List (Int × Int)} (hl : l.length ≤ 4096) (ha : l.all (endsOk m) = true) {N o : List Nat} (hN : webOf m l = N) (hO : OrdOk N o) (hol : o.length = N.length) : ∃ o', weaveP (m : Int) l = .ok N o' := by
  have hNl : N.length = m := by rw [← hN, webOf_len]
  obtain ⟨r, hr⟩ := ordW_some (by omega) hO hol
  refine ⟨r, ?_⟩
  unfold weaveP
  rw [if_neg (by
    rintro (h | h | h | h)
    · omega
    · omega
    · omega
    · rw [Int.toNat_natCast, ha] at h; cases h), Int.toNat_natCast, hN, hr]

/-- All that DagShuts needs of graphs. -/
theorem shut_all {m : Nat} {l : List (Int × Int)} {W o : List Nat} (h : weaveP (m : Int) l = .ok W o) : m ≤ 64 ∧ (redP (needP W (reachP W o))).length ≤ 4096 ∧ Small (redP (needP W (reachP W o))) ∧ (∃ o', weaveP (m : Int) (redP (needP W (reachP W o))) = .ok (needP W (reachP W o)) o' ∧ reachL (needP W (reachP W o)) o' = reachL W o ∧ redP (needP (needP W (reachP W o)) (reachP (needP W (reachP W o)) o')) = redP (needP W (reachP W o))) ∧ ∀ i, i < (redP (needP W (reachP W o))).length → ∃ W2 o2, weaveP (m : Int) ((redP (needP W (reachP W o))).eraseIdx i) = .ok W2 o2 ∧ reachL W o ≠ reachL W2 o2 := by
  obtain ⟨⟨_, hm⟩, rfl, ha, hok, hWl, hO, hol⟩ := weave_facts h
  rw [Int.toNat_natCast] at *
  generalize webOf m l = W at *
  have hm' : m ≤ 64 := by omega
  obtain ⟨N, HN⟩ : ∃ N, N = needP W (reachP W o) := ⟨_, rfl⟩
  have hs : ∀ t f, (N.getD t 0).testBit f = true → (W.getD t 0).testBit f = true := by rw [HN]; exact fun t f => needP_sub
  have hNl : N.length = W.length := by rw [HN, needP_len]
  have hNm : N.length = m := by omega
  have hNok := webOk_sub hok hNl hs
  have hNO := ord_sub hO hNl hs
  have hch : ∀ f t, t < W.length → (Chain N f t ↔ Chain W f t) := by intro f t ht; rw [HN]; exact chain_need_iff (by omega) hO (by omega) ht
  have hagain : needP N (reachP W o) = N := by rw [HN]; exact need_again
  have hbit : ∀ t f, (N.getD t 0).testBit f = true → ∀ g, (W.getD t 0).testBit g = true → ¬ Chain W f g := by
    intro t f hb g hg hc
    have hgo : g < W.length := by
      have h2 : W.getD t 0 ∈ W := by
        rw [List.getD_eq_getElem?_getD]
        rw [List.getD_eq_getElem?_getD] at hg
        cases hx : W[t]? with
        | some x => exact List.mem_of_getElem? hx
        | none => rw [hx] at hg; simp at hg
      exact hok _ h2 g hg
    have h1 := (reach_chain (by omega) hO (by omega) hgo f).2 hc
    rw [HN, needP_at, needOne_bit] at hb
    have := hb.2 g (List.mem_filter.2 ⟨List.mem_range.2 (by omega), hg⟩)
    rw [this] at h1
    cases h1
  rw [← HN]
  refine ⟨hm', redP_len (by omega), redP_small (by omega), ?_, ?_⟩
  · obtain ⟨o', ho'⟩ := weave_ok hm' (redP_len (N := N) (by omega)) (by rw [← hNm]; exact redP_ends) (by rw [← hNm]; exact redP_web hNok) hNO (by omega)
    obtain ⟨_, _, _, _, _, hO', hol'⟩ := weave_facts ho'
    rw [Int.toNat_natCast] at hol'
    have hr := reach_same (by omega) hO (by omega) hNl hO' (by omega) hch
    refine ⟨o', ho', ?_, ?_⟩
    · unfold reachL
      rw [hr]
    · rw [hr, hagain]
  · intro i hi
    have hp : (redP N)[i]? = some (redP N)[i] := List.getElem?_eq_getElem hi
    generalize (redP N)[i] = p at hp
    obtain ⟨f, t, hf, ht, hb, rfl⟩ := redP_mem.1 (List.mem_of_getElem? hp)
    have hme := fun q => erase_mem_iff (redP_nodup N) hp q
    have hae : ((redP N).eraseIdx i).all (endsOk m) = true := by
      rw [List.all_eq_true]
      intro q hq
      rw [← hNm]
      exact List.all_eq_true.1 redP_ends q ((hme q).1 hq).1
    have hle : ((redP N).eraseIdx i).length ≤ 4096 := by
      have := redP_len (N := N) (by omega)
      rw [List.length_eraseIdx]
      split <;> omega
    have hwb : ∀ t' f' : Nat, ((webOf m ((redP N).eraseIdx i)).getD t' 0).testBit f' = true ↔ (N.getD t' 0).testBit f' = true ∧ ¬ (f' = f ∧ t' = t) := by
      intro t' f'
      rw [webOf_bit _ _ hae, hme]
      constructor
      · rintro ⟨⟨h1, h2⟩, _⟩
        obtain ⟨f2, t2, _, _, h3, e⟩ := redP_mem.1 h1
        simp only [Prod.mk.injEq] at e
        have e1 : f' = f2 := by omega
        have e2 : t' = t2 := by omega
        subst e1 e2
        exact ⟨h3, fun e => h2 (by rw [e.1, e.2])⟩
      · rintro ⟨h1, h2⟩
        have ht' : t' < N.length := by
          apply Classical.byContradiction
          intro hc
          rw [List.getD_eq_getElem?_getD, List.getElem?_eq_none (by omega)] at h1
          simp at h1
        have hf' : f' < N.length := hNok (N.getD t' 0) (by rw [List.getD_eq_getElem?_getD, List.getElem?_eq_getElem ht']; exact List.getElem_mem ht') f' h1
        refine ⟨⟨redP_mem.2 ⟨f', t', hf', ht', h1, rfl⟩, fun e => h2 ?_⟩, by omega⟩
        simp only [Prod.mk.injEq] at e
        omega
    have hl2 := webOf_len m ((redP N).eraseIdx i)
    have hO2 := ord_sub (N := webOf m ((redP N).eraseIdx i)) hNO (by omega) (fun t' f' h => ((hwb t' f').1 h).1)
    obtain ⟨o2, ho2⟩ := weave_ok hm' hle hae rfl hO2 (by omega)
    obtain ⟨_, _, _, _, _, hO2', hol2⟩ := weave_facts ho2
    rw [Int.toNat_natCast] at hol2
    refine ⟨_, o2, ho2, ?_⟩
    intro he
    have hin : f ∈ bitsOf ((reachP W o).getD t 0) := List.mem_filter.2 ⟨List.mem_range.2 (by omega), (reach_chain (by omega) hO (by omega) (by omega) f).2 (.one (hs t f hb))⟩
    have hat : ∀ (A b : List Nat), A.length ≤ 64 → OrdOk A b → t < A.length → (reachL A b)[t]? = some (bitsOf ((reachP A b).getD t 0)) := by
      intro A b hA hb ht'
      unfold reachL
      rw [List.getElem?_map, List.getD_eq_getElem?_getD, List.getElem?_eq_getElem (by rw [reach_len rfl hA hb]; exact ht')]
      rfl
    have e1 := hat W o (by omega) hO (by omega)
    have e2 := hat _ o2 (by omega) hO2' (by omega)
    rw [he, e2] at e1
    rw [← Option.some.inj e1] at hin
    have hc := (reach_chain (by omega) hO2' (by omega) (by omega) f).1 (of_bitsOf hin)
    cases hc with
    | one e => exact ((hwb t f).1 e).2 ⟨rfl, rfl⟩
    | more c e => exact hbit t f hb _ (hs t _ ((hwb t _).1 e).1) (chain_sub (fun t' f' h => hs t' f' ((hwb t' f').1 h).1) c)
end Go.Proofs.YtdbohfpkhidfiaaDoorRR
