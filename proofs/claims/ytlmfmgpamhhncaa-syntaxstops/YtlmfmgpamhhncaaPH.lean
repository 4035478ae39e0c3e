/- Texts of the seat, packed: Va Vb Vc Vd Ve. -/
import Derived.Test.YtlmfmgpamhhncaaPF
import Derived.Test.YtlmfmgpamhhncaaP7
/- What is read is what is printed: the tokens of a saga that was read are those of its text; what was read is right (plain words). -/
namespace Go.Proofs.Ytlmfmgpamhhncaa

/-- Tokens' texts. -/
def tx (l : List Tok) : List By := l.map (·.text)

theorem tx_append (a b : List Tok) : tx (a ++ b) = tx a ++ tx b := by simp [tx]
theorem tx_cons (a : Tok) (b : List Tok) : tx (a :: b) = a.text :: tx b := rfl
theorem tx_nil : tx [] = [] := rfl

theorem isT_drop {L : List By} {i : Nat} {s : By} (h : isT L i s = true) : L.drop i = s :: L.drop (i + 1) := by
  have hlt := isT_lt L h
  simp only [isT, beq_iff_eq] at h
  rw [List.drop_eq_getElem_cons hlt]
  rw [List.getElem?_eq_getElem hlt] at h
  simp at h
  rw [h]

theorem nmP_nil : nmP [] = false := by
  have : ¬ nameP [] := by
    rintro ⟨r, hr, c, r', rfl, _, _, hcp, _⟩
    have := (enc_pos c (hcp c (by simp))).1
    simp [encAll] at hr
    rw [hr.1] at this
    simp at this
  simp [nmP, isName_false this]

theorem nmP_ne {x : By} (h : nmP x = true) : x ≠ [] := by rintro rfl; rw [nmP_nil] at h; cases h

variable {L : List By}

theorem rName_txt {i j : Nat} {x : By} (h : rName nmP L i = .ok x j) : nmP x = true ∧ L.drop i = x :: L.drop j := by
  unfold rName at h
  cases hg : L[i]? with
  | none => rw [hg] at h; cases h
  | some t =>
    rw [hg] at h
    dsimp only at h
    split at h
    · rename_i hn
      cases h
      exact ⟨hn, isT_drop (by simp [isT, hg])⟩
    · cases h

theorem rMore_txt (f : Nat) : ∀ i l j, rMore nmP L f i = .ok l j → (∀ y ∈ l, nmP y = true) ∧ L.drop i = tx (pMore l) ++ L.drop j := by
  induction f with
  | zero => intro i l j h; cases h
  | succ f ih =>
    intro i l j h
    unfold rMore at h
    split at h
    · rename_i hT
      split at h
      · cases h
      · rename_i t j1 h1
        split at h
        · cases h
        · rename_i l2 k2 h2
          cases h
          obtain ⟨a1, a2⟩ := rName_txt h1
          obtain ⟨b1, b2⟩ := ih _ _ _ h2
          refine ⟨?_, ?_⟩
          · intro y hy
            rcases List.mem_cons.1 hy with rfl | hy
            · exact a1
            · exact b1 y hy
          · rw [isT_drop hT, a2, b2]
            simp [pMore, tx, mkT, nmT]
    · cases h
      exact ⟨by simp, by simp [pMore, tx]⟩

theorem rLean_txt {i j : Nat} {l : List By} (h : rLean nmP L i = .ok l j) : (∀ y ∈ l, nmP y = true) ∧ L.drop i = tx (pLean l) ++ L.drop j := by
  unfold rLean at h
  split at h
  · rename_i hT
    split at h
    · cases h
    · rename_i t j1 h1
      split at h
      · cases h
      · rename_i l2 k2 h2
        cases h
        obtain ⟨a1, a2⟩ := rName_txt h1
        obtain ⟨b1, b2⟩ := rMore_txt _ _ _ _ h2
        refine ⟨?_, ?_⟩
        · intro y hy
          rcases List.mem_cons.1 hy with rfl | hy
          · exact a1
          · exact b1 y hy
        · rw [isT_drop hT, a2, b2]
          simp [pLean, tx, nmT]
  · cases h
    exact ⟨by simp, by simp [pLean, tx]⟩

theorem rUndo_txt {i j : Nat} {u : By} (h : rUndo nmP L i = .ok u j) : (u = [] ∨ nmP u = true) ∧ L.drop i = tx (if u = [] then [] else [nmT wUndo, nmT u]) ++ L.drop j := by
  unfold rUndo at h
  split at h
  · rename_i hT
    obtain ⟨a1, a2⟩ := rName_txt h
    refine ⟨.inr a1, ?_⟩
    rw [if_neg (nmP_ne a1), isT_drop hT, a2]
    simp [tx, nmT]
  · cases h
    exact ⟨.inl rfl, by simp [tx]⟩

theorem rStep_txt {i j : Nat} {l : Lab} (h : rStep nmP L i = .ok l j) : nodeOk l 0 = true ∧ l.sub = false ∧ wStep :: L.drop i = tx (pStep l) ++ L.drop j := by
  unfold rStep at h
  split at h
  · cases h
  · rename_i x j1 h1
    split at h
    · cases h
    · rename_i u j2 h2
      split at h
      · cases h
      · rename_i a j3 h3
        split at h
        · rename_i hT
          cases h
          obtain ⟨a1, a2⟩ := rName_txt h1
          obtain ⟨b1, b2⟩ := rUndo_txt h2
          obtain ⟨c1, c2⟩ := rLean_txt h3
          refine ⟨?_, rfl, ?_⟩
          · simp only [nodeOk, a1]
            simp only [Bool.true_and, Bool.false_eq_true, if_false, Bool.not_false, decide_true, Bool.and_true, Bool.and_eq_true, List.all_eq_true, Bool.or_eq_true, beq_iff_eq]
            exact ⟨c1, b1⟩
          · rw [a2, b2, c2, isT_drop hT]
            simp [pStep, tx, nmT, mkT]
        · cases h

/-- May all nodes be? (At whatever depth.) -/
def allOk (t : Tr) : Prop := ∀ d, okL (fltn d t) = true

theorem okL_cons (d : Nat) (l : Lab) (t : Tr) (r : List (Nat × Lab × Tr)) : okL ((d, l, t) :: r) = (nodeOk l t.len && okL r) := rfl
theorem okL_append (a b : List (Nat × Lab × Tr)) : okL (a ++ b) = (okL a && okL b) := by simp [okL]

theorem rNode_txt {alts : Nat → Got Tr} (ha : ∀ k t m, alts k = .ok t m → allOk t ∧ 0 < t.len ∧ L.drop k = tx (mkT mOpen :: (pr true t ++ [mkT mShut])) ++ L.drop m) {i j : Nat} {l : Lab} {t : Tr} (h : rNode nmP L alts i = .ok (l, t) j) :
    nodeOk l t.len = true ∧ allOk t ∧ L.drop i = tx (pNode l t) ++ L.drop j := by
  unfold rNode at h
  split at h
  · rename_i hT
    split at h
    · cases h
    · rename_i l' j' hs
      cases h
      obtain ⟨a1, a2, a3⟩ := rStep_txt hs
      refine ⟨a1, fun d => rfl, ?_⟩
      rw [isT_drop hT, a3]
      simp [pNode, a2]
  · split at h
    · rename_i hvl
      split at h
      · rename_i hT
        unfold rSub at h
        split at h
        · cases h
        · rename_i x j1 h1
          split at h
          · cases h
          · rename_i a j2 h2
            split at h
            · cases h
            · rename_i t' m h3
              cases h
              obtain ⟨a1, a2⟩ := rName_txt h1
              obtain ⟨b1, b2⟩ := rLean_txt h2
              obtain ⟨c1, c2, c3⟩ := ha _ _ _ h3
              refine ⟨?_, c1, ?_⟩
              · simp only [nodeOk, a1]
                simp only [Bool.true_and, if_true, beq_self_eq_true, Bool.and_eq_true, List.all_eq_true, decide_eq_true_eq]
                exact ⟨b1, c2⟩
              · have hv : L.drop i = (if isT L i wVital then wVital else wLoose) :: L.drop (i + 1) := by
                  by_cases hv : isT L i wVital = true
                  · rw [if_pos hv]; exact isT_drop hv
                  · rw [if_neg hv]
                    simp [hv] at hvl
                    exact isT_drop hvl
                rw [hv, isT_drop hT, a2, b2, c3]
                simp [pNode, tx, nmT, mkT]
      · cases h
    · cases h

theorem pr_or (r : Tr) (h : r.ok true = true) (hl : 0 < r.len) : pr false r = nmT wOr :: pr true r := by
  cases r with
  | e => simp [Tr.len] at hl
  | b x r => simp [pr]
  | n l t r => simp [Tr.ok] at h

theorem rd_txt (f : Nat) : ∀ k i t j, rd nmP L f k i = .ok t j → allOk t ∧ (k = true → 0 < t.len) ∧ L.drop i = tx (pr true t ++ [mkT (if k then mShut else mOut)]) ++ L.drop j := by
  induction f with
  | zero => intro k i t j h; cases k <;> cases h
  | succ f ih =>
    intro k i t j h
    cases k with
    | true =>
      unfold rd at h
      split at h
      · rename_i hT
        split at h
        · cases h
        · rename_i x j1 h1
          obtain ⟨a1, _, a3⟩ := ih _ _ _ _ h1
          split at h
          · rename_i hO
            split at h
            · cases h
            · rename_i r k2 h2
              obtain ⟨b1, b2, b3⟩ := ih _ _ _ _ h2
              have hok := (rd_ok nmP L f _ _ _ _ h2).1
              cases h
              refine ⟨fun d => ?_, fun _ => by simp [Tr.len], ?_⟩
              · show okL (fltn d x ++ fltn d r) = true
                rw [okL_append, a1 d, b1 d]; rfl
              · rw [isT_drop hT, a3, isT_drop hO, b3]
                have := pr_or r hok (b2 rfl)
                simp [pr, tx, mkT, nmT, this]
          · split at h
            · rename_i hS
              cases h
              refine ⟨fun d => ?_, fun _ => by simp [Tr.len], ?_⟩
              · show okL (fltn d x ++ []) = true
                rw [List.append_nil, a1 d]
              · rw [isT_drop hT, a3, isT_drop hS]
                simp [pr, tx, mkT]
            · cases h
      · cases h
    | false =>
      unfold rd at h
      split at h
      · rename_i hT
        cases h
        refine ⟨fun d => rfl, fun h => (by cases h), ?_⟩
        rw [isT_drop hT]
        simp [pr, tx, mkT]
      · split at h
        · cases h
        · rename_i l t' j1 hn
          split at h
          · cases h
          · rename_i r k2 h2
            obtain ⟨b1, _, b3⟩ := ih _ _ _ _ h2
            cases h
            obtain ⟨a1, a2, a3⟩ := rNode_txt (fun k t m hk => by
              unfold brace at hk
              split at hk
              · rename_i hB
                obtain ⟨c1, c2, c3⟩ := ih _ _ _ _ hk
                refine ⟨c1, c2 rfl, ?_⟩
                rw [isT_drop hB, c3]
                simp [tx, mkT]
              · cases hk) hn
            refine ⟨fun d => ?_, fun h => (by cases h), ?_⟩
            · show okL ((d, l, t') :: ((if l.sub then fltn (d + 1) t' else []) ++ fltn d r)) = true
              rw [okL_cons, okL_append, a1, b1 d]
              split
              · rw [a2 (d + 1)]; rfl
              · rfl
            · rw [a3, b3, pr_n]
              simp [tx]

/-- What was read: its tokens are its text's, and it is right. -/
theorem rSaga_txt {F k : Nat} {x : By} {t : Tr} (h : rSaga nmP L F = .ok (x, t) k) : L = tx (pSaga x t) ∧ nmP x = true ∧ 0 < t.len ∧ okL (fltn 1 t) = true := by
  unfold rSaga at h
  split at h
  · rename_i hT
    split at h
    · cases h
    · rename_i y j1 h1
      split at h
      · cases h
      · rename_i t' k' h2
        split at h
        · rename_i hk
          cases h
          obtain ⟨a1, a2⟩ := rName_txt h1
          unfold brace at h2
          split at h2
          · rename_i hB
            obtain ⟨b1, b2, b3⟩ := rd_txt _ _ _ _ _ h2
            refine ⟨?_, a1, b2 rfl, b1 1⟩
            have h0 := isT_drop hT
            rw [a2, isT_drop hB, b3, hk, List.drop_length] at h0
            rw [List.drop_zero] at h0
            rw [h0]
            simp [pSaga, tx, nmT, mkT]
          · cases h2
        · cases h
  · cases h

theorem rSaga_right {F k : Nat} {x : By} {t : Tr} (h : rSaga nmP L F = .ok (x, t) k) : rightS x t = !bigL (fltn 1 t) := by
  obtain ⟨_, h1, h2, h3⟩ := rSaga_txt h
  simp [rightS, h1, h2, h3]
end Go.Proofs.Ytlmfmgpamhhncaa

/- A text that is read, printed and read again: plain words. -/
namespace Go.Proofs.Ytlmfmgpamhhncaa

/-- The tokens' bytes together are not more than the text's. -/
theorem toks_sum : ∀ (d : List Int), (∀ c ∈ d, isCp c = true) → ∀ s, goS sc0 0 d = .ok s → (s.toks.map fun t => t.text.length).sum ≤ (encAll d).length := by
  intro d
  induction d using snoc_ind with
  | h0 => intro _ s h; simp only [goS, Out.ok.injEq] at h; rw [← h]; simp [Sc.toks, sc0, curToks]
  | h1 d c ih =>
    intro hcp s h
    obtain ⟨s1, h1, h2⟩ := goS_prefix h
    rw [goS_snoc_ok h1, Nat.zero_add] at h
    have hi := ih (fun x hx => hcp x (by simp [hx])) s1 h1
    have he := (enc_pos c (hcp c (by simp))).1
    rw [encAll_append, encAll_one, List.length_append]
    rcases step_ok h with ⟨a, rfl⟩ | ⟨_, _, rfl⟩ | ⟨_, _, rfl⟩ | ⟨_, hc, hk, rfl⟩ | ⟨q, u, _, hcur, hk, hle, rfl⟩
    · simp [Sc.toks] at hi ⊢; omega
    · simp [Sc.toks, curToks] at hi ⊢; omega
    · simp [Sc.toks, curToks] at hi ⊢; omega
    · simp [Sc.toks, curToks, hc] at hi ⊢; omega
    · simp [Sc.toks, curToks, hcur] at hi ⊢; omega

theorem jn_len (xs : List By) : (jn xs).length ≤ (xs.map fun x => x.length).sum + xs.length := by
  cases xs with
  | nil => simp [jn]
  | cons x l =>
    rw [jn_cons]
    have : ∀ r : List By, ((r.map fun y => (32 : UInt8) :: y).flatten).length = (r.map fun x => x.length).sum + r.length := by
      intro r
      induction r with
      | nil => rfl
      | cons y r ih => simp only [List.map_cons, List.flatten_cons, List.length_append, List.length_cons, List.sum_cons, ih]; omega
    simp only [List.length_append, this, List.map_cons, List.sum_cons, List.length_cons]
    omega

/-- The joined text has just these tokens (of whatever length). -/
theorem join_lex_any (rk : List (List Int × Int)) (h : ∀ p ∈ rk, IsTok p.1 p.2) :
    (∀ c ∈ jcs rk, isCp c = true) ∧ ∃ st, goS sc0 0 (jcs rk) = .ok st ∧ st.toks.map strip = rk.map fun p => (p.2, encAll p.1) := by
  cases rk with
  | nil => exact ⟨by simp [jcs], sc0, rfl, rfl⟩
  | cons p l =>
    have hp := h p (by simp)
    have hps : ∀ x ∈ l.map (fun q : List Int × Int => (([32] : List Int), q.1, q.2)), Gap x.1 ∧ IsTok x.2.1 x.2.2 := by
      intro x hx
      obtain ⟨q, hq, rfl⟩ := List.mem_map.1 hx
      exact ⟨gap_blank 32 (by decide +kernel) (by decide), h q (by simp [hq])⟩
    obtain ⟨s1, a1, a2, a3⟩ := tok_go hp sc0 rfl rfl 0
    obtain ⟨s2, b1, b2, b3⟩ := lex_pairs _ hps s1 (0 + (encAll p.1).length) a2
    refine ⟨?_, s2, ?_, ?_⟩
    · intro c hc
      simp only [jcs, List.mem_append] at hc
      rcases hc with hc | hc
      · exact (isTok_cp hp).1 c hc
      · refine flat_cp _ ?_ c hc
        intro x hx
        obtain ⟨q, hq, rfl⟩ := List.mem_map.1 hx
        exact ⟨by simp only [List.mem_singleton]; rintro c rfl; decide +kernel, (isTok_cp (h q (by simp [hq]))).1⟩
    · simp only [jcs]
      rw [goS_append, a1]
      exact b1
    · rw [b3, a3]
      simp [strip, sc0, Sc.toks, curToks]

/-- What a token may be. -/
def TokP (t : Tok) : Prop := (t.kind = 1 ∧ nameP t.text) ∨ (t.kind = 2 ∧ ∃ c, isMark c = true ∧ t.text = enc c)

theorem toks_rk (l : List Tok) (h : ∀ t ∈ l, TokP t) : ∃ rk : List (List Int × Int), tx l = rk.map (fun p => encAll p.1) ∧ l.map strip = rk.map (fun p => (p.2, encAll p.1)) ∧ ∀ p ∈ rk, IsTok p.1 p.2 := by
  induction l with
  | nil => exact ⟨[], rfl, rfl, by simp⟩
  | cons t l ih =>
    obtain ⟨rk, a1, a2, a3⟩ := ih (fun u hu => h u (by simp [hu]))
    have : ∃ r k, IsTok r k ∧ t.text = encAll r ∧ t.kind = k := by
      rcases h t (by simp) with ⟨h1, r, h2, h3⟩ | ⟨h1, c, h2, h3⟩
      · exact ⟨r, 1, .inl ⟨rfl, h3⟩, h2, h1⟩
      · exact ⟨[c], 2, .inr ⟨rfl, c, h2, rfl⟩, by rw [h3]; simp [encAll], h1⟩
    obtain ⟨r, k, b1, b2, b3⟩ := this
    refine ⟨(r, k) :: rk, ?_, ?_, ?_⟩
    · rw [tx_cons, a1, b2]; rfl
    · rw [List.map_cons, a2, List.map_cons]
      simp [strip, b2, b3]
    · intro p hp
      rcases List.mem_cons.1 hp with rfl | hp
      · exact b1
      · exact a3 p hp

/-- Tokens whose texts are joined are found again. -/
theorem again_lex (l : List Tok) (h : ∀ t ∈ l, TokP t) : ∃ cs st, Parts (jn (tx l)) cs [] ∧ goS sc0 0 cs = .ok st ∧ st.toks.map strip = l.map strip := by
  obtain ⟨rk, a1, a2, a3⟩ := toks_rk l h
  obtain ⟨b1, st, b2, b3⟩ := join_lex_any rk a3
  refine ⟨jcs rk, st, ⟨by rw [a1, jcs_enc]; simp, b1, .inl rfl⟩, b2, by rw [b3, a2]⟩

theorem tx_strip {l m : List Tok} (h : l.map strip = m.map strip) : tx l = tx m := by
  have : (l.map strip).map (·.2) = (m.map strip).map (·.2) := by rw [h]
  simpa [tx, strip, Function.comp_def] using this

theorem rAns_good {n : Nat} {r : Res} {x : By} {t : Tr} (h : rAns n r = .good x t) : r.err = 0 ∧ (∃ k, rSaga nmP (tx r.toks) (tx r.toks).length = .ok (x, t) k) ∧ bigL (fltn 1 t) = false := by
  unfold rAns at h
  split at h
  · cases h
  · rename_i he
    split at h
    · cases h
    · rename_i y u k hs
      split at h
      · cases h
      · rename_i hb
        cases h
        exact ⟨by simpa using he, ⟨k, hs⟩, by simpa using hb⟩

theorem rAns_of {n : Nat} {r : Res} {x : By} {t : Tr} {k : Nat} (he : r.err = 0) (hs : rSaga nmP (tx r.toks) (tx r.toks).length = .ok (x, t) k) (hb : bigL (fltn 1 t) = false) : rAns n r = .good x t := by
  unfold rAns
  rw [if_neg (by simp [he])]
  rw [show r.toks.map (·.text) = tx r.toks from rfl, hs]
  simp [hb]

/-- What was read, printed, is read again. -/
theorem once_ans (s : ByteArray) (cs : List Int) (rest : List UInt8) (hp : Parts s.data.toList cs rest) (hs : s.size ≤ 5000) (x : By) (t : Tr) (h : rAns s.size (answer s cs rest) = .good x t) :
    ∃ cs2, Parts (textS x t) cs2 [] ∧ (textS x t).length ≤ 10000 ∧ (∀ n, rAns n (answer ⟨(textS x t).toArray⟩ cs2 []) = .good x t) ∧ (answer ⟨(textS x t).toArray⟩ cs2 []).toks.map strip = (answer s cs rest).toks.map strip ∧
      (answer s cs rest).toks.length ≤ 5000 ∧ rightS x t = true ∧ Bnd t ∧ (pr true t).length + 4 ≤ 100000 := by
  have hz := size_list s
  obtain ⟨he, ⟨k, hk⟩, hb⟩ := rAns_good h
  have hans : answer s cs rest = lexR cs rest := by unfold answer; rw [if_pos (by omega)]
  rw [hans] at he hk ⊢
  unfold lexR at he hk ⊢
  cases hg : goS sc0 0 cs with
  | err p e =>
    rw [hg] at hk
    dsimp only at hk
    have := (rSaga_sz hk).2
    simp [tx] at this
  | ok st =>
    rw [hg] at he hk
    dsimp only at he hk
    by_cases hr : rest = []
    · rw [if_pos hr] at hk
      dsimp only
      rw [if_pos hr]
      dsimp only at hk ⊢
      have hTP : ∀ u ∈ st.toks, TokP u := (tok_inv cs hp.cp st hg).2
      obtain ⟨h1, h2, h3, h4⟩ := rSaga_txt hk
      obtain ⟨cs2, st2, a1, a2, a3⟩ := again_lex st.toks hTP
      have hT : textS x t = jn (tx st.toks) := by rw [h1]; rfl
      have hlen : (encAll cs).length ≤ 5000 := by
        have e := congrArg List.length hp.eq
        rw [hr] at e
        simp at e
        omega
      have n1 := toks_len cs hp.cp st hg
      have n2 := toks_sum cs hp.cp st hg
      have n3 := jn_len (tx st.toks)
      have n4 : ((tx st.toks).map fun x => x.length).sum = (st.toks.map fun t => t.text.length).sum := by simp [tx, Function.comp_def]
      have n5 : (tx st.toks).length = st.toks.length := by simp [tx]
      have hjl : (jn (tx st.toks)).length ≤ 10000 := by omega
      rw [hT]
      have hsz : (⟨(jn (tx st.toks)).toArray⟩ : ByteArray).size ≤ 65536 := by show (jn (tx st.toks)).toArray.size ≤ _; simp; omega
      have hans2 : answer ⟨(jn (tx st.toks)).toArray⟩ cs2 [] = ⟨st2.toks, (encAll cs2).length, 0⟩ := by
        unfold answer lexR
        rw [if_pos hsz, a2]
        rfl
      have hb2 : Bnd t := Bnd.of_sz (by have := (rSaga_sz hk).1; omega) (rSaga_afs (by omega) hk)
      refine ⟨cs2, a1, hjl, ?_⟩
      rw [hans2]
      refine ⟨fun n => rAns_of rfl (k := k) (by show rSaga nmP (tx st2.toks) (tx st2.toks).length = _; rw [tx_strip a3]; exact hk) hb, a3, by omega, by rw [rSaga_right hk, hb]; rfl, hb2, ?_⟩
      have := congrArg List.length h1
      simp [tx, pSaga] at this
      omega
    · rw [if_neg hr] at he
      cases he
end Go.Proofs.Ytlmfmgpamhhncaa

/- A right saga's tokens are read as the saga (plain words). -/
namespace Go.Proofs.Ytlmfmgpamhhncaa

variable {L : List By}

theorem drop_hd {i : Nat} {x : By} {R : List By} (h : L.drop i = x :: R) : i < L.length ∧ L.drop (i + 1) = R ∧ ∀ s, isT L i s = (x == s) := by
  have hlt : i < L.length := by
    rcases Nat.lt_or_ge i L.length with h1 | h1
    · exact h1
    · rw [List.drop_eq_nil_of_le h1] at h; cases h
  rw [List.drop_eq_getElem_cons hlt] at h
  simp only [List.cons.injEq] at h
  refine ⟨hlt, h.2, fun s => ?_⟩
  simp [isT, List.getElem?_eq_getElem hlt, h.1]

theorem rName_of {i : Nat} {x : By} {R : List By} (h : L.drop i = x :: R) (hn : nmP x = true) : rName nmP L i = .ok x (i + 1) := by
  obtain ⟨h1, h2, h3⟩ := drop_hd h
  have := h3 x
  simp [isT] at this
  simp [rName, this, hn]

theorem rMore_of : ∀ (l : List By) (f i : Nat) (R : List By), (∀ y ∈ l, nmP y = true) → l.length < f → L.drop i = tx (pMore l) ++ R → (∀ y Q, R = y :: Q → y ≠ mAnd) → rMore nmP L f i = .ok l (i + (tx (pMore l)).length) ∧ L.drop (i + (tx (pMore l)).length) = R := by
  intro l
  induction l with
  | nil =>
    intro f i R _ hf h hR
    cases f with
    | zero => omega
    | succ f =>
      have h' : L.drop i = R := by simpa [pMore, tx] using h
      have hT : isT L i mAnd = false := by
        cases R with
        | nil =>
          have : L.length ≤ i := by simpa using h'
          simp [isT, List.getElem?_eq_none this]
        | cons y Q =>
          rw [(drop_hd h').2.2]
          simp [hR y Q rfl]
      simp [rMore, hT, pMore, tx, h']
  | cons x l ih =>
    intro f i R hn hf h hR
    cases f with
    | zero => omega
    | succ f =>
      have h' : L.drop i = mAnd :: (x :: (tx (pMore l) ++ R)) := by simpa [pMore, tx, mkT, nmT] using h
      obtain ⟨h1, h2, h3⟩ := drop_hd h'
      have hx := rName_of h2 (hn x (by simp))
      obtain ⟨_, h4, _⟩ := drop_hd h2
      obtain ⟨e1, e2⟩ := ih f (i + 1 + 1) R (fun y hy => hn y (by simp [hy])) (by simp at hf; omega) h4 hR
      have hl : (tx (pMore (x :: l))).length = (tx (pMore l)).length + 2 := by simp [pMore, tx]
      rw [hl, show i + ((tx (pMore l)).length + 2) = i + 1 + 1 + (tx (pMore l)).length by omega]
      refine ⟨?_, e2⟩
      unfold rMore
      rw [if_pos (by rw [h3]; exact beq_self_eq_true _), hx]
      dsimp only
      rw [e1]

theorem rLean_of (l : List By) (i : Nat) (R : List By) (hn : ∀ y ∈ l, nmP y = true) (h : L.drop i = tx (pLean l) ++ R) (hR : ∀ y Q, R = y :: Q → y ≠ mAnd ∧ y ≠ wAfter) : rLean nmP L i = .ok l (i + (tx (pLean l)).length) ∧ L.drop (i + (tx (pLean l)).length) = R := by
  cases l with
  | nil =>
    have h' : L.drop i = R := by simpa [pLean, tx] using h
    have hT : isT L i wAfter = false := by
      cases R with
      | nil =>
        have : L.length ≤ i := by simpa using h'
        simp [isT, List.getElem?_eq_none this]
      | cons y Q =>
        rw [(drop_hd h').2.2]
        simp [(hR y Q rfl).2]
    simp [rLean, hT, pLean, tx, h']
  | cons x l =>
    have h' : L.drop i = wAfter :: (x :: (tx (pMore l) ++ R)) := by simpa [pLean, tx, nmT] using h
    obtain ⟨h1, h2, h3⟩ := drop_hd h'
    have hx := rName_of h2 (hn x (by simp))
    obtain ⟨_, h4, _⟩ := drop_hd h2
    have hlen : l.length < L.length + 1 := by
      have := congrArg List.length h4
      have h5 : (tx (pMore l)).length = 2 * l.length := by
        clear h h' h4 hx h2 hn this
        induction l with
        | nil => rfl
        | cons y l ih => simp [pMore, tx] at ih ⊢; omega
      simp [h5] at this
      omega
    obtain ⟨e1, e2⟩ := rMore_of l (L.length + 1) (i + 1 + 1) R (fun y hy => hn y (by simp [hy])) hlen h4 (fun y Q hq => (hR y Q hq).1)
    have hl : (tx (pLean (x :: l))).length = (tx (pMore l)).length + 2 := by simp [pLean, tx]
    rw [hl, show i + ((tx (pMore l)).length + 2) = i + 1 + 1 + (tx (pMore l)).length by omega]
    refine ⟨?_, e2⟩
    unfold rLean
    rw [if_pos (by rw [h3]; exact beq_self_eq_true _), hx]
    dsimp only
    rw [e1]

theorem rStep_of (l : Lab) (i : Nat) (R : List By) (hs : l.sub = false) (hok : nodeOk l 0 = true) (h : L.drop i = tx (pStep l) ++ R) : isT L i wStep = true ∧ rStep nmP L (i + 1) = .ok l (i + (tx (pStep l)).length) ∧ L.drop (i + (tx (pStep l)).length) = R := by
  obtain ⟨nm, un, af, sb, vt⟩ := l
  dsimp only at hs
  subst hs
  simp only [nodeOk, Bool.false_eq_true, if_false, decide_true, Bool.and_true, Bool.and_eq_true, List.all_eq_true, Bool.or_eq_true, beq_iff_eq, Bool.not_eq_true'] at hok
  obtain ⟨⟨k1, k2⟩, k3, rfl⟩ := hok
  by_cases hu : un = []
  · subst hu
    have h' : L.drop i = wStep :: (nm :: (tx (pLean af) ++ (mEnd :: R))) := by simpa [pStep, tx, nmT, mkT] using h
    obtain ⟨_, h2, h3⟩ := drop_hd h'
    have hx := rName_of h2 k1
    obtain ⟨_, h4, _⟩ := drop_hd h2
    have hU : isT L (i + 1 + 1) wUndo = false := by
      cases af with
      | nil =>
        rw [(drop_hd (x := mEnd) (R := R) (by simpa [pLean, tx] using h4)).2.2]; rfl
      | cons y af =>
        rw [(drop_hd (x := wAfter) (R := y :: (tx (pMore af) ++ (mEnd :: R))) (by simpa [pLean, tx, nmT] using h4)).2.2]; rfl
    have hU2 : rUndo nmP L (i + 1 + 1) = .ok [] (i + 1 + 1) := by simp [rUndo, hU]
    obtain ⟨e1, e2⟩ := rLean_of af (i + 1 + 1) (mEnd :: R) k2 h4 (by rintro y Q hq; simp at hq; rw [← hq.1]; exact ⟨by decide, by decide⟩)
    obtain ⟨_, h6, h7⟩ := drop_hd e2
    refine ⟨by rw [h3]; exact beq_self_eq_true _, ?_, ?_⟩
    · have hl : i + (tx (pStep ⟨nm, [], af, false, false⟩)).length = i + 1 + 1 + (tx (pLean af)).length + 1 := by simp [pStep, tx]; omega
      rw [hl]
      unfold rStep
      rw [hx]
      dsimp only
      rw [hU2]
      dsimp only
      rw [e1]
      dsimp only
      rw [if_pos (by rw [h7]; exact beq_self_eq_true _)]
    · have hl : i + (tx (pStep ⟨nm, [], af, false, false⟩)).length = i + 1 + 1 + (tx (pLean af)).length + 1 := by simp [pStep, tx]; omega
      rw [hl, h6]
  · have kU : nmP un = true := by rcases k3 with k3 | k3; exact absurd k3 hu; exact k3
    have h' : L.drop i = wStep :: (nm :: (wUndo :: (un :: (tx (pLean af) ++ (mEnd :: R))))) := by simpa [pStep, tx, nmT, mkT, hu] using h
    obtain ⟨_, h2, h3⟩ := drop_hd h'
    have hx := rName_of h2 k1
    obtain ⟨_, h4, _⟩ := drop_hd h2
    obtain ⟨_, h5, h5'⟩ := drop_hd h4
    have hy := rName_of h5 kU
    obtain ⟨_, h8, _⟩ := drop_hd h5
    have hU2 : rUndo nmP L (i + 1 + 1) = .ok un (i + 1 + 1 + 1 + 1) := by
      unfold rUndo
      rw [if_pos (by rw [h5']; exact beq_self_eq_true _), hy]
    obtain ⟨e1, e2⟩ := rLean_of af (i + 1 + 1 + 1 + 1) (mEnd :: R) k2 h8 (by rintro y Q hq; simp at hq; rw [← hq.1]; exact ⟨by decide, by decide⟩)
    obtain ⟨_, h6, h7⟩ := drop_hd e2
    have hl : i + (tx (pStep ⟨nm, un, af, false, false⟩)).length = i + 1 + 1 + 1 + 1 + (tx (pLean af)).length + 1 := by simp [pStep, tx, hu]; omega
    refine ⟨by rw [h3]; exact beq_self_eq_true _, ?_, ?_⟩
    · rw [hl]
      unfold rStep
      rw [hx]
      dsimp only
      rw [hU2]
      dsimp only
      rw [e1]
      dsimp only
      rw [if_pos (by rw [h7]; exact beq_self_eq_true _)]
    · rw [hl, h6]

theorem bare_e {t : Tr} (h : t.ok true = true) (hl : t.len = 0) : t = .e := by
  cases t with
  | e => rfl
  | b x r => simp [Tr.len] at hl
  | n l t r => simp [Tr.len] at hl

/-- How many tokens. -/
def pn (t : Tr) : Nat := (tx (pr true t)).length

theorem rd_back : ∀ (t : Tr) (k : Bool) (f i : Nat) (R : List By), t.ok k = true → (k = true → 0 < t.len) → allOk t → pn t + 1 ≤ f → L.drop i = tx (pr true t) ++ ((if k then mShut else mOut) :: R) → rd nmP L f k i = .ok t (i + pn t + 1) ∧ L.drop (i + pn t + 1) = R := by
  intro t
  induction t with
  | e =>
    intro k f i R _ hk _ hf h
    cases k with
    | true => have := hk rfl; simp [Tr.len] at this
    | false =>
      cases f with
      | zero => omega
      | succ f =>
        have h' : L.drop i = mOut :: R := by simpa [pr, tx] using h
        obtain ⟨_, h2, h3⟩ := drop_hd h'
        have hT : isT L i mOut = true := by rw [h3]; exact beq_self_eq_true _
        simp [rd, hT, pn, pr, tx, h2]
  | b x r ih1 ih2 =>
    intro k f i R hok hk hall hf h
    cases k with
    | false => simp [Tr.ok] at hok
    | true =>
      simp only [Tr.ok, Bool.true_and, Bool.and_eq_true] at hok
      cases f with
      | zero => omega
      | succ f =>
        have ha1 : allOk x := fun d => by have := hall d; simp only [fltn, okL_append, Bool.and_eq_true] at this; exact this.1
        have ha2 : allOk r := fun d => by have := hall d; simp only [fltn, okL_append, Bool.and_eq_true] at this; exact this.2
        have h' : L.drop i = mIn :: (tx (pr true x) ++ (mOut :: (tx (pr false r) ++ (mShut :: R)))) := by simpa [pr, tx, mkT] using h
        obtain ⟨_, h2, h3⟩ := drop_hd h'
        have hT : isT L i mIn = true := by rw [h3]; exact beq_self_eq_true _
        have hpn : pn (.b x r) = 1 + pn x + 1 + (tx (pr false r)).length := by simp [pn, pr, tx]; omega
        obtain ⟨e1, e2⟩ := ih1 false f (i + 1) _ hok.1 (fun h => by cases h) ha1 (by omega) h2
        by_cases hl : r.len = 0
        · obtain rfl := bare_e hok.2 hl
          have e2' : L.drop (i + 1 + pn x + 1) = mShut :: R := by simpa [pr, tx] using e2
          obtain ⟨_, h6, h7⟩ := drop_hd e2'
          have hp2 : i + pn (.b x .e) + 1 = i + 1 + pn x + 1 + 1 := by rw [hpn]; simp [pr, tx]; omega
          rw [hp2]
          refine ⟨?_, h6⟩
          unfold rd
          rw [if_pos hT, e1]
          dsimp only
          rw [if_neg (by rw [h7]; decide), if_pos (by rw [h7]; exact beq_self_eq_true _)]
        · have hpo := pr_or r hok.2 (by omega)
          rw [hpo] at e2
          have e2' : L.drop (i + 1 + pn x + 1) = wOr :: (tx (pr true r) ++ (mShut :: R)) := by simpa [tx, nmT] using e2
          obtain ⟨_, h6, h7⟩ := drop_hd e2'
          have hpr : (tx (pr false r)).length = pn r + 1 := by rw [hpo]; simp [pn, tx]
          obtain ⟨e3, e4⟩ := ih2 true f (i + 1 + pn x + 1 + 1) R hok.2 (fun _ => by omega) ha2 (by omega) h6
          have hp2 : i + pn (.b x r) + 1 = i + 1 + pn x + 1 + 1 + pn r + 1 := by rw [hpn, hpr]; omega
          rw [hp2]
          refine ⟨?_, e4⟩
          unfold rd
          rw [if_pos hT, e1]
          dsimp only
          rw [if_pos (by rw [h7]; exact beq_self_eq_true _), e3]
  | n l t r ih1 ih2 =>
    intro k f i R hok hk hall hf h
    cases k with
    | true => simp [Tr.ok] at hok
    | false =>
      simp only [Tr.ok, Bool.not_false, Bool.true_and, Bool.and_eq_true] at hok
      cases f with
      | zero => omega
      | succ f =>
        have h0 := hall 0
        simp only [fltn, okL_cons, okL_append, Bool.and_eq_true] at h0
        have ha2 : allOk r := fun d => by have := hall d; simp only [fltn, okL_cons, okL_append, Bool.and_eq_true] at this; exact this.2.2
        rw [pr_n] at h
        have hpn : pn (.n l t r) = (tx (pNode l t)).length + pn r := by simp [pn, pr_n, tx]
        have h' : L.drop i = tx (pNode l t) ++ (tx (pr true r) ++ (mOut :: R)) := by simpa [tx] using h
        -- the node itself
        have node : isT L i mOut = false ∧ rNode nmP L (brace L (rd nmP L f true)) i = .ok (l, t) (i + (tx (pNode l t)).length) ∧ L.drop (i + (tx (pNode l t)).length) = tx (pr true r) ++ (mOut :: R) := by
          cases hs : l.sub with
          | false =>
            have hlen : t.len = 0 := by
              have := h0.1
              simp [nodeOk, hs] at this
              exact this.2.2
            obtain rfl := bare_e hok.1 hlen
            have hN : pNode l .e = pStep l := by simp [pNode, hs]
            rw [hN] at h' ⊢
            obtain ⟨s1, s2, s3⟩ := rStep_of l i _ hs h0.1 h'
            refine ⟨?_, ?_, s3⟩
            · have : L[i]? = some wStep := by simpa [isT] using s1
              simp [isT, this]; decide
            · unfold rNode
              rw [if_pos s1, s2]
          | true =>
            obtain ⟨nm, un, af, sb, vt⟩ := l
            dsimp only at hs
            subst hs
            have hk0 := h0.1
            simp only [nodeOk, if_true, Bool.and_eq_true, List.all_eq_true, beq_iff_eq, decide_eq_true_eq] at hk0
            obtain ⟨⟨k1, k2⟩, rfl, k4⟩ := hk0
            have ha1 : allOk t := fun d => by
              cases d with
              | zero =>
                have := hall 0
                -- at whatever depth the nodes are the same
                have hd : ∀ (u : Tr) (a b : Nat), okL (fltn a u) = okL (fltn b u) := by
                  intro u
                  induction u with
                  | e => intro a b; rfl
                  | b x r i1 i2 => intro a b; simp only [fltn, okL_append, i1 a b, i2 a b]
                  | n l x r i1 i2 =>
                    intro a b
                    simp only [fltn, okL_cons, okL_append, i2 a b]
                    split
                    · rw [i1 (a + 1) (b + 1)]
                    · rfl
                simp only [fltn, okL_cons, okL_append, if_true, Bool.and_eq_true] at this
                rw [hd t 0 1]
                exact this.2.1
              | succ d =>
                have := hall d
                simp only [fltn, okL_cons, okL_append, if_true, Bool.and_eq_true] at this
                exact this.2.1
            obtain ⟨V, hV, hV1⟩ : ∃ V, V = (if vt then wVital else wLoose) ∧ (V = wVital ∨ V = wLoose) := ⟨_, rfl, by cases vt; exact .inr rfl; exact .inl rfl⟩
            have hN : tx (pNode ⟨nm, [], af, true, vt⟩ t) = V :: (wSub :: (nm :: (tx (pLean af) ++ (mOpen :: (tx (pr true t) ++ [mShut]))))) := by simp [pNode, tx, nmT, mkT, hV]
            rw [hN] at h' ⊢
            have h'' : L.drop i = V :: (wSub :: (nm :: (tx (pLean af) ++ (mOpen :: (tx (pr true t) ++ (mShut :: (tx (pr true r) ++ (mOut :: R)))))))) := by simpa using h'
            obtain ⟨_, g2, g3⟩ := drop_hd h''
            obtain ⟨_, g4, g5⟩ := drop_hd g2
            obtain ⟨_, g6, _⟩ := drop_hd g4
            have hx := rName_of g4 k1
            obtain ⟨e1, e2⟩ := rLean_of af (i + 1 + 1 + 1) _ k2 g6 (by rintro y Q hq; simp at hq; rw [← hq.1]; exact ⟨by decide, by decide⟩)
            obtain ⟨_, g8, g9⟩ := drop_hd e2
            have hf2 : pn t + 1 ≤ f := by
              have : pn (.n ⟨nm, [], af, true, vt⟩ t r) = (tx (pNode ⟨nm, [], af, true, vt⟩ t)).length + pn r := hpn
              rw [hN] at this
              simp at this
              have : (tx (pr true t)).length = pn t := rfl
              omega
            obtain ⟨e3, e4⟩ := ih1 true f (i + 1 + 1 + 1 + (tx (pLean af)).length + 1) _ hok.1 (fun _ => k4) ha1 hf2 g8
            have hpos : i + (V :: (wSub :: (nm :: (tx (pLean af) ++ (mOpen :: (tx (pr true t) ++ [mShut])))))).length = i + 1 + 1 + 1 + (tx (pLean af)).length + 1 + pn t + 1 := by simp [pn]; omega
            rw [hpos]
            refine ⟨?_, ?_, e4⟩
            · rw [g3]; rcases hV1 with rfl | rfl <;> decide
            · have hst : isT L i wStep = false := by rw [g3]; rcases hV1 with rfl | rfl <;> decide
              have hvl : (isT L i wVital || isT L i wLoose) = true := by rw [g3, g3]; rcases hV1 with rfl | rfl <;> decide
              have hvt : isT L i wVital = vt := by rw [g3, hV]; cases vt <;> decide
              unfold rNode
              rw [if_neg (by rw [hst]; decide), if_pos hvl, if_pos (by rw [g5]; exact beq_self_eq_true _)]
              unfold rSub
              rw [hx]
              dsimp only
              rw [e1]
              dsimp only
              have hbr : brace L (rd nmP L f true) (i + 1 + 1 + 1 + (tx (pLean af)).length) = .ok t (i + 1 + 1 + 1 + (tx (pLean af)).length + 1 + pn t + 1) := by
                unfold brace
                rw [if_pos (by rw [g9]; exact beq_self_eq_true _), e3]
              rw [hbr]
              dsimp only
              rw [hvt]
        obtain ⟨n1, n2, n3⟩ := node
        have hpos : 1 ≤ (tx (pNode l t)).length := by
          unfold pNode
          split <;> simp [tx, pStep] <;> omega
        obtain ⟨e3, e4⟩ := ih2 false f (i + (tx (pNode l t)).length) R hok.2 (fun h => by cases h) ha2 (by omega) n3
        have hp2 : i + pn (.n l t r) + 1 = i + (tx (pNode l t)).length + pn r + 1 := by rw [hpn]; omega
        rw [hp2]
        refine ⟨?_, e4⟩
        unfold rd
        rw [if_neg (by rw [n1]; decide), n2]
        dsimp only
        rw [e3]

/-- A right saga's tokens are read as the saga. -/
theorem rSaga_of {x : By} {t : Tr} (hx : nmP x = true) (ht : t.ok true = true) (hl : 0 < t.len) (ha : allOk t) : rSaga nmP (tx (pSaga x t)) (tx (pSaga x t)).length = .ok (x, t) (tx (pSaga x t)).length := by
  obtain ⟨L, hL⟩ : ∃ L, L = tx (pSaga x t) := ⟨_, rfl⟩
  rw [← hL]
  have h0 : L.drop 0 = wSaga :: (x :: (mOpen :: (tx (pr true t) ++ [mShut]))) := by rw [hL]; simp [pSaga, tx, nmT, mkT]
  obtain ⟨_, h2, h3⟩ := drop_hd h0
  have hn := rName_of h2 hx
  obtain ⟨_, h4, _⟩ := drop_hd h2
  obtain ⟨_, h5, h6⟩ := drop_hd h4
  have hlen : L.length = pn t + 4 := by rw [hL]; simp [pSaga, tx, pn]
  obtain ⟨e1, e2⟩ := rd_back t true L.length (0 + 1 + 1 + 1) [] ht (fun _ => hl) ha (by omega) h5
  unfold rSaga
  rw [if_pos (by rw [h3]; exact beq_self_eq_true _), show (1 : Nat) = 0 + 1 from rfl, hn]
  dsimp only
  unfold brace
  rw [if_pos (by rw [h6]; exact beq_self_eq_true _), e1]
  dsimp only
  rw [if_pos (by omega)]
  rw [show 0 + 1 + 1 + 1 + pn t + 1 = L.length by omega]
end Go.Proofs.Ytlmfmgpamhhncaa

/- A saga's tokens without the last ones: the reader stops at their end (plain words). -/
namespace Go.Proofs.Ytlmfmgpamhhncaa

variable {L : List By} {m : Nat}

theorem isT_take (i : Nat) (s : By) : isT (L.take m) i s = (decide (i < m) && isT L i s) := by
  simp only [isT, List.getElem?_take]
  by_cases h : i < m
  · simp [h]
  · simp [h]

theorem isT_take_lt {i : Nat} (s : By) (h : i < m) : isT (L.take m) i s = isT L i s := by simp [isT_take, h]
theorem isT_take_ge {i : Nat} (s : By) (h : m ≤ i) : isT (L.take m) i s = false := by simp [isT_take]; omega

/-- What a reader gets of fewer tokens, it gets of all of them; where it stops, it stops with all of them too, or stands at the end. -/
def Rel (m : Nat) {α : Type} (a b : Got α) : Prop := match a with
  | .ok v j => b = .ok v j
  | .no j => j = m ∨ b = .no j

/-- The same, where what follows is not asked for: short of the end. -/
def Rew (m : Nat) {α : Type} (a b : Got α) : Prop := match a with
  | .ok v j => j < m → b = .ok v j
  | .no j => j = m ∨ b = .no j

theorem rName_rel (i : Nat) (hi : i ≤ m) : Rel m (rName nmP (L.take m) i) (rName nmP L i) := by
  unfold rName
  rw [List.getElem?_take]
  by_cases h : i < m
  · rw [if_pos h]
    cases L[i]? with
    | none => exact .inr rfl
    | some t =>
      dsimp only
      split
      · exact rfl
      · exact .inr rfl
  · rw [if_neg h]
    exact .inl (by omega)

theorem rMore_rew (hm : m ≤ L.length) (f' : Nat) : ∀ f i, i ≤ m → m < i + f' → L.length < i + f → Rew m (rMore nmP (L.take m) f' i) (rMore nmP L f i) := by
  have hml : (L.take m).length = m := by simp; omega
  induction f' with
  | zero => intro f i hi hf hg; omega
  | succ f' ih =>
    intro f i hi hf hg
    cases f with
    | zero => omega
    | succ f =>
      unfold rMore
      by_cases h : i < m
      · rw [isT_take_lt _ h]
        split
        · have h1 := rName_rel (L := L) (i + 1) (show i + 1 ≤ m by omega)
          have hft := rName_fit nmP (L.take m) (i + 1) (by omega)
          cases hr : rName nmP (L.take m) (i + 1) with
          | no j =>
            rw [hr] at h1
            rcases h1 with h1 | h1
            · exact .inl h1
            · rw [h1]; exact .inr rfl
          | ok t j =>
            rw [hr] at h1 hft
            rw [show rName nmP L (i + 1) = .ok t j from h1]
            dsimp only
            have hj : i + 1 + 1 ≤ j ∧ j ≤ m := ⟨hft.1, by rw [← hml]; exact hft.2⟩
            have h2 := ih f j hj.2 (by omega) (by omega)
            cases hq : rMore nmP (L.take m) f' j with
            | no k =>
              rw [hq] at h2
              rcases h2 with h2 | h2
              · exact .inl h2
              · rw [h2]; exact .inr rfl
            | ok l k =>
              rw [hq] at h2
              intro hk
              rw [h2 hk]
        · exact fun _ => rfl
      · rw [isT_take_ge _ (by omega)]
        simp only [Bool.false_eq_true, if_false]
        intro hk
        omega

theorem rLean_rew (hm : m ≤ L.length) (i : Nat) (hi : i ≤ m) : Rew m (rLean nmP (L.take m) i) (rLean nmP L i) := by
  have hml : (L.take m).length = m := by simp; omega
  unfold rLean
  by_cases h : i < m
  · rw [isT_take_lt _ h]
    split
    · have h1 := rName_rel (L := L) (i + 1) (show i + 1 ≤ m by omega)
      have hft := rName_fit nmP (L.take m) (i + 1) (by omega)
      cases hr : rName nmP (L.take m) (i + 1) with
      | no j =>
        rw [hr] at h1
        rcases h1 with h1 | h1
        · exact .inl h1
        · rw [h1]; exact .inr rfl
      | ok t j =>
        rw [hr] at h1 hft
        rw [show rName nmP L (i + 1) = .ok t j from h1]
        dsimp only
        have hj : i + 1 + 1 ≤ j ∧ j ≤ m := ⟨hft.1, by rw [← hml]; exact hft.2⟩
        have h2 := rMore_rew hm ((L.take m).length + 1) (L.length + 1) j hj.2 (by omega) (by omega)
        cases hq : rMore nmP (L.take m) ((L.take m).length + 1) j with
        | no k =>
          rw [hq] at h2
          rcases h2 with h2 | h2
          · exact .inl h2
          · rw [h2]; exact .inr rfl
        | ok l k =>
          rw [hq] at h2
          intro hk
          rw [h2 hk]
    · exact fun _ => rfl
  · rw [isT_take_ge _ (by omega)]
    simp only [Bool.false_eq_true, if_false]
    intro hk
    omega

theorem rUndo_rew (i : Nat) (hi : i ≤ m) : Rew m (rUndo nmP (L.take m) i) (rUndo nmP L i) := by
  unfold rUndo
  by_cases h : i < m
  · rw [isT_take_lt _ h]
    split
    · have h1 := rName_rel (L := L) (i + 1) (show i + 1 ≤ m by omega)
      cases hr : rName nmP (L.take m) (i + 1) with
      | no j => rw [hr] at h1; exact h1
      | ok t j => rw [hr] at h1; exact fun _ => h1
    · exact fun _ => rfl
  · rw [isT_take_ge _ (by omega)]
    simp only [Bool.false_eq_true, if_false]
    intro hk
    omega

/-- Behind the end nothing is read. -/
theorem rUndo_end : rUndo nmP (L.take m) m = .ok [] m := by simp [rUndo, isT_take]
theorem rLean_end : rLean nmP (L.take m) m = .ok [] m := by simp [rLean, isT_take]

theorem rStep_rel (hm : m ≤ L.length) (i : Nat) (hi : i ≤ m) : Rel m (rStep nmP (L.take m) i) (rStep nmP L i) := by
  have hml : (L.take m).length = m := by simp; omega
  unfold rStep
  have h1 := rName_rel (L := L) i hi
  have hft := rName_fit nmP (L.take m) i (by omega)
  cases hr : rName nmP (L.take m) i with
  | no j =>
    rw [hr] at h1
    rcases h1 with h1 | h1
    · exact .inl h1
    · rw [h1]; exact .inr rfl
  | ok x j =>
    rw [hr] at h1 hft
    rw [show rName nmP L i = .ok x j from h1]
    dsimp only
    have hj : j ≤ m := by rw [← hml]; exact hft.2
    have h2 := rUndo_rew (L := L) j hj
    have hf2 := rUndo_fit nmP (L.take m) j (by omega)
    cases hu : rUndo nmP (L.take m) j with
    | no k =>
      rw [hu] at h2
      rcases h2 with h2 | h2
      · exact .inl h2
      · rw [h2]; exact .inr rfl
    | ok u k =>
      rw [hu] at h2 hf2
      dsimp only
      have hk : k ≤ m := by rw [← hml]; exact hf2.2
      by_cases hkm : k < m
      · rw [h2 hkm]
        dsimp only
        have h3 := rLean_rew hm k hk
        have hf3 := rLean_fit nmP (L.take m) k (by omega)
        cases hl : rLean nmP (L.take m) k with
        | no q =>
          rw [hl] at h3
          rcases h3 with h3 | h3
          · exact .inl h3
          · rw [h3]; exact .inr rfl
        | ok a q =>
          rw [hl] at h3 hf3
          dsimp only
          have hq : q ≤ m := by rw [← hml]; exact hf3.2
          by_cases hqm : q < m
          · rw [h3 hqm]
            dsimp only
            rw [isT_take_lt _ hqm]
            split
            · exact rfl
            · exact .inr rfl
          · rw [isT_take_ge _ (by omega)]
            simp only [Bool.false_eq_true, if_false]
            exact .inl (by omega)
      · obtain rfl : k = m := by omega
        rw [rLean_end]
        dsimp only
        rw [isT_take_ge _ (Nat.le_refl _)]
        simp only [Bool.false_eq_true, if_false]
        exact .inl rfl

theorem rSub_rel (hm : m ≤ L.length) (g' g : Nat → Got Tr) (v : Bool) (i0 : Nat) (hg : ∀ j, i0 < j → j ≤ m → Rel m (g' j) (g j)) (hend : g' m = .no m) (i : Nat) (h0 : i0 ≤ i) (hi : i ≤ m) : Rel m (rSub nmP (L.take m) g' v i) (rSub nmP L g v i) := by
  have hml : (L.take m).length = m := by simp; omega
  unfold rSub
  have h1 := rName_rel (L := L) i hi
  have hft := rName_fit nmP (L.take m) i (by omega)
  cases hr : rName nmP (L.take m) i with
  | no j =>
    rw [hr] at h1
    rcases h1 with h1 | h1
    · exact .inl h1
    · rw [h1]; exact .inr rfl
  | ok x j =>
    rw [hr] at h1 hft
    rw [show rName nmP L i = .ok x j from h1]
    dsimp only
    have hj : j ≤ m := by rw [← hml]; exact hft.2
    have hj1 : i + 1 ≤ j := hft.1
    have h3 := rLean_rew hm j hj
    have hf3 := rLean_fit nmP (L.take m) j (by omega)
    cases hl : rLean nmP (L.take m) j with
    | no q =>
      rw [hl] at h3
      rcases h3 with h3 | h3
      · exact .inl h3
      · rw [h3]; exact .inr rfl
    | ok a q =>
      rw [hl] at h3 hf3
      dsimp only
      have hq : q ≤ m := by rw [← hml]; exact hf3.2
      have hq1 : j + 0 ≤ q := hf3.1
      by_cases hqm : q < m
      · rw [h3 hqm]
        dsimp only
        have h4 := hg q (by omega) hq
        cases ha : g' q with
        | no r =>
          rw [ha] at h4
          rcases h4 with h4 | h4
          · exact .inl h4
          · rw [h4]; exact .inr rfl
        | ok t r =>
          rw [ha] at h4
          rw [show g q = .ok t r from h4]
          exact rfl
      · obtain rfl : q = m := by omega
        rw [hend]
        exact .inl rfl

theorem rNode_rel (hm : m ≤ L.length) (g' g : Nat → Got Tr) (i : Nat) (hg : ∀ j, i < j → j ≤ m → Rel m (g' j) (g j)) (hend : g' m = .no m) (hi : i ≤ m) : Rel m (rNode nmP (L.take m) g' i) (rNode nmP L g i) := by
  unfold rNode
  by_cases h : i < m
  · rw [isT_take_lt _ h, isT_take_lt _ h, isT_take_lt _ h]
    split
    · have h1 := rStep_rel hm (i + 1) h
      cases hr : rStep nmP (L.take m) (i + 1) with
      | no j =>
        rw [hr] at h1
        rcases h1 with h1 | h1
        · exact .inl h1
        · rw [h1]; exact .inr rfl
      | ok l j =>
        rw [hr] at h1
        rw [show rStep nmP L (i + 1) = .ok l j from h1]
        exact rfl
    · split
      · by_cases h2 : i + 1 < m
        · rw [isT_take_lt _ h2]
          split
          · exact rSub_rel hm g' g _ i hg hend (i + 2) (by omega) (by omega)
          · exact .inr rfl
        · rw [isT_take_ge _ (by omega)]
          simp only [Bool.false_eq_true, if_false]
          exact .inl (by omega)
      · exact .inr rfl
  · have : ∀ s, isT (L.take m) i s = false := fun s => isT_take_ge s (by omega)
    simp only [this, Bool.false_eq_true, if_false, Bool.or_self]
    exact .inl (by omega)

theorem brace_rel (g' g : Nat → Got Tr) (i : Nat) (hg : i + 1 ≤ m → Rel m (g' (i + 1)) (g (i + 1))) (hi : i ≤ m) : Rel m (brace (L.take m) g' i) (brace L g i) := by
  unfold brace
  by_cases h : i < m
  · rw [isT_take_lt _ h]
    split
    · exact hg h
    · exact .inr rfl
  · rw [isT_take_ge _ (by omega)]
    simp only [Bool.false_eq_true, if_false]
    exact .inl (by omega)

theorem rd_rel (hm : m < L.length) (f' : Nat) : ∀ f k i, i ≤ m → m ≤ i + f' → L.length ≤ i + f → Rel m (rd nmP (L.take m) f' k i) (rd nmP L f k i) := by
  have hml : (L.take m).length = m := by simp; omega
  induction f' with
  | zero =>
    intro f k i hi hf _
    cases k <;> exact .inl (by omega)
  | succ f' ih =>
    intro f k i hi hf hg
    cases f with
    | zero => omega
    | succ f =>
      cases k with
      | true =>
        unfold rd
        by_cases h : i < m
        · rw [isT_take_lt _ h]
          split
          · have h1 := ih f false (i + 1) h (by omega) (by omega)
            have hft := rd_fit nmP (L.take m) f' false (i + 1) (by omega)
            cases hr : rd nmP (L.take m) f' false (i + 1) with
            | no j =>
              rw [hr] at h1
              rcases h1 with h1 | h1
              · exact .inl h1
              · rw [h1]; exact .inr rfl
            | ok x j =>
              rw [hr] at h1 hft
              rw [show rd nmP L f false (i + 1) = .ok x j from h1]
              dsimp only
              have hj : i + 1 + 0 ≤ j ∧ j ≤ m := ⟨hft.1, by rw [← hml]; exact hft.2⟩
              by_cases hjm : j < m
              · rw [isT_take_lt _ hjm, isT_take_lt _ hjm]
                split
                · have h2 := ih f true (j + 1) (by omega) (by omega) (by omega)
                  cases hq : rd nmP (L.take m) f' true (j + 1) with
                  | no k =>
                    rw [hq] at h2
                    rcases h2 with h2 | h2
                    · exact .inl h2
                    · rw [h2]; exact .inr rfl
                  | ok r k =>
                    rw [hq] at h2
                    rw [show rd nmP L f true (j + 1) = .ok r k from h2]
                    exact rfl
                · split
                  · exact rfl
                  · exact .inr rfl
              · have : ∀ s, isT (L.take m) j s = false := fun s => isT_take_ge s (by omega)
                simp only [this, Bool.false_eq_true, if_false]
                exact .inl (by omega)
          · exact .inr rfl
        · rw [isT_take_ge _ (by omega)]
          simp only [Bool.false_eq_true, if_false]
          exact .inl (by omega)
      | false =>
        unfold rd
        by_cases h : i < m
        · rw [isT_take_lt _ h]
          split
          · exact rfl
          · have hbe : brace (L.take m) (rd nmP (L.take m) f' true) m = .no m := by
              unfold brace
              rw [isT_take_ge _ (Nat.le_refl _)]
              rfl
            have h1 := rNode_rel (Nat.le_of_lt hm) (brace (L.take m) (rd nmP (L.take m) f' true)) (brace L (rd nmP L f true)) i (fun j hj hjm => brace_rel _ _ j (fun h2 => ih f true (j + 1) h2 (by omega) (by omega)) hjm) hbe hi
            have hft := rNode_fit nmP (L.take m) (brace (L.take m) (rd nmP (L.take m) f' true)) (fun k hk => (brace_fit (L.take m) _ (rd_fit nmP (L.take m) f' true) k hk).zero) i (by omega)
            cases hr : rNode nmP (L.take m) (brace (L.take m) (rd nmP (L.take m) f' true)) i with
            | no j =>
              rw [hr] at h1
              rcases h1 with h1 | h1
              · exact .inl h1
              · rw [h1]; exact .inr rfl
            | ok x j =>
              obtain ⟨l, t⟩ := x
              rw [hr] at h1 hft
              rw [show rNode nmP L (brace L (rd nmP L f true)) i = .ok (l, t) j from h1]
              dsimp only
              have hj : i + 1 ≤ j ∧ j ≤ m := ⟨hft.1, by rw [← hml]; exact hft.2⟩
              have h2 := ih f false j hj.2 (by omega) (by omega)
              cases hq : rd nmP (L.take m) f' false j with
              | no k =>
                rw [hq] at h2
                rcases h2 with h2 | h2
                · exact .inl h2
                · rw [h2]; exact .inr rfl
              | ok r k =>
                rw [hq] at h2
                rw [show rd nmP L f false j = .ok r k from h2]
                exact rfl
        · have : ∀ s, isT (L.take m) i s = false := fun s => isT_take_ge s (by omega)
          have hN : rNode nmP (L.take m) (brace (L.take m) (rd nmP (L.take m) f' true)) i = .no i := by
            unfold rNode
            simp only [this, Bool.false_eq_true, if_false, Bool.or_self]
          rw [this, hN]
          simp only [Bool.false_eq_true, if_false]
          exact .inl (by omega)

/-- Fewer tokens than a saga's: the reader stops at their end. -/
theorem rSaga_cut {x : By} {t : Tr} {k : Nat} (h : rSaga nmP L L.length = .ok (x, t) k) (hm : m < L.length) : rSaga nmP (L.take m) (L.take m).length = .no m := by
  have hml : (L.take m).length = m := by simp; omega
  unfold rSaga at h ⊢
  by_cases h0 : 0 < m
  · rw [isT_take_lt _ h0]
    split at h
    · rename_i hT
      rw [if_pos hT]
      split at h
      · cases h
      · rename_i y j h1
        split at h
        · cases h
        · rename_i u k' h2
          split at h
          · rename_i hk
            have r1 := rName_rel (L := L) 1 (show 1 ≤ m by omega)
            have hft := rName_fit nmP (L.take m) 1 (by omega)
            cases hr : rName nmP (L.take m) 1 with
            | no q =>
              rw [hr] at r1
              rcases r1 with r1 | r1
              · rw [r1]
              · rw [h1] at r1; cases r1
            | ok z q =>
              rw [hr] at r1 hft
              have r1' : rName nmP L 1 = .ok z q := r1
              rw [h1] at r1'
              cases r1'
              dsimp only
              have hj : j ≤ m := by rw [← hml]; exact hft.2
              have hj1 : 1 + 1 ≤ j := hft.1
              have r2 := brace_rel (L := L) (m := m) (rd nmP (L.take m) (L.take m).length true) (rd nmP L L.length true) j (fun h3 => rd_rel hm _ _ true (j + 1) h3 (by omega) (by omega)) hj
              have hf2 := brace_fit (L.take m) _ (rd_fit nmP (L.take m) (L.take m).length true) j (by omega)
              cases hq : brace (L.take m) (rd nmP (L.take m) (L.take m).length true) j with
              | no q =>
                rw [hq] at r2
                rcases r2 with r2 | r2
                · rw [r2]
                · rw [h2] at r2; cases r2
              | ok v q =>
                rw [hq] at r2 hf2
                have r2' : brace L (rd nmP L L.length true) j = .ok v q := r2
                rw [h2] at r2'
                cases r2'
                have : k' ≤ m := by rw [← hml]; exact hf2.2
                omega
          · cases h
    · cases h
  · obtain rfl : m = 0 := by omega
    rw [isT_take_ge _ (Nat.le_refl _)]
    rfl
end Go.Proofs.Ytlmfmgpamhhncaa

/- Where tokens stand in the joined text; when a saga is too big (plain words). -/
namespace Go.Proofs.Ytlmfmgpamhhncaa

theorem jcs_snoc (rk : List (List Int × Int)) (p : List Int × Int) (h : rk ≠ []) : jcs (rk ++ [p]) = jcs rk ++ [32] ++ p.1 := by
  cases rk with
  | nil => exact absurd rfl h
  | cons q l => simp only [List.cons_append, jcs, List.map_append, List.map_cons, List.map_nil, flat_snoc, List.append_assoc]

/-- The joined text's tokens, and where each ends. -/
theorem join_places (rk : List (List Int × Int)) : (∀ p ∈ rk, IsTok p.1 p.2) → ∃ st, goS sc0 0 (jcs rk) = .ok st ∧ st.remark = false ∧ st.toks.map strip = rk.map (fun p => (p.2, encAll p.1)) ∧
    ∀ i t, st.toks[i]? = some t → t.at_ + t.text.length = (encAll (jcs (rk.take (i + 1)))).length := by
  induction rk using snoc_ind with
  | h0 => exact fun _ => ⟨sc0, rfl, rfl, rfl, fun i t h => by simp [sc0, Sc.toks, curToks] at h⟩
  | h1 rk p ih =>
    intro h
    obtain ⟨st, a1, a2, a3, a4⟩ := ih (fun q hq => h q (by simp [hq]))
    have hp := h p (by simp)
    have hlen : st.toks.length = rk.length := by simpa using congrArg List.length a3
    by_cases hr : rk = []
    · subst hr
      obtain ⟨s1, b1, b2, b3⟩ := tok_go hp sc0 rfl rfl 0
      refine ⟨s1, by simpa [jcs, flat] using b1, b2, by rw [b3]; simp [strip, sc0, Sc.toks, curToks], ?_⟩
      intro i t ht
      rw [b3] at ht
      cases i with
      | zero =>
        simp [sc0, Sc.toks, curToks] at ht
        rw [← ht]
        simp [jcs, flat]
      | succ i => simp [sc0, Sc.toks, curToks] at ht
    · obtain ⟨s1, b1, b2, b3, b4⟩ := gap_blank 32 (by decide +kernel) (by decide) st (0 + (encAll (jcs rk)).length) a2
      obtain ⟨s2, c1, c2, c3⟩ := tok_go hp s1 b3 b4 (0 + (encAll (jcs rk ++ [32])).length)
      refine ⟨s2, ?_, c2, ?_, ?_⟩
      · rw [jcs_snoc rk p hr, goS_append, goS_append, a1]
        simp only
        rw [b1]
        exact c1
      · rw [c3, List.map_append, b2, a3]
        simp [strip]
      · intro i t ht
        rw [c3, b2] at ht
        by_cases hi : i < rk.length
        · rw [List.getElem?_append_left (by omega)] at ht
          rw [List.take_append_of_le_length (by omega)]
          exact a4 i t ht
        · rw [List.getElem?_append_right (by omega)] at ht
          have h0 : i - st.toks.length = 0 := by
            rcases Nat.eq_zero_or_pos (i - st.toks.length) with h0 | h0
            · exact h0
            · rw [List.getElem?_eq_none (by simp; omega)] at ht; cases ht
          rw [h0] at ht
          simp at ht
          rw [← ht]
          have e := congrArg List.length (encAll_append (jcs rk ++ [32]) p.1)
          rw [List.length_append] at e
          rw [List.take_of_length_le (by simp; omega), jcs_snoc rk p hr, e]

/-- Tokens whose texts are joined are found again, and each ends where the joined texts up to it do. -/
theorem again_places (l : List Tok) (h : ∀ t ∈ l, TokP t) : ∃ cs st, Parts (jn (tx l)) cs [] ∧ goS sc0 0 cs = .ok st ∧ st.toks.map strip = l.map strip ∧ ∀ i t, st.toks[i]? = some t → t.at_ + t.text.length = (jn ((tx l).take (i + 1))).length := by
  obtain ⟨rk, a1, a2, a3⟩ := toks_rk l h
  obtain ⟨b1, _⟩ := join_lex_any rk a3
  obtain ⟨st, c1, _, c3, c4⟩ := join_places rk a3
  refine ⟨jcs rk, st, ⟨by rw [a1, jcs_enc]; simp, b1, .inl rfl⟩, c1, by rw [c3, a2], fun i t ht => ?_⟩
  rw [c4 i t ht, a1, ← List.map_take, jcs_enc]

theorem jn_prefix (xs : List By) (m : Nat) (hm : 0 < m) : ∃ R, jn xs = jn (xs.take m) ++ R := by
  cases xs with
  | nil => exact ⟨[], by simp [jn]⟩
  | cons x l =>
    obtain ⟨k, rfl⟩ : ∃ k, m = k + 1 := ⟨m - 1, by omega⟩
    rw [List.take_succ_cons, jn_cons, jn_cons]
    refine ⟨((l.drop k).map fun y => 32 :: y).flatten, ?_⟩
    rw [List.append_assoc, ← List.flatten_append, ← List.map_append, List.take_append_drop]

/-- At a depth a sub-saga stands, just where the saga is deeper. -/
theorem any_deep (e : Nat) (t : Tr) : ∀ d, (fltn d t).any (fun x => x.2.1.sub && x.1 == e) = true ↔ d ≤ e ∧ e < d + t.dep := by
  induction t with
  | e =>
    intro d
    have hd : Tr.e.dep = 0 := rfl
    rw [hd]
    simp only [fltn, List.any_nil, Bool.false_eq_true, false_iff]
    omega
  | b x r ih1 ih2 =>
    intro d
    have hd : (Tr.b x r).dep = max x.dep r.dep := rfl
    rw [hd]
    simp only [fltn, List.any_append, Bool.or_eq_true, ih1 d, ih2 d]
    omega
  | n l x r ih1 ih2 =>
    intro d
    by_cases hs : l.sub = true
    · have hd : (Tr.n l x r).dep = max (x.dep + 1) r.dep := by simp [Tr.dep, hs]
      rw [hd]
      simp only [fltn, List.any_cons, List.any_append, hs, if_true, Bool.true_and, Bool.or_eq_true, beq_iff_eq, ih1 (d + 1), ih2 d]
      omega
    · have hd : (Tr.n l x r).dep = r.dep := by simp [Tr.dep, hs]
      rw [hd]
      simp only [Bool.not_eq_true] at hs
      simp only [fltn, List.any_cons, List.any_append, hs, Bool.false_eq_true, if_false, Bool.false_and, List.any_nil, Bool.false_or, ih2 d]

theorem cnt_bare (t : Tr) : t.bare = true → ∀ d, (fltn d t).length = t.cnt := by
  induction t with
  | e => intro _ d; rfl
  | b x r ih1 ih2 =>
    intro h d
    simp only [Tr.bare, Bool.and_eq_true] at h
    simp [fltn, Tr.cnt, ih1 h.1 d, ih2 h.2 d]
  | n l x r ih1 ih2 =>
    intro h d
    simp only [Tr.bare, Bool.and_eq_true, Bool.or_eq_true] at h
    by_cases hs : l.sub = true
    · simp [fltn, Tr.cnt, hs, ih1 h.1.2 (d + 1), ih2 h.2 d]
    · have hx : x = .e := by rcases h.1.1 with h1 | h1; exact absurd h1 hs; exact eq_of_beq h1
      subst hx
      simp [fltn, Tr.cnt, hs, ih2 h.2 d]

/-- Too big: too deep, or of too many nodes. -/
theorem bigL_eq (t : Tr) (h : t.bare = true) : bigL (fltn 1 t) = (decide (70 < t.dep + 1) || decide (1000 < t.cnt)) := by
  unfold bigL
  rw [cnt_bare t h, Bool.eq_iff_iff]
  have := any_deep 70 t 1
  simp only [Bool.or_eq_true, decide_eq_true_eq]
  rw [show (fltn 1 t).any over = true ↔ _ from this]
  omega
end Go.Proofs.Ytlmfmgpamhhncaa

