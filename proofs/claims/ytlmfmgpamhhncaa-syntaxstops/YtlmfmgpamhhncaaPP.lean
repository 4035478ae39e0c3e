/- Texts of the seat, packed: Yc. -/
import Derived.Test.YtlmfmgpamhhncaaPO
import Derived.Test.YtlmfmgpamhhncaaPH
/- A saga of few parts: how long its text is; a right one's text is read as the saga (plain words). -/
namespace Go.Proofs.Ytlmfmgpamhhncaa

theorem sz_pc (t : Tr) : t.sz ≤ t.pc := by
  induction t with
  | e => exact Nat.le_refl _
  | b x r ih1 ih2 => simp only [Tr.sz, Tr.pc]; omega
  | n l x r ih1 ih2 => simp only [Tr.sz, Tr.pc]; omega

theorem afs_pc (t : Tr) : t.pc ≤ 1000000000 → t.afs := by
  induction t with
  | e => intro _; trivial
  | b x r ih1 ih2 => intro h; simp only [Tr.pc] at h; exact ⟨ih1 (by omega), ih2 (by omega)⟩
  | n l x r ih1 ih2 => intro h; simp only [Tr.pc] at h; exact ⟨by omega, ih1 (by omega), ih2 (by omega)⟩

theorem pLean_len2 (xs : List By) : (pLean xs).length = 2 * xs.length := pLean_len' xs

theorem pr_len (t : Tr) : ∀ f, (pr f t).length ≤ 8 * t.pc := by
  induction t with
  | e => intro f; simp [pr]
  | b x r ih1 ih2 =>
    intro f
    have h1 := ih1 true
    have h2 := ih2 false
    simp only [pr, Tr.pc]
    cases f <;> simp <;> omega
  | n l x r ih1 ih2 =>
    intro f
    have h1 := ih1 true
    have h2 := ih2 f
    rw [pr_n]
    have h3 := pLean_len2 l.after
    have h4 : (pNode l x).length ≤ 8 + 8 * l.after.length + 8 * x.pc := by
      unfold pNode
      split
      · simp; omega
      · unfold pStep
        split <;> simp <;> omega
    simp only [Tr.pc, List.length_append]
    omega

theorem pMore_short (xs : List By) (h : ∀ y ∈ xs, y.length ≤ 200) : ∀ k ∈ pMore xs, k.text.length ≤ 200 := by
  intro k hk
  obtain ⟨y, hy, hk⟩ := List.mem_flatMap.1 hk
  simp only [List.mem_cons, List.not_mem_nil, or_false] at hk
  rcases hk with rfl | rfl
  · show mAnd.length ≤ 200; decide
  · exact h y hy

theorem pLean_short (xs : List By) (h : ∀ y ∈ xs, y.length ≤ 200) : ∀ k ∈ pLean xs, k.text.length ≤ 200 := by
  cases xs with
  | nil => simp [pLean]
  | cons x r =>
    intro k hk
    simp only [pLean, List.mem_cons] at hk
    rcases hk with rfl | rfl | hk
    · show wAfter.length ≤ 200; decide
    · exact h x (by simp)
    · exact pMore_short r (fun y hy => h y (by simp [hy])) k hk

theorem pr_short (t : Tr) : t.short → ∀ f, ∀ k ∈ pr f t, k.text.length ≤ 200 := by
  induction t with
  | e => intro _ f k hk; simp [pr] at hk
  | b x r ih1 ih2 =>
    intro h f k hk
    simp only [pr, List.mem_append, List.mem_cons] at hk
    rcases hk with hk | rfl | hk | rfl | hk
    · cases f
      · simp at hk; subst hk; show wOr.length ≤ 200; decide
      · simp at hk
    · show mIn.length ≤ 200; decide
    · exact ih1 h.1 true k hk
    · show mOut.length ≤ 200; decide
    · exact ih2 h.2 false k hk
  | n l x r ih1 ih2 =>
    intro h f k hk
    obtain ⟨⟨h1, h2, h3⟩, h4, h5⟩ := h
    rw [pr_n, List.mem_append] at hk
    rcases hk with hk | hk
    · unfold pNode at hk
      split at hk
      · simp only [List.mem_append, List.mem_cons, List.not_mem_nil, or_false] at hk
        rcases hk with (rfl | rfl | rfl) | hk | rfl | hk | rfl
        · show (if l.vital then wVital else wLoose).length ≤ 200; split <;> decide
        · show wSub.length ≤ 200; decide
        · exact h1
        · exact pLean_short _ h3 k hk
        · show mOpen.length ≤ 200; decide
        · exact ih1 h4 true k hk
        · show mShut.length ≤ 200; decide
      · unfold pStep at hk
        simp only [List.mem_append, List.mem_cons, List.not_mem_nil, or_false] at hk
        rcases hk with (rfl | rfl) | hk | hk | rfl
        · show wStep.length ≤ 200; decide
        · exact h1
        · split at hk
          · simp at hk
          · simp at hk
            rcases hk with rfl | rfl
            · show wUndo.length ≤ 200; decide
            · exact h2
        · exact pLean_short _ h3 k hk
        · show mEnd.length ≤ 200; decide
    · exact ih2 h5 f k hk

theorem sum_le (l : List By) (n : Nat) (h : ∀ x ∈ l, x.length ≤ n) : (l.map fun x => x.length).sum ≤ n * l.length := by
  induction l with
  | nil => simp
  | cons x l ih =>
    have h1 := h x (by simp)
    have h2 := ih (fun y hy => h y (by simp [hy]))
    simp only [List.map_cons, List.sum_cons, List.length_cons, Nat.mul_add]
    omega

/-- What is known of a saga of few parts. -/
theorem few_bounds {x : By} {t : Tr} (hx : x.length ≤ 200) (hp : t.pc ≤ 2000) (hs : t.short) : Bnd t ∧ (pr true t).length + 4 ≤ 100000 ∧ (textS x t).length ≤ 1000000000 := by
  have h1 := sz_pc t
  have h2 := pr_len t true
  refine ⟨Bnd.of_sz (by omega) (afs_pc t (by omega)), by omega, ?_⟩
  unfold textS
  have h3 := jn_len ((pSaga x t).map (·.text))
  have h4 := sum_le ((pSaga x t).map (·.text)) 200 (by
    intro y hy
    obtain ⟨k, hk, rfl⟩ := List.mem_map.1 hy
    unfold pSaga at hk
    simp only [List.mem_append, List.mem_cons, List.not_mem_nil, or_false] at hk
    rcases hk with (rfl | rfl) | rfl | hk | rfl
    · show wSaga.length ≤ 200; decide
    · exact hx
    · show mOpen.length ≤ 200; decide
    · exact pr_short t hs true k hk
    · show mShut.length ≤ 200; decide)
  have h5 : ((pSaga x t).map (·.text)).length = (pr true t).length + 4 := by simp [pSaga]
  rw [h5] at h3 h4
  omega

/-! ### A right saga's tokens -/

theorem word_name (s : By) (r : List Int) (c : Int) (r' : List Int) (h1 : s = encAll r) (h2 : r = c :: r') (h3 : kl c = 1) (h4 : ∀ x ∈ r', isNm x = true) (h5 : ∀ x ∈ r, isCp x = true) (h6 : (encAll r).length ≤ 24) : TokP (nmT s) :=
  .inl ⟨rfl, r, h1, c, r', h2, h3, h4, h5, h6⟩

theorem tp_saga : TokP (nmT wSaga) := word_name _ [115, 97, 103, 97] 115 [97, 103, 97] (by decide +kernel) rfl (by decide +kernel) (by decide +kernel) (by decide +kernel) (by decide +kernel)
theorem tp_step : TokP (nmT wStep) := word_name _ [115, 116, 101, 112] 115 [116, 101, 112] (by decide +kernel) rfl (by decide +kernel) (by decide +kernel) (by decide +kernel) (by decide +kernel)
theorem tp_sub : TokP (nmT wSub) := word_name _ [115, 117, 98] 115 [117, 98] (by decide +kernel) rfl (by decide +kernel) (by decide +kernel) (by decide +kernel) (by decide +kernel)
theorem tp_undo : TokP (nmT wUndo) := word_name _ [117, 110, 100, 111] 117 [110, 100, 111] (by decide +kernel) rfl (by decide +kernel) (by decide +kernel) (by decide +kernel) (by decide +kernel)
theorem tp_after : TokP (nmT wAfter) := word_name _ [97, 102, 116, 101, 114] 97 [102, 116, 101, 114] (by decide +kernel) rfl (by decide +kernel) (by decide +kernel) (by decide +kernel) (by decide +kernel)
theorem tp_vital : TokP (nmT wVital) := word_name _ [118, 105, 116, 97, 108] 118 [105, 116, 97, 108] (by decide +kernel) rfl (by decide +kernel) (by decide +kernel) (by decide +kernel) (by decide +kernel)
theorem tp_loose : TokP (nmT wLoose) := word_name _ [108, 111, 111, 115, 101] 108 [111, 111, 115, 101] (by decide +kernel) rfl (by decide +kernel) (by decide +kernel) (by decide +kernel) (by decide +kernel)
theorem tp_or : TokP (nmT wOr) := word_name _ [111, 114] 111 [114] (by decide +kernel) rfl (by decide +kernel) (by decide +kernel) (by decide +kernel) (by decide +kernel)
theorem tp_open : TokP (mkT mOpen) := .inr ⟨rfl, 123, by decide +kernel, by decide +kernel⟩
theorem tp_shut : TokP (mkT mShut) := .inr ⟨rfl, 125, by decide +kernel, by decide +kernel⟩
theorem tp_in : TokP (mkT mIn) := .inr ⟨rfl, 40, by decide +kernel, by decide +kernel⟩
theorem tp_out : TokP (mkT mOut) := .inr ⟨rfl, 41, by decide +kernel, by decide +kernel⟩
theorem tp_end : TokP (mkT mEnd) := .inr ⟨rfl, 59, by decide +kernel, by decide +kernel⟩
theorem tp_and : TokP (mkT mAnd) := .inr ⟨rfl, 44, by decide +kernel, by decide +kernel⟩

theorem tp_name {x : By} (h : nmP x = true) : TokP (nmT x) := by
  unfold nmP at h
  simp at h
  exact .inl ⟨rfl, (isName_iff x).1 h.1⟩

theorem tp_more (xs : List By) (h : ∀ y ∈ xs, nmP y = true) : ∀ k ∈ pMore xs, TokP k := by
  intro k hk
  obtain ⟨y, hy, hk⟩ := List.mem_flatMap.1 hk
  simp only [List.mem_cons, List.not_mem_nil, or_false] at hk
  rcases hk with rfl | rfl
  · exact tp_and
  · exact tp_name (h y hy)

theorem tp_lean (xs : List By) (h : ∀ y ∈ xs, nmP y = true) : ∀ k ∈ pLean xs, TokP k := by
  cases xs with
  | nil => simp [pLean]
  | cons x r =>
    intro k hk
    simp only [pLean, List.mem_cons] at hk
    rcases hk with rfl | rfl | hk
    · exact tp_after
    · exact tp_name (h x (by simp))
    · exact tp_more r (fun y hy => h y (by simp [hy])) k hk

theorem tp_pr (t : Tr) : ∀ d, okL (fltn d t) = true → ∀ f, ∀ k ∈ pr f t, TokP k := by
  induction t with
  | e => intro d _ f k hk; simp [pr] at hk
  | b x r ih1 ih2 =>
    intro d h f k hk
    simp only [fltn, okL_append, Bool.and_eq_true] at h
    simp only [pr, List.mem_append, List.mem_cons] at hk
    rcases hk with hk | rfl | hk | rfl | hk
    · cases f
      · simp at hk; subst hk; exact tp_or
      · simp at hk
    · exact tp_in
    · exact ih1 d h.1 true k hk
    · exact tp_out
    · exact ih2 d h.2 false k hk
  | n l x r ih1 ih2 =>
    intro d h f k hk
    simp only [fltn, okL_cons, okL_append, Bool.and_eq_true] at h
    obtain ⟨h1, h2, h3⟩ := h
    rw [pr_n, List.mem_append] at hk
    rcases hk with hk | hk
    · unfold pNode at hk
      simp only [nodeOk, Bool.and_eq_true, List.all_eq_true] at h1
      obtain ⟨⟨g1, g2⟩, g3⟩ := h1
      split at hk
      · rename_i hs
        rw [if_pos hs] at h2
        simp only [List.mem_append, List.mem_cons, List.not_mem_nil, or_false] at hk
        rcases hk with (rfl | rfl | rfl) | hk | rfl | hk | rfl
        · split
          · exact tp_vital
          · exact tp_loose
        · exact tp_sub
        · exact tp_name g1
        · exact tp_lean _ g2 k hk
        · exact tp_open
        · exact ih1 (d + 1) h2 true k hk
        · exact tp_shut
      · rename_i hs
        simp only [hs, if_false, Bool.and_eq_true, Bool.or_eq_true, beq_iff_eq, Bool.false_eq_true] at g3
        unfold pStep at hk
        simp only [List.mem_append, List.mem_cons, List.not_mem_nil, or_false] at hk
        rcases hk with (rfl | rfl) | hk | hk | rfl
        · exact tp_step
        · exact tp_name g1
        · split at hk
          · simp at hk
          · rename_i hu
            simp at hk
            rcases hk with rfl | rfl
            · exact tp_undo
            · rcases g3.1.1 with h | h
              · exact absurd h hu
              · exact tp_name h
        · exact tp_lean _ g2 k hk
        · exact tp_end
    · exact ih2 d h3 f k hk

theorem okL_deep (u : Tr) : ∀ (a b : Nat), okL (fltn a u) = okL (fltn b u) := by
  induction u with
  | e => intro a b; rfl
  | b x r i1 i2 => intro a b; simp only [fltn, okL_append, i1 a b, i2 a b]
  | n l x r i1 i2 =>
    intro a b
    simp only [fltn, okL_cons, okL_append, i2 a b]
    split
    · rw [i1 (a + 1) (b + 1)]
    · rfl

theorem right_parts {x : By} {t : Tr} (h : rightS x t = true) : nmP x = true ∧ 0 < t.len ∧ bigL (fltn 1 t) = false ∧ allOk t := by
  unfold rightS at h
  simp only [Bool.and_eq_true, decide_eq_true_eq, Bool.not_eq_true'] at h
  exact ⟨h.1.1.1, h.1.1.2, h.1.2, fun d => by rw [okL_deep t d 1]; exact h.2⟩

theorem tp_all {x : By} {t : Tr} (h : rightS x t = true) : ∀ k ∈ pSaga x t, TokP k := by
  obtain ⟨h1, _, _, h4⟩ := right_parts h
  intro k hk
  unfold pSaga at hk
  simp only [List.mem_append, List.mem_cons, List.not_mem_nil, or_false] at hk
  rcases hk with (rfl | rfl) | rfl | hk | rfl
  · exact tp_saga
  · exact tp_name h1
  · exact tp_open
  · exact tp_pr t 1 (h4 1) true k hk
  · exact tp_shut

/-- A right saga's text is read as the saga. -/
theorem back_ans {x : By} {t : Tr} (h : rightS x t = true) (hok : t.ok true = true) (hl : (textS x t).length ≤ 65536) :
    ∃ cs st, Parts (textS x t) cs [] ∧ answer ⟨(textS x t).toArray⟩ cs [] = ⟨st, (textS x t).length, 0⟩ ∧ (∀ n, rAns n ⟨st, (textS x t).length, 0⟩ = .good x t) ∧ tx st = tx (pSaga x t) ∧ st.length = (pSaga x t).length ∧
      ∀ i tk, st[i]? = some tk → tk.at_ + tk.text.length = (jn ((tx (pSaga x t)).take (i + 1))).length := by
  obtain ⟨h1, h2, h3, h4⟩ := right_parts h
  obtain ⟨cs, st, a1, a2, a3, a4⟩ := again_places (pSaga x t) (tp_all h)
  have hT : textS x t = jn (tx (pSaga x t)) := rfl
  rw [← hT] at a1
  have he : (encAll cs).length = (textS x t).length := by have := congrArg List.length a1.eq; simpa using this.symm
  have hsz : (⟨(textS x t).toArray⟩ : ByteArray).size ≤ 65536 := by show (textS x t).toArray.size ≤ _; simpa using hl
  refine ⟨cs, st.toks, a1, ?_, fun n => rAns_of rfl (k := (tx (pSaga x t)).length) ?_ h3, tx_strip a3, by simpa using congrArg List.length a3, a4⟩
  · unfold answer lexR
    rw [if_pos hsz, a2, ← he]
    rfl
  · show rSaga nmP (tx st.toks) (tx st.toks).length = _
    rw [tx_strip a3]
    exact rSaga_of h1 hok h2 h4

/-- Cut off behind one of its tokens but the last, it is refused at the end. -/
theorem cut_ans {x : By} {t : Tr} (h : rightS x t = true) (hok : t.ok true = true) (m : Nat) (hm : m < (pSaga x t).length) (hl : (jn ((tx (pSaga x t)).take m)).length ≤ 65536) :
    ∃ cs, Parts (jn ((tx (pSaga x t)).take m)) cs [] ∧ rAns (jn ((tx (pSaga x t)).take m)).length (answer ⟨(jn ((tx (pSaga x t)).take m)).toArray⟩ cs []) = .bad (jn ((tx (pSaga x t)).take m)).length 10 := by
  obtain ⟨h1, h2, h3, h4⟩ := right_parts h
  have htk : (tx (pSaga x t)).take m = tx ((pSaga x t).take m) := by simp [tx]
  have hp : ∀ k ∈ (pSaga x t).take m, TokP k := fun k hk => tp_all h k (List.mem_of_mem_take hk)
  obtain ⟨cs, st, a1, a2, a3⟩ := again_lex ((pSaga x t).take m) hp
  rw [← htk] at a1
  have htx := tx_strip a3
  rw [← htk] at htx
  have hcut := rSaga_cut (m := m) (rSaga_of h1 hok h2 h4) (by simpa [tx] using hm)
  rw [← htx] at hcut
  have hlen : st.toks.length = m := by
    have := congrArg List.length a3
    simp at this
    omega
  have hsz : (⟨(jn ((tx (pSaga x t)).take m)).toArray⟩ : ByteArray).size ≤ 65536 := by show (jn ((tx (pSaga x t)).take m)).toArray.size ≤ _; simpa using hl
  refine ⟨cs, a1, ?_⟩
  have hans : answer ⟨(jn ((tx (pSaga x t)).take m)).toArray⟩ cs [] = ⟨st.toks, (encAll cs).length, 0⟩ := by
    unfold answer lexR
    rw [if_pos hsz, a2]
    rfl
  rw [hans]
  unfold rAns
  rw [if_neg (by simp)]
  rw [show (st.toks.map (·.text)) = tx st.toks from rfl, hcut]
  simp only [atOf]
  rw [List.getElem?_eq_none (by omega)]
end Go.Proofs.Ytlmfmgpamhhncaa

