/- Plain facts about texts that are made of names and marks, with gaps between them. -/
import Derived.Test.YtchdecoceokcmaaMf
namespace Go.Proofs.Ytchdecoceokcmaa

theorem parts_unique : ∀ (cs cs' : List Int) (l rest rest' : List UInt8), Parts l cs rest → Parts l cs' rest' → cs = cs' ∧ rest = rest' := by
  intro cs
  induction cs with
  | nil =>
    intro cs' l rest rest' h h'
    have e1 : l = rest := by rw [h.eq]; simp [encAll]
    cases cs' with
    | nil =>
      have e2 : l = rest' := by rw [h'.eq]; simp [encAll]
      exact ⟨rfl, by rw [← e1, ← e2]⟩
    | cons c cs' =>
      exfalso
      have hc := h'.cp c (by simp)
      have hpre : enc c <+: l := ⟨encAll cs' ++ rest', by rw [h'.eq]; simp [encAll]⟩
      have hep := enc_pos c hc
      rcases h.stop with h0 | h0
      · rw [e1, h0] at hpre
        have := hpre.length_le
        simp at this
        rw [this] at hep
        simp at hep
      · exact h0 c hc (by rw [← e1]; exact hpre)
  | cons c cs ih =>
    intro cs' l rest rest' h h'
    have hc := h.cp c (by simp)
    have hpre : enc c <+: l := ⟨encAll cs ++ rest, by rw [h.eq]; simp [encAll]⟩
    have hep := enc_pos c hc
    cases cs' with
    | nil =>
      exfalso
      have e2 : l = rest' := by rw [h'.eq]; simp [encAll]
      rcases h'.stop with h0 | h0
      · rw [e2, h0] at hpre
        have := hpre.length_le
        simp at this
        rw [this] at hep
        simp at hep
      · exact h0 c hc (by rw [← e2]; exact hpre)
    | cons c' cs' =>
      have hc' := h'.cp c' (by simp)
      have hpre' : enc c' <+: l := ⟨encAll cs' ++ rest', by rw [h'.eq]; simp [encAll]⟩
      have e := enc_unique c c' l hc hc' hpre hpre'
      subst e
      have hl : encAll cs ++ rest = encAll cs' ++ rest' := by
        have h1 := h.eq
        rw [h'.eq] at h1
        simp only [encAll, List.append_assoc, List.append_cancel_left_eq] at h1
        exact h1.symm
      obtain ⟨a, b⟩ := ih cs' (encAll cs ++ rest) rest rest' ⟨rfl, fun x hx => h.cp x (by simp [hx]), h.stop⟩ ⟨hl, fun x hx => h'.cp x (by simp [hx]), h'.stop⟩
      exact ⟨by rw [a], b⟩

/-- A name's code points. -/
def IsName (r : List Int) : Prop := ∃ c r', r = c :: r' ∧ kl c = 1 ∧ (∀ x ∈ r', isNm x = true) ∧ (∀ x ∈ r, isCp x = true) ∧ (encAll r).length ≤ 24

/-- Is a text a name? -/
def nameP (x : List UInt8) : Prop := ∃ r, x = encAll r ∧ IsName r

theorem name_go {r : List Int} (h : IsName r) (done : List Tok) (p : Nat) : goS ⟨done, none, false⟩ p r = .ok ⟨done, some (p, encAll r), false⟩ := by
  obtain ⟨c, r', rfl, h1, h2, h3, h4⟩ := h
  rw [go_name c r' h1 h2 h3, if_neg (by omega)]

theorem kl_name_cp (c : Int) (h : isNm c = true) : isCp c = true := by
  rw [isNm_iff] at h
  cases hc : isCp c with
  | true => rfl
  | false =>
    unfold kl at h
    rw [if_pos hc] at h
    omega

/-- Each token is a name or a mark; the name that goes on is a name. -/
theorem tok_inv : ∀ (d : List Int), (∀ c ∈ d, isCp c = true) → ∀ s, goS sc0 0 d = .ok s → (∀ q t, s.cur = some (q, t) → ∃ r, t = encAll r ∧ IsName r) ∧ ∀ t ∈ s.toks, (t.kind = 1 ∧ nameP t.text) ∨ (t.kind = 2 ∧ ∃ c, isMark c = true ∧ t.text = enc c) := by
  intro d
  induction d using snoc_ind with
  | h0 =>
    intro _ s h
    simp only [goS, Out.ok.injEq] at h
    rw [← h]
    exact ⟨fun q t h => (by cases h), fun t ht => (by simp [Sc.toks, sc0, curToks] at ht)⟩
  | h1 d c ih =>
    intro hcp s h
    obtain ⟨s1, h1, h2⟩ := goS_prefix h
    rw [goS_snoc_ok h1, Nat.zero_add] at h
    obtain ⟨hcur, htok⟩ := ih (fun x hx => hcp x (by simp [hx])) s1 h1
    have hc := hcp c (by simp)
    have hdone : ∀ t ∈ s1.done, (t.kind = 1 ∧ nameP t.text) ∨ (t.kind = 2 ∧ ∃ c, isMark c = true ∧ t.text = enc c) := fun t ht => htok t (by simp [Sc.toks, ht])
    rcases step_ok h with ⟨a, rfl⟩ | ⟨_, _, rfl⟩ | ⟨_, hm, rfl⟩ | ⟨_, hn, hk, rfl⟩ | ⟨q, u, _, hq, hk, hle, rfl⟩
    · exact ⟨hcur, htok⟩
    · refine ⟨fun q t h => (by cases h), fun t ht => htok t ?_⟩
      simpa [Sc.toks, curToks] using ht
    · refine ⟨fun q t h => (by cases h), fun t ht => ?_⟩
      simp only [Sc.toks, curToks, List.append_nil] at ht
      rcases List.mem_append.1 ht with ht | ht
      · exact htok t ht
      · simp only [List.mem_singleton] at ht
        subst ht
        exact .inr ⟨rfl, c, hm, rfl⟩
    · have hone : IsName [c] := ⟨c, [], rfl, hk, by simp, by simpa using hc, by have := enc_pos c hc; simp [encAll]; omega⟩
      refine ⟨?_, ?_⟩
      · intro q t h
        simp only [Option.some.injEq, Prod.mk.injEq] at h
        exact ⟨[c], by rw [← h.2]; simp [encAll], hone⟩
      · intro t ht
        simp only [Sc.toks, curToks] at ht
        rcases List.mem_append.1 ht with ht | ht
        · exact hdone t ht
        · simp only [List.mem_singleton] at ht
          subst ht
          exact .inl ⟨rfl, [c], by simp [encAll], hone⟩
    · obtain ⟨r, rfl, c0, r', hr, k0, k1, k2, k3⟩ := hcur q u hq
      obtain ⟨d1, d2, f1, f2, f3, _, _, _⟩ := cur_inv d s1 h1 q _ hq
      have hl : (encAll d).length = q + (encAll r).length := by rw [f1, encAll_append, List.length_append, f3, f2]
      have hnew : IsName (r ++ [c]) := by
        refine ⟨c0, r' ++ [c], by rw [hr]; rfl, k0, ?_, ?_, ?_⟩
        · intro x hx
          rcases List.mem_append.1 hx with hx | hx
          · exact k1 x hx
          · simp only [List.mem_singleton] at hx
            subst hx
            exact (isNm_iff x).2 hk
        · intro x hx
          rcases List.mem_append.1 hx with hx | hx
          · exact k2 x hx
          · simp only [List.mem_singleton] at hx
            subst hx
            exact hc
        · rw [encAll_append, encAll_one, List.length_append]
          omega
      have he : encAll r ++ enc c = encAll (r ++ [c]) := by rw [encAll_append, encAll_one]
      refine ⟨?_, ?_⟩
      · intro q' t h
        simp only [Option.some.injEq, Prod.mk.injEq] at h
        exact ⟨r ++ [c], by rw [← h.2, he], hnew⟩
      · intro t ht
        simp only [Sc.toks, curToks] at ht
        rcases List.mem_append.1 ht with ht | ht
        · exact hdone t ht
        · simp only [List.mem_singleton] at ht
          subst ht
          exact .inl ⟨rfl, r ++ [c], he, hnew⟩

/-- Each token's bytes stand at its place. -/
theorem tok_at : ∀ (d : List Int) (s : Sc), goS sc0 0 d = .ok s → ∀ t ∈ s.toks, ∃ a b, encAll d = a ++ t.text ++ b ∧ t.at_ = a.length := by
  intro d
  induction d using snoc_ind with
  | h0 => intro s h t ht; simp only [goS, Out.ok.injEq] at h; rw [← h] at ht; simp [Sc.toks, sc0, curToks] at ht
  | h1 d c ih =>
    intro s h
    obtain ⟨s1, h1, h2⟩ := goS_prefix h
    rw [goS_snoc_ok h1, Nat.zero_add] at h
    have he : encAll (d ++ [c]) = encAll d ++ enc c := by rw [encAll_append, encAll_one]
    have old : ∀ t ∈ s1.toks, ∃ a b, encAll (d ++ [c]) = a ++ t.text ++ b ∧ t.at_ = a.length := by
      intro t ht
      obtain ⟨a, b, e1, e2⟩ := ih s1 h1 t ht
      exact ⟨a, b ++ enc c, by rw [he, e1]; simp, e2⟩
    have hdone : ∀ t ∈ s1.done, ∃ a b, encAll (d ++ [c]) = a ++ t.text ++ b ∧ t.at_ = a.length := fun t ht => old t (by simp [Sc.toks, ht])
    rcases step_ok h with ⟨a, rfl⟩ | ⟨_, _, rfl⟩ | ⟨_, hm, rfl⟩ | ⟨_, hn, hk, rfl⟩ | ⟨q, u, _, hq, hk, hle, rfl⟩
    · exact old
    · intro t ht
      exact old t (by simpa [Sc.toks, curToks] using ht)
    · intro t ht
      simp only [Sc.toks, curToks, List.append_nil] at ht
      rcases List.mem_append.1 ht with ht | ht
      · exact old t ht
      · simp only [List.mem_singleton] at ht
        subst ht
        exact ⟨encAll d, [], by rw [he]; simp, rfl⟩
    · intro t ht
      simp only [Sc.toks, curToks] at ht
      rcases List.mem_append.1 ht with ht | ht
      · exact hdone t ht
      · simp only [List.mem_singleton] at ht
        subst ht
        exact ⟨encAll d, [], by rw [he]; simp, rfl⟩
    · obtain ⟨d1, d2, f1, f2, f3, _, _, _⟩ := cur_inv d s1 h1 q u hq
      intro t ht
      simp only [Sc.toks, curToks] at ht
      rcases List.mem_append.1 ht with ht | ht
      · exact hdone t ht
      · simp only [List.mem_singleton] at ht
        subst ht
        exact ⟨encAll d1, [], by rw [he, f1, f2, encAll_append]; simp, f3⟩

/-- What a token is and its bytes, without its place. -/
def strip (t : Tok) : Int × List UInt8 := (t.kind, t.text)

/-- A token's code points: its kind. -/
def IsTok (r : List Int) (k : Int) : Prop := (k = 1 ∧ IsName r) ∨ (k = 2 ∧ ∃ c, isMark c = true ∧ r = [c])

theorem tok_go {r : List Int} {k : Int} (h : IsTok r k) (st : Sc) (hc : st.cur = none) (hr : st.remark = false) (p : Nat) :
    ∃ st', goS st p r = .ok st' ∧ st'.remark = false ∧ st'.toks = st.toks ++ [⟨k, encAll r, p⟩] := by
  obtain ⟨done, cur, rem⟩ := st
  simp only at hc hr
  subst hc
  subst hr
  have e0 : Sc.toks ⟨done, none, false⟩ = done := by simp [Sc.toks, curToks]
  rcases h with ⟨rfl, h⟩ | ⟨rfl, c, hm, rfl⟩
  · exact ⟨_, name_go h done p, rfl, by simp [Sc.toks, curToks]⟩
  · obtain ⟨hk, h35, _, _, _, _⟩ := kl_mark c hm
    refine ⟨⟨done ++ [⟨2, enc c, p⟩], none, false⟩, ?_, rfl, by simp [Sc.toks, curToks, encAll]⟩
    have hst : stepS ⟨done, none, false⟩ p c = .ok ⟨done ++ [⟨2, enc c, p⟩], none, false⟩ := by
      unfold stepS
      simp only [h35, hm, if_false, if_true, Bool.false_eq_true, e0]
      rw [if_neg (by omega)]
    simp only [goS, hst]

/-- Code points that only part tokens. -/
def Gap (g : List Int) : Prop := ∀ (st : Sc) (p : Nat), st.remark = false → ∃ st', goS st p g = .ok st' ∧ st'.toks = st.toks ∧ st'.cur = none ∧ st'.remark = false

def flat : List (List Int × List Int × Int) → List Int
  | [] => []
  | x :: l => x.1 ++ x.2.1 ++ flat l

theorem lex_pairs : ∀ (ps : List (List Int × List Int × Int)), (∀ x ∈ ps, Gap x.1 ∧ IsTok x.2.1 x.2.2) → ∀ (st : Sc) (p : Nat), st.remark = false →
    ∃ st', goS st p (flat ps) = .ok st' ∧ st'.remark = false ∧ st'.toks.map strip = st.toks.map strip ++ ps.map fun x => (x.2.2, encAll x.2.1) := by
  intro ps
  induction ps with
  | nil => intro _ st p hr; exact ⟨st, rfl, hr, by simp⟩
  | cons x ps ih =>
    intro hx st p hr
    obtain ⟨hg, ht⟩ := hx x (by simp)
    obtain ⟨s1, a1, a2, a3, a4⟩ := hg st p hr
    obtain ⟨s2, b1, b2, b3⟩ := tok_go ht s1 a3 a4 (p + (encAll x.1).length)
    obtain ⟨s3, c1, c2, c3⟩ := ih (fun y hy => hx y (by simp [hy])) s2 (p + (encAll (x.1 ++ x.2.1)).length) b2
    refine ⟨s3, ?_, c2, ?_⟩
    · simp only [flat]
      rw [goS_append, goS_append, a1]
      simp only
      rw [b1]
      exact c1
    · rw [c3, b3, a2]
      simp [strip]
end Go.Proofs.Ytchdecoceokcmaa
