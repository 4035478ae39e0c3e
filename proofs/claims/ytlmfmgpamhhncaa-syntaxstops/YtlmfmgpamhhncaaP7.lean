/- Texts of the seat, packed: Mh Mi. -/
import Derived.Test.YtlmfmgpamhhncaaP6
import Derived.Test.YtlmfmgpamhhncaaP5
/- Plain facts: texts that are joined out of names and marks have just these tokens. -/
namespace Go.Proofs.Ytlmfmgpamhhncaa

theorem gap_blank (c : Int) (hk : kl c = 3) (h35 : c ≠ 35) : Gap [c] := by
  intro st p hr
  have hs : stepS st p c = .ok ⟨st.toks, none, false⟩ := by
    unfold stepS
    rw [if_neg (by rw [hr]; simp), if_neg h35, if_pos hk]
  refine ⟨⟨st.toks, none, false⟩, ?_, by simp [Sc.toks, curToks], rfl, rfl⟩
  simp only [goS, hs]

theorem gap_append {a b : List Int} (ha : Gap a) (hb : Gap b) : Gap (a ++ b) := by
  intro st p hr
  obtain ⟨s1, a1, a2, a3, a4⟩ := ha st p hr
  obtain ⟨s2, b1, b2, b3, b4⟩ := hb s1 (p + (encAll a).length) a4
  exact ⟨s2, by rw [goS_append, a1]; exact b1, by rw [b2, a2], b3, b4⟩

/-- In an open remark nothing is told. -/
theorem remark_go (body : List Int) (h : ∀ c ∈ body, c ≠ 10) : ∀ (done : List Tok) (p : Nat), goS ⟨done, none, true⟩ p body = .ok ⟨done, none, true⟩ := by
  induction body with
  | nil => intro done p; rfl
  | cons c body ih =>
    intro done p
    have hc := h c (by simp)
    have hs : stepS ⟨done, none, true⟩ p c = .ok ⟨done, none, true⟩ := by
      unfold stepS
      simp [hc]
    simp only [goS, hs]
    exact ih (fun x hx => h x (by simp [hx])) done _

theorem open_go (body : List Int) (h : ∀ c ∈ body, c ≠ 10) (st : Sc) (hr : st.remark = false) (p : Nat) : goS st p (35 :: body) = .ok ⟨st.toks, none, true⟩ := by
  have hs : stepS st p 35 = .ok ⟨st.toks, none, true⟩ := by
    unfold stepS
    rw [if_neg (by rw [hr]; simp), if_pos rfl]
  simp only [goS, hs]
  exact remark_go body h _ _

theorem gap_remark (body : List Int) (h : ∀ c ∈ body, c ≠ 10) : Gap (35 :: body ++ [10]) := by
  intro st p hr
  have h1 := open_go body h st hr p
  have hs : ∀ q, stepS ⟨st.toks, none, true⟩ q 10 = .ok ⟨st.toks, none, false⟩ := by
    intro q
    unfold stepS
    simp
  refine ⟨⟨st.toks, none, false⟩, ?_, by simp [Sc.toks, curToks], rfl, rfl⟩
  rw [goS_append, h1]
  simp only [goS, hs]

theorem isTok_cp {r : List Int} {k : Int} (h : IsTok r k) : (∀ c ∈ r, isCp c = true) ∧ (encAll r).length ≤ 24 := by
  rcases h with ⟨_, c, r', h1, h2, h3, h4, h5⟩ | ⟨_, c, hm, rfl⟩
  · exact ⟨h4, h5⟩
  · obtain ⟨_, _, _, hcp, _, _⟩ := kl_mark c hm
    have := enc_pos c hcp
    exact ⟨by simpa using hcp, by simp [encAll]; omega⟩

theorem mk_mark (x : ByteArray) (h : isMk x.data.toList = true) : ∃ c, isMark c = true ∧ x.data.toList = enc c := by
  rcases isMk_cases x h with rfl | rfl | rfl | rfl | rfl | rfl
  · exact ⟨123, rfl, by decide +kernel⟩
  · exact ⟨125, rfl, by decide +kernel⟩
  · exact ⟨40, rfl, by decide +kernel⟩
  · exact ⟨41, rfl, by decide +kernel⟩
  · exact ⟨59, rfl, by decide +kernel⟩
  · exact ⟨44, rfl, by decide +kernel⟩

/-- A good text is a token's code points. -/
theorem good_tok (x : ByteArray) (h : good x = true) : ∃ r k, IsTok r k ∧ x.data.toList = encAll r ∧ mkTok x = ⟨k, encAll r, 0⟩ := by
  by_cases hn : isName x.data.toList = true
  · obtain ⟨r, hr, hi⟩ := (isName_iff _).1 hn
    refine ⟨r, 1, .inl ⟨rfl, hi⟩, hr, ?_⟩
    unfold mkTok
    rw [if_pos hn, hr]
  · have hm : isMk x.data.toList = true := by
      unfold good at h
      rw [Bool.or_eq_true] at h
      exact h.resolve_left hn
    obtain ⟨c, hc, he⟩ := mk_mark x hm
    refine ⟨[c], 2, .inr ⟨rfl, c, hc, rfl⟩, by rw [he]; simp [encAll], ?_⟩
    unfold mkTok
    rw [if_neg hn, he]
    simp [encAll]

theorem good_toks (xs : List ByteArray) (h : ∀ x ∈ xs, good x = true) : ∃ rk : List (List Int × Int), bys xs = rk.map (fun p => encAll p.1) ∧ xs.map mkTok = rk.map (fun p => ⟨p.2, encAll p.1, 0⟩) ∧ ∀ p ∈ rk, IsTok p.1 p.2 := by
  induction xs with
  | nil => exact ⟨[], rfl, rfl, by simp⟩
  | cons x xs ih =>
    obtain ⟨rk, h1, h2, h3⟩ := ih (fun y hy => h y (by simp [hy]))
    obtain ⟨r, k, a1, a2, a3⟩ := good_tok x (h x (by simp))
    refine ⟨(r, k) :: rk, ?_, ?_, ?_⟩
    · simp only [bys, List.map_cons] at h1 ⊢
      rw [a2, h1]
    · simp only [List.map_cons]
      rw [a3, h2]
    · intro p hp
      rcases List.mem_cons.1 hp with rfl | hp
      · exact a1
      · exact h3 p hp

/-- The code points of the joined text. -/
def jcs : List (List Int × Int) → List Int
  | [] => []
  | p :: l => p.1 ++ flat (l.map fun q => ([32], q.1, q.2))

theorem jn_cons (x : List UInt8) (l : List (List UInt8)) : jn (x :: l) = x ++ (l.map fun y => 32 :: y).flatten := by
  induction l generalizing x with
  | nil => simp [jn]
  | cons y l ih => simp only [jn, ih, List.map_cons, List.flatten_cons]; simp

theorem enc_blank : enc 32 = [32] := by decide +kernel

theorem jcs_enc (rk : List (List Int × Int)) : jn (rk.map fun p => encAll p.1) = encAll (jcs rk) := by
  cases rk with
  | nil => rfl
  | cons p l =>
    simp only [List.map_cons, jcs]
    rw [jn_cons, encAll_append]
    congr 1
    induction l with
    | nil => rfl
    | cons q l ih =>
      simp only [List.map_cons, List.flatten_cons, flat]
      rw [encAll_append, encAll_append, ih]
      simp [encAll, enc_blank]

theorem flat_cp (ps : List (List Int × List Int × Int)) (h : ∀ x ∈ ps, (∀ c ∈ x.1, isCp c = true) ∧ ∀ c ∈ x.2.1, isCp c = true) : ∀ c ∈ flat ps, isCp c = true := by
  induction ps with
  | nil => intro c hc; cases hc
  | cons x ps ih =>
    intro c hc
    simp only [flat, List.mem_append] at hc
    rcases hc with (hc | hc) | hc
    · exact (h x (by simp)).1 c hc
    · exact (h x (by simp)).2 c hc
    · exact ih (fun y hy => h y (by simp [hy])) c hc

theorem flat_len (ps : List (List Int × List Int × Int)) (m : Nat) (h : ∀ x ∈ ps, (encAll x.1).length ≤ m ∧ (encAll x.2.1).length ≤ 24) : (encAll (flat ps)).length ≤ ps.length * (m + 24) := by
  induction ps with
  | nil => simp [flat, encAll]
  | cons x ps ih =>
    have h1 := h x (by simp)
    have h2 := ih (fun y hy => h y (by simp [hy]))
    simp only [flat]
    rw [encAll_append, encAll_append, List.length_append, List.length_append, List.length_cons, Nat.add_mul]
    omega

/-- The joined text has just these tokens. -/
theorem join_lex (rk : List (List Int × Int)) (h : ∀ p ∈ rk, IsTok p.1 p.2) (hl : rk.length ≤ 300) :
    (∀ c ∈ jcs rk, isCp c = true) ∧ (encAll (jcs rk)).length ≤ 20000 ∧ ∃ st, goS sc0 0 (jcs rk) = .ok st ∧ st.toks.map strip = rk.map fun p => (p.2, encAll p.1) := by
  cases rk with
  | nil => exact ⟨by simp [jcs], by simp [jcs, encAll], sc0, rfl, rfl⟩
  | cons p l =>
    have hp := h p (by simp)
    have hps : ∀ x ∈ l.map (fun q : List Int × Int => (([32] : List Int), q.1, q.2)), Gap x.1 ∧ IsTok x.2.1 x.2.2 := by
      intro x hx
      obtain ⟨q, hq, rfl⟩ := List.mem_map.1 hx
      exact ⟨gap_blank 32 (by decide +kernel) (by decide), h q (by simp [hq])⟩
    obtain ⟨s1, a1, a2, a3⟩ := tok_go hp sc0 rfl rfl 0
    obtain ⟨s2, b1, b2, b3⟩ := lex_pairs _ hps s1 (0 + (encAll p.1).length) a2
    refine ⟨?_, ?_, s2, ?_, ?_⟩
    · intro c hc
      simp only [jcs, List.mem_append] at hc
      rcases hc with hc | hc
      · exact (isTok_cp hp).1 c hc
      · refine flat_cp _ ?_ c hc
        intro x hx
        obtain ⟨q, hq, rfl⟩ := List.mem_map.1 hx
        exact ⟨by simp only [List.mem_singleton]; rintro c rfl; decide +kernel, (isTok_cp (h q (by simp [hq]))).1⟩
    · simp only [jcs]
      have h1 := (isTok_cp hp).2
      have h2 := flat_len (l.map fun q : List Int × Int => (([32] : List Int), q.1, q.2)) 1 (by
        intro x hx
        obtain ⟨q, hq, rfl⟩ := List.mem_map.1 hx
        exact ⟨by simp [encAll, enc_blank], (isTok_cp (h q (by simp [hq]))).2⟩)
      rw [encAll_append, List.length_append]
      simp at h2 hl
      omega
    · simp only [jcs]
      rw [goS_append, a1]
      exact b1
    · rw [b3, a3]
      simp [strip, sc0, Sc.toks, curToks]

/-- Two lists that are the same but for the places. -/
theorem strip_same {l m : List Tok} (h : l.map strip = m.map strip) : l.length = m.length ∧ ∀ (i : Nat) (t u : Tok), l[i]? = some t → m[i]? = some u → t.kind = u.kind ∧ t.text = u.text := by
  refine ⟨by simpa using congrArg List.length h, fun i t u ht hu => ?_⟩
  have e := congrArg (fun x => x[i]?) h
  simp only [List.getElem?_map, ht, hu, Option.map_some, Option.some.injEq, strip, Prod.mk.injEq] at e
  exact e
end Go.Proofs.Ytlmfmgpamhhncaa

/- Plain facts: blanks and remarks between tokens turn no token but its place. -/
namespace Go.Proofs.Ytlmfmgpamhhncaa

/-- What stands between two tokens, by its number. -/
def sepc : Nat → List Int
  | 0 => [32]
  | 1 => [10, 9]
  | 2 => 35 :: [32, 115, 97, 103, 97, 32, 123, 59] ++ [10]
  | 3 => [13, 32]
  | 4 => [32] ++ (35 :: [252, 33] ++ [10]) ++ [32]
  | _ => [32, 32]

theorem sepc_gap (j : Nat) : Gap (sepc j) := by
  have b32 : Gap [32] := gap_blank 32 (by decide +kernel) (by decide)
  have b10 : Gap [10] := gap_blank 10 (by decide +kernel) (by decide)
  have b9 : Gap [9] := gap_blank 9 (by decide +kernel) (by decide)
  have b13 : Gap [13] := gap_blank 13 (by decide +kernel) (by decide)
  match j with
  | 0 => exact b32
  | 1 => exact gap_append b10 b9
  | 2 => exact gap_remark _ (by decide)
  | 3 => exact gap_append b13 b32
  | 4 => exact gap_append (gap_append b32 (gap_remark _ (by decide))) b32
  | j + 5 => exact gap_append b32 b32

theorem sepc_cp (j : Nat) : (∀ c ∈ sepc j, isCp c = true) ∧ (encAll (sepc j)).length ≤ 10 := by
  match j with
  | 0 => exact ⟨by decide +kernel, by decide +kernel⟩
  | 1 => exact ⟨by decide +kernel, by decide +kernel⟩
  | 2 => exact ⟨by decide +kernel, by decide +kernel⟩
  | 3 => exact ⟨by decide +kernel, by decide +kernel⟩
  | 4 => exact ⟨by decide +kernel, by decide +kernel⟩
  | j + 5 =>
    have e : sepc (j + 5) = [32, 32] := rfl
    rw [e]
    exact ⟨by decide +kernel, by decide +kernel⟩

theorem flat_snoc (ps : List (List Int × List Int × Int)) (x : List Int × List Int × Int) : flat (ps ++ [x]) = flat ps ++ x.1 ++ x.2.1 := by
  induction ps with
  | nil => simp [flat]
  | cons y ps ih => simp [flat, ih]

def tailc : List Int := [32] ++ (35 :: [32, 116, 104, 101, 32, 101, 110, 100])

/-- Parted tokens, and a remark at the end. -/
theorem blanks_lex (ps : List (List Int × List Int × Int)) (h : ∀ x ∈ ps, (∃ j, x.1 = sepc j) ∧ IsTok x.2.1 x.2.2) (hl : ps.length ≤ 300) :
    (∀ c ∈ flat ps ++ tailc, isCp c = true) ∧ (encAll (flat ps)).length ≤ 20000 ∧ (encAll (flat ps ++ tailc)).length = (encAll (flat ps)).length + 10 ∧ ∃ st, goS sc0 0 (flat ps ++ tailc) = .ok st ∧ st.toks.map strip = ps.map fun x => (x.2.2, encAll x.2.1) := by
  have hps : ∀ x ∈ ps, Gap x.1 ∧ IsTok x.2.1 x.2.2 := by
    intro x hx
    obtain ⟨⟨j, hj⟩, ht⟩ := h x hx
    exact ⟨by rw [hj]; exact sepc_gap j, ht⟩
  obtain ⟨s1, a1, a2, a3⟩ := lex_pairs ps hps sc0 0 rfl
  have b32 : Gap [32] := gap_blank 32 (by decide +kernel) (by decide)
  obtain ⟨s2, b1, b2, b3, b4⟩ := b32 s1 (0 + (encAll (flat ps)).length) a2
  have c1 := open_go [32, 116, 104, 101, 32, 101, 110, 100] (by decide) s2 b4 (0 + (encAll (flat ps)).length + (encAll [32]).length)
  refine ⟨?_, ?_, ?_, ⟨s2.toks, none, true⟩, ?_, ?_⟩
  · intro c hc
    rcases List.mem_append.1 hc with hc | hc
    · refine flat_cp ps ?_ c hc
      intro x hx
      obtain ⟨⟨j, hj⟩, ht⟩ := h x hx
      exact ⟨by rw [hj]; exact (sepc_cp j).1, (isTok_cp ht).1⟩
    · have hall : ∀ c ∈ tailc, isCp c = true := by decide +kernel
      exact hall c hc
  · have := flat_len ps 10 (by
      intro x hx
      obtain ⟨⟨j, hj⟩, ht⟩ := h x hx
      exact ⟨by rw [hj]; exact (sepc_cp j).2, (isTok_cp ht).2⟩)
    omega
  · rw [encAll_append, List.length_append]
    have : (encAll tailc).length = 10 := by decide +kernel
    omega
  · unfold tailc
    rw [goS_append, a1]
    simp only
    rw [goS_append, b1]
    exact c1
  · have e : Sc.toks ⟨s2.toks, none, true⟩ = s2.toks := by simp [Sc.toks, curToks]
    rw [e, b2, a3]
    simp [sc0, Sc.toks, curToks]
end Go.Proofs.Ytlmfmgpamhhncaa

