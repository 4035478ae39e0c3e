/- The machine that tells a text's tokens, code point by code point, as plain mathematics: nothing of the program is named here. -/
import Derived.Test.YtchdecoceokcmaaMb
namespace Go.Proofs.Ytchdecoceokcmaa

/-- The class of a number: 0 Other, 1 Letter, 2 Digit, 3 Blank, 4 Mark. -/
def kl (r : Int) : Int :=
  if isCp r = false then 0 else if 128 ≤ r ∨ (97 ≤ r ∧ r ≤ 122) ∨ (65 ≤ r ∧ r ≤ 90) ∨ r = 95 then 1 else if 48 ≤ r ∧ r ≤ 57 then 2
  else if r = 9 ∨ r = 10 ∨ r = 13 ∨ r = 32 then 3 else if 32 < r ∧ r < 127 then 4 else 0

/-- Is a number one of the six marks? -/
def isMark (c : Int) : Bool := decide (c = 123 ∨ c = 125 ∨ c = 40 ∨ c = 41 ∨ c = 59 ∨ c = 44)

/-- A token: what it is, its bytes, its place. -/
structure Tok where
  kind : Int
  text : List UInt8
  at_ : Nat

/-- How far a text has been gone through: the tokens that are done, the name that may go on, whether a remark stands open. -/
structure Sc where
  done : List Tok
  cur : Option (Nat × List UInt8)
  remark : Bool

def curToks : Option (Nat × List UInt8) → List Tok
  | none => []
  | some p => [⟨1, p.2, p.1⟩]

def Sc.toks (s : Sc) : List Tok := s.done ++ curToks s.cur

def sc0 : Sc := ⟨[], none, false⟩

inductive Out where
  | ok (s : Sc)
  | err (p : Nat) (e : Int)

def letterS (s : Sc) (at_ : Nat) (c : Int) : Out :=
  match s.cur with
  | none => .ok ⟨s.done, some (at_, enc c), false⟩
  | some p => if p.1 + 24 < at_ + (enc c).length then .err p.1 5 else .ok ⟨s.done, some (p.1, p.2 ++ enc c), false⟩

def stepS (s : Sc) (at_ : Nat) (c : Int) : Out :=
  if s.remark = true then .ok ⟨s.done, s.cur, decide (c ≠ 10)⟩
  else if c = 35 then .ok ⟨s.toks, none, true⟩
  else if kl c = 3 then .ok ⟨s.toks, none, false⟩
  else if isMark c = true then .ok ⟨s.toks ++ [⟨2, enc c, at_⟩], none, false⟩
  else if kl c = 2 then (match s.cur with | none => .err at_ 10 | some _ => letterS s at_ c)
  else if kl c = 1 then letterS s at_ c
  else .err at_ 10

def goS (s : Sc) (at_ : Nat) : List Int → Out
  | [] => .ok s
  | c :: cs => match stepS s at_ c with
    | .ok s' => goS s' (at_ + (enc c).length) cs
    | .err p e => .err p e

theorem goS_append (a b : List Int) : ∀ (s : Sc) (p : Nat), goS s p (a ++ b) = match goS s p a with
    | .ok s' => goS s' (p + (encAll a).length) b
    | .err q e => .err q e := by
  induction a with
  | nil => intro s p; simp [goS, encAll]
  | cons c a ih =>
    intro s p
    simp only [List.cons_append, goS]
    cases h : stepS s p c with
    | ok s' =>
      simp only
      rw [ih]
      simp [encAll, Nat.add_assoc]
    | err q e => rfl

theorem goS_snoc_ok {s s' : Sc} {p : Nat} {d : List Int} (h : goS s p d = .ok s') (c : Int) : goS s p (d ++ [c]) = stepS s' (p + (encAll d).length) c := by
  rw [goS_append, h]
  simp only [goS]
  cases stepS s' (p + (encAll d).length) c <;> rfl

theorem goS_prefix {s s' : Sc} {p : Nat} {a b : List Int} (h : goS s p (a ++ b) = .ok s') : ∃ s1, goS s p a = .ok s1 ∧ goS s1 (p + (encAll a).length) b = .ok s' := by
  rw [goS_append] at h
  cases h1 : goS s p a with
  | ok s1 => rw [h1] at h; exact ⟨s1, rfl, h⟩
  | err q e => rw [h1] at h; cases h

/-- Induction from behind. -/
theorem snoc_ind {α : Type} {P : List α → Prop} (h0 : P []) (h1 : ∀ d c, P d → P (d ++ [c])) (l : List α) : P l := by
  have h : ∀ n, ∀ l : List α, l.length = n → P l := by
    intro n
    induction n with
    | zero => intro l hl; rw [List.eq_nil_of_length_eq_zero hl]; exact h0
    | succ n ih =>
      intro l hl
      have hne : l ≠ [] := by intro h; rw [h] at hl; cases hl
      rw [← List.dropLast_concat_getLast hne]
      exact h1 _ _ (ih _ (by rw [List.length_dropLast, hl]; rfl))
  exact h _ l rfl

theorem kl_name (c : Int) (h : kl c = 1 ∨ kl c = 2) : c ≠ 35 ∧ kl c ≠ 3 ∧ isMark c = false ∧ c ≠ 10 := by
  have h3 : kl c ≠ 3 := by omega
  unfold kl at h
  refine ⟨?_, h3, ?_, ?_⟩
  · rintro rfl; revert h; decide
  · unfold isMark
    rw [decide_eq_false_iff_not]
    rintro (rfl | rfl | rfl | rfl | rfl | rfl) <;> (revert h; decide)
  · rintro rfl; revert h; decide

theorem kl_mark (c : Int) (h : isMark c = true) : kl c = 4 ∧ c ≠ 35 ∧ enc c = [UInt8.ofNat c.toNat] ∧ isCp c = true ∧ 0 ≤ c ∧ c < 128 := by
  unfold isMark at h
  rw [decide_eq_true_eq] at h
  rcases h with rfl | rfl | rfl | rfl | rfl | rfl <;> decide +kernel

/-- The ways a step goes well. -/
theorem step_ok {s s' : Sc} {p : Nat} {c : Int} (h : stepS s p c = .ok s') :
    (s.remark = true ∧ s' = ⟨s.done, s.cur, decide (c ≠ 10)⟩) ∨
    (s.remark = false ∧ (c = 35 ∨ kl c = 3) ∧ s' = ⟨s.toks, none, decide (c = 35)⟩) ∨
    (s.remark = false ∧ isMark c = true ∧ s' = ⟨s.toks ++ [⟨2, enc c, p⟩], none, false⟩) ∨
    (s.remark = false ∧ s.cur = none ∧ kl c = 1 ∧ s' = ⟨s.done, some (p, enc c), false⟩) ∨
    (∃ q t, s.remark = false ∧ s.cur = some (q, t) ∧ (kl c = 1 ∨ kl c = 2) ∧ p + (enc c).length ≤ q + 24 ∧ s' = ⟨s.done, some (q, t ++ enc c), false⟩) := by
  have fin : s.remark = false → (kl c = 1 ∨ (kl c = 2 ∧ s.cur ≠ none)) → letterS s p c = .ok s' →
      (s.remark = false ∧ s.cur = none ∧ kl c = 1 ∧ s' = ⟨s.done, some (p, enc c), false⟩) ∨
      (∃ q t, s.remark = false ∧ s.cur = some (q, t) ∧ (kl c = 1 ∨ kl c = 2) ∧ p + (enc c).length ≤ q + 24 ∧ s' = ⟨s.done, some (q, t ++ enc c), false⟩) := by
    intro hr hk hl
    unfold letterS at hl
    split at hl
    · rename_i hc
      simp only [Out.ok.injEq] at hl
      rcases hk with hk | ⟨_, hn⟩
      · exact .inl ⟨hr, hc, hk, hl.symm⟩
      · exact absurd hc hn
    · rename_i q hc
      split at hl
      · cases hl
      · rename_i hle
        simp only [Out.ok.injEq] at hl
        exact .inr ⟨q.1, q.2, hr, hc, hk.imp id And.left, by omega, hl.symm⟩
  unfold stepS at h
  split at h
  · rename_i hr
    simp only [Out.ok.injEq] at h
    exact .inl ⟨hr, h.symm⟩
  rename_i hr
  have hr : s.remark = false := by simpa using hr
  split at h
  · rename_i hc
    simp only [Out.ok.injEq] at h
    exact .inr (.inl ⟨hr, .inl hc, by rw [← h]; simp [hc]⟩)
  rename_i hc
  split at h
  · rename_i hk
    simp only [Out.ok.injEq] at h
    exact .inr (.inl ⟨hr, .inr hk, by rw [← h]; simp [hc]⟩)
  split at h
  · rename_i hm
    simp only [Out.ok.injEq] at h
    exact .inr (.inr (.inl ⟨hr, hm, h.symm⟩))
  split at h
  · rename_i hk
    split at h
    · cases h
    · rename_i q hcur
      exact .inr (.inr (.inr (fin hr (.inr ⟨hk, by rw [hcur]; simp⟩) h)))
  split at h
  · rename_i hk
    exact .inr (.inr (.inr (fin hr (.inl hk) h)))
  · cases h

/-- The ways a step goes wrong. -/
theorem step_err {s : Sc} {p : Nat} {c : Int} {q : Nat} {e : Int} (h : stepS s p c = .err q e) :
    s.remark = false ∧ c ≠ 35 ∧ kl c ≠ 3 ∧ isMark c = false ∧
    ((q = p ∧ e = 10 ∧ ((kl c = 2 ∧ s.cur = none) ∨ (kl c ≠ 1 ∧ kl c ≠ 2))) ∨
     (∃ t, e = 5 ∧ s.cur = some (q, t) ∧ (kl c = 1 ∨ kl c = 2) ∧ q + 24 < p + (enc c).length)) := by
  have fin : (kl c = 1 ∨ kl c = 2) → letterS s p c = .err q e → ∃ t, e = 5 ∧ s.cur = some (q, t) ∧ (kl c = 1 ∨ kl c = 2) ∧ q + 24 < p + (enc c).length := by
    intro hk hl
    unfold letterS at hl
    split at hl
    · cases hl
    · rename_i x hc
      split at hl
      · rename_i hle
        simp only [Out.err.injEq] at hl
        obtain ⟨rfl, rfl⟩ := hl
        exact ⟨x.2, rfl, hc, hk, hle⟩
      · cases hl
  unfold stepS at h
  split at h
  · cases h
  rename_i hr
  have hr : s.remark = false := by simpa using hr
  split at h
  · cases h
  rename_i h35
  split at h
  · cases h
  rename_i h3
  split at h
  · cases h
  rename_i hm
  refine ⟨hr, h35, h3, by simpa using hm, ?_⟩
  split at h
  · rename_i hk
    split at h
    · rename_i hcur
      simp only [Out.err.injEq] at h
      exact .inl ⟨h.1.symm, h.2.symm, .inl ⟨hk, hcur⟩⟩
    · exact .inr (fin (.inr hk) h)
  rename_i hk2
  split at h
  · rename_i hk
    exact .inr (fin (.inl hk) h)
  · rename_i hk1
    simp only [Out.err.injEq] at h
    exact .inl ⟨h.1.symm, h.2.symm, .inr ⟨hk1, hk2⟩⟩

/-- A name's code point, where a name goes on. -/
theorem step_more (done : List Tok) (q : Nat) (t : List UInt8) (p : Nat) (c : Int) (hk : kl c = 1 ∨ kl c = 2) :
    stepS ⟨done, some (q, t), false⟩ p c = if q + 24 < p + (enc c).length then .err q 5 else .ok ⟨done, some (q, t ++ enc c), false⟩ := by
  obtain ⟨h1, h2, h3, _⟩ := kl_name c hk
  unfold stepS
  simp only [h1, h2, h3, if_false, Bool.false_eq_true]
  rcases hk with hk | hk
  · rw [if_neg (by omega), if_pos hk]
    rfl
  · rw [if_pos hk]
    rfl

/-- A Letter, where no name goes on. -/
theorem step_new (done : List Tok) (p : Nat) (c : Int) (hk : kl c = 1) : stepS ⟨done, none, false⟩ p c = .ok ⟨done, some (p, enc c), false⟩ := by
  obtain ⟨h1, h2, h3, _⟩ := kl_name c (.inl hk)
  unfold stepS
  simp only [h1, h2, h3, if_false, Bool.false_eq_true]
  rw [if_neg (by omega), if_pos hk]
  rfl

/-- In an open remark no name goes on. -/
theorem remark_cur : ∀ (d : List Int) (s : Sc), goS sc0 0 d = .ok s → s.remark = true → s.cur = none := by
  intro d
  induction d using snoc_ind with
  | h0 => intro s h _; simp only [goS, Out.ok.injEq] at h; rw [← h]; rfl
  | h1 d c ih =>
    intro s h hr
    obtain ⟨s1, h1, h2⟩ := goS_prefix h
    rw [goS_snoc_ok h1] at h
    rcases step_ok h with ⟨a, rfl⟩ | ⟨_, _, rfl⟩ | ⟨_, _, rfl⟩ | ⟨_, _, _, rfl⟩ | ⟨_, _, _, _, _, _, rfl⟩
    · exact ih s1 h1 a
    · rfl
    · rfl
    · cases hr
    · cases hr

/-- The name that goes on: its bytes are the last ones, and from its first byte on alone it is read the same. -/
theorem cur_inv : ∀ (d : List Int) (s : Sc), goS sc0 0 d = .ok s → ∀ p t, s.cur = some (p, t) →
    ∃ d1 d2, d = d1 ++ d2 ∧ t = encAll d2 ∧ p = (encAll d1).length ∧ (∃ s1, goS sc0 0 d1 = .ok s1) ∧ goS sc0 0 d2 = .ok ⟨[], some (0, t), false⟩ ∧ d2 ≠ [] := by
  intro d
  induction d using snoc_ind with
  | h0 => intro s h p t hc; simp only [goS, Out.ok.injEq] at h; rw [← h] at hc; cases hc
  | h1 d c ih =>
    intro s h p t hc
    obtain ⟨s1, h1, h2⟩ := goS_prefix h
    rw [goS_snoc_ok h1, Nat.zero_add] at h
    rcases step_ok h with ⟨a, rfl⟩ | ⟨_, _, rfl⟩ | ⟨_, _, rfl⟩ | ⟨_, _, hk, rfl⟩ | ⟨q, u, _, hcur, hk, hle, rfl⟩
    · rw [show s1.cur = none from remark_cur d s1 h1 a] at hc
      cases hc
    · cases hc
    · cases hc
    · simp only [Option.some.injEq, Prod.mk.injEq] at hc
      obtain ⟨rfl, rfl⟩ := hc
      refine ⟨d, [c], rfl, by simp [encAll], rfl, ⟨s1, h1⟩, ?_, by simp⟩
      simp only [goS, sc0, step_new [] 0 c hk]
    · simp only [Option.some.injEq, Prod.mk.injEq] at hc
      obtain ⟨rfl, rfl⟩ := hc
      obtain ⟨d1, d2, e1, e2, e3, e4, e5, e6⟩ := ih s1 h1 q u hcur
      refine ⟨d1, d2 ++ [c], by rw [e1]; simp, by rw [encAll_append, encAll_one, e2], e3, e4, ?_, by simp⟩
      rw [goS_snoc_ok e5, step_more _ _ _ _ _ hk]
      have hlen : (encAll d).length = (encAll d1).length + (encAll d2).length := by rw [e1, encAll_append, List.length_append]
      rw [if_neg (by omega)]

/-- What a text's tokens are: the answer, by the text's code points and what is left from the first bad byte on. -/
structure Res where
  toks : List Tok
  place : Nat
  err : Int

def lexR (cs : List Int) (rest : List UInt8) : Res :=
  match goS sc0 0 cs with
  | .err p e => ⟨[], p, e⟩
  | .ok s => if rest = [] then ⟨s.toks, (encAll cs).length, 0⟩ else ⟨[], (encAll cs).length, 4⟩

/-- The tokens are not more than the bytes. -/
theorem toks_len : ∀ (d : List Int), (∀ c ∈ d, isCp c = true) → ∀ s, goS sc0 0 d = .ok s → s.toks.length ≤ (encAll d).length := by
  intro d
  induction d using snoc_ind with
  | h0 => intro _ s h; simp only [goS, Out.ok.injEq] at h; rw [← h]; simp [Sc.toks, sc0, curToks]
  | h1 d c ih =>
    intro hcp s h
    obtain ⟨s1, h1, h2⟩ := goS_prefix h
    rw [goS_snoc_ok h1, Nat.zero_add] at h
    have hi := ih (fun x hx => hcp x (by simp [hx])) s1 h1
    have he := (enc_pos c (hcp c (by simp))).1
    rw [encAll_append, encAll_one, List.length_append]
    rcases step_ok h with ⟨a, rfl⟩ | ⟨_, _, rfl⟩ | ⟨_, _, rfl⟩ | ⟨_, hc, hk, rfl⟩ | ⟨q, u, _, hcur, hk, hle, rfl⟩
    · simp [Sc.toks] at hi ⊢; omega
    · simp [Sc.toks, curToks] at hi ⊢; omega
    · simp [Sc.toks, curToks] at hi ⊢; omega
    · simp [Sc.toks, curToks] at hi ⊢; omega
    · simp [Sc.toks, curToks, hcur] at hi ⊢; omega
end Go.Proofs.Ytchdecoceokcmaa
