/- Texts of the seat, packed: SMb SMc SMd SMe SMf SWA SWC SWB SWH. -/
import Derived.Test.YtlegmmhacnbnlaaGreatDoorP03
import Derived.Lib.Strings
import Derived.Test.YtlegmmhacnbnlaaGreatDoorRows
import Derived.WalkKit
import Derived.WalkLawsBesides
import Derived.WalkSpells
import Derived.BigQuiet
import Derived.Deep.QuietTactic
import Derived.Laws.BytesArg
import Derived.Laws.IdiomStrings
import Derived.Lib.OthersKept
/- Plain facts about texts and their code points: nothing of the program is named here. -/
namespace Go.Proofs.YtlegmmhacnbnlaaGreatDoor.Sx

theorem enc_len (c : Int) (h : isCp c = true) : ((enc c).length : Int) = wid c := by
  obtain ⟨n, rfl, hn⟩ := cp_cases c h
  rcases hn with hn | ⟨h1, h2⟩ | ⟨h1, h2, h3⟩ | ⟨h1, h2⟩
  · rw [enc1 n hn]
    unfold wid
    rw [if_neg (by omega), if_pos (by omega)]
    rfl
  · rw [enc2 n h1 h2]
    unfold wid
    rw [if_neg (by omega), if_neg (by omega), if_pos (by omega)]
    rfl
  · rw [enc3 n h1 h2]
    unfold wid
    rw [if_neg (by omega), if_neg (by omega), if_neg (by omega)]
    rcases h3 with h3 | h3
    · rw [if_pos (by omega)]
      rfl
    · rw [if_neg (by omega), if_neg (by omega), if_pos (by omega)]
      rfl
  · rw [enc4 n h1]
    unfold wid
    rw [if_neg (by omega), if_neg (by omega), if_neg (by omega), if_neg (by omega), if_neg (by omega), if_neg (by omega), if_pos (by omega)]
    rfl

theorem wid_bd (c : Int) (h : isCp c = true) : 1 ≤ wid c ∧ wid c ≤ 4 := by
  rw [isCp_iff] at h
  unfold wid
  repeat' split
  all_goals omega

theorem enc_pos (c : Int) (h : isCp c = true) : 1 ≤ (enc c).length ∧ (enc c).length ≤ 4 := by
  have h1 := enc_len c h
  have h2 := wid_bd c h
  omega

theorem cp_toNat (c : Int) (h : isCp c = true) : ((c.toNat : Nat) : Int) = c := by
  rw [isCp_iff] at h
  omega

theorem encAll_append (a b : List Int) : encAll (a ++ b) = encAll a ++ encAll b := by
  induction a with
  | nil => rfl
  | cons c a ih => simp [encAll, ih]

theorem encAll_one (c : Int) : encAll [c] = enc c := by simp [encAll]

theorem parts_exists_aux (n : Nat) : ∀ l : List UInt8, l.length ≤ n → ∃ cs rest, Parts l cs rest := by
  induction n with
  | zero =>
    intro l hl
    have : l = [] := List.eq_nil_of_length_eq_zero (by omega)
    exact ⟨[], l, by simp [encAll], by simp, .inl this⟩
  | succ n ih =>
    intro l hl
    by_cases h : ∃ c, isCp c = true ∧ enc c <+: l
    · obtain ⟨c, hc, t, ht⟩ := h
      have hp := enc_pos c hc
      have hlen : l.length = (enc c).length + t.length := by rw [← ht]; simp
      obtain ⟨cs, rest, p⟩ := ih t (by omega)
      refine ⟨c :: cs, rest, ?_, ?_, p.stop⟩
      · rw [← ht, p.eq]
        simp [encAll]
      · intro x hx
        rcases List.mem_cons.1 hx with rfl | hx
        · exact hc
        · exact p.cp x hx
    · refine ⟨[], l, by simp [encAll], by simp, .inr ?_⟩
      intro c hc hp
      exact h ⟨c, hc, hp⟩

theorem parts_exists (l : List UInt8) : ∃ cs rest, Parts l cs rest := parts_exists_aux l.length l (Nat.le_refl _)

/-- Two code points at one beginning are one. -/
theorem enc_unique (a b : Int) (l : List UInt8) (ha : isCp a = true) (hb : isCp b = true) (pa : enc a <+: l) (pb : enc b <+: l) : a = b := by
  obtain ⟨t, rfl⟩ := pa
  obtain ⟨u, hu⟩ := pb
  have h1 := decode_cp ⟨(enc a ++ t).toArray⟩ 0 a t (by simp) ha
  have h2 := decode_cp ⟨(enc a ++ t).toArray⟩ 0 b u (by rw [← hu]; simp) hb
  rw [h1] at h2
  have h3 := congrArg Prod.fst h2
  have h4 := cp_toNat a ha
  have h5 := cp_toNat b hb
  simp only at h3
  omega

theorem size_list (s : ByteArray) : s.data.toList.length = s.size := by
  show s.data.toList.length = s.data.size
  simp

theorem decode_at (s : ByteArray) (d todo : List Int) (c : Int) (rest : List UInt8) (h : s.data.toList = encAll (d ++ c :: todo) ++ rest) (hc : isCp c = true) :
    Utf8.decode s (encAll d).length = (c.toNat, (enc c).length) := by
  refine decode_cp s _ c (encAll todo ++ rest) ?_ hc
  rw [h, encAll_append]
  simp only [List.append_assoc, List.drop_left, encAll]

theorem decode_stop (s : ByteArray) (cs : List Int) (rest : List UInt8) (h : s.data.toList = encAll cs ++ rest) (hn : NoCp rest) (hne : rest ≠ []) :
    Utf8.decode s (encAll cs).length = (65533, 1) := by
  refine decode_none s _ rest ?_ hn hne
  rw [h, List.drop_left]

/-- Does a text begin with the bytes of the number fffd? -/
def hp (t : ByteArray) : Bool := decide (t.data.toList.take 3 = [239, 191, 189])

theorem enc_bad : enc 65533 = [239, 191, 189] := by decide +kernel

theorem hp_yes (s : ByteArray) (d todo : List Int) (rest : List UInt8) (h : s.data.toList = encAll (d ++ 65533 :: todo) ++ rest) :
    hp (s.extract (encAll d).length s.size) = true := by
  have hz := size_list s
  unfold hp
  rw [Lib.extract_data, h, encAll_append]
  simp only [List.append_assoc, List.drop_left, encAll, enc_bad]
  rw [h, encAll_append] at hz
  simp [encAll, enc_bad] at hz
  have e : s.size - (encAll d).length = 3 + (encAll todo).length + rest.length := by omega
  rw [e]
  simp [List.take_take]
  rw [show min 3 (3 + (encAll todo).length + rest.length) = 3 by omega]
  simp

theorem hp_no (s : ByteArray) (cs : List Int) (rest : List UInt8) (h : s.data.toList = encAll cs ++ rest) (hn : NoCp rest) :
    hp (s.extract (encAll cs).length s.size) = false := by
  unfold hp
  rw [decide_eq_false_iff_not]
  intro e
  rw [Lib.extract_data, h, List.drop_left, List.take_take] at e
  have h1 : enc 65533 <+: rest := by
    rw [enc_bad, ← e]
    exact List.take_prefix _ _
  exact hn 65533 (by decide) h1

end Go.Proofs.YtlegmmhacnbnlaaGreatDoor.Sx

/- Plain facts about the numbers that a text's first bytes may stand for. -/
namespace Go.Proofs.YtlegmmhacnbnlaaGreatDoor.Sx

/-- A text's byte as a number. -/
def bt (s : ByteArray) (i : Nat) : Nat := (s.data.toList.getD i 0).toNat

theorem bt_at (s : ByteArray) (i : Nat) (h : i < s.size) : s[i].toNat = bt s i := by
  have h2 : i < s.data.size := h
  unfold bt
  have e : s.data.toList.getD i 0 = s[i] := by
    rw [List.getD_eq_getElem?_getD, Array.getElem?_toList, Array.getElem?_eq_getElem h2]
    rfl
  rw [e]

theorem bt_lt (s : ByteArray) (i : Nat) : bt s i < 256 := by
  unfold bt
  exact UInt8.toNat_lt _

/-- What stands at a text's beginning: a code point of K bytes; or none: then K is 5. -/
def Target (l : List UInt8) (K : Nat) (c : Int) : Prop := (K = 5 ∧ NoCp l) ∨ (isCp c = true ∧ K = (enc c).length ∧ enc c <+: l)

end Go.Proofs.YtlegmmhacnbnlaaGreatDoor.Sx

/- The machine that tells a text's tokens, code point by code point, as plain mathematics: nothing of the program is named here. -/
namespace Go.Proofs.YtlegmmhacnbnlaaGreatDoor.Sx

/-- The class of a number: 0 Other, 1 Letter, 2 Digit, 3 Blank, 4 Mark. -/
def kl (r : Int) : Int :=
  if isCp r = false then 0 else if 128 ≤ r ∨ (97 ≤ r ∧ r ≤ 122) ∨ (65 ≤ r ∧ r ≤ 90) ∨ r = 95 then 1 else if 48 ≤ r ∧ r ≤ 57 then 2
  else if r = 9 ∨ r = 10 ∨ r = 13 ∨ r = 32 then 3 else if 32 < r ∧ r < 127 then 4 else 0

/-- Is a number one of the six marks? -/
def isMark (c : Int) : Bool := decide (c = 123 ∨ c = 125 ∨ c = 40 ∨ c = 41 ∨ c = 59 ∨ c = 44)

/-- A token: what it is, its bytes, its place. -/
structure Tok where
  kind : Int
  text : List UInt8
  at_ : Nat

/-- How far a text has been gone through: the tokens that are done, the name that may go on, whether a remark stands open. -/
structure Sc where
  done : List Tok
  cur : Option (Nat × List UInt8)
  remark : Bool

def curToks : Option (Nat × List UInt8) → List Tok
  | none => []
  | some p => [⟨1, p.2, p.1⟩]

def Sc.toks (s : Sc) : List Tok := s.done ++ curToks s.cur

def sc0 : Sc := ⟨[], none, false⟩

inductive Out where
  | ok (s : Sc)
  | err (p : Nat) (e : Int)

def letterS (s : Sc) (at_ : Nat) (c : Int) : Out :=
  match s.cur with
  | none => .ok ⟨s.done, some (at_, enc c), false⟩
  | some p => if p.1 + 24 < at_ + (enc c).length then .err p.1 5 else .ok ⟨s.done, some (p.1, p.2 ++ enc c), false⟩

def stepS (s : Sc) (at_ : Nat) (c : Int) : Out :=
  if s.remark = true then .ok ⟨s.done, s.cur, decide (c ≠ 10)⟩
  else if c = 35 then .ok ⟨s.toks, none, true⟩
  else if kl c = 3 then .ok ⟨s.toks, none, false⟩
  else if isMark c = true then .ok ⟨s.toks ++ [⟨2, enc c, at_⟩], none, false⟩
  else if kl c = 2 then (match s.cur with | none => .err at_ 10 | some _ => letterS s at_ c)
  else if kl c = 1 then letterS s at_ c
  else .err at_ 10

def goS (s : Sc) (at_ : Nat) : List Int → Out
  | [] => .ok s
  | c :: cs => match stepS s at_ c with
    | .ok s' => goS s' (at_ + (enc c).length) cs
    | .err p e => .err p e

theorem goS_append (a b : List Int) : ∀ (s : Sc) (p : Nat), goS s p (a ++ b) = match goS s p a with
    | .ok s' => goS s' (p + (encAll a).length) b
    | .err q e => .err q e := by
  induction a with
  | nil => intro s p; simp [goS, encAll]
  | cons c a ih =>
    intro s p
    simp only [List.cons_append, goS]
    cases h : stepS s p c with
    | ok s' =>
      simp only
      rw [ih]
      simp [encAll, Nat.add_assoc]
    | err q e => rfl

theorem goS_snoc_ok {s s' : Sc} {p : Nat} {d : List Int} (h : goS s p d = .ok s') (c : Int) : goS s p (d ++ [c]) = stepS s' (p + (encAll d).length) c := by
  rw [goS_append, h]
  simp only [goS]
  cases stepS s' (p + (encAll d).length) c <;> rfl

theorem goS_prefix {s s' : Sc} {p : Nat} {a b : List Int} (h : goS s p (a ++ b) = .ok s') : ∃ s1, goS s p a = .ok s1 ∧ goS s1 (p + (encAll a).length) b = .ok s' := by
  rw [goS_append] at h
  cases h1 : goS s p a with
  | ok s1 => rw [h1] at h; exact ⟨s1, rfl, h⟩
  | err q e => rw [h1] at h; cases h

/-- Induction from behind. -/
theorem snoc_ind {α : Type} {P : List α → Prop} (h0 : P []) (h1 : ∀ d c, P d → P (d ++ [c])) (l : List α) : P l := by
  have h : ∀ n, ∀ l : List α, l.length = n → P l := by
    intro n
    induction n with
    | zero => intro l hl; rw [List.eq_nil_of_length_eq_zero hl]; exact h0
    | succ n ih =>
      intro l hl
      have hne : l ≠ [] := by intro h; rw [h] at hl; cases hl
      rw [← List.dropLast_concat_getLast hne]
      exact h1 _ _ (ih _ (by rw [List.length_dropLast, hl]; rfl))
  exact h _ l rfl

theorem kl_name (c : Int) (h : kl c = 1 ∨ kl c = 2) : c ≠ 35 ∧ kl c ≠ 3 ∧ isMark c = false ∧ c ≠ 10 := by
  have h3 : kl c ≠ 3 := by omega
  unfold kl at h
  refine ⟨?_, h3, ?_, ?_⟩
  · rintro rfl; revert h; decide
  · unfold isMark
    rw [decide_eq_false_iff_not]
    rintro (rfl | rfl | rfl | rfl | rfl | rfl) <;> (revert h; decide)
  · rintro rfl; revert h; decide

theorem kl_mark (c : Int) (h : isMark c = true) : kl c = 4 ∧ c ≠ 35 ∧ enc c = [UInt8.ofNat c.toNat] ∧ isCp c = true ∧ 0 ≤ c ∧ c < 128 := by
  unfold isMark at h
  rw [decide_eq_true_eq] at h
  rcases h with rfl | rfl | rfl | rfl | rfl | rfl <;> decide +kernel

/-- The ways a step goes well. -/
theorem step_ok {s s' : Sc} {p : Nat} {c : Int} (h : stepS s p c = .ok s') :
    (s.remark = true ∧ s' = ⟨s.done, s.cur, decide (c ≠ 10)⟩) ∨
    (s.remark = false ∧ (c = 35 ∨ kl c = 3) ∧ s' = ⟨s.toks, none, decide (c = 35)⟩) ∨
    (s.remark = false ∧ isMark c = true ∧ s' = ⟨s.toks ++ [⟨2, enc c, p⟩], none, false⟩) ∨
    (s.remark = false ∧ s.cur = none ∧ kl c = 1 ∧ s' = ⟨s.done, some (p, enc c), false⟩) ∨
    (∃ q t, s.remark = false ∧ s.cur = some (q, t) ∧ (kl c = 1 ∨ kl c = 2) ∧ p + (enc c).length ≤ q + 24 ∧ s' = ⟨s.done, some (q, t ++ enc c), false⟩) := by
  have fin : s.remark = false → (kl c = 1 ∨ (kl c = 2 ∧ s.cur ≠ none)) → letterS s p c = .ok s' →
      (s.remark = false ∧ s.cur = none ∧ kl c = 1 ∧ s' = ⟨s.done, some (p, enc c), false⟩) ∨
      (∃ q t, s.remark = false ∧ s.cur = some (q, t) ∧ (kl c = 1 ∨ kl c = 2) ∧ p + (enc c).length ≤ q + 24 ∧ s' = ⟨s.done, some (q, t ++ enc c), false⟩) := by
    intro hr hk hl
    unfold letterS at hl
    split at hl
    · rename_i hc
      simp only [Out.ok.injEq] at hl
      rcases hk with hk | ⟨_, hn⟩
      · exact .inl ⟨hr, hc, hk, hl.symm⟩
      · exact absurd hc hn
    · rename_i q hc
      split at hl
      · cases hl
      · rename_i hle
        simp only [Out.ok.injEq] at hl
        exact .inr ⟨q.1, q.2, hr, hc, hk.imp id And.left, by omega, hl.symm⟩
  unfold stepS at h
  split at h
  · rename_i hr
    simp only [Out.ok.injEq] at h
    exact .inl ⟨hr, h.symm⟩
  rename_i hr
  have hr : s.remark = false := by simpa using hr
  split at h
  · rename_i hc
    simp only [Out.ok.injEq] at h
    exact .inr (.inl ⟨hr, .inl hc, by rw [← h]; simp [hc]⟩)
  rename_i hc
  split at h
  · rename_i hk
    simp only [Out.ok.injEq] at h
    exact .inr (.inl ⟨hr, .inr hk, by rw [← h]; simp [hc]⟩)
  split at h
  · rename_i hm
    simp only [Out.ok.injEq] at h
    exact .inr (.inr (.inl ⟨hr, hm, h.symm⟩))
  split at h
  · rename_i hk
    split at h
    · cases h
    · rename_i q hcur
      exact .inr (.inr (.inr (fin hr (.inr ⟨hk, by rw [hcur]; simp⟩) h)))
  split at h
  · rename_i hk
    exact .inr (.inr (.inr (fin hr (.inl hk) h)))
  · cases h

/-- The ways a step goes wrong. -/
theorem step_err {s : Sc} {p : Nat} {c : Int} {q : Nat} {e : Int} (h : stepS s p c = .err q e) :
    s.remark = false ∧ c ≠ 35 ∧ kl c ≠ 3 ∧ isMark c = false ∧
    ((q = p ∧ e = 10 ∧ ((kl c = 2 ∧ s.cur = none) ∨ (kl c ≠ 1 ∧ kl c ≠ 2))) ∨
     (∃ t, e = 5 ∧ s.cur = some (q, t) ∧ (kl c = 1 ∨ kl c = 2) ∧ q + 24 < p + (enc c).length)) := by
  have fin : (kl c = 1 ∨ kl c = 2) → letterS s p c = .err q e → ∃ t, e = 5 ∧ s.cur = some (q, t) ∧ (kl c = 1 ∨ kl c = 2) ∧ q + 24 < p + (enc c).length := by
    intro hk hl
    unfold letterS at hl
    split at hl
    · cases hl
    · rename_i x hc
      split at hl
      · rename_i hle
        simp only [Out.err.injEq] at hl
        obtain ⟨rfl, rfl⟩ := hl
        exact ⟨x.2, rfl, hc, hk, hle⟩
      · cases hl
  unfold stepS at h
  split at h
  · cases h
  rename_i hr
  have hr : s.remark = false := by simpa using hr
  split at h
  · cases h
  rename_i h35
  split at h
  · cases h
  rename_i h3
  split at h
  · cases h
  rename_i hm
  refine ⟨hr, h35, h3, by simpa using hm, ?_⟩
  split at h
  · rename_i hk
    split at h
    · rename_i hcur
      simp only [Out.err.injEq] at h
      exact .inl ⟨h.1.symm, h.2.symm, .inl ⟨hk, hcur⟩⟩
    · exact .inr (fin (.inr hk) h)
  rename_i hk2
  split at h
  · rename_i hk
    exact .inr (fin (.inl hk) h)
  · rename_i hk1
    simp only [Out.err.injEq] at h
    exact .inl ⟨h.1.symm, h.2.symm, .inr ⟨hk1, hk2⟩⟩

/-- A name's code point, where a name goes on. -/
theorem step_more (done : List Tok) (q : Nat) (t : List UInt8) (p : Nat) (c : Int) (hk : kl c = 1 ∨ kl c = 2) :
    stepS ⟨done, some (q, t), false⟩ p c = if q + 24 < p + (enc c).length then .err q 5 else .ok ⟨done, some (q, t ++ enc c), false⟩ := by
  obtain ⟨h1, h2, h3, _⟩ := kl_name c hk
  unfold stepS
  simp only [h1, h2, h3, if_false, Bool.false_eq_true]
  rcases hk with hk | hk
  · rw [if_neg (by omega), if_pos hk]
    rfl
  · rw [if_pos hk]
    rfl

/-- A Letter, where no name goes on. -/
theorem step_new (done : List Tok) (p : Nat) (c : Int) (hk : kl c = 1) : stepS ⟨done, none, false⟩ p c = .ok ⟨done, some (p, enc c), false⟩ := by
  obtain ⟨h1, h2, h3, _⟩ := kl_name c (.inl hk)
  unfold stepS
  simp only [h1, h2, h3, if_false, Bool.false_eq_true]
  rw [if_neg (by omega), if_pos hk]
  rfl

/-- In an open remark no name goes on. -/
theorem remark_cur : ∀ (d : List Int) (s : Sc), goS sc0 0 d = .ok s → s.remark = true → s.cur = none := by
  intro d
  induction d using snoc_ind with
  | h0 => intro s h _; simp only [goS, Out.ok.injEq] at h; rw [← h]; rfl
  | h1 d c ih =>
    intro s h hr
    obtain ⟨s1, h1, h2⟩ := goS_prefix h
    rw [goS_snoc_ok h1] at h
    rcases step_ok h with ⟨a, rfl⟩ | ⟨_, _, rfl⟩ | ⟨_, _, rfl⟩ | ⟨_, _, _, rfl⟩ | ⟨_, _, _, _, _, _, rfl⟩
    · exact ih s1 h1 a
    · rfl
    · rfl
    · cases hr
    · cases hr

/-- The name that goes on: its bytes are the last ones, and from its first byte on alone it is read the same. -/
theorem cur_inv : ∀ (d : List Int) (s : Sc), goS sc0 0 d = .ok s → ∀ p t, s.cur = some (p, t) →
    ∃ d1 d2, d = d1 ++ d2 ∧ t = encAll d2 ∧ p = (encAll d1).length ∧ (∃ s1, goS sc0 0 d1 = .ok s1) ∧ goS sc0 0 d2 = .ok ⟨[], some (0, t), false⟩ ∧ d2 ≠ [] := by
  intro d
  induction d using snoc_ind with
  | h0 => intro s h p t hc; simp only [goS, Out.ok.injEq] at h; rw [← h] at hc; cases hc
  | h1 d c ih =>
    intro s h p t hc
    obtain ⟨s1, h1, h2⟩ := goS_prefix h
    rw [goS_snoc_ok h1, Nat.zero_add] at h
    rcases step_ok h with ⟨a, rfl⟩ | ⟨_, _, rfl⟩ | ⟨_, _, rfl⟩ | ⟨_, _, hk, rfl⟩ | ⟨q, u, _, hcur, hk, hle, rfl⟩
    · rw [show s1.cur = none from remark_cur d s1 h1 a] at hc
      cases hc
    · cases hc
    · cases hc
    · simp only [Option.some.injEq, Prod.mk.injEq] at hc
      obtain ⟨rfl, rfl⟩ := hc
      refine ⟨d, [c], rfl, by simp [encAll], rfl, ⟨s1, h1⟩, ?_, by simp⟩
      simp only [goS, sc0, step_new [] 0 c hk]
    · simp only [Option.some.injEq, Prod.mk.injEq] at hc
      obtain ⟨rfl, rfl⟩ := hc
      obtain ⟨d1, d2, e1, e2, e3, e4, e5, e6⟩ := ih s1 h1 q u hcur
      refine ⟨d1, d2 ++ [c], by rw [e1]; simp, by rw [encAll_append, encAll_one, e2], e3, e4, ?_, by simp⟩
      rw [goS_snoc_ok e5, step_more _ _ _ _ _ hk]
      have hlen : (encAll d).length = (encAll d1).length + (encAll d2).length := by rw [e1, encAll_append, List.length_append]
      rw [if_neg (by omega)]

/-- What a text's tokens are: the answer, by the text's code points and what is left from the first bad byte on. -/
structure Res where
  toks : List Tok
  place : Nat
  err : Int

def lexR (cs : List Int) (rest : List UInt8) : Res :=
  match goS sc0 0 cs with
  | .err p e => ⟨[], p, e⟩
  | .ok s => if rest = [] then ⟨s.toks, (encAll cs).length, 0⟩ else ⟨[], (encAll cs).length, 4⟩

/-- The tokens are not more than the bytes. -/
theorem toks_len : ∀ (d : List Int), (∀ c ∈ d, isCp c = true) → ∀ s, goS sc0 0 d = .ok s → s.toks.length ≤ (encAll d).length := by
  intro d
  induction d using snoc_ind with
  | h0 => intro _ s h; simp only [goS, Out.ok.injEq] at h; rw [← h]; simp [Sc.toks, sc0, curToks]
  | h1 d c ih =>
    intro hcp s h
    obtain ⟨s1, h1, h2⟩ := goS_prefix h
    rw [goS_snoc_ok h1, Nat.zero_add] at h
    have hi := ih (fun x hx => hcp x (by simp [hx])) s1 h1
    have he := (enc_pos c (hcp c (by simp))).1
    rw [encAll_append, encAll_one, List.length_append]
    rcases step_ok h with ⟨a, rfl⟩ | ⟨_, _, rfl⟩ | ⟨_, _, rfl⟩ | ⟨_, hc, hk, rfl⟩ | ⟨q, u, _, hcur, hk, hle, rfl⟩
    · simp [Sc.toks] at hi ⊢; omega
    · simp [Sc.toks, curToks] at hi ⊢; omega
    · simp [Sc.toks, curToks] at hi ⊢; omega
    · simp [Sc.toks, curToks] at hi ⊢; omega
    · simp [Sc.toks, curToks, hcur] at hi ⊢; omega

end Go.Proofs.YtlegmmhacnbnlaaGreatDoor.Sx

/- Plain facts about the machine: where it stops, and what it has told behind a token's last byte. -/
namespace Go.Proofs.YtlegmmhacnbnlaaGreatDoor.Sx

theorem lexR_ok {cs : List Int} {st : Sc} (h : goS sc0 0 cs = .ok st) : lexR cs [] = ⟨st.toks, (encAll cs).length, 0⟩ := by
  unfold lexR
  rw [h]
  rfl

end Go.Proofs.YtlegmmhacnbnlaaGreatDoor.Sx

/- Plain facts about names: a name goes as far as Letters and Digits stand. -/
namespace Go.Proofs.YtlegmmhacnbnlaaGreatDoor.Sx

/-- Is a number a name's code point? -/
def isNm (c : Int) : Bool := decide (kl c = 1 ∨ kl c = 2)

theorem isNm_iff (c : Int) : isNm c = true ↔ (kl c = 1 ∨ kl c = 2) := by simp [isNm]

/-- A name that goes on. -/
theorem go_more (r : List Int) (hr : ∀ c ∈ r, isNm c = true) (hcp : ∀ c ∈ r, isCp c = true) : ∀ (done : List Tok) (q : Nat) (t : List UInt8) (p : Nat), p = q + t.length → t.length ≤ 24 →
    goS ⟨done, some (q, t), false⟩ p r = if q + 24 < p + (encAll r).length then .err q 5 else .ok ⟨done, some (q, t ++ encAll r), false⟩ := by
  induction r with
  | nil =>
    intro done q t p hp ht
    have h0 : (encAll []).length = 0 := rfl
    rw [if_neg (by omega)]
    simp [goS, encAll]
  | cons c r ih =>
    intro done q t p hp ht
    have hk := (isNm_iff c).1 (hr c (by simp))
    simp only [goS]
    rw [step_more _ _ _ _ _ hk]
    by_cases hb : q + 24 < p + (enc c).length
    · rw [if_pos hb, if_pos (by simp [encAll]; omega)]
    · rw [if_neg hb]
      simp only
      rw [ih (fun x hx => hr x (by simp [hx])) (fun x hx => hcp x (by simp [hx])) done q (t ++ enc c) (p + (enc c).length) (by simp; omega) (by simp; omega)]
      have e : p + (enc c).length + (encAll r).length = p + (encAll (c :: r)).length := by simp [encAll]; omega
      rw [e]
      simp [encAll]

/-- A name from its first code point on. -/
theorem go_name (c : Int) (r : List Int) (hc : kl c = 1) (hr : ∀ x ∈ r, isNm x = true) (hcp : ∀ x ∈ c :: r, isCp x = true) (done : List Tok) (p : Nat) :
    goS ⟨done, none, false⟩ p (c :: r) = if 24 < (encAll (c :: r)).length then .err p 5 else .ok ⟨done, some (p, encAll (c :: r)), false⟩ := by
  have hz := enc_pos c (hcp c (by simp))
  simp only [goS]
  rw [step_new done p c hc]
  simp only
  rw [go_more r hr (fun x hx => hcp x (by simp [hx])) done p (enc c) (p + (enc c).length) rfl (by omega)]
  have e : p + (enc c).length + (encAll r).length = p + (encAll (c :: r)).length := by simp [encAll]; omega
  rw [e]
  by_cases hb : 24 < (encAll (c :: r)).length
  · rw [if_pos hb, if_pos (by omega)]
  · rw [if_neg hb, if_neg (by omega)]
    simp [encAll]

end Go.Proofs.YtlegmmhacnbnlaaGreatDoor.Sx

/- Walks over glyph.Width and the document's Is and Width: what each answers of any number. -/
namespace Go.Proofs.YtlegmmhacnbnlaaGreatDoor.Sx

open Go.RowKit

theorem ret_int {k : IntKind} {a b : Int} (h : a = b) : Ending.returned (.int k a) = .returned (.int k b) := by rw [h]

theorem ret_bool {a b : Bool} (h : a = b) : Ending.returned (.bool a) = .returned (.bool b) := by rw [h]

set_option maxHeartbeats 800000 in
theorem gwidth_any (r : Int) (w : World) :
    Calls Tryz.prog 117 #[.int .i64 r] w fun e w' => e = .returned (.int .i64 (wid r)) ∧ w' = w.alloc (.cells #[.int .i64 r] 3) := by
  go_enter Tryz.func117, Tryz.ntmps117
  go_wp2
  all_goals go_ret
  all_goals refine ⟨ret_int ?_, rfl⟩
  all_goals unfold wid
  all_goals repeat' split
  all_goals omega

end Go.Proofs.YtlegmmhacnbnlaaGreatDoor.Sx

/- Walks over glyph.Class and the document's Class: what each answers of any number. -/
namespace Go.Proofs.YtlegmmhacnbnlaaGreatDoor.Sx

open Go.RowKit

/-- The class of a number: 0 Other, 1 Letter, 2 Digit, 3 Blank, 4 Mark. -/
def cls (r : Int) : Int :=
  if isCp r = false then 0 else if 128 ≤ r ∨ (97 ≤ r ∧ r ≤ 122) ∨ (65 ≤ r ∧ r ≤ 90) ∨ r = 95 then 1 else if 48 ≤ r ∧ r ≤ 57 then 2
  else if r = 9 ∨ r = 10 ∨ r = 13 ∨ r = 32 then 3 else if 32 < r ∧ r < 127 then 4 else 0

theorem wid_zero (r : Int) : (wid r == 0) = !isCp r := by
  unfold wid isCp
  rw [Bool.eq_iff_iff]
  simp
  repeat' split
  all_goals omega

set_option maxHeartbeats 1600000 in
theorem gclass_any (r : Int) (w : World) :
    Calls Tryz.prog 114 #[.int .i64 r] w fun e w' => e = .returned (.int .i64 (cls r)) ∧ w' = (w.alloc (.cells #[.int .i64 r] 3)).alloc (.cells #[.int .i64 r] 3) := by
  by_cases h : isCp r = true
  · have hz : (wid r == 0) = false := by rw [wid_zero, h]; rfl
    have H : Hid (isCp r = true) := h
    have h2 : 0 ≤ r ∧ r ≤ 1114111 ∧ (r < 55296 ∨ 57343 < r) := by simpa [isCp] using h
    obtain ⟨h3, h4, _⟩ := h2
    clear h
    go_enter Tryz.func114, Tryz.ntmps114
    go_wp2_with (first | (go_at_call 117; refine (gwidth_any _ _).mono ?_; rintro e w' ⟨rfl, rfl⟩) | go_in)
    all_goals go_ret
    all_goals refine ⟨ret_int ?_, rfl⟩
    all_goals unfold cls
    all_goals simp only [H.out]
    all_goals (repeat' split)
    all_goals first | rfl | omega | (simp_all; done) | (simp_all; omega)
  · have h1 : isCp r = false := by simpa using h
    have hz : (wid r == 0) = true := by rw [wid_zero, h1]; rfl
    have H : Hid (isCp r = false) := h1
    clear h h1
    go_enter Tryz.func114, Tryz.ntmps114
    go_wp2_with (first | (go_at_call 117; refine (gwidth_any _ _).mono ?_; rintro e w' ⟨rfl, rfl⟩) | go_in)
    all_goals go_ret
    all_goals refine ⟨ret_int ?_, rfl⟩
    all_goals simp [cls, H.out]

end Go.Proofs.YtlegmmhacnbnlaaGreatDoor.Sx

/- Walks over strings.HasPrefix (at the bytes of the number fffd) and glyph.Bad: the place of the first byte at which no code point stands. -/
namespace Go.Proofs.YtlegmmhacnbnlaaGreatDoor.Sx

open Go.RowKit

theorem ret_b {a b : Bool} (h : a = b) : Ending.returned (.bool a) = .returned (.bool b) := by rw [h]

theorem ret_i {k : IntKind} {a b : Int} (h : a = b) : Ending.returned (.int k a) = .returned (.int k b) := by rw [h]

set_option maxHeartbeats 400000 in
theorem prefix_any (t : ByteArray) (w : World) (hs : t.size ≤ 100000) :
    Calls Tryz.prog 113 #[.string t, .string ⟨#[239, 191, 189]⟩] w fun e w' => e = .returned (.bool (hp t)) ∧ w' = w := by
  by_cases h : 3 ≤ t.size
  · go_enter Tryz.func113, Tryz.ntmps113
    go_wp2
    go_ret
    refine ⟨ret_b ?_, rfl⟩
    rw [Lib.extract_toList]
    unfold hp
    rw [Bool.eq_iff_iff]
    simp
  · have hz := size_list t
    go_enter Tryz.func113, Tryz.ntmps113
    go_wp2
    go_ret
    refine ⟨ret_b ?_, rfl⟩
    unfold hp
    symm
    rw [decide_eq_false_iff_not]
    intro e
    have := congrArg List.length e
    simp at this
    omega

/-- The place of the first bad byte; -1 if there is none. -/
def badV (cs : List Int) (rest : List UInt8) : Int := if rest = [] then -1 else ((encAll cs).length : Int)

set_option maxRecDepth 1000000 in
set_option maxHeartbeats 1000000 in
theorem bad_any (s : ByteArray) (cs : List Int) (rest : List UInt8) (hp0 : Parts s.data.toList cs rest) (w : World) (hs : s.size ≤ 100000) :
    Calls Tryz.prog 111 #[.string s] w fun e w' => e = .returned (.int .i64 (badV cs rest)) ∧ Below w.heap.size w w' := by
  have hz := size_list s
  have hbl : ∀ n, Below w.heap.size w (w.iter s n) := fun n => (Below.refl _ _).alloc (Nat.le_refl _) _
  go_enter Tryz.func111, Tryz.ntmps111
  go_wp2
  go_loopw [3, 4] (fun _ _ wr => ∃ (d todo : List Int), Hid (cs = d ++ todo) ∧ wr = w.iter s (encAll d).length) (fun _ _ wr => s.size - wr.iterPos w.heap.size)
  case atStart => exact ⟨[], cs, rfl, rfl⟩
  case round =>
    obtain ⟨d, todo, HC, rfl⟩ := hrel
    have hip : ∀ n, (w.iter s n).iterPos w.heap.size = n := fun n => by simp
    cases todo with
    | cons c todo =>
      have hS : s.data.toList = encAll (d ++ c :: todo) ++ rest := by rw [← HC.out]; exact hp0.eq
      have hc : isCp c = true := hp0.cp c (by rw [HC.out]; simp)
      have hd := decode_at s d todo c rest hS hc
      have hyes : c = 65533 → hp (s.extract (encAll d).length s.size) = true := by rintro rfl; exact hp_yes s d todo rest hS
      have hk := enc_pos c hc
      have hlen : (encAll (d ++ [c])).length = (encAll d).length + (enc c).length := by rw [encAll_append, encAll_one]; simp
      have hsz : (encAll d).length + (enc c).length ≤ s.size := by
        rw [← hz, hS, encAll_append]
        simp [encAll]
      have hcn := cp_toNat c hc
      have HR : Hid (cs = (d ++ [c]) ++ todo) := by show _ = _; rw [HC.out]; simp
      have HL : Hid ((encAll (d ++ [c])).length = (encAll d).length + (enc c).length) := hlen
      generalize hp1 : (encAll d).length = pos at *
      generalize hk1 : (enc c).length = k at *
      have hnx : ∀ ty, (Instr.next (.pointer (some ⟨w.heap.size, 0, none⟩)) true ty).run Tryz.prog (w.iter s pos) = .ok (.tuple #[.bool true, .int .i64 pos, .int .i32 c]) (w.iter s (pos + k)) := by
        intro ty
        have h := run_next_any (P := Tryz.prog) w s pos ty (by omega)
        rw [hd] at h
        simp only [hcn] at h
        exact h
      have hx : (s.extract pos s.size).size ≤ 100000 := by simp; omega
      have hlt : pos < s.size := by omega
      clear hS hc hd hlen hcn HC hp1 hk1 hp0 hz
      by_cases hb : c = 65533
      · have h1 := hyes hb
        have h2 : (c == 65533) = true := by simp [hb]
        clear hb hyes
        go_wp2_with (go_at_call 113; refine (prefix_any _ _ hx).mono ?_; rintro e w' ⟨rfl, rfl⟩)
        go_roundw
        case rel => exact ⟨d ++ [c], todo, HR, by rw [HL.out]⟩
        case measure => simp; omega
      · have h2 : (c == 65533) = false := by simp [hb]
        clear hb hyes
        go_wp2_with (go_at_call 113; refine (prefix_any _ _ hx).mono ?_; rintro e w' ⟨rfl, rfl⟩)
        go_roundw
        case rel => exact ⟨d ++ [c], todo, HR, by rw [HL.out]⟩
        case measure => simp; omega
    | nil =>
      have hC : cs = d := by simpa using HC.out
      subst hC
      by_cases hr : rest = []
      · have hsz : ¬ (encAll cs).length < s.size := by
          rw [← hz, hp0.eq, hr]
          simp
        have HB : Hid (badV cs rest = -1) := by show _ = _; simp [badV, hr]
        generalize (encAll cs).length = pos at *
        have hnx : ∀ ty, (Instr.next (.pointer (some ⟨w.heap.size, 0, none⟩)) true ty).run Tryz.prog (w.iter s pos) = _ := fun ty => run_next_end w s pos ty hsz
        clear hr hp0 hz
        go_wp2
        go_ret
        exact ⟨ret_i HB.out.symm, hbl _⟩
      · have hn : NoCp rest := hp0.stop.resolve_left hr
        have hd := decode_stop s cs rest hp0.eq hn hr
        have hno := hp_no s cs rest hp0.eq hn
        have hlt : (encAll cs).length < s.size := by
          rw [← hz, hp0.eq]
          have := List.length_pos_iff.2 hr
          simp
          omega
        have HB : Hid (badV cs rest = ((encAll cs).length : Int)) := by show _ = _; simp [badV, hr]
        generalize (encAll cs).length = pos at *
        have hnx : ∀ ty, (Instr.next (.pointer (some ⟨w.heap.size, 0, none⟩)) true ty).run Tryz.prog (w.iter s pos) = .ok (.tuple #[.bool true, .int .i64 pos, .int .i32 65533]) (w.iter s (pos + 1)) := by
          intro ty
          have h := run_next_any (P := Tryz.prog) w s pos ty hlt
          rw [hd] at h
          exact h
        have hx : (s.extract pos s.size).size ≤ 100000 := by simp; omega
        clear hr hp0 hz hd hn
        go_wp2_with (go_at_call 113; refine (prefix_any _ _ hx).mono ?_; rintro e w' ⟨rfl, rfl⟩)
        go_ret
        exact ⟨ret_i HB.out.symm, hbl _⟩

end Go.Proofs.YtlegmmhacnbnlaaGreatDoor.Sx

/- Words and small laws about what lies in memory: numbers in slices, texts that are gone through, worlds that only grow. -/
namespace Go.Proofs.YtlegmmhacnbnlaaGreatDoor.Sx

open Go.RowKit

theorem owns_iterAt {w : World} {base : Nat} {e : TypeId} {size : Nat} {v : Value} {n : Nat} {xs : List Value} (h : w.ownsRow base e size v n xs) {k : Nat} (hk : k < base) (s : ByteArray) (p : Nat) : (w.iterAt k s p).ownsRow base e size v n xs := by
  obtain ⟨h1, h2⟩ := h
  refine ⟨h1, ?_⟩
  rcases h2 with h2 | ⟨g, cap, cur, a, b, c, d⟩
  · exact .inl h2
  · exact .inr ⟨g, cap, cur, a, b, by rw [Lib.iterAt_other _ _ _ _ _ (by omega)]; exact c, d⟩

theorem iter_pos_of {w : World} {k : Nat} {s : ByteArray} {p : Nat} (h : w.heap[k]? = some (.stringIter s p)) : w.iterPos k = p := by simp [World.iterPos, h]

theorem owns_low {w : World} {B B' : Nat} {e : TypeId} {size : Nat} {v : Value} {n : Nat} {xs : List Value} (h : w.ownsRow B e size v n xs) (hB : B' ≤ B) : w.ownsRow B' e size v n xs := by
  obtain ⟨h1, h2⟩ := h
  refine ⟨h1, ?_⟩
  rcases h2 with h2 | ⟨g, cap, cur, a, b, c⟩
  · exact .inl h2
  · exact .inr ⟨g, cap, cur, a, by omega, c⟩

/-- A slice of ints that reads as a list. -/
def Reads (w : World) (v : Value) (l : List Int) : Prop :=
  ∃ a cap, v = .slice a l.length cap ∧ (a = none → cap = 0) ∧ ∀ i, i < l.length → ∃ b off, a = some ⟨b, off, none⟩ ∧ w.cell? ⟨b, off + i, none⟩ = some (.int .i64 (l.getD i 0))

theorem below_drewN {B : Nat} {a w : World} (h : Below B a w) (n : Nat) : Below B a (w.drewN n) := h.trans ⟨rfl, rfl, rfl, Nat.le_refl _, fun _ _ => rfl⟩

/-- Bytes as they lie in memory. -/
def bvs (l : List UInt8) : List Value := l.map fun b => Value.int .u8 (b.toNat : Int)

theorem cells3 (w : World) (a b c : Value) (t : TypeId) : ∀ j u, [a, b, c][j]? = some u → (w.alloc (.cells #[a, b, c] t)).cell? ((⟨w.heap.size, 0, none⟩ : Addr).add j) = some u := by
  intro j u hj
  match j, hj with
  | 0, hj => simp at hj; subst hj; simp [Addr.add]
  | 1, hj => simp at hj; subst hj; simp [Addr.add]
  | 2, hj => simp at hj; subst hj; simp [Addr.add]
  | j + 3, hj => simp at hj

theorem cells4 (w : World) (a b c d : Value) (t : TypeId) : ∀ j u, [a, b, c, d][j]? = some u → (w.alloc (.cells #[a, b, c, d] t)).cell? ((⟨w.heap.size, 0, none⟩ : Addr).add j) = some u := by
  intro j u hj
  match j, hj with
  | 0, hj => simp at hj; subst hj; simp [Addr.add]
  | 1, hj => simp at hj; subst hj; simp [Addr.add]
  | 2, hj => simp at hj; subst hj; simp [Addr.add]
  | 3, hj => simp at hj; subst hj; simp [Addr.add]
  | j + 4, hj => simp at hj

theorem Reads.later {w wx : World} {v : Value} {l : List Int} (h : Reads w v l) (hb : Below w.heap.size w wx) : Reads wx v l := by
  obtain ⟨a, cap, hv, hn, hc⟩ := h
  refine ⟨a, cap, hv, hn, fun i hi => ?_⟩
  obtain ⟨b, off, ha, hcell⟩ := hc i hi
  exact ⟨b, off, ha, cell_later hb hcell⟩

theorem owns_later {w w' : World} {B : Nat} {e : TypeId} {size : Nat} {v : Value} {n : Nat} {xs : List Value} (h : w.ownsRow B e size v n xs) (hb : Below w.heap.size w w') : w'.ownsRow B e size v n xs := by
  obtain ⟨h1, h2⟩ := h
  refine ⟨h1, ?_⟩
  rcases h2 with h2 | ⟨g, cap, cur, a, b, c, d⟩
  · exact .inl h2
  · have hg : g < w.heap.size := (Array.getElem?_eq_some_iff.1 c).1
    exact .inr ⟨g, cap, cur, a, b, (hb.block g hg).trans c, d⟩

end Go.Proofs.YtlegmmhacnbnlaaGreatDoor.Sx

