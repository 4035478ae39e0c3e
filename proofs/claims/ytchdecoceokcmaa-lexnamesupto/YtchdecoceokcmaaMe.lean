/- Plain facts about the machine: where it stops, and what it has told behind a token's last byte. -/
import Derived.Test.YtchdecoceokcmaaMd
namespace Go.Proofs.Ytchdecoceokcmaa

theorem goS_err : ∀ (cs : List Int) (s : Sc) (p q : Nat) (e : Int), goS s p cs = .err q e → ∃ d c todo st, cs = d ++ c :: todo ∧ goS s p d = .ok st ∧ stepS st (p + (encAll d).length) c = .err q e := by
  intro cs
  induction cs with
  | nil => intro s p q e h; simp [goS] at h
  | cons c cs ih =>
    intro s p q e h
    simp only [goS] at h
    cases hs : stepS s p c with
    | ok s' =>
      rw [hs] at h
      simp only at h
      obtain ⟨d, c2, todo, st, h1, h2, h3⟩ := ih s' _ q e h
      refine ⟨c :: d, c2, todo, st, by rw [h1]; rfl, by simp only [goS, hs]; exact h2, ?_⟩
      rw [← h3]
      congr 1
      simp [encAll]
      omega
    | err q2 e2 =>
      rw [hs] at h
      simp only [Out.err.injEq] at h
      obtain ⟨rfl, rfl⟩ := h
      exact ⟨[], c, cs, s, rfl, rfl, by simpa [encAll] using hs⟩

theorem lexR_ok {cs : List Int} {st : Sc} (h : goS sc0 0 cs = .ok st) : lexR cs [] = ⟨st.toks, (encAll cs).length, 0⟩ := by
  unfold lexR
  rw [h]
  rfl

/-- What stands ahead of the place of an error is no error; from there on the text is refused at its beginning, by the same error. -/
theorem lex_stops (cs : List Int) (rest : List UInt8) (hcp : ∀ c ∈ cs, isCp c = true) (he : (lexR cs rest).err ≠ 0) :
    (lexR cs rest).toks = [] ∧ ∃ d cs2, cs = d ++ cs2 ∧ (lexR cs rest).place = (encAll d).length ∧ (lexR d []).err = 0 ∧ lexR cs2 rest = ⟨[], 0, (lexR cs rest).err⟩ ∧ (encAll d).length < (encAll cs ++ rest).length := by
  cases hg : goS sc0 0 cs with
  | ok st =>
    have hr : rest ≠ [] := by
      intro hr
      subst hr
      rw [lexR_ok hg] at he
      exact he rfl
    have e1 : lexR cs rest = ⟨[], (encAll cs).length, 4⟩ := by unfold lexR; rw [hg]; simp [hr]
    have e2 : lexR [] rest = ⟨[], 0, 4⟩ := by unfold lexR; simp [goS, hr, encAll]
    rw [e1]
    refine ⟨rfl, cs, [], by simp, rfl, by rw [lexR_ok hg], e2, ?_⟩
    have := List.length_pos_iff.2 hr
    simp
    omega
  | err p e =>
    have e1 : lexR cs rest = ⟨[], p, e⟩ := by unfold lexR; rw [hg]
    rw [e1]
    obtain ⟨d, c, todo, st, h1, h2, h3⟩ := goS_err cs sc0 0 p e hg
    rw [Nat.zero_add] at h3
    have hc := hcp c (by rw [h1]; simp)
    have hep := enc_pos c hc
    obtain ⟨hrm, h35, hk3, hmk, hw⟩ := step_err h3
    refine ⟨rfl, ?_⟩
    rcases hw with ⟨rfl, rfl, hk⟩ | ⟨t, rfl, hcur, hk, hbig⟩
    · refine ⟨d, c :: todo, h1, rfl, by rw [lexR_ok h2], ?_, ?_⟩
      · have hst : stepS sc0 0 c = .err 0 10 := by
          unfold stepS sc0
          simp only [h35, hk3, hmk, if_false, Bool.false_eq_true]
          rcases hk with ⟨hk2, _⟩ | ⟨hk1, hk2⟩
          · rw [if_pos hk2]
          · rw [if_neg hk2, if_neg hk1]
        unfold lexR
        simp only [goS, hst]
      · rw [h1, encAll_append]
        simp [encAll]
        omega
    · obtain ⟨d1, d2, f1, f2, f3, ⟨s1, f4⟩, f5, f6⟩ := cur_inv d st h2 p t hcur
      have hl : (encAll d).length = (encAll d1).length + (encAll d2).length := by rw [f1, encAll_append, List.length_append]
      refine ⟨d1, d2 ++ c :: todo, by rw [h1, f1]; simp, f3, by rw [lexR_ok f4], ?_, ?_⟩
      · have hgo : goS sc0 0 (d2 ++ c :: todo) = .err 0 5 := by
          rw [goS_append, f5]
          simp only [goS]
          rw [step_more _ _ _ _ _ hk, if_pos (by omega)]
        unfold lexR
        rw [hgo]
      · rw [h1, f1, encAll_append, encAll_append]
        simp [encAll]
        omega

/-- Behind a token's last byte the tokens are the first ones. -/
theorem lex_cuts : ∀ (d : List Int) (st : Sc), goS sc0 0 d = .ok st → ∀ (i : Nat) (t : Tok), st.toks[i]? = some t →
    ∃ d1 d2 st1, d = d1 ++ d2 ∧ goS sc0 0 d1 = .ok st1 ∧ st1.toks = st.toks.take (i + 1) ∧ t.at_ + t.text.length = (encAll d1).length := by
  intro d
  induction d using snoc_ind with
  | h0 => intro st h i t hi; simp only [goS, Out.ok.injEq] at h; rw [← h] at hi; simp [Sc.toks, sc0, curToks] at hi
  | h1 d c ih =>
    intro st h i t hi
    obtain ⟨s1, h1, h2⟩ := goS_prefix h
    have hgo := h
    rw [goS_snoc_ok h1, Nat.zero_add] at h
    have old : ∀ (i : Nat) (t : Tok), s1.toks[i]? = some t → st.toks.take (i + 1) = s1.toks.take (i + 1) → ∃ d1 d2 st1, d ++ [c] = d1 ++ d2 ∧ goS sc0 0 d1 = .ok st1 ∧ st1.toks = st.toks.take (i + 1) ∧ t.at_ + t.text.length = (encAll d1).length := by
      intro i t hi he
      obtain ⟨d1, d2, st1, e1, e2, e3, e4⟩ := ih s1 h1 i t hi
      exact ⟨d1, d2 ++ [c], st1, by rw [e1]; simp, e2, by rw [he]; exact e3, e4⟩
    have new : ∀ (l : List Tok) (x : Tok), st.toks = l ++ [x] → (∀ (i : Nat) (t : Tok), l[i]? = some t → s1.toks[i]? = some t ∧ l.take (i + 1) = s1.toks.take (i + 1)) → x.at_ + x.text.length = (encAll (d ++ [c])).length →
        ∃ d1 d2 st1, d ++ [c] = d1 ++ d2 ∧ goS sc0 0 d1 = .ok st1 ∧ st1.toks = st.toks.take (i + 1) ∧ t.at_ + t.text.length = (encAll d1).length := by
      intro l x hl hold hx
      by_cases hil : i < l.length
      · have hi2 : l[i]? = some t := by rw [hl, List.getElem?_append_left hil] at hi; exact hi
        obtain ⟨a1, a2⟩ := hold i t hi2
        refine old i t a1 ?_
        rw [hl, List.take_append_of_le_length (by omega), a2]
      · have hie : i = l.length := by
          have := (List.getElem?_eq_some_iff.1 hi).1
          rw [hl] at this
          simp at this
          omega
        subst hie
        have ht : x = t := by rw [hl] at hi; simpa using hi
        subst ht
        exact ⟨d ++ [c], [], st, by simp, hgo, by rw [hl, List.take_of_length_le (by simp)], hx⟩
    have hlen : (encAll (d ++ [c])).length = (encAll d).length + (enc c).length := by rw [encAll_append, encAll_one, List.length_append]
    rcases step_ok h with ⟨a, hs⟩ | ⟨_, _, hs⟩ | ⟨_, _, hs⟩ | ⟨_, hc, hk, hs⟩ | ⟨q, u, _, hcur, hk, hle, hs⟩
    · have e : st.toks = s1.toks := by rw [hs]; rfl
      rw [e] at hi
      exact old i t hi (by rw [e])
    · have e : st.toks = s1.toks := by rw [hs]; simp [Sc.toks, curToks]
      rw [e] at hi
      exact old i t hi (by rw [e])
    · exact new s1.toks ⟨2, enc c, (encAll d).length⟩ (by rw [hs]; simp [Sc.toks, curToks]) (fun i t h => ⟨h, rfl⟩) (by rw [hlen])
    · have e : s1.toks = s1.done := by simp [Sc.toks, hc, curToks]
      exact new s1.done ⟨1, enc c, (encAll d).length⟩ (by rw [hs]; simp [Sc.toks, curToks]) (fun i t h => by rw [e]; exact ⟨h, rfl⟩) (by rw [hlen])
    · obtain ⟨d1, d2, f1, f2, f3, _, _, _⟩ := cur_inv d s1 h1 q u hcur
      have e : s1.toks = s1.done ++ [⟨1, u, q⟩] := by simp [Sc.toks, hcur, curToks]
      refine new s1.done ⟨1, u ++ enc c, q⟩ (by rw [hs]; simp [Sc.toks, curToks]) (fun i t h => ?_) ?_
      · have hil := (List.getElem?_eq_some_iff.1 h).1
        rw [e, List.getElem?_append_left hil, List.take_append_of_le_length (by omega)]
        exact ⟨h, rfl⟩
      · have hl : (encAll d).length = (encAll d1).length + (encAll d2).length := by rw [f1, encAll_append, List.length_append]
        rw [hlen, hl]
        simp only [List.length_append]
        rw [f2, f3]
        omega
end Go.Proofs.Ytchdecoceokcmaa
