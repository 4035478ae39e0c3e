/- Texts of the seat, packed: Ta Tb Tc. -/
import Derived.Test.YtlmfmgpamhhncaaPA
import Derived.Test.YtlmfmgpamhhncaaPB
/- Tokens and pieces: what a token's piece is, its text says. -/
namespace Go.Proofs.Ytlmfmgpamhhncaa
open Go.RowKit

/-- Is a text a name, and no word? -/
noncomputable def nmP (x : By) : Bool := isName x && !isWord x

/-- A name, or a mark. -/
def GoodT (t : Tok) : Prop := (t.kind = 1 ∧ nameP t.text) ∨ (t.kind = 2 ∧ isM t.text)

theorem enc_mark (c : Int) (h : isMark c = true) : isM (enc c) := by
  simp only [isMark, decide_eq_true_eq] at h
  rcases h with rfl | rfl | rfl | rfl | rfl | rfl <;> (unfold isM; decide +kernel)

theorem mark_noname (s : By) (h : isM s) : ¬ nameP s := by
  rintro ⟨r, hr, c, r', rfl, hk, _, hcp, _⟩
  have key : ∀ m : Int, isMark m = true → s = enc m → False := fun m hm hs => by
    have h1 : Parts s [m] [] := ⟨by rw [hs]; simp [encAll], fun x hx => by simp at hx; rw [hx]; exact (kl_mark m hm).2.2.2.1, .inl rfl⟩
    have h2 : Parts s (c :: r') [] := ⟨by rw [hr]; simp, hcp, .inl rfl⟩
    obtain ⟨he, _⟩ := parts_unique _ _ _ _ _ h1 h2
    simp at he
    have := (kl_name c (.inl hk)).2.2.1
    rw [← he.1, hm] at this
    cases this
  simp only [isM, List.mem_cons, List.not_mem_nil, or_false] at h
  rcases h with h | h | h | h | h | h
  · exact key 123 (by decide) (by rw [h]; decide +kernel)
  · exact key 125 (by decide) (by rw [h]; decide +kernel)
  · exact key 40 (by decide) (by rw [h]; decide +kernel)
  · exact key 41 (by decide) (by rw [h]; decide +kernel)
  · exact key 59 (by decide) (by rw [h]; decide +kernel)
  · exact key 44 (by decide) (by rw [h]; decide +kernel)

theorem good_of_lex {cs : List Int} (hcp : ∀ c ∈ cs, isCp c = true) {rest : List UInt8} {r : Res} (h : lexR cs rest = r) (he : r.err = 0) : ∀ t ∈ r.toks, GoodT t := by
  unfold lexR at h
  cases hg : goS sc0 0 cs with
  | err p e => rw [hg] at h; subst h; simp
  | ok st =>
    rw [hg] at h
    dsimp only at h
    split at h
    · subst h
      intro t ht
      rcases (tok_inv cs hcp st hg).2 t ht with h | ⟨h1, c, h2, h3⟩
      · exact .inl h
      · exact .inr ⟨h1, by rw [h3]; exact enc_mark c h2⟩
    · subst h; simp

theorem word_iff (s : By) : isWord s = true ↔ isW s := by
  simp only [isWord, isW, Bool.or_eq_true, beq_iff_eq, List.mem_cons, List.not_mem_nil, or_false, wSaga, wStep, wSub, wUndo, wAfter, wVital, wLoose, wOr]
  constructor
  · intro h; rcases h with ((((((h | h) | h) | h) | h) | h) | h) | h <;> simp [h]
  · intro h; rcases h with h | h | h | h | h | h | h | h <;> simp [h]

theorem word_mark (s : By) (h : isW s) (k : isM s) : False := by
  simp only [isW, isM, List.mem_cons, List.not_mem_nil, or_false] at h k
  rcases h with rfl | rfl | rfl | rfl | rfl | rfl | rfl | rfl <;> (rcases k with k | k | k | k | k | k <;> exact absurd k (by decide))

theorem cls_of (l : List Tok) (sz : Nat) (hg : ∀ t ∈ l, GoodT t) : Cls nmP (l.map (·.text)) (pcsOf l sz) := by
  have hat : ∀ (i : Nat) (p : Pc), (pcsOf l sz)[i]? = some p → (∃ t, l[i]? = some t ∧ p = pcOf t) ∨ (i = l.length ∧ p = ⟨103, [], sz⟩) := by
    intro i p hp
    unfold pcsOf at hp
    by_cases hi : i < l.length
    · rw [List.getElem?_append_left (by simpa using hi), List.getElem?_map] at hp
      cases ht : l[i]? with
      | none => rw [ht] at hp; simp at hp
      | some t => rw [ht] at hp; simp at hp; exact .inl ⟨t, rfl, hp.symm⟩
    · rw [List.getElem?_append_right (by simp; omega)] at hp
      simp at hp
      by_cases h0 : i - l.length = 0
      · rw [h0] at hp; simp at hp; exact .inr ⟨by omega, hp.symm⟩
      · obtain ⟨q, hq⟩ : ∃ q, i - l.length = q + 1 := ⟨i - l.length - 1, by omega⟩
        rw [hq] at hp; simp at hp
  have hin : ∀ (i : Nat) (t : Tok), l[i]? = some t → GoodT t := fun i t h => hg t (List.mem_of_getElem? h)
  have hL : ∀ (i : Nat) (t : Tok), l[i]? = some t → (l.map (·.text))[i]? = some t.text := fun i t h => by rw [List.getElem?_map, h]; rfl
  have hend : (l.map (·.text))[l.length]? = none := by simp
  refine ⟨by simp [pcsOf], ?_, ?_, ?_, ?_, ?_⟩
  · intro i p hp ht
    rcases hat i p hp with ⟨t, h1, rfl⟩ | ⟨rfl, rfl⟩
    · have hgt := hin i t h1
      simp only [pcOf] at ht ⊢
      refine ⟨hL i t h1, ?_⟩
      by_cases hk : t.kind = 2
      · rw [if_pos hk] at ht; cases ht
      · rw [if_neg hk] at ht
        cases hw : isWord t.text with
        | true => rw [hw] at ht; simp at ht
        | false =>
          rcases hgt with ⟨_, hn⟩ | ⟨h2, _⟩
          · simp [nmP, (isName_iff _).2 hn, hw]
          · exact absurd h2 hk
    · simp at ht
  · intro i p t hp ht hti
    rcases hat i p hp with ⟨t', h1, rfl⟩ | ⟨rfl, rfl⟩
    · rw [hL i t' h1] at hti
      simp at hti
      subst hti
      simp only [pcOf] at ht
      by_cases hk : t'.kind = 2
      · rcases hin i t' h1 with ⟨h3, _⟩ | ⟨_, hm⟩
        · rw [h3] at hk; cases hk
        · simp [nmP, isName_false (mark_noname _ hm)]
      · rw [if_neg hk] at ht
        cases hw : isWord t'.text with
        | true => simp [nmP, hw]
        | false => rw [hw] at ht; simp at ht
    · rw [hend] at hti; cases hti
  · intro i p s hp hs
    rcases hat i p hp with ⟨t, h1, rfl⟩ | ⟨rfl, rfl⟩
    · rw [hL i t h1]
      simp only [pcOf, Option.some.injEq]
      constructor
      · exact fun h => h.2
      · intro h
        refine ⟨?_, h⟩
        by_cases hk : t.kind = 2
        · rcases hin i t h1 with ⟨h3, _⟩ | ⟨_, hm⟩
          · rw [h3] at hk; cases hk
          · rw [h] at hm; exact (word_mark s hs hm).elim
        · rw [if_neg hk, h, (word_iff s).2 hs]; rfl
    · rw [hend]; simp
  · intro i p s hp hs
    rcases hat i p hp with ⟨t, h1, rfl⟩ | ⟨rfl, rfl⟩
    · rw [hL i t h1]
      simp only [pcOf, Option.some.injEq]
      constructor
      · exact fun h => h.2
      · intro h
        refine ⟨?_, h⟩
        by_cases hk : t.kind = 2
        · rw [if_pos hk]
        · rcases hin i t h1 with ⟨_, hn⟩ | ⟨h2, _⟩
          · rw [h] at hn; exact (mark_noname s hs hn).elim
          · exact absurd h2 hk
    · rw [hend]; simp
  · intro i p hp
    rcases hat i p hp with ⟨t, h1, rfl⟩ | ⟨rfl, rfl⟩
    · have := (List.getElem?_eq_some_iff.1 h1).1
      simp only [pcOf, List.length_map]
      constructor
      · intro h; split at h
        · cases h
        · split at h <;> cases h
      · intro h; omega
    · simp
end Go.Proofs.Ytlmfmgpamhhncaa

/- The program's Read. -/
namespace Go.Proofs.Ytlmfmgpamhhncaa
open Go.RowKit

theorem dep_sz (t : Tr) : t.dep ≤ t.sz := by
  induction t with
  | e => exact Nat.le_refl _
  | b x r ih1 ih2 => simp only [Tr.dep, Tr.sz]; omega
  | n l x r ih1 ih2 =>
    simp only [Tr.dep, Tr.sz]
    by_cases h : l.sub = true
    · rw [if_pos h]; omega
    · rw [if_neg h]; omega
theorem tw_sz (t : Tr) : tw t ≤ t.sz := by
  induction t with
  | e => exact Nat.le_refl _
  | b x r ih1 ih2 => simp only [tw, Tr.sz]; omega
  | n l x r ih1 ih2 =>
    simp only [tw, Tr.sz]
    by_cases h : l.sub = true
    · rw [if_pos h]; omega
    · rw [if_neg h]; omega
theorem flat_sz (t : Tr) : ∀ d, (fltn d t).length ≤ t.sz := by
  induction t with
  | e => intro d; exact Nat.le_refl _
  | b x r ih1 ih2 => intro d; have := ih1 d; have := ih2 d; simp only [fltn, Tr.sz, List.length_append]; omega
  | n l x r ih1 ih2 =>
    intro d
    have := ih1 (d + 1)
    have := ih2 d
    simp only [fltn, Tr.sz, List.length_cons, List.length_append]
    by_cases h : l.sub = true
    · rw [if_pos h]; omega
    · rw [if_neg h]; simp; omega

theorem Bnd.of_sz {t : Tr} (h : t.sz ≤ 100000) (ha : t.afs) : Bnd t := ⟨by have := dep_sz t; omega, by have := tw_sz t; omega, ⟨by omega, ha⟩, by have := flat_sz t 1; omega⟩

theorem rNode_sz {nm : By → Bool} {L : List By} {alts : Nat → Got Tr} (ha : ∀ i t j, alts i = .ok t j → t.sz + i + 1 ≤ j) {i j : Nat} {l : Lab} {t : Tr} (h : rNode nm L alts i = .ok (l, t) j) : t.sz + i + 1 ≤ j := by
  unfold rNode at h
  split at h
  · rename_i hs
    have := isT_lt L hs
    have hf := rStep_fit nm L (i + 1) (by omega)
    split at h
    · cases h
    · rename_i l' j' hs'
      rw [hs'] at hf
      cases h
      have := hf.1
      simp [Tr.sz]; omega
  · split at h
    · split at h
      · rename_i h2
        have hlt := isT_lt L h2
        unfold rSub at h
        have hn := rName_fit nm L (i + 2) (by omega)
        split at h
        · cases h
        · rename_i x j1 hx
          rw [hx] at hn
          have hl := rLean_fit nm L j1 hn.2
          split at h
          · cases h
          · rename_i a j2 hl'
            rw [hl'] at hl
            split at h
            · cases h
            · rename_i t' j3 ha'
              cases h
              have := ha _ _ _ ha'
              have := hn.1
              have := hl.1
              omega
      · cases h
    · cases h

theorem rd_sz (nm : By → Bool) (L : List By) (f : Nat) : ∀ k i t j, i ≤ L.length → rd nm L f k i = .ok t j → t.sz + i ≤ j := by
  induction f with
  | zero => intro k i t j _ h; cases k <;> cases h
  | succ f ih =>
    intro k i t j hi h
    cases k with
    | true =>
      unfold rd at h
      split at h
      · rename_i h0
        have := isT_lt L h0
        split at h
        · cases h
        · rename_i x j' hx
          have h1 := ih _ _ _ _ (by omega) hx
          split at h
          · rename_i h3
            have := isT_lt L h3
            split at h
            · cases h
            · rename_i r k' hr
              have h2 := ih _ _ _ _ (by omega) hr
              cases h
              simp only [Tr.sz]; omega
          · split at h
            · cases h
              simp only [Tr.sz]; omega
            · cases h
      · cases h
    | false =>
      unfold rd at h
      split at h
      · cases h
        simp [Tr.sz]
      · split at h
        · cases h
        · rename_i l t' j' hn
          have hb : ∀ i t j, brace L (rd nm L f true) i = .ok t j → t.sz + i + 1 ≤ j := by
            intro i t j hb
            unfold brace at hb
            split at hb
            · rename_i h0
              have := isT_lt L h0
              have := ih _ _ _ _ (by omega) hb
              omega
            · cases hb
          have h1 := rNode_sz hb hn
          have hf := rNode_fit nm L (brace L (rd nm L f true)) (fun k hk => (brace_fit L _ (rd_fit nm L f true) k hk).zero) i hi
          rw [hn] at hf
          split at h
          · cases h
          · rename_i r k' hr
            have h2 := ih _ _ _ _ hf.2 hr
            cases h
            simp only [Tr.sz]; omega

theorem rSaga_sz {nm : By → Bool} {L : List By} {F k : Nat} {x : By} {t : Tr} (h : rSaga nm L F = .ok (x, t) k) : t.sz ≤ L.length ∧ 0 < L.length := by
  unfold rSaga at h
  split at h
  · rename_i h0
    have hlt := isT_lt L h0
    have hn := rName_fit nm L 1 (by omega)
    split at h
    · cases h
    · rename_i y j hx
      rw [hx] at hn
      split at h
      · cases h
      · rename_i t' k' hb
        split at h
        · rename_i hk
          cases h
          unfold brace at hb
          split at hb
          · rename_i h1
            have := isT_lt L h1
            have := rd_sz nm L F _ _ _ _ (by omega) hb
            exact ⟨by omega, hlt⟩
          · cases hb
        · cases h
  · cases h

theorem rMore_len (nm : By → Bool) (L : List By) (f : Nat) : ∀ i l j, i ≤ L.length → rMore nm L f i = .ok l j → l.length + i ≤ j := by
  induction f with
  | zero => intro i l j _ h; cases h
  | succ f ih =>
    intro i l j hi h
    rw [rMore] at h
    split at h
    · rename_i h0
      have := isT_lt L h0
      have hn := rName_fit nm L (i + 1) (by omega)
      split at h
      · cases h
      · rename_i t j' hx
        rw [hx] at hn
        split at h
        · cases h
        · rename_i l' k hm
          have := ih _ _ _ hn.2 hm
          cases h
          have := hn.1
          simp; omega
    · cases h; simp

theorem rLean_len {nm : By → Bool} {L : List By} {i j : Nat} {l : List By} (_hi : i ≤ L.length) (h : rLean nm L i = .ok l j) : l.length ≤ L.length := by
  unfold rLean at h
  split at h
  · rename_i h0
    have := isT_lt L h0
    have hn := rName_fit nm L (i + 1) (by omega)
    split at h
    · cases h
    · rename_i t j' hx
      rw [hx] at hn
      have hm' := rMore_fit nm L (L.length + 1) j' hn.2
      split at h
      · cases h
      · rename_i l' k hm
        rw [hm] at hm'
        have := rMore_len nm L _ _ _ _ hn.2 hm
        cases h
        have := hn.1
        have := hm'.2
        simp; omega
  · cases h; simp

theorem rNode_after {nm : By → Bool} {L : List By} {alts : Nat → Got Tr} {i j : Nat} {l : Lab} {t : Tr} (_hi : i ≤ L.length) (h : rNode nm L alts i = .ok (l, t) j) : l.after.length ≤ L.length := by
  unfold rNode at h
  split at h
  · rename_i h0
    have := isT_lt L h0
    split at h
    · cases h
    · rename_i l' j' hs
      cases h
      unfold rStep at hs
      have hn := rName_fit nm L (i + 1) (by omega)
      split at hs
      · cases hs
      · rename_i x j1 hx
        rw [hx] at hn
        have hu := rUndo_fit nm L j1 hn.2
        split at hs
        · cases hs
        · rename_i u j2 hu'
          rw [hu'] at hu
          split at hs
          · cases hs
          · rename_i a j3 hl
            split at hs
            · cases hs
              exact rLean_len hu.2 hl
            · cases hs
  · split at h
    · split at h
      · rename_i h2
        have hlt := isT_lt L h2
        unfold rSub at h
        have hn := rName_fit nm L (i + 2) (by omega)
        split at h
        · cases h
        · rename_i x j1 hx
          rw [hx] at hn
          split at h
          · cases h
          · rename_i a j2 hl'
            split at h
            · cases h
            · cases h
              exact rLean_len hn.2 hl'
      · cases h
    · cases h

theorem rd_afs (nm : By → Bool) (L : List By) (hL : L.length ≤ 1000000000) (f : Nat) : ∀ k i t j, i ≤ L.length → rd nm L f k i = .ok t j → t.afs := by
  induction f with
  | zero => intro k i t j _ h; cases k <;> cases h
  | succ f ih =>
    intro k i t j hi h
    cases k with
    | true =>
      unfold rd at h
      split at h
      · rename_i h0
        have := isT_lt L h0
        split at h
        · cases h
        · rename_i x j' hx
          have h1 := ih _ _ _ _ (by omega) hx
          split at h
          · rename_i h3
            have := isT_lt L h3
            split at h
            · cases h
            · rename_i r k' hr
              have h2 := ih _ _ _ _ (by omega) hr
              cases h
              exact ⟨h1, h2⟩
          · split at h
            · cases h
              exact ⟨h1, trivial⟩
            · cases h
      · cases h
    | false =>
      unfold rd at h
      split at h
      · cases h
        exact trivial
      · split at h
        · cases h
        · rename_i l t' j' hn
          have hf := rNode_fit nm L (brace L (rd nm L f true)) (fun k hk => (brace_fit L _ (rd_fit nm L f true) k hk).zero) i hi
          have ha := rNode_after hi hn
          have ht : t'.afs := by
            rcases rNode_lab nm L hn with ⟨_, rfl⟩ | ⟨_, k, m, hk⟩
            · exact trivial
            · unfold brace at hk
              split at hk
              · rename_i h0
                have := isT_lt L h0
                exact ih _ _ _ _ (by omega) hk
              · cases hk
          rw [hn] at hf
          split at h
          · cases h
          · rename_i r k' hr
            have h2 := ih _ _ _ _ hf.2 hr
            cases h
            exact ⟨by omega, ht, h2⟩

theorem rSaga_afs {nm : By → Bool} {L : List By} (hL : L.length ≤ 1000000000) {F k : Nat} {x : By} {t : Tr} (h : rSaga nm L F = .ok (x, t) k) : t.afs := by
  unfold rSaga at h
  split at h
  · rename_i h0
    have hlt := isT_lt L h0
    have hn := rName_fit nm L 1 (by omega)
    split at h
    · cases h
    · rename_i y j hx
      rw [hx] at hn
      split at h
      · cases h
      · rename_i t' k' hb
        split at h
        · cases h
          unfold brace at hb
          split at hb
          · rename_i h1
            have := isT_lt L h1
            exact rd_afs nm L hL F _ _ _ _ (by omega) hb
          · cases hb
        · cases h
  · cases h

/-- What Read answers. -/
inductive Ans where
  | bad : Nat → Int → Ans
  | good : By → Tr → Ans

def atOf (toks : List Tok) (n j : Nat) : Nat := match toks[j]? with
  | some t => t.at_
  | none => n

noncomputable def rAns (n : Nat) (r : Res) : Ans := if r.err ≠ 0 then .bad r.place r.err else match rSaga nmP (r.toks.map (·.text)) (r.toks.map (·.text)).length with
  | .no j => .bad (atOf r.toks n j) 10
  | .ok (x, t) _ => if bigL (fltn 1 t) then .bad (atOf r.toks n 0) 5 else .good x t

/-- How Read ends. -/
def ReadC (n : Nat) (a : Ans) (w : World) (e : Ending) (w' : World) : Prop := Below w.heap.size w w' ∧ match a with
  | .bad p er => e = .returned (.tuple #[.agg #[.string ⟨#[]⟩, .slice none 0 0], .int .i64 (p : Int), .int .i64 er])
  | .good x t => ∃ v, e = .returned (.tuple #[.agg #[.string ⟨x.toArray⟩, v], .int .i64 (n : Int), .int .i64 0]) ∧ BsR (fun b => w.heap.size ≤ b) w' true t v

theorem ret3c {fn : Func} (h : fn.results = #[.cell 2 25, .tmp 3, .tmp 4]) {a : Act} {w : World} {R : Ending → World → Prop} (b : Nat) (v0 v1 : Value) (hp : a.tmps.getD 2 undef = .pointer (some ⟨b, 0, none⟩)) (hd : a.defers = [])
    (hb : w.heap[b]? = some (.cells #[v0, v1] 25 (0, 0))) (hR : R (.returned (.tuple #[.agg #[v0, v1], a.tmps.getD 3 undef, a.tmps.getD 4 undef])) w) : bodyPost Try.prog fn R .ret a w := by
  have hp' : a.tmps[2]?.getD undef = .pointer (some ⟨b, 0, none⟩) := by simpa using hp
  refine bodyPost_ret_by (v := .tuple #[.agg #[v0, v1], a.tmps.getD 3 undef, a.tmps.getD 4 undef]) ?_ hd hR
  simp [results, h, hp', asAddr, run_loadVar_row (P := Try.prog) w b 25 25 #[v0, v1] (0, 0) _ hb Try.underlying25 rfl (by kernel_rfl)]
end Go.Proofs.Ytlmfmgpamhhncaa

/- The program's Read: the walk. -/
namespace Go.Proofs.Ytlmfmgpamhhncaa
open Go.RowKit

theorem owns_pcs {w : World} {B g cap : Nat} {l : List Pc} (h : w.ownsRow B 57 1 (.slice (some ⟨g, 0, none⟩) l.length cap) l.length (pvs l)) : (∀ j p, l[j]? = some p → w.cell? ⟨g, j, none⟩ = some (pcv p)) ∧ l.length ≤ cap ∧ B ≤ g ∧ g < w.heap.size := by
  have hl := h.lt g rfl
  refine ⟨fun j p hj => ?_, ?_, hl⟩
  · have hjl := (List.getElem?_eq_some_iff.1 hj).1
    rw [h.cellAt j (by omega)]
    simp [pvs, hj]
  · rcases h.2 with ⟨hv, _⟩ | ⟨g', cap', cur, hv, _, _, hc, _⟩
    · cases hv
    · simp at hv; omega

theorem pcsOf_at (l : List Tok) (sz j : Nat) (p : Pc) (h : (pcsOf l sz)[j]? = some p) : p.at_ = atOf l sz j := by
  unfold pcsOf at h
  unfold atOf
  by_cases hj : j < l.length
  · rw [List.getElem?_append_left (by simpa using hj), List.getElem?_map] at h
    cases ht : l[j]? with
    | none => rw [ht] at h; simp at h
    | some t => rw [ht] at h; simp at h; rw [← h]; rfl
  · rw [List.getElem?_eq_none (by omega)]
    rw [List.getElem?_append_right (by simp; omega)] at h
    simp at h
    by_cases h0 : j - l.length = 0
    · rw [h0] at h; simp at h; rw [← h]
    · obtain ⟨q, hq⟩ : ∃ q, j - l.length = q + 1 := ⟨j - l.length - 1, by omega⟩
      rw [hq] at h; simp at h

theorem method100 (v0 v1 : Value) (w : World) : (method 263 100 (.agg #[v0, v1]) "argosy/syntax.place").run Try.prog w = .ok (119, .agg #[v0, v1]) w := by kernel_rfl
theorem method101 (v0 v1 : Value) (w : World) : (method 263 101 (.agg #[v0, v1]) "argosy/syntax.place").run Try.prog w = .ok (119, .agg #[v0, v1]) w := by kernel_rfl
theorem method102 (v0 v1 : Value) (w : World) : (method 263 102 (.agg #[v0, v1]) "argosy/syntax.place").run Try.prog w = .ok (119, .agg #[v0, v1]) w := by kernel_rfl
theorem method103 (v0 v1 : Value) (w : World) : (method 263 103 (.agg #[v0, v1]) "argosy/syntax.place").run Try.prog w = .ok (119, .agg #[v0, v1]) w := by kernel_rfl

theorem pcsOf_ty (l : List Tok) (sz j : Nat) (p : Pc) (h : (pcsOf l sz)[j]? = some p) : p.ty = 100 ∨ p.ty = 101 ∨ p.ty = 102 ∨ p.ty = 103 := by
  have hm := List.mem_of_getElem? h
  simp only [pcsOf, List.mem_append, List.mem_map, List.mem_singleton] at hm
  rcases hm with ⟨t, _, rfl⟩ | rfl
  · simp only [pcOf]
    split
    · exact .inl rfl
    · split
      · exact .inr (.inl rfl)
      · exact .inr (.inr (.inl rfl))
  · exact .inr (.inr (.inr rfl))

theorem rSaga_at {nm : By → Bool} {L : List By} {F j : Nat} (h : rSaga nm L F = .no j) : j ≤ L.length := by
  unfold rSaga at h
  split at h
  · rename_i h0
    have hlt := isT_lt L h0
    have hn := rName_fit nm L 1 (by omega)
    split at h
    · rename_i j' hx; rw [hx] at hn; cases h; exact hn.2
    · rename_i y j' hx
      rw [hx] at hn
      have hb := brace_fit L _ (rd_fit nm L F true) j' hn.2
      split at h
      · rename_i k hk; rw [hk] at hb; cases h; exact hb.2
      · rename_i t k hk
        rw [hk] at hb
        split at h
        · cases h
        · cases h; exact hb.2
  · cases h; exact Nat.zero_le _

set_option maxRecDepth 1000000 in
theorem place_any (x : ByteArray) (n : Int) (w : World) : Calls Try.prog 119 #[.agg #[.string x, .int .i64 n]] w fun e w' => e = .returned (.int .i64 n) ∧ w' = w.alloc (.cells #[.string x, .int .i64 n] 98) := by
  go_enter Try.func119, Try.ntmps119
  go_wp2
  go_ret
  exact ⟨rfl, rfl⟩

set_option maxRecDepth 1000000 in
set_option maxHeartbeats 4000000 in
theorem syn_read (s : ByteArray) (cs : List Int) (rest : List UInt8) (hp0 : Parts s.data.toList cs rest) (w : World) :
    Calls Try.prog 9 #[.string s] w fun e w' => ReadC s.size (rAns s.size (answer s cs rest)) w e w' := by
  have hz := size_list s
  have hgood : (answer s cs rest).err = 0 → ∀ t ∈ (answer s cs rest).toks, GoodT t := by
    unfold answer
    split
    · exact fun he => good_of_lex hp0.cp rfl he
    · intro he; simp at he
  have hlen : (answer s cs rest).toks.length ≤ 65536 := by
    unfold answer
    split
    · rename_i hs
      unfold lexR
      cases hg : goS sc0 0 cs with
      | err p e => simp
      | ok st =>
        dsimp only
        split
        · have := toks_len cs hp0.cp st hg
          have h2 : (encAll cs).length ≤ s.size := by rw [← hz, hp0.eq]; simp
          simp only
          omega
        · simp
    · simp
  have hsz64 : s.size ≤ 65536 ∨ (answer s cs rest).err ≠ 0 := by
    unfold answer
    by_cases h : s.size ≤ 65536
    · exact .inl h
    · rw [if_neg h]; exact .inr (by simp)
  have HL : Hid _ := lex_all s cs rest hp0 (w.alloc (.cells #[.string ⟨#[]⟩, .slice none 0 0] 25))
  generalize answer s cs rest = r at *
  obtain ⟨toks, place, err⟩ := r
  dsimp only at *
  have b0 := row_new w #[.string ⟨#[]⟩, .slice none 0 0] 25
  have hbw0 : Below w.heap.size w (w.alloc (.cells #[.string ⟨#[]⟩, .slice none 0 0] 25)) := (Below.refl _ _).alloc (Nat.le_refl _) _
  clear hp0
  obtain ⟨A, HA⟩ : ∃ A, Hid (A = rAns s.size ⟨toks, place, err⟩) := ⟨_, rfl⟩
  rw [← HA.out]
  go_enter Try.func9, Try.ntmps9
  go_wp2_with fail
  refine Calls.mono HL.out ?_
  clear HL
  rintro e w1 ⟨v1, rfl, ho1, hb1⟩
  have b1 : w1.heap[w.heap.size]? = some (.cells #[.string ⟨#[]⟩, .slice none 0 0] 25 (0, 0)) := (hb1.block _ (by simp)).trans b0
  have hbw1 : Below w.heap.size w w1 := hbw0.trans (hb1.mono (by simp))
  have e0 := (cell_row b1 0).trans rfl
  have e1 := (cell_row b1 1).trans rfl
  have ef := froz_row b1
  by_cases he : err = 0
  · subst he
    have hs64 : s.size ≤ 65536 := by rcases hsz64 with h | h; exact h; exact absurd rfl h
    have hrT := readsT_of_owns ho1
    have M2 : Hid _ := pieces_any v1 toks s.size w1 hrT (by omega)
    obtain ⟨ta, tc, rfl, _, _, htc⟩ := hrT
    have hz1 := hb1.size
    simp at hz1
    go_wp2_with fail
    refine Calls.mono M2.out ?_
    clear M2
    rintro e w2 ⟨g, cap, rfl, ho2, hb2⟩
    have hpl : (pcsOf toks s.size).length = toks.length + 1 := by simp [pcsOf]
    rw [← hpl] at ho2
    obtain ⟨hpc, hcap, hg1, hg2⟩ := owns_pcs ho2
    have hz2 := hb2.size
    have hbw2 : Below w.heap.size w w2 := hbw1.trans (hb2.mono (by omega))
    have b2 : w2.heap[w.heap.size]? = some (.cells #[.string ⟨#[]⟩, .slice none 0 0] 25 (0, 0)) := (hb2.block _ (by omega)).trans b1
    have HRD : RD (w2.alloc (.cells #[.slice (some ⟨g, 0, none⟩) (pcsOf toks s.size).length cap, .int .i64 0] 53)) w2.heap.size g cap (pcsOf toks s.size) 0 :=
      ⟨row_new w2 _ 53, fun j p hj => (World.cell?_of_block (a := ⟨g, j, none⟩) (Below.heap_alloc _ _ _ hg2)).trans (hpc j p hj), by omega, by simp; omega, by rw [hpl]; omega, hcap⟩
    have hcls := cls_of toks s.size (hgood (by trivial))
    have M3 : Hid _ := saga_rd hcls _ w2.heap.size g cap HRD
    rw [hpl] at M3
    clear hgood
    go_wp2_with fail
    refine Calls.mono M3.out ?_
    clear M3
    rintro e w3 ⟨k3, ⟨x, t, j, v, hG, rfl, a, c, rfl, ht⟩ | ⟨j, hG, r3, rfl⟩⟩
    · have hz3 := k3.size
      simp at hz3
      have hkb : Below w2.heap.size w2 w3 := (((Below.refl _ w2).alloc (Nat.le_refl _) _).trans (k3.below (Nat.le_refl _) (by simp)))
      have hbw3 : Below w.heap.size w w3 := hbw2.trans (hkb.mono (by omega))
      have b3 : w3.heap[w.heap.size]? = some (.cells #[.string ⟨#[]⟩, .slice none 0 0] 25 (0, 0)) := (hkb.block _ (by omega)).trans b2
      have hsz := rSaga_sz hG
      simp only [List.length_map] at hsz
      have hbnd : Bnd t := Bnd.of_sz (by omega) (rSaga_afs (by simp; omega) hG)
      have b4 := row_alloc b3 (.cells #[.string ⟨x.toArray⟩, .slice a t.len c] 25)
      have n4 := row_new w3 #[.string ⟨x.toArray⟩, .slice a t.len c] 25
      have hbw4 : Below w.heap.size w (w3.alloc (.cells #[.string ⟨x.toArray⟩, .slice a t.len c] 25)) := hbw3.alloc (by omega) _
      have ht4 : TAt (fun b => w2.heap.size < b ∧ b < w3.heap.size) (w3.alloc (.cells #[.string ⟨x.toArray⟩, .slice a t.len c] 25)) true t a 0 t.len := ht.keep (fun b _ hl => Below.heap_alloc _ _ _ hl) (fun b hb hl => ⟨by simp at hb; omega, hl⟩) _ _ _ _ _
      have M4 : Hid _ := big_any _ ⟨x.toArray⟩ t a t.len c (ht4.keep (Q := (· < (w3.alloc (.cells #[.string ⟨x.toArray⟩, .slice a t.len c] 25)).heap.size)) (fun _ _ _ => rfl) (fun b hb _ => by simp; omega) _ _ _ _ _) hbnd
      go_wp2_with fail
      refine Calls.mono M4.out ?_
      clear M4
      have hb34 : Below w3.heap.size w3 (w3.alloc (.cells #[.string ⟨x.toArray⟩, .slice a t.len c] 25)) := (Below.refl _ _).alloc (Nat.le_refl _) _
      generalize w3.alloc (.cells #[.string ⟨x.toArray⟩, .slice a t.len c] 25) = W4 at *
      rintro e w5 ⟨rfl, hb5⟩
      have hW4 := (Array.getElem?_eq_some_iff.1 n4).1
      have hbw5 : Below w.heap.size w w5 := hbw4.trans (hb5.mono (by omega))
      have b5 := (hb5.block _ (by omega)).trans b4
      have n5 := (hb5.block _ hW4).trans n4
      have p0 := (cell_row b5 0).trans rfl
      have p1 := (cell_row b5 1).trans rfl
      have pf := froz_row b5
      have q0 := (cell_row n5 0).trans rfl
      have q1 := (cell_row n5 1).trans rfl
      have ht5 : TAt (fun b => w2.heap.size < b ∧ b < w3.heap.size) w5 true t a 0 t.len := ht4.keep (fun b _ hl => hb5.block b hl) (fun b hb _ => hb) _ _ _ _ _
      cases hbg : bigL (fltn 1 t) with
      | true =>
        obtain ⟨t0, ht0⟩ : ∃ t0, toks[0]? = some t0 := ⟨_, List.getElem?_eq_getElem hsz.2⟩
        obtain ⟨tb, toff, rfl, _, _, d2⟩ := htc 0 t0 ht0
        have hA : A = .bad t0.at_ 5 := by
          rw [HA.out]
          unfold rAns
          rw [if_neg (by simp)]
          simp only [hG, hbg, if_true, atOf, ht0]
        have d2' : w5.cell? ⟨tb, toff + 0 * 3 + 2, none⟩ = some (.int .i64 (t0.at_ : Int)) := by
          have hlt : tb < w1.heap.size := lt_of_cell? d2
          rw [World.cell?_of_block (a := ⟨tb, toff + 0 * 3 + 2, none⟩) (w := w1)]
          · exact d2
          · exact (hb5.block tb (by omega)).trans ((hb34.block tb (by omega)).trans ((hkb.block tb (by omega)).trans (hb2.block tb hlt)))
        have hl0 : (0 : Int) < (toks.length : Int) := by omega
        simp only [Nat.zero_mul, Nat.add_zero] at d2'
        go_wp2_with fail
        go_region
        go_wp2_with fail
        refine ret3c rfl w.heap.size _ _ rfl rfl (row_set (row_set b5 0 _) 1 _) ?_
        refine ⟨?_, ?_⟩
        · exact ((hbw5.setCell (p := ⟨w.heap.size, 0, none⟩) (Nat.le_refl _) _).setCell (p := ⟨w.heap.size, 1, none⟩) (Nat.le_refl _) _).drew
        · rw [hA]
          rfl
      | false =>
        have hA : A = .good x t := by
          rw [HA.out]
          unfold rAns
          rw [if_neg (by simp)]
          simp only [hG, hbg, if_false, Bool.false_eq_true]
        go_wp2_with fail
        refine ret3c rfl w.heap.size _ _ rfl rfl (row_set (row_set b5 0 _) 1 _) ?_
        refine ⟨?_, ?_⟩
        · exact (hbw5.setCell (p := ⟨w.heap.size, 0, none⟩) (Nat.le_refl _) _).setCell (p := ⟨w.heap.size, 1, none⟩) (Nat.le_refl _) _
        · rw [hA]
          refine ⟨_, rfl, a, c, rfl, ?_⟩
          exact (ht5.keep (Q := fun b => w2.heap.size < b ∧ b < w3.heap.size) (Keeps.setCell _ _ (by omega)) (fun _ h _ => h) _ _ _ _ _).keep (Keeps.setCell _ _ (by omega)) (fun b h _ => by omega) _ _ _ _ _
    · have hz3 := k3.size
      simp at hz3
      have hkb : Below w2.heap.size w2 w3 := (((Below.refl _ w2).alloc (Nat.le_refl _) _).trans (k3.below (Nat.le_refl _) (by simp)))
      have hbw3 : Below w.heap.size w w3 := hbw2.trans (hkb.mono (by omega))
      have b3 : w3.heap[w.heap.size]? = some (.cells #[.string ⟨#[]⟩, .slice none 0 0] 25 (0, 0)) := (hkb.block _ (by omega)).trans b2
      obtain ⟨p, hp⟩ := r3.here hcls (rSaga_at hG)
      have hA : A = .bad p.at_ 10 := by
        rw [HA.out]
        unfold rAns
        rw [if_neg (by simp)]
        simp only [hG, pcsOf_at toks s.size j p hp]
      have M4 : Hid _ := now_any _ w2.heap.size g cap j _ p (r3.alloc (.cells #[.string ⟨#[]⟩, .slice none 0 0] 25)) hp
      go_wp2_with fail
      refine Calls.mono M4.out ?_
      rintro e w5 ⟨rfl, r5, hb5⟩
      unfold pcv
      have hm : ∀ (v0 v1 : Value) (w : World), (method 263 p.ty (.agg #[v0, v1]) "argosy/syntax.place").run Try.prog w = .ok (119, .agg #[v0, v1]) w := by
        rcases pcsOf_ty toks s.size j p hp with h | h | h | h
        · rw [h]; exact method100
        · rw [h]; exact method101
        · rw [h]; exact method102
        · rw [h]; exact method103
      have b4 := row_alloc b3 (.cells #[.string ⟨#[]⟩, .slice none 0 0] 25)
      have b5 := (hb5.block _ (by simp; omega)).trans b4
      have hbw5 : Below w.heap.size w w5 := (hbw3.alloc (by omega) (.cells #[.string ⟨#[]⟩, .slice none 0 0] 25)).trans (hb5.mono (by simp; omega))
      have hz5 := hb5.size
      simp at hz5
      have b6 := row_alloc b5 (.cells #[.string ⟨p.text.toArray⟩, .int .i64 (p.at_ : Int)] 98)
      have hbw6 := hbw5.alloc (by omega) (.cells #[.string ⟨p.text.toArray⟩, .int .i64 (p.at_ : Int)] 98)
      have p0 := (cell_row b6 0).trans rfl
      have p1 := (cell_row b6 1).trans rfl
      have pf := froz_row b6
      go_wp2_with (go_at_call 119; refine (place_any _ _ _).mono ?_; rintro e w' ⟨rfl, rfl⟩)
      refine ret3c rfl w.heap.size _ _ rfl rfl (row_set (row_set b6 0 _) 1 _) ?_
      refine ⟨?_, ?_⟩
      · exact (hbw6.setCell (p := ⟨w.heap.size, 0, none⟩) (Nat.le_refl _) _).setCell (p := ⟨w.heap.size, 1, none⟩) (Nat.le_refl _) _
      · rw [hA]
        rfl
  · have hA : A = .bad place err := by rw [HA.out]; simp [rAns, he]
    have hne : (err != 0) = true := by simp [he]
    go_wp2_with fail
    refine ret3c rfl w.heap.size _ _ rfl rfl (row_set (row_set b1 0 _) 1 _) ?_
    refine ⟨?_, ?_⟩
    · exact (hbw1.setCell (p := ⟨w.heap.size, 0, none⟩) (Nat.le_refl _) _).setCell (p := ⟨w.heap.size, 1, none⟩) (Nat.le_refl _) _
    · rw [hA]
      rfl
end Go.Proofs.Ytlmfmgpamhhncaa

