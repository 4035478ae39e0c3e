/- Texts of the seat, packed: SWU SWX SWZ SMg SWV SXD STa STd. -/
import Derived.Test.YtlegmmhacnbnlaaGreatDoorP05
import Derived.Deep.RegionWith
import Derived.Laws.Externs
import Derived.Lib.AppendStr
import Derived.Lib.Builder
import Derived.Lib.UnsafeStr
import Derived.Test.YtlegmmhacnbnlaaGreatDoorP04
import Derived.Test.YtlegmmhacnbnlaaGreatDoorP06
import Derived.Test.YtlegmmhacnbnlaaGreatDoorP02
import Derived.BigQuiet
import Derived.Deep.QuietTactic
import Derived.Defers
import Derived.LoopN
import Derived.Recover
import Derived.Test.YtlegmmhacnbnlaaGreatDoorP03
/- Walks over the document's Same and SameTexts: slices that read as tokens. -/
namespace Go.Proofs.YtlegmmhacnbnlaaGreatDoor.Sx

open Go.RowKit

set_option linter.unusedVariables false

/-- A slice that reads as tokens. -/
def ReadsT (w : World) (v : Value) (l : List Tok) : Prop :=
  ∃ a cap, v = .slice a l.length cap ∧ (a = none → cap = 0) ∧ l.length ≤ cap ∧ ∀ i t, l[i]? = some t → ∃ b off, a = some ⟨b, off, none⟩ ∧ w.cell? ⟨b, off + i * 3, none⟩ = some (.int .i64 t.kind) ∧ w.cell? ⟨b, off + i * 3 + 1, none⟩ = some (.string ⟨t.text.toArray⟩) ∧ w.cell? ⟨b, off + i * 3 + 2, none⟩ = some (.int .i64 (t.at_ : Int))

theorem readsT_of_owns {w : World} {B : Nat} {v : Value} {l : List Tok} (h : w.ownsRow B 183 3 v l.length (tvs l)) : ReadsT w v l := by
  rcases h.2 with ⟨rfl, h0⟩ | ⟨g, cap, cur, rfl, hb, hg, hnc, hcm, _⟩
  · have h1 : l = [] := List.eq_nil_of_length_eq_zero h0
    subst h1
    exact ⟨none, 0, rfl, fun _ => rfl, Nat.le_refl _, by simp⟩
  · refine ⟨_, cap, rfl, (fun h => by cases h), hnc, fun i t hi => ⟨g, 0, rfl, ?_, ?_, ?_⟩⟩
    all_goals have hil : i < l.length := (List.getElem?_eq_some_iff.1 hi).1
    · rw [Nat.zero_add, h.cellAt _ (by omega)]
      exact tvs_at l i 0 t hi (by omega)
    · rw [Nat.zero_add, h.cellAt _ (by omega)]
      exact tvs_at l i 1 t hi (by omega)
    · rw [Nat.zero_add, h.cellAt _ (by omega)]
      exact tvs_at l i 2 t hi (by omega)

theorem ReadsT.later {w wx : World} {v : Value} {l : List Tok} (h : ReadsT w v l) (hb : Below w.heap.size w wx) : ReadsT wx v l := by
  obtain ⟨a, cap, hv, hn, hc, hr⟩ := h
  refine ⟨a, cap, hv, hn, hc, fun i t hi => ?_⟩
  obtain ⟨b, off, ha, c0, c1, c2⟩ := hr i t hi
  exact ⟨b, off, ha, cell_later hb c0, cell_later hb c1, cell_later hb c2⟩

end Go.Proofs.YtlegmmhacnbnlaaGreatDoor.Sx

/- Walks over strings.Builder: copyCheck, WriteByte, WriteString, String. -/
namespace Go.Proofs.YtlegmmhacnbnlaaGreatDoor.Sx

open Go.RowKit

set_option linter.unusedVariables false

/-- A builder's block and its bytes. -/
structure BAt (w : World) (b B : Nat) (p v : Value) (l : List UInt8) : Prop where
  blk : w.heap[b]? = some (.cells #[p, v] 56 (0, 0))
  own : w.ownsRow B 5 1 v l.length (bvs l)
  lt : b < B
  le : B ≤ w.heap.size
  nil : l = [] → v = .slice none 0 0

/-- A builder that holds these bytes. -/
def IsB (w : World) (b B : Nat) (l : List UInt8) : Prop := ∃ v, BAt w b B (.pointer none) v l ∨ BAt w b B (.pointer (some ⟨b, 0, none⟩)) v l

/-- Blocks that hold no bytes are left as they were, but for one. -/
def Kt (b : Nat) (w w' : World) : Prop := ∀ k c t fz, w.heap[k]? = some (.cells c t fz) → t ≠ 5 → k ≠ b → w'.heap[k]? = some (.cells c t fz)

theorem Kt.trans {b : Nat} {x y z : World} (h : Kt b x y) (k : Kt b y z) : Kt b x z := fun i c t fz hi ht hb => k i c t fz (h i c t fz hi ht hb) ht hb

theorem Kt.setCell (b : Nat) (w : World) (i : Nat) (v : Value) : Kt b w (w.setCell ⟨b, i, none⟩ v) := fun k c t fz hk _ hb => by rw [heap_setCell_other w ⟨b, i, none⟩ k v hb]; exact hk

end Go.Proofs.YtlegmmhacnbnlaaGreatDoor.Sx

/- Walks over lex.Join and the document's Join: the tokens' texts, one blank between any two. -/
namespace Go.Proofs.YtlegmmhacnbnlaaGreatDoor.Sx

open Go.RowKit

set_option linter.unusedVariables false

/-- A slice of tokens, of which the texts alone are told. -/
def ReadsX (w : World) (v : Value) (xs : List ByteArray) : Prop :=
  ∃ a cap, v = .slice a xs.length cap ∧ (a = none → cap = 0) ∧ xs.length ≤ cap ∧ ∀ i x, xs[i]? = some x → ∃ b off k p, a = some ⟨b, off, none⟩ ∧ w.cell? ⟨b, off + i * 3, none⟩ = some (.int .i64 k) ∧ w.cell? ⟨b, off + i * 3 + 1, none⟩ = some (.string x) ∧ w.cell? ⟨b, off + i * 3 + 2, none⟩ = some (.int .i64 p)

theorem ReadsX.later {w wx : World} {v : Value} {xs : List ByteArray} (h : ReadsX w v xs) (hb : Below w.heap.size w wx) : ReadsX wx v xs := by
  obtain ⟨a, cap, hv, hn, hc, hr⟩ := h
  refine ⟨a, cap, hv, hn, hc, fun i t hi => ?_⟩
  obtain ⟨b, off, k, p, ha, c0, c1, c2⟩ := hr i t hi
  exact ⟨b, off, k, p, ha, cell_later hb c0, cell_later hb c1, cell_later hb c2⟩

theorem IsB.later {w w1 : World} {b B : Nat} {l : List UInt8} (h : IsB w b B l) (hb : Below w.heap.size w w1) : IsB w1 b B l := by
  have go : ∀ p v, BAt w b B p v l → BAt w1 b B p v l := by
    rintro p v ⟨h1, h2, h3, h4, h5⟩
    have hz := hb.size
    exact ⟨(hb.block b (by omega)).trans h1, owns_later h2 hb, h3, by omega, h5⟩
  obtain ⟨v, h | h⟩ := h
  · exact ⟨v, .inl (go _ _ h)⟩
  · exact ⟨v, .inr (go _ _ h)⟩

theorem IsB.le {w : World} {b B : Nat} {l : List UInt8} (h : IsB w b B l) : B ≤ w.heap.size := by
  obtain ⟨v, h | h⟩ := h
  · exact h.le
  · exact h.le

end Go.Proofs.YtlegmmhacnbnlaaGreatDoor.Sx

/- Plain facts about texts that are made of names and marks, with gaps between them. -/
namespace Go.Proofs.YtlegmmhacnbnlaaGreatDoor.Sx

theorem parts_unique : ∀ (cs cs' : List Int) (l rest rest' : List UInt8), Parts l cs rest → Parts l cs' rest' → cs = cs' ∧ rest = rest' := by
  intro cs
  induction cs with
  | nil =>
    intro cs' l rest rest' h h'
    have e1 : l = rest := by rw [h.eq]; simp [encAll]
    cases cs' with
    | nil =>
      have e2 : l = rest' := by rw [h'.eq]; simp [encAll]
      exact ⟨rfl, by rw [← e1, ← e2]⟩
    | cons c cs' =>
      exfalso
      have hc := h'.cp c (by simp)
      have hpre : enc c <+: l := ⟨encAll cs' ++ rest', by rw [h'.eq]; simp [encAll]⟩
      have hep := enc_pos c hc
      rcases h.stop with h0 | h0
      · rw [e1, h0] at hpre
        have := hpre.length_le
        simp at this
        rw [this] at hep
        simp at hep
      · exact h0 c hc (by rw [← e1]; exact hpre)
  | cons c cs ih =>
    intro cs' l rest rest' h h'
    have hc := h.cp c (by simp)
    have hpre : enc c <+: l := ⟨encAll cs ++ rest, by rw [h.eq]; simp [encAll]⟩
    have hep := enc_pos c hc
    cases cs' with
    | nil =>
      exfalso
      have e2 : l = rest' := by rw [h'.eq]; simp [encAll]
      rcases h'.stop with h0 | h0
      · rw [e2, h0] at hpre
        have := hpre.length_le
        simp at this
        rw [this] at hep
        simp at hep
      · exact h0 c hc (by rw [← e2]; exact hpre)
    | cons c' cs' =>
      have hc' := h'.cp c' (by simp)
      have hpre' : enc c' <+: l := ⟨encAll cs' ++ rest', by rw [h'.eq]; simp [encAll]⟩
      have e := enc_unique c c' l hc hc' hpre hpre'
      subst e
      have hl : encAll cs ++ rest = encAll cs' ++ rest' := by
        have h1 := h.eq
        rw [h'.eq] at h1
        simp only [encAll, List.append_assoc, List.append_cancel_left_eq] at h1
        exact h1.symm
      obtain ⟨a, b⟩ := ih cs' (encAll cs ++ rest) rest rest' ⟨rfl, fun x hx => h.cp x (by simp [hx]), h.stop⟩ ⟨hl, fun x hx => h'.cp x (by simp [hx]), h'.stop⟩
      exact ⟨by rw [a], b⟩

/-- A name's code points. -/
def IsName (r : List Int) : Prop := ∃ c r', r = c :: r' ∧ kl c = 1 ∧ (∀ x ∈ r', isNm x = true) ∧ (∀ x ∈ r, isCp x = true) ∧ (encAll r).length ≤ 24

/-- Is a text a name? -/
def nameP (x : List UInt8) : Prop := ∃ r, x = encAll r ∧ IsName r

theorem name_go {r : List Int} (h : IsName r) (done : List Tok) (p : Nat) : goS ⟨done, none, false⟩ p r = .ok ⟨done, some (p, encAll r), false⟩ := by
  obtain ⟨c, r', rfl, h1, h2, h3, h4⟩ := h
  rw [go_name c r' h1 h2 h3, if_neg (by omega)]

/-- Each token is a name or a mark; the name that goes on is a name. -/
theorem tok_inv : ∀ (d : List Int), (∀ c ∈ d, isCp c = true) → ∀ s, goS sc0 0 d = .ok s → (∀ q t, s.cur = some (q, t) → ∃ r, t = encAll r ∧ IsName r) ∧ ∀ t ∈ s.toks, (t.kind = 1 ∧ nameP t.text) ∨ (t.kind = 2 ∧ ∃ c, isMark c = true ∧ t.text = enc c) := by
  intro d
  induction d using snoc_ind with
  | h0 =>
    intro _ s h
    simp only [goS, Out.ok.injEq] at h
    rw [← h]
    exact ⟨fun q t h => (by cases h), fun t ht => (by simp [Sc.toks, sc0, curToks] at ht)⟩
  | h1 d c ih =>
    intro hcp s h
    obtain ⟨s1, h1, h2⟩ := goS_prefix h
    rw [goS_snoc_ok h1, Nat.zero_add] at h
    obtain ⟨hcur, htok⟩ := ih (fun x hx => hcp x (by simp [hx])) s1 h1
    have hc := hcp c (by simp)
    have hdone : ∀ t ∈ s1.done, (t.kind = 1 ∧ nameP t.text) ∨ (t.kind = 2 ∧ ∃ c, isMark c = true ∧ t.text = enc c) := fun t ht => htok t (by simp [Sc.toks, ht])
    rcases step_ok h with ⟨a, rfl⟩ | ⟨_, _, rfl⟩ | ⟨_, hm, rfl⟩ | ⟨_, hn, hk, rfl⟩ | ⟨q, u, _, hq, hk, hle, rfl⟩
    · exact ⟨hcur, htok⟩
    · refine ⟨fun q t h => (by cases h), fun t ht => htok t ?_⟩
      simpa [Sc.toks, curToks] using ht
    · refine ⟨fun q t h => (by cases h), fun t ht => ?_⟩
      simp only [Sc.toks, curToks, List.append_nil] at ht
      rcases List.mem_append.1 ht with ht | ht
      · exact htok t ht
      · simp only [List.mem_singleton] at ht
        subst ht
        exact .inr ⟨rfl, c, hm, rfl⟩
    · have hone : IsName [c] := ⟨c, [], rfl, hk, by simp, by simpa using hc, by have := enc_pos c hc; simp [encAll]; omega⟩
      refine ⟨?_, ?_⟩
      · intro q t h
        simp only [Option.some.injEq, Prod.mk.injEq] at h
        exact ⟨[c], by rw [← h.2]; simp [encAll], hone⟩
      · intro t ht
        simp only [Sc.toks, curToks] at ht
        rcases List.mem_append.1 ht with ht | ht
        · exact hdone t ht
        · simp only [List.mem_singleton] at ht
          subst ht
          exact .inl ⟨rfl, [c], by simp [encAll], hone⟩
    · obtain ⟨r, rfl, c0, r', hr, k0, k1, k2, k3⟩ := hcur q u hq
      obtain ⟨d1, d2, f1, f2, f3, _, _, _⟩ := cur_inv d s1 h1 q _ hq
      have hl : (encAll d).length = q + (encAll r).length := by rw [f1, encAll_append, List.length_append, f3, f2]
      have hnew : IsName (r ++ [c]) := by
        refine ⟨c0, r' ++ [c], by rw [hr]; rfl, k0, ?_, ?_, ?_⟩
        · intro x hx
          rcases List.mem_append.1 hx with hx | hx
          · exact k1 x hx
          · simp only [List.mem_singleton] at hx
            subst hx
            exact (isNm_iff x).2 hk
        · intro x hx
          rcases List.mem_append.1 hx with hx | hx
          · exact k2 x hx
          · simp only [List.mem_singleton] at hx
            subst hx
            exact hc
        · rw [encAll_append, encAll_one, List.length_append]
          omega
      have he : encAll r ++ enc c = encAll (r ++ [c]) := by rw [encAll_append, encAll_one]
      refine ⟨?_, ?_⟩
      · intro q' t h
        simp only [Option.some.injEq, Prod.mk.injEq] at h
        exact ⟨r ++ [c], by rw [← h.2, he], hnew⟩
      · intro t ht
        simp only [Sc.toks, curToks] at ht
        rcases List.mem_append.1 ht with ht | ht
        · exact hdone t ht
        · simp only [List.mem_singleton] at ht
          subst ht
          exact .inl ⟨rfl, r ++ [c], he, hnew⟩

end Go.Proofs.YtlegmmhacnbnlaaGreatDoor.Sx

/- Walks over lex.Name and lex.Word. -/
namespace Go.Proofs.YtlegmmhacnbnlaaGreatDoor.Sx

open Go.RowKit

set_option linter.unusedVariables false

/-- Is a text a name, by the answer of the machine? -/
def nameB (r : Res) (s : List UInt8) : Bool := match r.toks with
  | [t] => decide (r.err = 0 ∧ t.kind = 1 ∧ t.text = s)
  | _ => false

/-- Any answer of 'Lex' at a text: whichever it is. -/
def answer (s : ByteArray) (cs : List Int) (rest : List UInt8) : Res := if s.size ≤ 65536 then lexR cs rest else ⟨[], 0, 5⟩

theorem lex_all (s : ByteArray) (cs : List Int) (rest : List UInt8) (hp0 : Parts s.data.toList cs rest) (w : World) :
    Calls Tryz.prog 110 #[.string s] w fun e w' => Lexed w (answer s cs rest) e w' := by
  unfold answer
  split
  · rename_i h
    exact lex_any s cs rest hp0 w h
  · rename_i h
    exact lex_great s w h

set_option maxRecDepth 1000000 in
set_option maxHeartbeats 1000000 in
theorem name_any (s : ByteArray) (cs : List Int) (rest : List UInt8) (hp0 : Parts s.data.toList cs rest) (w : World) :
    Calls Tryz.prog 107 #[.string s] w fun e w' => e = .returned (.bool (nameB (answer s cs rest) s.data.toList)) ∧ Below w.heap.size w w' := by
  have HL : Hid _ := lex_all s cs rest hp0 w
  generalize answer s cs rest = r at *
  obtain ⟨toks, place, err⟩ := r
  clear hp0
  go_enter Tryz.func107, Tryz.ntmps107
  go_wp2_with fail
  refine Calls.mono HL.out ?_
  rintro e w1 ⟨v, rfl, hown, hb1⟩
  clear HL
  simp only at hown
  have hr := readsT_of_owns hown
  clear hown
  obtain ⟨a, cap, rfl, hn0, hcap, hr⟩ := hr
  by_cases h0 : err = 0
  · subst h0
    rcases toks with _ | ⟨t, _ | ⟨t2, toks⟩⟩
    · clear hr hn0
      go_wp2
      go_ret
      exact ⟨rfl, hb1⟩
    · obtain ⟨b, off, rfl, c0, c1, c2⟩ := hr 0 t rfl
      simp only [Nat.zero_mul, Nat.add_zero] at c0 c1
      have HN : Hid (nameB ⟨[t], place, 0⟩ s.data.toList = decide (t.kind = 1 ∧ t.text = s.data.toList)) := by
        show _ = _
        simp [nameB]
      by_cases hk : t.kind = 1
      · rw [hk] at c0
        have HK : Hid (t.kind = 1) := hk
        clear hr hn0 hk c2
        go_wp2
        go_ret
        refine ⟨ret_bool ?_, hb1⟩
        rw [HN.out, HK.out, Lib.toList_data, Bool.eq_iff_iff]
        simp
      · have hk2 : (t.kind == 1) = false := by rw [beq_eq_false_iff_ne]; exact hk
        have HK : Hid (¬ t.kind = 1) := hk
        clear hr hn0 hk c2
        go_wp2
        go_ret
        refine ⟨ret_bool ?_, hb1⟩
        rw [HN.out]
        have := HK.out
        simp [this]
    · have hl2 : (((t :: t2 :: toks).length : Int) == 1) = false := by rw [beq_eq_false_iff_ne]; simp; omega
      clear hr hn0
      generalize ht : (t :: t2 :: toks).length = n at *
      go_wp2
      go_ret
      exact ⟨rfl, hb1⟩
  · have h2 : (err == 0) = false := by rw [beq_eq_false_iff_ne]; exact h0
    have HN : Hid (nameB ⟨toks, place, err⟩ s.data.toList = false) := by
      show _ = _
      unfold nameB
      split
      · simp [h0]
      · rfl
    clear h0 hr hn0
    go_wp2
    go_ret
    exact ⟨ret_bool HN.out.symm, hb1⟩

/-- Is a text one of the words? -/
def isWord (l : List UInt8) : Bool := l == [115, 97, 103, 97] || l == [115, 116, 101, 112] || l == [115, 117, 98] || l == [117, 110, 100, 111] || l == [97, 102, 116, 101, 114] || l == [118, 105, 116, 97, 108] || l == [108, 111, 111, 115, 101] || l == [111, 114]

set_option maxRecDepth 1000000 in
set_option maxHeartbeats 1000000 in
theorem word_any (s : ByteArray) (w : World) : Calls Tryz.prog 108 #[.string s] w fun e w' => e = .returned (.bool (isWord s.data.toList)) ∧ w' = w := by
  go_enter Tryz.func108, Tryz.ntmps108
  go_wp2
  all_goals go_ret
  all_goals refine ⟨ret_bool ?_, rfl⟩
  all_goals simp_all [isWord, Lib.toList_data]

end Go.Proofs.YtlegmmhacnbnlaaGreatDoor.Sx

/- lex.Name in plain words, and a walk over the law's 'texts'. -/
namespace Go.Proofs.YtlegmmhacnbnlaaGreatDoor.Sx

open Go.RowKit

set_option linter.unusedVariables false

/-- Is a text a name? -/
noncomputable def isName (x : List UInt8) : Bool := @decide (nameP x) (Classical.propDecidable _)

theorem isName_iff (x : List UInt8) : isName x = true ↔ nameP x := by simp [isName]

theorem nameB_eq (s : ByteArray) (cs : List Int) (rest : List UInt8) (hp : Parts s.data.toList cs rest) : nameB (answer s cs rest) s.data.toList = isName s.data.toList := by
  rw [Bool.eq_iff_iff]
  have hz := size_list s
  constructor
  · intro h
    rw [isName_iff]
    unfold nameB at h
    split at h
    · rename_i t ht
      rw [decide_eq_true_eq] at h
      obtain ⟨h1, h2, h3⟩ := h
      unfold answer at ht h1
      split at ht
      · unfold lexR at ht
        cases hg : goS sc0 0 cs with
        | err p e => rw [hg] at ht; cases ht
        | ok st =>
          rw [hg] at ht
          by_cases hr : rest = []
          · simp only [hr, if_true] at ht
            rcases (tok_inv cs hp.cp st hg).2 t (by rw [ht]; simp) with ⟨_, hn⟩ | ⟨h4, _⟩
            · rw [← h3]; exact hn
            · omega
          · simp [hr] at ht
      · cases ht
    · cases h
  · intro h
    rw [isName_iff] at h
    obtain ⟨r, hr, hn⟩ := h
    have hn2 := hn
    obtain ⟨c, r', e1, e2, e3, e4, e5⟩ := hn
    obtain ⟨rfl, rfl⟩ := parts_unique cs r _ rest [] hp ⟨by rw [hr]; simp, e4, .inl rfl⟩
    have hg : goS sc0 0 cs = .ok ⟨[], some (0, encAll cs), false⟩ := name_go hn2 [] 0
    have hsz : s.size ≤ 65536 := by rw [← hz, hr]; omega
    unfold answer
    rw [if_pos hsz, lexR_ok hg]
    simp [nameB, Sc.toks, curToks, hr]

theorem name_is (s : ByteArray) (w : World) :
    Calls Tryz.prog 107 #[.string s] w fun e w' => e = .returned (.bool (isName s.data.toList)) ∧ Below w.heap.size w w' := by
  obtain ⟨cs, rest, hp⟩ := parts_exists s.data.toList
  have h := name_any s cs rest hp w
  rwa [nameB_eq s cs rest hp] at h

/-- A slice that reads as texts. -/
def ReadsS (w : World) (v : Value) (xs : List ByteArray) : Prop :=
  ∃ a cap, v = .slice a xs.length cap ∧ ∀ i x, xs[i]? = some x → ∃ b off, a = some ⟨b, off, none⟩ ∧ w.cell? ⟨b, off + i, none⟩ = some (.string x)

theorem ReadsS.later {w wx : World} {v : Value} {xs : List ByteArray} (h : ReadsS w v xs) (hb : Below w.heap.size w wx) : ReadsS wx v xs := by
  obtain ⟨a, cap, hv, hr⟩ := h
  refine ⟨a, cap, hv, fun i x hi => ?_⟩
  obtain ⟨b, off, ha, c⟩ := hr i x hi
  exact ⟨b, off, ha, cell_later hb c⟩

end Go.Proofs.YtlegmmhacnbnlaaGreatDoor.Sx

/- Tokens and pieces: what a token's piece is, its text says. -/
namespace Go.Proofs.YtlegmmhacnbnlaaGreatDoor.Sx

open Go.RowKit

/-- Is a text a name, and no word? -/
noncomputable def nmP (x : By) : Bool := isName x && !isWord x

end Go.Proofs.YtlegmmhacnbnlaaGreatDoor.Sx

/- isName, isRight: may a node's text be? -/
namespace Go.Proofs.YtlegmmhacnbnlaaGreatDoor.Sx

open Go.RowKit

set_option maxRecDepth 1000000 in
set_option maxHeartbeats 1000000 in
theorem isName_any (s : ByteArray) (w : World) : Calls Tryz.prog 103 #[.string s] w fun e w' => e = .returned (.bool (nmP s.data.toList)) ∧ Below w.heap.size w w' := by
  have M1 : Hid _ := name_is s w
  go_enter Tryz.func103, Tryz.ntmps103
  go_wp2_with fail
  refine Calls.mono M1.out ?_
  rintro e w1 ⟨rfl, hb1⟩
  cases hn : isName s.data.toList with
  | false =>
    have hq : nmP s.data.toList = false := by simp [nmP, hn]
    go_wp2_with fail
    go_ret
    exact ⟨by rw [hq]; rfl, hb1⟩
  | true =>
    have hq : nmP s.data.toList = !isWord s.data.toList := by simp [nmP, hn]
    go_wp2_with (go_at_call 108; refine (word_any _ _).mono ?_; rintro e w' ⟨rfl, rfl⟩)
    go_ret
    exact ⟨by rw [hq]; rfl, hb1⟩

theorem isName_by (x : By) (w : World) : Calls Tryz.prog 103 #[.string ⟨x.toArray⟩] w fun e w' => e = .returned (.bool (nmP x)) ∧ Below w.heap.size w w' := isName_any ⟨x.toArray⟩ w

/-- May a node's text be, whatever stands in its bodies? -/
noncomputable def nodeOk (l : Lab) (n : Nat) : Bool := nmP l.name && l.after.all nmP && (if l.sub then l.undo == [] && decide (0 < n) else (l.undo == [] || nmP l.undo) && !l.vital && decide (n = 0))

set_option maxRecDepth 1000000 in
set_option maxHeartbeats 4000000 in
theorem isRight_any (P : Nat → Prop) (l : Lab) (sv : Option Addr) (sm sc : Nat) (av : Option Addr) (am ac : Nat) (w : World) (hs : SAt P w l.after sv sm) (hm : sm ≤ 1000000000) :
    Calls Tryz.prog 106 #[.agg #[.string ⟨l.name.toArray⟩, .string ⟨l.undo.toArray⟩, .slice sv sm sc, .bool l.sub, .bool l.vital, .slice av am ac]] w fun e w' => e = .returned (.bool (nodeOk l am)) ∧ Below w.heap.size w w' := by
  obtain ⟨nm, un, af, sb, vt⟩ := l
  dsimp only at *
  have n0 := row_new w #[.string ⟨nm.toArray⟩, .string ⟨un.toArray⟩, .slice sv sm sc, .bool sb, .bool vt, .slice av am ac] 148
  have hb0 : Below w.heap.size w (w.alloc (.cells #[.string ⟨nm.toArray⟩, .string ⟨un.toArray⟩, .slice sv sm sc, .bool sb, .bool vt, .slice av am ac] 148)) := (Below.refl _ _).alloc (Nat.le_refl _) _
  have M1 : Hid _ := isName_by nm (w.alloc (.cells #[.string ⟨nm.toArray⟩, .string ⟨un.toArray⟩, .slice sv sm sc, .bool sb, .bool vt, .slice av am ac] 148))
  go_enter Tryz.func106, Tryz.ntmps106
  go_wp2_with fail
  refine Calls.mono M1.out ?_
  clear M1
  rintro e w1 ⟨rfl, hb1⟩
  have n1 := (hb1.block _ (by simp)).trans n0
  have hbw1 := hb0.trans (hb1.mono (by simp))
  cases hn : nmP nm with
  | false =>
    go_wp2_with fail
    go_ret
    exact ⟨by simp [nodeOk, hn], hbw1⟩
  | true =>
    have c0 := (cell_row n1 2).trans rfl
    go_wp2_with fail
    go_loopw [4, 12] (fun _ iv wr => ∃ (k : Nat), k ≤ sm ∧ iv = .int .i64 k ∧ Hid (wr.heap[w.heap.size]? = some (.cells #[.string ⟨nm.toArray⟩, .string ⟨un.toArray⟩, .slice sv sm sc, .bool sb, .bool vt, .slice av am ac] 148 (0, 0))) ∧ Hid (Below w.heap.size w wr) ∧ Hid (∀ x ∈ af.take k, nmP x = true)) (fun _ iv _ => sm - (intOf iv).toNat)
    case atStart => exact ⟨0, Nat.zero_le _, rfl, n1, hbw1, by show ∀ x ∈ af.take 0, _; simp⟩
    case round =>
      obtain ⟨k, hk, rfl, HN, HB, HA⟩ := hrel
      have hzr := HB.out.size
      by_cases hlt : k < sm
      · obtain ⟨x, hx⟩ : ∃ x, af[k]? = some x := ⟨_, List.getElem?_eq_getElem (by rw [← hs.1]; exact hlt)⟩
        obtain ⟨b, off, rfl, _, hc⟩ := hs.2 k x hx
        have d0 := cell_later HB.out hc
        have M2 : Hid _ := isName_by x wr
        have hlt' : (k : Int) < (sm : Int) := by omega
        have HX : Hid _ := hx
        clear hx
        go_wp2_with fail
        refine Calls.mono M2.out ?_
        clear M2
        rintro e w2 ⟨rfl, hb2⟩
        have n2 := (hb2.block _ (Array.getElem?_eq_some_iff.1 HN.out).1).trans HN.out
        have hbw2 := HB.out.trans (hb2.mono hzr)
        cases hnx : nmP x with
        | false =>
          have hq : nodeOk ⟨nm, un, af, sb, vt⟩ am = false := by
            have : af.all nmP = false := by
              rw [List.all_eq_false]
              exact ⟨x, List.mem_of_getElem? HX.out, by simp [hnx]⟩
            simp [nodeOk, this]
          go_wp2_with fail
          go_ret
          exact ⟨by rw [hq]; rfl, hbw2⟩
        | true =>
          go_wp2_with fail
          go_roundw
          case rel =>
            refine ⟨k + 1, by omega, by go_num, n2, hbw2, ?_⟩
            show ∀ y ∈ af.take (k + 1), _
            intro y hy
            rw [List.take_add_one, HX.out] at hy
            rcases List.mem_append.1 hy with h | h
            · exact HA.out y h
            · simp at h; subst h; exact hnx
          case measure => simp [intOf]; omega
      · have hkl : k = sm := by omega
        subst hkl
        have hall : af.all nmP = true := by
          rw [List.all_eq_true]
          intro y hy
          exact HA.out y (by rw [hs.1, List.take_length]; exact hy)
        have d1 := (cell_row HN.out 1).trans rfl
        have d3 := (cell_row HN.out 3).trans rfl
        have d4 := (cell_row HN.out 4).trans rfl
        have d5 := (cell_row HN.out 5).trans rfl
        cases sb with
        | true =>
          have HQ : Hid (nodeOk ⟨nm, un, af, true, vt⟩ am = (un == [] && decide (0 < am))) := by show _ = _; simp [nodeOk, hn, hall]
          have HBB : Hid _ := HB
          by_cases hu : un = []
          · subst hu
            go_wp2_with fail
            go_ret
            exact ⟨by rw [HQ.out]; simp, HBB.out⟩
          · go_wp2_with fail
            go_ret
            exact ⟨by rw [HQ.out]; simp [hu], HBB.out⟩
        | false =>
          have HQ : Hid (nodeOk ⟨nm, un, af, false, vt⟩ am = ((un == [] || nmP un) && !vt && decide (am = 0))) := by show _ = _; simp [nodeOk, hn, hall]
          have M3 : Hid _ := isName_by un wr
          have HBB : Hid _ := HB
          have HZ : Hid (((am : Int) == 0) = decide (am = 0)) := by show _ = _; rw [Bool.eq_iff_iff]; simp
          by_cases hu : un = []
          · subst hu
            cases vt with
            | true =>
              go_wp2_with fail
              go_ret
              exact ⟨by rw [HQ.out]; simp, HBB.out⟩
            | false =>
              go_wp2_with fail
              go_ret
              exact ⟨by rw [HQ.out]; simp; exact HZ.out, HBB.out⟩
          · go_wp2_with fail
            refine Calls.mono M3.out ?_
            rintro e w2 ⟨rfl, hb2⟩
            have n2 := (hb2.block _ (Array.getElem?_eq_some_iff.1 HN.out).1).trans HN.out
            have hbw2 := HB.out.trans (hb2.mono hzr)
            have g4 := (cell_row n2 4).trans rfl
            have g5 := (cell_row n2 5).trans rfl
            clear d1 d3 d4 d5
            cases hnu : nmP un with
            | false =>
              go_wp2_with fail
              go_ret
              exact ⟨by rw [HQ.out]; simp [hu, hnu], hbw2⟩
            | true =>
              cases vt with
              | true =>
                go_wp2_with fail
                go_ret
                exact ⟨by rw [HQ.out]; simp, hbw2⟩
              | false =>
                go_wp2_with fail
                go_ret
                exact ⟨by rw [HQ.out]; simp [hnu]; exact HZ.out, hbw2⟩

end Go.Proofs.YtlegmmhacnbnlaaGreatDoor.Sx

