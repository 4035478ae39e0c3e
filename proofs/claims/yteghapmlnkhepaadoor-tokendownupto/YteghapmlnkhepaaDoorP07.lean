/- Texts of the seat, packed: SMg SWV SXD STa STd STe SUd SYa. -/
import Derived.Test.YteghapmlnkhepaaDoorP04
import Derived.Test.YteghapmlnkhepaaDoorP06
import Derived.Test.YteghapmlnkhepaaDoorP02
import Derived.Test.YteghapmlnkhepaaDoorP03
import Derived.BigQuiet
import Derived.Deep.QuietTactic
import Derived.Deep.RegionWith
import Derived.Defers
import Derived.LoopN
import Derived.Recover
import Derived.Deep.SlicePairs
import Derived.Deep.Strs
import Derived.OpenShut
/- Plain facts about texts that are made of names and marks, with gaps between them. -/
namespace Go.Proofs.YteghapmlnkhepaaDoor.Sx

theorem parts_unique : ∀ (cs cs' : List Int) (l rest rest' : List UInt8), Parts l cs rest → Parts l cs' rest' → cs = cs' ∧ rest = rest' := by
  intro cs
  induction cs with
  | nil =>
    intro cs' l rest rest' h h'
    have e1 : l = rest := by rw [h.eq]; simp [encAll]
    cases cs' with
    | nil =>
      have e2 : l = rest' := by rw [h'.eq]; simp [encAll]
      exact ⟨rfl, by rw [← e1, ← e2]⟩
    | cons c cs' =>
      exfalso
      have hc := h'.cp c (by simp)
      have hpre : enc c <+: l := ⟨encAll cs' ++ rest', by rw [h'.eq]; simp [encAll]⟩
      have hep := enc_pos c hc
      rcases h.stop with h0 | h0
      · rw [e1, h0] at hpre
        have := hpre.length_le
        simp at this
        rw [this] at hep
        simp at hep
      · exact h0 c hc (by rw [← e1]; exact hpre)
  | cons c cs ih =>
    intro cs' l rest rest' h h'
    have hc := h.cp c (by simp)
    have hpre : enc c <+: l := ⟨encAll cs ++ rest, by rw [h.eq]; simp [encAll]⟩
    have hep := enc_pos c hc
    cases cs' with
    | nil =>
      exfalso
      have e2 : l = rest' := by rw [h'.eq]; simp [encAll]
      rcases h'.stop with h0 | h0
      · rw [e2, h0] at hpre
        have := hpre.length_le
        simp at this
        rw [this] at hep
        simp at hep
      · exact h0 c hc (by rw [← e2]; exact hpre)
    | cons c' cs' =>
      have hc' := h'.cp c' (by simp)
      have hpre' : enc c' <+: l := ⟨encAll cs' ++ rest', by rw [h'.eq]; simp [encAll]⟩
      have e := enc_unique c c' l hc hc' hpre hpre'
      subst e
      have hl : encAll cs ++ rest = encAll cs' ++ rest' := by
        have h1 := h.eq
        rw [h'.eq] at h1
        simp only [encAll, List.append_assoc, List.append_cancel_left_eq] at h1
        exact h1.symm
      obtain ⟨a, b⟩ := ih cs' (encAll cs ++ rest) rest rest' ⟨rfl, fun x hx => h.cp x (by simp [hx]), h.stop⟩ ⟨hl, fun x hx => h'.cp x (by simp [hx]), h'.stop⟩
      exact ⟨by rw [a], b⟩

/-- A name's code points. -/
def IsName (r : List Int) : Prop := ∃ c r', r = c :: r' ∧ kl c = 1 ∧ (∀ x ∈ r', isNm x = true) ∧ (∀ x ∈ r, isCp x = true) ∧ (encAll r).length ≤ 24

/-- Is a text a name? -/
def nameP (x : List UInt8) : Prop := ∃ r, x = encAll r ∧ IsName r

theorem name_go {r : List Int} (h : IsName r) (done : List Tok) (p : Nat) : goS ⟨done, none, false⟩ p r = .ok ⟨done, some (p, encAll r), false⟩ := by
  obtain ⟨c, r', rfl, h1, h2, h3, h4⟩ := h
  rw [go_name c r' h1 h2 h3, if_neg (by omega)]

/-- Each token is a name or a mark; the name that goes on is a name. -/
theorem tok_inv : ∀ (d : List Int), (∀ c ∈ d, isCp c = true) → ∀ s, goS sc0 0 d = .ok s → (∀ q t, s.cur = some (q, t) → ∃ r, t = encAll r ∧ IsName r) ∧ ∀ t ∈ s.toks, (t.kind = 1 ∧ nameP t.text) ∨ (t.kind = 2 ∧ ∃ c, isMark c = true ∧ t.text = enc c) := by
  intro d
  induction d using snoc_ind with
  | h0 =>
    intro _ s h
    simp only [goS, Out.ok.injEq] at h
    rw [← h]
    exact ⟨fun q t h => (by cases h), fun t ht => (by simp [Sc.toks, sc0, curToks] at ht)⟩
  | h1 d c ih =>
    intro hcp s h
    obtain ⟨s1, h1, h2⟩ := goS_prefix h
    rw [goS_snoc_ok h1, Nat.zero_add] at h
    obtain ⟨hcur, htok⟩ := ih (fun x hx => hcp x (by simp [hx])) s1 h1
    have hc := hcp c (by simp)
    have hdone : ∀ t ∈ s1.done, (t.kind = 1 ∧ nameP t.text) ∨ (t.kind = 2 ∧ ∃ c, isMark c = true ∧ t.text = enc c) := fun t ht => htok t (by simp [Sc.toks, ht])
    rcases step_ok h with ⟨a, rfl⟩ | ⟨_, _, rfl⟩ | ⟨_, hm, rfl⟩ | ⟨_, hn, hk, rfl⟩ | ⟨q, u, _, hq, hk, hle, rfl⟩
    · exact ⟨hcur, htok⟩
    · refine ⟨fun q t h => (by cases h), fun t ht => htok t ?_⟩
      simpa [Sc.toks, curToks] using ht
    · refine ⟨fun q t h => (by cases h), fun t ht => ?_⟩
      simp only [Sc.toks, curToks, List.append_nil] at ht
      rcases List.mem_append.1 ht with ht | ht
      · exact htok t ht
      · simp only [List.mem_singleton] at ht
        subst ht
        exact .inr ⟨rfl, c, hm, rfl⟩
    · have hone : IsName [c] := ⟨c, [], rfl, hk, by simp, by simpa using hc, by have := enc_pos c hc; simp [encAll]; omega⟩
      refine ⟨?_, ?_⟩
      · intro q t h
        simp only [Option.some.injEq, Prod.mk.injEq] at h
        exact ⟨[c], by rw [← h.2]; simp [encAll], hone⟩
      · intro t ht
        simp only [Sc.toks, curToks] at ht
        rcases List.mem_append.1 ht with ht | ht
        · exact hdone t ht
        · simp only [List.mem_singleton] at ht
          subst ht
          exact .inl ⟨rfl, [c], by simp [encAll], hone⟩
    · obtain ⟨r, rfl, c0, r', hr, k0, k1, k2, k3⟩ := hcur q u hq
      obtain ⟨d1, d2, f1, f2, f3, _, _, _⟩ := cur_inv d s1 h1 q _ hq
      have hl : (encAll d).length = q + (encAll r).length := by rw [f1, encAll_append, List.length_append, f3, f2]
      have hnew : IsName (r ++ [c]) := by
        refine ⟨c0, r' ++ [c], by rw [hr]; rfl, k0, ?_, ?_, ?_⟩
        · intro x hx
          rcases List.mem_append.1 hx with hx | hx
          · exact k1 x hx
          · simp only [List.mem_singleton] at hx
            subst hx
            exact (isNm_iff x).2 hk
        · intro x hx
          rcases List.mem_append.1 hx with hx | hx
          · exact k2 x hx
          · simp only [List.mem_singleton] at hx
            subst hx
            exact hc
        · rw [encAll_append, encAll_one, List.length_append]
          omega
      have he : encAll r ++ enc c = encAll (r ++ [c]) := by rw [encAll_append, encAll_one]
      refine ⟨?_, ?_⟩
      · intro q' t h
        simp only [Option.some.injEq, Prod.mk.injEq] at h
        exact ⟨r ++ [c], by rw [← h.2, he], hnew⟩
      · intro t ht
        simp only [Sc.toks, curToks] at ht
        rcases List.mem_append.1 ht with ht | ht
        · exact hdone t ht
        · simp only [List.mem_singleton] at ht
          subst ht
          exact .inl ⟨rfl, r ++ [c], he, hnew⟩

end Go.Proofs.YteghapmlnkhepaaDoor.Sx

/- Walks over lex.Name and lex.Word. -/
namespace Go.Proofs.YteghapmlnkhepaaDoor.Sx

open Go.RowKit

set_option linter.unusedVariables false

/-- Is a text a name, by the answer of the machine? -/
def nameB (r : Res) (s : List UInt8) : Bool := match r.toks with
  | [t] => decide (r.err = 0 ∧ t.kind = 1 ∧ t.text = s)
  | _ => false

/-- Any answer of 'Lex' at a text: whichever it is. -/
def answer (s : ByteArray) (cs : List Int) (rest : List UInt8) : Res := if s.size ≤ 65536 then lexR cs rest else ⟨[], 0, 5⟩

theorem lex_all (s : ByteArray) (cs : List Int) (rest : List UInt8) (hp0 : Parts s.data.toList cs rest) (w : World) :
    Calls Tryd.prog 78 #[.string s] w fun e w' => Lexed w (answer s cs rest) e w' := by
  unfold answer
  split
  · rename_i h
    exact lex_any s cs rest hp0 w h
  · rename_i h
    exact lex_great s w h

set_option maxRecDepth 1000000 in
set_option maxHeartbeats 1000000 in
theorem name_any (s : ByteArray) (cs : List Int) (rest : List UInt8) (hp0 : Parts s.data.toList cs rest) (w : World) :
    Calls Tryd.prog 69 #[.string s] w fun e w' => e = .returned (.bool (nameB (answer s cs rest) s.data.toList)) ∧ Below w.heap.size w w' := by
  have HL : Hid _ := lex_all s cs rest hp0 w
  generalize answer s cs rest = r at *
  obtain ⟨toks, place, err⟩ := r
  clear hp0
  go_enter Tryd.func69, Tryd.ntmps69
  go_wp2_with fail
  refine Calls.mono HL.out ?_
  rintro e w1 ⟨v, rfl, hown, hb1⟩
  clear HL
  simp only at hown
  have hr := readsT_of_owns hown
  clear hown
  obtain ⟨a, cap, rfl, hn0, hcap, hr⟩ := hr
  by_cases h0 : err = 0
  · subst h0
    rcases toks with _ | ⟨t, _ | ⟨t2, toks⟩⟩
    · clear hr hn0
      go_wp2
      go_ret
      exact ⟨rfl, hb1⟩
    · obtain ⟨b, off, rfl, c0, c1, c2⟩ := hr 0 t rfl
      simp only [Nat.zero_mul, Nat.add_zero] at c0 c1
      have HN : Hid (nameB ⟨[t], place, 0⟩ s.data.toList = decide (t.kind = 1 ∧ t.text = s.data.toList)) := by
        show _ = _
        simp [nameB]
      by_cases hk : t.kind = 1
      · rw [hk] at c0
        have HK : Hid (t.kind = 1) := hk
        clear hr hn0 hk c2
        go_wp2
        go_ret
        refine ⟨ret_bool ?_, hb1⟩
        rw [HN.out, HK.out, Lib.toList_data, Bool.eq_iff_iff]
        simp
      · have hk2 : (t.kind == 1) = false := by rw [beq_eq_false_iff_ne]; exact hk
        have HK : Hid (¬ t.kind = 1) := hk
        clear hr hn0 hk c2
        go_wp2
        go_ret
        refine ⟨ret_bool ?_, hb1⟩
        rw [HN.out]
        have := HK.out
        simp [this]
    · have hl2 : (((t :: t2 :: toks).length : Int) == 1) = false := by rw [beq_eq_false_iff_ne]; simp; omega
      clear hr hn0
      generalize ht : (t :: t2 :: toks).length = n at *
      go_wp2
      go_ret
      exact ⟨rfl, hb1⟩
  · have h2 : (err == 0) = false := by rw [beq_eq_false_iff_ne]; exact h0
    have HN : Hid (nameB ⟨toks, place, err⟩ s.data.toList = false) := by
      show _ = _
      unfold nameB
      split
      · simp [h0]
      · rfl
    clear h0 hr hn0
    go_wp2
    go_ret
    exact ⟨ret_bool HN.out.symm, hb1⟩

/-- Is a text one of the words? -/
def isWord (l : List UInt8) : Bool := l == [115, 97, 103, 97] || l == [115, 116, 101, 112] || l == [115, 117, 98] || l == [117, 110, 100, 111] || l == [97, 102, 116, 101, 114] || l == [118, 105, 116, 97, 108] || l == [108, 111, 111, 115, 101] || l == [111, 114]

set_option maxRecDepth 1000000 in
set_option maxHeartbeats 1000000 in
theorem word_any (s : ByteArray) (w : World) : Calls Tryd.prog 70 #[.string s] w fun e w' => e = .returned (.bool (isWord s.data.toList)) ∧ w' = w := by
  go_enter Tryd.func70, Tryd.ntmps70
  go_wp2
  all_goals go_ret
  all_goals refine ⟨ret_bool ?_, rfl⟩
  all_goals simp_all [isWord, Lib.toList_data]

end Go.Proofs.YteghapmlnkhepaaDoor.Sx

/- lex.Name in plain words, and a walk over the law's 'texts'. -/
namespace Go.Proofs.YteghapmlnkhepaaDoor.Sx

open Go.RowKit

set_option linter.unusedVariables false

/-- Is a text a name? -/
noncomputable def isName (x : List UInt8) : Bool := @decide (nameP x) (Classical.propDecidable _)

theorem isName_iff (x : List UInt8) : isName x = true ↔ nameP x := by simp [isName]

theorem nameB_eq (s : ByteArray) (cs : List Int) (rest : List UInt8) (hp : Parts s.data.toList cs rest) : nameB (answer s cs rest) s.data.toList = isName s.data.toList := by
  rw [Bool.eq_iff_iff]
  have hz := size_list s
  constructor
  · intro h
    rw [isName_iff]
    unfold nameB at h
    split at h
    · rename_i t ht
      rw [decide_eq_true_eq] at h
      obtain ⟨h1, h2, h3⟩ := h
      unfold answer at ht h1
      split at ht
      · unfold lexR at ht
        cases hg : goS sc0 0 cs with
        | err p e => rw [hg] at ht; cases ht
        | ok st =>
          rw [hg] at ht
          by_cases hr : rest = []
          · simp only [hr, if_true] at ht
            rcases (tok_inv cs hp.cp st hg).2 t (by rw [ht]; simp) with ⟨_, hn⟩ | ⟨h4, _⟩
            · rw [← h3]; exact hn
            · omega
          · simp [hr] at ht
      · cases ht
    · cases h
  · intro h
    rw [isName_iff] at h
    obtain ⟨r, hr, hn⟩ := h
    have hn2 := hn
    obtain ⟨c, r', e1, e2, e3, e4, e5⟩ := hn
    obtain ⟨rfl, rfl⟩ := parts_unique cs r _ rest [] hp ⟨by rw [hr]; simp, e4, .inl rfl⟩
    have hg : goS sc0 0 cs = .ok ⟨[], some (0, encAll cs), false⟩ := name_go hn2 [] 0
    have hsz : s.size ≤ 65536 := by rw [← hz, hr]; omega
    unfold answer
    rw [if_pos hsz, lexR_ok hg]
    simp [nameB, Sc.toks, curToks, hr]

theorem name_is (s : ByteArray) (w : World) :
    Calls Tryd.prog 69 #[.string s] w fun e w' => e = .returned (.bool (isName s.data.toList)) ∧ Below w.heap.size w w' := by
  obtain ⟨cs, rest, hp⟩ := parts_exists s.data.toList
  have h := name_any s cs rest hp w
  rwa [nameB_eq s cs rest hp] at h

/-- A slice that reads as texts. -/
def ReadsS (w : World) (v : Value) (xs : List ByteArray) : Prop :=
  ∃ a cap, v = .slice a xs.length cap ∧ ∀ i x, xs[i]? = some x → ∃ b off, a = some ⟨b, off, none⟩ ∧ w.cell? ⟨b, off + i, none⟩ = some (.string x)

theorem ReadsS.later {w wx : World} {v : Value} {xs : List ByteArray} (h : ReadsS w v xs) (hb : Below w.heap.size w wx) : ReadsS wx v xs := by
  obtain ⟨a, cap, hv, hr⟩ := h
  refine ⟨a, cap, hv, fun i x hi => ?_⟩
  obtain ⟨b, off, ha, c⟩ := hr i x hi
  exact ⟨b, off, ha, cell_later hb c⟩

end Go.Proofs.YteghapmlnkhepaaDoor.Sx

/- Tokens and pieces: what a token's piece is, its text says. -/
namespace Go.Proofs.YteghapmlnkhepaaDoor.Sx

open Go.RowKit

/-- Is a text a name, and no word? -/
noncomputable def nmP (x : By) : Bool := isName x && !isWord x

end Go.Proofs.YteghapmlnkhepaaDoor.Sx

/- isName, isRight: may a node's text be? -/
namespace Go.Proofs.YteghapmlnkhepaaDoor.Sx

open Go.RowKit

set_option maxRecDepth 1000000 in
set_option maxHeartbeats 1000000 in
theorem isName_any (s : ByteArray) (w : World) : Calls Tryd.prog 57 #[.string s] w fun e w' => e = .returned (.bool (nmP s.data.toList)) ∧ Below w.heap.size w w' := by
  have M1 : Hid _ := name_is s w
  go_enter Tryd.func57, Tryd.ntmps57
  go_wp2_with fail
  refine Calls.mono M1.out ?_
  rintro e w1 ⟨rfl, hb1⟩
  cases hn : isName s.data.toList with
  | false =>
    have hq : nmP s.data.toList = false := by simp [nmP, hn]
    go_wp2_with fail
    go_ret
    exact ⟨by rw [hq]; rfl, hb1⟩
  | true =>
    have hq : nmP s.data.toList = !isWord s.data.toList := by simp [nmP, hn]
    go_wp2_with (go_at_call 70; refine (word_any _ _).mono ?_; rintro e w' ⟨rfl, rfl⟩)
    go_ret
    exact ⟨by rw [hq]; rfl, hb1⟩

theorem isName_by (x : By) (w : World) : Calls Tryd.prog 57 #[.string ⟨x.toArray⟩] w fun e w' => e = .returned (.bool (nmP x)) ∧ Below w.heap.size w w' := isName_any ⟨x.toArray⟩ w

/-- May a node's text be, whatever stands in its bodies? -/
noncomputable def nodeOk (l : Lab) (n : Nat) : Bool := nmP l.name && l.after.all nmP && (if l.sub then l.undo == [] && decide (0 < n) else (l.undo == [] || nmP l.undo) && !l.vital && decide (n = 0))

set_option maxRecDepth 1000000 in
set_option maxHeartbeats 4000000 in
theorem isRight_any (P : Nat → Prop) (l : Lab) (sv : Option Addr) (sm sc : Nat) (av : Option Addr) (am ac : Nat) (w : World) (hs : SAt P w l.after sv sm) (hm : sm ≤ 1000000000) :
    Calls Tryd.prog 60 #[.agg #[.string ⟨l.name.toArray⟩, .string ⟨l.undo.toArray⟩, .slice sv sm sc, .bool l.sub, .bool l.vital, .slice av am ac]] w fun e w' => e = .returned (.bool (nodeOk l am)) ∧ Below w.heap.size w w' := by
  obtain ⟨nm, un, af, sb, vt⟩ := l
  dsimp only at *
  have n0 := row_new w #[.string ⟨nm.toArray⟩, .string ⟨un.toArray⟩, .slice sv sm sc, .bool sb, .bool vt, .slice av am ac] 71
  have hb0 : Below w.heap.size w (w.alloc (.cells #[.string ⟨nm.toArray⟩, .string ⟨un.toArray⟩, .slice sv sm sc, .bool sb, .bool vt, .slice av am ac] 71)) := (Below.refl _ _).alloc (Nat.le_refl _) _
  have M1 : Hid _ := isName_by nm (w.alloc (.cells #[.string ⟨nm.toArray⟩, .string ⟨un.toArray⟩, .slice sv sm sc, .bool sb, .bool vt, .slice av am ac] 71))
  go_enter Tryd.func60, Tryd.ntmps60
  go_wp2_with fail
  refine Calls.mono M1.out ?_
  clear M1
  rintro e w1 ⟨rfl, hb1⟩
  have n1 := (hb1.block _ (by simp)).trans n0
  have hbw1 := hb0.trans (hb1.mono (by simp))
  cases hn : nmP nm with
  | false =>
    go_wp2_with fail
    go_ret
    exact ⟨by simp [nodeOk, hn], hbw1⟩
  | true =>
    have c0 := (cell_row n1 2).trans rfl
    go_wp2_with fail
    go_loopw [4, 12] (fun _ iv wr => ∃ (k : Nat), k ≤ sm ∧ iv = .int .i64 k ∧ Hid (wr.heap[w.heap.size]? = some (.cells #[.string ⟨nm.toArray⟩, .string ⟨un.toArray⟩, .slice sv sm sc, .bool sb, .bool vt, .slice av am ac] 71 (0, 0))) ∧ Hid (Below w.heap.size w wr) ∧ Hid (∀ x ∈ af.take k, nmP x = true)) (fun _ iv _ => sm - (intOf iv).toNat)
    case atStart => exact ⟨0, Nat.zero_le _, rfl, n1, hbw1, by show ∀ x ∈ af.take 0, _; simp⟩
    case round =>
      obtain ⟨k, hk, rfl, HN, HB, HA⟩ := hrel
      have hzr := HB.out.size
      by_cases hlt : k < sm
      · obtain ⟨x, hx⟩ : ∃ x, af[k]? = some x := ⟨_, List.getElem?_eq_getElem (by rw [← hs.1]; exact hlt)⟩
        obtain ⟨b, off, rfl, _, hc⟩ := hs.2 k x hx
        have d0 := cell_later HB.out hc
        have M2 : Hid _ := isName_by x wr
        have hlt' : (k : Int) < (sm : Int) := by omega
        have HX : Hid _ := hx
        clear hx
        go_wp2_with fail
        refine Calls.mono M2.out ?_
        clear M2
        rintro e w2 ⟨rfl, hb2⟩
        have n2 := (hb2.block _ (Array.getElem?_eq_some_iff.1 HN.out).1).trans HN.out
        have hbw2 := HB.out.trans (hb2.mono hzr)
        cases hnx : nmP x with
        | false =>
          have hq : nodeOk ⟨nm, un, af, sb, vt⟩ am = false := by
            have : af.all nmP = false := by
              rw [List.all_eq_false]
              exact ⟨x, List.mem_of_getElem? HX.out, by simp [hnx]⟩
            simp [nodeOk, this]
          go_wp2_with fail
          go_ret
          exact ⟨by rw [hq]; rfl, hbw2⟩
        | true =>
          go_wp2_with fail
          go_roundw
          case rel =>
            refine ⟨k + 1, by omega, by go_num, n2, hbw2, ?_⟩
            show ∀ y ∈ af.take (k + 1), _
            intro y hy
            rw [List.take_add_one, HX.out] at hy
            rcases List.mem_append.1 hy with h | h
            · exact HA.out y h
            · simp at h; subst h; exact hnx
          case measure => simp [intOf]; omega
      · have hkl : k = sm := by omega
        subst hkl
        have hall : af.all nmP = true := by
          rw [List.all_eq_true]
          intro y hy
          exact HA.out y (by rw [hs.1, List.take_length]; exact hy)
        have d1 := (cell_row HN.out 1).trans rfl
        have d3 := (cell_row HN.out 3).trans rfl
        have d4 := (cell_row HN.out 4).trans rfl
        have d5 := (cell_row HN.out 5).trans rfl
        cases sb with
        | true =>
          have HQ : Hid (nodeOk ⟨nm, un, af, true, vt⟩ am = (un == [] && decide (0 < am))) := by show _ = _; simp [nodeOk, hn, hall]
          have HBB : Hid _ := HB
          by_cases hu : un = []
          · subst hu
            go_wp2_with fail
            go_ret
            exact ⟨by rw [HQ.out]; simp, HBB.out⟩
          · go_wp2_with fail
            go_ret
            exact ⟨by rw [HQ.out]; simp [hu], HBB.out⟩
        | false =>
          have HQ : Hid (nodeOk ⟨nm, un, af, false, vt⟩ am = ((un == [] || nmP un) && !vt && decide (am = 0))) := by show _ = _; simp [nodeOk, hn, hall]
          have M3 : Hid _ := isName_by un wr
          have HBB : Hid _ := HB
          have HZ : Hid (((am : Int) == 0) = decide (am = 0)) := by show _ = _; rw [Bool.eq_iff_iff]; simp
          by_cases hu : un = []
          · subst hu
            cases vt with
            | true =>
              go_wp2_with fail
              go_ret
              exact ⟨by rw [HQ.out]; simp, HBB.out⟩
            | false =>
              go_wp2_with fail
              go_ret
              exact ⟨by rw [HQ.out]; simp; exact HZ.out, HBB.out⟩
          · go_wp2_with fail
            refine Calls.mono M3.out ?_
            rintro e w2 ⟨rfl, hb2⟩
            have n2 := (hb2.block _ (Array.getElem?_eq_some_iff.1 HN.out).1).trans HN.out
            have hbw2 := HB.out.trans (hb2.mono hzr)
            have g4 := (cell_row n2 4).trans rfl
            have g5 := (cell_row n2 5).trans rfl
            clear d1 d3 d4 d5
            cases hnu : nmP un with
            | false =>
              go_wp2_with fail
              go_ret
              exact ⟨by rw [HQ.out]; simp [hu, hnu], hbw2⟩
            | true =>
              cases vt with
              | true =>
                go_wp2_with fail
                go_ret
                exact ⟨by rw [HQ.out]; simp, hbw2⟩
              | false =>
                go_wp2_with fail
                go_ret
                exact ⟨by rw [HQ.out]; simp [hnu]; exact HZ.out, hbw2⟩

end Go.Proofs.YteghapmlnkhepaaDoor.Sx

/- Check: whether a saga is right. -/
namespace Go.Proofs.YteghapmlnkhepaaDoor.Sx

open Go.RowKit Go.Shelf

attribute [local go_sem] Oper.semAt_some

/-- May all nodes be? -/
noncomputable def okL (l : List (Nat × Lab × Tr)) : Bool := l.all fun x => nodeOk x.2.1 x.2.2.len

theorem okL_perm {a b : List (Nat × Lab × Tr)} (h : a.Perm b) : okL a = okL b := h.all_eq

/-- Is a saga right? -/
noncomputable def rightS (x : By) (t : Tr) : Bool := nmP x && decide (0 < t.len) && !bigL (fltn 1 t) && okL (fltn 1 t)

/-- What Check answers. -/
noncomputable def codeS (x : By) (t : Tr) : Int := if rightS x t then 0 else 2

theorem retE {fn : Func} {p : Tmp} (h : fn.results = #[.cell p 29]) {a : Act} {w : World} (b : Nat) (v0 : Value) (hp : a.tmps.getD p undef = .pointer (some ⟨b, 0, none⟩)) (hb : w.cell? ⟨b, 0, none⟩ = some v0) : (results fn a.tmps).run Tryd.prog w = .ok v0 w := by
  have hp' : a.tmps[p]?.getD undef = .pointer (some ⟨b, 0, none⟩) := by simpa using hp
  simp [results, h, hp', go_sem, hb]

set_option maxRecDepth 1000000 in
set_option maxHeartbeats 4000000 in
theorem check_any (w : World) (x : By) (t : Tr) (av : Option Addr) (am ac : Nat) (ht : TAt (· < w.heap.size) w true t av 0 am) (hb : Bnd t) :
    Calls Tryd.prog 46 #[.agg #[.string ⟨x.toArray⟩, .slice av am ac]] w fun e w' => e = .returned (.int .i64 (codeS x t)) ∧ Below w.heap.size w w' := by
  obtain rfl : am = t.len := by have := ht.len; omega
  have n0 := row_alloc (row_new w #[.string ⟨x.toArray⟩, .slice av t.len ac] 24) (.cells #[.int .i64 0] 29)
  have r0 : ((w.alloc (.cells #[.string ⟨x.toArray⟩, .slice av t.len ac] 24)).alloc (.cells #[.int .i64 0] 29)).heap[w.heap.size + 1]? = some (.cells #[.int .i64 0] 29 (0, 0)) := by
    have := row_new (w.alloc (.cells #[.string ⟨x.toArray⟩, .slice av t.len ac] 24)) #[.int .i64 0] 29
    rwa [World.size_alloc] at this
  have hB0 : Below w.heap.size w ((w.alloc (.cells #[.string ⟨x.toArray⟩, .slice av t.len ac] 24)).alloc (.cells #[.int .i64 0] 29)) := ((Below.refl _ w).alloc (Nat.le_refl _) _).alloc (by simp) _
  have M1 : Hid _ := isName_by x ((w.alloc (.cells #[.string ⟨x.toArray⟩, .slice av t.len ac] 24)).alloc (.cells #[.int .i64 0] 29))
  refine (callsIn_wide (n := 5)).1 ?_
  refine callsIn_of_wp_marks Tryd.func46 rfl trivial ?_ rfl
  simp only [Tryd.ntmps46, List.size_toArray, List.length_cons, List.length_nil, Nat.reduceAdd, Nat.reduceSub, Array.replicate_succ, Array.replicate_zero, List.push_toArray, List.append_toArray, List.nil_append, List.cons_append]
  gi_wp2_with fail
  refine ⟨trivial, ?_⟩
  refine (callsIn_wide.2 M1.out).mono ?_
  clear M1
  rintro e w1 ⟨rfl, hb1⟩
  have n1 := (hb1.block _ (by simp; omega)).trans n0
  have r1 := (hb1.block _ (by simp)).trans r0
  have hB1 := hB0.trans (hb1.mono (by simp; omega))
  have hz1 := hb1.size
  simp at hz1
  clear hb1 n0 r0 hB0
  have c0 := (cell_row n1 0).trans rfl
  have c1 := (cell_row n1 1).trans rfl
  have q0 := (cell_row r1 0).trans rfl
  have qf := froz_row r1 0
  have hB2 : Below w.heap.size w (w1.setCell ⟨w.heap.size + 1, 0, none⟩ (.int .i64 2)) := hB1.setCell (p := ⟨w.heap.size + 1, 0, none⟩) (by show w.heap.size ≤ w.heap.size + 1; omega) _
  cases hn : nmP x with
  | false =>
    have HQ : Hid (codeS x t = 2) := by show _ = _; simp [codeS, rightS, hn]
    gi_wp2
    refine ⟨trivial, ?_⟩
    gi_wp2
    exact ⟨.int .i64 2, retE (p := 2) rfl (w.heap.size + 1) _ rfl ((cell_row (row_set r1 0 _) 0).trans rfl), by rw [HQ.out], hB2⟩
  | true =>
    by_cases hl : t.len = 0
    · have HQ : Hid (codeS x t = 2) := by show _ = _; simp [codeS, rightS, hl]
      gi_wp2
      refine ⟨trivial, ?_⟩
      gi_wp2
      exact ⟨.int .i64 2, retE (p := 2) rfl (w.heap.size + 1) _ rfl ((cell_row (row_set r1 0 _) 0).trans rfl), by rw [HQ.out], hB2⟩
    · have hl' : ((t.len : Int) == 0) = false := by simp; omega
      have ht1 : TAt (· < w1.heap.size) w1 true t av 0 t.len := ht.keep (fun b hb _ => hB1.block b hb) (fun b hb _ => by omega) _ _ _ _ _
      have M2 : Hid _ := big_any w1 ⟨x.toArray⟩ t av t.len ac ht1 hb
      gi_wp2_with fail
      refine ⟨trivial, ?_⟩
      refine (callsIn_wide.2 M2.out).mono ?_
      clear M2 ht1
      rintro e w2 ⟨rfl, hb2⟩
      have n2 := (hb2.block _ (by omega)).trans n1
      have r2 := (hb2.block _ (by omega)).trans r1
      have hB3 := hB1.trans (hb2.mono (by omega))
      have hz2 := hb2.size
      have d0 := (cell_row n2 0).trans rfl
      have d1 := (cell_row n2 1).trans rfl
      have e0 := (cell_row r2 0).trans rfl
      have ef := froz_row r2 0
      have hB4 : Below w.heap.size w (w2.setCell ⟨w.heap.size + 1, 0, none⟩ (.int .i64 2)) := hB3.setCell (p := ⟨w.heap.size + 1, 0, none⟩) (by show w.heap.size ≤ w.heap.size + 1; omega) _
      clear c0 c1 q0 qf n1 r1 hB2 hb2
      cases hbg : bigL (fltn 1 t) with
      | true =>
        have HQ : Hid (codeS x t = 2) := by show _ = _; simp [codeS, rightS, hbg]
        gi_wp2
        exact ⟨.int .i64 2, retE (p := 2) rfl (w.heap.size + 1) _ rfl ((cell_row (row_set r2 0 _) 0).trans rfl), by rw [HQ.out], hB4⟩
      | false =>
        gi_wp2_with (refine ⟨trivial, ?_⟩; gi_at_call 59; refine (nodes_in Fence.wide _ trivial rfl _ _ _).mono ?_; rintro e w' ⟨rfl, rfl⟩)
        obtain ⟨Wl, hWl⟩ : ∃ Wl, w2.alloc (.cells #[.string ⟨x.toArray⟩, .slice av t.len ac] 24) = Wl := ⟨_, rfl⟩
        rw [hWl]
        have hz : Wl.heap.size = w2.heap.size + 1 := by rw [← hWl]; simp
        have hrb : Wl.heap[w.heap.size + 1]? = some (.cells #[.int .i64 0] 29 (0, 0)) := by rw [← hWl]; exact row_alloc r2 _
        have hgb : Wl.heap[w2.heap.size]? = some (.cells #[.string ⟨x.toArray⟩, .slice av t.len ac] 24 (0, 0)) := by rw [← hWl]; exact row_new w2 _ 24
        have hbl : Below w.heap.size w Wl := by rw [← hWl]; exact hB3.alloc (by omega) _
        clear hWl
        have hseq := nodes1_in Fence.wide 4 trivial rfl (by omega) rfl w.heap.size (1 + t.dep) w2.heap.size w Wl t av t.len ac (fun k hk => hbl.block k hk) (by omega) ((cell_row hgb 1).trans rfl) ht (Nat.le_refl _) (by have := hb.dep; omega) hb.tw hb.sz
        refine range_mine (n := 5) rfl (by omega) (gf := 71) (lb := #[.pointer (some ⟨w2.heap.size, 0, none⟩)]) rfl trivial (enters_of Tryd.func71 (by kernel_rfl) rfl) hseq (by omega) (fun _ => rfl)
          (fun pre W => W.heap[w.heap.size + 1]? = some (.cells #[.int .i64 0] 29 (0, 0)) ∧ okL (pre.map Nd.key) = true ∧ Below w.heap.size w W)
          (fun pre W => W.heap[w.heap.size + 1]? = some (.cells #[.int .i64 2] 29 (0, 0)) ∧ okL (pre.map Nd.key) = false ∧ Below w.heap.size w W)
          (fun s A B hs hB => ⟨(hB.block _ (by omega)).trans hs.1, hs.2.1, hs.2.2.trans (hB.mono (by omega))⟩)
          (fun s A B hs hB => ⟨(hB.block _ (by omega)).trans hs.1, hs.2.1, hs.2.2.trans (hB.mono (by omega))⟩) ⟨hrb, rfl, hbl⟩ ?round ?done ?stop
        case round =>
          rintro l pre y W hV hN ⟨hr, hL, hB⟩ hlt
          obtain ⟨yd, yl, ya, ysv, ysm, ysc, yav, yam, yac⟩ := y
          have hz0 := hB.size
          simp only [Nd.enc]
          simp only [Array.zip]
          gi_wp2
          refine ⟨⟨row_alloc hr _, hL, hB.alloc hz0 _⟩, Kr.of_below ((Below.refl _ _).alloc (Nat.le_refl _) _) (by omega), ?_⟩
          rintro W2 ⟨hr2, hL2, hB2'⟩ hk2
          have hn2 := (hk2.high W.heap.size (by omega) (by simp)).trans (row_new W #[.string ⟨yl.name.toArray⟩, .string ⟨yl.undo.toArray⟩, .slice ysv ysm ysc, .bool yl.sub, .bool yl.vital, .slice yav yam yac] 71)
          have s0 := (cell_row hn2 0).trans rfl
          have s1 := (cell_row hn2 1).trans rfl
          have s2 := (cell_row hn2 2).trans rfl
          have s3 := (cell_row hn2 3).trans rfl
          have s4 := (cell_row hn2 4).trans rfl
          have s5 := (cell_row hn2 5).trans rfl
          have hsa : SAt (· < w.heap.size) W2 yl.after ysv ysm := SAt.keep (P := (· < w.heap.size)) hV.1 (fun b hb _ => hB2'.block b hb) (fun _ h _ => h)
          have hsm : ysm ≤ 1000000000 := by have := hV.1.1; have := hV.2.2.2; simp only at *; omega
          obtain rfl : yam = ya.len := by have := hV.2.1.len; simp at this; omega
          have M3 : Hid _ := isRight_any _ yl ysv ysm ysc yav ya.len yac W2 hsa hsm
          have HOK : Hid (okL ((pre ++ [(⟨yd, yl, ya, ysv, ysm, ysc, yav, ya.len, yac⟩ : Nd)]).map Nd.key) = nodeOk yl ya.len) := by
            show _ = _
            unfold okL at hL ⊢
            rw [List.map_append, List.all_append, hL]
            simp [Nd.key]
          gi_wp2_with fail
          refine ⟨trivial, ?_⟩
          refine (CallsIn.inRound l (callsIn_wide.2 M3.out)).mono ?_
          clear M3
          rintro e w5 ⟨rfl, hb5⟩
          have hz2 := hB2'.size
          have r5 := (hb5.block _ (Array.getElem?_eq_some_iff.1 hr2).1).trans hr2
          have k5 : Kr w.heap.size Wl.heap.size W2 w5 := Kr.of_below hb5 hz2
          have b5 := hB2'.trans (hb5.mono hz2)
          have r3 := (cell_row r5 0).trans rfl
          have rf3 := froz_row r5 0
          cases hno : nodeOk yl ya.len with
          | true =>
            gi_wp2
            exact ⟨k5, r5, by rw [HOK.out]; exact hno, b5⟩
          | false =>
            gi_wp2
            exact ⟨k5.trans (Kr.setCell _ _ (by omega) (by omega)), row_set r5 0 _, by rw [HOK.out]; exact hno, b5.setCell (p := ⟨w.heap.size + 1, 0, none⟩) (by show w.heap.size ≤ w.heap.size + 1; omega) _⟩
        case done =>
          rintro xs W hS ⟨hr, hL, hB⟩ hK
          have r3 := (cell_row hr 0).trans rfl
          have rf3 := froz_row hr 0
          have HQ : Hid (codeS x t = 0) := by
            show _ = _
            have : okL (fltn 1 t) = true := by rw [← okL_perm hS]; exact hL
            simp [codeS, rightS, hn, hbg, this]
            omega
          have hKs : (W.setCell ⟨w.heap.size + 1, 0, none⟩ (.int .i64 0)).heap[Wl.heap.size]? = some (.deferred (some [])) := (Below.heap_setCell W ⟨w.heap.size + 1, 0, none⟩ _ _ (by show Wl.heap.size ≠ w.heap.size + 1; omega)).trans hK
          have hBs : Below w.heap.size w (W.setCell ⟨w.heap.size + 1, 0, none⟩ (.int .i64 0)) := hB.setCell (p := ⟨w.heap.size + 1, 0, none⟩) (by show w.heap.size ≤ w.heap.size + 1; omega) _
          gi_wp2
          have hr' : ((W.setCell ⟨w.heap.size + 1, 0, none⟩ (.int .i64 0)).putObj Wl.heap.size (.deferred none)).heap[w.heap.size + 1]? = some (.cells #[.int .i64 0] 29 (0, 0)) := (World.putObj_heap_other (by omega)).trans (row_set hr 0 _)
          refine ⟨by simp, .inl ⟨_, _, rfl, run_takeDeferred hKs, ?_⟩⟩
          exact ⟨.int .i64 0, retE (p := 2) rfl (w.heap.size + 1) _ rfl ((cell_row hr' 0).trans rfl), by rw [HQ.out], hBs.trans (below_putObj _ _ _ (by omega) (Array.getElem?_eq_some_iff.1 hKs).1)⟩
        case stop =>
          rintro pre W ⟨rest, hP⟩ ⟨hr, hL, hB⟩ hK
          have HQ : Hid (codeS x t = 2) := by
            show _ = _
            have : okL (fltn 1 t) = false := by
              rw [← okL_perm hP]
              unfold okL at hL ⊢
              rw [List.all_append, hL]; rfl
            simp [codeS, rightS, this]
          gi_wp2
          have hr' : (W.putObj Wl.heap.size (.deferred none)).heap[w.heap.size + 1]? = some (.cells #[.int .i64 2] 29 (0, 0)) := (World.putObj_heap_other (by omega)).trans hr
          refine ⟨by simp, .inl ⟨_, _, rfl, run_takeDeferred hK, ?_⟩⟩
          exact ⟨.int .i64 2, retE (p := 2) rfl (w.heap.size + 1) _ rfl ((cell_row hr' 0).trans rfl), by rw [HQ.out], hB.trans (below_putObj _ _ _ (by omega) (Array.getElem?_eq_some_iff.1 hK).1)⟩

end Go.Proofs.YteghapmlnkhepaaDoor.Sx

/- The document's Same at sagas that are the same. -/
namespace Go.Proofs.YteghapmlnkhepaaDoor.Sx

open Go.RowKit

theorem TAt.below {P : Nat → Prop} {w w' : World} {t : Tr} {k : Bool} {a : Option Addr} {i n : Nat} (h : TAt P w k t a i n) (hb : Below w.heap.size w w') : TAt P w' k t a i n := h.keep (fun b _ hl => hb.block b hl) (fun _ h _ => h) _ _ _ _ _

theorem SAt.below {P : Nat → Prop} {w w' : World} {xs : List By} {a : Option Addr} {n : Nat} (h : SAt P w xs a n) (hb : Below w.heap.size w w') : SAt P w' xs a n := h.keep (fun b _ hl => hb.block b hl) (fun _ h _ => h)

theorem bl_drawn1 {B : Nat} {w w' : World} (h : Below B w w') : Below B w w'.drew := ⟨h.os, h.tape, h.output, h.size, h.block⟩

end Go.Proofs.YteghapmlnkhepaaDoor.Sx

/- A saga that came in is a finite tree. -/
namespace Go.Proofs.YteghapmlnkhepaaDoor.Sx

open Go.RowKit Go.ChangeShapes Go.WideShapes

theorem Tryd.cells9' : Tryd.prog.cellsOf 9 = 1 := by kernel_rfl

theorem Tryd.cells4 : Tryd.prog.cellsOf 4 = 1 := by kernel_rfl

/-- All lists and texts are as long as one may be, at most. -/
def Tr.bnd : Tr → Prop
  | .e => True
  | .b x r => x.len ≤ maxLen ∧ x.bnd ∧ r.bnd
  | .n l t r => l.name.length ≤ maxLen ∧ l.undo.length ≤ maxLen ∧ l.after.length ≤ maxLen ∧ (∀ y ∈ l.after, y.length ≤ maxLen) ∧ t.len ≤ maxLen ∧ t.bnd ∧ r.bnd

variable {H : Type} {enc : TypeId × Value → H} {w : World} {base : Nat} {spare : Nat → Bool} {held : Bool}

end Go.Proofs.YteghapmlnkhepaaDoor.Sx

