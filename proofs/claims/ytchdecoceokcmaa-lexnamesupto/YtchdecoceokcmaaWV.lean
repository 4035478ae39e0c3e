/- Walks over lex.Name and lex.Word. -/
import Derived.Test.YtchdecoceokcmaaWT
import Derived.Test.YtchdecoceokcmaaWU
namespace Go.Proofs.Ytchdecoceokcmaa
open Go.RowKit
set_option linter.unusedVariables false

/-- Is a text a name, by the answer of the machine? -/
def nameB (r : Res) (s : List UInt8) : Bool := match r.toks with
  | [t] => decide (r.err = 0 ∧ t.kind = 1 ∧ t.text = s)
  | _ => false

/-- Any answer of 'Lex' at a text: whichever it is. -/
def answer (s : ByteArray) (cs : List Int) (rest : List UInt8) : Res := if s.size ≤ 65536 then lexR cs rest else ⟨[], 0, 5⟩

theorem lex_all (s : ByteArray) (cs : List Int) (rest : List UInt8) (hp0 : Parts s.data.toList cs rest) (w : World) :
    Calls Try.prog 10 #[.string s] w fun e w' => Lexed w (answer s cs rest) e w' := by
  unfold answer
  split
  · rename_i h
    exact lex_any s cs rest hp0 w h
  · rename_i h
    exact lex_great s w h

theorem str_eq (a : List UInt8) (s : ByteArray) : ((⟨a.toArray⟩ : ByteArray).toList == s.toList) = decide (a = s.data.toList) := by
  rw [Lib.toList_data, Lib.toList_data, Bool.eq_iff_iff]
  simp

set_option maxRecDepth 1000000 in
set_option maxHeartbeats 1000000 in
theorem name_any (s : ByteArray) (cs : List Int) (rest : List UInt8) (hp0 : Parts s.data.toList cs rest) (w : World) :
    Calls Try.prog 13 #[.string s] w fun e w' => e = .returned (.bool (nameB (answer s cs rest) s.data.toList)) ∧ Below w.heap.size w w' := by
  have HL : Hid _ := lex_all s cs rest hp0 w
  generalize answer s cs rest = r at *
  obtain ⟨toks, place, err⟩ := r
  clear hp0
  go_enter Try.func13, Try.ntmps13
  go_wp2_with fail
  refine Calls.mono HL.out ?_
  rintro e w1 ⟨v, rfl, hown, hb1⟩
  clear HL
  simp only at hown
  have hr := readsT_of_owns hown
  clear hown
  obtain ⟨a, cap, rfl, hn0, hcap, hr⟩ := hr
  by_cases h0 : err = 0
  · subst h0
    rcases toks with _ | ⟨t, _ | ⟨t2, toks⟩⟩
    · clear hr hn0
      go_wp2
      go_ret
      exact ⟨rfl, hb1⟩
    · obtain ⟨b, off, rfl, c0, c1, c2⟩ := hr 0 t rfl
      simp only [Nat.zero_mul, Nat.add_zero] at c0 c1
      have HN : Hid (nameB ⟨[t], place, 0⟩ s.data.toList = decide (t.kind = 1 ∧ t.text = s.data.toList)) := by
        show _ = _
        simp [nameB]
      by_cases hk : t.kind = 1
      · rw [hk] at c0
        have HK : Hid (t.kind = 1) := hk
        clear hr hn0 hk c2
        go_wp2
        go_ret
        refine ⟨ret_bool ?_, hb1⟩
        rw [HN.out, HK.out, Lib.toList_data, Bool.eq_iff_iff]
        simp
      · have hk2 : (t.kind == 1) = false := by rw [beq_eq_false_iff_ne]; exact hk
        have HK : Hid (¬ t.kind = 1) := hk
        clear hr hn0 hk c2
        go_wp2
        go_ret
        refine ⟨ret_bool ?_, hb1⟩
        rw [HN.out]
        have := HK.out
        simp [this]
    · have hl2 : (((t :: t2 :: toks).length : Int) == 1) = false := by rw [beq_eq_false_iff_ne]; simp; omega
      clear hr hn0
      generalize ht : (t :: t2 :: toks).length = n at *
      go_wp2
      go_ret
      exact ⟨rfl, hb1⟩
  · have h2 : (err == 0) = false := by rw [beq_eq_false_iff_ne]; exact h0
    have HN : Hid (nameB ⟨toks, place, err⟩ s.data.toList = false) := by
      show _ = _
      unfold nameB
      split
      · simp [h0]
      · rfl
    clear h0 hr hn0
    go_wp2
    go_ret
    exact ⟨ret_bool HN.out.symm, hb1⟩

/-- Is a text one of the words? -/
def isWord (l : List UInt8) : Bool := l == [115, 97, 103, 97] || l == [115, 116, 101, 112] || l == [115, 117, 98] || l == [117, 110, 100, 111] || l == [97, 102, 116, 101, 114] || l == [118, 105, 116, 97, 108] || l == [108, 111, 111, 115, 101] || l == [111, 114]

set_option maxRecDepth 1000000 in
set_option maxHeartbeats 1000000 in
theorem word_any (s : ByteArray) (w : World) : Calls Try.prog 15 #[.string s] w fun e w' => e = .returned (.bool (isWord s.data.toList)) ∧ w' = w := by
  go_enter Try.func15, Try.ntmps15
  go_wp2
  all_goals go_ret
  all_goals refine ⟨ret_bool ?_, rfl⟩
  all_goals simp_all [isWord, Lib.toList_data]
end Go.Proofs.Ytchdecoceokcmaa
