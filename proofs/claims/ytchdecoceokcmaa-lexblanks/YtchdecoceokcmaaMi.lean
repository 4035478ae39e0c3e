/- Plain facts: blanks and remarks between tokens turn no token but its place. -/
import Derived.Test.YtchdecoceokcmaaMh
namespace Go.Proofs.Ytchdecoceokcmaa

/-- What stands between two tokens, by its number. -/
def sepc : Nat → List Int
  | 0 => [32]
  | 1 => [10, 9]
  | 2 => 35 :: [32, 115, 97, 103, 97, 32, 123, 59] ++ [10]
  | 3 => [13, 32]
  | 4 => [32] ++ (35 :: [252, 33] ++ [10]) ++ [32]
  | _ => [32, 32]

theorem sepc_gap (j : Nat) : Gap (sepc j) := by
  have b32 : Gap [32] := gap_blank 32 (by decide +kernel) (by decide)
  have b10 : Gap [10] := gap_blank 10 (by decide +kernel) (by decide)
  have b9 : Gap [9] := gap_blank 9 (by decide +kernel) (by decide)
  have b13 : Gap [13] := gap_blank 13 (by decide +kernel) (by decide)
  match j with
  | 0 => exact b32
  | 1 => exact gap_append b10 b9
  | 2 => exact gap_remark _ (by decide)
  | 3 => exact gap_append b13 b32
  | 4 => exact gap_append (gap_append b32 (gap_remark _ (by decide))) b32
  | j + 5 => exact gap_append b32 b32

theorem sepc_cp (j : Nat) : (∀ c ∈ sepc j, isCp c = true) ∧ (encAll (sepc j)).length ≤ 10 := by
  match j with
  | 0 => exact ⟨by decide +kernel, by decide +kernel⟩
  | 1 => exact ⟨by decide +kernel, by decide +kernel⟩
  | 2 => exact ⟨by decide +kernel, by decide +kernel⟩
  | 3 => exact ⟨by decide +kernel, by decide +kernel⟩
  | 4 => exact ⟨by decide +kernel, by decide +kernel⟩
  | j + 5 =>
    have e : sepc (j + 5) = [32, 32] := rfl
    rw [e]
    exact ⟨by decide +kernel, by decide +kernel⟩

theorem flat_snoc (ps : List (List Int × List Int × Int)) (x : List Int × List Int × Int) : flat (ps ++ [x]) = flat ps ++ x.1 ++ x.2.1 := by
  induction ps with
  | nil => simp [flat]
  | cons y ps ih => simp [flat, ih]

def tailc : List Int := [32] ++ (35 :: [32, 116, 104, 101, 32, 101, 110, 100])

/-- Parted tokens, and a remark at the end. -/
theorem blanks_lex (ps : List (List Int × List Int × Int)) (h : ∀ x ∈ ps, (∃ j, x.1 = sepc j) ∧ IsTok x.2.1 x.2.2) (hl : ps.length ≤ 300) :
    (∀ c ∈ flat ps ++ tailc, isCp c = true) ∧ (encAll (flat ps)).length ≤ 20000 ∧ (encAll (flat ps ++ tailc)).length = (encAll (flat ps)).length + 10 ∧ ∃ st, goS sc0 0 (flat ps ++ tailc) = .ok st ∧ st.toks.map strip = ps.map fun x => (x.2.2, encAll x.2.1) := by
  have hps : ∀ x ∈ ps, Gap x.1 ∧ IsTok x.2.1 x.2.2 := by
    intro x hx
    obtain ⟨⟨j, hj⟩, ht⟩ := h x hx
    exact ⟨by rw [hj]; exact sepc_gap j, ht⟩
  obtain ⟨s1, a1, a2, a3⟩ := lex_pairs ps hps sc0 0 rfl
  have b32 : Gap [32] := gap_blank 32 (by decide +kernel) (by decide)
  obtain ⟨s2, b1, b2, b3, b4⟩ := b32 s1 (0 + (encAll (flat ps)).length) a2
  have c1 := open_go [32, 116, 104, 101, 32, 101, 110, 100] (by decide) s2 b4 (0 + (encAll (flat ps)).length + (encAll [32]).length)
  refine ⟨?_, ?_, ?_, ⟨s2.toks, none, true⟩, ?_, ?_⟩
  · intro c hc
    rcases List.mem_append.1 hc with hc | hc
    · refine flat_cp ps ?_ c hc
      intro x hx
      obtain ⟨⟨j, hj⟩, ht⟩ := h x hx
      exact ⟨by rw [hj]; exact (sepc_cp j).1, (isTok_cp ht).1⟩
    · have hall : ∀ c ∈ tailc, isCp c = true := by decide +kernel
      exact hall c hc
  · have := flat_len ps 10 (by
      intro x hx
      obtain ⟨⟨j, hj⟩, ht⟩ := h x hx
      exact ⟨by rw [hj]; exact (sepc_cp j).2, (isTok_cp ht).2⟩)
    omega
  · rw [encAll_append, List.length_append]
    have : (encAll tailc).length = 10 := by decide +kernel
    omega
  · unfold tailc
    rw [goS_append, a1]
    simp only
    rw [goS_append, b1]
    exact c1
  · have e : Sc.toks ⟨s2.toks, none, true⟩ = s2.toks := by simp [Sc.toks, curToks]
    rw [e, b2, a3]
    simp [sc0, Sc.toks, curToks]
end Go.Proofs.Ytchdecoceokcmaa
