/- Plain facts on what is read: the program's reading and the document's are one; the example. -/
import Derived.Test.YtcnodkkdhkkicaaDoorEd
import Derived.Test.YtcnodkkdhkkicaaDoorEl
namespace Go.Proofs.YtcnodkkdhkkicaaDoor
open Go.RowKit
set_option linter.unusedVariables false

/-- What is read of bytes. -/
def rd (b : List UInt8) : Option Ev := readF (tri ((b.getD 0 0).toNat : Nat)) b

theorem first_enc {e : Ev} (h : okE e = true) : (((encE e).getD 0 0).toNat : Int) = e.k := by
  obtain ⟨k1, k2, _⟩ := okE_head h
  unfold encE headP
  simp only [List.append_assoc, List.cons_append, List.nil_append, List.getD_cons_zero]
  rw [u8_nat]
  omega

theorem tri_ok {e : Ev} (h : okE e = true) : tri e.k = decide (3 < e.k) := by
  obtain ⟨k1, k2, _⟩ := okE_head h
  unfold tri
  exact decide_eq_decide.2 (by omega)

theorem rd_enc {e : Ev} (h : okE e = true) : rd (encE e) = some e := by
  unfold rd
  refine readF_enc ?_ h
  rw [← tri_ok h, ← first_enc h]

theorem doc_enc {e : Ev} (h : okE e = true) : readF (decide (3 < ((((encE e).getD 0 0).toNat : Nat) : Int))) (encE e) = some e := by
  refine readF_enc ?_ h
  rw [← first_enc h]

theorem readF_kind {q : Bool} {b : List UInt8} {e : Ev} (h : readF q b = some e) : e.k = ((b.getD 0 0).toNat : Int) := by
  unfold readF at h
  split at h
  · rename_i h1
    split at h
    · split at h
      · have he := Option.some.inj h
        subst he
        unfold headF at h1
        by_cases hb : b = []
        · rw [if_pos hb] at h1; cases h1
        · unfold evF headF
          rw [if_neg hb]
          split <;> rfl
      · cases h
    · cases h
  · cases h

theorem rd_some {b : List UInt8} {e : Ev} (h : rd b = some e) : okE e = true ∧ encE e = b := by
  refine readF_some ?_ h
  intro ho
  rw [← tri_ok ho, readF_kind h]

theorem doc_some {b : List UInt8} {e : Ev} (h : readF (decide (3 < (((b.getD 0 0).toNat : Nat) : Int))) b = some e) : okE e = true ∧ encE e = b := by
  refine readF_some ?_ h
  intro ho
  rw [readF_kind h]

theorem rd_doc (b : List UInt8) : readF (decide (3 < (((b.getD 0 0).toNat : Nat) : Int))) b = rd b := by
  cases h : rd b with
  | some e =>
    obtain ⟨ho, rfl⟩ := rd_some h
    exact doc_enc ho
  | none =>
    cases h2 : readF (decide (3 < (((b.getD 0 0).toNat : Nat) : Int))) b with
    | none => rfl
    | some e =>
      obtain ⟨ho, rfl⟩ := doc_some h2
      rw [rd_enc ho] at h
      cases h

theorem rd_less {e : Ev} (h : okE e = true) : rd (encE e).dropLast = none := by
  cases h2 : rd (encE e).dropLast with
  | none => rfl
  | some f =>
    obtain ⟨hf, he⟩ := rd_some h2
    have hne : encE e ≠ [] := fun hb => by have := enc_pos e; rw [hb] at this; simp at this
    have h3 : encE f ++ [(encE e).getLast hne] = encE e ++ [] := by rw [he, List.append_nil]; exact List.dropLast_concat_getLast hne
    have h4 := enc_prefix hf h h3
    subst h4
    have h5 := congrArg List.length he
    rw [List.length_dropLast] at h5
    have := enc_pos f
    omega

theorem rd_more {e : Ev} (c : UInt8) (h : okE e = true) : rd (encE e ++ [c]) = none := by
  cases h2 : rd (encE e ++ [c]) with
  | none => rfl
  | some f =>
    obtain ⟨hf, he⟩ := rd_some h2
    have h3 : encE f ++ [] = encE e ++ [c] := by rw [he, List.append_nil]
    have h4 := enc_prefix hf h h3
    subst h4
    have h5 := congrArg List.length he
    rw [List.length_append] at h5
    simp at h5

/-- The example. -/
def ex : Ev := ⟨4, 5, 1, [2, 0]⟩

theorem ex_ok : okE ex = true := by decide
theorem ex_enc : encE ex = [4, 5, 1, 2, 2, 0] := by
  unfold encE headP putsP manyP natL ex
  simp [one_lt]
theorem ex_byt : bytE ex = [4, 5, 1, 2, 2, 0] := by unfold bytE; rw [if_pos ex_ok, ex_enc]
theorem ex_rd : rd [4, 5, 1, 2, 2, 0] = some ex := by rw [← ex_enc]; exact rd_enc ex_ok
theorem ex_text : textE ex = [117, 110, 100, 111, 32, 53, 46, 49, 32, 50, 32, 48] := by
  unfold textE
  rw [if_pos ex_ok]
  unfold texE headT numT stampT wordP ex
  simp [dgs_lt]
theorem ex_err : evE ex = 0 := by unfold evE; rw [if_pos ex_ok]
theorem none_err : evE ⟨0, 0, 0, []⟩ = 2 := by decide
theorem ex_same : sameB ex ex = true := sameB_iff.2 rfl
end Go.Proofs.YtcnodkkdhkkicaaDoor
