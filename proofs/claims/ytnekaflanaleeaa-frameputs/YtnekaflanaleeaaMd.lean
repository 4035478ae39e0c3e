/- Plain facts: frames that were put are taken, all of them; cut off anywhere just the whole ones are. -/
import Derived.Test.YtnekaflanaleeaaMc
namespace Go.Proofs.Ytnekaflanaleeaa

/-- Frames one behind the other. -/
def putP (L : List (List UInt8)) : List UInt8 := L.flatMap frameP

theorem putP_cons (b : List UInt8) (L : List (List UInt8)) : putP (b :: L) = frameP b ++ putP L := by simp [putP]

theorem all_from (l : List UInt8) : ∀ (L : List (List UInt8)) (pre t : List UInt8) (f : Nat) (er : Nat), (∀ b ∈ L, b.length ≤ 1024) → l = pre ++ (putP L ++ t) → L.length < f → (∀ p, p = pre.length + (putP L).length → (takeP l p).2.2 = er) → er ≠ 0 →
    allP l f pre.length = (L, pre.length + (putP L).length, er)
  | [], pre, t, f, er, _, hl, hf, he, h0 => by
    obtain ⟨f, rfl⟩ : ∃ g, f = g + 1 := ⟨f - 1, by simp at hf; omega⟩
    have h1 := he pre.length (by simp [putP])
    rw [allP, if_neg (by rw [h1]; exact h0), h1]
    simp [putP]
  | b :: L, pre, t, f, er, hs, hl, hf, he, h0 => by
    obtain ⟨f, rfl⟩ : ∃ g, f = g + 1 := ⟨f - 1, by simp at hf; omega⟩
    have hb := hs b (List.mem_cons_self ..)
    have ht : takeP l pre.length = (b, pre.length + (b.length + 6), 0) := by
      rw [hl, putP_cons, List.append_assoc]
      exact takeP_frame pre b _ hb
    have ih := all_from l L (pre ++ frameP b) t f er (fun c hc => hs c (List.mem_cons_of_mem _ hc)) (by rw [hl, putP_cons]; simp) (by simp at hf; omega) (by
      intro p hp
      refine he p ?_
      rw [hp, putP_cons]
      simp
      omega) h0
    rw [List.length_append, frameP_len] at ih
    rw [allP, ht, if_pos rfl]
    simp only
    rw [ih, putP_cons, List.length_append, frameP_len]
    simp
    omega

/-- Frames that were put are taken as they were put, and the end is found. -/
theorem all_put (L : List (List UInt8)) (hs : ∀ b ∈ L, b.length ≤ 1024) : allP (putP L) ((putP L).length + 1) 0 = (L, (putP L).length, 16) := by
  have hlen : ∀ (L : List (List UInt8)), L.length ≤ (putP L).length := by
    intro L
    induction L with
    | nil => simp
    | cons b L ih => rw [putP_cons, List.length_append, frameP_len, List.length_cons]; omega
  have := all_from (putP L) L [] [] ((putP L).length + 1) 16 hs (by simp) (by have := hlen L; omega) (by
    intro p hp
    rw [takeP_end _ _ (by rw [hp]; simp)]) (by decide)
  simpa using this
end Go.Proofs.Ytnekaflanaleeaa
