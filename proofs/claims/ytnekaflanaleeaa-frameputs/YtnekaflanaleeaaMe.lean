/- Plain facts: cut off anywhere just the frames that are whole are told. -/
import Derived.Test.YtnekaflanaleeaaMd
namespace Go.Proofs.Ytnekaflanaleeaa

theorem putP_append (A B : List (List UInt8)) : putP (A ++ B) = putP A ++ putP B := by simp [putP]

theorem count_le : ∀ (L : List (List UInt8)), L.length ≤ (putP L).length
  | [] => by simp
  | b :: L => by
    have := count_le L
    rw [putP_cons, List.length_append, frameP_len, List.length_cons]
    omega

theorem num2_take (d : List UInt8) (n : Nat) (h : 2 ≤ n) : num2 (d.take n) = num2 d := by
  unfold num2
  simp only [List.getD_eq_getElem?_getD, List.getElem?_take]
  rw [if_pos (by omega), if_pos (by omega)]

theorem short_frame (b rest : List UInt8) (m : Nat) (hb : b.length ≤ 1024) (h0 : 0 < m) (hm : m < b.length + 6) : (measureP ((frameP b ++ rest).take m)).2 = 3 := by
  have hl : ((frameP b ++ rest).take m).length = m := by rw [List.length_take, List.length_append, frameP_len]; omega
  unfold measureP
  rw [hl, if_neg (by omega)]
  by_cases h2 : m < 2
  · rw [if_pos h2]
  · rw [if_neg h2, num2_take _ _ (by omega)]
    have hn : num2 (frameP b ++ rest) = b.length := by
      unfold frameP
      rw [List.append_assoc, List.append_assoc]
      exact num2_hd _ hb _
    rw [hn, if_neg (by omega), if_pos (by omega)]

theorem torn (L : List (List UInt8)) (hs : ∀ b ∈ L, b.length ≤ 1024) (n k : Nat) (_hk : k ≤ L.length) (h1 : (putP (L.take k)).length ≤ n) (hn : n ≤ (putP L).length)
    (h2 : ∀ b, L[k]? = some b → n < (putP (L.take k)).length + b.length + 6) :
    allP ((putP L).take n) (n + 1) 0 = (L.take k, (putP (L.take k)).length, if (putP (L.take k)).length = n then 16 else 3) := by
  have hsplit : putP L = putP (L.take k) ++ putP (L.drop k) := by rw [← putP_append, List.take_append_drop]
  have htake : (putP L).take n = putP (L.take k) ++ (putP (L.drop k)).take (n - (putP (L.take k)).length) := by
    rw [hsplit, List.take_append]
    rw [List.take_of_length_le h1]
  have hcnt := count_le (L.take k)
  have := all_from ((putP L).take n) (L.take k) [] ((putP (L.drop k)).take (n - (putP (L.take k)).length)) (n + 1) (if (putP (L.take k)).length = n then 16 else 3)
    (fun b hb => hs b (List.mem_of_mem_take hb)) (by rw [htake]; simp) (by omega) (by
      intro p hp
      have hp2 : p = (putP (L.take k)).length := by simpa using hp
      subst hp2
      have hd : ((putP L).take n).drop (putP (L.take k)).length = (putP (L.drop k)).take (n - (putP (L.take k)).length) := by rw [htake, List.drop_left]
      by_cases he : (putP (L.take k)).length = n
      · rw [if_pos he, takeP_end _ _ (by rw [List.length_take]; omega)]
      · rw [if_neg he]
        have hklt : k < L.length := by
          rcases Nat.lt_or_ge k L.length with h | h
          · exact h
          · rw [List.take_of_length_le h] at he h1
            omega
        have h3 := h2 L[k] (List.getElem?_eq_getElem hklt)
        have hdk : L.drop k = L[k] :: L.drop (k + 1) := List.drop_eq_getElem_cons hklt
        have hm : (measureP (((putP L).take n).drop (putP (L.take k)).length)).2 = 3 := by
          rw [hd, hdk, putP_cons]
          exact short_frame _ _ _ (hs _ (List.getElem_mem hklt)) (by omega) (by omega)
        unfold takeP
        rw [if_neg (by rw [hm]; decide), hm]) (by split <;> decide)
  simpa using this
end Go.Proofs.Ytnekaflanaleeaa
