/- Plain: the sum of bytes and room; crashes; a fuse that burns. -/
import Derived.Test.YtbbmbjlpccdclaaMb
namespace Go.Proofs.Ytbbmbjlpccdclaa
set_option linter.unusedVariables false

def tot3 (S : DS) : Nat := S.room + (S.fs 0).b.length + (S.fs 1).b.length + (S.fs 2).b.length

theorem tot_turn {S : DS} {k : Nat} {f : Fl} (hk : k < 3) (hf : f.b.length ≤ S.room + (S.fs k).b.length) : tot3 (turnP S k f) = tot3 S := by
  show S.room + (S.fs k).b.length - f.b.length + (putF S.fs k f 0).b.length + (putF S.fs k f 1).b.length + (putF S.fs k f 2).b.length = _
  unfold tot3
  match k, hk with
  | 0, _ => rw [putF_same, putF_other _ _ _ _ (by omega), putF_other _ _ _ _ (by omega)]; omega
  | 1, _ => rw [putF_same, putF_other _ _ _ _ (by omega), putF_other _ _ _ _ (by omega)]; omega
  | 2, _ => rw [putF_same, putF_other _ _ _ _ (by omega), putF_other _ _ _ _ (by omega)]; omega

theorem write_n (S : DS) (i more : Int) (how : Fl → Fl) : (writeP S i more how).2.n = S.n := by
  unfold writeP
  split
  · rfl
  · split
    · rfl
    · split
      · rfl
      · split <;> rfl

theorem tot_write {S : DS} (hn : S.n = 3) (i more : Int) (how : Fl → Fl) (h : ∀ k : Nat, i = k → more = 0 → (how (S.fs k)).b.length ≤ S.room + (S.fs k).b.length) : tot3 (writeP S i more how).2 = tot3 S := by
  unfold writeP
  split
  · rfl
  · split
    · rfl
    · rename_i h2
      obtain ⟨k, rfl, hk⟩ := hasB_true (by simpa using h2)
      split
      · rfl
      · split
        · rfl
        · rename_i h3 _
          exact tot_turn (S := { S with fuse := burnF S.fuse }) (by omega) (h k rfl (by simpa using h3))

theorem tot_crashK {S : DS} (hn : S.n = 3) (keep : List Int) : ∀ k, k ≤ 3 → tot3 (crashK keep S k) = tot3 S
  | 0, _ => rfl
  | k + 1, hk => by
    have ih := tot_crashK hn keep k (by omega)
    show tot3 (turnP (crashK keep S k) k _) = _
    rw [tot_turn (by omega) ?_, ih]
    show (List.take _ _).length ≤ _
    rw [List.length_take]
    omega

theorem growP_n (S : DS) (n : Int) : (growP S n).2.n = S.n := by unfold growP; split <;> rfl
theorem growP_fs (S : DS) (n : Int) : (growP S n).2.fs = S.fs := by unfold growP; split <;> rfl
theorem armP_n (S : DS) (n : Int) : (armP S n).2.n = S.n := by unfold armP; split <;> rfl
theorem armP_tot (S : DS) (n : Int) : tot3 (armP S n).2 = tot3 S := by unfold armP; split <;> rfl
theorem crashP_n (S : DS) (keep : List Int) : (crashP S keep).n = S.n := crashK_n keep S S.n

theorem crashP_fs (S : DS) (keep : List Int) (i : Nat) (hi : i < S.n) : (crashP S keep).fs i = tornP (keep.getD i 0) (S.fs i) := by
  show (crashK keep S S.n).fs i = _
  rw [crashK_fs, if_pos hi]

/-- A disk of three files, n - j of whose fuse is left, or that is down. -/
structure DD (n j : Nat) (S : DS) : Prop where
  three : S.n = 3
  up : j ≤ n → S.down = false ∧ S.fuse = (n : Int) - j
  dn : n < j → S.down = true

theorem dead_write {n j : Nat} {S : DS} (h : DD n j S) (k : Nat) (hk : k < 3) (how : Fl → Fl) : (writeP S k 0 how).1 = (if j < n then 0 else 9) ∧ DD n (j + 1) (writeP S k 0 how).2 := by
  have h3 := h.three
  have hh : hasB S k = true := by unfold hasB; simp; omega
  unfold writeP
  by_cases h1 : n < j
  · have hd := h.dn h1
    rw [if_pos hd, if_neg (by omega)]
    exact ⟨rfl, h3, fun hx => by omega, fun _ => hd⟩
  · obtain ⟨hu, hf⟩ := h.up (by omega)
    rw [if_neg (by rw [hu]; decide), if_neg (by rw [hh]; decide), if_neg (by simp)]
    by_cases h2 : j < n
    · rw [if_neg (by rw [hf]; omega), if_pos h2]
      refine ⟨rfl, h3, fun _ => ⟨hu, ?_⟩, fun hx => by omega⟩
      show burnF S.fuse = _
      unfold burnF
      rw [hf, if_pos (by omega)]
      omega
    · rw [if_pos (by rw [hf]; omega), if_neg h2]
      exact ⟨rfl, h3, fun hx => by omega, fun _ => rfl⟩

theorem dead_sync {n j : Nat} {S : DS} (h : DD n j S) (k : Nat) (hk : k < 3) : (syncP S k).1 = (if j < n then 0 else 9) ∧ DD n (j + 1) (syncP S k).2 := dead_write h k hk _

theorem dead_cut {n j : Nat} {S : DS} (h : DD n j S) (k : Nat) (hk : k < 3) : (cutP S k (S.fs k).b.length).1 = (if j < n then 0 else 9) ∧ DD n (j + 1) (cutP S k (S.fs k).b.length).2 := by
  have hr : reachP S k (S.fs k).b.length = 0 := by unfold reachP; rw [if_pos (by simp)]
  unfold cutP
  rw [hr]
  exact dead_write h k hk _

theorem dead_arm {S : DS} (h3 : S.n = 3) (hd : S.down = false) (n : Nat) : (armP S n).1 = 0 ∧ DD n 0 (armP S n).2 := by
  unfold armP
  rw [if_neg (by rw [hd]; decide)]
  exact ⟨rfl, h3, fun _ => ⟨hd, by show max (n : Int) (-1) = _; omega⟩, fun hx => by omega⟩
end Go.Proofs.Ytbbmbjlpccdclaa
