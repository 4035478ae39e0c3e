/- Plain: what each call keeps of a disk. -/
import Derived.Test.YtbbmbjlpccdclaaMa
namespace Go.Proofs.Ytbbmbjlpccdclaa
set_option linter.unusedVariables false

theorem reach_take {S : DS} {k : Nat} {n : Int} (h : reachP S k n = 0) : 0 ≤ n ∧ n ≤ (S.fs k).b.length := by
  unfold reachP at h
  split at h
  · rename_i hh
    simpa using hh
  · cases h

theorem okay_append {S : DS} (h : Okay S) (i : Int) (l : List UInt8) : Okay (appendP S i l).2 := h.write i _ _ (fun k _ _ _ => by
  show (S.fs k).s ≤ ((S.fs k).b ++ l).length
  rw [List.length_append]
  have := h.syn k
  omega)

theorem okay_sync {S : DS} (h : Okay S) (i : Int) : Okay (syncP S i).2 := h.write i _ _ (fun k _ _ _ => by
  show (S.fs k).b.length ≤ ((S.fs k).b.take _).length
  rw [List.length_take]
  omega)

theorem okay_cut {S : DS} (h : Okay S) (i n : Int) : Okay (cutP S i n).2 := h.write i _ _ (fun k hk _ hm => by
  subst hk
  have := reach_take hm
  show n.toNat ≤ ((S.fs k).b.take _).length
  rw [List.length_take]
  omega)

theorem okay_grow {S : DS} (h : Okay S) (n : Int) : Okay (growP S n).2 := by
  unfold growP
  split
  · exact h
  · exact h.setRoom _

theorem okay_arm {S : DS} (h : Okay S) (n : Int) (hn : n ≤ 9223372036854775807) : Okay (armP S n).2 := by
  unfold armP
  split
  · exact h
  · exact h.setFuse _ (by omega) (by omega)

theorem small_mono {L R L' R' : Nat} {S : DS} (h : Small L R S) (hL : L ≤ L') (hR : R ≤ R') : Small L' R' S := ⟨fun i => Nat.le_trans (h.len i) hL, Nat.le_trans h.room hR⟩

theorem small_turn {L R : Nat} {S : DS} (h : Small L R S) (k : Nat) (f : Fl) (M X : Nat) (hM : f.b.length ≤ L + M) (hX : S.room + (S.fs k).b.length - f.b.length ≤ R + X) : Small (L + M) (R + X) (turnP S k f) := by
  refine ⟨fun i => ?_, hX⟩
  show (putF S.fs k f i).b.length ≤ _
  unfold putF
  split
  · exact hM
  · have := h.len i
    omega

theorem small_write {L R : Nat} {S : DS} (h : Small L R S) (i more : Int) (how : Fl → Fl) (M X : Nat) (hM : ∀ k : Nat, i = k → more = 0 → (how (S.fs k)).b.length ≤ L + M) (hX : ∀ k : Nat, i = k → more = 0 → S.room + (S.fs k).b.length - (how (S.fs k)).b.length ≤ R + X) : Small (L + M) (R + X) (writeP S i more how).2 := by
  have h' : Small (L + M) (R + X) S := small_mono h (by omega) (by omega)
  unfold writeP
  split
  · exact h'
  · split
    · exact h'
    · rename_i h2
      obtain ⟨k, rfl, hk⟩ := hasB_true (by simpa using h2)
      split
      · exact h'
      · split
        · exact ⟨h'.len, h'.room⟩
        · rename_i h3 _
          exact small_turn (S := { S with fuse := burnF S.fuse }) ⟨h.len, h.room⟩ k _ M X (hM k rfl (by simpa using h3)) (hX k rfl (by simpa using h3))

theorem small_append {L R : Nat} {S : DS} (h : Small L R S) (i : Int) (l : List UInt8) : Small (L + l.length) R (appendP S i l).2 := by
  have := small_write h i (fitsP S l.length) (withP l) l.length 0 (fun k _ _ => by
    show ((S.fs k).b ++ l).length ≤ _
    rw [List.length_append]
    have := h.len k
    omega) (fun k _ _ => by
    show S.room + (S.fs k).b.length - ((S.fs k).b ++ l).length ≤ _
    rw [List.length_append]
    have := h.room
    omega)
  exact this

theorem small_sync {L R : Nat} {S : DS} (h : Small L R S) (i : Int) : Small L R (syncP S i).2 := by
  have := small_write h i 0 (fun f => firstP f.b.length f) 0 0 (fun k _ _ => by
    show ((S.fs k).b.take _).length ≤ _
    rw [List.length_take]
    have := h.len k
    omega) (fun k _ _ => by
    show S.room + (S.fs k).b.length - ((S.fs k).b.take _).length ≤ _
    rw [List.length_take]
    have := h.room
    omega)
  exact this

theorem small_cut {L R : Nat} {S : DS} (h : Small L R S) (i n : Int) : Small L (R + L) (cutP S i n).2 := by
  have := small_write h i (reachP S i n) (firstP n.toNat) 0 L (fun k _ _ => by
    show ((S.fs k).b.take _).length ≤ _
    rw [List.length_take]
    have := h.len k
    omega) (fun k _ _ => by
    have := h.room
    have := h.len k
    omega)
  exact this

theorem small_grow {L R : Nat} {S : DS} (h : Small L R S) (n : Int) : Small L (R + 1048576) (growP S n).2 := by
  have h1 := h.room
  by_cases hg : 0 ≤ n ∧ n ≤ 1048576 - (S.room : Int)
  · have hA : growP S n = (0, { S with room := S.room + n.toNat }) := by unfold growP growsP; rw [if_pos hg, if_neg (by simp)]
    rw [hA]
    refine ⟨h.len, ?_⟩
    show S.room + n.toNat ≤ _
    omega
  · have hA : growP S n = (2, S) := by unfold growP growsP; rw [if_neg hg, if_pos (by decide)]
    rw [hA]
    exact small_mono h (Nat.le_refl _) (by omega)

theorem small_arm {L R : Nat} {S : DS} (h : Small L R S) (n : Int) : Small L R (armP S n).2 := by
  unfold armP
  split
  · exact h
  · exact ⟨h.len, h.room⟩

theorem small_crash {L R : Nat} {S : DS} (h : Small L R S) (ho : Okay S) (keep : List Int) : Small L (R + 65 * L) (crashP S keep) := by
  have h1 := crashK_room keep ho h S.n (Nat.le_refl _)
  have h2 := ho.few
  have h3 : S.n * L ≤ 65 * L := Nat.mul_le_mul_right _ h2
  exact ⟨h1.len, Nat.le_trans h1.room (by omega)⟩
end Go.Proofs.Ytbbmbjlpccdclaa
