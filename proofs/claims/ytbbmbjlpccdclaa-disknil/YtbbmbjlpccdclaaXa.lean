/- The document's disk in memory; the walks over its New, Has, burns, Grow, Arm. -/
import Derived.Test.YtbbmbjlpccdclaaWh
import Derived.Laws.MakeOwn
namespace Go.Proofs.Ytbbmbjlpccdclaa
open Go.RowKit
set_option linter.unusedVariables false

def str (l : List UInt8) : Value := .string ⟨l.toArray⟩

/-- The document's disk: block r, the files in block g. -/
structure RV (w : World) (r g : Nat) (S : DS) : Prop where
  hne : r ≠ g
  rblk : ∃ cs, w.heap[r]? = some (.cells cs 60 (0, 0))
  gblk : ∃ cs, w.heap[g]? = some (.cells cs 64 (0, 0))
  sl : w.cell? ⟨r, 0, none⟩ = some (.slice (some ⟨g, 0, none⟩) S.n S.n)
  rm : w.cell? ⟨r, 1, none⟩ = some (.int .i64 S.room)
  fu : w.cell? ⟨r, 2, none⟩ = some (.int .i64 S.fuse)
  dn : w.cell? ⟨r, 3, none⟩ = some (.bool S.down)
  file : ∀ i, i < S.n → w.cell? ⟨g, i * 2, none⟩ = some (str (S.fs i).b) ∧ w.cell? ⟨g, i * 2 + 1, none⟩ = some (.int .i64 (S.fs i).s)

theorem RV.rlt {w : World} {r g : Nat} {S : DS} (h : RV w r g S) : r < w.heap.size ∧ g < w.heap.size := by
  obtain ⟨cs, e⟩ := h.rblk
  obtain ⟨cs2, e2⟩ := h.gblk
  exact ⟨(Array.getElem?_eq_some_iff.1 e).1, (Array.getElem?_eq_some_iff.1 e2).1⟩

theorem RV.frz {w : World} {r g : Nat} {S : DS} (h : RV w r g S) : (∀ o, w.frozen? ⟨r, o, none⟩ = false) ∧ (∀ o, w.frozen? ⟨g, o, none⟩ = false) := by
  obtain ⟨cs, e⟩ := h.rblk
  obtain ⟨cs2, e2⟩ := h.gblk
  exact ⟨fun o => frozen_of_row _ _ _ cs 60 e, fun o => frozen_of_row _ _ _ cs2 64 e2⟩

theorem RV.kept {w w' : World} {T : Nat → Prop} {r g : Nat} {S : DS} (h : RV w r g S) (hk : Kp T w w') (hr : ¬ T r) (hg : ¬ T g) : RV w' r g S := by
  obtain ⟨cs, e⟩ := h.rblk
  obtain ⟨cs2, e2⟩ := h.gblk
  exact ⟨h.hne, ⟨cs, (hk.block r h.rlt.1 hr).trans e⟩, ⟨cs2, (hk.block g h.rlt.2 hg).trans e2⟩, hk.cell h.sl hr, hk.cell h.rm hr, hk.cell h.fu hr, hk.cell h.dn hr, fun i hi => ⟨hk.cell (h.file i hi).1 hg, hk.cell (h.file i hi).2 hg⟩⟩

theorem RV.later {w w' : World} {r g : Nat} {S : DS} (h : RV w r g S) (hb : Below w.heap.size w w') : RV w' r g S := h.kept (Kp.of_below (fun _ => False) hb) (fun h => h) (fun h => h)

theorem blk_set {w : World} {p q o : Nat} {u : Value} {t : TypeId} (h : ∃ cs, w.heap[p]? = some (.cells cs t (0, 0))) : ∃ cs, (w.setCell ⟨q, o, none⟩ u).heap[p]? = some (.cells cs t (0, 0)) := by
  obtain ⟨cs, h1⟩ := h
  by_cases he : p = q
  · subst he
    exact ⟨_, heap_setCell_same _ _ _ _ t _ h1⟩
  · exact ⟨cs, by rw [Below.heap_setCell _ _ _ _ he]; exact h1⟩

/-- A store into r. -/
theorem RV.setR {w : World} {r g : Nat} {S : DS} (h : RV w r g S) (o : Nat) (u : Value) (S' : DS) (hn : S'.n = S.n) (hf : S'.fs = S.fs) (ho : o ≠ 0)
    (h1 : (w.setCell ⟨r, o, none⟩ u).cell? ⟨r, 1, none⟩ = some (.int .i64 S'.room)) (h2 : (w.setCell ⟨r, o, none⟩ u).cell? ⟨r, 2, none⟩ = some (.int .i64 S'.fuse)) (h3 : (w.setCell ⟨r, o, none⟩ u).cell? ⟨r, 3, none⟩ = some (.bool S'.down)) : RV (w.setCell ⟨r, o, none⟩ u) r g S' := by
  refine ⟨h.hne, blk_set h.rblk, blk_set h.gblk, by rw [set_other _ _ _ _ _ (by omega), hn]; exact h.sl, h1, h2, h3, fun i hi => ?_⟩
  rw [World.cell?_setCell_far _ _ _ _ h.hne, World.cell?_setCell_far _ _ _ _ h.hne, hf]
  rw [hn] at hi
  exact h.file i hi

theorem RV.setRoom {w : World} {r g : Nat} {S : DS} (h : RV w r g S) (x : Nat) : RV (w.setCell ⟨r, 1, none⟩ (.int .i64 x)) r g { S with room := x } :=
  h.setR 1 _ _ rfl rfl (by omega) (set_same _ h.rm) (by rw [set_other _ _ _ _ _ (by omega)]; exact h.fu) (by rw [set_other _ _ _ _ _ (by omega)]; exact h.dn)
theorem RV.setFuse {w : World} {r g : Nat} {S : DS} (h : RV w r g S) (x : Int) : RV (w.setCell ⟨r, 2, none⟩ (.int .i64 x)) r g { S with fuse := x } :=
  h.setR 2 _ _ rfl rfl (by omega) (by rw [set_other _ _ _ _ _ (by omega)]; exact h.rm) (set_same _ h.fu) (by rw [set_other _ _ _ _ _ (by omega)]; exact h.dn)
theorem RV.setDown {w : World} {r g : Nat} {S : DS} (h : RV w r g S) (x : Bool) : RV (w.setCell ⟨r, 3, none⟩ (.bool x)) r g { S with down := x } :=
  h.setR 3 _ _ rfl rfl (by omega) (by rw [set_other _ _ _ _ _ (by omega)]; exact h.rm) (by rw [set_other _ _ _ _ _ (by omega)]; exact h.fu) (set_same _ h.dn)

theorem set_oth (w : World) (p o q : Nat) (u : Value) (h : q ≠ o) : (w.setCell ⟨p, o, none⟩ u).cell? ⟨p, q, none⟩ = w.cell? ⟨p, q, none⟩ := set_other w p o q u h

/-- A file's bytes, or how many are synced, are stored. -/
theorem RV.setB {w : World} {r g : Nat} {S : DS} (h : RV w r g S) (k : Nat) (hk : k < S.n) (b : List UInt8) : RV (w.setCell ⟨g, k * 2, none⟩ (str b)) r g { S with fs := putF S.fs k ⟨b, (S.fs k).s⟩ } := by
  have hgr : g ≠ r := fun e => h.hne e.symm
  refine ⟨h.hne, blk_set h.rblk, blk_set h.gblk, by rw [World.cell?_setCell_far _ _ _ _ hgr]; exact h.sl, by rw [World.cell?_setCell_far _ _ _ _ hgr]; exact h.rm, by rw [World.cell?_setCell_far _ _ _ _ hgr]; exact h.fu, by rw [World.cell?_setCell_far _ _ _ _ hgr]; exact h.dn, fun i hi => ?_⟩
  have hi2 : i < S.n := hi
  show _ = some (str (putF S.fs k ⟨b, (S.fs k).s⟩ i).b) ∧ _ = some (Value.int .i64 ((putF S.fs k ⟨b, (S.fs k).s⟩ i).s : Int))
  by_cases hik : i = k
  · subst hik
    rw [putF_same]
    exact ⟨set_same _ (h.file i hi2).1, by rw [set_other _ _ _ _ _ (by omega)]; exact (h.file i hi2).2⟩
  · rw [putF_other _ _ _ _ hik]
    exact ⟨by rw [set_other _ _ _ _ _ (by omega)]; exact (h.file i hi2).1, by rw [set_other _ _ _ _ _ (by omega)]; exact (h.file i hi2).2⟩

theorem RV.setS {w : World} {r g : Nat} {S : DS} (h : RV w r g S) (k : Nat) (hk : k < S.n) (s : Nat) : RV (w.setCell ⟨g, k * 2 + 1, none⟩ (.int .i64 s)) r g { S with fs := putF S.fs k ⟨(S.fs k).b, s⟩ } := by
  have hgr : g ≠ r := fun e => h.hne e.symm
  refine ⟨h.hne, blk_set h.rblk, blk_set h.gblk, by rw [World.cell?_setCell_far _ _ _ _ hgr]; exact h.sl, by rw [World.cell?_setCell_far _ _ _ _ hgr]; exact h.rm, by rw [World.cell?_setCell_far _ _ _ _ hgr]; exact h.fu, by rw [World.cell?_setCell_far _ _ _ _ hgr]; exact h.dn, fun i hi => ?_⟩
  have hi2 : i < S.n := hi
  show _ = some (str (putF S.fs k ⟨(S.fs k).b, s⟩ i).b) ∧ _ = some (Value.int .i64 ((putF S.fs k ⟨(S.fs k).b, s⟩ i).s : Int))
  by_cases hik : i = k
  · subst hik
    rw [putF_same]
    exact ⟨by rw [set_other _ _ _ _ _ (by omega)]; exact (h.file i hi2).1, set_same _ (h.file i hi2).2⟩
  · rw [putF_other _ _ _ _ hik]
    exact ⟨by rw [set_other _ _ _ _ _ (by omega)]; exact (h.file i hi2).1, by rw [set_other _ _ _ _ _ (by omega)]; exact (h.file i hi2).2⟩

/-- The answer of a call of the document's disk. -/
def RR (r g : Nat) (w : World) (res : Int × DS) (e : Ending) (w' : World) : Prop := e = .returned (.int .i64 res.1) ∧ RV w' r g res.2 ∧ Kp (fun k => k = r ∨ k = g) w w'

theorem RV.drew {w : World} {r g : Nat} {S : DS} (h : RV w r g S) : RV w.drew r g S := h.later (Below.refl _ _).drew

set_option maxRecDepth 1000000 in
theorem rhas_any (r g : Nat) (S : DS) (i : Int) (w : World) (h : RV w r g S) (ho : S.n ≤ 65) : Calls Try.prog 58 #[.pointer (some ⟨r, 0, none⟩), .int .i64 i] w fun e w' => e = .returned (.bool (hasB S i)) ∧ w' = w := by
  have hs := h.sl
  obtain ⟨q, HQ⟩ : ∃ q, Hid (hasB S i = q) := ⟨_, rfl⟩
  rw [HQ.out]
  unfold hasB at HQ
  clear h
  by_cases h0 : 0 ≤ i
  · by_cases h1 : i < S.n
    · have hq : q = true := by rw [← HQ.out]; simpa using ⟨h0, h1⟩
      subst hq
      clear HQ
      go_enter Try.func58, Try.ntmps58
      go_wp2
      go_ret
      exact ⟨by simp, rfl⟩
    · have hq : q = false := by rw [← HQ.out]; simp [h1]
      subst hq
      clear HQ
      go_enter Try.func58, Try.ntmps58
      go_wp2
      go_ret
      exact ⟨by simp <;> omega, rfl⟩
  · have hq : q = false := by rw [← HQ.out]; simp [h0]
    subst hq
    clear HQ
    go_enter Try.func58, Try.ntmps58
    go_wp2
    go_ret
    exact ⟨by simp <;> omega, rfl⟩

theorem rburns_off (r g : Nat) (S : DS) (w : World) (h : RV w r g S) (hf : S.fuse = 0) : Calls Try.prog 59 #[.pointer (some ⟨r, 0, none⟩)] w fun e w' => e = .returned (.bool true) ∧ w' = w.setCell ⟨r, 3, none⟩ (.bool true) := by
  have h1 := h.fu
  rw [hf] at h1
  have h2 := h.dn
  have h3 := h.frz.1
  clear h
  go_enter Try.func59, Try.ntmps59
  go_wp2
  go_ret
  exact ⟨rfl, rfl⟩

theorem rburns_on (r g : Nat) (S : DS) (w : World) (h : RV w r g S) (ho : -1 ≤ S.fuse) (ho2 : S.fuse ≤ 9223372036854775807) (hdn : S.down = false) (hf : S.fuse ≠ 0) : Calls Try.prog 59 #[.pointer (some ⟨r, 0, none⟩)] w fun e w' => e = .returned (.bool false) ∧ RV w' r g { S with fuse := burnF S.fuse } ∧ Kp (fun k => k = r ∨ k = g) w w' := by
  have h1 := h.fu
  have h2 := h.dn
  rw [hdn] at h2
  have h3 := h.frz.1
  have HR : Hid _ := h
  have hz : (S.fuse == 0) = false := by simpa using hf
  obtain ⟨f, HF⟩ : ∃ f, Hid (S.fuse = f) := ⟨_, rfl⟩
  rw [HF.out] at h1 hz ho ho2 hf ⊢
  by_cases hp : 0 < f
  · have HE : Hid (burnF f = f - 1) := by show _ = _; unfold burnF; rw [if_pos hp]
    rw [HE.out]
    clear h HE
    go_enter Try.func59, Try.ntmps59
    go_wp2
    go_ret
    exact ⟨rfl, HR.out.setFuse _, (Kp.refl _ _).set _ _ (.inl rfl)⟩
  · have HE : Hid (burnF f = f) := by show _ = _; unfold burnF; rw [if_neg hp]; omega
    rw [HE.out]
    clear h HE
    have HS : Hid ({ S with fuse := f } = S) := by show _ = _; rw [← HF.out]
    rw [HS.out]
    go_enter Try.func59, Try.ntmps59
    go_wp2
    go_ret
    exact ⟨rfl, HR.out, Kp.refl _ _⟩

set_option maxRecDepth 1000000 in
theorem rarm_any (r g : Nat) (S : DS) (n : Int) (w : World) (h : RV w r g S) : Calls Try.prog 29 #[.pointer (some ⟨r, 0, none⟩), .int .i64 n] w (RR r g w (armP S n)) := by
  have h1 := h.fu
  have h2 := h.dn
  have h3 := h.frz.1
  have HR : Hid _ := h
  by_cases hdn : S.down = true
  · rw [hdn] at h2
    have hA : armP S n = (9, S) := by unfold armP; rw [if_pos hdn]
    rw [hA]
    clear h hA
    go_enter Try.func29, Try.ntmps29
    go_wp2
    go_ret
    exact ⟨rfl, HR.out, Kp.refl _ _⟩
  · have hd2 : S.down = false := by simpa using hdn
    rw [hd2] at h2
    have hA : armP S n = (0, { S with fuse := max n (-1) }) := by unfold armP; rw [if_neg hdn]
    rw [hA]
    clear h hA hd2 hdn
    by_cases hm : n < -1
    · rw [show max n (-1) = -1 by omega]
      go_enter Try.func29, Try.ntmps29
      go_wp2
      go_ret
      exact ⟨rfl, HR.out.setFuse _, (Kp.refl _ _).set _ _ (.inl rfl)⟩
    · rw [show max n (-1) = n by omega]
      have hm2 : -1 ≤ n := by omega
      go_enter Try.func29, Try.ntmps29
      go_wp2
      go_ret
      exact ⟨rfl, HR.out.setFuse _, (Kp.refl _ _).set _ _ (.inl rfl)⟩

set_option maxRecDepth 1000000 in
set_option maxHeartbeats 1000000 in
theorem rgrow_any (r g : Nat) (S : DS) (n : Int) (w : World) (h : RV w r g S) (hr : S.room ≤ 1000000000000) : Calls Try.prog 31 #[.pointer (some ⟨r, 0, none⟩), .int .i64 n] w (RR r g w (growP S n)) := by
  have h1 := h.rm
  have h3 := h.frz.1
  have HR : Hid _ := h
  obtain ⟨x, HX⟩ : ∃ x, Hid (S.room = x) := ⟨_, rfl⟩
  rw [HX.out] at h1 hr
  by_cases hg : 0 ≤ n ∧ n ≤ 1048576 - (x : Int)
  · have hA : growP S n = (0, { S with room := x + n.toNat }) := by unfold growP growsP; rw [HX.out, if_pos hg, if_neg (by simp)]
    rw [hA]
    obtain ⟨m, rfl⟩ : ∃ m : Nat, n = m := ⟨n.toNat, by omega⟩
    have hb : (m : Int) ≤ 1048576 - (x : Int) := hg.2
    clear h hA hg
    have k1 : ¬ (1048576 : Int) < (m : Int) := by omega
    have k2 : ¬ (1048576 : Int) < (x : Int) + (m : Int) := by omega
    go_enter Try.func31, Try.ntmps31
    go_wp2
    go_ret
    refine ⟨rfl, ?_, (Kp.refl _ _).set _ _ (.inl rfl)⟩
    exact HR.out.setRoom (x + m)
  · have hA : growP S n = (2, S) := by unfold growP growsP; rw [HX.out, if_neg hg, if_pos (by decide)]
    rw [hA]
    clear h hA
    by_cases k0 : n < 0
    · go_enter Try.func31, Try.ntmps31
      go_wp2
      go_ret
      exact ⟨rfl, HR.out, Kp.refl _ _⟩
    · by_cases k1 : (1048576 : Int) < n
      · go_enter Try.func31, Try.ntmps31
        go_wp2
        go_ret
        exact ⟨rfl, HR.out, Kp.refl _ _⟩
      · have k2 : (1048576 : Int) < (x : Int) + n := by omega
        clear hg
        go_enter Try.func31, Try.ntmps31
        go_wp2
        go_ret
        exact ⟨rfl, HR.out, Kp.refl _ _⟩
end Go.Proofs.Ytbbmbjlpccdclaa
