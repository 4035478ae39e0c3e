/- Texts of the seat, packed: Qe Qf Gp. -/
import Derived.Test.YtijkgdbabikojaaP22
/- Plain: what the laws of layer 11 lay, tear, open and tell. -/
namespace Go.Proofs.Ytijkgdbabikojaa
open Dk (DS Okay Small cutP appendP syncP hasB hasB_true Fl)
set_option linter.unusedVariables false

def stE (i : Nat) (e : Ev) : Ev := ⟨e.k, e.i, e.t, [0, (i : Int) + 1]⟩
def stL (l : List Ev) (k : Nat) : List Ev := (List.range k).map fun i => stE i (l.getD i Ev.none)
def OkL (l : List Ev) (k : Nat) : Prop := ∀ i, i < k → okE (stE i (l.getD i Ev.none)) = true

theorem stL_succ (l : List Ev) (k : Nat) : stL l (k + 1) = stL l k ++ [stE k (l.getD k Ev.none)] := by unfold stL; rw [List.range_succ]; simp
theorem stL_len (l : List Ev) (k : Nat) : (stL l k).length = k := by simp [stL]
theorem stL_take (l : List Ev) {j k : Nat} (h : j ≤ k) : (stL l k).take j = stL l j := by
  unfold stL
  rw [← List.map_take, List.take_range, Nat.min_eq_left h]

theorem put_stL (l : List Ev) : ∀ k, OkL l k → (Fr.putP ((stL l k).map encE)).length ≤ 37 * k
  | 0, _ => by simp [stL, Fr.putP]
  | k + 1, h => by
    have ih := put_stL l k (fun i hi => h i (by omega))
    have h1 := enc_short (h k (by omega))
    have h2 : (stE k (l.getD k Ev.none)).s.length = 2 := rfl
    rw [stL_succ, List.map_append, Fr.putP_append, List.length_append]
    simp only [List.map_cons, List.map_nil, Fr.putP_cons, List.length_append, Fr.frameP_len]
    simp only [Fr.putP, List.flatMap_nil, List.length_nil]
    rw [h2] at h1
    simp only [Fr.putP] at ih
    omega

theorem good_from (l : List Ev) : ∀ m j, (∀ i, j ≤ i → i < j + m → okE (stE i (l.getD i Ev.none)) = true) → Good 2 1 j ((List.range' j m).map fun i => stE i (l.getD i Ev.none))
  | 0, j, _ => trivial
  | m + 1, j, h => by
    rw [List.range'_succ, List.map_cons]
    refine ⟨h j (by omega) (by omega), rfl, ?_, good_from l m (j + 1) (fun i h1 h2 => h i (by omega) (by omega))⟩
    show atZ [0, (j : Int) + 1] 1 = _
    rfl
theorem good_stL {l : List Ev} {k : Nat} (h : OkL l k) : Good 2 1 0 (stL l k) := by
  unfold stL
  rw [List.range_eq_range']
  exact good_from l k 0 (fun i _ h2 => h i (by omega))

/-- What laid leaves when k events are laid. -/
structure LaidS (l : List Ev) (sure : Int) (k : Nat) (S : DS) : Prop where
  run : Run S
  tot : Dk.tot3 S = 20000
  f0 : S.fs 0 = ⟨[], 0⟩
  f2 : S.fs 2 = ⟨[], 0⟩
  b : (S.fs 1).b = Fr.putP ((stL l k).map encE)
  s : (S.fs 1).s = if 0 < sure ∧ sure ≤ k then (Fr.putP ((stL l sure.toNat).map encE)).length else 0
  ok : OkL l k

theorem LaidS.zero (l : List Ev) (sure : Int) : LaidS l sure 0 (Dk.newP 3 20000) :=
  ⟨run_new _, rfl, rfl, rfl, rfl, by rw [if_neg (by omega)]; rfl, fun i hi => by omega⟩

theorem LaidS.app {l : List Ev} {sure : Int} {k : Nat} {S : DS} (h : LaidS l sure k S) (hk : k < 100) (ho : okE (stE k (l.getD k Ev.none)) = true) :
    (appP S 1 (stE k (l.getD k Ev.none))).1 = 0 ∧ (sure ≠ (k : Int) + 1 → LaidS l sure (k + 1) (appP S 1 (stE k (l.getD k Ev.none))).2) ∧ (sure = (k : Int) + 1 → (syncP (appP S 1 (stE k (l.getD k Ev.none))).2 1).1 = 0 ∧ LaidS l sure (k + 1) (syncP (appP S 1 (stE k (l.getD k Ev.none))).2 1).2) := by
  have h1 := enc_short ho
  have h2 : (stE k (l.getD k Ev.none)).s.length = 2 := rfl
  rw [h2] at h1
  have h3 := put_stL l k h.ok
  have h4 : S.room + 0 + (S.fs 1).b.length + 0 = 20000 := by
    have := h.tot
    unfold Dk.tot3 at this
    rw [h.f0, h.f2] at this
    exact this
  rw [h.b] at h4
  obtain ⟨a1, a2, a3, a4, a5⟩ := app_yes h.run 1 (by omega) (stE k (l.getD k Ev.none)) ho rfl (by omega)
  rw [show ((1 : Nat) : Int) = 1 from rfl] at a1 a2 a3 a4 a5
  obtain ⟨t1, t2, t3⟩ := app_tot h.run.n 1 (stE k (l.getD k Ev.none))
  have hok : OkL l (k + 1) := fun i hi => by
    by_cases hik : i = k
    · subst hik; exact ho
    · exact h.ok i (by omega)
  have hb : ((appP S 1 (stE k (l.getD k Ev.none))).2.fs 1).b = Fr.putP ((stL l (k + 1)).map encE) := by
    rw [a4, stL_succ, List.map_append, Fr.putP_append, h.b]
    simp [Fr.putP]
  refine ⟨a1, fun hs => ⟨a2, by rw [t2]; exact h.tot, by rw [a5 0 (by omega)]; exact h.f0, by rw [a5 2 (by omega)]; exact h.f2, hb, ?_, hok⟩, fun hs => ?_⟩
  · rw [a4]
    show (S.fs 1).s = _
    rw [h.s]
    by_cases hc : 0 < sure ∧ sure ≤ (k : Int)
    · rw [if_pos hc, if_pos (by omega)]
    · rw [if_neg hc, if_neg (by omega)]
  · obtain ⟨b1, b2, b3, b4, b5⟩ := sync_yes a2 1 (by omega)
    rw [show ((1 : Nat) : Int) = 1 from rfl] at b1 b2 b3 b4 b5
    refine ⟨b1, b2, by rw [tot_syn t1, t2]; exact h.tot, by rw [b5 0 (by omega), a5 0 (by omega)]; exact h.f0, by rw [b5 2 (by omega), a5 2 (by omega)]; exact h.f2, by rw [b4]; exact hb, ?_, hok⟩
    rw [b4, if_pos (by omega)]
    show ((appP S 1 (stE k (l.getD k Ev.none))).2.fs 1).b.length = _
    rw [hb, show sure.toNat = k + 1 by omega]

theorem laid_no {S : DS} {k : Nat} {x : Ev} (h : okE (stE k x) = false) : appP S 1 (stE k x) = (2, S) := app_no (fun hh => by rw [h] at hh; exact absurd hh.2.1 (by decide))

theorem load_none (i : Int) : loadL 2 i [] = ([], 0) := load_put 2 i [] trivial

/-- What is told of a disk whose branch 1 holds just events. -/
theorem LaidS.tells {l : List Ev} {sure : Int} {k : Nat} {S : DS} (h : LaidS l sure k S) : ldP 3 S 1 = (stL l k, (S.fs 1).b.length) ∧ ldP 3 S 0 = ([], 0) ∧ Dk.readP S 1 = (S.fs 1).b := by
  have h1 := readP3 h.run.n (i := 1) (by omega)
  have h0 := readP3 h.run.n (i := 0) (by omega)
  refine ⟨?_, ?_, h1⟩
  · unfold ldP
    rw [h1, h.b]
    exact load_put 2 1 _ (good_stL h.ok)
  · unfold ldP
    rw [h0, h.f0]
    exact load_none _

theorem torn_nil (k : Int) : Dk.tornP k ⟨[], 0⟩ = ⟨[], 0⟩ := by
  have : Dk.tornN k ⟨[], 0⟩ = 0 := by unfold Dk.tornN; simp; omega
  unfold Dk.tornP Dk.firstP
  rw [this]
  rfl

/-- A disk behind a crash. -/
theorem crash_fs {S : DS} (hn : S.n = 3) (keep : List Int) : Run (Dk.crashP S keep) ∧ Dk.tot3 (Dk.crashP S keep) = Dk.tot3 S ∧ ∀ i, i < 3 → (Dk.crashP S keep).fs i = Dk.tornP (keep.getD i 0) (S.fs i) := by
  obtain ⟨q1, q2⟩ := crash_tot hn keep
  exact ⟨⟨q1, rfl, rfl⟩, q2, fun i hi => Dk.crashP_fs S keep i (by rw [hn]; exact hi)⟩

/-- Open, where the rest of branch 1 is cut off. -/
theorem open_shape {S : DS} (h : Run S) (h0 : S.fs 0 = ⟨[], 0⟩) {b : List UInt8} (h1 : S.fs 1 = ⟨b, b.length⟩) {L : List Ev} {E : Nat} (hl : loadL 2 1 b = (L, E)) (hE : E ≤ b.length) :
    (openP 3 S).1 = [[], L] ∧ (openP 3 S).2.1 = 0 ∧ Run (openP 3 S).2.2 ∧ (openP 3 S).2.2.fs 0 = ⟨[], 0⟩ ∧ (openP 3 S).2.2.fs 1 = ⟨b.take E, E⟩ := by
  have r0 := readP3 h.n (i := 0) (by omega)
  have r1 := readP3 h.n (i := 1) (by omega)
  rw [h0] at r0
  rw [h1] at r1
  have l0 : ldP 3 S 0 = ([], 0) := by unfold ldP; rw [r0]; exact load_none _
  have l1 : ldP 3 S 1 = (L, E) := by unfold ldP; rw [r1]; exact hl
  have t0 : trimP S ((0 : Nat) : Int) ((0 : Nat) : Int) = (0, S) := by unfold trimP; rw [r0]; rfl
  have e : openP 3 S = if (trimP S ((1 : Nat) : Int) (E : Nat)).1 ≠ 0 then ([], (trimP S ((1 : Nat) : Int) (E : Nat)).1, (trimP S ((1 : Nat) : Int) (E : Nat)).2) else ([[], L], 0, (trimP S ((1 : Nat) : Int) (E : Nat)).2) := by
    show openK 3 (1 + 1) 0 S [] = _
    rw [openK, l0]
    simp only
    rw [t0, if_neg (by simp)]
    show openK 3 (0 + 1) 1 S [[]] = _
    rw [openK, l1]
    rfl
  by_cases hb : b.length = E
  · have t1 : trimP S ((1 : Nat) : Int) (E : Nat) = (0, S) := by unfold trimP; rw [r1, if_pos (by rw [hb])]
    rw [e, t1, if_neg (by simp)]
    refine ⟨rfl, rfl, h, h0, ?_⟩
    show S.fs 1 = _
    rw [h1, ← hb, List.take_length]
  · obtain ⟨c1, c2, c3, c4⟩ := cut_yes h 1 (by omega) E (by rw [h1]; exact hE)
    have t1 : trimP S ((1 : Nat) : Int) (E : Nat) = cutP S ((1 : Nat) : Int) (E : Nat) := by unfold trimP; rw [r1, if_neg (by intro h; exact hb (Int.ofNat.inj h))]
    rw [e, t1, c1, if_neg (by simp)]
    refine ⟨rfl, rfl, c2, ?_, ?_⟩
    · show (cutP S ((1 : Nat) : Int) (E : Nat)).2.fs 0 = _
      rw [c4 0 (by omega), h0]
    · show (cutP S ((1 : Nat) : Int) (E : Nat)).2.fs 1 = _
      rw [c3, h1]

/-- All that BranchTorn is told. -/
theorem torn_plain {l : List Ev} {sure : Int} {k : Nat} {S : DS} (h : LaidS l sure k S) (keep : Int) :
    ∃ j E, j ≤ k ∧ (0 < sure → sure ≤ k → sure ≤ j) ∧
      (openP 3 (Dk.crashP S [0, keep])).1 = [[], stL l j] ∧ (openP 3 (Dk.crashP S [0, keep])).2.1 = 0 ∧
      (openP 3 (openP 3 (Dk.crashP S [0, keep])).2.2).1 = [[], stL l j] ∧ (openP 3 (openP 3 (Dk.crashP S [0, keep])).2.2).2.1 = 0 ∧
      ldP 3 (openP 3 (openP 3 (Dk.crashP S [0, keep])).2.2).2.2 1 = (stL l j, E) ∧ (Dk.readP (openP 3 (openP 3 (Dk.crashP S [0, keep])).2.2).2.2 1).length = E ∧ Dk.syncedP (openP 3 (openP 3 (Dk.crashP S [0, keep])).2.2).2.2 1 = E := by
  obtain ⟨c1, c2, c3⟩ := crash_fs h.run.n [0, keep]
  have f0 : (Dk.crashP S [0, keep]).fs 0 = ⟨[], 0⟩ := by rw [c3 0 (by omega), h.f0, torn_nil]
  have f1 := c3 1 (by omega)
  have hg := good_stL h.ok
  have hss : (S.fs 1).s ≤ (S.fs 1).b.length := by
    rw [h.s, h.b]
    split
    · rename_i hc
      rw [← stL_take l (show sure.toNat ≤ k by omega), List.map_take]
      have := put_mono ((stL l k).map encE) (show sure.toNat ≤ k by omega)
      rw [List.take_of_length_le (by rw [List.length_map, stL_len]; omega : ((stL l k).map encE).length ≤ k)] at this
      exact this
    · omega
  obtain ⟨m, hm⟩ : ∃ m, Dk.tornN ([0, keep].getD 1 0) (S.fs 1) = m := ⟨_, rfl⟩
  obtain ⟨m1, m2⟩ := Dk.tornN_le ([0, keep].getD 1 0) (S.fs 1) hss
  rw [hm] at m1 m2
  unfold Dk.tornP Dk.firstP at f1
  rw [hm] at f1
  obtain ⟨b, hb⟩ : ∃ b, (S.fs 1).b.take m = b := ⟨_, rfl⟩
  have hbl : b.length = m := by rw [← hb, List.length_take]; omega
  rw [hb] at f1
  obtain ⟨j, j1, j2, j3, j4⟩ := load_torn 2 1 (stL l k) hg m (by rw [← h.b]; exact m2)
  rw [stL_len] at j1
  rw [← h.b, hb, stL_take l j1] at j2
  rw [stL_take l j1] at j3
  obtain ⟨E, hE⟩ : ∃ E, (Fr.putP ((stL l j).map encE)).length = E := ⟨_, rfl⟩
  rw [hE] at j2 j3
  obtain ⟨o1, o2, o3, o4, o5⟩ := open_shape c1 f0 (b := b) (by rw [f1, hbl]) j2 (by omega)
  have hbE : b.take E = Fr.putP ((stL l j).map encE) := by
    rw [← hb, List.take_take, Nat.min_eq_left j3, h.b]
    have : (stL l k).map encE = (stL l j).map encE ++ ((stL l k).drop j).map encE := by rw [← stL_take l j1, ← List.map_append, List.take_append_drop]
    rw [this, Fr.putP_append, ← hE, List.take_left']
    rfl
  rw [hbE] at o5
  have hok : OkL l j := fun i hi => h.ok i (by omega)
  have hl2 : loadL 2 1 (Fr.putP ((stL l j).map encE)) = (stL l j, E) := by rw [load_put 2 1 _ (good_stL hok), hE]
  obtain ⟨q1, q2, q3, q4, q5⟩ := open_shape o3 o4 (b := Fr.putP ((stL l j).map encE)) (by rw [o5, hE]) hl2 (by omega)
  rw [← hE, List.take_length] at q5
  have r1 := readP3 q3.n (i := 1) (by omega)
  rw [q5] at r1
  refine ⟨j, E, j1, fun s1 s2 => ?_, o1, o2, q1, q2, ?_, ?_, ?_⟩
  · have hs := h.s
    rw [if_pos ⟨s1, s2⟩] at hs
    have := j4 sure.toNat (by rw [stL_len]; omega) (by rw [stL_take l (show sure.toNat ≤ k by omega), ← hs]; exact m1)
    omega
  · unfold ldP
    rw [r1]
    exact hl2
  · rw [show Dk.readP (openP 3 (openP 3 (Dk.crashP S [0, keep])).2.2).2.2 1 = _ from r1]
    exact hE
  · unfold Dk.syncedP
    rw [if_pos (show hasB _ 1 = true from hasB3 q3.n (i := 1) (by omega))]
    show ((openP 3 (openP 3 (Dk.crashP S [0, keep])).2.2).2.2.fs 1).s = E
    rw [q5]
    exact hE
end Go.Proofs.Ytijkgdbabikojaa

/- Plain: a text that is begun, where the power goes meanwhile. -/
namespace Go.Proofs.Ytijkgdbabikojaa
open Dk (DS Okay Small cutP appendP syncP hasB hasB_true Fl)
set_option linter.unusedVariables false

theorem put_len : ∀ L : List (List UInt8), (Fr.putP L).length = L.flatten.length + 6 * L.length
  | [] => rfl
  | b :: L => by
    rw [Fr.putP_cons, List.length_append, Fr.frameP_len, List.flatten_cons, List.length_append, List.length_cons, put_len L]
    omega

theorem text_short (s : List UInt8) : 1000 * (textP s).length ≤ 1006 * s.length + 12000 := by
  unfold textP
  rw [put_len, List.flatten_append, pieces_flat]
  have := pieces_few s.length s
  have h : (pieces s).length = (piecesF s.length s).length := rfl
  simp only [List.length_append, List.flatten_cons, List.flatten_nil, List.length_nil, List.length_cons, List.nil_append]
  omega

/-- A text that is not told is begun, whatever stands in the last file. -/
theorem begin_over {S : DS} (h : Run S) (ht : Dk.tot3 S = 20000) (h0 : S.fs 0 = ⟨[], 0⟩) (h1 : S.fs 1 = ⟨[], 0⟩) (s : List UInt8) (hs : s.length ≤ 9000) (hn : toldG (lastB S) = none) :
    (beginP S s).1 = 0 ∧ Run (beginP S s).2 ∧ toldG (lastB (beginP S s).2) = some s := by
  have hx := text_short s
  have hl : lastB S = (S.fs 2).b := by unfold lastB; rw [h.n]
  have htt : S.room + 0 + 0 + (S.fs 2).b.length = 20000 := by
    have := ht
    unfold Dk.tot3 at this
    rw [h0, h1] at this
    exact this
  have r2 := readP3 h.n (i := 2) (by omega)
  rw [show ((2 : Nat) : Int) = 2 from rfl] at r2
  have key : (trimP S 2 0).1 = 0 ∧ Run (trimP S 2 0).2 ∧ (trimP S 2 0).2.room = 20000 ∧ (trimP S 2 0).2.fs 2 = ⟨[], ((trimP S 2 0).2.fs 2).s⟩ := by
    by_cases hb : (S.fs 2).b = []
    · have t1 : trimP S 2 0 = (0, S) := by unfold trimP; rw [r2, if_pos (by rw [hb]; rfl)]
      rw [t1]
      refine ⟨rfl, h, ?_, ?_⟩
      · rw [hb] at htt; simpa using htt
      · show S.fs 2 = ⟨[], (S.fs 2).s⟩
        rw [← hb]
    · obtain ⟨c1, c2, c3, c4⟩ := cut_yes h 2 (by omega) 0 (by omega)
      have tt := tot_cut h.n 2 0
      have t1 : trimP S 2 0 = cutP S ((2 : Nat) : Int) ((0 : Nat) : Int) := by unfold trimP; rw [r2, if_neg (by intro e; exact hb (List.eq_nil_of_length_eq_zero (by omega)))]; rfl
      rw [t1]
      refine ⟨c1, c2, ?_, ?_⟩
      · have tt2 : Dk.tot3 (cutP S ((2 : Nat) : Int) ((0 : Nat) : Int)).2 = 20000 := tt.trans ht
        unfold Dk.tot3 at tt2
        rw [c3, c4 0 (by omega), c4 1 (by omega), h0, h1] at tt2
        simpa using tt2
      · rw [c3]; rfl
  obtain ⟨k1, k2, k3, k4⟩ := key
  obtain ⟨a1, a2, a3, a4, a5⟩ := append_yes k2 2 (by omega) (textP s) (by omega)
  obtain ⟨b1, b2, b3, b4, b5⟩ := sync_yes a2 2 (by omega)
  have e : beginP S s = syncP (appendP (trimP S 2 0).2 ((2 : Nat) : Int) (textP s)).2 ((2 : Nat) : Int) := by
    unfold beginP
    rw [if_neg (by omega), hn, if_neg (by decide), h.n]
    show replP S 2 (textP s) = _
    unfold replP
    rw [k1, if_neg (by simp), if_neg (by simpa using a1)]
    rfl
  rw [e]
  refine ⟨b1, b2, ?_⟩
  have : lastB (syncP (appendP (trimP S 2 0).2 ((2 : Nat) : Int) (textP s)).2 ((2 : Nat) : Int)).2 = textP s := by
    unfold lastB
    rw [b2.n]
    show ((syncP (appendP (trimP S 2 0).2 ((2 : Nat) : Int) (textP s)).2 ((2 : Nat) : Int)).2.fs 2).b = _
    rw [b4]
    show ((appendP (trimP S 2 0).2 ((2 : Nat) : Int) (textP s)).2.fs 2).b = _
    rw [a4, k4]
    rfl
  rw [this]
  exact (toldG_iff _ _).2 rfl

theorem begin_told {S : DS} {s t : List UInt8} (hs : s.length ≤ 9000) (ht : toldG (lastB S) = some t) : beginP S s = (7, S) := by
  unfold beginP
  rw [if_neg (by omega), ht, if_pos (show (some t).isSome = true from rfl)]

/-- What begin makes of a new disk with any fuse. -/
theorem begin_fuse (s : List UInt8) (hs : s.length ≤ 9000) (fuse : Int) : ∃ S, (beginP (Dk.armP (Dk.newP 3 20000) fuse).2 s).2 = S ∧ S.n = 3 ∧ Dk.tot3 S = 20000 ∧ S.fs 0 = ⟨[], 0⟩ ∧ S.fs 1 = ⟨[], 0⟩ ∧
    ((beginP (Dk.armP (Dk.newP 3 20000) fuse).2 s).1 = 9 ∧ (S.fs 2 = ⟨[], 0⟩ ∨ S.fs 2 = ⟨textP s, 0⟩) ∨ (beginP (Dk.armP (Dk.newP 3 20000) fuse).2 s).1 = 0 ∧ S.fs 2 = ⟨textP s, (textP s).length⟩) := by
  have hx := text_short s
  obtain ⟨A, hA⟩ : ∃ A, (Dk.armP (Dk.newP 3 20000) fuse).2 = A := ⟨_, rfl⟩
  obtain ⟨f, hf⟩ : ∃ f, max fuse (-1) = f := ⟨_, rfl⟩
  have hA2 : A = { Dk.newP 3 20000 with fuse := f } := by rw [← hA, ← hf]; rfl
  rw [hA]
  clear hA
  have an : A.n = 3 := by rw [hA2]; rfl
  have ar : A.room = 20000 := by rw [hA2]; rfl
  have ad : A.down = false := by rw [hA2]; rfl
  have af : A.fuse = f := by rw [hA2]
  have afs : ∀ i, A.fs i = ⟨[], 0⟩ := fun i => by rw [hA2]; rfl
  have at3 : Dk.tot3 A = 20000 := by rw [hA2]; rfl
  clear hA2
  have r2 : Dk.readP A 2 = [] := by
    have := readP3 an (i := 2) (by omega)
    rw [show ((2 : Nat) : Int) = 2 from rfl] at this
    rw [this, afs]
  have t1 : trimP A 2 0 = (0, A) := by unfold trimP; rw [r2]; rfl
  have e : beginP A s = if (appendP A 2 (textP s)).1 ≠ 0 then appendP A 2 (textP s) else syncP (appendP A 2 (textP s)).2 2 := by
    unfold beginP
    have hl : lastB A = [] := by unfold lastB; rw [afs]
    rw [if_neg (by omega), hl, toldG_nil, if_neg (by decide), an]
    show replP A 2 (textP s) = _
    unfold replP
    rw [t1, if_neg (by simp)]
  have hh : ∀ S : DS, S.n = 3 → hasB S 2 = true := fun S hS => hasB3 hS (i := 2) (by omega)
  have hfit : Dk.fitsP A (textP s).length = 0 := by unfold Dk.fitsP; rw [if_pos (by omega)]
  by_cases f0 : f = 0
  · have a1 : appendP A 2 (textP s) = (9, { A with down := true }) := by
      unfold Dk.appendP Dk.writeP
      rw [if_neg (by rw [ad]; decide), if_neg (by rw [hh A an]; decide), hfit, if_neg (by simp), if_pos (by rw [af, f0])]
    rw [e, a1, if_pos (by simp)]
    exact ⟨_, rfl, an, at3, afs 0, afs 1, .inl ⟨rfl, .inl (afs 2)⟩⟩
  · have a1 : appendP A 2 (textP s) = (0, Dk.turnP { A with fuse := Dk.burnF f } 2 (Dk.withP (textP s) (A.fs 2))) := by
      unfold Dk.appendP Dk.writeP
      rw [if_neg (by rw [ad]; decide), if_neg (by rw [hh A an]; decide), hfit, if_neg (by simp), if_neg (by rw [af]; exact f0), af]
      rfl
    have ta := tot_app an 2 (textP s)
    rw [a1] at ta
    rw [e, a1, if_neg (by simp)]
    obtain ⟨C, hC⟩ : ∃ C, Dk.turnP { A with fuse := Dk.burnF f } 2 (Dk.withP (textP s) (A.fs 2)) = C := ⟨_, rfl⟩
    simp only
    simp only at ta
    have cn : C.n = 3 := by rw [← hC]; exact an
    have cd : C.down = false := by rw [← hC]; exact ad
    have cf : C.fuse = Dk.burnF f := by rw [← hC]; rfl
    have c2 : C.fs 2 = ⟨textP s, 0⟩ := by
      rw [← hC]
      show Dk.putF A.fs 2 _ 2 = _
      rw [Dk.putF_same, afs]
      rfl
    have c0 : C.fs 0 = ⟨[], 0⟩ := by rw [← hC]; exact (Dk.putF_other A.fs 2 0 (Dk.withP (textP s) (A.fs 2)) (by omega)).trans (afs 0)
    have c1 : C.fs 1 = ⟨[], 0⟩ := by rw [← hC]; exact (Dk.putF_other A.fs 2 1 (Dk.withP (textP s) (A.fs 2)) (by omega)).trans (afs 1)
    rw [hC] at ta ⊢
    rw [at3] at ta
    by_cases f1 : Dk.burnF f = 0
    · have s1 : syncP C 2 = (9, { C with down := true }) := by
        unfold Dk.syncP Dk.writeP
        rw [if_neg (by rw [cd]; decide), if_neg (by rw [hh C cn]; decide), if_neg (by simp), if_pos (by rw [cf, f1])]
      rw [s1]
      exact ⟨_, rfl, cn, ta, c0, c1, .inl ⟨rfl, .inr c2⟩⟩
    · have s1 : syncP C 2 = (0, Dk.turnP { C with fuse := Dk.burnF (Dk.burnF f) } 2 (Dk.firstP (C.fs 2).b.length (C.fs 2))) := by
        unfold Dk.syncP Dk.writeP
        rw [if_neg (by rw [cd]; decide), if_neg (by rw [hh C cn]; decide), if_neg (by simp), if_neg (by rw [cf]; exact f1), cf]
        rfl
      have ts := tot_syn cn 2
      rw [s1] at ts ⊢
      refine ⟨_, rfl, cn, ts.trans ta, ?_, ?_, .inr ⟨rfl, ?_⟩⟩
      · exact (Dk.putF_other C.fs 2 0 (Dk.firstP (C.fs 2).b.length (C.fs 2)) (by omega)).trans c0
      · exact (Dk.putF_other C.fs 2 1 (Dk.firstP (C.fs 2).b.length (C.fs 2)) (by omega)).trans c1
      · refine (Dk.putF_same C.fs 2 (Dk.firstP (C.fs 2).b.length (C.fs 2))).trans ?_
        rw [c2]
        unfold Dk.firstP
        rw [List.take_length]

/-- All that BranchTold is told. -/
theorem told_plain (s t : List UInt8) (hs : s.length ≤ 9000) (ht : t.length ≤ 9000) (fuse keep : Int) :
    ((beginP (Dk.armP (Dk.newP 3 20000) fuse).2 s).1 = 0 ∧ toldG (lastB (Dk.crashP (beginP (Dk.armP (Dk.newP 3 20000) fuse).2 s).2 [0, 0, keep])) = some s ∨
      (beginP (Dk.armP (Dk.newP 3 20000) fuse).2 s).1 = 9 ∧ (toldG (lastB (Dk.crashP (beginP (Dk.armP (Dk.newP 3 20000) fuse).2 s).2 [0, 0, keep])) = some s ∨ toldG (lastB (Dk.crashP (beginP (Dk.armP (Dk.newP 3 20000) fuse).2 s).2 [0, 0, keep])) = none)) ∧
    (toldG (lastB (Dk.crashP (beginP (Dk.armP (Dk.newP 3 20000) fuse).2 s).2 [0, 0, keep])) = some s → (beginP (Dk.crashP (beginP (Dk.armP (Dk.newP 3 20000) fuse).2 s).2 [0, 0, keep]) t).1 = 7) ∧
    (toldG (lastB (Dk.crashP (beginP (Dk.armP (Dk.newP 3 20000) fuse).2 s).2 [0, 0, keep])) = none → (beginP (Dk.crashP (beginP (Dk.armP (Dk.newP 3 20000) fuse).2 s).2 [0, 0, keep]) t).1 = 0 ∧ toldG (lastB (beginP (Dk.crashP (beginP (Dk.armP (Dk.newP 3 20000) fuse).2 s).2 [0, 0, keep]) t).2) = some t) := by
  obtain ⟨S, h1, h2, h3, h4, h5, h6⟩ := begin_fuse s hs fuse
  rw [h1]
  obtain ⟨c1, c2, c3⟩ := crash_fs h2 [0, 0, keep]
  have f0 : (Dk.crashP S [0, 0, keep]).fs 0 = ⟨[], 0⟩ := by rw [c3 0 (by omega), h4, torn_nil]
  have f1 : (Dk.crashP S [0, 0, keep]).fs 1 = ⟨[], 0⟩ := by rw [c3 1 (by omega), h5, torn_nil]
  have f2 := c3 2 (by omega)
  have hl : lastB (Dk.crashP S [0, 0, keep]) = ((Dk.crashP S [0, 0, keep]).fs 2).b := by unfold lastB; rw [c1.n]
  have hx := text_short s
  have torn : ∀ m, toldG ((textP s).take m) = some s ∨ toldG ((textP s).take m) = none := fun m => by
    have hlen : ((textP s).take m).length ≤ 65536 := by rw [List.length_take]; omega
    cases hh : toldG ((textP s).take m) with
    | none => exact .inr rfl
    | some x =>
      rw [told_eq _ hlen] at hh
      exact .inl (by rw [(told_torn s x m hh).1])
  refine ⟨?_, fun h => by rw [begin_told ht h], fun h => ?_⟩
  · rcases h6 with ⟨e, g | g⟩ | ⟨e, g⟩
    · refine .inr ⟨e, .inr ?_⟩
      rw [hl, f2, g, torn_nil]
      exact toldG_nil
    · refine .inr ⟨e, ?_⟩
      rw [hl, f2, g]
      exact torn _
    · refine .inl ⟨e, ?_⟩
      rw [hl, f2, g]
      have : (Dk.tornP ([0, 0, keep].getD 2 0) ⟨textP s, (textP s).length⟩).b = textP s := by
        have hm := Dk.tornN_le ([0, 0, keep].getD 2 0) ⟨textP s, (textP s).length⟩ (Nat.le_refl _)
        unfold Dk.tornP Dk.firstP
        exact List.take_of_length_le hm.1
      rw [this]
      exact (toldG_iff _ _).2 rfl
  · obtain ⟨q1, q2, q3⟩ := begin_over c1 (by rw [c2]; exact h3) f0 f1 t ht h
    exact ⟨q1, q3⟩

/-- A disk of one file: a text is begun. -/
theorem one_begin (s : List UInt8) (hs : s.length ≤ 1000) : (beginP (Dk.newP 1 5000) s).1 = 0 := by
  have hx := text_short s
  have hl : lastB (Dk.newP 1 5000) = [] := rfl
  have hb : hasB (Dk.newP 1 5000) 0 = true := by decide
  have t1 : trimP (Dk.newP 1 5000) 0 0 = (0, Dk.newP 1 5000) := by
    unfold trimP
    rw [if_pos (by unfold Dk.readP; rw [if_pos hb]; rfl)]
  have a1 : appendP (Dk.newP 1 5000) 0 (textP s) = (0, Dk.turnP { Dk.newP 1 5000 with fuse := Dk.burnF (-1) } 0 (Dk.withP (textP s) ⟨[], 0⟩)) := by
    have hfit : Dk.fitsP (Dk.newP 1 5000) (textP s).length = 0 := by unfold Dk.fitsP; rw [if_pos (by show _ ≤ 5000; omega)]
    unfold Dk.appendP Dk.writeP
    rw [if_neg (by decide), if_neg (by rw [hb]; decide), hfit, if_neg (by simp), if_neg (by decide)]
    rfl
  unfold beginP
  rw [if_neg (by omega), hl, toldG_nil, if_neg (by decide)]
  show (replP (Dk.newP 1 5000) 0 (textP s)).1 = 0
  unfold replP
  rw [t1, if_neg (by simp), a1, if_neg (by simp)]
  unfold Dk.syncP Dk.writeP
  rw [if_neg (by show ¬ (false = true); decide), if_neg (by show ¬ (hasB (Dk.newP 1 5000) 0 = false); rw [hb]; decide), if_neg (by simp), if_neg (by show ¬ (Dk.burnF (-1) = 0); decide)]
end Go.Proofs.Ytijkgdbabikojaa

/- The laws' lives. -/
namespace Go.Proofs.Ytijkgdbabikojaa
open Go.RowKit
open Dk (DS DK Okay Small)
set_option maxRecDepth 1000000
set_option linter.unusedVariables false

theorem RI.new (w : World) (l : List Int) (cs : Array Value) (hcs : cs.toList = l.map (fun x => Value.int .i64 x)) (hl : l.length ≤ 1000000) : RI (w.alloc (.cells cs 3)) (.slice (some ⟨w.heap.size, 0, none⟩) l.length l.length) l := by
  refine ⟨_, l.length, rfl, Nat.le_refl _, by unfold maxLen; omega, fun i hi => ⟨_, _, rfl, ?_⟩⟩
  rw [cell_of_row _ _ _ cs 3 (0, 0) (World.alloc_heap_new w _), ← Array.getElem?_toList, hcs, Nat.zero_add]
  simp [List.getD_eq_getElem?_getD, hi]

theorem l_append2 {B : Nat} {wp : World} {p : Nat} {S : DS} (h : Lw B wp p S) (i : Int) (ev : Ev) (cs : Array Value) (hcs : cs.toList = ev.s.map (fun x => Value.int .i64 x)) (hl : ev.s.length ≤ 1000000) :
    Calls Try.prog 21 #[.pointer (some ⟨p, 0, none⟩), .int .i64 i, EvV ev (.slice (some ⟨wp.heap.size, 0, none⟩) ev.s.length ev.s.length)] (wp.alloc (.cells cs 3)) fun e w' => e = .returned (.int .i64 (appP S i ev).1) ∧ Lw B w' p (appP S i ev).2 ∧ Below B wp w' := by
  have hb : Below wp.heap.size wp (wp.alloc (.cells cs 3)) := (Below.refl _ _).alloc (Nat.le_refl _) _
  exact Calls.mono (l_append (h.later hb) i ev _ _ (RI.new wp ev.s cs hcs hl) hl) (fun e w' hw => ⟨hw.1, hw.2.1, (hb.mono h.hB).trans hw.2.2⟩)

theorem run_tV {o : Option (List UInt8)} {l : List UInt8} (h : o = some l) : tV o = .string ⟨l.toArray⟩ ∧ tE o = 0 := by subst h; exact ⟨rfl, rfl⟩

set_option maxHeartbeats 4000000 in
theorem lives_any (w : World) : Calls Try.prog 7 #[] w fun e w' => e = .returned (.bool true) ∧ Below w.heap.size w w' := by
  obtain ⟨k1, k2, k3, k4, k5, k6, k7, k8, k9⟩ := lives_plain
  have HN : Hid _ := begun_any 500 w (by omega)
  have H1 : Hid (∀ p wp, Lw w.heap.size wp p y0 → Calls Try.prog 21 #[.pointer (some ⟨p, 0, none⟩), .int .i64 0, .agg #[.int .i64 1, .int .i64 1, .int .i64 0, .slice (some ⟨wp.heap.size, 0, none⟩) 2 2]] (wp.alloc (.cells #[.int .i64 1, .int .i64 0] 3)) fun e w' => e = .returned (.int .i64 0) ∧ Lw w.heap.size w' p y1 ∧ Below w.heap.size wp w') := fun p wp h => by
    have := l_append2 h 0 x1 #[.int .i64 1, .int .i64 0] rfl (by decide)
    rw [k1] at this
    exact this
  have H2 : Hid (∀ p wp, Lw w.heap.size wp p y1 → Calls Try.prog 21 #[.pointer (some ⟨p, 0, none⟩), .int .i64 0, .agg #[.int .i64 2, .int .i64 1, .int .i64 0, .slice (some ⟨wp.heap.size, 0, none⟩) 2 2]] (wp.alloc (.cells #[.int .i64 2, .int .i64 0] 3)) fun e w' => e = .returned (.int .i64 0) ∧ Lw w.heap.size w' p y2 ∧ Below w.heap.size wp w') := fun p wp h => by
    have := l_append2 h 0 x2 #[.int .i64 2, .int .i64 0] rfl (by decide)
    rw [k2] at this
    exact this
  have H3 : Hid (∀ p wp, Lw w.heap.size wp p y2 → Calls Try.prog 21 #[.pointer (some ⟨p, 0, none⟩), .int .i64 0, .agg #[.int .i64 2, .int .i64 1, .int .i64 0, .slice (some ⟨wp.heap.size, 0, none⟩) 2 2]] (wp.alloc (.cells #[.int .i64 9, .int .i64 0] 3)) fun e w' => e = .returned (.int .i64 0) ∧ Lw w.heap.size w' p y3 ∧ Below w.heap.size wp w') := fun p wp h => by
    have := l_append2 h 0 x3 #[.int .i64 9, .int .i64 0] rfl (by decide)
    rw [k3] at this
    exact this
  have H4 : Hid (∀ p wp, Lw w.heap.size wp p y3 → Calls Try.prog 21 #[.pointer (some ⟨p, 0, none⟩), .int .i64 0, .agg #[.int .i64 2, .int .i64 1, .int .i64 0, .slice (some ⟨wp.heap.size, 0, none⟩) 1 1]] (wp.alloc (.cells #[.int .i64 1] 3)) fun e w' => e = .returned (.int .i64 2) ∧ Lw w.heap.size w' p y3 ∧ Below w.heap.size wp w') := fun p wp h => by
    have := l_append2 h 0 x4 #[.int .i64 1] rfl (by decide)
    rw [k4] at this
    exact this
  have H5 : Hid (∀ p wp, Lw w.heap.size wp p y3 → Calls Try.prog 9 #[.pointer (some ⟨p, 0, none⟩), .int .i64 0] wp fun e w' => ∃ a c, ∃ n : Nat, e = .returned (.tuple #[.slice a 2 c, .int .i64 n]) ∧ 0 < n ∧ Lw w.heap.size w' p y3 ∧ Below wp.heap.size wp w') := fun p wp h => by
    have := l_load h 0
    rw [k5] at this
    exact Calls.mono this (fun e w' ⟨a, c, q1, _, q3, q4⟩ => ⟨a, c, _, q1, k6, q3, q4⟩)
  have H6 : Hid (∀ p wp, Lw w.heap.size wp p y3 → Calls Try.prog 19 #[.pointer (some ⟨p, 0, none⟩)] wp fun e w' => e = .returned (.tuple #[.string ⟨#[]⟩, .int .i64 6]) ∧ Lw w.heap.size w' p y3 ∧ Below wp.heap.size wp w') := fun p wp h => by
    have := l_told h
    rw [k7] at this
    exact this
  have H7 : Hid (∀ p wp, Lw w.heap.size wp p y3 → Calls Try.prog 18 #[.pointer (some ⟨p, 0, none⟩), .string ⟨#[116, 101, 120, 116]⟩] wp fun e w' => e = .returned (.int .i64 0) ∧ Lw w.heap.size w' p y4 ∧ Below w.heap.size wp w') := fun p wp h => by
    have := l_begin h textW (by decide)
    rw [k8] at this
    exact this
  have H8 : Hid (∀ p wp, Lw w.heap.size wp p y4 → Calls Try.prog 19 #[.pointer (some ⟨p, 0, none⟩)] wp fun e w' => e = .returned (.tuple #[.string ⟨#[116, 101, 120, 116]⟩, .int .i64 0]) ∧ Lw w.heap.size w' p y4 ∧ Below wp.heap.size wp w') := fun p wp h => by
    have := l_told h
    rw [k9] at this
    exact this
  have HN2 : Hid (Calls Try.prog 16 #[.int .i64 500] w fun e w' => ∃ p r, e = .returned (.tuple #[.pointer (some ⟨p, 0, none⟩), .pointer (some ⟨r, 0, none⟩)]) ∧ Lw w.heap.size w' p y0 ∧ Below w.heap.size w w') := HN
  clear HN k1 k2 k3 k4 k5 k6 k7 k8 k9
  generalize y0 = s0 at *
  generalize y1 = s1 at *
  generalize y2 = s2 at *
  generalize y3 = s3 at *
  generalize y4 = s4 at *
  go_enter Try.func7, Try.ntmps7
  go_wp2_with fail
  refine Calls.mono HN2.out ?_
  rintro e w0 ⟨p, r, rfl, hd0, hb0⟩
  clear HN2
  go_wp2_with fail
  refine Calls.mono (H1.out _ _ hd0) ?_
  rintro e w1 ⟨rfl, hd1, hb1⟩
  clear H1
  go_wp2_with fail
  refine Calls.mono (H2.out _ _ hd1) ?_
  rintro e w2 ⟨rfl, hd2, hb2⟩
  clear H2
  go_wp2_with fail
  refine Calls.mono (H3.out _ _ hd2) ?_
  rintro e w3 ⟨rfl, hd3, hb3⟩
  clear H3
  go_wp2_with fail
  refine Calls.mono (H4.out _ _ hd3) ?_
  rintro e w4 ⟨rfl, hd4, hb4⟩
  clear H4
  go_wp2_with fail
  refine Calls.mono (H5.out _ _ hd4) ?_
  rintro e w5 ⟨la, lc, n, rfl, hn, hd5, hb5⟩
  have hn2 : (0 : Int) < (n : Int) := by omega
  clear H5
  go_wp2_with fail
  refine Calls.mono (H6.out _ _ hd5) ?_
  rintro e w6 ⟨rfl, hd6, hb6⟩
  clear H6
  go_wp2_with fail
  refine Calls.mono (H7.out _ _ hd6) ?_
  rintro e w7 ⟨rfl, hd7, hb7⟩
  clear H7
  go_wp2_with fail
  refine Calls.mono (H8.out _ _ hd7) ?_
  rintro e w8 ⟨rfl, hd8, hb8⟩
  clear H8
  go_wp2_with fail
  go_ret
  have f1 := hb0.trans hb1
  have f2 := f1.trans hb2
  have f3 := f2.trans hb3
  have f4 := f3.trans hb4
  have f5 := f4.trans (hb5.mono f4.size)
  have f6 := f5.trans (hb6.mono f5.size)
  have f7 := f6.trans hb7
  exact ⟨rfl, f7.trans (hb8.mono f7.size)⟩
end Go.Proofs.Ytijkgdbabikojaa

