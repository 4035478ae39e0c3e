/- The walks over cut, Pop$1, Steal$1, take. -/
import Derived.Test.YtfhmmiilenonkaaRe
import Derived.BigQuiet
import Derived.Deep.QuietTactic
namespace Go.Proofs.Ytfhmmiilenonkaa

open Go.RowKit

set_option maxRecDepth 1000000

set_option linter.unusedVariables false

theorem elem48 (wx : World) : (sizeOf (Try.prog.elem 91)).run Try.prog wx = .ok 6 wx := by kernel_rfl

/-- Where the lower part of a row begins. -/
def lowA (o c k : Nat) : Nat := if c = k then o else o + k * 6

set_option maxHeartbeats 1000000 in
theorem cut_any (g o n c k : Nat) (w : World) (hk : k ≤ n) (hc : n ≤ c) (hm : c ≤ maxLen) :
    Calls Try.prog 66 #[.slice (some ⟨g, o, none⟩) n c, .int .i64 (k : Nat)] w fun e w' => e = .returned (.tuple #[.slice (some ⟨g, o, none⟩) k k, .slice (some ⟨g, lowA o c k, none⟩) (n - k) (c - k)]) ∧ ∃ q, w' = w.drewN q := by
  have h1 : ∀ wx, (Instr.sliceAt 91 (.slice (some ⟨g, o, none⟩) n c) none (some (.int .i64 (k : Nat))) (some (.int .i64 (k : Nat)))).run Try.prog wx = .ok (.slice (some ⟨g, o, none⟩) k k) wx := fun wx => by
    rw [run_sliceAt_slice wx 91 _ _ _ _ Try.underlying91, run_slice_hm wx 91 _ n c Try.underlying91 .i64 .i64 (k : Nat) (k : Nat) (by omega) (by omega) (by omega), elem48]
    simp only [Result.andThen_ok, sliced, Int.toNat_natCast, Nat.sub_zero, Nat.zero_mul]
    split
    · rfl
    · rw [Option.map_some, add_at]; rfl
  have h2 : ∀ wx, (Instr.sliceAt 91 (.slice (some ⟨g, o, none⟩) n c) (some (.int .i64 (k : Nat))) none none).run Try.prog wx = .ok (.slice (some ⟨g, lowA o c k, none⟩) (n - k) (c - k)) wx := fun wx => by
    rw [run_sliceAt_slice wx 91 _ _ _ _ Try.underlying91, run_slice_l wx 91 _ n c Try.underlying91 .i64 (k : Nat) (by omega) (by omega), elem48]
    simp only [Result.andThen_ok, sliced, Int.toNat_natCast]
    unfold lowA
    split
    · rfl
    · rw [Option.map_some, add_at]
  generalize lowA o c k = lo at *
  go_enter Try.func66, Try.ntmps66
  go_wp2_with fail
  go_quiet (fail)
  go_wp2
  go_ret2
  exact ⟨rfl, _, rfl⟩

set_option maxHeartbeats 1000000 in
theorem steal1_any (g o n c : Nat) (w : World) (hn : 1 ≤ n) (hc : n ≤ c) (hm : c ≤ maxLen) :
    Calls Try.prog 70 #[.slice (some ⟨g, o, none⟩) n c] w fun e w' => e = .returned (.tuple #[.slice (some ⟨g, o, none⟩) 1 1, .slice (some ⟨g, lowA o c 1, none⟩) (n - 1) (c - 1)]) ∧ ∃ q, w' = w.drewN q := by
  have HC : Hid _ := fun wx => cut_any g o n c 1 wx hn hc hm
  generalize lowA o c 1 = lo at *
  go_enter Try.func70, Try.ntmps70
  go_wp2_with fail
  refine Calls.mono (HC.out _) ?_
  rintro e w2 ⟨rfl, q, rfl⟩
  go_wp2_with fail
  go_ret2
  exact ⟨rfl, q, rfl⟩

set_option maxHeartbeats 1000000 in
theorem pop1_any (g o n c : Nat) (w : World) (hn : 1 ≤ n) (hc : n ≤ c) (hm : c ≤ maxLen) :
    Calls Try.prog 65 #[.slice (some ⟨g, o, none⟩) n c] w fun e w' => e = .returned (.tuple #[.slice (some ⟨g, lowA o c (n - 1), none⟩) 1 (c - (n - 1)), .slice (some ⟨g, o, none⟩) (n - 1) (n - 1)]) ∧ ∃ q, w' = w.drewN q := by
  have HC : Hid (∀ wx, Calls Try.prog 66 #[.slice (some ⟨g, o, none⟩) n c, .int .i64 ((n : Int) - 1)] wx fun e w' => e = .returned (.tuple #[.slice (some ⟨g, o, none⟩) (n - 1) (n - 1), .slice (some ⟨g, lowA o c (n - 1), none⟩) 1 (c - (n - 1))]) ∧ ∃ q, w' = wx.drewN q) := fun wx => by
    have := cut_any g o n c (n - 1) wx (by omega) hc hm
    rw [show n - (n - 1) = 1 by omega, show ((n - 1 : Nat) : Int) = (n : Int) - 1 by omega] at this
    exact this
  have hmx : maxLen = 9223372036854775807 := rfl
  generalize lowA o c (n - 1) = lo at *
  generalize c - (n - 1) = c2 at *
  generalize n - 1 = n1 at *
  go_enter Try.func65, Try.ntmps65
  go_wp2_with fail
  refine Calls.mono (HC.out _) ?_
  rintro e w2 ⟨rfl, q, rfl⟩
  go_wp2_with fail
  go_ret2
  exact ⟨rfl, q, rfl⟩

/-- How a row parts into the one job that is taken, and those that are left. -/
structure PartR (w : World) (v : Value) (x : JbP) (M' : List JbP) (tv lv : Value) : Prop where
  at' : ∃ g ot ct ol cl cur, v.ownBlock = some g ∧ tv = .slice (some ⟨g, ot, none⟩) 1 ct ∧ lv = .slice (some ⟨g, ol, none⟩) M'.length cl ∧ w.heap[g]? = some (.cells cur 37 (0, 0)) ∧ ot + 6 ≤ cur.size ∧ (∀ j, j < 6 → cur[ot + j]? = (jrow x)[j]?) ∧ M'.length ≤ cl ∧ cl ≤ maxLen ∧ ol + cl * 6 ≤ cur.size ∧
    ∀ i p, M'[i]? = some p → (∀ j, j < 6 → cur[ol + i * 6 + j]? = (jrow p)[j]?) ∧ (ol + i * 6 + 6 ≤ ot ∨ ot + 6 ≤ ol + i * 6)

theorem PartR.later {w w' : World} {v : Value} {x : JbP} {M' : List JbP} {tv lv : Value} (h : PartR w v x M' tv lv) (hb : Below w.heap.size w w') : PartR w' v x M' tv lv := by
  obtain ⟨g, ot, ct, ol, cl, cur, h1, h2, h3, h4, rest⟩ := h.at'
  exact ⟨g, ot, ct, ol, cl, cur, h1, h2, h3, row_later h4 hb, rest⟩

theorem part_steal {w : World} {g o n c : Nat} {x : JbP} {M' : List JbP} (h : OwR w (.slice (some ⟨g, o, none⟩) n c) (x :: M')) :
    PartR w (.slice (some ⟨g, o, none⟩) n c) x M' (.slice (some ⟨g, o, none⟩) 1 1) (.slice (some ⟨g, lowA o c 1, none⟩) (n - 1) (c - 1)) := by
  rcases h with ⟨e, _⟩ | ⟨g', o', cap', cur, e, h1, h2, h3, h4, h5⟩
  · cases e
  · simp only [Value.slice.injEq, Option.some.injEq, Addr.mk.injEq] at e
    obtain ⟨⟨rfl, rfl, _⟩, e2, rfl⟩ := e
    simp only [List.length_cons] at h1 e2
    subst e2
    refine ⟨g, o, 1, _, c - 1, cur, rfl, rfl, by rw [Nat.add_sub_cancel], h3, by omega, fun j hj => ?_, by omega, by omega, ?_, fun i p hp => ?_⟩
    · have := h5 0 x rfl j hj
      simpa using this
    · unfold lowA; split <;> omega
    · have hi := (List.getElem?_eq_some_iff.1 hp).1
      have hlo : lowA o c 1 = o + 6 := by unfold lowA; rw [if_neg (by omega)]
      rw [hlo]
      refine ⟨fun j hj => ?_, .inr (by omega)⟩
      have := h5 (i + 1) p (by simpa using hp) j hj
      rw [← this]
      congr 1
      omega

theorem part_pop {w : World} {g o n c : Nat} {x : JbP} {M' : List JbP} (h : OwR w (.slice (some ⟨g, o, none⟩) n c) (M' ++ [x])) :
    PartR w (.slice (some ⟨g, o, none⟩) n c) x M' (.slice (some ⟨g, lowA o c (n - 1), none⟩) 1 (c - (n - 1))) (.slice (some ⟨g, o, none⟩) (n - 1) (n - 1)) := by
  rcases h with ⟨e, _⟩ | ⟨g', o', cap', cur, e, h1, h2, h3, h4, h5⟩
  · cases e
  · simp only [Value.slice.injEq, Option.some.injEq, Addr.mk.injEq] at e
    obtain ⟨⟨rfl, rfl, _⟩, e2, rfl⟩ := e
    simp only [List.length_append, List.length_cons, List.length_nil] at h1 e2
    subst e2
    have hlo : lowA o c (M'.length + (0 + 1) - 1) = o + M'.length * 6 := by unfold lowA; rw [if_neg (by omega)]; rw [show M'.length + (0 + 1) - 1 = M'.length by omega]
    rw [hlo]
    refine ⟨g, _, _, o, M'.length, cur, rfl, rfl, by rw [show M'.length + (0 + 1) - 1 = M'.length by omega], h3, by omega, fun j hj => ?_, by omega, by omega, by omega, fun i p hp => ?_⟩
    · exact h5 M'.length x (by simp) j hj
    · have hi := (List.getElem?_eq_some_iff.1 hp).1
      exact ⟨fun j hj => h5 i p (by rw [List.getElem?_append_left hi]; exact hp) j hj, .inl (by omega)⟩

/-- What a call that makes no block its own leaves. -/
def WS (T : Nat → Prop) (w : World) (p : Nat) (L : List Jb) (w' : World) : Prop := DQ T w' p L ∧ Kp T w w'

theorem WS.later {T : Nat → Prop} {w w' w'' : World} {p : Nat} {L : List Jb} (h : WS T w p L w') (hb : Below w'.heap.size w' w'') : WS T w p L w'' := ⟨h.1.later hb, h.2.later hb⟩

/-- Behind a job that was taken. -/
theorem take_end {T : Nat → Prop} {w w1 : World} {p bj : Nat} {v tv lv : Value} {x : JbP} {M M' : List JbP} {g ot : Nat} {vs : List Value} (h : DV T w p v M) (hb : Below w.heap.size w w1) (hP : PartR w1 v x M' tv lv) (hM : ∀ y ∈ M', y ∈ M) (hx : x ∈ M) (hbj : w.heap.size ≤ bj)
    {cs : Array Value} (hj : w1.heap[bj]? = some (.cells cs 37 (0, 0))) (hcs : cs.size = 6) (hg : v.ownBlock = some g) (ht : ∃ ct, tv = .slice (some ⟨g, ot, none⟩) 1 ct) (hvs : vs.length = 6) :
    (((set6 w1 bj 0 x).setCell ⟨p, 1, none⟩ lv).setCells g ot vs).heap[bj]? = some (.cells (jrow x).toArray 37 (0, 0)) ∧ WS T w p (M'.map Prod.fst) (((set6 w1 bj 0 x).setCell ⟨p, 1, none⟩ lv).setCells g ot vs) ∧ RS T (((set6 w1 bj 0 x).setCell ⟨p, 1, none⟩ lv).setCells g ot vs) x.2 x.1.s ∧ Kp (fun k => T k ∨ k = bj) w1 (((set6 w1 bj 0 x).setCell ⟨p, 1, none⟩ lv).setCells g ot vs) := by
  obtain ⟨g', ot', ct, ol, cl, cur, q1, q2, q3, q4, q5, q6, q7, q8, q9, q10⟩ := hP.at'
  obtain rfl : g = g' := by rw [hg] at q1; exact Option.some.inj q1
  obtain ⟨ct2, ht⟩ := ht
  obtain rfl : ot' = ot := by rw [q2] at ht; simp at ht; exact ht.1
  have hgm := h.mine g hg
  have hgl := h.live g hgm.1
  have hpl := h.live p h.own
  have hp1 := row_later h.blk hb
  have kj : Kp (fun k => k = bj) w1 (set6 w1 bj 0 x) := set6_kept _ _ _ _ _ rfl
  have kp : Kp (fun k => k = p) (set6 w1 bj 0 x) ((set6 w1 bj 0 x).setCell ⟨p, 1, none⟩ lv) := (Kp.refl _ _).set _ _ rfl
  have kg : Kp (fun k => k = g) ((set6 w1 bj 0 x).setCell ⟨p, 1, none⟩ lv) (((set6 w1 bj 0 x).setCell ⟨p, 1, none⟩ lv).setCells g ot' vs) := setCells_kept (fun k => k = g) rfl _ _ _
  have hsz := hb.size
  have hj1 := kg.row (kp.row (set6_whole hj hcs x) (by omega)) (show ¬ bj = g by omega)
  have hp2 := kg.row (row_set (kj.row hp1 (by omega)) 1 lv) (show ¬ p = g from fun e => hgm.2 e.symm)
  have hg2 := kp.row (kj.row q4 (show ¬ g = bj by omega)) (show ¬ g = p from hgm.2)
  obtain ⟨cur', r1, r2, r3⟩ := setCells_row vs ot' hg2
  have hsize : (((set6 w1 bj 0 x).setCell ⟨p, 1, none⟩ lv).setCells g ot' vs).heap.size = w1.heap.size := by
    have e1 : ∀ (vs : List Value) (o : Nat) (W : World), (W.setCells g o vs).heap.size = W.heap.size := by
      intro vs
      induction vs with
      | nil => intros; rfl
      | cons v r ih => intro o W; rw [World.setCells, ih]; simp [World.setCell]
    rw [e1]
    simp [set6, World.setCell]
  have kall : Kp (fun k => k = bj ∨ k = p ∨ k = g) w1 (((set6 w1 bj 0 x).setCell ⟨p, 1, none⟩ lv).setCells g ot' vs) := ((kj.mono (fun k h => .inl h)).trans kp (fun _ h _ => .inr (.inl h))).trans kg (fun _ h _ => .inr (.inr h))
  have kT : Kp T w (((set6 w1 bj 0 x).setCell ⟨p, 1, none⟩ lv).setCells g ot' vs) := (Kp.of_below T hb).trans kall (fun k hk hk2 => by
    rcases hk with rfl | rfl | rfl
    · omega
    · exact h.own
    · exact hgm.1)
  have hst : ∀ y ∈ M, RS (fun k => T k ∧ k ≠ p ∧ v.ownBlock ≠ some k) (((set6 w1 bj 0 x).setCell ⟨p, 1, none⟩ lv).setCells g ot' vs) y.2 y.1.s := fun y hy => ((h.st y hy).later hb).kept kall (fun k hk hk2 => by
    have := h.live k hk.1
    rcases hk2 with rfl | rfl | rfl
    · omega
    · exact hk.2.1 rfl
    · exact hk.2.2 hg)
  subst q3
  refine ⟨hj1, ⟨⟨_, M', ⟨hp2, .inr ⟨g, ol, cl, cur', rfl, q7, q8, r1, by rw [r2]; exact q9, fun i y hy j hj9 => ?_⟩, h.own, fun k hk => ?_, fun k hk => ?_, fun y hy => ?_⟩, rfl⟩, kT⟩, (hst x hx).mono (fun k _ hk => hk.1), kall.mono (fun k hk => by rcases hk with rfl | rfl | rfl; exact .inr rfl; exact .inl h.own; exact .inl hgm.1)⟩
  · obtain ⟨s1, s2⟩ := q10 i y hy
    rw [r3 _ (by rw [hvs]; omega)]
    exact s1 j hj9
  · cases hk
    exact hgm
  · rw [hsize]
    have := h.live k hk; omega
  · have h1 := hst y (hM y hy)
    refine ⟨h1.1, fun h0 a9 n9 c9 he => ?_⟩
    have h2 := h1.2 h0 a9 n9 c9 he
    exact ⟨h2.1, h2.2.1, fun e => h2.2.2 (by rw [hg]; exact e)⟩

end Go.Proofs.Ytfhmmiilenonkaa
