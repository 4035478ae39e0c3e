/- Both pools' calls, for any worker. -/
import Derived.Test.YtfhmmiilenonkaaQk
import Derived.Test.YtfhmmiilenonkaaQo
import Derived.Test.YtfhmmiilenonkaaQp
import Derived.Test.YtfhmmiilenonkaaQr
import Derived.Test.YtfhmmiilenonkaaQu
namespace Go.Proofs.Ytfhmmiilenonkaa
open Go.RowKit Go.Shelf
set_option maxRecDepth 1000000
set_option linter.unusedVariables false

variable {N : Nat} {F S : Nat → Prop} {w w' : World} {p r b1 b2 b3 n : Nat} {s : Pq.St Jb} {rs hs fs : Array Value}

/-- Is there such a worker? -/
def inW (n : Nat) (v : Int) : Bool := decide (0 ≤ v ∧ v < n)
theorem inW_yes {v : Int} (h : inW n v = true) : ∃ u : Nat, v = u ∧ u < n := by
  have := of_decide_eq_true h
  exact ⟨v.toNat, by omega, by omega⟩
theorem inW_no {v : Int} (h : inW n v = false) : v < 0 ∨ (n : Int) ≤ v := by
  have := of_decide_eq_false h
  omega
theorem inW_at {u : Nat} (h : u < n) : inW n (u : Int) = true := decide_eq_true ⟨by omega, by omega⟩

def takeC (s : Pq.St Jb) (n : Nat) (v pick : Int) : Pq.St Jb × (Jb × Int × Int) :=
  if inW n v then ((Pq.takeS s n v.toNat (frm pick n)).1, match (Pq.takeS s n v.toNat (frm pick n)).2 with | some (j, u) => (j, (u : Int), 0) | none => (zJ, 0, 6)) else (s, (zJ, 0, 2))
def putC (s : Pq.St Jb) (n : Nat) (v : Int) (e : Jb) : Int × Pq.St Jb :=
  if inW n v then (match s.hd v.toNat with | some _ => (0, Pq.putS s v.toNat e) | none => (6, s)) else (2, s)
def doneC (s : Pq.St Jb) (n : Nat) (v : Int) : Int × Pq.St Jb :=
  if inW n v then (match s.hd v.toNat with | some _ => (0, Pq.doneS s v.toNat) | none => (6, s)) else (2, s)
def pushC (s : Pq.St Jb) (n : Nat) (v : Int) (e : Jb) : Int × Pq.St Jb :=
  if inW n v then ((pushP (s.row v.toNat) e).1, ⟨s.rows.set v.toNat (pushP (s.row v.toNat) e).2, s.hold⟩) else (2, s)

theorem LP.mvp (h : LP N F w p n s) : ∀ k, k = p → Mv N F k := fun k hk => by
  obtain ⟨⟨D, cs, h1, h2, h5⟩, h3, h4⟩ := h
  rw [hk]
  exact ⟨h2, h1.nf⟩

theorem take_all (v pick : Int) (h : LP N F w p n s) (hi : PInv s) (hpk : -9223372036854775808 ≤ pick ∧ pick ≤ 9223372036854775807) :
    Calls Try.prog 15 #[.pointer (some ⟨p, 0, none⟩), .int .i64 v, .int .i64 pick] w fun e w' => ∃ sv, e = .returned (.tuple #[JV (takeC s n v pick).2.1 sv, .int .i64 (takeC s n v pick).2.2.1, .int .i64 (takeC s n v pick).2.2.2]) ∧ RS (fun k => k ≠ p ∧ ¬ F k) w' sv (takeC s n v pick).2.1.s ∧ LP N F w' p n (takeC s n v pick).1 ∧ Kp (Mv N F) w w' := by
  cases hv : inW n v with
  | false =>
    unfold takeC
    rw [hv]
    simp only [Bool.false_eq_true, if_false]
    refine Calls.mono (take_err pick (WErr.out h (inW_no hv))) ?_
    rintro e w' ⟨rfl, hb⟩
    exact ⟨_, rfl, RS.nil _ _, h.later hb, Kp.of_below _ hb⟩
  | true =>
    obtain ⟨u, rfl, hu⟩ := inW_yes hv
    unfold takeC
    rw [hv]
    simp only [if_pos, Int.toNat_natCast]
    refine Calls.mono (take_w pick h hi hu hpk) ?_
    rintro e w' ⟨⟨k1, k2, k3⟩, _⟩
    cases hx : (Pq.takeS s n u (frm pick n)).2 with
    | none =>
      rw [hx] at k3
      exact ⟨_, k3, RS.nil _ _, k2, k1⟩
    | some x =>
      rw [hx] at k3
      obtain ⟨sv, q1, q2⟩ := k3
      exact ⟨sv, q1, q2, k2, k1⟩
theorem rtake_all (v pick : Int) (h : RV S w r b1 b2 b3 n s rs hs fs) (hi : PInv s) (hpk : -9223372036854775808 ≤ pick ∧ pick ≤ 9223372036854775807) :
    Calls Try.prog 26 #[.pointer (some ⟨r, 0, none⟩), .int .i64 v, .int .i64 pick] w fun e w' => ∃ sv, e = .returned (.tuple #[JV (takeC s n v pick).2.1 sv, .int .i64 (takeC s n v pick).2.2.1, .int .i64 (takeC s n v pick).2.2.2]) ∧ RS S w' sv (takeC s n v pick).2.1.s ∧ (∃ rs hs fs, RV S w' r b1 b2 b3 n (takeC s n v pick).1 rs hs fs) ∧ Kp (fun k => k = b1 ∨ k = b2 ∨ k = b3) w w' := by
  cases hv : inW n v with
  | false =>
    unfold takeC
    rw [hv]
    simp only [Bool.false_eq_true, if_false]
    refine Calls.mono (rtake_out pick h (inW_no hv)) ?_
    rintro e w' ⟨rfl, hb⟩
    exact ⟨_, rfl, RS.nil _ _, ⟨_, _, _, h.later hb⟩, Kp.of_below _ hb⟩
  | true =>
    obtain ⟨u, rfl, hu⟩ := inW_yes hv
    unfold takeC
    rw [hv]
    simp only [if_pos, Int.toNat_natCast]
    refine Calls.mono (rtake_w pick h hi hu hpk) ?_
    rintro e w' ⟨k1, k2, k3⟩
    cases hx : (Pq.takeS s n u (frm pick n)).2 with
    | none =>
      rw [hx] at k3
      exact ⟨_, k3, RS.nil _ _, k2, k1⟩
    | some x =>
      rw [hx] at k3
      obtain ⟨sv, q1, q2⟩ := k3
      exact ⟨sv, q1, q2, k2, k1⟩

theorem put_all (v : Int) {e : Jb} {sv : Value} (h : LP N F w p n s) (hs : RI w sv e.s) (hes : e.s.length ≤ 1000000) :
    Calls Try.prog 20 #[.pointer (some ⟨p, 0, none⟩), .int .i64 v, JV e sv] w fun x w' => x = .returned (.int .i64 (putC s n v e).1) ∧ LP N F w' p n (putC s n v e).2 ∧ Kp (Mv N F) w w' := by
  have hsv : ∃ a n c, sv = .slice a n c := by obtain ⟨a, c, q, _⟩ := hs; exact ⟨_, _, _, q⟩
  cases hv : inW n v with
  | false =>
    unfold putC
    rw [hv]
    simp only [Bool.false_eq_true, if_false]
    have he := WErr.out h (inW_no hv)
    refine Calls.mono (put_err hsv (by decide) ⟨_, rfl⟩ he.holder) ?_
    rintro x w' ⟨rfl, hb⟩
    exact ⟨rfl, h.later hb, Kp.of_below _ hb⟩
  | true =>
    obtain ⟨u, rfl, hu⟩ := inW_yes hv
    unfold putC
    rw [hv]
    simp only [if_pos, Int.toNat_natCast]
    cases hj : s.hd u with
    | none =>
      refine Calls.mono (put_err hsv (by decide) ⟨_, rfl⟩ (holder_none h hu hj)) ?_
      rintro x w' ⟨rfl, hb⟩
      exact ⟨rfl, h.later hb, Kp.of_below _ hb⟩
    | some j =>
      refine Calls.mono (put_some h hu hj hs hes) ?_
      rintro x w' ⟨rfl, q1, q2⟩
      exact ⟨rfl, q1, q2.mono h.mvp⟩
theorem rput_all (v : Int) {e : Jb} {sv : Value} (h : RV S w r b1 b2 b3 n s rs hs fs) (hs1 : RS S w sv e.s) :
    Calls Try.prog 27 #[.pointer (some ⟨r, 0, none⟩), .int .i64 v, JV e sv] w fun x w' => x = .returned (.int .i64 (putC s n v e).1) ∧ (∃ rs hs fs, RV S w' r b1 b2 b3 n (putC s n v e).2 rs hs fs) ∧ Kp (fun k => k = b1 ∨ k = b2 ∨ k = b3) w w' := by
  have hsv : ∃ a n c, sv = .slice a n c := by obtain ⟨⟨a, c, q, _⟩, _⟩ := hs1; exact ⟨_, _, _, q⟩
  cases hv : inW n v with
  | false =>
    unfold putC
    rw [hv]
    simp only [Bool.false_eq_true, if_false]
    refine Calls.mono (rput_out h hsv (inW_no hv)) ?_
    rintro x w' ⟨rfl, hb⟩
    exact ⟨rfl, ⟨_, _, _, h.later hb⟩, Kp.of_below _ hb⟩
  | true =>
    obtain ⟨u, rfl, hu⟩ := inW_yes hv
    unfold putC
    rw [hv]
    simp only [if_pos, Int.toNat_natCast]
    cases hj : s.hd u with
    | none =>
      refine Calls.mono (rput_none h hsv hu hj) ?_
      rintro x w' ⟨rfl, hb⟩
      exact ⟨rfl, ⟨_, _, _, h.later hb⟩, Kp.of_below _ hb⟩
    | some j =>
      refine Calls.mono (rput_some h hs1 hu hj) ?_
      rintro x w' ⟨rfl, ⟨hs', q1⟩, q2⟩
      exact ⟨rfl, ⟨_, _, _, q1⟩, q2.mono (fun k hk => .inr (.inl hk))⟩

theorem done_all (v : Int) (h : LP N F w p n s) :
    Calls Try.prog 18 #[.pointer (some ⟨p, 0, none⟩), .int .i64 v] w fun x w' => x = .returned (.int .i64 (doneC s n v).1) ∧ LP N F w' p n (doneC s n v).2 ∧ Kp (Mv N F) w w' := by
  cases hv : inW n v with
  | false =>
    unfold doneC
    rw [hv]
    simp only [Bool.false_eq_true, if_false]
    have he := WErr.out h (inW_no hv)
    refine Calls.mono (done_err (by decide) ⟨_, rfl⟩ he.holder) ?_
    rintro x w' ⟨rfl, rfl⟩
    exact ⟨rfl, h, Kp.refl _ _⟩
  | true =>
    obtain ⟨u, rfl, hu⟩ := inW_yes hv
    unfold doneC
    rw [hv]
    simp only [if_pos, Int.toNat_natCast]
    cases hj : s.hd u with
    | none =>
      refine Calls.mono (done_err (by decide) ⟨_, rfl⟩ (holder_none h hu hj)) ?_
      rintro x w' ⟨rfl, rfl⟩
      exact ⟨rfl, h, Kp.refl _ _⟩
    | some j =>
      refine Calls.mono (done_some h hu hj) ?_
      rintro x w' ⟨rfl, q1, q2⟩
      exact ⟨rfl, q1, q2.mono h.mvp⟩
theorem rdone_all (v : Int) (h : RV S w r b1 b2 b3 n s rs hs fs) :
    Calls Try.prog 28 #[.pointer (some ⟨r, 0, none⟩), .int .i64 v] w fun x w' => x = .returned (.int .i64 (doneC s n v).1) ∧ (∃ rs hs fs, RV S w' r b1 b2 b3 n (doneC s n v).2 rs hs fs) ∧ Kp (fun k => k = b1 ∨ k = b2 ∨ k = b3) w w' := by
  cases hv : inW n v with
  | false =>
    unfold doneC
    rw [hv]
    simp only [Bool.false_eq_true, if_false]
    refine Calls.mono (rdone_out h (inW_no hv)) ?_
    rintro x w' ⟨rfl, rfl⟩
    exact ⟨rfl, ⟨_, _, _, h⟩, Kp.refl _ _⟩
  | true =>
    obtain ⟨u, rfl, hu⟩ := inW_yes hv
    unfold doneC
    rw [hv]
    simp only [if_pos, Int.toNat_natCast]
    cases hj : s.hd u with
    | none =>
      refine Calls.mono (rdone_none h hu hj) ?_
      rintro x w' ⟨rfl, rfl⟩
      exact ⟨rfl, ⟨_, _, _, h⟩, Kp.refl _ _⟩
    | some j =>
      refine Calls.mono (rdone_some h hu hj) ?_
      rintro x w' ⟨rfl, ⟨hs', fs', q1⟩, q2⟩
      exact ⟨rfl, ⟨_, _, _, q1⟩, q2.mono (fun k hk => .inr hk)⟩

theorem push_all (v : Int) {e : Jb} {sv : Value} (h : LP N F w p n s) (hi : PInv s) (hs : RI w sv e.s) (hes : e.s.length ≤ 1000000) :
    Calls Try.prog 19 #[.pointer (some ⟨p, 0, none⟩), .int .i64 v, JV e sv] w fun x w' => x = .returned (.int .i64 (pushC s n v e).1) ∧ LP N F w' p n (pushC s n v e).2 ∧ Kp (Mv N F) w w' := by
  have hsv : ∃ a n c, sv = .slice a n c := by obtain ⟨a, c, q, _⟩ := hs; exact ⟨_, _, _, q⟩
  cases hv : inW n v with
  | false =>
    unfold pushC
    rw [hv]
    simp only [Bool.false_eq_true, if_false]
    refine Calls.mono (push_err hsv (WErr.out h (inW_no hv))) ?_
    rintro x w' ⟨rfl, hb⟩
    exact ⟨rfl, h.later hb, Kp.of_below _ hb⟩
  | true =>
    obtain ⟨u, rfl, hu⟩ := inW_yes hv
    unfold pushC
    rw [hv]
    simp only [if_pos, Int.toNat_natCast]
    exact push_in h hi hu hs hes
theorem rpush_all (v : Int) {e : Jb} {sv : Value} (h : RV S w r b1 b2 b3 n s rs hs fs) (hi : PInv s) (hs1 : RS S w sv e.s) :
    Calls Try.prog 30 #[.pointer (some ⟨r, 0, none⟩), .int .i64 v, JV e sv] w fun x w' => x = .returned (.int .i64 (pushC s n v e).1) ∧ (∃ rs hs fs, RV (fun k => S k ∨ w.heap.size ≤ k) w' r b1 b2 b3 n (pushC s n v e).2 rs hs fs) ∧ Kp (fun k => k = b1 ∨ k = b2 ∨ k = b3) w w' := by
  have hsv : ∃ a n c, sv = .slice a n c := by obtain ⟨⟨a, c, q, _⟩, _⟩ := hs1; exact ⟨_, _, _, q⟩
  cases hv : inW n v with
  | false =>
    unfold pushC
    rw [hv]
    simp only [Bool.false_eq_true, if_false]
    refine Calls.mono (rpush_out h hsv (inW_no hv)) ?_
    rintro x w' ⟨rfl, hb⟩
    exact ⟨rfl, ⟨_, _, _, (h.mono (fun k _ hk => .inl hk) (fun k hk => hk)).later hb⟩, Kp.of_below _ hb⟩
  | true =>
    obtain ⟨u, rfl, hu⟩ := inW_yes hv
    unfold pushC
    rw [hv]
    simp only [if_pos, Int.toNat_natCast]
    refine Calls.mono (rpush_in h hs1 hu (Nat.le_trans (hi.row u).1 (by omega))) ?_
    rintro x w' ⟨rfl, ⟨rs', q1⟩, q2⟩
    exact ⟨rfl, ⟨_, _, _, q1⟩, q2.mono (fun k hk => .inl hk)⟩

/-- Not too much after any call. -/
theorem getD_set_or {α : Type} (l : List α) (v u : Nat) (x d : α) : (l.set v x).getD u d = x ∨ (l.set v x).getD u d = l.getD u d := by
  by_cases hv : v < l.length
  · rw [Pq.getD_set _ _ _ _ _ hv]
    split
    · exact .inl rfl
    · exact .inr rfl
  · rw [List.set_eq_of_length_le (by omega)]
    exact .inr rfl
theorem PInv.setrow (h : PInv s) (v : Nat) {L : List Jb} (hL : L.length ≤ 128 ∧ ∀ x ∈ L, x.s.length ≤ 1000) : PInv ⟨s.rows.set v L, s.hold⟩ := by
  refine ⟨fun u => ?_, h.hd⟩
  unfold Pq.St.row
  rcases getD_set_or s.rows v u L [] with e | e
  · rw [e]; exact hL
  · rw [e]; exact h.row u
theorem PInv.sethold (h : PInv s) (v : Nat) {o : Option Jb} (ho : ∀ j, o = some j → j.s.length ≤ 1000) : PInv ⟨s.rows, s.hold.set v o⟩ := by
  refine ⟨h.row, fun u j hj => ?_⟩
  unfold Pq.St.hd at hj
  rcases getD_set_or s.hold v u o none with e | e
  · simp only at hj; rw [e] at hj; exact ho j hj
  · simp only at hj; rw [e] at hj; exact h.hd u j hj
theorem PInv.take (h : PInv s) (n v f : Nat) : PInv (Pq.takeS s n v f).1 := by
  unfold Pq.takeS
  split
  · exact h
  · split
    · rename_i j hj
      have hm := List.mem_of_getLast? hj
      refine PInv.sethold (PInv.setrow h v ⟨by rw [List.length_dropLast]; have := (h.row v).1; omega, fun x hx => (h.row v).2 x ((List.dropLast_sublist _).subset hx)⟩) v (fun j' e => ?_)
      cases e
      exact (h.row v).2 j hm
    · split
      · rename_i u hu
        split
        · rename_i j r hr
          refine PInv.sethold (PInv.setrow h u ⟨?_, fun x hx => ?_⟩) v (fun j' e => ?_)
          · have := (h.row u).1; rw [hr] at this; simp at this; omega
          · exact (h.row u).2 x (by rw [hr]; exact List.mem_cons_of_mem _ hx)
          · cases e
            exact (h.row u).2 j (by rw [hr]; simp)
        · exact h
      · split
        · rename_i u hu
          split
          · rename_i j hj
            have h1 := PInv.sethold h v (o := some j) (fun j' e => by cases e; exact h.hd u j hj)
            exact PInv.sethold h1 u (o := none) (fun j' e => by cases e)
          · exact h
        · exact h
theorem PInv.takeC (h : PInv s) (n : Nat) (v pick : Int) : PInv (Go.Proofs.Ytfhmmiilenonkaa.takeC s n v pick).1 := by
  unfold Go.Proofs.Ytfhmmiilenonkaa.takeC
  split
  · exact h.take _ _ _
  · exact h
theorem PInv.doneC (h : PInv s) (n : Nat) (v : Int) : PInv (Go.Proofs.Ytfhmmiilenonkaa.doneC s n v).2 := by
  unfold Go.Proofs.Ytfhmmiilenonkaa.doneC
  split
  · split
    · exact PInv.sethold h _ (o := none) (fun j' e => by cases e)
    · exact h
  · exact h
theorem PInv.putC (h : PInv s) (n : Nat) (v : Int) {e : Jb} (he : e.s.length ≤ 1000) : PInv (Go.Proofs.Ytfhmmiilenonkaa.putC s n v e).2 := by
  unfold Go.Proofs.Ytfhmmiilenonkaa.putC
  split
  · split
    · exact PInv.sethold h _ (o := some e) (fun j' q => by cases q; exact he)
    · exact h
  · exact h
theorem PInv.pushC (h : PInv s) (n : Nat) (v : Int) {e : Jb} (he : e.s.length ≤ 1000) : PInv (Go.Proofs.Ytfhmmiilenonkaa.pushC s n v e).2 := by
  unfold Go.Proofs.Ytfhmmiilenonkaa.pushC
  split
  · refine PInv.setrow h _ ?_
    have h1 := h.row v.toNat
    unfold pushP
    split
    · exact h1
    · rename_i h9
      refine ⟨by simp only [List.length_append, List.length_cons, List.length_nil]; omega, fun x hx => ?_⟩
      rcases List.mem_append.1 hx with hx | hx
      · exact h1.2 x hx
      · simp at hx; rw [hx]; exact he
  · exact h
theorem PInv.dropS (h : PInv s) (key : Ky) : PInv (Go.Proofs.Ytfhmmiilenonkaa.dropS key s) := by
  refine ⟨fun u => ?_, h.hd⟩
  have h1 := h.row u
  have e : (Go.Proofs.Ytfhmmiilenonkaa.dropS key s).row u = dropP key (s.row u) := by
    unfold Pq.St.row Go.Proofs.Ytfhmmiilenonkaa.dropS
    rw [List.getD_eq_getElem?_getD, List.getD_eq_getElem?_getD, List.getElem?_map]
    cases s.rows[u]? <;> rfl
  rw [e]
  exact ⟨Nat.le_trans (dropP_le key _) h1.1, fun x hx => h1.2 x (List.mem_filter.1 hx).1⟩

/-- Both pools, between two calls. -/
structure PB (N : Nat) (w : World) (p r n : Nat) (s : Pq.St Jb) : Prop where
  ex : ∃ F b1 b2 b3 rs hs fs, LP N F w p n s ∧ RV (fun k => (k < N ∨ F k) ∧ k ≠ r ∧ k ≠ b1 ∧ k ≠ b2 ∧ k ≠ b3) w r b1 b2 b3 n s rs hs fs ∧ F r ∧ F b1 ∧ F b2 ∧ F b3 ∧ N ≤ b1 ∧ N ≤ b2 ∧ N ≤ b3 ∧ N ≤ r
  inv : PInv s

/-- Both were asked. -/
theorem PB.close {w1 w2 : World} {s' : Pq.St Jb} (hl : LP N F w1 p n s') (hr : ∃ rs hs fs, RV (fun k => ((k < N ∨ F k) ∧ k ≠ r ∧ k ≠ b1 ∧ k ≠ b2 ∧ k ≠ b3) ∨ w1.heap.size ≤ k) w2 r b1 b2 b3 n s' rs hs fs) (hk : Kp (fun k => k = b1 ∨ k = b2 ∨ k = b3) w1 w2) (f0 : F r) (f1 : F b1) (f2 : F b2) (f3 : F b3) (n1 : N ≤ b1) (n2 : N ≤ b2) (n3 : N ≤ b3) (n0 : N ≤ r) (hi : PInv s') : PB N w2 p r n s' := by
  obtain ⟨rs, hs, fs, hr⟩ := hr
  have l0 := hl.fl r f0
  have l1 := hl.fl b1 f1
  have l2 := hl.fl b2 f2
  have l3 := hl.fl b3 f3
  have hN := hl.le
  refine ⟨⟨fun k => F k ∨ (w1.heap.size ≤ k ∧ k < w2.heap.size), b1, b2, b3, rs, hs, fs, hl.kept hk (fun k e _ => by rcases e with e | e | e <;> rw [e] <;> assumption) (fun k hk => hk.imp id (fun h => h.1)) (fun k hk2 => hk2.elim (fun h => Nat.lt_of_lt_of_le (hl.fl k h) hk.size) (fun h => h.2)), hr.mono (fun k hlk hk2 => ?_) (fun k hk2 => ?_), .inl f0, .inl f1, .inl f2, .inl f3, n1, n2, n3, n0⟩, hi⟩
  · rcases hk2 with hk2 | hk2
    · exact ⟨hk2.1.imp id .inl, hk2.2⟩
    · exact ⟨.inr (.inr ⟨hk2, hlk⟩), by omega, by omega, by omega, by omega⟩
  · rcases hk2.1 with h | h | h
    · exact .inl (.inl ⟨.inl h, hk2.2⟩)
    · exact .inl (.inl ⟨.inr h, hk2.2⟩)
    · exact .inl (.inr h.1)
end Go.Proofs.Ytfhmmiilenonkaa
