/- Take. -/
import Derived.Test.YtfhmmiilenonkaaQi
namespace Go.Proofs.Ytfhmmiilenonkaa
open Go.RowKit Go.Shelf
set_option maxRecDepth 1000000
set_option linter.unusedVariables false

variable {N : Nat} {F : Nat → Prop} {w w' : World} {p n : Nat} {s : Pq.St Jb}

theorem tkF_few (hi : PInv s) {g : Bool} {v : Nat} {r : Jb × Pq.St Jb} (h : tkF g s v = some r) : r.1.s.length ≤ 1000 := by
  unfold tkF at h
  cases g with
  | true =>
    simp only at h
    cases hj : s.hd v with
    | none => rw [hj] at h; cases h
    | some j => rw [hj] at h; cases h; exact hi.hd v j hj
  | false =>
    simp only at h
    cases hj : s.row v with
    | nil => rw [hj] at h; cases h
    | cons j t => rw [hj] at h; cases h; exact (hi.row v).2 j (by rw [hj]; simp)
theorem firstP_few (hi : PInv s) {g : Bool} {l : List Nat} {r : Jb × Nat × Pq.St Jb} (h : firstP g s l = some r) : r.1.s.length ≤ 1000 := by
  unfold firstP at h
  split at h
  · rename_i v hv
    cases ht : tkF g s v with
    | none => rw [ht] at h; cases h
    | some x => rw [ht] at h; cases h; exact tkF_few hi ht
  · cases h
theorem nextP_few (hi : PInv s) {v : Nat} {l : List Nat} {r : Jb × Nat × Pq.St Jb} (h : nextP s v l = some r) : r.1.s.length ≤ 1000 := by
  unfold nextP at h
  split at h
  · rename_i j hj; cases h; exact hi.hd v j hj
  · split at h
    · rename_i j hj; cases h; exact (hi.row v).2 j (List.mem_of_getLast? hj)
    · split at h
      · rename_i r' hr; cases h; exact firstP_few hi hr
      · exact firstP_few hi h

/-- What Take leads to. -/
def takeQ (s : Pq.St Jb) (v : Nat) (l : List Nat) : Option (Jb × Nat × Pq.St Jb) := (nextP s v l).map fun r => (r.1, r.2.1, ⟨r.2.2.rows, r.2.2.hold.set v (some r.1)⟩)

theorem take_of (h : s.Ok n) {v : Nat} (hv : v < n) (f : Nat) : Pq.takeS s n v f = match takeQ s v (Pq.circ n f) with | some (j, u, s') => (s', some (j, u)) | none => (s, none) := by
  have f1 : ∀ g, (Pq.circ n f).find? (fun v => (tkF g s v).isSome) = (Pq.circ n f).find? (fun v => if g then (s.hd v).isSome else !(s.row v).isEmpty) := fun g => by
    congr 1
    funext u
    unfold tkF
    cases g with
    | true => cases s.hd u <;> rfl
    | false => cases s.row u <;> rfl
  unfold Pq.takeS takeQ nextP firstP
  rw [f1 true, f1 false]
  simp only [if_pos, Bool.false_eq_true, if_false]
  cases hj : s.hd v with
  | some j =>
    simp only [Option.map_some]
    rw [List.set_set]
    have e : s.hold.set v (some j) = s.hold := by
      rw [← hj]
      refine List.ext_getElem? fun i => ?_
      by_cases e : i = v
      · subst e
        rw [List.getElem?_set_self (by rw [h.h]; exact hv)]
        unfold Pq.St.hd
        rw [List.getD_eq_getElem?_getD, List.getElem?_eq_getElem (by rw [h.h]; exact hv)]
        rfl
      · rw [List.getElem?_set_ne (fun h => e h.symm)]
    rw [e]
  | none =>
    cases hl : (s.row v).getLast? with
    | some j => simp only [Option.map_some]
    | none =>
      cases hf : (Pq.circ n f).find? (fun v => !(s.row v).isEmpty) with
      | some u =>
        have hu := List.find?_some hf
        simp only [tkF]
        cases hr : s.row u with
        | nil => rw [hr] at hu; cases hu
        | cons j r => simp only [Option.map_some]
      | none =>
        simp only
        cases hg : (Pq.circ n f).find? (fun v => (s.hd v).isSome) with
        | none => rfl
        | some u =>
          have hu := List.find?_some hg
          simp only [tkF]
          cases hr : s.hd u with
          | none => rw [hr] at hu; cases hu
          | some j =>
            simp only [Option.map_some]
            have hne : u ≠ v := fun e => by rw [e, hj] at hr; cases hr
            rw [List.set_comm _ _ hne]

/-- What Take tells. -/
def TakeC2 (N : Nat) (F : Nat → Prop) (w : World) (p n : Nat) (r : Pq.St Jb × Option (Jb × Nat)) (e : Ending) (w' : World) : Prop :=
  Kp (Mv N F) w w' ∧ LP N F w' p n r.1 ∧ match r.2 with
  | some (j, u) => ∃ sv, e = .returned (.tuple #[JV j sv, .int .i64 u, .int .i64 0]) ∧ RS (fun k => k ≠ p ∧ ¬ F k) w' sv j.s
  | none => e = .returned (.tuple #[JV zJ (.slice none 0 0), .int .i64 0, .int .i64 6])

set_option maxHeartbeats 8000000 in
theorem take_w {v : Nat} (pick : Int) (h : LP N F w p n s) (hi : PInv s) (hv : v < n) (hpk : -9223372036854775808 ≤ pick ∧ pick ≤ 9223372036854775807) :
    Calls Try.prog 15 #[.pointer (some ⟨p, 0, none⟩), .int .i64 (v : Int), .int .i64 pick] w fun e w' => TakeC2 N F w p n (Pq.takeS s n v (frm pick n)) e w' ∧ ((s.hd v).isSome = true → Kp (fun k => k = p) w w') := by
  have HTS : Hid _ := take_of h.ok hv (frm pick n)
  have hb1 := bl1 w (.cells #[.int .i64 0, .bool false, .int .i64 0, .bool false, .int .i64 0, .slice none 0 0] 37)
  have hL1 : LP N (G1 F w) (w.alloc (.cells #[.int .i64 0, .bool false, .int .i64 0, .bool false, .int .i64 0, .slice none 0 0] 37)) p n s := by
    have := h.guard hb1
    rw [World.size_alloc] at this
    exact this
  have R1 : Hid _ := row_new w #[.int .i64 0, .bool false, .int .i64 0, .bool false, .int .i64 0, .slice none 0 0] 37
  have HB1 : Hid _ := hb1
  have HI : Hid _ := hi
  have HN : Hid _ := h.le
  have HF : Hid (∀ k, F k → k < w.heap.size) := h.fl
  have hp := h.lt
  have hnw : p ≠ w.heap.size := by omega
  have MvF : ∀ {a b : World}, Kp (Mv N (G1 F w)) a b → Kp (Mv N F) a b := fun hk => hk.mono (fun k hk => ⟨hk.1, fun hf => hk.2 (.inl hf)⟩)
  have nM : ¬ Mv N (G1 F w) w.heap.size := fun hh => hh.2 (.inr (by omega))
  have hNp : N ≤ p ∧ ¬ F p := by obtain ⟨⟨D, cs, h1, h2, h5⟩, h3, h4⟩ := h; exact ⟨h2, h1.nf⟩
  have MvP : Hid (∀ k, k = p → Mv N F k) := fun k hk => by rw [hk]; exact hNp
  have HW : Hid _ := worker_in hL1 hv
  have HX : Hid _ := next_w pick hL1 hi hv hpk
  clear h hi hb1 hL1
  go_enter Try.func15, Try.ntmps15
  go_wp2_with fail
  refine Calls.mono HW.out ?_
  rintro e w1 ⟨rfl, hw1⟩
  rw [hw1]
  clear hw1 HW
  go_wp2_with fail
  refine Calls.mono HX.out ?_
  rintro e w2 ⟨⟨k2, ho⟩, kp2⟩
  have HK2 : Hid (Kp (Mv N (G1 F w)) w w2) := (Kp.of_below _ HB1.out).trans k2 (fun _ h _ => h)
  have HP2 : Hid ((s.hd v).isSome = true → Kp (fun k => k = p) w w2) := fun hh => (Kp.of_below _ HB1.out).trans (kp2 hh) (fun _ h _ => h)
  have R2 : Hid _ := k2.row R1.out nM
  cases hx : nextP s v (Pq.circ n (frm pick n)) with
  | none =>
    rw [hx] at ho
    obtain ⟨rfl, q2⟩ := ho
    have HT2 : Hid (Pq.takeS s n v (frm pick n) = (s, none)) := by
      show _ = _
      rw [HTS.out]
      unfold takeQ
      rw [hx]
      rfl
    obtain ⟨d0, d1, d2, d3, d4, d5⟩ := JC.of_row (e := zJ) (v := .slice none 0 0) R2.out
    have f2 := froz_row R2.out
    have hlt := row_lt R2.out
    have Q2 : Hid _ := q2
    simp only [Nat.zero_add] at d0 d1 d2 d3 d4 d5
    clear q2 k2 kp2 HX hx HTS
    unfold JV zJ at *
    dsimp only at *
    go_wp2_with fail
    obtain ⟨m1, m2, m3, m4⟩ := nx_end (j := zJ) (sv := .slice none 0 0) Q2.out HF.out HN.out R2.out rfl HK2.out hp (RS.nil _ _)
    have hb5 := bl1 (set6 w2 w.heap.size 0 (zJ, .slice none 0 0)) (.cells #[.int .i64 0, .bool false, .int .i64 0, .bool false, .int .i64 0, .slice none 0 0] 37)
    refine bodyPost_ret (results_j4 rfl _ _ (e := zJ) (v := .slice none 0 0) rfl (row_later m1 hb5)) rfl ?_
    rw [HT2.out]
    exact ⟨⟨MvF (m4.later hb5), m3.later hb5, rfl⟩, fun hh => ((HP2.out hh).trans (set6_kept (fun k => k = w.heap.size) _ _ _ _ rfl) (fun k e hlt => by omega)).later hb5⟩
  | some r =>
    obtain ⟨j, u, s'⟩ := r
    rw [hx] at ho
    obtain ⟨sv, rfl, q1, q2⟩ := ho
    have HT2 : Hid (Pq.takeS s n v (frm pick n) = (⟨s'.rows, s'.hold.set v (some j)⟩, some (j, u))) := by
      show _ = _
      rw [HTS.out]
      unfold takeQ
      rw [hx]
      rfl
    have hjl : j.s.length ≤ 1000 := nextP_few HI.out hx
    have HBx : Hid _ := bl1 w2 (.cells (jrow (j, sv)).toArray 37)
    have HC : Hid _ := hold_w (j := j) (sv := sv) (q2.later HBx.out) hv (q1.1.later HBx.out) (by omega)
    have R2' : Hid _ := row_later R2.out HBx.out
    have RJ2 : Hid _ := row_new w2 (jrow (j, sv)).toArray 37
    have Q1 : Hid (RS (fun k => k ≠ p ∧ ¬ G1 F w k) w2 sv j.s) := q1
    have hp2 : p < w2.heap.size := q2.lt
    obtain ⟨sa, sc, hsv, _⟩ := q1.1
    subst hsv
    clear q1 q2 k2 kp2 HX hx HTS R2
    obtain ⟨ji, ju, jt, jb, jk, js⟩ := j
    dsimp only at *
    obtain ⟨ml, hml⟩ : ∃ m, js.length = m := ⟨_, rfl⟩
    have HML : Hid _ := hml
    have RJ3 : Hid ((w2.alloc (.cells #[.int .i64 ji, .bool ju, .int .i64 jt, .bool jb, .int .i64 jk, .slice sa ml sc] 37)).heap[w2.heap.size]? = _) := row_new w2 #[.int .i64 ji, .bool ju, .int .i64 jt, .bool jb, .int .i64 jk, .slice sa ml sc] 37
    unfold JV at *
    dsimp only at *
    rw [hml] at HC R2' HBx ⊢
    clear RJ2
    go_wp2_with fail
    refine Calls.mono HC.out ?_
    rintro e w4 ⟨rfl, q4, k4⟩
    have hn2 : w2.heap.size ≠ p := by omega
    have r4 := k4.row RJ3.out hn2
    have b4 := k4.row R2'.out (fun e => hnw e.symm)
    obtain ⟨e0, e1, e2, e3, e4, e5⟩ := JC.of_row (e := ⟨ji, ju, jt, jb, jk, js⟩) (v := .slice sa ml sc) r4
    obtain ⟨d0, d1, d2, d3, d4, d5⟩ := JC.of_row (e := zJ) (v := .slice none 0 0) b4
    have f4 := froz_row b4
    have hlt := row_lt b4
    simp only [Nat.zero_add] at d0 d1 d2 d3 d4 d5 e0 e1 e2 e3 e4 e5
    have Q4 : Hid _ := q4
    have K4 : Hid _ := k4
    have B4 : Hid _ := b4
    unfold zJ at d0 d1 d2 d3 d4
    dsimp only at d0 d1 d2 d3 d4
    clear q4 k4 b4 r4 HC R2' RJ3
    go_wp2_with fail
    obtain rfl := HML.out
    have hkk : Kp (fun k => k = p) w2 w4 := (Kp.of_below _ HBx.out).trans K4.out (fun _ h _ => h)
    have hk0 : Kp (Mv N (G1 F w)) w w4 := HK2.out.trans hkk (fun k e _ => ⟨by rw [e]; exact hNp.1, fun hg => by
      rcases hg with hg | hg
      · exact hNp.2 (e ▸ hg)
      · omega⟩)
    have hrs : RS (fun k => k ≠ p ∧ ¬ G1 F w k) w4 (.slice sa js.length sc) js := RS.kept (S := fun k => k ≠ p ∧ ¬ G1 F w k) Q1.out hkk (fun k hk e => hk.1 e)
    obtain ⟨m1, m2, m3, m4⟩ := nx_end (j := ⟨ji, ju, jt, jb, jk, js⟩) Q4.out HF.out HN.out B4.out rfl hk0 hp hrs
    refine bodyPost_ret (results_j4 rfl _ _ (e := ⟨ji, ju, jt, jb, jk, js⟩) (v := .slice sa js.length sc) rfl m1) rfl ?_
    rw [HT2.out]
    have k9 : Kp (fun k => k = w.heap.size) w4 (set6 w4 w.heap.size 0 (⟨ji, ju, jt, jb, jk, js⟩, .slice sa js.length sc)) := set6_kept _ _ _ _ _ rfl
    have hlast : (s.hd v).isSome = true → Kp (fun k => k = p) w (set6 w4 w.heap.size 0 (⟨ji, ju, jt, jb, jk, js⟩, .slice sa js.length sc)) := fun hh => ((HP2.out hh).trans hkk (fun _ h _ => h)).trans k9 (fun k e hlt => by omega)
    exact ⟨⟨MvF m4, m3, _, rfl, m2⟩, hlast⟩
end Go.Proofs.Ytfhmmiilenonkaa
