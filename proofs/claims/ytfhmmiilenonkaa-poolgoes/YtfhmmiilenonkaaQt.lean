/- The document's Take. -/
import Derived.Test.YtfhmmiilenonkaaQn
namespace Go.Proofs.Ytfhmmiilenonkaa
open Go.RowKit Go.Shelf
set_option maxRecDepth 1000000
set_option linter.unusedVariables false

variable {S : Nat → Prop} {w w' : World} {r b1 b2 b3 n : Nat} {s : Pq.St Jb} {rs hs fs : Array Value}

/-- What the document's Take tells. -/
def RTkC (S : Nat → Prop) (w : World) (r b1 b2 b3 n : Nat) (x : Pq.St Jb × Option (Jb × Nat)) (e : Ending) (w' : World) : Prop :=
  Kp (fun k => k = b1 ∨ k = b2 ∨ k = b3) w w' ∧ (∃ rs hs fs, RV S w' r b1 b2 b3 n x.1 rs hs fs) ∧ match x.2 with
  | some (j, u) => ∃ sv, e = .returned (.tuple #[JV j sv, .int .i64 u, .int .i64 0]) ∧ RS S w' sv j.s
  | none => e = .returned (.tuple #[JV zJ (.slice none 0 0), .int .i64 0, .int .i64 6])

set_option maxHeartbeats 4000000 in
theorem rtake_out {v : Int} (pick : Int) (h : RV S w r b1 b2 b3 n s rs hs fs) (hv : v < 0 ∨ (n : Int) ≤ v) :
    Calls Try.prog 26 #[.pointer (some ⟨r, 0, none⟩), .int .i64 v, .int .i64 pick] w fun x w' => x = .returned (.tuple #[JV zJ (.slice none 0 0), .int .i64 0, .int .i64 2]) ∧ Below w.heap.size w w' := by
  have HB1 : Hid _ := bl1 w (.cells #[.int .i64 0, .bool false, .int .i64 0, .bool false, .int .i64 0, .slice none 0 0] 37)
  have HC : Hid _ := is_out (h.later HB1.out) hv
  have c1 := h.c1
  have hr := row_lt h.blk
  clear h
  go_enter Try.func26, Try.ntmps26
  go_wp2_with fail
  refine Calls.mono HC.out ?_
  rintro e w1 ⟨rfl, hw⟩
  rw [hw]
  clear HC hw
  go_wp2_with fail
  refine bodyPost_ret (results_j4 rfl _ _ (e := zJ) (v := .slice none 0 0) rfl (row_new w #[.int .i64 0, .bool false, .int .i64 0, .bool false, .int .i64 0, .slice none 0 0] 37)) rfl ?_
  exact ⟨rfl, HB1.out⟩

set_option maxHeartbeats 8000000 in
theorem rtake_held {v : Nat} {j : Jb} (pick : Int) (h : RV S w r b1 b2 b3 n s rs hs fs) (hv : v < n) (hj : s.hd v = some j) :
    Calls Try.prog 26 #[.pointer (some ⟨r, 0, none⟩), .int .i64 (v : Int), .int .i64 pick] w fun x w' => RTkC S w r b1 b2 b3 n (Pq.takeS s n v (frm pick n)) x w' := by
  rw [Pq.take_again _ hj]
  have HB1 : Hid _ := bl1 w (.cells #[.int .i64 0, .bool false, .int .i64 0, .bool false, .int .i64 0, .slice none 0 0] 37)
  have HC : Hid _ := is_at (h.later HB1.out) hv
  have HH : Hid _ := h
  have c1 := h.c1
  have c2 := h.c2
  have c3 := h.c3
  have y := h.has_at hv
  obtain ⟨⟨e, sv⟩, ⟨z0, z1, z2, z3, z4, z5⟩, hS, he⟩ := h.hold_at hv
  rw [hj] at y he
  simp only [Option.getD_some] at he
  subst he
  simp only [Option.isSome_some] at y
  have hvn : (v : Int) < (n : Int) := by omega
  have hr := row_lt h.blk
  have hb3 := row_lt h.q3
  have hb2 := row_lt h.q2
  obtain ⟨sa, sc, hsv, _⟩ := hS.1
  dsimp only at hsv
  subst hsv
  have HS : Hid (RS S w (.slice sa e.s.length sc) e.s) := hS
  obtain ⟨ei, eu, et, eb, ek, es⟩ := e
  dsimp only at *
  clear h hj hS
  go_enter Try.func26, Try.ntmps26
  go_wp2_with fail
  refine Calls.mono HC.out ?_
  rintro e w1 ⟨rfl, hw⟩
  rw [hw]
  clear HC hw
  go_wp2_with fail
  have hb := bl1 w (.cells #[.int .i64 ei, .bool eu, .int .i64 et, .bool eb, .int .i64 ek, .slice sa es.length sc] 37)
  refine bodyPost_ret (results_j4 rfl _ _ (e := ⟨ei, eu, et, eb, ek, es⟩) (v := .slice sa es.length sc) rfl (row_new w #[.int .i64 ei, .bool eu, .int .i64 et, .bool eb, .int .i64 ek, .slice sa es.length sc] 37)) rfl ?_
  exact ⟨Kp.of_below _ hb, ⟨_, _, _, HH.out.later hb⟩, _, rfl, RS.later HS.out hb⟩
end Go.Proofs.Ytfhmmiilenonkaa
