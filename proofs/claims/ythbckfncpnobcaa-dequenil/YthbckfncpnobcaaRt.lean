/- The walk over DequeNil. -/
import Derived.Test.YthbckfncpnobcaaRs
namespace Go.Proofs.Ythbckfncpnobcaa
open Go.RowKit
set_option maxRecDepth 1000000
set_option linter.unusedVariables false

theorem HSame (w : World) : Calls Try.prog 18 #[.agg #[.int .i64 0, .bool false, .int .i64 0, .bool false, .int .i64 0, .slice none 0 0], .agg #[.int .i64 0, .bool false, .int .i64 0, .bool false, .int .i64 0, .slice none 0 0]] w fun e w' => e = .returned (.bool true) ∧ Below w.heap.size w w' := by
  have := same_job zJ zJ (.slice none 0 0) (.slice none 0 0) w (RI.nil w) (RI.nil w) (by simp [zJ]) (by simp [zJ])
  rw [decide_eq_true rfl] at this
  exact this

set_option maxHeartbeats 8000000 in
theorem nil_walk (j : Jb) (sv : Value) (q : Bool) (w : World) (hj : RI w sv j.s) : Calls Try.prog 6 #[JV j sv, .bool q] w fun e w' => e = .returned (.bool true) ∧ Below w.heap.size w w' := by
  obtain ⟨sa, sc, hsv, _⟩ := hj
  obtain ⟨ji, ju, jt, jb, jk, js⟩ := j
  dsimp only at hsv
  subst hsv
  unfold JV
  dsimp only
  generalize js.length = sl at *
  have hJ := row_new w #[.int .i64 ji, .bool ju, .int .i64 jt, .bool jb, .int .i64 jk, .slice sa sl sc] 35
  have hbJ := bl1 w (.cells #[.int .i64 ji, .bool ju, .int .i64 jt, .bool jb, .int .i64 jk, .slice sa sl sc] 35)
  by_cases h100 : sl ≤ 100
  · have hd : ¬ (100 : Int) < (sl : Int) := by omega
    have hdd : decide ((100 : Int) < (sl : Int)) = false := decide_eq_false hd
    cases q with
    | false =>
      have hno : NoDq (w.alloc (.cells #[.int .i64 ji, .bool ju, .int .i64 jt, .bool jb, .int .i64 jk, .slice sa sl sc] 35)) (.pointer none) := .inl rfl
      have HPo : Hid _ := pop_no _ none hno
      have HB0 : Hid _ := hbJ
      have HNo0 : Hid (NoDq _ (.pointer none)) := hno
      have HJ0 : Hid _ := hJ
      unfold JV zJ at HPo
      dsimp only at HPo
      go_enter Try.func6, Try.ntmps6
      go_wp2_with fail
      refine Calls.mono HPo.out ?_
      rintro e w1 ⟨rfl, hb1⟩
      have HB1 : Hid (Below w.heap.size w w1) := HB0.out.trans (hb1.mono HB0.out.size)
      have ha1 := bl1 w1 (.cells #[.int .i64 0, .bool false, .int .i64 0, .bool false, .int .i64 0, .slice none 0 0] 35)
      have HNo1 : Hid (NoDq (w1.alloc (.cells #[.int .i64 0, .bool false, .int .i64 0, .bool false, .int .i64 0, .slice none 0 0] 35)) (.pointer none)) := (HNo0.out.later hb1).later ha1
      have HJ1 : Hid _ := row_later (row_later HJ0.out hb1) ha1
      have HR1 : Hid ((w1.alloc (.cells #[.int .i64 0, .bool false, .int .i64 0, .bool false, .int .i64 0, .slice none 0 0] 35)).heap[w1.heap.size]? = _) := row_new w1 #[.int .i64 0, .bool false, .int .i64 0, .bool false, .int .i64 0, .slice none 0 0] 35
      have HB1' : Hid (Below w.heap.size w (w1.alloc (.cells #[.int .i64 0, .bool false, .int .i64 0, .bool false, .int .i64 0, .slice none 0 0] 35))) := HB1.out.trans (ha1.mono HB1.out.size)
      have HSt : Hid _ := steal_no _ none HNo1.out
      unfold JV zJ at HSt
      dsimp only at HSt
      clear hb1 ha1 HPo HNo0 HJ0 HB1
      go_wp2_with fail
      refine Calls.mono HSt.out ?_
      rintro e w2 ⟨rfl, hb2⟩
      have HB2 : Hid (Below w.heap.size w w2) := HB1'.out.trans (hb2.mono HB1'.out.size)
      have ha2 := bl1 w2 (.cells #[.int .i64 0, .bool false, .int .i64 0, .bool false, .int .i64 0, .slice none 0 0] 35)
      have HNo2 : Hid (NoDq (w2.alloc (.cells #[.int .i64 0, .bool false, .int .i64 0, .bool false, .int .i64 0, .slice none 0 0] 35)) (.pointer none)) := (HNo1.out.later hb2).later ha2
      have HJ2 : Hid _ := row_later (row_later HJ1.out hb2) ha2
      have HR2 : Hid _ := row_later (row_later HR1.out hb2) ha2
      have HQ2 : Hid ((w2.alloc (.cells #[.int .i64 0, .bool false, .int .i64 0, .bool false, .int .i64 0, .slice none 0 0] 35)).heap[w2.heap.size]? = _) := row_new w2 #[.int .i64 0, .bool false, .int .i64 0, .bool false, .int .i64 0, .slice none 0 0] 35
      have HB2' : Hid (Below w.heap.size w (w2.alloc (.cells #[.int .i64 0, .bool false, .int .i64 0, .bool false, .int .i64 0, .slice none 0 0] 35))) := HB2.out.trans (ha2.mono HB2.out.size)
      have HPu : Hid _ := push_no _ none ⟨ji, ju, jt, jb, jk, js⟩ (.slice sa sl sc) ⟨_, _, _, rfl⟩ HNo2.out
      unfold JV at HPu
      dsimp only at HPu
      obtain ⟨c0, c1, c2, c3, c4, c5⟩ := JC.of_row (e := ⟨ji, ju, jt, jb, jk, js⟩) (v := .slice sa sl sc) HJ2.out
      simp only [Nat.zero_add] at c0 c1 c2 c3 c4 c5
      clear hb2 ha2 HSt HNo1 HJ1 HR1 HB2
      go_wp2_with fail
      refine Calls.mono HPu.out ?_
      rintro e w3 ⟨rfl, hb3⟩
      have HB3 : Hid (Below w.heap.size w w3) := HB2'.out.trans (hb3.mono HB2'.out.size)
      have HNo3 : Hid (NoDq w3 (.pointer none)) := HNo2.out.later hb3
      have HJ3 : Hid _ := row_later HJ2.out hb3
      have HR3 : Hid _ := row_later HR2.out hb3
      have HQ3 : Hid _ := row_later HQ2.out hb3
      obtain ⟨a0, a1, a2, a3, a4, a5⟩ := JC.of_row (e := zJ) (v := .slice none 0 0) HR3.out
      simp only [Nat.zero_add, zJ] at a0 a1 a2 a3 a4 a5
      have HS3 : Hid _ := HSame w3
      clear hb3 HPu HNo2 HJ2 HR2 HQ2 HB2' c0 c1 c2 c3 c4 c5
      go_wp2_with fail
      refine Calls.mono HS3.out ?_
      rintro e w4 ⟨rfl, hb4⟩
      have HB4 : Hid (Below w.heap.size w w4) := HB3.out.trans (hb4.mono HB3.out.size)
      have HNo4 : Hid (NoDq w4 (.pointer none)) := HNo3.out.later hb4
      have HJ4 : Hid _ := row_later HJ3.out hb4
      have HQ4 : Hid _ := row_later HQ3.out hb4
      obtain ⟨d0, d1, d2, d3, d4, d5⟩ := JC.of_row (e := zJ) (v := .slice none 0 0) HQ4.out
      simp only [Nat.zero_add, zJ] at d0 d1 d2 d3 d4 d5
      have HS4 : Hid _ := HSame w4
      clear hb4 HS3 HNo3 HJ3 HR3 HQ3 HB3 a0 a1 a2 a3 a4 a5
      go_wp2_with fail
      refine Calls.mono HS4.out ?_
      rintro e w5 ⟨rfl, hb5⟩
      have HB5 : Hid (Below w.heap.size w w5) := HB4.out.trans (hb5.mono HB4.out.size)
      have HNo5 : Hid (NoDq w5 (.pointer none)) := HNo4.out.later hb5
      have HJ5 : Hid _ := row_later HJ4.out hb5
      obtain ⟨f0, f1, f2, _, _, _⟩ := JC.of_row (e := ⟨ji, ju, jt, jb, jk, js⟩) (v := .slice sa sl sc) HJ5.out
      simp only [Nat.zero_add] at f0 f1 f2
      have HDr : Hid _ := drop_no _ none ⟨ji, ju, jt⟩ HNo5.out
      unfold KV at HDr
      dsimp only at HDr
      clear hb5 HS4 HNo4 HJ4 HQ4 HB4 d0 d1 d2 d3 d4 d5
      go_wp2_with fail
      refine Calls.mono HDr.out ?_
      rintro e w6 ⟨rfl, hb6⟩
      have HB6 : Hid (Below w.heap.size w w6) := HB5.out.trans (hb6.mono HB5.out.size)
      have HNo6 : Hid (NoDq w6 (.pointer none)) := HNo5.out.later hb6
      have HLe : Hid _ := len_no _ none HNo6.out
      clear hb6 HDr HNo5 HJ5 HB5 f0 f1 f2
      go_wp2_with fail
      refine Calls.mono HLe.out ?_
      rintro e w7 ⟨rfl, hb7⟩
      have HB7 : Hid (Below w.heap.size w w7) := HB6.out.trans (hb7.mono HB6.out.size)
      have HNo7 : Hid (NoDq w7 (.pointer none)) := HNo6.out.later hb7
      have HLi : Hid _ := list_no _ none HNo7.out
      clear hb7 HLe HNo6 HB6
      go_wp2_with fail
      refine Calls.mono HLi.out ?_
      rintro e w8 ⟨rfl, hb8⟩
      have HB8 : Hid (Below w.heap.size w w8) := HB7.out.trans (hb8.mono HB7.out.size)
      have HLv : Hid _ := lives_any w8
      clear hb8 HLi HNo7 HB7
      go_wp2_with fail
      refine Calls.mono HLv.out ?_
      rintro e w9 ⟨rfl, hb9⟩
      have HB9 : Hid (Below w.heap.size w w9) := HB8.out.trans (hb9.mono HB8.out.size)
      clear hb9 HLv
      go_wp2_with fail
      go_ret
      exact ⟨rfl, HB9.out⟩
    | true =>
      have hD := row_new (w.alloc (.cells #[.int .i64 ji, .bool ju, .int .i64 jt, .bool jb, .int .i64 jk, .slice sa sl sc] 35)) #[.bool false, .slice none 0 0] 50
      have hbD := bl2 w (.cells #[.int .i64 ji, .bool ju, .int .i64 jt, .bool jb, .int .i64 jk, .slice sa sl sc] 35) (.cells #[.bool false, .slice none 0 0] 50)
      have hJ2 := row_later hJ (bl1 _ (.cells #[.bool false, .slice none 0 0] 50))
      have hws : (w.alloc (.cells #[.int .i64 ji, .bool ju, .int .i64 jt, .bool jb, .int .i64 jk, .slice sa sl sc] 35)).heap.size = w.heap.size + 1 := by simp
      rw [hws] at hD
      have hno : NoDq ((w.alloc (.cells #[.int .i64 ji, .bool ju, .int .i64 jt, .bool jb, .int .i64 jk, .slice sa sl sc] 35)).alloc (.cells #[.bool false, .slice none 0 0] 50)) (.pointer (some ⟨w.heap.size + 1, 0, none⟩)) := .inr ⟨_, _, rfl, hD⟩
      have HPo : Hid _ := pop_no _ (some ⟨w.heap.size + 1, 0, none⟩) hno
      have HB0 : Hid _ := hbD
      have HNo0 : Hid (NoDq _ (.pointer (some ⟨w.heap.size + 1, 0, none⟩))) := hno
      have HJ0 : Hid _ := hJ2
      unfold JV zJ at HPo
      dsimp only at HPo
      go_enter Try.func6, Try.ntmps6
      go_wp2_with fail
      refine Calls.mono HPo.out ?_
      rintro e w1 ⟨rfl, hb1⟩
      have HB1 : Hid (Below w.heap.size w w1) := HB0.out.trans (hb1.mono HB0.out.size)
      have ha1 := bl1 w1 (.cells #[.int .i64 0, .bool false, .int .i64 0, .bool false, .int .i64 0, .slice none 0 0] 35)
      have HNo1 : Hid (NoDq (w1.alloc (.cells #[.int .i64 0, .bool false, .int .i64 0, .bool false, .int .i64 0, .slice none 0 0] 35)) (.pointer (some ⟨w.heap.size + 1, 0, none⟩))) := (HNo0.out.later hb1).later ha1
      have HJ1 : Hid _ := row_later (row_later HJ0.out hb1) ha1
      have HR1 : Hid ((w1.alloc (.cells #[.int .i64 0, .bool false, .int .i64 0, .bool false, .int .i64 0, .slice none 0 0] 35)).heap[w1.heap.size]? = _) := row_new w1 #[.int .i64 0, .bool false, .int .i64 0, .bool false, .int .i64 0, .slice none 0 0] 35
      have HB1' : Hid (Below w.heap.size w (w1.alloc (.cells #[.int .i64 0, .bool false, .int .i64 0, .bool false, .int .i64 0, .slice none 0 0] 35))) := HB1.out.trans (ha1.mono HB1.out.size)
      have HSt : Hid _ := steal_no _ (some ⟨w.heap.size + 1, 0, none⟩) HNo1.out
      unfold JV zJ at HSt
      dsimp only at HSt
      clear hb1 ha1 HPo HNo0 HJ0 HB1
      go_wp2_with fail
      refine Calls.mono HSt.out ?_
      rintro e w2 ⟨rfl, hb2⟩
      have HB2 : Hid (Below w.heap.size w w2) := HB1'.out.trans (hb2.mono HB1'.out.size)
      have ha2 := bl1 w2 (.cells #[.int .i64 0, .bool false, .int .i64 0, .bool false, .int .i64 0, .slice none 0 0] 35)
      have HNo2 : Hid (NoDq (w2.alloc (.cells #[.int .i64 0, .bool false, .int .i64 0, .bool false, .int .i64 0, .slice none 0 0] 35)) (.pointer (some ⟨w.heap.size + 1, 0, none⟩))) := (HNo1.out.later hb2).later ha2
      have HJ2 : Hid _ := row_later (row_later HJ1.out hb2) ha2
      have HR2 : Hid _ := row_later (row_later HR1.out hb2) ha2
      have HQ2 : Hid ((w2.alloc (.cells #[.int .i64 0, .bool false, .int .i64 0, .bool false, .int .i64 0, .slice none 0 0] 35)).heap[w2.heap.size]? = _) := row_new w2 #[.int .i64 0, .bool false, .int .i64 0, .bool false, .int .i64 0, .slice none 0 0] 35
      have HB2' : Hid (Below w.heap.size w (w2.alloc (.cells #[.int .i64 0, .bool false, .int .i64 0, .bool false, .int .i64 0, .slice none 0 0] 35))) := HB2.out.trans (ha2.mono HB2.out.size)
      have HPu : Hid _ := push_no _ (some ⟨w.heap.size + 1, 0, none⟩) ⟨ji, ju, jt, jb, jk, js⟩ (.slice sa sl sc) ⟨_, _, _, rfl⟩ HNo2.out
      unfold JV at HPu
      dsimp only at HPu
      obtain ⟨c0, c1, c2, c3, c4, c5⟩ := JC.of_row (e := ⟨ji, ju, jt, jb, jk, js⟩) (v := .slice sa sl sc) HJ2.out
      simp only [Nat.zero_add] at c0 c1 c2 c3 c4 c5
      clear hb2 ha2 HSt HNo1 HJ1 HR1 HB2
      go_wp2_with fail
      refine Calls.mono HPu.out ?_
      rintro e w3 ⟨rfl, hb3⟩
      have HB3 : Hid (Below w.heap.size w w3) := HB2'.out.trans (hb3.mono HB2'.out.size)
      have HNo3 : Hid (NoDq w3 (.pointer (some ⟨w.heap.size + 1, 0, none⟩))) := HNo2.out.later hb3
      have HJ3 : Hid _ := row_later HJ2.out hb3
      have HR3 : Hid _ := row_later HR2.out hb3
      have HQ3 : Hid _ := row_later HQ2.out hb3
      obtain ⟨a0, a1, a2, a3, a4, a5⟩ := JC.of_row (e := zJ) (v := .slice none 0 0) HR3.out
      simp only [Nat.zero_add, zJ] at a0 a1 a2 a3 a4 a5
      have HS3 : Hid _ := HSame w3
      clear hb3 HPu HNo2 HJ2 HR2 HQ2 HB2' c0 c1 c2 c3 c4 c5
      go_wp2_with fail
      refine Calls.mono HS3.out ?_
      rintro e w4 ⟨rfl, hb4⟩
      have HB4 : Hid (Below w.heap.size w w4) := HB3.out.trans (hb4.mono HB3.out.size)
      have HNo4 : Hid (NoDq w4 (.pointer (some ⟨w.heap.size + 1, 0, none⟩))) := HNo3.out.later hb4
      have HJ4 : Hid _ := row_later HJ3.out hb4
      have HQ4 : Hid _ := row_later HQ3.out hb4
      obtain ⟨d0, d1, d2, d3, d4, d5⟩ := JC.of_row (e := zJ) (v := .slice none 0 0) HQ4.out
      simp only [Nat.zero_add, zJ] at d0 d1 d2 d3 d4 d5
      have HS4 : Hid _ := HSame w4
      clear hb4 HS3 HNo3 HJ3 HR3 HQ3 HB3 a0 a1 a2 a3 a4 a5
      go_wp2_with fail
      refine Calls.mono HS4.out ?_
      rintro e w5 ⟨rfl, hb5⟩
      have HB5 : Hid (Below w.heap.size w w5) := HB4.out.trans (hb5.mono HB4.out.size)
      have HNo5 : Hid (NoDq w5 (.pointer (some ⟨w.heap.size + 1, 0, none⟩))) := HNo4.out.later hb5
      have HJ5 : Hid _ := row_later HJ4.out hb5
      obtain ⟨f0, f1, f2, _, _, _⟩ := JC.of_row (e := ⟨ji, ju, jt, jb, jk, js⟩) (v := .slice sa sl sc) HJ5.out
      simp only [Nat.zero_add] at f0 f1 f2
      have HDr : Hid _ := drop_no _ (some ⟨w.heap.size + 1, 0, none⟩) ⟨ji, ju, jt⟩ HNo5.out
      unfold KV at HDr
      dsimp only at HDr
      clear hb5 HS4 HNo4 HJ4 HQ4 HB4 d0 d1 d2 d3 d4 d5
      go_wp2_with fail
      refine Calls.mono HDr.out ?_
      rintro e w6 ⟨rfl, hb6⟩
      have HB6 : Hid (Below w.heap.size w w6) := HB5.out.trans (hb6.mono HB5.out.size)
      have HNo6 : Hid (NoDq w6 (.pointer (some ⟨w.heap.size + 1, 0, none⟩))) := HNo5.out.later hb6
      have HLe : Hid _ := len_no _ (some ⟨w.heap.size + 1, 0, none⟩) HNo6.out
      clear hb6 HDr HNo5 HJ5 HB5 f0 f1 f2
      go_wp2_with fail
      refine Calls.mono HLe.out ?_
      rintro e w7 ⟨rfl, hb7⟩
      have HB7 : Hid (Below w.heap.size w w7) := HB6.out.trans (hb7.mono HB6.out.size)
      have HNo7 : Hid (NoDq w7 (.pointer (some ⟨w.heap.size + 1, 0, none⟩))) := HNo6.out.later hb7
      have HLi : Hid _ := list_no _ (some ⟨w.heap.size + 1, 0, none⟩) HNo7.out
      clear hb7 HLe HNo6 HB6
      go_wp2_with fail
      refine Calls.mono HLi.out ?_
      rintro e w8 ⟨rfl, hb8⟩
      have HB8 : Hid (Below w.heap.size w w8) := HB7.out.trans (hb8.mono HB7.out.size)
      have HLv : Hid _ := lives_any w8
      clear hb8 HLi HNo7 HB7
      go_wp2_with fail
      refine Calls.mono HLv.out ?_
      rintro e w9 ⟨rfl, hb9⟩
      have HB9 : Hid (Below w.heap.size w w9) := HB8.out.trans (hb9.mono HB8.out.size)
      clear hb9 HLv
      go_wp2_with fail
      go_ret
      exact ⟨rfl, HB9.out⟩
  · have hd : (100 : Int) < (sl : Int) := by omega
    have hdd : decide ((100 : Int) < (sl : Int)) = true := decide_eq_true hd
    have HLv : Hid _ := lives_any (w.alloc (.cells #[.int .i64 ji, .bool ju, .int .i64 jt, .bool jb, .int .i64 jk, .slice sa sl sc] 35))
    have HB : Hid _ := hbJ
    go_enter Try.func6, Try.ntmps6
    go_wp2_with fail
    refine Calls.mono HLv.out ?_
    rintro e w1 ⟨rfl, hb1⟩
    have HB1 : Hid (Below w.heap.size w w1) := HB.out.trans (hb1.mono HB.out.size)
    clear hb1 HLv
    go_wp2_with fail
    go_ret
    exact ⟨rfl, HB1.out⟩
end Go.Proofs.Ythbckfncpnobcaa
