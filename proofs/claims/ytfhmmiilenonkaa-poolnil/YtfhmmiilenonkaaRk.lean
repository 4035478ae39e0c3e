/- The walks over the document's Pop and Steal. -/
import Derived.Test.YtfhmmiilenonkaaRj
namespace Go.Proofs.Ytfhmmiilenonkaa

open Go.RowKit

set_option maxRecDepth 1000000

set_option linter.unusedVariables false

theorem elem28 (wx : World) : (sizeOf (Try.prog.elem 82)).run Try.prog wx = .ok 6 wx := by kernel_rfl

theorem results_j3 {fn : Func} {p q u : Tmp} (h : fn.results = #[.tmp q, .cell p 37, .tmp u]) (tmps : Array Value) (w : World) {g : Nat} {e : Jb} {v : Value}
    (hp : tmps.getD p undef = .pointer (some ⟨g, 0, none⟩)) (hg : w.heap[g]? = some (.cells (jrow (e, v)).toArray 37 (0, 0))) :
    (results fn tmps).run Try.prog w = .ok (.tuple #[tmps.getD q undef, JV e v, tmps.getD u undef]) w := by
  have hp' : tmps[p]?.getD undef = .pointer (some ⟨g, 0, none⟩) := by simpa using hp
  simp [results, h, hp', asAddr, run_loadVar_row (P := Try.prog) w g 37 37 _ (0, 0) _ hg Try.underlying37 rfl (by kernel_rfl)]
  rfl

/-- The first jobs of a list that lies in memory. -/
theorem slice_to {S : Nat → Prop} {w : World} {a : Option Addr} {n ca : Nat} {L : List JbP} (h : RJ S w (.slice a n ca) L) (hi : Nat) (h2 : hi ≤ L.length) :
    ∃ va vc, RJ S w (.slice va hi vc) (L.take hi) ∧ ∀ wx : World, (Instr.sliceAt 82 (.slice a n ca) none (some (.int .i64 (hi : Int))) none).run Try.prog wx = .ok (.slice va hi vc) wx := by
  obtain ⟨a', ca', he, h3, h4, hc⟩ := h
  simp only [Value.slice.injEq] at he
  obtain ⟨rfl, rfl, rfl⟩ := he
  have hl : (L.take hi).length = hi := by rw [List.length_take]; omega
  refine ⟨if ca = 0 then a else a.map (·.add (0 * 6)), ca - 0, ?_, fun wx => ?_⟩
  · by_cases hm : ca = 0
    · rw [if_pos hm]
      refine ⟨a, ca - 0, by rw [hl], by rw [hl]; omega, by omega, fun i x hx => ?_⟩
      have := (List.getElem?_eq_some_iff.1 hx).1
      rw [hl] at this
      omega
    · rw [if_neg hm]
      refine ⟨_, ca - 0, by rw [hl], by rw [hl]; omega, by omega, fun i x hx => ?_⟩
      rw [List.getElem?_take] at hx
      split at hx
      · obtain ⟨b, off, rfl, hS, c0, c4⟩ := hc i x hx
        refine ⟨b, off, ?_, hS, c0, c4⟩
        simp [add_at]
      · cases hx
  · rw [run_sliceAt_slice wx 82 _ _ _ _ Try.underlying82, run_slice_h wx 82 a L.length ca Try.underlying82 .i64 hi (by omega) (by unfold maxLen at h4; omega), elem28]
    simp [sliced]

theorem slice_one {S : Nat → Prop} {w : World} {a : Option Addr} {n ca : Nat} {L : List JbP} (h : RJ S w (.slice a n ca) L) (h2 : 1 ≤ L.length) :
    ∃ va vc, RJ S w (.slice va (n - 1) vc) (L.drop 1) ∧ ∀ wx : World, (Instr.sliceAt 82 (.slice a n ca) (some (.int .i64 1)) none none).run Try.prog wx = .ok (.slice va (n - 1) vc) wx := by
  obtain ⟨a', ca', he, h3, h4, hc⟩ := h
  simp only [Value.slice.injEq] at he
  obtain ⟨rfl, rfl, rfl⟩ := he
  have hl : (L.drop 1).length = L.length - 1 := by rw [List.length_drop]
  refine ⟨if ca = 1 then a else a.map (·.add (1 * 6)), ca - 1, ?_, fun wx => ?_⟩
  · by_cases hm : ca = 1
    · rw [if_pos hm]
      refine ⟨a, ca - 1, by rw [hl], by rw [hl]; omega, by omega, fun i x hx => ?_⟩
      have := (List.getElem?_eq_some_iff.1 hx).1
      rw [hl] at this
      omega
    · rw [if_neg hm]
      refine ⟨_, ca - 1, by rw [hl], by rw [hl]; omega, by omega, fun i x hx => ?_⟩
      rw [List.getElem?_drop] at hx
      obtain ⟨b, off, rfl, hS, c0, c4⟩ := hc _ x hx
      refine ⟨b, off + 6, ?_, hS, ?_, c4⟩
      · simp [add_at]
      · rw [show off + 6 + i * 6 = off + (1 + i) * 6 by omega]
        exact c0
  · rw [run_sliceAt_slice wx 82 _ _ _ _ Try.underlying82, run_slice_l wx 82 a L.length ca Try.underlying82 .i64 1 (by omega) (by omega), elem28]
    simp [sliced]

/-- What the document's Pop and Steal answer. -/
def RTakeC (S : Nat → Prop) (w : World) (r : (Jb × Int) × List Jb) (e : Ending) (w' : World) : Prop := ∃ rv' L' sv, e = .returned (.tuple #[rv', JV r.1.1 sv, .int .i64 r.1.2]) ∧ RJ S w' rv' L' ∧ L'.map Prod.fst = r.2 ∧ RS S w' sv r.1.1.s ∧ Below w.heap.size w w'

set_option maxHeartbeats 4000000 in
theorem rpop_any (S : Nat → Prop) (w : World) (rv : Value) (L : List JbP) (h : RJ S w rv L) (hl : L.length ≤ 1000000) :
    Calls Try.prog 46 #[rv] w fun e w' => RTakeC S w (takeP true (L.map Prod.fst)) e w' := by
  obtain ⟨a, ca, rfl, hc1, hc2, hr⟩ := id h
  have HB1 : Hid _ := bl1 w (.cells (jrow (zJ, .slice none 0 0)).toArray 37)
  have R0 : Hid ((w.alloc (.cells (jrow (zJ, .slice none 0 0)).toArray 37)).heap[w.heap.size]? = _) := row_new w (jrow (zJ, .slice none 0 0)).toArray 37
  by_cases h0 : L = []
  · subst h0
    have HH : Hid (RJ S w (.slice a 0 ca) []) := h
    have e1 : takeP true (([] : List JbP).map Prod.fst) = ((zJ, 6), []) := rfl
    rw [e1]
    clear h hr
    go_enter Try.func46, Try.ntmps46
    go_wp2_with fail
    refine bodyPost_ret (results_j3 rfl _ _ (e := zJ) (v := .slice none 0 0) rfl R0.out) rfl ?_
    exact ⟨_, [], .slice none 0 0, rfl, HH.out.later HB1.out, rfl, RS.nil _ _, HB1.out⟩
  · obtain ⟨M', x, rfl⟩ : ∃ M' x, L = M' ++ [x] := ⟨L.dropLast, L.getLast h0, (List.dropLast_concat_getLast h0).symm⟩
    have hln : (M' ++ [x]).length = M'.length + 1 := by simp
    have e1 : takeP true ((M' ++ [x]).map Prod.fst) = ((x.1, 0), M'.map Prod.fst) := by
      unfold takeP
      rw [if_neg (by simp), if_pos rfl, List.map_append]
      simp
    rw [e1]
    have hx : (M' ++ [x])[M'.length]? = some x := by simp
    obtain ⟨b, off, rfl, hSb, hJ, hRS⟩ := hr M'.length x hx
    obtain ⟨va, vc, hsl, hrun⟩ := slice_to h M'.length (by omega)
    rw [List.take_left' rfl] at hsl
    have HSL : Hid (RJ S w (.slice va M'.length vc) M') := hsl
    have HRS : Hid (RS S w x.2 x.1.s) := hRS
    rw [hln] at hl hc1 hrun ⊢
    have HJ : Hid (∀ W, Below w.heap.size w W → JC W b (off + M'.length * 6) x) := fun W hW => hJ.later hW
    generalize M'.length = m at *
    obtain ⟨⟨xi, xu, xt, xb, xk, xs⟩, xv⟩ := x
    obtain ⟨⟨xa, xc, hxv, _⟩, _⟩ := hRS
    dsimp only at *
    subst hxv
    obtain ⟨c0, c1, c2, c3, c4, c5⟩ := HJ.out _ HB1.out
    obtain ⟨d0, d1, d2, d3, d4, d5⟩ := JC.of_row R0.out
    have f0 := froz_row R0.out
    have hbl : b < w.heap.size := hJ.lt
    have nb1 : ¬ b = w.heap.size := by omega
    have nb2 : ¬ w.heap.size = b := by omega
    obtain ⟨xl, hxl⟩ : ∃ n, xs.length = n := ⟨_, rfl⟩
    rw [hxl] at c5
    have HXL : Hid _ := hxl
    simp only [Nat.zero_add] at d0 d1 d2 d3 d4 d5
    clear h hr h0 hx hsl hJ e1 hln hxl HJ
    go_enter Try.func46, Try.ntmps46
    go_wp2_with fail
    change Code.wp _ _ _ _ (w.alloc (.cells (jrow (zJ, .slice none 0 0)).toArray 37))
    generalize w.alloc (.cells (jrow (zJ, .slice none 0 0)).toArray 37) = w1 at *
    go_region
    go_wp2_with fail
    have kk : Kp (fun k => k = w.heap.size) w1 (set6 w1 w.heap.size 0 (⟨xi, xu, xt, xb, xk, xs⟩, .slice xa xl xc)).drew := (set6_kept (fun k => k = w.heap.size) w1 w.heap.size 0 (⟨xi, xu, xt, xb, xk, xs⟩, .slice xa xl xc) rfl).drew
    have kb : Below w.heap.size w (set6 w1 w.heap.size 0 (⟨xi, xu, xt, xb, xk, xs⟩, .slice xa xl xc)).drew := HB1.out.trans (kk.below HB1.out.size (fun k hk => by omega))
    have hset : (set6 w1 w.heap.size 0 (⟨xi, xu, xt, xb, xk, xs⟩, .slice xa xl xc)).drew.heap[w.heap.size]? = some (.cells (jrow (⟨xi, xu, xt, xb, xk, xs⟩, .slice xa xl xc)).toArray 37 (0, 0)) := row_later (set6_whole R0.out rfl (⟨xi, xu, xt, xb, xk, xs⟩, .slice xa xl xc)) (Below.refl _ _).drew
    have hsl9 := HSL.out.later kb
    have hrs9 : RS S (set6 w1 w.heap.size 0 (⟨xi, xu, xt, xb, xk, xs⟩, .slice xa xl xc)).drew (.slice xa xl xc) xs := by
      have h9 : RS S w (.slice xa xl xc) xs := by rw [← HXL.out]; exact HRS.out
      exact h9.later kb
    clear kk HSL HRS R0
    show bodyPost _ _ _ _ _ (set6 w1 w.heap.size 0 (⟨xi, xu, xt, xb, xk, xs⟩, .slice xa xl xc)).drew
    generalize (set6 w1 w.heap.size 0 (⟨xi, xu, xt, xb, xk, xs⟩, .slice xa xl xc)).drew = w9 at *
    refine bodyPost_ret (results_j3 rfl _ _ (e := ⟨xi, xu, xt, xb, xk, xs⟩) (v := .slice xa xl xc) rfl hset) rfl ?_
    exact ⟨_, M', .slice xa xl xc, rfl, hsl9, rfl, hrs9, kb⟩

set_option maxHeartbeats 4000000 in
theorem rsteal_any (S : Nat → Prop) (w : World) (rv : Value) (L : List JbP) (h : RJ S w rv L) (hl : L.length ≤ 1000000) :
    Calls Try.prog 47 #[rv] w fun e w' => RTakeC S w (takeP false (L.map Prod.fst)) e w' := by
  obtain ⟨a, ca, rfl, hc1, hc2, hr⟩ := id h
  have HB1 : Hid _ := bl1 w (.cells (jrow (zJ, .slice none 0 0)).toArray 37)
  have R0 : Hid ((w.alloc (.cells (jrow (zJ, .slice none 0 0)).toArray 37)).heap[w.heap.size]? = _) := row_new w (jrow (zJ, .slice none 0 0)).toArray 37
  by_cases h0 : L = []
  · subst h0
    have HH : Hid (RJ S w (.slice a 0 ca) []) := h
    have e1 : takeP false (([] : List JbP).map Prod.fst) = ((zJ, 6), []) := rfl
    rw [e1]
    clear h hr
    go_enter Try.func47, Try.ntmps47
    go_wp2_with fail
    refine bodyPost_ret (results_j3 rfl _ _ (e := zJ) (v := .slice none 0 0) rfl R0.out) rfl ?_
    exact ⟨_, [], .slice none 0 0, rfl, HH.out.later HB1.out, rfl, RS.nil _ _, HB1.out⟩
  · obtain ⟨x, M', rfl⟩ : ∃ x M', L = x :: M' := by
      cases L with
      | nil => exact absurd rfl h0
      | cons a b => exact ⟨a, b, rfl⟩
    have hln : (x :: M').length = M'.length + 1 := by simp
    have e1 : takeP false ((x :: M').map Prod.fst) = ((x.1, 0), M'.map Prod.fst) := by
      unfold takeP
      rw [if_neg (by simp), if_neg (by decide)]
      rfl
    rw [e1]
    have hx : (x :: M')[0]? = some x := rfl
    obtain ⟨b, off, rfl, hSb, hJ, hRS⟩ := hr 0 x hx
    obtain ⟨va, vc, hsl, hrun⟩ := slice_one h (by omega)
    rw [hln, Nat.add_sub_cancel] at hsl hrun
    rw [Nat.zero_mul, Nat.add_zero] at hJ
    have HSL : Hid (RJ S w (.slice va M'.length vc) M') := hsl
    have HRS : Hid (RS S w x.2 x.1.s) := hRS
    rw [hln] at hl hc1 ⊢
    have HJ : Hid (∀ W, Below w.heap.size w W → JC W b off x) := fun W hW => hJ.later hW
    generalize M'.length = m at *
    obtain ⟨⟨xi, xu, xt, xb, xk, xs⟩, xv⟩ := x
    obtain ⟨⟨xa, xc, hxv, _⟩, _⟩ := hRS
    dsimp only at *
    subst hxv
    obtain ⟨c0, c1, c2, c3, c4, c5⟩ := HJ.out _ HB1.out
    obtain ⟨d0, d1, d2, d3, d4, d5⟩ := JC.of_row R0.out
    have f0 := froz_row R0.out
    have hbl : b < w.heap.size := hJ.lt
    have nb1 : ¬ b = w.heap.size := by omega
    have nb2 : ¬ w.heap.size = b := by omega
    obtain ⟨xl, hxl⟩ : ∃ n, xs.length = n := ⟨_, rfl⟩
    rw [hxl] at c5
    have HXL : Hid _ := hxl
    simp only [Nat.zero_add] at d0 d1 d2 d3 d4 d5
    clear h hr h0 hx hsl hJ e1 hln hxl HJ
    go_enter Try.func47, Try.ntmps47
    go_wp2_with fail
    change Code.wp _ _ _ _ (w.alloc (.cells (jrow (zJ, .slice none 0 0)).toArray 37))
    generalize w.alloc (.cells (jrow (zJ, .slice none 0 0)).toArray 37) = w1 at *
    go_region
    go_wp2_with fail
    have kk : Kp (fun k => k = w.heap.size) w1 (set6 w1 w.heap.size 0 (⟨xi, xu, xt, xb, xk, xs⟩, .slice xa xl xc)).drew := (set6_kept (fun k => k = w.heap.size) w1 w.heap.size 0 (⟨xi, xu, xt, xb, xk, xs⟩, .slice xa xl xc) rfl).drew
    have kb : Below w.heap.size w (set6 w1 w.heap.size 0 (⟨xi, xu, xt, xb, xk, xs⟩, .slice xa xl xc)).drew := HB1.out.trans (kk.below HB1.out.size (fun k hk => by omega))
    have hset : (set6 w1 w.heap.size 0 (⟨xi, xu, xt, xb, xk, xs⟩, .slice xa xl xc)).drew.heap[w.heap.size]? = some (.cells (jrow (⟨xi, xu, xt, xb, xk, xs⟩, .slice xa xl xc)).toArray 37 (0, 0)) := row_later (set6_whole R0.out rfl (⟨xi, xu, xt, xb, xk, xs⟩, .slice xa xl xc)) (Below.refl _ _).drew
    have hsl9 := HSL.out.later kb
    have hrs9 : RS S (set6 w1 w.heap.size 0 (⟨xi, xu, xt, xb, xk, xs⟩, .slice xa xl xc)).drew (.slice xa xl xc) xs := by
      have h9 : RS S w (.slice xa xl xc) xs := by rw [← HXL.out]; exact HRS.out
      exact h9.later kb
    clear kk HSL HRS R0
    show bodyPost _ _ _ _ _ (set6 w1 w.heap.size 0 (⟨xi, xu, xt, xb, xk, xs⟩, .slice xa xl xc)).drew
    generalize (set6 w1 w.heap.size 0 (⟨xi, xu, xt, xb, xk, xs⟩, .slice xa xl xc)).drew = w9 at *
    refine bodyPost_ret (results_j3 rfl _ _ (e := ⟨xi, xu, xt, xb, xk, xs⟩) (v := .slice xa xl xc) rfl hset) rfl ?_
    exact ⟨_, M', .slice xa xl xc, rfl, hsl9, rfl, hrs9, kb⟩

end Go.Proofs.Ytfhmmiilenonkaa
