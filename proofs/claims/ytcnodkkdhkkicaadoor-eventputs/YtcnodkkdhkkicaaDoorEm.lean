/- The walk over the document's Text. -/
import Derived.Test.YtcnodkkdhkkicaaDoorEj
import Derived.Test.YtcnodkkdhkkicaaDoorEl
namespace Go.Proofs.YtcnodkkdhkkicaaDoor
open Go.RowKit
set_option linter.unusedVariables false

/-- The words, in a new block. -/
theorem words_at (wx : World) (k : Nat) (h1 : 1 ≤ k) (h2 : k ≤ 6) : (wx.alloc (.cells #[.string ⟨#[]⟩, .string ⟨#[115, 116, 97, 114, 116]⟩, .string ⟨#[111, 107]⟩, .string ⟨#[102, 97, 105, 108]⟩, .string ⟨#[117, 110, 100, 111]⟩, .string ⟨#[117, 110, 100, 111, 110, 101]⟩, .string ⟨#[115, 108, 105, 112]⟩] 9)).cell? ⟨wx.heap.size, k, none⟩ = some (.string ⟨(wordP (k : Nat)).toArray⟩) := by
  have hk : k = 1 ∨ k = 2 ∨ k = 3 ∨ k = 4 ∨ k = 5 ∨ k = 6 := by omega
  rw [World.cell?_alloc_new]
  rcases hk with rfl | rfl | rfl | rfl | rfl | rfl <;> rfl

theorem wpOp_value {P : Program} {ops : Array Oper} {Q : Exit → Act → World → Prop} {i : Nat} {K : Act → World → Prop} {a : Act} {w w' : World} {o : Oper} {d : Tmp} {v : Value} (hi : ops[i]? = some o) (hd : o.dst = some d) (hw : Region.wanted o (yielded ops a.tmps) = true)
    (hrun : (execOp a.eval o).run P w = .ok (.value v) w') (hK : K { tmps := a.tmps.setIfInBounds d v, defers := a.defers } w') : wpOp P ops Q i K a w := by
  have hp : a.put o.dst v = { tmps := a.tmps.setIfInBounds d v, defers := a.defers } := by rw [hd]; rfl
  unfold wpOp
  simp only [hi]
  rw [if_pos hw]
  refine .inl ?_
  unfold Oper.wp
  rw [hrun]
  show K (a.put o.dst v) w'
  rw [hp]
  exact hK

def setAll (tm : Array Value) : List (Nat × Value) → Array Value
  | [] => tm
  | (d, v) :: r => setAll (tm.setIfInBounds d v) r

/-- A region that draws, ended the same way in all its orders. -/
theorem region_then {P : Program} {id : Nat} {ops : Array Oper} {dr : Bool} {Q : Exit → Act → World → Prop} {K : Act → World → Prop} {a : Act} {w : World} (L : List (Nat × Value)) (w2 : World)
    (h : (Code.region id ops dr).wp P (fun e a' w' => e = .normal ∧ a' = { tmps := setAll a.tmps L, defers := a.defers } ∧ w' = w2) a w)
    (h2 : K { tmps := setAll a.tmps L, defers := a.defers } w2) : (Code.region id ops dr).wp P (Exit.then K Q) a w := by
  refine wp_mono h ?_
  rintro e a' w' ⟨rfl, rfl, rfl⟩
  exact h2

set_option maxRecDepth 1000000 in
set_option maxHeartbeats 8000000 in
theorem rtext_in (k : Nat) (i t : Int) (s : List Int) (sv : Value) (w : World) (hv : RI w sv s) (ho : okE ⟨(k : Nat), i, t, s⟩ = true) (T : List UInt8) (hT : T = texE ⟨(k : Nat), i, t, s⟩) :
    Calls Tryd.prog 13 #[.agg #[.int .i64 (k : Nat), .int .i64 i, .int .i64 t, sv]] w fun x w' => x = .returned (.string ⟨T.toArray⟩) ∧ Below w.heap.size w w' := by
  obtain ⟨k1, k2, i1, i2, t1, t2, kt⟩ := okE_head ho
  have hst := okE_stamp ho
  have hsl := okS_len hst
  dsimp only at k1 k2 i1 i2 t1 t2 kt hst hsl
  have HX : Hid (Below w.heap.size w (w.alloc (.cells #[.int .i64 (k : Nat), .int .i64 i, .int .i64 t, sv] 25))) := (Below.refl _ _).alloc (Nat.le_refl _) _
  have HC : Hid (Calls Tryd.prog 23 #[.agg #[.int .i64 (k : Nat), .int .i64 i, .int .i64 t, sv]] (w.alloc (.cells #[.int .i64 (k : Nat), .int .i64 i, .int .i64 t, sv] 25)) fun x w' => x = .returned (.bool true) ∧ Below (w.alloc (.cells #[.int .i64 (k : Nat), .int .i64 i, .int .i64 t, sv] 25)).heap.size (w.alloc (.cells #[.int .i64 (k : Nat), .int .i64 i, .int .i64 t, sv] 25)) w') := by
    have := rright_ev ⟨(k : Nat), i, t, s⟩ sv _ (hv.later HX.out) (by dsimp only; omega)
    rw [ho] at this
    exact this
  have HBX : Hid (Box (w.alloc (.cells #[.int .i64 (k : Nat), .int .i64 i, .int .i64 t, sv] 25)) w.heap.size (k : Nat) i t sv) := Box.new w _ _ _ _
  have HI : Hid _ := digits_any i (by omega) (by omega) _ rfl
  have HJ : Hid _ := digits_any t (by omega) (by omega) _ rfl
  have l1 := dgs_small (n := i.toNat) (by omega)
  have l2 := dgs_small (n := t.toNat) (by omega)
  have l3 := word_len (k : Nat)
  have HT : Hid (T = (wordP (k : Nat) ++ 32 :: (dgs i.toNat ++ (if 3 < ((k : Nat) : Int) then 46 :: dgs t.toNat else []))) ++ stampT s) := by show _ = _; rw [hT]; rfl
  have HV : Hid (RI w sv s) := hv
  obtain ⟨sa, sc, rfl, hs1, hs2, hrr⟩ := hv
  have HR : Hid (∀ wr, Below w.heap.size w wr → ∀ j, j < s.length → ∃ b off, sa = some ⟨b, off, none⟩ ∧ wr.cell? ⟨b, off + j, none⟩ = some (.int .i64 (s.getD j 0))) := fun wr hb j hj => by
    obtain ⟨a', c', he, _, _, hc⟩ := RI.later HV.out hb
    simp only [Value.slice.injEq] at he
    obtain ⟨rfl, _, rfl⟩ := he
    exact hc j hj
  have HZ : Hid (∀ j, j < s.length → 0 ≤ s.getD j 0 ∧ s.getD j 0 ≤ 1099511627776) := fun j hj => by
    have h1 := okS_all hst
    unfold allN at h1
    rw [List.all_eq_true] at h1
    have h2 := h1 s[j] (List.getElem_mem hj)
    rw [show s.getD j 0 = s[j] by simp [hj]]
    exact of_decide_eq_true h2
  have HLen : Hid (∀ j, j ≤ s.length → (stampT (s.take j)).length ≤ 1000) := fun j hj => by
    have h2 := stampT_len (s.take j) (fun n hn => by
      obtain ⟨q, hq, rfl⟩ := List.mem_iff_getElem.1 (List.mem_of_mem_take hn)
      have := (HZ.out q hq).2
      rwa [show s.getD q 0 = s[q] by simp [hq]] at this)
    rw [List.length_take] at h2
    omega
  have q4 := fun wx => words_at wx k (by omega) (by omega)
  have k0 : (0 : Int) ≤ (k : Int) := by omega
  have k7 : (k : Int) < 7 := by omega
  clear hrr HV ho hT hst kt
  generalize dgs i.toNat = D1 at *
  generalize dgs t.toNat = D2 at *
  generalize wordP (k : Nat) = W at *
  have b1 : (⟨W.toArray⟩ : ByteArray) ++ ⟨#[32]⟩ = ⟨(W ++ [32]).toArray⟩ := bcat W [32]
  have b2 : (⟨(W ++ [32]).toArray⟩ : ByteArray) ++ ⟨D1.toArray⟩ = ⟨(W ++ [32] ++ D1).toArray⟩ := bcat _ _
  go_enter Tryd.func13, Tryd.ntmps13
  go_wp2_with fail
  refine Calls.mono HC.out ?_
  rintro e w1 ⟨rfl, hb1⟩
  have HB1 : Hid (Below w.heap.size w w1) := HX.out.trans (hb1.mono (by simp))
  have HBX1 : Hid (Box w1 w.heap.size (k : Nat) i t (.slice sa s.length sc)) := HBX.out.later hb1
  clear hb1 HX HC HBX
  have d0 := HBX1.out.c0
  have d1 := HBX1.out.c1
  have hS0 : w1.drew.cell? ⟨w.heap.size, 0, none⟩ = some (.int .i64 (k : Nat)) ∧ w1.drew.cell? ⟨w.heap.size, 1, none⟩ = some (.int .i64 i) := ⟨d0, d1⟩
  have hS1 : (w1.drew.alloc (.cells #[.string ⟨#[]⟩, .string ⟨#[115, 116, 97, 114, 116]⟩, .string ⟨#[111, 107]⟩, .string ⟨#[102, 97, 105, 108]⟩, .string ⟨#[117, 110, 100, 111]⟩, .string ⟨#[117, 110, 100, 111, 110, 101]⟩, .string ⟨#[115, 108, 105, 112]⟩] 9)).cell? ⟨w.heap.size, 0, none⟩ = some (.int .i64 (k : Nat)) ∧ (w1.drew.alloc (.cells #[.string ⟨#[]⟩, .string ⟨#[115, 116, 97, 114, 116]⟩, .string ⟨#[111, 107]⟩, .string ⟨#[102, 97, 105, 108]⟩, .string ⟨#[117, 110, 100, 111]⟩, .string ⟨#[117, 110, 100, 111, 110, 101]⟩, .string ⟨#[115, 108, 105, 112]⟩] 9)).cell? ⟨w.heap.size, 1, none⟩ = some (.int .i64 i) := ⟨(HBX1.out.alloc _).c0, (HBX1.out.alloc _).c1⟩
  have HBz : Hid (Below w.heap.size w (w1.drew.alloc (.cells #[.string ⟨#[]⟩, .string ⟨#[115, 116, 97, 114, 116]⟩, .string ⟨#[111, 107]⟩, .string ⟨#[102, 97, 105, 108]⟩, .string ⟨#[117, 110, 100, 111]⟩, .string ⟨#[117, 110, 100, 111, 110, 101]⟩, .string ⟨#[115, 108, 105, 112]⟩] 9))) := HB1.out.drew.alloc HB1.out.size _
  have HBXz : Hid (Box (w1.drew.alloc (.cells #[.string ⟨#[]⟩, .string ⟨#[115, 116, 97, 114, 116]⟩, .string ⟨#[111, 107]⟩, .string ⟨#[102, 97, 105, 108]⟩, .string ⟨#[117, 110, 100, 111]⟩, .string ⟨#[117, 110, 100, 111, 110, 101]⟩, .string ⟨#[115, 108, 105, 112]⟩] 9)) w.heap.size (k : Nat) i t (.slice sa s.length sc)) := Box.alloc (w := w1.drew) HBX1.out _
  have q5 : (w1.drew.alloc (.cells #[.string ⟨#[]⟩, .string ⟨#[115, 116, 97, 114, 116]⟩, .string ⟨#[111, 107]⟩, .string ⟨#[102, 97, 105, 108]⟩, .string ⟨#[117, 110, 100, 111]⟩, .string ⟨#[117, 110, 100, 111, 110, 101]⟩, .string ⟨#[115, 108, 105, 112]⟩] 9)).cell? ⟨w1.heap.size, k, none⟩ = some (.string ⟨W.toArray⟩) := q4 w1
  go_wp2_with fail
  refine region_then [(8, .slice (some ⟨w1.heap.size, 0, none⟩) 7 7), (9, .pointer (some ⟨w.heap.size, 0, none⟩)), (10, .int .i64 (k : Nat)), (11, .pointer (some ⟨w1.heap.size, k, none⟩)), (12, .string ⟨W.toArray⟩), (13, .string ⟨(W ++ [32]).toArray⟩), (14, .pointer (some ⟨w.heap.size, 1, none⟩)), (15, .int .i64 i), (16, .string ⟨D1.toArray⟩), (17, .string ⟨(W ++ [32] ++ D1).toArray⟩), (3, .string ⟨(W ++ [32] ++ D1).toArray⟩)] (w1.drew.alloc (.cells #[.string ⟨#[]⟩, .string ⟨#[115, 116, 97, 114, 116]⟩, .string ⟨#[111, 107]⟩, .string ⟨#[102, 97, 105, 108]⟩, .string ⟨#[117, 110, 100, 111]⟩, .string ⟨#[117, 110, 100, 111, 110, 101]⟩, .string ⟨#[115, 108, 105, 112]⟩] 9)) ?_ ?_
  · refine wp_region_held (S := fun w' => w'.cell? ⟨w.heap.size, 0, none⟩ = some (.int .i64 (k : Nat)) ∧ w'.cell? ⟨w.heap.size, 1, none⟩ = some (.int .i64 i)) (by kernel_rfl) ?_
    simp only [List.size_toArray, List.length_cons, List.length_nil, Nat.reduceAdd, Array.replicate_succ, Array.replicate_zero, List.push_toArray, List.nil_append, List.cons_append]
    refine takeD (i := 1) (d := 9) (v := .pointer (some ⟨w.heap.size, 0, none⟩)) (fuel := 10) rfl rfl (by kernel_rfl) (by kernel_rfl) (by kernel_rfl) (fun _ _ _ h => by cases h.1) (.inl ⟨by kernel_rfl, fun _ _ => by go_simp⟩) hS0 ?_
    simp only [List.setIfInBounds_toArray, List.set_cons_succ, List.set_cons_zero]
    refine takeD (i := 2) (d := 10) (v := .int .i64 (k : Nat)) (fuel := 9) rfl rfl (by kernel_rfl) (by kernel_rfl) (by kernel_rfl) (fun _ _ _ h => by cases h.1) (.inl ⟨by kernel_rfl, fun w3 hw3 => by have z0 := hw3.1; go_simp⟩) hS0 ?_
    simp only [List.setIfInBounds_toArray, List.set_cons_succ, List.set_cons_zero]
    refine takeD (i := 6) (d := 14) (v := .pointer (some ⟨w.heap.size, 1, none⟩)) (fuel := 8) rfl rfl (by kernel_rfl) (by kernel_rfl) (by kernel_rfl) (fun _ _ _ h => by cases h.1) (.inl ⟨by kernel_rfl, fun _ _ => by go_simp⟩) hS0 ?_
    simp only [List.setIfInBounds_toArray, List.set_cons_succ, List.set_cons_zero]
    refine takeD (i := 7) (d := 15) (v := .int .i64 i) (fuel := 7) rfl rfl (by kernel_rfl) (by kernel_rfl) (by kernel_rfl) (fun _ _ _ h => by cases h.1) (.inl ⟨by kernel_rfl, fun w3 hw3 => by have z0 := hw3.2; go_simp⟩) hS0 ?_
    simp only [List.setIfInBounds_toArray, List.set_cons_succ, List.set_cons_zero]
    refine wpAnyH_all (fuel := 6) (rs := [0, 8]) (by kernel_rfl) (by decide) ?_
    refine List.forall_mem_cons.2 ⟨?_, List.forall_mem_singleton.2 ?_⟩
    · refine wpOp_value (i := 0) (d := 8) (v := .slice (some ⟨w1.heap.size, 0, none⟩) 7 7) (w' := (w1.drew.alloc (.cells #[.string ⟨#[]⟩, .string ⟨#[115, 116, 97, 114, 116]⟩, .string ⟨#[111, 107]⟩, .string ⟨#[102, 97, 105, 108]⟩, .string ⟨#[117, 110, 100, 111]⟩, .string ⟨#[117, 110, 100, 111, 110, 101]⟩, .string ⟨#[115, 108, 105, 112]⟩] 9))) rfl rfl (by kernel_rfl) (by go_simp) ?_
      refine ⟨hS1, ?_⟩
      simp only [List.setIfInBounds_toArray, List.set_cons_succ, List.set_cons_zero]
      refine takeD (i := 3) (d := 11) (v := .pointer (some ⟨w1.heap.size, k, none⟩)) (fuel := 5) rfl rfl (by kernel_rfl) (by kernel_rfl) (by kernel_rfl) (fun _ _ _ h => by cases h.1) (.inl ⟨by kernel_rfl, fun _ _ => by go_simp⟩) hS1 ?_
      simp only [List.setIfInBounds_toArray, List.set_cons_succ, List.set_cons_zero]
      refine wpAnyH_all (fuel := 4) (rs := [4, 8]) (by kernel_rfl) (by decide) ?_
      refine List.forall_mem_cons.2 ⟨?_, List.forall_mem_singleton.2 ?_⟩
      · refine wpOp_value (i := 4) (d := 12) (v := .string ⟨W.toArray⟩) (w' := (w1.drew.alloc (.cells #[.string ⟨#[]⟩, .string ⟨#[115, 116, 97, 114, 116]⟩, .string ⟨#[111, 107]⟩, .string ⟨#[102, 97, 105, 108]⟩, .string ⟨#[117, 110, 100, 111]⟩, .string ⟨#[117, 110, 100, 111, 110, 101]⟩, .string ⟨#[115, 108, 105, 112]⟩] 9))) rfl rfl (by kernel_rfl) (by first | go_simp | (simp only [execOp]; go_simp)) ?_
        refine ⟨hS1, ?_⟩
        simp only [List.setIfInBounds_toArray, List.set_cons_succ, List.set_cons_zero]
        refine takeD (i := 5) (d := 13) (v := .string ⟨(W ++ [32]).toArray⟩) (fuel := 3) rfl rfl (by kernel_rfl) (by kernel_rfl) (by kernel_rfl) (fun _ _ _ h => by cases h.1) (.inl ⟨by kernel_rfl, fun _ _ => by go_simp <;> omega⟩) hS1 ?_
        simp only [List.setIfInBounds_toArray, List.set_cons_succ, List.set_cons_zero]
        refine wpAnyH_all (fuel := 2) (rs := [8]) (by kernel_rfl) (by decide) ?_
        refine List.forall_mem_singleton.2 ?_
        refine wpOp_calls (i := 8) (d := 16) rfl rfl (by kernel_rfl) (f := 30) (args := #[.int .i64 i]) (by kernel_rfl) _ (HI.out _) ?_ (fun _ _ h => by cases h.1) (fun _ h => by cases h.1)
        rintro v w'' ⟨h1, h2⟩
        cases h1
        subst h2
        refine ⟨hS1, ?_⟩
        simp only [List.setIfInBounds_toArray, List.set_cons_succ, List.set_cons_zero]
        refine takeD (i := 9) (d := 17) (v := .string ⟨(W ++ [32] ++ D1).toArray⟩) (fuel := 1) rfl rfl (by kernel_rfl) (by kernel_rfl) (by kernel_rfl) (fun _ _ _ h => by cases h.1) (.inl ⟨by kernel_rfl, fun _ _ => by go_simp <;> omega⟩) hS1 ?_
        simp only [List.setIfInBounds_toArray, List.set_cons_succ, List.set_cons_zero]
        refine takeD (i := 10) (d := 3) (v := .string ⟨(W ++ [32] ++ D1).toArray⟩) (fuel := 0) rfl rfl (by kernel_rfl) (by kernel_rfl) (by kernel_rfl) (fun _ _ _ h => by cases h.1) (.inl ⟨by kernel_rfl, fun _ _ => by go_simp⟩) hS1 ?_
        simp only [List.setIfInBounds_toArray, List.set_cons_succ, List.set_cons_zero]
        refine wpAnyH_done (by kernel_rfl) ?_ _
        exact ⟨rfl, by kernel_rfl, rfl⟩
      · refine wpOp_calls (i := 8) (d := 16) rfl rfl (by kernel_rfl) (f := 30) (args := #[.int .i64 i]) (by kernel_rfl) _ (HI.out _) ?_ (fun _ _ h => by cases h.1) (fun _ h => by cases h.1)
        rintro v w'' ⟨h1, h2⟩
        cases h1
        subst h2
        refine ⟨hS1, ?_⟩
        simp only [List.setIfInBounds_toArray, List.set_cons_succ, List.set_cons_zero]
        refine wpAnyH_all (fuel := 3) (rs := [4]) (by kernel_rfl) (by decide) ?_
        refine List.forall_mem_singleton.2 ?_
        refine wpOp_value (i := 4) (d := 12) (v := .string ⟨W.toArray⟩) (w' := (w1.drew.alloc (.cells #[.string ⟨#[]⟩, .string ⟨#[115, 116, 97, 114, 116]⟩, .string ⟨#[111, 107]⟩, .string ⟨#[102, 97, 105, 108]⟩, .string ⟨#[117, 110, 100, 111]⟩, .string ⟨#[117, 110, 100, 111, 110, 101]⟩, .string ⟨#[115, 108, 105, 112]⟩] 9))) rfl rfl (by kernel_rfl) (by first | go_simp | (simp only [execOp]; go_simp)) ?_
        refine ⟨hS1, ?_⟩
        simp only [List.setIfInBounds_toArray, List.set_cons_succ, List.set_cons_zero]
        refine takeD (i := 5) (d := 13) (v := .string ⟨(W ++ [32]).toArray⟩) (fuel := 2) rfl rfl (by kernel_rfl) (by kernel_rfl) (by kernel_rfl) (fun _ _ _ h => by cases h.1) (.inl ⟨by kernel_rfl, fun _ _ => by go_simp <;> omega⟩) hS1 ?_
        simp only [List.setIfInBounds_toArray, List.set_cons_succ, List.set_cons_zero]
        refine takeD (i := 9) (d := 17) (v := .string ⟨(W ++ [32] ++ D1).toArray⟩) (fuel := 1) rfl rfl (by kernel_rfl) (by kernel_rfl) (by kernel_rfl) (fun _ _ _ h => by cases h.1) (.inl ⟨by kernel_rfl, fun _ _ => by go_simp <;> omega⟩) hS1 ?_
        simp only [List.setIfInBounds_toArray, List.set_cons_succ, List.set_cons_zero]
        refine takeD (i := 10) (d := 3) (v := .string ⟨(W ++ [32] ++ D1).toArray⟩) (fuel := 0) rfl rfl (by kernel_rfl) (by kernel_rfl) (by kernel_rfl) (fun _ _ _ h => by cases h.1) (.inl ⟨by kernel_rfl, fun _ _ => by go_simp⟩) hS1 ?_
        simp only [List.setIfInBounds_toArray, List.set_cons_succ, List.set_cons_zero]
        refine wpAnyH_done (by kernel_rfl) ?_ _
        exact ⟨rfl, by kernel_rfl, rfl⟩
    · refine wpOp_calls (i := 8) (d := 16) rfl rfl (by kernel_rfl) (f := 30) (args := #[.int .i64 i]) (by kernel_rfl) _ (HI.out _) ?_ (fun _ _ h => by cases h.1) (fun _ h => by cases h.1)
      rintro v w'' ⟨h1, h2⟩
      cases h1
      subst h2
      refine ⟨hS0, ?_⟩
      simp only [List.setIfInBounds_toArray, List.set_cons_succ, List.set_cons_zero]
      refine wpAnyH_all (fuel := 5) (rs := [0]) (by kernel_rfl) (by decide) ?_
      refine List.forall_mem_singleton.2 ?_
      refine wpOp_value (i := 0) (d := 8) (v := .slice (some ⟨w1.heap.size, 0, none⟩) 7 7) (w' := (w1.drew.alloc (.cells #[.string ⟨#[]⟩, .string ⟨#[115, 116, 97, 114, 116]⟩, .string ⟨#[111, 107]⟩, .string ⟨#[102, 97, 105, 108]⟩, .string ⟨#[117, 110, 100, 111]⟩, .string ⟨#[117, 110, 100, 111, 110, 101]⟩, .string ⟨#[115, 108, 105, 112]⟩] 9))) rfl rfl (by kernel_rfl) (by go_simp) ?_
      refine ⟨hS1, ?_⟩
      simp only [List.setIfInBounds_toArray, List.set_cons_succ, List.set_cons_zero]
      refine takeD (i := 3) (d := 11) (v := .pointer (some ⟨w1.heap.size, k, none⟩)) (fuel := 4) rfl rfl (by kernel_rfl) (by kernel_rfl) (by kernel_rfl) (fun _ _ _ h => by cases h.1) (.inl ⟨by kernel_rfl, fun _ _ => by go_simp⟩) hS1 ?_
      simp only [List.setIfInBounds_toArray, List.set_cons_succ, List.set_cons_zero]
      refine wpAnyH_all (fuel := 3) (rs := [4]) (by kernel_rfl) (by decide) ?_
      refine List.forall_mem_singleton.2 ?_
      refine wpOp_value (i := 4) (d := 12) (v := .string ⟨W.toArray⟩) (w' := (w1.drew.alloc (.cells #[.string ⟨#[]⟩, .string ⟨#[115, 116, 97, 114, 116]⟩, .string ⟨#[111, 107]⟩, .string ⟨#[102, 97, 105, 108]⟩, .string ⟨#[117, 110, 100, 111]⟩, .string ⟨#[117, 110, 100, 111, 110, 101]⟩, .string ⟨#[115, 108, 105, 112]⟩] 9))) rfl rfl (by kernel_rfl) (by first | go_simp | (simp only [execOp]; go_simp)) ?_
      refine ⟨hS1, ?_⟩
      simp only [List.setIfInBounds_toArray, List.set_cons_succ, List.set_cons_zero]
      refine takeD (i := 5) (d := 13) (v := .string ⟨(W ++ [32]).toArray⟩) (fuel := 2) rfl rfl (by kernel_rfl) (by kernel_rfl) (by kernel_rfl) (fun _ _ _ h => by cases h.1) (.inl ⟨by kernel_rfl, fun _ _ => by go_simp <;> omega⟩) hS1 ?_
      simp only [List.setIfInBounds_toArray, List.set_cons_succ, List.set_cons_zero]
      refine takeD (i := 9) (d := 17) (v := .string ⟨(W ++ [32] ++ D1).toArray⟩) (fuel := 1) rfl rfl (by kernel_rfl) (by kernel_rfl) (by kernel_rfl) (fun _ _ _ h => by cases h.1) (.inl ⟨by kernel_rfl, fun _ _ => by go_simp <;> omega⟩) hS1 ?_
      simp only [List.setIfInBounds_toArray, List.set_cons_succ, List.set_cons_zero]
      refine takeD (i := 10) (d := 3) (v := .string ⟨(W ++ [32] ++ D1).toArray⟩) (fuel := 0) rfl rfl (by kernel_rfl) (by kernel_rfl) (by kernel_rfl) (fun _ _ _ h => by cases h.1) (.inl ⟨by kernel_rfl, fun _ _ => by go_simp⟩) hS1 ?_
      simp only [List.setIfInBounds_toArray, List.set_cons_succ, List.set_cons_zero]
      refine wpAnyH_done (by kernel_rfl) ?_ _
      exact ⟨rfl, by kernel_rfl, rfl⟩
  · simp only [setAll, List.setIfInBounds_toArray, List.set_cons_succ, List.set_cons_zero]
    clear b1 b2 q4 q5 hS0 hS1 d0 d1 HI
    generalize (w1.drew.alloc (.cells #[.string ⟨#[]⟩, .string ⟨#[115, 116, 97, 114, 116]⟩, .string ⟨#[111, 107]⟩, .string ⟨#[102, 97, 105, 108]⟩, .string ⟨#[117, 110, 100, 111]⟩, .string ⟨#[117, 110, 100, 111, 110, 101]⟩, .string ⟨#[115, 108, 105, 112]⟩] 9)) = wz at *
    have g0 := HBXz.out.c0
    have g2 := HBXz.out.c2
    have g3 := HBXz.out.c3
    by_cases h3 : 3 < ((k : Nat) : Int)
    · rw [if_pos h3] at HT
      have b3 : (⟨(W ++ [32] ++ D1).toArray⟩ : ByteArray) ++ ⟨#[46]⟩ = ⟨(W ++ [32] ++ D1 ++ [46]).toArray⟩ := bcat _ [46]
      have b4 : (⟨(W ++ [32] ++ D1 ++ [46]).toArray⟩ : ByteArray) ++ ⟨D2.toArray⟩ = ⟨(W ++ [32] ++ D1 ++ [46] ++ D2).toArray⟩ := bcat _ _
      obtain ⟨H, HH⟩ : ∃ H, Hid (H = W ++ [32] ++ D1) := ⟨W ++ [32] ++ D1, by show _ = _; rfl⟩
      have HT2 : Hid (T = (H ++ [46] ++ D2) ++ stampT s) := by show _ = _; rw [HT.out, HH.out]; simp
      have hHl : H.length ≤ 30 := by rw [HH.out]; simp; omega
      rw [← HH.out] at b3 b4 ⊢
      clear HT HH
      go_wp2_with fail
      refine Calls.mono (HJ.out _) ?_
      rintro e w2 ⟨rfl, h2⟩
      obtain rfl := h2.symm
      clear h2
      go_wp2_with fail
      go_loopw [3, 4] (fun sv iv wr => ∃ (j : Nat), j ≤ s.length ∧ iv = .int .i64 j ∧ sv = .string ⟨((H ++ [46] ++ D2) ++ stampT (s.take j)).toArray⟩ ∧ wr = wz) (fun _ iv _ => s.length - (intOf iv).toNat)
      case atStart => exact ⟨0, Nat.zero_le _, rfl, by rw [List.take_zero, stampT_nil, List.append_nil]; try simp, rfl⟩
      case round =>
        obtain ⟨j, hj, rfl, rfl, rfl⟩ := hrel
        rename World => wr
        by_cases hlt : j < s.length
        · obtain ⟨b1, o1, rfl, hc1⟩ := HR.out _ HBz.out j hlt
          obtain ⟨z1, z2⟩ := HZ.out j hlt
          have hL := HLen.out j hj
          have HST : Hid (stampT (s.take (j + 1)) = stampT (s.take j) ++ 32 :: dgs (s.getD j 0).toNat) := by
            show _ = _
            rw [List.take_add_one, List.getElem?_eq_getElem hlt, show s.getD j 0 = s[j] by simp [hlt]]
            exact stampT_snoc _ _
          generalize s.getD j 0 = z at *
          have HD : Hid _ := digits_any z z1 z2 _ rfl
          have l5 := dgs_small (n := z.toNat) (by omega)
          generalize dgs z.toNat = D at *
          obtain ⟨L, hLL⟩ : ∃ L, L = (H ++ [46] ++ D2) ++ stampT (s.take j) := ⟨_, rfl⟩
          have HLL : Hid _ := hLL
          clear hLL
          have hLl : L.length ≤ 2000 := by rw [HLL.out]; simp; omega
          rw [← HLL.out]
          have b5 : (⟨L.toArray⟩ : ByteArray) ++ ⟨#[32]⟩ = ⟨(L ++ [32]).toArray⟩ := bcat _ [32]
          have b6 : (⟨(L ++ [32]).toArray⟩ : ByteArray) ++ ⟨D.toArray⟩ = ⟨(L ++ [32] ++ D).toArray⟩ := bcat _ _
          go_wp2_with fail
          refine Calls.mono (HD.out _) ?_
          rintro e w2 ⟨rfl, h2⟩
          obtain rfl := h2.symm
          clear h2
          go_wp2_with fail
          go_roundw
          case rel => exact ⟨j + 1, by omega, by go_num, by rw [HST.out, ← List.append_assoc, ← HLL.out]; try simp, trivial⟩
          case measure => simp [intOf]; omega
        · have hjn : j = s.length := by omega
          have HE : Hid ((H ++ [46] ++ D2) ++ stampT (s.take j) = T) := by show _ = _; rw [hjn, List.take_length, HT2.out]
          rw [HE.out]
          clear hjn HE HT2
          go_wp2_with fail
          go_ret
          exact ⟨rfl, HBz.out⟩
    · rw [if_neg h3, List.append_nil] at HT
      obtain ⟨H, HH⟩ : ∃ H, Hid (H = W ++ [32] ++ D1) := ⟨W ++ [32] ++ D1, by show _ = _; rfl⟩
      have HT2 : Hid (T = H ++ stampT s) := by show _ = _; rw [HT.out, HH.out]; simp
      have hHl : H.length ≤ 30 := by rw [HH.out]; simp; omega
      rw [← HH.out]
      clear HT HH
      go_wp2_with fail
      go_loopw [3, 4] (fun sv iv wr => ∃ (j : Nat), j ≤ s.length ∧ iv = .int .i64 j ∧ sv = .string ⟨(H ++ stampT (s.take j)).toArray⟩ ∧ wr = wz) (fun _ iv _ => s.length - (intOf iv).toNat)
      case atStart => exact ⟨0, Nat.zero_le _, rfl, by rw [List.take_zero, stampT_nil, List.append_nil]; try simp, rfl⟩
      case round =>
        obtain ⟨j, hj, rfl, rfl, rfl⟩ := hrel
        rename World => wr
        by_cases hlt : j < s.length
        · obtain ⟨b1, o1, rfl, hc1⟩ := HR.out _ HBz.out j hlt
          obtain ⟨z1, z2⟩ := HZ.out j hlt
          have hL := HLen.out j hj
          have HST : Hid (stampT (s.take (j + 1)) = stampT (s.take j) ++ 32 :: dgs (s.getD j 0).toNat) := by
            show _ = _
            rw [List.take_add_one, List.getElem?_eq_getElem hlt, show s.getD j 0 = s[j] by simp [hlt]]
            exact stampT_snoc _ _
          generalize s.getD j 0 = z at *
          have HD : Hid _ := digits_any z z1 z2 _ rfl
          have l5 := dgs_small (n := z.toNat) (by omega)
          generalize dgs z.toNat = D at *
          obtain ⟨L, HLL⟩ : ∃ L, Hid (L = H ++ stampT (s.take j)) := ⟨_, rfl⟩
          have hLl : L.length ≤ 2000 := by rw [HLL.out]; simp; omega
          rw [← HLL.out]
          have b5 : (⟨L.toArray⟩ : ByteArray) ++ ⟨#[32]⟩ = ⟨(L ++ [32]).toArray⟩ := bcat _ [32]
          have b6 : (⟨(L ++ [32]).toArray⟩ : ByteArray) ++ ⟨D.toArray⟩ = ⟨(L ++ [32] ++ D).toArray⟩ := bcat _ _
          go_wp2_with fail
          refine Calls.mono (HD.out _) ?_
          rintro e w2 ⟨rfl, h2⟩
          obtain rfl := h2.symm
          clear h2
          go_wp2_with fail
          go_roundw
          case rel => exact ⟨j + 1, by omega, by go_num, by rw [HST.out, ← List.append_assoc, ← HLL.out]; try simp, trivial⟩
          case measure => simp [intOf]; omega
        · have hjn : j = s.length := by omega
          have HE : Hid (H ++ stampT (s.take j) = T) := by show _ = _; rw [hjn, List.take_length, HT2.out]
          rw [HE.out]
          clear hjn HE HT2
          go_wp2_with fail
          go_ret
          exact ⟨rfl, HBz.out⟩

theorem rtext_ev (e : Ev) (sv : Value) (w : World) (hv : RI w sv e.s) (ho : okE e = true) :
    Calls Tryd.prog 13 #[EvV e sv] w fun x w' => x = .returned (.string ⟨(textE e).toArray⟩) ∧ Below w.heap.size w w' := by
  obtain ⟨k1, k2, i1, i2, t1, t2, kt⟩ := okE_head ho
  obtain ⟨k, i, t, s⟩ := e
  dsimp only at k1
  obtain ⟨q, rfl⟩ : ∃ q : Nat, k = (q : Int) := ⟨k.toNat, by omega⟩
  exact rtext_in q i t s sv w hv ho _ (by unfold textE; rw [if_pos ho])

set_option maxRecDepth 1000000 in
set_option maxHeartbeats 1000000 in
theorem rtext_no (e : Ev) (sv : Value) (w : World) (hv : RI w sv e.s) (hn : e.s.length ≤ 1000000) (ho : okE e = false) :
    Calls Tryd.prog 13 #[EvV e sv] w fun x w' => x = .returned (.string ⟨(textE e).toArray⟩) ∧ Below w.heap.size w w' := by
  have HX : Hid (Below w.heap.size w (w.alloc (.cells #[.int .i64 e.k, .int .i64 e.i, .int .i64 e.t, sv] 25))) := (Below.refl _ _).alloc (Nat.le_refl _) _
  have HC : Hid (Calls Tryd.prog 23 #[.agg #[.int .i64 e.k, .int .i64 e.i, .int .i64 e.t, sv]] (w.alloc (.cells #[.int .i64 e.k, .int .i64 e.i, .int .i64 e.t, sv] 25)) fun x w' => x = .returned (.bool (okE e)) ∧ Below (w.alloc (.cells #[.int .i64 e.k, .int .i64 e.i, .int .i64 e.t, sv] 25)).heap.size (w.alloc (.cells #[.int .i64 e.k, .int .i64 e.i, .int .i64 e.t, sv] 25)) w') := rright_ev e sv _ (hv.later HX.out) hn
  rw [ho] at HC
  have HT : Hid (textE e = []) := by show _ = _; unfold textE; rw [ho]; rfl
  rw [HT.out]
  obtain ⟨sa, sc, rfl, _, _, hrr⟩ := hv
  clear hrr hn ho HT
  unfold EvV
  go_enter Tryd.func13, Tryd.ntmps13
  go_wp2_with fail
  refine Calls.mono HC.out ?_
  rintro e w1 ⟨rfl, hb1⟩
  have HB1 : Hid (Below w.heap.size w w1) := HX.out.trans (hb1.mono (by simp))
  clear hb1 HX HC
  go_wp2_with fail
  go_ret
  exact ⟨rfl, HB1.out⟩
end Go.Proofs.YtcnodkkdhkkicaaDoor
