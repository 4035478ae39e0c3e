/- Texts of the seat, packed: Ge Gf Gt At. -/
import Derived.Test.YtijkgdbabikojaaGreatP18
import Derived.Test.YtijkgdbabikojaaGreatP04
import Derived.Test.YtijkgdbabikojaaGreatP10
import Derived.Test.YtijkgdbabikojaaGreatP16
import Derived.Deep.RegionHeld
import Derived.Deep.RegionHeldLaw
import Derived.WalkKit
import Derived.OwnWalkIn
import Derived.TacticsInMore
import Derived.Test.YtijkgdbabikojaaGreatP13
/- The walk over branch.framesText. -/
namespace Go.Proofs.YtijkgdbabikojaaGreat
open Go.RowKit Go.Shelf
set_option maxRecDepth 1000000
set_option linter.unusedVariables false
attribute [local go_sem] Oper.semAt_some

/-- An append whose run is known. -/
theorem wpListIn_append_run {F : Fence} {n : Nat} {P : Program} {w : World} {ops : Array Oper} {rest : List Oper} {o : Oper} {a : Act} {Q : Exit → Act → World → Prop}
    (hg : o.guard = none) (s x : Operand) (t : TypeId) (hop : o.op = Op.call { callee := Callee.builtin Builtin.append, args := #[s, x], argTypes := #[t, t] })
    {v xv v' : Value} {w' : World} (hs : a.eval s = v) (hx : a.eval x = xv) (hrun : (Builtin.append_ #[t, t] o.type #[v, xv]).run P w = .ok v' w') (hK : wpListIn F n P ops Q rest (a.put o.dst v') w') :
    wpListIn F n P ops Q (o :: rest) a w := by
  refine wpListIn_plain hg fun K hK' => ?_
  unfold Oper.wpIn
  refine ⟨?_, ?_⟩
  · simp [Oper.about, hop, resolve, Target.leads, Sem.run_pure]
  · rw [Oper.semAt_plain F _ _ (by rw [hop]; intro c hc'; cases hc')]
    simp [execOp, hop, resolve, invoke, builtin, hs, hx, hrun, Result.andThen]
    exact hK' _ _ hK

theorem frF_mem (B : List UInt8) : ∀ (f p : Nat) (x : List UInt8 × Nat), x ∈ frF B f p → x.1.length ≤ 1024 ∧ x.2 ≤ B.length
  | 0, p, x, h => by cases h
  | f + 1, p, x, h => by
    by_cases hz : (Fr.takeP B p).2.2 = 0
    · rw [frF_yes hz] at h
      have := Fr.takeP_next hz
      rcases List.mem_cons.1 h with rfl | h
      · exact ⟨this.2.2.2, this.2.1⟩
      · exact frF_mem B f _ x h
    · rw [frF_no hz] at h; cases h

theorem frF_sum (B : List UInt8) : ∀ (f p k : Nat), p ≤ B.length → (((frF B f p).take k).map Prod.fst).flatten.length + p ≤ B.length
  | 0, p, k, h => by simp [frF]; exact h
  | f + 1, p, 0, h => by simp; exact h
  | f + 1, p, k + 1, h => by
    by_cases hz : (Fr.takeP B p).2.2 = 0
    · have hn := Fr.takeP_next hz
      rw [frF_yes hz, List.take_succ_cons, List.map_cons, List.flatten_cons, List.length_append]
      have := frF_sum B f (Fr.takeP B p).2.1 k hn.2.1
      simp only
      omega
    · rw [frF_no hz]; simp; exact h

def fstF (xs : List (List UInt8 × Nat)) (k : Nat) : List UInt8 := ((xs.take k).map Prod.fst).flatten
theorem fstF_succ {xs : List (List UInt8 × Nat)} {k : Nat} {x : List UInt8 × Nat} (h : xs[k]? = some x) : fstF xs (k + 1) = fstF xs k ++ x.1 := by
  unfold fstF
  rw [List.take_add_one, h]
  simp
theorem fstF_len (B : List UInt8) (k : Nat) : (fstF (frL B) k).length ≤ B.length := by
  have := frF_sum B (B.length + 1) 0 k (Nat.zero_le _)
  simpa [fstF, frL] using this

/-- What framesText has, when k frames are seen. -/
structure TfS (n0 : Nat) (bv : Value) (w0 : World) (W : World) (T : Nat → Prop) : Prop where
  bb : Boxed W n0 34 bv
  t0 : ¬ T n0
  t1 : ¬ T (n0 + 1)
  t2 : ¬ T (n0 + 1 + 1)
  t3 : ¬ T (n0 + 1 + 1 + 1)
  t4 : ¬ T (n0 + 1 + 1 + 1 + 1)
  bel : Below n0 w0 W
  hT : ∀ b, b < n0 → ¬ T b
  le : n0 + 5 ≤ W.heap.size

theorem TfS.mv {n0 : Nat} {bv : Value} {w0 A B : World} {T T' : Nat → Prop} (h : TfS n0 bv w0 A T) (hm : Mv T A T' B) : TfS n0 bv w0 B T' := by
  have hle := h.le
  exact ⟨boxed_mv h.bb hm h.t0, hm.no (by omega) h.t0, hm.no (by omega) h.t1, hm.no (by omega) h.t2, hm.no (by omega) h.t3, hm.no (by omega) h.t4, hm.below h.bel h.hT (by omega), fun b hb => hm.no (by omega) (h.hT b hb), Nat.le_trans hle hm.size⟩

theorem TfS.set {n0 : Nat} {bv : Value} {w0 W : World} {T : Nat → Prop} (h : TfS n0 bv w0 W T) (b : Nat) (v : Value) (h0 : n0 < b) : TfS n0 bv w0 (W.setCell ⟨b, 0, none⟩ v) T :=
  ⟨h.bb.other (by omega) _, h.t0, h.t1, h.t2, h.t3, h.t4, h.bel.setCell (p := ⟨b, 0, none⟩) (by show n0 ≤ b; omega) _, h.hT, by simpa using h.le⟩
theorem owns_up {w : World} {N : Nat} {e : TypeId} {size : Nat} {v : Value} {n : Nat} {xs : List Value} (h : w.ownsRow 0 e size v n xs) (hg : ∀ g, v.ownBlock = some g → N ≤ g) : w.ownsRow N e size v n xs := by
  refine ⟨h.1, ?_⟩
  rcases h.2 with hn | ⟨g, cap, cur, rfl, hb, rest⟩
  · exact .inl hn
  · exact .inr ⟨g, cap, cur, rfl, hg g rfl, rest⟩
theorem TfS.grown {n0 : Nat} {bv : Value} {w0 W W' : World} {T : Nat → Prop} {row : Option Nat} (h : TfS n0 bv w0 W T) (hg : W.grownBy W' row) (hr : ∀ g, row = some g → n0 + 5 ≤ g) : TfS n0 bv w0 W' T := by
  have hle := h.le
  refine ⟨(hg.block n0 h.bb.lt (fun e => by have := hr n0 e.symm; omega)).trans h.bb, h.t0, h.t1, h.t2, h.t3, h.t4, h.bel.trans ⟨hg.os, hg.tape, hg.output, hg.size, fun k hk => hg.block k (by omega) (fun e => by have := hr k e.symm; omega)⟩, h.hT, Nat.le_trans hle hg.size⟩
theorem owns_set {w : World} {N : Nat} {e : TypeId} {size : Nat} {v : Value} {n : Nat} {xs : List Value} (h : w.ownsRow N e size v n xs) (b : Nat) (u : Value) (hb : b < N) : (w.setCell ⟨b, 0, none⟩ u).ownsRow N e size v n xs := by
  refine ⟨h.1, ?_⟩
  rcases h.2 with hn | ⟨g, cap, cur, rfl, hg, hl, rest⟩
  · exact .inl hn
  · refine .inr ⟨g, cap, cur, rfl, hg, ?_, rest⟩
    rw [Below.heap_setCell _ _ _ _ (show g ≠ b by omega)]
    exact hl
theorem boxed_grown {W W' : World} {row : Option Nat} {b N : Nat} {t : TypeId} {v : Value} (h : Boxed W b t v) (hg : W.grownBy W' row) (hr : ∀ g, row = some g → N ≤ g) (hb : b < N) : Boxed W' b t v := (hg.block b h.lt (fun e => by have := hr b e.symm; omega)).trans h

/-- A row of bytes of the call's own, in a box. -/
def OwB (n0 : Nat) (W : World) (T : Nat → Prop) (t : List UInt8) : Prop := ∃ v, Boxed W (n0 + 1 + 1 + 1) 34 v ∧ W.ownsRow (n0 + 5) 5 1 v t.length (Dk.bvs t) ∧ ∀ g, v.ownBlock = some g → ¬ T g

theorem owns_mv {A B : World} {T T' : Nat → Prop} (hm : Mv T A T' B) {N : Nat} {e : TypeId} {size : Nat} {v : Value} {n : Nat} {xs : List Value} (ho : A.ownsRow N e size v n xs) (hv : ∀ g, v.ownBlock = some g → ¬ T g) : B.ownsRow N e size v n xs := by
  refine ⟨ho.1, ?_⟩
  rcases ho.2 with hn | ⟨g, cap, cur, rfl, hb, hg, rest⟩
  · exact .inl hn
  · refine .inr ⟨g, cap, cur, rfl, hb, ?_, rest⟩
    rw [hm.same g (Array.getElem?_eq_some_iff.1 hg).1 (hv g rfl)]
    exact hg

theorem OwB.mv {n0 : Nat} {A B : World} {T T' : Nat → Prop} {t : List UInt8} (h : OwB n0 A T t) (hm : Mv T A T' B) (ht : ¬ T (n0 + 1 + 1 + 1)) : OwB n0 B T' t := by
  obtain ⟨v, h1, h2, h3⟩ := h
  exact ⟨v, boxed_mv h1 hm ht, owns_mv hm h2 h3, fun g hg => hm.no (World.ownsRow.lt h2 g hg).2 (h3 g hg)⟩

structure TgS (n0 : Nat) (bv : Value) (w0 : World) (N : Nat) (xs : List (List UInt8 × Nat)) (k : Nat) (W : World) (T : Nat → Prop) : Prop where
  s : TfS n0 bv w0 W T
  b1 : Boxed W (n0 + 1) 9 (.string ⟨#[]⟩)
  b2 : Boxed W (n0 + 1 + 1) 4 (.bool false)
  own : OwB n0 W T (fstF xs k)
  last : ∃ q, Boxed W (n0 + 1 + 1 + 1 + 1) 4 (.bool q) ∧ txG N [] false xs = txG N (fstF xs k) q (xs.drop k)

theorem TgS.mv {n0 : Nat} {bv : Value} {w0 A B : World} {N : Nat} {xs : List (List UInt8 × Nat)} {k : Nat} {T T' : Nat → Prop} (h : TgS n0 bv w0 N xs k A T) (hm : Mv T A T' B) : TgS n0 bv w0 N xs k B T' := by
  obtain ⟨q, h1, h2⟩ := h.last
  exact ⟨h.s.mv hm, boxed_mv h.b1 hm h.s.t1, boxed_mv h.b2 hm h.s.t2, h.own.mv hm h.s.t3, q, boxed_mv h1 hm h.s.t4, h2⟩

/-- How it may be left. -/
def TxX (n0 : Nat) (bv : Value) (w0 : World) (N : Nat) (xs : List (List UInt8 × Nat)) (c : Code) (W : World) (T : Nat → Prop) : Prop :=
  TfS n0 bv w0 W T ∧ ((c = .ret ∧ ∃ t, Boxed W (n0 + 1) 9 (.string ⟨t.toArray⟩) ∧ Boxed W (n0 + 1 + 1) 4 (.bool true) ∧ txG N [] false xs = some t) ∨
    (c = .exit 0 ∧ Boxed W (n0 + 1) 9 (.string ⟨#[]⟩) ∧ Boxed W (n0 + 1 + 1) 4 (.bool false) ∧ txG N [] false xs = none))
theorem TxX.mv {n0 : Nat} {bv : Value} {w0 A B : World} {N : Nat} {xs : List (List UInt8 × Nat)} {c : Code} {T T' : Nat → Prop} (h : TxX n0 bv w0 N xs c A T) (hm : Mv T A T' B) : TxX n0 bv w0 N xs c B T' := by
  obtain ⟨h0, h⟩ := h
  refine ⟨h0.mv hm, ?_⟩
  rcases h with ⟨rfl, t, h1, h2, h3⟩ | ⟨rfl, h1, h2, h3⟩
  · exact .inl ⟨rfl, t, boxed_mv h1 hm h0.t1, boxed_mv h2 hm h0.t2, h3⟩
  · exact .inr ⟨rfl, boxed_mv h1 hm h0.t1, boxed_mv h2 hm h0.t2, h3⟩

/-- What is given away at the end. -/
theorem leave2 {fn : Func} {y1 y2 : TypeId} {tmps : Array Value} {W w : World} {B1 B2 D N : Nat} {v1 v2 : Value} {R : Ending → World → Prop}
    (hr : ∀ (wx : World), wx.cell? ⟨B1, 0, none⟩ = some v1 → wx.cell? ⟨B2, 0, none⟩ = some v2 → (results fn tmps).run Tryz.prog wx = .ok (.tuple #[v1, v2]) wx)
    (h1 : Boxed W B1 y1 v1) (h2 : Boxed W B2 y2 v2) (hD : W.heap[D]? = some (.deferred (some []))) (hN : N ≤ D) (hb : Below N w W)
    (hR : ∀ W', Below N w W' → (∀ b, b ≠ D → W'.heap[b]? = W.heap[b]?) → R (.returned (.tuple #[v1, v2])) W') :
    bodyPostM Fence.wide 0 Tryz.prog fn R .ret { tmps := tmps, defers := [{ target := .collected D, args := #[] }] } W := by
  have n1 : B1 ≠ D := fun e => by subst e; rw [show W.heap[B1]? = _ from h1] at hD; cases hD
  have n2 : B2 ≠ D := fun e => by subst e; rw [show W.heap[B2]? = _ from h2] at hD; cases hD
  have e1 : Boxed (W.putObj D (.deferred none)) B1 y1 v1 := (World.putObj_heap_other n1).trans h1
  have e2 : Boxed (W.putObj D (.deferred none)) B2 y2 v2 := (World.putObj_heap_other n2).trans h2
  refine ⟨by simp, .inl ⟨_, _, rfl, run_takeDeferred hD, ?_⟩⟩
  refine ⟨_, hr _ e1.cell e2.cell, hR _ ?_ (fun b hb => World.putObj_heap_other hb)⟩
  exact ⟨hb.os, hb.tape, hb.output, by rw [World.size_putObj']; exact hb.size, fun k hk => (World.putObj_heap_other (by omega)).trans (hb.block k hk)⟩

theorem results45 (t0 t1 : Value) (B1 B2 : Nat) (rest : List Value) (v1 v2 : Value) (wx : World) (h1 : wx.cell? ⟨B1, 0, none⟩ = some v1) (h2 : wx.cell? ⟨B2, 0, none⟩ = some v2) :
    (results Tryz.f42 ⟨t0 :: t1 :: .pointer (some ⟨B1, 0, none⟩) :: .pointer (some ⟨B2, 0, none⟩) :: rest⟩).run Tryz.prog wx = .ok (.tuple #[v1, v2]) wx := by
  simp [results, Tryz.f42, go_sem, h1, h2]

/-- What is told, as values. -/
def tV (o : Option (List UInt8)) : Value := .string ⟨(o.getD []).toArray⟩
def tB (o : Option (List UInt8)) : Value := .bool o.isSome

set_option maxHeartbeats 4000000 in
theorem framesText_any (x : Value) (B : List UInt8) (w : World) (hx : RB w x B) (hs : B.length ≤ 100000) :
    Calls Tryz.prog 42 #[x] w fun e w' => e = .returned (.tuple #[tV (toldG B), tB (toldG B)]) ∧ Below w.heap.size w w' := by
  have HX : Hid (RB w x B) := hx
  obtain ⟨a, c, rfl, q1, q2, q3, q4⟩ := hx
  clear q1 q2 q3 q4
  have HXl : Hid (∀ b n c', Value.slice a B.length c = .slice (some b) n c' → 0 < B.length → b.block < w.heap.size) := fun b n c' he hl => by
    obtain ⟨a', c2, e2, _, _, _, hc⟩ := HX.out
    rw [he] at e2
    cases e2
    obtain ⟨b2, off, e3, hcell⟩ := hc 0 hl
    cases e3
    exact World.block_lt_of_cell? w _ hcell
  obtain ⟨O, HO⟩ : ∃ O, Hid (O = toldG B) := ⟨_, rfl⟩
  rw [← HO.out]
  unfold toldG at HO
  have HFI : Hid (∀ (A : Nat) (T : Nat → Prop) (W : World), Boxed W A 34 (.slice a B.length c) → Below w.heap.size w W → T A → (∀ b, T b → b < W.heap.size) → Itr Tryz.prog 106 #[.pointer (some ⟨A, 0, none⟩)] encF (frL B) w.heap.size T W) := fun A T W h1 h2 h3 h4 => frames_itr A _ B w.heap.size T W h1 (HX.out.later h2) hs h3 (fun b n c' he hl => .inl (HXl.out b n c' he hl)) h4 h2.size
  have HM : Hid (∀ k, ∀ x : List UInt8 × Nat, (frL B)[k]? = some x → x.1.length ≤ 1024 ∧ x.2 ≤ B.length) := fun k x h => frF_mem B _ _ x (List.mem_of_getElem? h)
  have HL : Hid (∀ k, (fstF (frL B) k).length ≤ 100000) := fun k => Nat.le_trans (fstF_len B k) hs
  generalize frL B = xs at *
  generalize B.length = sn at *
  clear HX HXl
  refine (callsIn_wide (n := 0)).1 ?_
  refine callsIn_of_wp_marks Tryz.func42 rfl trivial ?_ rfl
  simp only [Tryz.ntmps42, List.size_toArray, List.length_cons, List.length_nil, Nat.reduceAdd, Nat.reduceSub, Array.replicate_succ, Array.replicate_zero, List.push_toArray, List.append_toArray, List.nil_append, List.cons_append]
  gi_wp2_with (refine ⟨trivial, rfl, ?_⟩; refine (callsIn_wide.2 (frames_any _ _ _ _)).mono ?_; rintro e w' ⟨rfl, rfl⟩)
  have b0 := ((((((Boxed.new w 34 (.slice a sn c)).alloc (.cells #[.string ⟨#[]⟩] 9)).alloc (.cells #[.bool false] 4)).alloc (.cells #[.slice none 0 0] 34)).alloc (.cells #[.bool false] 4)).alloc (.cells #[.slice a sn c] 34))
  have b1 := (((((Boxed.new (w.alloc (.cells #[.slice a sn c] 34)) 9 (.string ⟨#[]⟩)).alloc (.cells #[.bool false] 4)).alloc (.cells #[.slice none 0 0] 34)).alloc (.cells #[.bool false] 4)).alloc (.cells #[.slice a sn c] 34))
  have b2 := ((((Boxed.new ((w.alloc (.cells #[.slice a sn c] 34)).alloc (.cells #[.string ⟨#[]⟩] 9)) 4 (.bool false)).alloc (.cells #[.slice none 0 0] 34)).alloc (.cells #[.bool false] 4)).alloc (.cells #[.slice a sn c] 34))
  have b3 := (((Boxed.new (((w.alloc (.cells #[.slice a sn c] 34)).alloc (.cells #[.string ⟨#[]⟩] 9)).alloc (.cells #[.bool false] 4)) 34 (.slice none 0 0)).alloc (.cells #[.bool false] 4)).alloc (.cells #[.slice a sn c] 34))
  have b4 := ((Boxed.new ((((w.alloc (.cells #[.slice a sn c] 34)).alloc (.cells #[.string ⟨#[]⟩] 9)).alloc (.cells #[.bool false] 4)).alloc (.cells #[.slice none 0 0] 34)) 4 (.bool false)).alloc (.cells #[.slice a sn c] 34))
  have b5 := (Boxed.new (((((w.alloc (.cells #[.slice a sn c] 34)).alloc (.cells #[.string ⟨#[]⟩] 9)).alloc (.cells #[.bool false] 4)).alloc (.cells #[.slice none 0 0] 34)).alloc (.cells #[.bool false] 4)) 34 (.slice a sn c))
  simp only [World.size_alloc] at b1 b2 b3 b4 b5
  have hB0 : Below w.heap.size w ((((((w.alloc (.cells #[.slice a sn c] 34)).alloc (.cells #[.string ⟨#[]⟩] 9)).alloc (.cells #[.bool false] 4)).alloc (.cells #[.slice none 0 0] 34)).alloc (.cells #[.bool false] 4)).alloc (.cells #[.slice a sn c] 34)) := (((((((Below.refl _ w).alloc (by simp) _).alloc (by simp) _).alloc (by simp; omega) _).alloc (by simp; omega) _).alloc (by simp; omega) _).alloc (by simp; omega) _)
  have hsz : ((((((w.alloc (.cells #[.slice a sn c] 34)).alloc (.cells #[.string ⟨#[]⟩] 9)).alloc (.cells #[.bool false] 4)).alloc (.cells #[.slice none 0 0] 34)).alloc (.cells #[.bool false] 4)).alloc (.cells #[.slice a sn c] 34)).heap.size = w.heap.size + 6 := by simp
  obtain ⟨W0, hW0⟩ : ∃ W0, ((((((w.alloc (.cells #[.slice a sn c] 34)).alloc (.cells #[.string ⟨#[]⟩] 9)).alloc (.cells #[.bool false] 4)).alloc (.cells #[.slice none 0 0] 34)).alloc (.cells #[.bool false] 4)).alloc (.cells #[.slice a sn c] 34)) = W0 := ⟨_, rfl⟩
  rw [hW0] at b0 b1 b2 b3 b4 b5 hB0 hsz ⊢
  clear hW0
  have HSZ : Hid (W0.heap.size = w.heap.size + 6) := hsz
  refine range_law (P := Tryz.prog) (gf := 106) (lb := #[.pointer (some ⟨w.heap.size + 1 + 1 + 1 + 1 + 1, 0, none⟩)]) rfl (enters_of Tryz.func106 (by kernel_rfl) rfl) (enc := encF) (xs := xs) (n0 := w.heap.size) (T := fun b => b = w.heap.size + 1 + 1 + 1 + 1 + 1)
    (HFI.out _ _ W0 b5 hB0 rfl (fun b hb => by omega)) (fun b hb => by omega) (by omega)
    (fun x F W T args h => by obtain ⟨_, _, rfl, _⟩ := h; rfl)
    (fun k W T => Hid (TgS w.heap.size (.slice a sn c) w sn xs k W T)) (fun c' k W T => Hid (TxX w.heap.size (.slice a sn c) w sn xs c' W T))
    (fun k A TA B TB h hm => h.out.mv hm) (fun c' k A TA B TB h hm => h.out.mv hm)
    ⟨⟨b0, by omega, by omega, by omega, by omega, by omega, hB0, fun b hb => by omega, by omega⟩, b1, b2, ⟨_, b3, World.ownsRow_nil _ _ _ _, fun g hg => by cases hg⟩, false, b4, by rw [List.drop_zero]; rfl⟩ ?round ?done ?stop
  case round =>
    rintro m l k x args F W T1 TB hxk ⟨va, vc, rfl, hrb, hva⟩ _ HI hTB hup hnc hlt
    have HVA : Hid (∀ b, va = some b → b.block < W.heap.size ∧ ¬ TB b.block ∨ x.1.length = 0) := fun b hb => by
      by_cases h0 : x.1.length = 0
      · exact .inr h0
      refine .inl ⟨(hva b hb).1, ?_⟩
      rw [hTB]
      rintro (h | h)
      · exact (hva b hb).2 h
      · obtain ⟨o, ho, hc⟩ := hnc _ h
        obtain ⟨a', c', e', _, _, _, hcl⟩ := hrb
        obtain ⟨bb, off, e2, hcell⟩ := hcl 0 (by omega)
        cases e'
        rw [hb] at e2
        cases e2
        obtain ⟨o2, ho2, hc2⟩ := cells_of_cell hcell
        rw [ho] at ho2
        cases ho2
        rw [hc] at hc2
        cases hc2
    clear hTB hnc hva
    obtain ⟨hx1, hx2⟩ := HM.out k x hxk
    have HFS : Hid _ := fstF_succ hxk
    have HDR : Hid (xs.drop k = x :: xs.drop (k + 1)) := by
      obtain ⟨h1, h2⟩ := List.getElem?_eq_some_iff.1 hxk
      rw [← h2]
      exact List.drop_eq_getElem_cons h1
    obtain ⟨bd, e⟩ := x
    simp only at hx1 hx2 HFS hrb HVA
    gi_wp2
    refine ⟨HI, Rv.refl _ _ _, fun W2 HI2 hbz => ?_⟩
    have hsz2 := hbz.size
    have HP : Hid _ := hrb.bz hbz
    have h2 := HI2.out
    obtain ⟨q, bq, hq⟩ := h2.last
    rw [HDR.out] at hq
    have HQ : Hid _ := hq
    have cb := h2.s.bb.cell
    clear hq hrb
    obtain ⟨v, hv1, hv2, hv3⟩ := h2.own
    have c1 := h2.b1.cell
    have f1 := h2.b1.frozen
    have n2 := h2.b2
    have c2 := h2.b2.cell
    have f2 := h2.b2.frozen
    have c3 := hv1.cell
    have f3 := hv1.frozen
    have c4 := bq.cell
    have f4 := bq.frozen
    have HS2 : Hid _ := h2.s
    have HV2 : Hid _ := hv2
    have hl5 := h2.s.le
    obtain ⟨va', vc', rfl, hrv', hvl⟩ := owns_enc (l := fstF xs k) hv2 rfl
    have HRV : Hid _ := hrv'
    by_cases hb0 : bd.length = 0
    · by_cases he : e = sn
      · have HT : Hid (txG sn [] false xs = some (fstF xs k)) := by
          show _ = _
          rw [HQ.out, txG, if_pos ⟨hb0, he⟩]
        subst he
        rw [hb0]
        have hstr := Fr.string_of_RB HRV.out
        have b22 := n2.other (B' := w.heap.size + 1) (by omega) (.string ⟨(fstF xs k).toArray⟩)
        have c2' := b22.cell
        have f2' := b22.frozen
        have HB1 : Hid _ := h2.b1
        have HB22 : Hid _ := b22
        clear HV2 hv2 hv3 hrv' HRV hv1 bq n2
        gi_wp2
        exact ⟨⟨(HS2.out.set _ _ (by omega)).set _ _ (by omega), .inl ⟨rfl, _, (Boxed.set _ HB1.out).other (by omega) _, Boxed.set _ HB22.out, HT.out⟩⟩, (Rv.setCell _ _ (by omega) HS2.out.t1).trans (Rv.setCell _ _ (by omega) HS2.out.t2)⟩
      · have HT : Hid (txG sn [] false xs = none) := by
          show _ = _
          rw [HQ.out, txG, if_neg (fun h => he h.2), if_pos (.inl hb0)]
        rw [hb0]
        have he2 : ((e : Int) == (sn : Int)) = false := by simpa using (by omega : ¬ (e : Int) = sn)
        have HB1 : Hid _ := h2.b1
        have HB2 : Hid _ := h2.b2
        clear HV2 hv2 hv3 hrv' HRV hv1 bq n2
        gi_wp2
        exact ⟨⟨HS2.out, .inr ⟨rfl, HB1.out, HB2.out, HT.out⟩⟩, Rv.refl _ _ _⟩
    · have hb0' : ((bd.length : Int) == 0) = false := by simpa using hb0
      have hne1 : ¬ (bd.length = 0 ∧ e = sn) := fun h => hb0 h.1
      by_cases hq1 : q = true
      · have HT : Hid (txG sn [] false xs = none) := by
          show _ = _
          rw [HQ.out, txG, if_neg hne1, if_pos (.inr (.inl hq1))]
        subst hq1
        have HB1 : Hid _ := h2.b1
        have HB2 : Hid _ := h2.b2
        clear HV2 hv2 hv3 hrv' HRV hv1 bq n2 HQ
        generalize bd.length = bl at *
        gi_wp2
        exact ⟨⟨HS2.out, .inr ⟨rfl, HB1.out, HB2.out, HT.out⟩⟩, Rv.refl _ _ _⟩
      · have hq2 : q = false := by simpa using hq1
        subst hq2
        by_cases h1k : 1000 < bd.length
        · have HT : Hid (txG sn [] false xs = none) := by
            show _ = _
            rw [HQ.out, txG, if_neg hne1, if_pos (.inr (.inr h1k))]
          have HB1 : Hid _ := h2.b1
          have HB2 : Hid _ := h2.b2
          clear HV2 hv2 hv3 hrv' HRV hv1 bq n2 HQ
          generalize bd.length = bl at *
          have h1k2 : (1000 : Int) < (bl : Int) := by omega
          gi_wp2
          exact ⟨⟨HS2.out, .inr ⟨rfl, HB1.out, HB2.out, HT.out⟩⟩, Rv.refl _ _ _⟩
        · have HT : Hid (txG sn [] false xs = txG sn (fstF xs (k + 1)) (decide (bd.length < 1000)) (xs.drop (k + 1))) := by
            show _ = _
            rw [HQ.out, txG, if_neg hne1, if_neg (fun h => by rcases h with h | h | h; exact hb0 h; exact hq1 h; exact h1k h), HFS.out]
          obtain ⟨v', w', hrun, ho', hgr, hblk⟩ := Dk.run_append_b W2 34 _ _ _ bd (Fr.owns_low HV2.out (Nat.zero_le _)) HP.out (by have := HL.out k; omega) (by omega)
          rw [← HFS.out] at ho'
          have HRW : Hid (∀ g, (Value.slice va' (fstF xs k).length vc').ownBlock = some g → w.heap.size + 5 ≤ g) := fun g hg => (World.ownsRow.lt HV2.out g hg).1
          have HUP : Hid (∀ g, v'.ownBlock = some g → w.heap.size + 5 ≤ g) := fun g hg => by
            rcases hblk with h | h
            · exact HRW.out g (h ▸ hg)
            · rw [h] at hg; cases hg; exact hl5
          have HNT : Hid (∀ g, v'.ownBlock = some g → ¬ TB g) := fun g hg => by
            rcases hblk with h | h
            · exact hv3 g (h ▸ hg)
            · rw [h] at hg; cases hg; exact fun ht => by have := hup _ ht; omega
          have HO' : Hid _ := owns_up ho' HUP.out
          have HS3 : Hid _ := h2.s.grown hgr HRW.out
          have HRV3 : Hid (Rv w.heap.size TB W2 w') := Rv.grown hgr (fun r hr => ⟨by have := HRW.out r hr; omega, hv3 r hr⟩) (by omega)
          have b13 := boxed_grown h2.b1 hgr HRW.out (by omega)
          have b23 := boxed_grown h2.b2 hgr HRW.out (by omega)
          have b33 := boxed_grown hv1 hgr HRW.out (by omega)
          have b43 := boxed_grown bq hgr HRW.out (by omega)
          have c33 := b33.cell
          have f33 := b33.frozen
          have b44 := b43.other (B' := w.heap.size + 1 + 1 + 1) (by omega) v'
          have c44 := b44.cell
          have f44 := b44.frozen
          have h1k2 : ¬ (1000 : Int) < (bd.length : Int) := by omega
          have HB13 : Hid _ := b13
          have HB23 : Hid _ := b23
          have HB33 : Hid _ := b33
          have HB44 : Hid _ := b44
          obtain ⟨v'a, v'c, hv'e⟩ : ∃ x y, v' = .slice x (fstF xs (k + 1)).length y := by
            rcases HO'.out.2 with ⟨e1, e2⟩ | ⟨g, cap, cur, e1, _⟩
            · rw [e2]; exact ⟨none, 0, e1⟩
            · exact ⟨_, _, e1⟩
          have hsl : (fstF xs k).length ≤ 100000 := HL.out k
          clear b13 b23 b33 b43 b44 ho' hblk hgr hv3 hv2 hrv' HRV hv1 bq n2 HQ HV2 HRW HFS hvl c1 c2 f1 f2 h2
          have HBL : Hid (decide (bd.length < 1000) = decide ((bd.length : Int) < 1000)) := by
            show _ = _
            exact decide_eq_decide.2 (by omega)
          rw [HBL.out] at HT
          generalize bd.length = bl at *
          subst hv'e
          gi_wp2_with (gi_at_builtin; refine wpListIn_append_run rfl _ _ 34 rfl rfl rfl hrun ?_)
          exact ⟨⟨(HS3.out.set _ _ (by omega)).set _ _ (by omega), (Boxed.other HB13.out (by omega) _).other (by omega) _, (Boxed.other HB23.out (by omega) _).other (by omega) _, ⟨_, (Boxed.set _ HB33.out).other (by omega) _, owns_set (owns_set HO'.out _ _ (by omega)) _ _ (by omega), HNT.out⟩, _, Boxed.set _ HB44.out, HT.out⟩, HRV3.out.trans ((Rv.setCell _ _ (by omega) HS3.out.t3).trans (Rv.setCell _ _ (by omega) HS3.out.t4))⟩
  case done =>
    rintro W T2 HI hold hup hdef _
    have h2 := HI.out
    obtain ⟨q, bq, hq⟩ := h2.last
    rw [List.drop_length, txG, ← HO.out] at hq
    subst hq
    have hle := h2.s.le
    have c1 := h2.b1.cell
    have f1 := h2.b1.frozen
    have b22 := h2.b2.other (B' := w.heap.size + 1) (by omega) (.string ⟨#[]⟩)
    have c2 := b22.cell
    have f2 := b22.frozen
    rw [HSZ.out] at hdef ⊢
    have HB1 : Hid _ := h2.b1
    have HB22 : Hid _ := b22
    have HBL : Hid _ := h2.s.bel
    have HDF : Hid _ := hdef
    clear h2 bq b22 hdef hold hup hsz
    gi_wp2
    refine leave2 (results45 _ _ _ _ _ _ _) ((Boxed.set _ HB1.out).other (by omega) _) (Boxed.set _ HB22.out) ?_ (N := w.heap.size) (by omega) ((HBL.out.setCell (p := ⟨w.heap.size + 1, 0, none⟩) (by show _ ≤ w.heap.size + 1; omega) _).setCell (p := ⟨w.heap.size + 1 + 1, 0, none⟩) (by show _ ≤ w.heap.size + 1 + 1; omega) _) (fun W' h1 _ => ⟨rfl, h1⟩)
    rw [Below.heap_setCell _ _ _ _ (show w.heap.size + 6 ≠ w.heap.size + 1 + 1 by omega), Below.heap_setCell _ _ _ _ (show w.heap.size + 6 ≠ w.heap.size + 1 by omega)]
    exact HDF.out
  case stop =>
    rintro c' k W T2 hk HX hold hup hdef _
    obtain ⟨hs0, hx⟩ := HX.out
    rw [HSZ.out] at hdef ⊢
    have hle := hs0.le
    rcases hx with ⟨rfl, t, b1', b2', ht⟩ | ⟨rfl, b1', b2', ht⟩
    · rw [← HO.out] at ht
      subst ht
      have HB1 : Hid _ := b1'
      have HB2 : Hid _ := b2'
      have HBL : Hid _ := hs0.bel
      have HDF : Hid _ := hdef
      clear b1' b2' hs0 hdef hold hup hsz
      gi_wp2
      exact leave2 (results45 _ _ _ _ _ _ _) HB1.out HB2.out HDF.out (N := w.heap.size) (by omega) HBL.out (fun W' h1 _ => ⟨rfl, h1⟩)
    · rw [← HO.out] at ht
      subst ht
      have c1 := b1'.cell
      have f1 := b1'.frozen
      have b22 := b2'.other (B' := w.heap.size + 1) (by omega) (.string ⟨#[]⟩)
      have c2 := b22.cell
      have f2 := b22.frozen
      have HB1 : Hid _ := b1'
      have HB22 : Hid _ := b22
      have HBL : Hid _ := hs0.bel
      have HDF : Hid _ := hdef
      clear b1' b2' b22 hs0 hdef hold hup hsz
      gi_wp2
      refine leave2 (results45 _ _ _ _ _ _ _) ((Boxed.set _ HB1.out).other (by omega) _) (Boxed.set _ HB22.out) ?_ (N := w.heap.size) (by omega) ((HBL.out.setCell (p := ⟨w.heap.size + 1, 0, none⟩) (by show _ ≤ w.heap.size + 1; omega) _).setCell (p := ⟨w.heap.size + 1 + 1, 0, none⟩) (by show _ ≤ w.heap.size + 1 + 1; omega) _) (fun W' h1 _ => ⟨rfl, h1⟩)
      rw [Below.heap_setCell _ _ _ _ (show w.heap.size + 6 ≠ w.heap.size + 1 + 1 by omega), Below.heap_setCell _ _ _ _ (show w.heap.size + 6 ≠ w.heap.size + 1 by omega)]
      exact HDF.out
end Go.Proofs.YtijkgdbabikojaaGreat

/- The walks over branch's small functions: made, branches, lastFile, has. -/
namespace Go.Proofs.YtijkgdbabikojaaGreat
open Go.RowKit
set_option maxRecDepth 1000000
set_option linter.unusedVariables false

/-- Something that tells how many files there are: a disk, or none. -/
def Cnt (pp : Option Addr) (n : Nat) (w : World) : Prop := ∀ wx, Below w.heap.size w wx → Calls Tryz.prog 76 #[.pointer pp] wx fun e w' => e = .returned (.int .i64 (n : Nat)) ∧ Below wx.heap.size wx w'

theorem Cnt.later {pp : Option Addr} {n : Nat} {w w' : World} (h : Cnt pp n w) (hb : Below w.heap.size w w') : Cnt pp n w' := fun wx hx => h wx (hb.trans (hx.mono hb.size))
theorem cnt_nil (w : World) : Cnt none 0 w := fun wx hb => Dk.n_files none wx ((Dk.dead_nil w).later hb)
theorem cnt_disk {w : World} {p n : Nat} (hc : w.cell? ⟨p, 130, none⟩ = some (.int .i64 n)) (hn : n ≠ 0) : Cnt (some ⟨p, 0, none⟩) n w := fun wx hb =>
  Dk.files_any p n n wx (Dk.cell_later hb hc) hn (Dk.cell_later hb hc)

theorem made_br (pp : Option Addr) (n : Nat) (w : World) (h : Cnt pp n w) (hn : n ≤ 65) : Calls Tryz.prog 36 #[.pointer pp] w fun e w' => e = .returned (.bool (decide (0 < n))) ∧ Below w.heap.size w w' := by
  have H : Hid _ := h w (Below.refl _ _)
  clear h
  go_enter Tryz.func36, Tryz.ntmps36
  go_wp2_with fail
  refine Calls.mono H.out ?_
  rintro e w1 ⟨rfl, hb⟩
  have HB : Hid _ := hb
  clear hb H
  go_wp2_with fail
  go_ret
  refine ⟨?_, HB.out⟩
  simp

theorem branches_any (pp : Option Addr) (n : Nat) (w : World) (h : Cnt pp n w) (hn : n ≤ 65) : Calls Tryz.prog 39 #[.pointer pp] w fun e w' => e = .returned (.int .i64 ((n : Int) - 1)) ∧ Below w.heap.size w w' := by
  have H : Hid _ := h w (Below.refl _ _)
  clear h
  go_enter Tryz.func39, Tryz.ntmps39
  go_wp2_with fail
  refine Calls.mono H.out ?_
  rintro e w1 ⟨rfl, hb⟩
  have HB : Hid _ := hb
  clear hb H
  go_wp2_with fail
  go_ret
  exact ⟨by first | rfl | simp | (congr 2; omega), HB.out⟩

theorem last_any (pp : Option Addr) (n : Nat) (w : World) (h : Cnt pp n w) (hn : n ≤ 65) : Calls Tryz.prog 43 #[.pointer pp] w fun e w' => e = .returned (.int .i64 ((n : Int) - 1)) ∧ Below w.heap.size w w' := by
  have H : Hid _ := branches_any pp n w h hn
  clear h
  go_enter Tryz.func43, Tryz.ntmps43
  go_wp2_with fail
  refine Calls.mono H.out ?_
  rintro e w1 ⟨rfl, hb⟩
  have HB : Hid _ := hb
  clear hb H
  go_wp2_with fail
  go_ret
  exact ⟨by first | rfl | simp, HB.out⟩

/-- Is there such a branch? -/
def hasN (n : Nat) (i : Int) : Bool := decide (0 ≤ i ∧ i < (n : Int) - 1)

theorem has_br (pp : Option Addr) (n : Nat) (i : Int) (w : World) (h : Cnt pp n w) (hn : n ≤ 65) : Calls Tryz.prog 38 #[.pointer pp, .int .i64 i] w fun e w' => e = .returned (.bool (hasN n i)) ∧ Below w.heap.size w w' := by
  have H : Hid _ := branches_any pp n w h hn
  clear h
  by_cases h0 : 0 ≤ i
  · by_cases h1 : i < (n : Int) - 1
    · have hq : hasN n i = true := decide_eq_true ⟨h0, h1⟩
      rw [hq]
      clear hq
      go_enter Tryz.func38, Tryz.ntmps38
      go_wp2_with fail
      refine Calls.mono H.out ?_
      rintro e w1 ⟨rfl, hb⟩
      have HB : Hid _ := hb
      clear hb H
      go_wp2_with fail
      go_ret
      exact ⟨by first | rfl | (simp; done) | (simp; omega), HB.out⟩
    · have hq : hasN n i = false := decide_eq_false (fun h => h1 h.2)
      rw [hq]
      clear hq
      go_enter Tryz.func38, Tryz.ntmps38
      go_wp2_with fail
      refine Calls.mono H.out ?_
      rintro e w1 ⟨rfl, hb⟩
      have HB : Hid _ := hb
      clear hb H
      go_wp2_with fail
      go_ret
      exact ⟨by first | rfl | (simp; done) | (simp; omega), HB.out⟩
  · have hq : hasN n i = false := decide_eq_false (fun h => h0 h.1)
    rw [hq]
    clear hq H
    go_enter Tryz.func38, Tryz.ntmps38
    go_wp2_with fail
    go_ret
    exact ⟨by first | rfl | (simp; done) | (simp; omega), Below.refl _ _⟩
end Go.Proofs.YtijkgdbabikojaaGreat

/- Tools for regions that draw their order, in a function and in a round. -/
namespace Go.Proofs.YtijkgdbabikojaaGreat
open Go.RowKit
set_option linter.unusedVariables false

/-- An operation that yields in every such world is taken first; its slot is named. -/
theorem takeD {P : Program} {ops : Array Oper} {Q : Exit → Act → World → Prop} {md : Region.Mode} {S : World → Prop} {i : Nat} {oi : Oper} {d : Tmp} {v : Value} {fuel : Nat} {listed : Array Bool} {a : Act} {w : World} (hi : ops[i]? = some oi) (hd : oi.dst = some d)
    (hs : Region.noSelect ops = true) (hf : Region.free md ops listed i = true) (hr : (Region.ready md ops listed).contains i = true)
    (hQ : ∀ c a w, Q (.panic c) { tmps := a.tmps.setIfInBounds d v, defers := a.defers } w → Q (.panic c) a w) (hy : YieldsIf P ops S oi v a) (hS : S w)
    (h : wpAnyH P md ops Q S fuel (listed.setIfInBounds i true) { tmps := a.tmps.setIfInBounds d v, defers := a.defers } w) : wpAnyH P md ops Q S (fuel + 1) listed a w := by
  have hp : ∀ a : Act, a.put oi.dst v = { tmps := a.tmps.setIfInBounds d v, defers := a.defers } := fun a => by rw [hd]; rfl
  refine wpAnyH_take hi hs hf hr (fun c a w h => hQ c a w (by rw [hp] at h; exact h)) hy hS ?_
  rw [hp]
  exact h

theorem wpOp_calls {P : Program} {ops : Array Oper} {Q : Exit → Act → World → Prop} {i : Nat} {K : Act → World → Prop} {a : Act} {w : World} {o : Oper} {d : Tmp} {f : FuncId} {args : Array Value} (hi : ops[i]? = some o) (hd : o.dst = some d) (hw : Region.wanted o (yielded ops a.tmps) = true)
    (hrun : (execOp a.eval o).run P w = .ok (.enter f args) w) (R : Ending → World → Prop) (h : Calls P f args w R) (hR : ∀ v w'', R (.returned v) w'' → K { tmps := a.tmps.setIfInBounds d v, defers := a.defers } w'') (hP : ∀ ch w'', R (.panicked ch) w'' → Q (.panic ch) a w'') (hO : ∀ w'', ¬ R .outgrown w'') : wpOp P ops Q i K a w := by
  have hp : ∀ v, a.put o.dst v = { tmps := a.tmps.setIfInBounds d v, defers := a.defers } := fun v => by rw [hd]; rfl
  unfold wpOp
  simp only [hi]
  rw [if_pos hw]
  refine .inl ?_
  unfold Oper.wp
  rw [hrun]
  exact h.mono fun e w'' he => by
    cases e with
    | returned v => show K (a.put o.dst v) w''; rw [hp]; exact hR v w'' he
    | panicked ch => exact hP ch w'' he
    | outgrown => exact absurd he (hO w'')

/-- What an operation does out of a round it does in one, if it defers nothing. -/
theorem oper_round {P : Program} {o : Oper} {a : Act} {w : World} {K : Act → World → Prop} {Q : Exit → Act → World → Prop} (l n : Nat) (hnd : ∀ c, o.op ≠ .defer c) (h : o.wp P a w K Q) : o.wpIn (Fence.wide.inRound l) n P a w K Q := by
  refine ⟨fun f _ => trivial, ?_⟩
  rw [Oper.semAt_eq _ _ _ hnd]
  unfold Oper.wp at h
  cases hr : (execOp a.eval o).run P w with
  | halt x w' =>
    rw [hr] at h
    cases x with
    | panic v => exact h
    | _ => exact h.elim
  | ok nx w' =>
    rw [hr] at h
    cases nx with
    | value v => exact h
    | skip => exact h
    | defer d => exact h
    | enter f args => exact ⟨(fun hd => by cases hd), CallsIn.inRound l (callsIn_wide.2 h)⟩
    | row r args => exact ⟨(fun hd => by cases hd), fun c cs _ => let ⟨v, w2, r1, r2⟩ := h c cs; ⟨v, w2, r1, stepsIn_wide.2 r2⟩⟩
    | _ => exact h.elim

theorem any_round {P : Program} {md : Region.Mode} {ops : Array Oper} {Q : Exit → Act → World → Prop} (l n : Nat) (hnd : ∀ (i : Nat) (o : Oper), ops[i]? = some o → ∀ c, o.op ≠ .defer c) (hno : ¬ LetsOut Q) : ∀ (fuel : Nat) (listed : Array Bool) (a : Act) (w : World), wpAny P md ops Q fuel listed a w → wpAnyIn (Fence.wide.inRound l) n P md ops Q fuel listed a w
  | 0, _, _, _, h => h
  | fuel + 1, listed, a, w, h => by
    refine ⟨h.1, fun i hi => ?_⟩
    have h2 := h.2 i hi
    unfold wpOp at h2
    unfold wpOpIn
    cases ho : ops[i]? with
    | none =>
      rw [ho] at h2
      exact any_round l n hnd hno fuel _ _ _ h2
    | some o =>
      rw [ho] at h2
      simp only at h2 ⊢
      by_cases hw : Region.wanted o (yielded ops a.tmps) = true
      · rw [if_pos hw] at h2 ⊢
        rcases h2 with h2 | h2
        · exact Oper.wpIn_mono (fun a w h => any_round l n hnd hno fuel _ _ _ h) (oper_round l n (hnd i o ho) h2)
        · exact absurd h2.2 hno
      · rw [if_neg hw] at h2 ⊢
        exact ⟨fun f _ => trivial, any_round l n hnd hno fuel _ _ _ h2⟩

/-- A region that draws its order, in a round. -/
theorem regionH_round {P : Program} {id : Nat} {ops : Array Oper} {Q : Exit → Act → World → Prop} {S : World → Prop} {a : Act} {w : World} (l n : Nat) (hm : P.follows .mixedOrders = true) (hnd : ∀ (i : Nat) (o : Oper), ops[i]? = some o → ∀ c, o.op ≠ .defer c) (hno : ¬ LetsOut Q)
    (h : wpAnyH P .any ops Q S ops.size (Array.replicate ops.size false) a w.drew) : (Code.region id ops true).wpIn (Fence.wide.inRound l) n P Q a w :=
  wpIn_region_any hm (any_round l n hnd hno _ _ _ _ (wpAny_of_held _ _ _ _ h))

def noDefer (o : Oper) : Bool := match o.op with
  | .defer _ => false
  | _ => true

theorem noDefer_all {ops : Array Oper} (h : ops.all noDefer = true) : ∀ (i : Nat) (o : Oper), ops[i]? = some o → ∀ c, o.op ≠ .defer c := by
  intro i o ho c hc
  rw [Array.all_eq_true] at h
  obtain ⟨hi, he⟩ := Array.getElem?_eq_some_iff.1 ho
  have := h i hi
  rw [he] at this
  unfold noDefer at this
  rw [hc] at this
  cases this

theorem wpOp_value {P : Program} {ops : Array Oper} {Q : Exit → Act → World → Prop} {i : Nat} {K : Act → World → Prop} {a : Act} {w w' : World} {o : Oper} {d : Tmp} {v : Value} (hi : ops[i]? = some o) (hd : o.dst = some d) (hw : Region.wanted o (yielded ops a.tmps) = true)
    (hrun : (execOp a.eval o).run P w = .ok (.value v) w') (hK : K { tmps := a.tmps.setIfInBounds d v, defers := a.defers } w') : wpOp P ops Q i K a w := by
  have hp : a.put o.dst v = { tmps := a.tmps.setIfInBounds d v, defers := a.defers } := by rw [hd]; rfl
  unfold wpOp
  simp only [hi]
  rw [if_pos hw]
  refine .inl ?_
  unfold Oper.wp
  rw [hrun]
  show K (a.put o.dst v) w'
  rw [hp]
  exact hK

def setAll (tm : Array Value) : List (Nat × Value) → Array Value
  | [] => tm
  | (d, v) :: r => setAll (tm.setIfInBounds d v) r

/-- A region that draws, ended the same way in all its orders. -/
theorem region_then {P : Program} {id : Nat} {ops : Array Oper} {dr : Bool} {Q : Exit → Act → World → Prop} {K : Act → World → Prop} {a : Act} {w : World} (L : List (Nat × Value)) (w2 : World)
    (h : (Code.region id ops dr).wp P (fun e a' w' => e = .normal ∧ a' = { tmps := setAll a.tmps L, defers := a.defers } ∧ w' = w2) a w)
    (h2 : K { tmps := setAll a.tmps L, defers := a.defers } w2) : (Code.region id ops dr).wp P (Exit.then K Q) a w := by
  refine wp_mono h ?_
  rintro e a' w' ⟨rfl, rfl, rfl⟩
  exact h2

theorem oneC {P : Program} {ops : Array Oper} {Q : Exit → Act → World → Prop} {md : Region.Mode} {S : World → Prop} {i : Nat} {o : Oper} {d : Tmp} {f : FuncId} {args : Array Value} {v : Value} {fuel : Nat} {listed : Array Bool} {a : Act} {w : World}
    (hi : ops[i]? = some o) (hd : o.dst = some d) (hr : Region.ready md ops listed = [i]) (hw : Region.wanted o (yielded ops a.tmps) = true) (hrun : ∀ wx, (execOp a.eval o).run P wx = .ok (.enter f args) wx)
    (hS : S w) (hc : ∀ wx, S wx → Calls P f args wx fun e w' => e = .returned v ∧ S w')
    (h : ∀ w', S w' → wpAnyH P md ops Q S fuel (listed.setIfInBounds i true) { tmps := a.tmps.setIfInBounds d v, defers := a.defers } w') : wpAnyH P md ops Q S (fuel + 1) listed a w := by
  refine wpAnyH_all hr (by simp) (List.forall_mem_singleton.2 ?_)
  refine wpOp_calls hi hd hw (hrun w) _ (hc w hS) ?_ (fun _ _ h => by cases h.1) (fun _ h => by cases h.1)
  rintro v' w'' ⟨h1, h2⟩
  cases h1
  exact ⟨h2, h w'' h2⟩

/-- A region that draws, ended with the same slots in all its orders. -/
theorem region_thenF {P : Program} {id : Nat} {ops : Array Oper} {dr : Bool} {Q : Exit → Act → World → Prop} {K : Act → World → Prop} {a : Act} {w : World} (L : List (Nat × Value)) (F : World → Prop)
    (h : (Code.region id ops dr).wp P (fun e a' w' => e = .normal ∧ a' = { tmps := setAll a.tmps L, defers := a.defers } ∧ F w') a w)
    (h2 : ∀ w', F w' → K { tmps := setAll a.tmps L, defers := a.defers } w') : (Code.region id ops dr).wp P (Exit.then K Q) a w := by
  refine wp_mono h ?_
  rintro e a' w' ⟨rfl, rfl, hF⟩
  exact h2 w' hF

theorem wpOp_un {P : Program} {ops : Array Oper} {Q : Exit → Act → World → Prop} {i : Nat} {K : Act → World → Prop} {a : Act} {w : World} {o : Oper} {d : Tmp} (hi : ops[i]? = some o) (hd : o.dst = some d) (hw : Region.wanted o (yielded ops a.tmps) = false)
    (hK : K { tmps := a.tmps.setIfInBounds d undef, defers := a.defers } w) : wpOp P ops Q i K a w := by
  have hp : a.put o.dst undef = { tmps := a.tmps.setIfInBounds d undef, defers := a.defers } := by rw [hd]; rfl
  unfold wpOp
  simp only [hi]
  rw [if_neg (by rw [hw]; decide), hp]
  exact hK

end Go.Proofs.YtijkgdbabikojaaGreat

/- The walk over stamp.At. -/
namespace Go.Proofs.YtijkgdbabikojaaGreat
open Go.RowKit
set_option maxRecDepth 1000000
set_option linter.unusedVariables false

set_option maxRecDepth 1000000 in
set_option maxHeartbeats 1000000 in
theorem at_any (v : Value) (l : List Int) (i : Int) (w : World) (hv : RI w v l) (hn : l.length ≤ 1000000) :
    Calls Tryz.prog 84 #[v, .int .i64 i] w fun e w' => e = .returned (.int .i64 (atZ l i)) ∧ w' = w := by
  obtain ⟨a, cap, rfl, hc, _, hr⟩ := hv
  by_cases h : 0 ≤ i ∧ i < (l.length : Int)
  · have HZ : Hid (atZ l i = l.getD i.toNat 0) := by show _ = _; unfold atZ; rw [if_pos h]
    obtain ⟨k, rfl⟩ : ∃ k : Nat, i = (k : Int) := ⟨i.toNat, by omega⟩
    rw [Int.toNat_natCast] at HZ
    obtain ⟨b, off, rfl, hc1⟩ := hr k (by omega)
    clear hr
    generalize l.getD k 0 = z at *
    go_enter Tryz.func84, Tryz.ntmps84
    go_wp2_with fail
    go_ret
    exact ⟨by rw [HZ.out]; rfl, rfl⟩
  · have HZ : Hid (atZ l i = 0) := by show _ = _; unfold atZ; rw [if_neg h]
    clear hr
    by_cases h0 : i < 0
    · go_enter Tryz.func84, Tryz.ntmps84
      go_wp2_with fail
      go_ret
      exact ⟨by rw [HZ.out]; rfl, rfl⟩
    · have h1 : (l.length : Int) ≤ i := by omega
      go_enter Tryz.func84, Tryz.ntmps84
      go_wp2_with fail
      go_ret
      exact ⟨by rw [HZ.out]; rfl, rfl⟩

end Go.Proofs.YtijkgdbabikojaaGreat

