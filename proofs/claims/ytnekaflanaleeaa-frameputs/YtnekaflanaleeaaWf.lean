/- The walk over frame.All. -/
import Derived.Test.YtnekaflanaleeaaWe
namespace Go.Proofs.Ytnekaflanaleeaa
open Go.RowKit
set_option linter.unusedVariables false

theorem Try.info22 : (Try.prog.info? 22).map (fun i => (i.zero, i.size, i.bytes)) = some (some (.slice none 0 0), 1, 24) := by kernel_rfl

/-- Bodies of the call's own. -/
def RBB (B : Nat) (w : World) (v : Value) (L : List (List UInt8)) : Prop :=
  ∃ xs : List Value, w.ownsRow B 22 1 v L.length xs ∧ ∀ (i : Nat) (b : List UInt8), L[i]? = some b → ∃ x, xs[i]? = some x ∧ w.ownsRow B 5 1 x b.length (bvs b)

theorem owns_later {w w' : World} {B : Nat} {e : TypeId} {size : Nat} {v : Value} {n : Nat} {xs : List Value} (h : w.ownsRow B e size v n xs) (hb : Below w.heap.size w w') : w'.ownsRow B e size v n xs := by
  refine ⟨h.1, ?_⟩
  rcases h.2 with hn | ⟨g', cap', cur, e1, e2, e3, rest⟩
  · exact .inl hn
  · refine .inr ⟨g', cap', cur, e1, e2, ?_, rest⟩
    rw [hb.block g' (Array.getElem?_eq_some_iff.1 e3).1]
    exact e3

theorem RBB.later {w w' : World} {B : Nat} {v : Value} {L : List (List UInt8)} (h : RBB B w v L) (hb : Below w.heap.size w w') : RBB B w' v L := by
  obtain ⟨xs, h1, h2⟩ := h
  refine ⟨xs, owns_later h1 hb, fun i b hi => ?_⟩
  obtain ⟨x, h3, h4⟩ := h2 i b hi
  exact ⟨x, h3, owns_later h4 hb⟩

theorem RBB.low {w : World} {B B' : Nat} {v : Value} {L : List (List UInt8)} (h : RBB B w v L) (hB : B' ≤ B) : RBB B' w v L := by
  obtain ⟨xs, h1, h2⟩ := h
  refine ⟨xs, owns_low h1 hB, fun i b hi => ?_⟩
  obtain ⟨x, h3, h4⟩ := h2 i b hi
  exact ⟨x, h3, owns_low h4 hB⟩

/-- A row of bytes is no row of slices. -/
theorem owns_apart {w : World} {B B' : Nat} {v x : Value} {n m : Nat} {xs ys : List Value} (h : w.ownsRow B 22 1 v n xs) (h' : w.ownsRow B' 5 1 x m ys) : x.ownBlock = none ∨ x.ownBlock ≠ v.ownBlock := by
  rcases h'.2 with ⟨rfl, _⟩ | ⟨g', cap', cur', rfl, _, e1, _⟩
  · exact .inl rfl
  · rcases h.2 with ⟨rfl, _⟩ | ⟨g, cap, cur, rfl, _, e2, _⟩
    · exact .inr (by simp [Value.ownBlock])
    · right
      intro he
      simp only [Value.ownBlock, Option.some.injEq] at he
      subst he
      rw [e1] at e2
      simp at e2

theorem owns_one {w : World} {B : Nat} {e : TypeId} {v : Value} {n : Nat} {xs : List Value} (h : w.ownsRow B e 1 v n xs) : v.oneCell' = true := by
  rcases h.2 with ⟨rfl, _⟩ | ⟨g, cap, cur, rfl, _⟩ <;> rfl

theorem owns_slice {w : World} {B : Nat} {e : TypeId} {v : Value} {n : Nat} {xs : List Value} (h : w.ownsRow B e 1 v n xs) : ∃ a c, v = .slice a n c := by
  rcases h.2 with ⟨rfl, rfl⟩ | ⟨g, cap, cur, rfl, _⟩
  · exact ⟨_, _, rfl⟩
  · exact ⟨_, _, rfl⟩

theorem append_body {w : World} {ops : Array Oper} {rest : List Oper} {o : Oper} {a : Act} {Q : Exit → Act → World → Prop} (hgd : o.guard = none) (s y : Operand)
    (ho : o.op = .call { callee := .builtin .append, args := #[s, y], argTypes := #[37, 37] }) (B : Nat) (v : Value) (L : List (List UInt8)) (hs : a.eval s = v) (hL : RBB B w v L)
    (x : Value) (b : List UInt8) (hxb : w.ownsRow B 5 1 x b.length (bvs b)) (g : Nat) (hy : a.eval y = .slice (some ⟨g, 0, none⟩) 1 1) (hg : w.cell? ⟨g, 0, none⟩ = some x)
    (hn : L.length ≤ 1000000) (hB : B ≤ w.heap.size)
    (h : ∀ v' w', RBB B w' v' (L ++ [b]) → Below B w w' → wpList Try.prog ops Q rest (a.put o.dst v') w') : wpList Try.prog ops Q (o :: rest) a w := by
  obtain ⟨i0, hi, hz0, hz1, hz2⟩ := info_parts Try.info22
  obtain ⟨xs, h1, h2⟩ := hL
  refine wpList_append_own _ hgd s y 37 ho B 22 i0 (.slice none 0 0) 1 24 Try.underlying37 hi hz0 hz1 hz2 rfl (by decide) v L.length xs hs h1 ⟨g, 0, none⟩ 1 1 [x] hy rfl ?_ ?_ (by unfold maxLen; omega) (by omega) hB ?_
  · intro j u hj
    match j, hj with
    | 0, hj =>
      simp at hj
      subst hj
      rw [Go.WideShapes.add_plain]
      exact hg
    | j + 1, hj => simp at hj
  · intro u hu
    simp at hu
    subst hu
    exact owns_one hxb
  · intro v' w' h3 h4 _
    refine h v' w' ⟨xs ++ [x], by rw [List.length_append]; exact h3, fun i c hc => ?_⟩ (Below.grown (Below.refl _ _) h4 hB (fun k hk => (h1.lt _ hk).1))
    have hxl : xs.length = L.length := by have := h1.1; omega
    by_cases hi2 : i < L.length
    · rw [List.getElem?_append_left hi2] at hc
      obtain ⟨x2, h5, h6⟩ := h2 i c hc
      exact ⟨x2, by rw [List.getElem?_append_left (by omega)]; exact h5, h6.kept h4 (owns_apart h1 h6)⟩
    · have hi3 : i = L.length := by
        have := (List.getElem?_eq_some_iff.1 hc).1
        simp at this
        omega
      subst hi3
      rw [List.getElem?_append_right (Nat.le_refl _)] at hc
      simp at hc
      subst hc
      exact ⟨x, by rw [List.getElem?_append_right (by omega)]; simp [hxl], hxb.kept h4 (owns_apart h1 hxb)⟩

theorem RBB.nil (B : Nat) (w : World) : RBB B w (.slice none 0 0) [] := ⟨[], World.ownsRow_nil _ _ _ _, fun i b (h : ([] : List (List UInt8))[i]? = some b) => by simp at h⟩

theorem allP_step {l : List UInt8} {f p : Nat} (h : (takeP l p).2.2 = 0) : allP l (f + 1) p = ((takeP l p).1 :: (allP l f (takeP l p).2.1).1, (allP l f (takeP l p).2.1).2) := by
  rw [allP, if_pos h]
theorem allP_stop {l : List UInt8} {f p : Nat} (h : ¬ (takeP l p).2.2 = 0) : allP l (f + 1) p = ([], p, (takeP l p).2.2) := by
  rw [allP, if_neg h]

set_option maxRecDepth 1000000 in
set_option maxHeartbeats 1000000 in
theorem all_any (x : Value) (l : List UInt8) (w : World) (hx : RB w x l) (hl : l.length ≤ 100000) :
    Calls Try.prog 15 #[x] w fun e w' => Below w.heap.size w w' ∧ ∃ v, e = .returned (.tuple #[v, .int .i64 ((allP l (l.length + 1) 0).2.1 : Nat), .int .i64 ((allP l (l.length + 1) 0).2.2 : Nat)]) ∧ RBB w.heap.size w' v (allP l (l.length + 1) 0).1 := by
  have HX : Hid (RB w x l) := hx
  clear hx
  obtain ⟨R, HR⟩ : ∃ R, Hid (R = allP l (l.length + 1) 0) := ⟨_, rfl⟩
  rw [← HR.out]
  have HT : Hid (∀ (p : Nat) (wx : World), p ≤ l.length → Below w.heap.size w wx → Calls Try.prog 13 #[x, .int .i64 p] wx fun e w' => Below wx.heap.size wx w' ∧ ∃ v, e = .returned (.tuple #[v, .int .i64 ((takeP l p).2.1 : Nat), .int .i64 ((takeP l p).2.2 : Nat)]) ∧ w'.ownsRow wx.heap.size 5 1 v (takeP l p).1.length (bvs (takeP l p).1)) := fun p wx hp hb => take_any x l p wx (HX.out.later hb) hp hl
  go_enter Try.func15, Try.ntmps15
  go_wp2
  go_step3
  go_wp2
  go_step3
  go_wp2
  go_loopw [5, 6] (fun bv pv wr => ∃ (p f : Nat) (L : List (List UInt8)), p ≤ l.length ∧ 6 * L.length ≤ p ∧ Hid (l.length < p + f) ∧ pv = .int .i64 p ∧ Hid (RBB w.heap.size wr bv L) ∧ Hid (R = (L ++ (allP l f p).1, (allP l f p).2)) ∧ Below w.heap.size w wr) (fun _ pv _ => l.length - (intOf pv).toNat)
  case atStart => exact ⟨0, l.length + 1, [], Nat.zero_le _, Nat.le_refl _, by show _ < _; omega, rfl, RBB.nil _ _, HR.out, Below.refl _ _⟩
  case round =>
    obtain ⟨p, f, L, hp, hLp, HF, rfl, HL, HE, hbw⟩ := hrel
    have HC := HT.out p wr hp hbw
    have HBW : Hid (Below w.heap.size w wr) := hbw
    have hsz := hbw.size
    clear hbw HT
    obtain ⟨f, rfl⟩ : ∃ f', f = f' + 1 := ⟨f - 1, by have := HF.out; omega⟩
    by_cases he : (takeP l p).2.2 = 0
    · obtain ⟨n1, n2, n3, n4⟩ := takeP_next he
      have HE2 : Hid (R = (L ++ [(takeP l p).1] ++ (allP l f (takeP l p).2.1).1, (allP l f (takeP l p).2.1).2)) := by
        show _ = _
        rw [HE.out, allP_step he]
        simp
      have HF2 : Hid (l.length < (takeP l p).2.1 + f) := by have := HF.out; show _ < _; omega
      rw [he] at HC
      have HC2 : Hid (Calls Try.prog 13 #[x, .int .i64 p] wr fun e w' => Below wr.heap.size wr w' ∧ ∃ v, e = .returned (.tuple #[v, .int .i64 ((takeP l p).2.1 : Nat), .int .i64 ((0 : Nat) : Int)]) ∧ w'.ownsRow wr.heap.size 5 1 v (takeP l p).1.length (bvs (takeP l p).1)) := HC
      clear HC HE he n3 n4
      generalize (takeP l p).2.1 = p2 at *
      generalize (takeP l p).1 = bd at *
      go_wp2_with (first
        | (go_at_call 13; refine Calls.mono HC2.out ?_; rintro e w2 ⟨hb2, v2, rfl, ho2⟩; obtain ⟨a2, c2, rfl⟩ := owns_slice ho2; have HB2 : Hid (Below wr.heap.size wr w2) := hb2; have HO2 : Hid (w2.ownsRow wr.heap.size 5 1 (.slice a2 bd.length c2) bd.length (bvs bd)) := ho2; clear hb2 ho2)
        | (at_builtin; refine append_body rfl _ _ rfl w.heap.size _ L rfl ((HL.out.later HB2.out).later ((Below.refl _ _).alloc (Nat.le_refl _) _)) _ bd (owns_low (owns_later HO2.out ((Below.refl _ _).alloc (Nat.le_refl _) _)) hsz) w2.heap.size rfl (by simp) (by omega) (by have := HB2.out.size; simp; omega) ?_; intro v4 w4 hL4 hb4; have HL4 : Hid (RBB w.heap.size w4 v4 (L ++ [bd])) := hL4; have HB4 : Hid (Below w.heap.size (w2.alloc (.cells #[.slice a2 bd.length c2] 22)) w4) := hb4; clear hL4 hb4))
      have hb5 : Below w.heap.size w w4 := ((HBW.out.trans (HB2.out.mono hsz)).alloc (by have := HB2.out.size; omega) _).trans HB4.out
      go_roundw
      case rel => exact ⟨p2, f, L ++ [bd], by omega, by rw [List.length_append]; simp; omega, HF2, rfl, HL4, HE2, hb5⟩
      case measure => simp [intOf]; omega
    · have HE2 : Hid (R = (L, p, (takeP l p).2.2)) := by
        show _ = _
        rw [HE.out, allP_stop he]
        simp
      have HC2 : Hid (Calls Try.prog 13 #[x, .int .i64 p] wr fun e w' => Below wr.heap.size wr w' ∧ ∃ v, e = .returned (.tuple #[v, .int .i64 ((takeP l p).2.1 : Nat), .int .i64 ((takeP l p).2.2 : Nat)]) ∧ w'.ownsRow wr.heap.size 5 1 v (takeP l p).1.length (bvs (takeP l p).1)) := HC
      clear HC HE
      generalize (takeP l p).2.1 = p2 at *
      generalize (takeP l p).1 = bd at *
      generalize (takeP l p).2.2 = er at *
      go_wp2_with (first
        | (go_at_call 13; refine Calls.mono HC2.out ?_; rintro e w2 ⟨hb2, v2, rfl, ho2⟩; have HB2 : Hid (Below wr.heap.size wr w2) := hb2; clear hb2 ho2))
      simp only [Exit.noGoto]
      go_ret3
      rw [HE2.out]
      exact ⟨HBW.out.trans (HB2.out.mono hsz), _, rfl, HL.out.later HB2.out⟩
end Go.Proofs.Ytnekaflanaleeaa
