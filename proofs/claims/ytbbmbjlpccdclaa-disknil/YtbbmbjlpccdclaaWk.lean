/- The walk over disk.write. -/
import Derived.Test.YtbbmbjlpccdclaaWj
import Derived.Deep.RegionHeldLaw
namespace Go.Proofs.Ytbbmbjlpccdclaa
open Go.RowKit
set_option linter.unusedVariables false

theorem Try.info69 : (Try.prog.info? 69).map (fun i => (i.zero, i.size, i.bytes)) = some (some .nilFunc, 1, 8) := by kernel_rfl

/-- Function values that are handed on: none, or one. -/
def SF (w : World) (xv : Value) (l : List Value) : Prop := (xv = .slice none 0 0 ∧ l = []) ∨ ∃ (b : Nat) (v : Value), xv = .slice (some ⟨b, 0, none⟩) 1 1 ∧ l = [v] ∧ w.cell? ⟨b, 0, none⟩ = some v ∧ v.oneCell' = true

theorem SF.later {w wx : World} {xv : Value} {l : List Value} (h : SF w xv l) (hb : Below w.heap.size w wx) : SF wx xv l := by
  rcases h with h | ⟨b, v, h1, h2, h3, h4⟩
  · exact .inl h
  · exact .inr ⟨b, v, h1, h2, cell_later hb h3, h4⟩

theorem SF.len {w : World} {xv : Value} {l : List Value} (h : SF w xv l) : l.length ≤ 1 := by
  rcases h with ⟨_, rfl⟩ | ⟨b, v, _, rfl, _⟩ <;> simp

theorem run_append_f (w : World) (ty : TypeId) (g n cap : Nat) (xs l : List Value) (xv : Value) (hown : w.ownsRow 0 69 1 (.slice (some ⟨g, 0, none⟩) n cap) n xs) (hr : SF w xv l) (hn : n ≤ 10) :
    ∃ g' cap' w', (Builtin.append_ #[78, 78] ty #[.slice (some ⟨g, 0, none⟩) n cap, xv]).run Try.prog w = .ok (.slice (some ⟨g', 0, none⟩) (n + l.length) cap') w' ∧ w'.ownsRow 0 69 1 (.slice (some ⟨g', 0, none⟩) (n + l.length) cap') (n + l.length) (xs ++ l) ∧ w.grownBy w' (some g) ∧ (g' = g ∨ g' = w.heap.size) := by
  obtain ⟨i0, hi, hz0, hz1, hz2⟩ := info_parts Try.info69
  rcases hr with ⟨rfl, rfl⟩ | ⟨b, v, rfl, rfl, hc, h1⟩
  · rw [List.append_nil]
    exact ⟨g, cap, w, run_append_owned_none (P := Try.prog) (w := w) 0 78 ty 69 i0 1 Try.underlying78 hi _ n xs hown, hown, ⟨rfl, rfl, rfl, Nat.le_refl _, fun _ _ _ => rfl⟩, .inl rfl⟩
  · obtain ⟨v', w', r1, r2, r3, r4, r5⟩ := run_append_own_at (P := Try.prog) w 0 78 ty 69 i0 .nilFunc 1 8 Try.underlying78 hi hz0 hz1 hz2 rfl (by decide) _ n xs hown ⟨b, 0, none⟩ 1 1 [v] rfl (fun j u hj => by
        match j, hj with
        | 0, hj => simp at hj; subst hj; exact hc
        | j + 1, hj => simp at hj) (fun u hu => by simp at hu; subst hu; exact h1) (by unfold maxLen; omega) (by omega) (Nat.zero_le _)
    rcases r2.2 with ⟨rfl, h5⟩ | ⟨g', cap', cur, rfl, hrest⟩
    · omega
    · refine ⟨g', cap', w', r1, r2, r3, ?_⟩
      simpa [Value.ownBlock] using r5

/-- 'append' of function values, as one step of a region that draws its order. -/
theorem step_append_f {ops : Array Oper} {o : Oper} {a : Act} {w : World} {K : Act → World → Prop} {Q : Exit → Act → World → Prop} {E : Prop}
    (hg : o.guard = none) (s x : Operand) (hop : o.op = Op.call { callee := Callee.builtin Builtin.append, args := #[s, x], argTypes := #[78, 78] }) (d : Tmp) (hdst : o.dst = some d)
    (g n cap : Nat) (xs l : List Value) (xv : Value) (hs : a.eval s = .slice (some ⟨g, 0, none⟩) n cap) (hx : a.eval x = xv) (hown : w.ownsRow 0 69 1 (.slice (some ⟨g, 0, none⟩) n cap) n xs) (hr : SF w xv l) (hn : n ≤ 10)
    (hK : ∀ g' cap' w', w'.ownsRow 0 69 1 (.slice (some ⟨g', 0, none⟩) (n + l.length) cap') (n + l.length) (xs ++ l) → w.grownBy w' (some g) → (g' = g ∨ g' = w.heap.size) → K (a.put (some d) (.slice (some ⟨g', 0, none⟩) (n + l.length) cap')) w') :
    if Region.wanted o (yielded ops a.tmps) = true then Oper.wp Try.prog o a w K Q else E := by
  obtain ⟨g', cap', w', h1, h2, h3, h4⟩ := run_append_f w o.type g n cap xs l xv hown hr hn
  exact step_append_run hg s x 78 hop d hdst _ _ _ _ hs hx h1 (hK g' cap' w' h2 h3 h4)

theorem owns_new (W : World) (cs : Array Value) (k n : Nat) (hk : k = W.heap.size) (hn : cs.size = n) (h10 : n ≤ 10) : (W.alloc (.cells cs 69)).drew.ownsRow 0 69 1 (.slice (some ⟨k, 0, none⟩) n n) n cs.toList := by
  subst hk hn
  refine ⟨by simp, .inr ⟨W.heap.size, cs.size, cs, rfl, Nat.zero_le _, heap_alloc_new _ _, Nat.le_refl _, by unfold maxLen; omega, by simp, by rw [Nat.mul_one, ← Array.length_toList, List.take_length]⟩⟩

def W3 (w : World) (p : Nat) (i : Int) (hv : Value) (f45 f60 : Value) : World :=
  ((((((w.alloc (.cells #[.pointer (some ⟨p, 0, none⟩)] 25)).alloc (.cells #[.int .i64 i] 3)).alloc (.cells #[hv] 73)).alloc (.cells #[.pointer (some ⟨p, 0, none⟩)] 25)).alloc (.cells #[.int .i64 i] 3)).alloc (.cells #[f45, f60] 69)).drew

theorem W3_below (w : World) (p : Nat) (i : Int) (hv f45 f60 : Value) : Below w.heap.size w (W3 w p i hv f45 f60) :=
  (((((((Below.refl _ _).alloc (Nat.le_refl _) _).alloc (by simp) _).alloc (by simp; omega) _).alloc (by simp; omega) _).alloc (by simp; omega) _).alloc (by simp; omega) _).drew

theorem cell_alloc1 (w : World) (v : Value) (t : TypeId) (k : Nat) (hk : k = w.heap.size) : (w.alloc (.cells #[v] t)).cell? ⟨k, 0, none⟩ = some v := by
  subst hk
  rw [cell_of_row _ _ _ #[v] t (0, 0) (heap_alloc_new _ _)]
  rfl

theorem cell_past (w : World) (o : Obj) (k j : Nat) (hk : k < w.heap.size) : (w.alloc o).cell? ⟨k, j, none⟩ = w.cell? ⟨k, j, none⟩ := World.cell?_of_block (w := w) (Below.heap_alloc _ _ _ hk)

theorem W3_size (w : World) (p : Nat) (i : Int) (hv f45 f60 : Value) : (W3 w p i hv f45 f60).heap.size = w.heap.size + 6 := by
  show (World.alloc _ _).heap.size = _
  simp

theorem W3_box (w : World) (p : Nat) (i : Int) (hv f45 f60 : Value) : WBox (W3 w p i hv f45 f60) p w.heap.size (w.heap.size + 1) (w.heap.size + 2) (w.heap.size + 4) (w.heap.size + 3) i hv := by
  refine ⟨?_, ?_, ?_, ?_, ?_⟩
  · show (World.alloc _ _).cell? _ = _
    rw [cell_past _ _ _ _ (by simp <;> omega), cell_past _ _ _ _ (by simp <;> omega), cell_past _ _ _ _ (by simp <;> omega), cell_past _ _ _ _ (by simp <;> omega), cell_past _ _ _ _ (by simp), cell_alloc1 _ _ _ _ (by simp)]
  · show (World.alloc _ _).cell? _ = _
    rw [cell_past _ _ _ _ (by simp <;> omega), cell_past _ _ _ _ (by simp <;> omega), cell_past _ _ _ _ (by simp <;> omega), cell_past _ _ _ _ (by simp), cell_alloc1 _ _ _ _ (by simp)]
  · show (World.alloc _ _).cell? _ = _
    rw [cell_past _ _ _ _ (by simp <;> omega), cell_past _ _ _ _ (by simp <;> omega), cell_past _ _ _ _ (by simp), cell_alloc1 _ _ _ _ (by simp)]
  · show (World.alloc _ _).cell? _ = _
    rw [cell_past _ _ _ _ (by simp), cell_alloc1 _ _ _ _ (by simp)]
  · show (World.alloc _ _).cell? _ = _
    rw [cell_past _ _ _ _ (by simp <;> omega), cell_past _ _ _ _ (by simp), cell_alloc1 _ _ _ _ (by simp)]

theorem WBox.grown {w w' : World} {N p : Nat} {i : Int} {hv : Value} (h : WBox w p N (N + 1) (N + 2) (N + 4) (N + 3) i hv) (g : Nat) (hg : w.grownBy w' (some g)) (hN : N + 5 ≤ g) : WBox w' p N (N + 1) (N + 2) (N + 4) (N + 3) i hv :=
  ⟨hg.cell h.h4 (by show some N ≠ _; simp; omega), hg.cell h.h5 (by show some (N + 1) ≠ _; simp; omega), hg.cell h.h6 (by show some (N + 2) ≠ _; simp; omega), hg.cell h.hi (by show some (N + 4) ≠ _; simp; omega), hg.cell h.hd (by show some (N + 3) ≠ _; simp; omega)⟩

theorem WBox.later {w w' : World} {p b4 b5 b6 bi bd : Nat} {i : Int} {hv : Value} (h : WBox w p b4 b5 b6 bi bd i hv) (hb : Below w.heap.size w w') : WBox w' p b4 b5 b6 bi bd i hv :=
  ⟨cell_later hb h.h4, cell_later hb h.h5, cell_later hb h.h6, cell_later hb h.hi, cell_later hb h.hd⟩

theorem RF.of_owns {w : World} {g n cap : Nat} {vs : List Value} (h : w.ownsRow 0 69 1 (.slice (some ⟨g, 0, none⟩) n cap) n vs) (hn : n ≤ 10) : RF w g (.slice (some ⟨g, 0, none⟩) n cap) vs := by
  have hl : vs.length = n := by have := h.1; omega
  refine ⟨_, cap, by rw [hl], by omega, fun i u hi => ⟨0, rfl, ?_⟩⟩
  have hi2 : i < vs.length := (List.getElem?_eq_some_iff.1 hi).1
  have := h.cells (g := g) rfl i u hi
  rw [Go.WideShapes.add_plain] at this
  exact this

theorem write_end {T : Nat → Prop} {w w4 w6 : World} {p : Nat} {S : DS} {i : Int} {hv f45 f60 f63 dv : Value} {vs : List Value} {res : Int × DS} {g4 c6 g6 : Nat} (hT : ∀ k, T k → k < w.heap.size) (hd : DK T w p S) (ho : Okay S) (hlv : vs.length ≤ 1)
    (h4 : (W3 w p i hv f45 f60).grownBy w4 (some (w.heap.size + 5))) (hg4 : g4 = w.heap.size + 5 ∨ g4 = w.heap.size + 6) (o : Obj) (h6 : (w4.alloc o).drew.grownBy w6 (some g4)) (hg6 : g6 = g4 ∨ g6 = (w4.alloc o).drew.heap.size)
    (ho6 : w6.ownsRow 0 69 1 (.slice (some ⟨g6, 0, none⟩) (2 + vs.length + 1) c6) (2 + vs.length + 1) (([f45, f60] ++ vs) ++ [f63]))
    (hch : ∀ wx blk, Below w.heap.size w wx → ¬ T blk → WBox wx p w.heap.size (w.heap.size + 1) (w.heap.size + 2) (w.heap.size + 4) (w.heap.size + 3) i hv → Chain blk dv (WQ T wx p res) (f45 :: f60 :: (vs ++ [f63])) wx) :
    Calls Try.prog 33 #[.pointer (some ⟨p, 0, none⟩), dv, .slice (some ⟨g6, 0, none⟩) (2 + vs.length + 1) c6] w6 fun e w' => ∃ k : Int, e = .returned (.int .i64 k) ∧ WQ T w6 p res k w' ∧ Below w.heap.size w w6 := by
  have hz3 := W3_size w p i hv f45 f60
  have hb4 : Below w.heap.size w w4 := (W3_below w p i hv f45 f60).grown h4 (by omega) (fun k hk => by cases hk; omega)
  have hz4 := h4.size
  have hz4' : (w4.alloc o).drew.heap.size = w4.heap.size + 1 := by show (w4.alloc o).heap.size = _; simp
  have hb6 : Below w.heap.size w w6 := ((hb4.alloc hb4.size o).drew).grown h6 (by omega) (fun k hk => by cases hk; omega)
  have hbx := ((W3_box w p i hv f45 f60).grown _ h4 (Nat.le_refl _))
  have hbx6 := (hbx.later (((Below.refl _ _).alloc (Nat.le_refl _) o).drew)).grown _ h6 (by omega)
  have hd6 := hd.later hb6
  have hnb : ¬ T g6 := fun h => by have := hT _ h; omega
  obtain ⟨V, hv6⟩ := hd6
  have hpos := ho.pos
  refine Calls.mono (call_any p S.n g6 dv _ _ w6 _ hv6.cnt (by omega) (RF.of_owns ho6 (by omega)) (hch w6 g6 hb6 hnb hbx6)) ?_
  rintro e w' ⟨k, h1, h2⟩
  exact ⟨k, h1, h2, hb6⟩

theorem WQ.back {T : Nat → Prop} {w w6 w' : World} {p : Nat} {r : Int × DS} {k : Int} (h : WQ T w6 p r k w') (hb : Below w.heap.size w w6) (hT : ∀ k, T k → k < w.heap.size) : WQ T w p r k w' := by
  obtain ⟨h1, h2, h3⟩ := h
  have hk := (Kp.of_below T hb).trans h3 (fun x hx _ => hx)
  refine ⟨h1, h2.wide (fun x hx => ?_) (fun x hx => ?_), hk⟩
  · rcases hx with hx | hx
    · exact .inl hx
    · exact .inr ⟨Nat.le_trans hb.size hx.1, hx.2⟩
  · rcases hx with hx | hx
    · exact Nat.lt_of_lt_of_le (hT x hx) hk.size
    · exact hx.2

set_option maxRecDepth 1000000 in
set_option maxHeartbeats 1000000 in
theorem write_any (T : Nat → Prop) (w : World) (p : Nat) (S : DS) (i more : Int) (hv sl : Value) (how : Fl → Fl) (vs : List Value) (hd : DK T w p S) (ho : Okay S) (hs : Small 10000000 1000000000000 S) (hsl : SF w sl vs)
    (hmore : (vs = [] ∧ more = 0) ∨ ∃ v, vs = [v] ∧ (hasB S i = true → ∀ wx, Kp T w wx → DK T wx p S → AskV v wx (fun e w' => e = .returned (.int .i64 more) ∧ ∃ q, w' = wx.drewN q)))
    (hh : hasB S i = true → more = 0 → ∀ k : Nat, i = k → k < S.n → HowV hv w T (S.fs k) (how (S.fs k)) ∧ (how (S.fs k)).b.length ≤ 100000000 ∧ (how (S.fs k)).b.length ≤ S.room + (S.fs k).b.length) (hhv : ∃ g lb, hv = .func (.func g) #[] lb) :
    Calls Try.prog 46 #[.pointer (some ⟨p, 0, none⟩), .int .i64 i, hv, sl] w fun e w' => ∃ k : Int, e = .returned (.int .i64 k) ∧ WQ T w p (writeP S i more how) k w' := by
  obtain ⟨g0, lb0, rfl⟩ := hhv
  have hT : ∀ k, T k → k < w.heap.size := by obtain ⟨V, h⟩ := hd; exact h.live
  have HD : Hid (DK T w p S) := hd
  have HSL : Hid (SF w sl vs) := hsl
  obtain ⟨sa, sn, sc, hsv⟩ : ∃ a n c, sl = .slice a n c := by
    rcases hsl with ⟨h, _⟩ | ⟨b, v, h, _⟩
    · exact ⟨_, _, _, h⟩
    · exact ⟨_, _, _, h⟩
  have HCH : Hid (∀ wx blk, Below w.heap.size w wx → ¬ T blk → WBox wx p w.heap.size (w.heap.size + 1) (w.heap.size + 2) (w.heap.size + 4) (w.heap.size + 3) i (.func (.func g0) #[] lb0) → _) := fun wx blk hbel hb h3 => chain_write (w := wx) (how := how) (more := more) (blk := blk) (fun k hk => Nat.lt_of_lt_of_le (hT k hk) hbel.size) hb (fun h => by have := hT _ h; omega) (fun h => by have := hT _ h; omega) (fun h => by have := hT _ h; omega) ho hs vs
    (hmore.imp id (fun ⟨v, e1, e2⟩ => ⟨v, e1, fun q1 wy q2 q3 => e2 q1 wy ((Kp.of_below T hbel).trans q2 (fun x hx _ => hx)) q3⟩)) (fun q1 q2 k q3 q4 => ⟨(hh q1 q2 k q3 q4).1.later (Kp.of_below T hbel), (hh q1 q2 k q3 q4).2⟩) wx (hd.later hbel) (Kp.refl _ _) h3
  have hlv := hsl.len
  generalize writeP S i more how = res at *
  subst hsv
  clear hd hsl hh hmore
  have hmf : ∀ (fn : Fn) (first cap : Array Value) (w : World), (Instr.makeFunc fn first cap).run Try.prog w = .ok (.func fn first cap) w := fun _ _ _ _ => rfl
  have HK : Hid (∀ w1 w2 : World, (w1.cell? ⟨w.heap.size, 0, none⟩ = some (.pointer (some ⟨p, 0, none⟩)) ∧ w1.cell? ⟨w.heap.size + 1, 0, none⟩ = some (.int .i64 i)) → Below w1.heap.size w1 w2 → (w2.cell? ⟨w.heap.size, 0, none⟩ = some (.pointer (some ⟨p, 0, none⟩)) ∧ w2.cell? ⟨w.heap.size + 1, 0, none⟩ = some (.int .i64 i))) := fun w1 w2 h hb => ⟨cell_later hb h.1, cell_later hb h.2⟩
  have HS0 : Hid ((((w.alloc (.cells #[.pointer (some ⟨p, 0, none⟩)] 25)).alloc (.cells #[.int .i64 i] 3)).alloc (.cells #[.func (.func g0) #[] lb0] 73)).drew.cell? ⟨w.heap.size, 0, none⟩ = some (.pointer (some ⟨p, 0, none⟩)) ∧ (((w.alloc (.cells #[.pointer (some ⟨p, 0, none⟩)] 25)).alloc (.cells #[.int .i64 i] 3)).alloc (.cells #[.func (.func g0) #[] lb0] 73)).drew.cell? ⟨w.heap.size + 1, 0, none⟩ = some (.int .i64 i)) := by
    refine ⟨?_, ?_⟩
    · show (World.alloc _ _).cell? _ = _
      rw [cell_past _ _ _ _ (by simp <;> omega), cell_past _ _ _ _ (by simp), cell_alloc1 _ _ _ _ (by simp)]
    · show (World.alloc _ _).cell? _ = _
      rw [cell_past _ _ _ _ (by simp), cell_alloc1 _ _ _ _ (by simp)]
  go_enter Try.func46, Try.ntmps46
  go_wp2_with fail
  go_region_held_law (fun w' => w'.cell? ⟨w.heap.size, 0, none⟩ = some (.pointer (some ⟨p, 0, none⟩)) ∧ w'.cell? ⟨w.heap.size + 1, 0, none⟩ = some (.int .i64 i)) (first | assumption | exact HS0.out | exact ⟨HBx.out.h4, HBx.out.h5⟩ | exact HK.out _ _ ‹_› (alloc2 _ _ _) | exact HK.out _ _ ‹_› ((Below.refl _ _).alloc (Nat.le_refl _) _)) (first
    | (refine step_append_f rfl (.tmp 15) (.tmp 16) rfl 17 rfl (w.heap.size + 1 + 1 + 1 + 1 + 1) 2 2 [.func (.func 45) #[.pointer (some ⟨p, 0, none⟩)] #[], .func (.func 60) #[] #[.pointer (some ⟨w.heap.size + 1 + 1 + 1 + 1, 0, none⟩), .pointer (some ⟨w.heap.size + 1 + 1 + 1, 0, none⟩)]] vs (.slice sa sn sc) rfl rfl ?_ ?_ (by omega) ?_
       exact owns_new _ #[_, _] _ 2 (by simp) rfl (by omega)
       exact HSL.out.later (W3_below w p i _ _ _)
       intro g4 c4 w4 ho4 hg4 hat4
       have hW4 : (W3 w p i (.func (.func g0) #[] lb0) (.func (.func 45) #[.pointer (some ⟨p, 0, none⟩)] #[]) (.func (.func 60) #[] #[.pointer (some ⟨w.heap.size + 1 + 1 + 1 + 1, 0, none⟩), .pointer (some ⟨w.heap.size + 1 + 1 + 1, 0, none⟩)])).grownBy w4 (some (w.heap.size + 5)) := hg4
       have hat4 : g4 = w.heap.size + 5 ∨ g4 = w.heap.size + 6 := (by rcases hat4 with h | h; exact .inl h; exact .inr (h.trans (W3_size w p i _ _ _)))
       have HW4 : Hid _ := hW4
       have HO4 : Hid _ := ho4
       have HA4 : Hid _ := hat4
       have HBx : Hid _ := (W3_box w p i (.func (.func g0) #[] lb0) (.func (.func 45) #[.pointer (some ⟨p, 0, none⟩)] #[]) (.func (.func 60) #[] #[.pointer (some ⟨w.heap.size + 1 + 1 + 1 + 1, 0, none⟩), .pointer (some ⟨w.heap.size + 1 + 1 + 1, 0, none⟩)])).grown _ hW4 (Nat.le_refl _)
       clear hg4 hat4 ho4 hW4)
    | (go_simp; go_at_call 36; refine Calls.mono (has_any _ _ _) ?_; rintro e w2 ⟨rfl, rfl⟩))
  all_goals
    have hc4 := HBx.out.h4
    go_wp2_with fail
    go_region_held_law (fun w' => w'.cell? ⟨w.heap.size, 0, none⟩ = some (.pointer (some ⟨p, 0, none⟩))) (first | assumption | exact hc4 | exact hc6 | exact cell_later ((Below.refl _ _).alloc (Nat.le_refl _) _) ‹_› | exact hq7.2.2.cell hc6 (fun h => Nat.lt_irrefl _ (hT _ h))) (first
      | (refine step_append_f rfl (.tmp 20) (.tmp 23) rfl 24 rfl g4 (2 + vs.length) c4 ([.func (.func 45) #[.pointer (some ⟨p, 0, none⟩)] #[], .func (.func 60) #[] #[.pointer (some ⟨w.heap.size + 1 + 1 + 1 + 1, 0, none⟩), .pointer (some ⟨w.heap.size + 1 + 1 + 1, 0, none⟩)]] ++ vs) [.func (.func 63) #[.pointer (some ⟨p, 0, none⟩)] #[]] (.slice (some ⟨w4.heap.size, 0, none⟩) 1 1) rfl rfl ?_ ?_ (by omega) ?_
         exact owns_later HO4.out (((Below.refl _ _).alloc (Nat.le_refl _) _).drew)
         exact .inr ⟨w4.heap.size, _, rfl, rfl, cell_alloc1 _ _ _ _ rfl, rfl⟩
         intro g6 c6 w6 ho6 hg6 hat6
         have HX : Hid _ := write_end (res := res) (dv := .func (.func 62) #[] #[.pointer (some ⟨w.heap.size, 0, none⟩), .pointer (some ⟨w.heap.size + 1, 0, none⟩), .pointer (some ⟨w.heap.size + 1 + 1, 0, none⟩)]) hT HD.out ho hlv HW4.out HA4.out _ hg6 hat6 ho6 HCH.out
         have hc6 : w6.cell? ⟨w.heap.size, 0, none⟩ = some (.pointer (some ⟨p, 0, none⟩)) := (hg6.cell (cell_later (((Below.refl _ _).alloc (Nat.le_refl _) _).drew) hc4) (by have := HA4.out; show some w.heap.size ≠ _; simp; omega))
         clear ho6 hg6 hat6)
      | (go_simp; go_at_call 33; refine Calls.mono HX.out ?_; rintro e w7 ⟨k7, rfl, hq7, hb6⟩))
    all_goals
      go_wp2_with fail
      go_ret
      exact ⟨k7, rfl, hq7.back hb6 hT⟩
end Go.Proofs.Ytbbmbjlpccdclaa
