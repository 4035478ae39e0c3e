/- Texts of the seat, packed: DWk DWl DWm. -/
import Derived.Test.YtijkgdbabikojaaGreatP06
import Derived.Deep.RegionHeldLaw
/- The walk over disk.write. -/
namespace Go.Proofs.YtijkgdbabikojaaGreat.Dk
set_option maxRecDepth 1000000
open Go.RowKit
set_option linter.unusedVariables false

theorem Tryz.info105 : (Tryz.prog.info? 105).map (fun i => (i.zero, i.size, i.bytes)) = some (some .nilFunc, 1, 8) := by kernel_rfl

/-- Function values that are handed on: none, or one. -/
def SF (w : World) (xv : Value) (l : List Value) : Prop := (xv = .slice none 0 0 ∧ l = []) ∨ ∃ (b : Nat) (v : Value), xv = .slice (some ⟨b, 0, none⟩) 1 1 ∧ l = [v] ∧ w.cell? ⟨b, 0, none⟩ = some v ∧ v.oneCell' = true

theorem SF.later {w wx : World} {xv : Value} {l : List Value} (h : SF w xv l) (hb : Below w.heap.size w wx) : SF wx xv l := by
  rcases h with h | ⟨b, v, h1, h2, h3, h4⟩
  · exact .inl h
  · exact .inr ⟨b, v, h1, h2, cell_later hb h3, h4⟩

theorem SF.len {w : World} {xv : Value} {l : List Value} (h : SF w xv l) : l.length ≤ 1 := by
  rcases h with ⟨_, rfl⟩ | ⟨b, v, _, rfl, _⟩ <;> simp

theorem run_append_f (w : World) (ty : TypeId) (g n cap : Nat) (xs l : List Value) (xv : Value) (hown : w.ownsRow 0 105 1 (.slice (some ⟨g, 0, none⟩) n cap) n xs) (hr : SF w xv l) (hn : n ≤ 10) :
    ∃ g' cap' w', (Builtin.append_ #[133, 133] ty #[.slice (some ⟨g, 0, none⟩) n cap, xv]).run Tryz.prog w = .ok (.slice (some ⟨g', 0, none⟩) (n + l.length) cap') w' ∧ w'.ownsRow 0 105 1 (.slice (some ⟨g', 0, none⟩) (n + l.length) cap') (n + l.length) (xs ++ l) ∧ w.grownBy w' (some g) ∧ (g' = g ∨ g' = w.heap.size) := by
  obtain ⟨i0, hi, hz0, hz1, hz2⟩ := info_parts Tryz.info105
  rcases hr with ⟨rfl, rfl⟩ | ⟨b, v, rfl, rfl, hc, h1⟩
  · rw [List.append_nil]
    exact ⟨g, cap, w, run_append_owned_none (P := Tryz.prog) (w := w) 0 133 ty 105 i0 1 Tryz.underlying133 hi _ n xs hown, hown, ⟨rfl, rfl, rfl, Nat.le_refl _, fun _ _ _ => rfl⟩, .inl rfl⟩
  · obtain ⟨v', w', r1, r2, r3, r4, r5⟩ := run_append_own_at (P := Tryz.prog) w 0 133 ty 105 i0 .nilFunc 1 8 Tryz.underlying133 hi hz0 hz1 hz2 rfl (by decide) _ n xs hown ⟨b, 0, none⟩ 1 1 [v] rfl (fun j u hj => by
        match j, hj with
        | 0, hj => simp at hj; subst hj; exact hc
        | j + 1, hj => simp at hj) (fun u hu => by simp at hu; subst hu; exact h1) (by unfold maxLen; omega) (by omega) (Nat.zero_le _)
    rcases r2.2 with ⟨rfl, h5⟩ | ⟨g', cap', cur, rfl, hrest⟩
    · omega
    · refine ⟨g', cap', w', r1, r2, r3, ?_⟩
      simpa [Value.ownBlock] using r5

/-- 'append' of function values, as one step of a region that draws its order. -/
theorem step_append_f {ops : Array Oper} {o : Oper} {a : Act} {w : World} {K : Act → World → Prop} {Q : Exit → Act → World → Prop} {E : Prop}
    (hg : o.guard = none) (s x : Operand) (hop : o.op = Op.call { callee := Callee.builtin Builtin.append, args := #[s, x], argTypes := #[133, 133] }) (d : Tmp) (hdst : o.dst = some d)
    (g n cap : Nat) (xs l : List Value) (xv : Value) (hs : a.eval s = .slice (some ⟨g, 0, none⟩) n cap) (hx : a.eval x = xv) (hown : w.ownsRow 0 105 1 (.slice (some ⟨g, 0, none⟩) n cap) n xs) (hr : SF w xv l) (hn : n ≤ 10)
    (hK : ∀ g' cap' w', w'.ownsRow 0 105 1 (.slice (some ⟨g', 0, none⟩) (n + l.length) cap') (n + l.length) (xs ++ l) → w.grownBy w' (some g) → (g' = g ∨ g' = w.heap.size) → K (a.put (some d) (.slice (some ⟨g', 0, none⟩) (n + l.length) cap')) w') :
    if Region.wanted o (yielded ops a.tmps) = true then Oper.wp Tryz.prog o a w K Q else E := by
  obtain ⟨g', cap', w', h1, h2, h3, h4⟩ := run_append_f w o.type g n cap xs l xv hown hr hn
  exact step_append_run hg s x 133 hop d hdst _ _ _ _ hs hx h1 (hK g' cap' w' h2 h3 h4)

theorem owns_new (W : World) (cs : Array Value) (k n : Nat) (hk : k = W.heap.size) (hn : cs.size = n) (h10 : n ≤ 10) : (W.alloc (.cells cs 105)).drew.ownsRow 0 105 1 (.slice (some ⟨k, 0, none⟩) n n) n cs.toList := by
  subst hk hn
  refine ⟨by simp, .inr ⟨W.heap.size, cs.size, cs, rfl, Nat.zero_le _, heap_alloc_new _ _, Nat.le_refl _, by unfold maxLen; omega, by simp, by rw [Nat.mul_one, ← Array.length_toList, List.take_length]⟩⟩

def W3 (w : World) (p : Nat) (i : Int) (hv : Value) (f45 f60 : Value) : World :=
  ((((((w.alloc (.cells #[.pointer (some ⟨p, 0, none⟩)] 25)).alloc (.cells #[.int .i64 i] 3)).alloc (.cells #[hv] 100)).alloc (.cells #[.pointer (some ⟨p, 0, none⟩)] 25)).alloc (.cells #[.int .i64 i] 3)).alloc (.cells #[f45, f60] 105)).drew

theorem W3_below (w : World) (p : Nat) (i : Int) (hv f45 f60 : Value) : Below w.heap.size w (W3 w p i hv f45 f60) :=
  (((((((Below.refl _ _).alloc (Nat.le_refl _) _).alloc (by simp) _).alloc (by simp; omega) _).alloc (by simp; omega) _).alloc (by simp; omega) _).alloc (by simp; omega) _).drew

theorem cell_alloc1 (w : World) (v : Value) (t : TypeId) (k : Nat) (hk : k = w.heap.size) : (w.alloc (.cells #[v] t)).cell? ⟨k, 0, none⟩ = some v := by
  subst hk
  rw [cell_of_row _ _ _ #[v] t (0, 0) (heap_alloc_new _ _)]
  rfl

theorem cell_past (w : World) (o : Obj) (k j : Nat) (hk : k < w.heap.size) : (w.alloc o).cell? ⟨k, j, none⟩ = w.cell? ⟨k, j, none⟩ := World.cell?_of_block (w := w) (Below.heap_alloc _ _ _ hk)

theorem W3_size (w : World) (p : Nat) (i : Int) (hv f45 f60 : Value) : (W3 w p i hv f45 f60).heap.size = w.heap.size + 6 := by
  show (World.alloc _ _).heap.size = _
  simp

theorem W3_box (w : World) (p : Nat) (i : Int) (hv f45 f60 : Value) : WBox (W3 w p i hv f45 f60) p w.heap.size (w.heap.size + 1) (w.heap.size + 2) (w.heap.size + 4) (w.heap.size + 3) i hv := by
  refine ⟨?_, ?_, ?_, ?_, ?_⟩
  · show (World.alloc _ _).cell? _ = _
    rw [cell_past _ _ _ _ (by simp <;> omega), cell_past _ _ _ _ (by simp <;> omega), cell_past _ _ _ _ (by simp <;> omega), cell_past _ _ _ _ (by simp <;> omega), cell_past _ _ _ _ (by simp), cell_alloc1 _ _ _ _ (by simp)]
  · show (World.alloc _ _).cell? _ = _
    rw [cell_past _ _ _ _ (by simp <;> omega), cell_past _ _ _ _ (by simp <;> omega), cell_past _ _ _ _ (by simp <;> omega), cell_past _ _ _ _ (by simp), cell_alloc1 _ _ _ _ (by simp)]
  · show (World.alloc _ _).cell? _ = _
    rw [cell_past _ _ _ _ (by simp <;> omega), cell_past _ _ _ _ (by simp <;> omega), cell_past _ _ _ _ (by simp), cell_alloc1 _ _ _ _ (by simp)]
  · show (World.alloc _ _).cell? _ = _
    rw [cell_past _ _ _ _ (by simp), cell_alloc1 _ _ _ _ (by simp)]
  · show (World.alloc _ _).cell? _ = _
    rw [cell_past _ _ _ _ (by simp <;> omega), cell_past _ _ _ _ (by simp), cell_alloc1 _ _ _ _ (by simp)]

theorem WBox.grown {w w' : World} {N p : Nat} {i : Int} {hv : Value} (h : WBox w p N (N + 1) (N + 2) (N + 4) (N + 3) i hv) (g : Nat) (hg : w.grownBy w' (some g)) (hN : N + 5 ≤ g) : WBox w' p N (N + 1) (N + 2) (N + 4) (N + 3) i hv :=
  ⟨hg.cell h.h4 (by show some N ≠ _; simp; omega), hg.cell h.h5 (by show some (N + 1) ≠ _; simp; omega), hg.cell h.h6 (by show some (N + 2) ≠ _; simp; omega), hg.cell h.hi (by show some (N + 4) ≠ _; simp; omega), hg.cell h.hd (by show some (N + 3) ≠ _; simp; omega)⟩

theorem WBox.later {w w' : World} {p b4 b5 b6 bi bd : Nat} {i : Int} {hv : Value} (h : WBox w p b4 b5 b6 bi bd i hv) (hb : Below w.heap.size w w') : WBox w' p b4 b5 b6 bi bd i hv :=
  ⟨cell_later hb h.h4, cell_later hb h.h5, cell_later hb h.h6, cell_later hb h.hi, cell_later hb h.hd⟩

theorem RF.of_owns {w : World} {g n cap : Nat} {vs : List Value} (h : w.ownsRow 0 105 1 (.slice (some ⟨g, 0, none⟩) n cap) n vs) (hn : n ≤ 10) : RF w g (.slice (some ⟨g, 0, none⟩) n cap) vs := by
  have hl : vs.length = n := by have := h.1; omega
  refine ⟨_, cap, by rw [hl], by omega, fun i u hi => ⟨0, rfl, ?_⟩⟩
  have hi2 : i < vs.length := (List.getElem?_eq_some_iff.1 hi).1
  have := h.cells (g := g) rfl i u hi
  rw [Go.WideShapes.add_plain] at this
  exact this

theorem write_end {T : Nat → Prop} {w w4 w6 : World} {p : Nat} {S : DS} {i : Int} {hv f45 f60 f63 dv : Value} {vs : List Value} {res : Int × DS} {g4 c6 g6 : Nat} (hT : ∀ k, T k → k < w.heap.size) (hd : DK T w p S) (ho : Okay S) (hlv : vs.length ≤ 1)
    (h4 : (W3 w p i hv f45 f60).grownBy w4 (some (w.heap.size + 5))) (hg4 : g4 = w.heap.size + 5 ∨ g4 = w.heap.size + 6) (o : Obj) (h6 : (w4.alloc o).drew.grownBy w6 (some g4)) (hg6 : g6 = g4 ∨ g6 = (w4.alloc o).drew.heap.size)
    (ho6 : w6.ownsRow 0 105 1 (.slice (some ⟨g6, 0, none⟩) (2 + vs.length + 1) c6) (2 + vs.length + 1) (([f45, f60] ++ vs) ++ [f63]))
    (hch : ∀ wx blk, Below w.heap.size w wx → ¬ T blk → WBox wx p w.heap.size (w.heap.size + 1) (w.heap.size + 2) (w.heap.size + 4) (w.heap.size + 3) i hv → Chain blk dv (WQ T wx p res) (f45 :: f60 :: (vs ++ [f63])) wx) :
    Calls Tryz.prog 48 #[.pointer (some ⟨p, 0, none⟩), dv, .slice (some ⟨g6, 0, none⟩) (2 + vs.length + 1) c6] w6 fun e w' => ∃ k : Int, e = .returned (.int .i64 k) ∧ WQ T w6 p res k w' ∧ Below w.heap.size w w6 := by
  have hz3 := W3_size w p i hv f45 f60
  have hb4 : Below w.heap.size w w4 := (W3_below w p i hv f45 f60).grown h4 (by omega) (fun k hk => by cases hk; omega)
  have hz4 := h4.size
  have hz4' : (w4.alloc o).drew.heap.size = w4.heap.size + 1 := by show (w4.alloc o).heap.size = _; simp
  have hb6 : Below w.heap.size w w6 := ((hb4.alloc hb4.size o).drew).grown h6 (by omega) (fun k hk => by cases hk; omega)
  have hbx := ((W3_box w p i hv f45 f60).grown _ h4 (Nat.le_refl _))
  have hbx6 := (hbx.later (((Below.refl _ _).alloc (Nat.le_refl _) o).drew)).grown _ h6 (by omega)
  have hd6 := hd.later hb6
  have hnb : ¬ T g6 := fun h => by have := hT _ h; omega
  obtain ⟨V, hv6⟩ := hd6
  have hpos := ho.pos
  refine Calls.mono (call_any p S.n g6 dv _ _ w6 _ hv6.cnt (by omega) (RF.of_owns ho6 (by omega)) (hch w6 g6 hb6 hnb hbx6)) ?_
  rintro e w' ⟨k, h1, h2⟩
  exact ⟨k, h1, h2, hb6⟩

theorem WQ.back {T : Nat → Prop} {w w6 w' : World} {p : Nat} {r : Int × DS} {k : Int} (h : WQ T w6 p r k w') (hb : Below w.heap.size w w6) (hT : ∀ k, T k → k < w.heap.size) : WQ T w p r k w' := by
  obtain ⟨h1, h2, h3⟩ := h
  have hk := (Kp.of_below T hb).trans h3 (fun x hx _ => hx)
  refine ⟨h1, h2.wide (fun x hx => ?_) (fun x hx => ?_), hk⟩
  · rcases hx with hx | hx
    · exact .inl hx
    · exact .inr ⟨Nat.le_trans hb.size hx.1, hx.2⟩
  · rcases hx with hx | hx
    · exact Nat.lt_of_lt_of_le (hT x hx) hk.size
    · exact hx.2

set_option maxRecDepth 1000000 in
set_option maxHeartbeats 1000000 in
theorem write_any (T : Nat → Prop) (w : World) (p : Nat) (S : DS) (i more : Int) (hv sl : Value) (how : Fl → Fl) (vs : List Value) (hd : DK T w p S) (ho : Okay S) (hs : Small 10000000 1000000000000 S) (hsl : SF w sl vs)
    (hmore : (vs = [] ∧ more = 0) ∨ ∃ v, vs = [v] ∧ (hasB S i = true → ∀ wx, Kp T w wx → DK T wx p S → AskV v wx (fun e w' => e = .returned (.int .i64 more) ∧ ∃ q, w' = wx.drewN q)))
    (hh : hasB S i = true → more = 0 → ∀ k : Nat, i = k → k < S.n → HowV hv w T (S.fs k) (how (S.fs k)) ∧ (how (S.fs k)).b.length ≤ 100000000 ∧ (how (S.fs k)).b.length ≤ S.room + (S.fs k).b.length) (hhv : ∃ g lb, hv = .func (.func g) #[] lb) :
    Calls Tryz.prog 53 #[.pointer (some ⟨p, 0, none⟩), .int .i64 i, hv, sl] w fun e w' => ∃ k : Int, e = .returned (.int .i64 k) ∧ WQ T w p (writeP S i more how) k w' := by
  obtain ⟨g0, lb0, rfl⟩ := hhv
  have hT : ∀ k, T k → k < w.heap.size := by obtain ⟨V, h⟩ := hd; exact h.live
  have HD : Hid (DK T w p S) := hd
  have HSL : Hid (SF w sl vs) := hsl
  obtain ⟨sa, sn, sc, hsv⟩ : ∃ a n c, sl = .slice a n c := by
    rcases hsl with ⟨h, _⟩ | ⟨b, v, h, _⟩
    · exact ⟨_, _, _, h⟩
    · exact ⟨_, _, _, h⟩
  have HCH : Hid (∀ wx blk, Below w.heap.size w wx → ¬ T blk → WBox wx p w.heap.size (w.heap.size + 1) (w.heap.size + 2) (w.heap.size + 4) (w.heap.size + 3) i (.func (.func g0) #[] lb0) → _) := fun wx blk hbel hb h3 => chain_write (w := wx) (how := how) (more := more) (blk := blk) (fun k hk => Nat.lt_of_lt_of_le (hT k hk) hbel.size) hb (fun h => by have := hT _ h; omega) (fun h => by have := hT _ h; omega) (fun h => by have := hT _ h; omega) ho hs vs
    (hmore.imp id (fun ⟨v, e1, e2⟩ => ⟨v, e1, fun q1 wy q2 q3 => e2 q1 wy ((Kp.of_below T hbel).trans q2 (fun x hx _ => hx)) q3⟩)) (fun q1 q2 k q3 q4 => ⟨(hh q1 q2 k q3 q4).1.later (Kp.of_below T hbel), (hh q1 q2 k q3 q4).2⟩) wx (hd.later hbel) (Kp.refl _ _) h3
  have hlv := hsl.len
  generalize writeP S i more how = res at *
  subst hsv
  clear hd hsl hh hmore
  have hmf : ∀ (fn : Fn) (first cap : Array Value) (w : World), (Instr.makeFunc fn first cap).run Tryz.prog w = .ok (.func fn first cap) w := fun _ _ _ _ => rfl
  have HK : Hid (∀ w1 w2 : World, (w1.cell? ⟨w.heap.size, 0, none⟩ = some (.pointer (some ⟨p, 0, none⟩)) ∧ w1.cell? ⟨w.heap.size + 1, 0, none⟩ = some (.int .i64 i)) → Below w1.heap.size w1 w2 → (w2.cell? ⟨w.heap.size, 0, none⟩ = some (.pointer (some ⟨p, 0, none⟩)) ∧ w2.cell? ⟨w.heap.size + 1, 0, none⟩ = some (.int .i64 i))) := fun w1 w2 h hb => ⟨cell_later hb h.1, cell_later hb h.2⟩
  have HS0 : Hid ((((w.alloc (.cells #[.pointer (some ⟨p, 0, none⟩)] 25)).alloc (.cells #[.int .i64 i] 3)).alloc (.cells #[.func (.func g0) #[] lb0] 100)).drew.cell? ⟨w.heap.size, 0, none⟩ = some (.pointer (some ⟨p, 0, none⟩)) ∧ (((w.alloc (.cells #[.pointer (some ⟨p, 0, none⟩)] 25)).alloc (.cells #[.int .i64 i] 3)).alloc (.cells #[.func (.func g0) #[] lb0] 100)).drew.cell? ⟨w.heap.size + 1, 0, none⟩ = some (.int .i64 i)) := by
    refine ⟨?_, ?_⟩
    · show (World.alloc _ _).cell? _ = _
      rw [cell_past _ _ _ _ (by simp <;> omega), cell_past _ _ _ _ (by simp), cell_alloc1 _ _ _ _ (by simp)]
    · show (World.alloc _ _).cell? _ = _
      rw [cell_past _ _ _ _ (by simp), cell_alloc1 _ _ _ _ (by simp)]
  go_enter Tryz.func53, Tryz.ntmps53
  go_wp2_with fail
  go_region_held_law (fun w' => w'.cell? ⟨w.heap.size, 0, none⟩ = some (.pointer (some ⟨p, 0, none⟩)) ∧ w'.cell? ⟨w.heap.size + 1, 0, none⟩ = some (.int .i64 i)) (first | assumption | exact HS0.out | exact ⟨HBx.out.h4, HBx.out.h5⟩ | exact HK.out _ _ ‹_› (alloc2 _ _ _) | exact HK.out _ _ ‹_› ((Below.refl _ _).alloc (Nat.le_refl _) _)) (first
    | (refine step_append_f rfl (.tmp 15) (.tmp 16) rfl 17 rfl (w.heap.size + 1 + 1 + 1 + 1 + 1) 2 2 [.func (.func 59) #[.pointer (some ⟨p, 0, none⟩)] #[], .func (.func 98) #[] #[.pointer (some ⟨w.heap.size + 1 + 1 + 1 + 1, 0, none⟩), .pointer (some ⟨w.heap.size + 1 + 1 + 1, 0, none⟩)]] vs (.slice sa sn sc) rfl rfl ?_ ?_ (by omega) ?_
       exact owns_new _ #[_, _] _ 2 (by simp) rfl (by omega)
       exact HSL.out.later (W3_below w p i _ _ _)
       intro g4 c4 w4 ho4 hg4 hat4
       have hW4 : (W3 w p i (.func (.func g0) #[] lb0) (.func (.func 59) #[.pointer (some ⟨p, 0, none⟩)] #[]) (.func (.func 98) #[] #[.pointer (some ⟨w.heap.size + 1 + 1 + 1 + 1, 0, none⟩), .pointer (some ⟨w.heap.size + 1 + 1 + 1, 0, none⟩)])).grownBy w4 (some (w.heap.size + 5)) := hg4
       have hat4 : g4 = w.heap.size + 5 ∨ g4 = w.heap.size + 6 := (by rcases hat4 with h | h; exact .inl h; exact .inr (h.trans (W3_size w p i _ _ _)))
       have HW4 : Hid _ := hW4
       have HO4 : Hid _ := ho4
       have HA4 : Hid _ := hat4
       have HBx : Hid _ := (W3_box w p i (.func (.func g0) #[] lb0) (.func (.func 59) #[.pointer (some ⟨p, 0, none⟩)] #[]) (.func (.func 98) #[] #[.pointer (some ⟨w.heap.size + 1 + 1 + 1 + 1, 0, none⟩), .pointer (some ⟨w.heap.size + 1 + 1 + 1, 0, none⟩)])).grown _ hW4 (Nat.le_refl _)
       clear hg4 hat4 ho4 hW4)
    | (go_simp; go_at_call 73; refine Calls.mono (has_any _ _ _) ?_; rintro e w2 ⟨rfl, rfl⟩))
  all_goals
    have hc4 := HBx.out.h4
    go_wp2_with fail
    go_region_held_law (fun w' => w'.cell? ⟨w.heap.size, 0, none⟩ = some (.pointer (some ⟨p, 0, none⟩))) (first | assumption | exact hc4 | exact hc6 | exact cell_later ((Below.refl _ _).alloc (Nat.le_refl _) _) ‹_› | exact hq7.2.2.cell hc6 (fun h => Nat.lt_irrefl _ (hT _ h))) (first
      | (refine step_append_f rfl (.tmp 20) (.tmp 23) rfl 24 rfl g4 (2 + vs.length) c4 ([.func (.func 59) #[.pointer (some ⟨p, 0, none⟩)] #[], .func (.func 98) #[] #[.pointer (some ⟨w.heap.size + 1 + 1 + 1 + 1, 0, none⟩), .pointer (some ⟨w.heap.size + 1 + 1 + 1, 0, none⟩)]] ++ vs) [.func (.func 88) #[.pointer (some ⟨p, 0, none⟩)] #[]] (.slice (some ⟨w4.heap.size, 0, none⟩) 1 1) rfl rfl ?_ ?_ (by omega) ?_
         exact owns_later HO4.out (((Below.refl _ _).alloc (Nat.le_refl _) _).drew)
         exact .inr ⟨w4.heap.size, _, rfl, rfl, cell_alloc1 _ _ _ _ rfl, rfl⟩
         intro g6 c6 w6 ho6 hg6 hat6
         have HX : Hid _ := write_end (res := res) (dv := .func (.func 87) #[] #[.pointer (some ⟨w.heap.size, 0, none⟩), .pointer (some ⟨w.heap.size + 1, 0, none⟩), .pointer (some ⟨w.heap.size + 1 + 1, 0, none⟩)]) hT HD.out ho hlv HW4.out HA4.out _ hg6 hat6 ho6 HCH.out
         have hc6 : w6.cell? ⟨w.heap.size, 0, none⟩ = some (.pointer (some ⟨p, 0, none⟩)) := (hg6.cell (cell_later (((Below.refl _ _).alloc (Nat.le_refl _) _).drew) hc4) (by have := HA4.out; show some w.heap.size ≠ _; simp; omega))
         clear ho6 hg6 hat6)
      | (go_simp; go_at_call 48; refine Calls.mono HX.out ?_; rintro e w7 ⟨k7, rfl, hq7, hb6⟩))
    all_goals
      go_wp2_with fail
      go_ret
      exact ⟨k7, rfl, hq7.back hb6 hT⟩
end Go.Proofs.YtijkgdbabikojaaGreat.Dk

/- The walks over disk.Append, Sync, Cut. -/
namespace Go.Proofs.YtijkgdbabikojaaGreat.Dk
set_option maxRecDepth 1000000
open Go.RowKit
set_option linter.unusedVariables false

/-- A call's answer, and what it made of the disk. -/
def WR (T : Nat → Prop) (w : World) (p : Nat) (r : Int × DS) (e : Ending) (w' : World) : Prop := e = .returned (.int .i64 r.1) ∧ DK (Wid T w w') w' p r.2 ∧ Kp T w w'

theorem DK.live {T : Nat → Prop} {w : World} {p : Nat} {S : DS} (h : DK T w p S) : ∀ k, T k → k < w.heap.size := by obtain ⟨V, h⟩ := h; exact h.live

theorem alloc3 (w : World) (o o' o'' : Obj) : Below w.heap.size w (((w.alloc o).alloc o').alloc o'') := (alloc2 w o o').alloc (by simp; omega) _
theorem alloc4 (w : World) (o o' o'' o3 : Obj) : Below w.heap.size w ((((w.alloc o).alloc o').alloc o'').alloc o3) := (alloc3 w o o' o'').alloc (by simp; omega) _
theorem alloc5 (w : World) (o o' o'' o3 o4 : Obj) : Below w.heap.size w (((((w.alloc o).alloc o').alloc o'').alloc o3).alloc o4) := (alloc4 w o o' o'' o3).alloc (by simp; omega) _

theorem append_call (T : Nat → Prop) (w : World) (p : Nat) (S : DS) (i : Int) (xv : Value) (l : List UInt8) (hd : DK T w p S) (ho : Okay S) (hs : Small 10000000 1000000000000 S) (hx : RB w xv l) (hl : l.length ≤ 10000000) (hxT : ∀ a n c, xv = .slice (some a) n c → ¬ T a.block) :
    Calls Tryz.prog 53 #[.pointer (some ⟨p, 0, none⟩), .int .i64 i, .func (.func 60) #[] #[.pointer (some ⟨w.heap.size, 0, none⟩)], .slice (some ⟨w.heap.size + 1 + 1 + 1, 0, none⟩) 1 1]
      ((((w.alloc (.cells #[xv] 34)).alloc (.cells #[.pointer (some ⟨p, 0, none⟩)] 25)).alloc (.cells #[.int .i64 l.length] 3)).alloc (.cells #[.func (.func 90) #[] #[.pointer (some ⟨w.heap.size + 1 + 1, 0, none⟩), .pointer (some ⟨w.heap.size + 1, 0, none⟩)]] 105))
      (fun e w' => WR T w p (appendP S i l) e w') := by
  have hbel := alloc4 w (.cells #[xv] 34) (.cells #[.pointer (some ⟨p, 0, none⟩)] 25) (.cells #[.int .i64 l.length] 3) (.cells #[.func (.func 90) #[] #[.pointer (some ⟨w.heap.size + 1 + 1, 0, none⟩), .pointer (some ⟨w.heap.size + 1, 0, none⟩)]] 105)
  have hT := hd.live
  have hG : ∀ k, w.heap.size ≤ k → ¬ T k := fun k hk h => by have := hT k h; omega
  have c0 : ((((w.alloc (.cells #[xv] 34)).alloc (.cells #[.pointer (some ⟨p, 0, none⟩)] 25)).alloc (.cells #[.int .i64 l.length] 3)).alloc (.cells #[.func (.func 90) #[] #[.pointer (some ⟨w.heap.size + 1 + 1, 0, none⟩), .pointer (some ⟨w.heap.size + 1, 0, none⟩)]] 105)).cell? ⟨w.heap.size, 0, none⟩ = some xv := by
    rw [cell_past _ _ _ _ (by simp <;> omega), cell_past _ _ _ _ (by simp <;> omega), cell_past _ _ _ _ (by simp), cell_alloc1 _ _ _ _ (by simp)]
  have c1 : ((((w.alloc (.cells #[xv] 34)).alloc (.cells #[.pointer (some ⟨p, 0, none⟩)] 25)).alloc (.cells #[.int .i64 l.length] 3)).alloc (.cells #[.func (.func 90) #[] #[.pointer (some ⟨w.heap.size + 1 + 1, 0, none⟩), .pointer (some ⟨w.heap.size + 1, 0, none⟩)]] 105)).cell? ⟨w.heap.size + 1, 0, none⟩ = some (.pointer (some ⟨p, 0, none⟩)) := by
    rw [cell_past _ _ _ _ (by simp <;> omega), cell_past _ _ _ _ (by simp), cell_alloc1 _ _ _ _ (by simp)]
  have c2 : ((((w.alloc (.cells #[xv] 34)).alloc (.cells #[.pointer (some ⟨p, 0, none⟩)] 25)).alloc (.cells #[.int .i64 l.length] 3)).alloc (.cells #[.func (.func 90) #[] #[.pointer (some ⟨w.heap.size + 1 + 1, 0, none⟩), .pointer (some ⟨w.heap.size + 1, 0, none⟩)]] 105)).cell? ⟨w.heap.size + 1 + 1, 0, none⟩ = some (.int .i64 l.length) := by
    rw [cell_past _ _ _ _ (by simp), cell_alloc1 _ _ _ _ (by simp)]
  refine Calls.mono (write_any T _ p S i (fitsP S l.length) _ _ (withP l) [_] (hd.later hbel) ho hs (.inr ⟨_, _, rfl, rfl, cell_alloc1 _ _ _ _ (by simp), rfl⟩) (.inr ⟨_, rfl, fun _ wx hk hdk => ?_⟩) (fun _ hm k _ hkn => ⟨⟨60, _, rfl, ent51, fun wx v hk hown => ?_⟩, ?_, ?_⟩) ⟨_, _, rfl⟩) ?_
  · obtain ⟨V, hdk⟩ := hdk
    exact ⟨90, #[], #[.pointer (some ⟨w.heap.size + 1 + 1, 0, none⟩), .pointer (some ⟨w.heap.size + 1, 0, none⟩)], rfl, ent65, fits1_any p (w.heap.size + 1 + 1) (w.heap.size + 1) S.room l.length wx (hk.cell c2 (hG (w.heap.size + 1 + 1) (by omega))) (hk.cell c1 (hG (w.heap.size + 1) (by omega))) hdk.rm⟩
  · have hx2 : RB wx xv l := (hx.later hbel).kept hk hxT
    exact append1_any v _ _ wx hown xv l w.heap.size (hk.cell c0 (hG w.heap.size (by omega))) hx2 (hs.len k) hl
  · have := hs.len k
    show ((S.fs k).b ++ l).length ≤ _
    rw [List.length_append]
    omega
  · show ((S.fs k).b ++ l).length ≤ _
    unfold fitsP at hm
    rw [List.length_append]
    split at hm
    · omega
    · cases hm
  · rintro e w' ⟨k, rfl, hq⟩
    obtain ⟨h1, h2, h3⟩ := hq.back hbel hT
    exact ⟨by rw [h1]; rfl, h2, h3⟩

set_option maxRecDepth 1000000 in
set_option maxHeartbeats 1000000 in
theorem append_any (T : Nat → Prop) (w : World) (p : Nat) (S : DS) (i : Int) (xv : Value) (l : List UInt8) (hd : DK T w p S) (ho : Okay S) (hs : Small 10000000 1000000000000 S) (hx : RB w xv l) (hl : l.length ≤ 10000000) (hxT : ∀ a n c, xv = .slice (some a) n c → ¬ T a.block) :
    Calls Tryz.prog 24 #[.pointer (some ⟨p, 0, none⟩), .int .i64 i, xv] w (WR T w p (appendP S i l)) := by
  have HC : Hid _ := append_call T w p S i xv l hd ho hs hx hl hxT
  obtain ⟨xa, xc, rfl, _, _, _, _⟩ := hx
  have hmf : ∀ (fn : Fn) (first cap : Array Value) (w : World), (Instr.makeFunc fn first cap).run Tryz.prog w = .ok (.func fn first cap) w := fun _ _ _ _ => rfl
  generalize appendP S i l = res at *
  clear hxT hd
  go_enter Tryz.func24, Tryz.ntmps24
  go_wp2_with (first
    | (go_at_call 62; refine Calls.mono (fits_any _ _ _) ?_; rintro e w2 ⟨rfl, rfl⟩)
    | (go_at_call 53; refine Calls.mono HC.out ?_; rintro e w2 ⟨rfl, h1, h2⟩))
  go_ret
  exact ⟨rfl, h1, h2⟩

set_option maxRecDepth 1000000 in
set_option maxHeartbeats 1000000 in
theorem sync_any (T : Nat → Prop) (w : World) (p : Nat) (S : DS) (i : Int) (hd : DK T w p S) (ho : Okay S) (hs : Small 10000000 1000000000000 S) :
    Calls Tryz.prog 20 #[.pointer (some ⟨p, 0, none⟩), .int .i64 i] w (WR T w p (syncP S i)) := by
  have HC : Hid (Calls Tryz.prog 53 #[.pointer (some ⟨p, 0, none⟩), .int .i64 i, .func (.func 54) #[] #[], .slice none 0 0] w (WR T w p (syncP S i))) := by
    refine Calls.mono (write_any T w p S i 0 _ _ (fun f => firstP f.b.length f) [] hd ho hs (.inl ⟨rfl, rfl⟩) (.inl ⟨rfl, rfl⟩) (fun _ hm k _ hkn => ⟨⟨54, _, rfl, ent50, fun wx v hk hown => ?_⟩, ?_, ?_⟩) ⟨_, _, rfl⟩) ?_
    · exact sync1_any v _ _ wx hown (hs.len k)
    · have := hs.len k
      show ((S.fs k).b.take _).length ≤ _
      rw [List.length_take]
      omega
    · show ((S.fs k).b.take _).length ≤ _
      rw [List.length_take]
      omega
    · rintro e w' ⟨k, rfl, h1, h2, h3⟩
      exact ⟨by rw [h1]; rfl, h2, h3⟩
  generalize syncP S i = res at *
  clear hd
  go_enter Tryz.func20, Tryz.ntmps20
  go_wp2_with (first | (go_at_call 53; refine Calls.mono HC.out ?_; rintro e w2 ⟨rfl, h1, h2⟩))
  go_ret
  exact ⟨rfl, h1, h2⟩

theorem cut_call (T : Nat → Prop) (w : World) (p : Nat) (S : DS) (i n : Int) (hd : DK T w p S) (ho : Okay S) (hs : Small 10000000 1000000000000 S) :
    Calls Tryz.prog 53 #[.pointer (some ⟨p, 0, none⟩), .int .i64 i, .func (.func 111) #[] #[.pointer (some ⟨w.heap.size, 0, none⟩)], .slice (some ⟨w.heap.size + 1 + 1 + 1 + 1, 0, none⟩) 1 1]
      (((((w.alloc (.cells #[.int .i64 n] 3)).alloc (.cells #[.pointer (some ⟨p, 0, none⟩)] 25)).alloc (.cells #[.int .i64 i] 3)).alloc (.cells #[.int .i64 n] 3)).alloc (.cells #[.func (.func 125) #[] #[.pointer (some ⟨w.heap.size + 1 + 1 + 1, 0, none⟩), .pointer (some ⟨w.heap.size + 1, 0, none⟩), .pointer (some ⟨w.heap.size + 1 + 1, 0, none⟩)]] 105))
      (fun e w' => WR T w p (cutP S i n) e w') := by
  have hbel := alloc5 w (.cells #[.int .i64 n] 3) (.cells #[.pointer (some ⟨p, 0, none⟩)] 25) (.cells #[.int .i64 i] 3) (.cells #[.int .i64 n] 3) (.cells #[.func (.func 125) #[] #[.pointer (some ⟨w.heap.size + 1 + 1 + 1, 0, none⟩), .pointer (some ⟨w.heap.size + 1, 0, none⟩), .pointer (some ⟨w.heap.size + 1 + 1, 0, none⟩)]] 105)
  have hT := hd.live
  have hG : ∀ k, w.heap.size ≤ k → ¬ T k := fun k hk h => by have := hT k h; omega
  obtain ⟨f64, hf64⟩ : ∃ f, f = Value.func (.func 125) #[] #[.pointer (some ⟨w.heap.size + 1 + 1 + 1, 0, none⟩), .pointer (some ⟨w.heap.size + 1, 0, none⟩), .pointer (some ⟨w.heap.size + 1 + 1, 0, none⟩)] := ⟨_, rfl⟩
  rw [← hf64] at hbel ⊢
  have c0 : (((((w.alloc (.cells #[.int .i64 n] 3)).alloc (.cells #[.pointer (some ⟨p, 0, none⟩)] 25)).alloc (.cells #[.int .i64 i] 3)).alloc (.cells #[.int .i64 n] 3)).alloc (.cells #[f64] 105)).cell? ⟨w.heap.size, 0, none⟩ = some (.int .i64 n) := by
    rw [cell_past _ _ _ _ (by simp <;> omega), cell_past _ _ _ _ (by simp <;> omega), cell_past _ _ _ _ (by simp <;> omega), cell_past _ _ _ _ (by simp), cell_alloc1 _ _ _ _ (by simp)]
  have c1 : (((((w.alloc (.cells #[.int .i64 n] 3)).alloc (.cells #[.pointer (some ⟨p, 0, none⟩)] 25)).alloc (.cells #[.int .i64 i] 3)).alloc (.cells #[.int .i64 n] 3)).alloc (.cells #[f64] 105)).cell? ⟨w.heap.size + 1, 0, none⟩ = some (.pointer (some ⟨p, 0, none⟩)) := by
    rw [cell_past _ _ _ _ (by simp <;> omega), cell_past _ _ _ _ (by simp <;> omega), cell_past _ _ _ _ (by simp), cell_alloc1 _ _ _ _ (by simp)]
  have c2 : (((((w.alloc (.cells #[.int .i64 n] 3)).alloc (.cells #[.pointer (some ⟨p, 0, none⟩)] 25)).alloc (.cells #[.int .i64 i] 3)).alloc (.cells #[.int .i64 n] 3)).alloc (.cells #[f64] 105)).cell? ⟨w.heap.size + 1 + 1, 0, none⟩ = some (.int .i64 i) := by
    rw [cell_past _ _ _ _ (by simp <;> omega), cell_past _ _ _ _ (by simp), cell_alloc1 _ _ _ _ (by simp)]
  have c3 : (((((w.alloc (.cells #[.int .i64 n] 3)).alloc (.cells #[.pointer (some ⟨p, 0, none⟩)] 25)).alloc (.cells #[.int .i64 i] 3)).alloc (.cells #[.int .i64 n] 3)).alloc (.cells #[f64] 105)).cell? ⟨w.heap.size + 1 + 1 + 1, 0, none⟩ = some (.int .i64 n) := by
    rw [cell_past _ _ _ _ (by simp), cell_alloc1 _ _ _ _ (by simp)]
  refine Calls.mono (write_any T _ p S i (reachP S i n) _ _ (firstP n.toNat) [f64] (hd.later hbel) ho hs (.inr ⟨_, _, rfl, rfl, cell_alloc1 _ _ _ _ (by simp), by rw [hf64]; rfl⟩) (.inr ⟨_, rfl, fun hh wx hk hdk => ?_⟩) (fun _ hm k hik hkn => ⟨⟨111, _, rfl, ent47, fun wx v hk hown => ?_⟩, ?_, ?_⟩) ⟨_, _, rfl⟩) ?_
  · obtain ⟨V, hdk⟩ := hdk
    obtain ⟨k, rfl, hkn⟩ := hasB_true hh
    have hfew := ho.few
    have hf := hdk.file k (by omega)
    obtain ⟨a, c, hV, _, _, _⟩ := owns_slice hf.2.2
    rw [hV] at hf
    refine ⟨125, #[], #[.pointer (some ⟨w.heap.size + 1 + 1 + 1, 0, none⟩), .pointer (some ⟨w.heap.size + 1, 0, none⟩), .pointer (some ⟨w.heap.size + 1 + 1, 0, none⟩)], hf64, ent64, ?_⟩
    exact reaches1_any p (w.heap.size + 1 + 1 + 1) (w.heap.size + 1) (w.heap.size + 1 + 1) k (S.fs k).b.length a c n wx (by omega) (hs.len k) (hk.cell c3 (hG (w.heap.size + 1 + 1 + 1) (by omega))) (hk.cell c2 (hG (w.heap.size + 1 + 1) (by omega))) (hk.cell c1 (hG (w.heap.size + 1) (by omega))) hf.1
  · subst hik
    unfold reachP at hm
    split at hm
    · rename_i hr
      obtain ⟨m, rfl⟩ : ∃ m : Nat, n = m := ⟨n.toNat, by omega⟩
      exact cut1_any v _ _ wx hown m (by have := hr.2; simp only [Int.toNat_natCast] at this; omega) w.heap.size (hk.cell c0 (hG w.heap.size (by omega)))
    · cases hm
  · have := hs.len k
    show ((S.fs k).b.take _).length ≤ _
    rw [List.length_take]
    omega
  · show ((S.fs k).b.take _).length ≤ _
    rw [List.length_take]
    omega
  · rintro e w' ⟨k, rfl, hq⟩
    obtain ⟨h1, h2, h3⟩ := hq.back hbel hT
    exact ⟨by rw [h1]; rfl, h2, h3⟩

set_option maxRecDepth 1000000 in
set_option maxHeartbeats 1000000 in
theorem cut_any (T : Nat → Prop) (w : World) (p : Nat) (S : DS) (i n : Int) (hd : DK T w p S) (ho : Okay S) (hs : Small 10000000 1000000000000 S) :
    Calls Tryz.prog 86 #[.pointer (some ⟨p, 0, none⟩), .int .i64 i, .int .i64 n] w (WR T w p (cutP S i n)) := by
  have HC : Hid _ := cut_call T w p S i n hd ho hs
  have hmf : ∀ (fn : Fn) (first cap : Array Value) (w : World), (Instr.makeFunc fn first cap).run Tryz.prog w = .ok (.func fn first cap) w := fun _ _ _ _ => rfl
  generalize cutP S i n = res at *
  clear hd
  go_enter Tryz.func86, Tryz.ntmps86
  go_wp2_with (first
    | (go_at_call 112; refine Calls.mono (reaches_any _ _ _ _) ?_; rintro e w2 ⟨rfl, rfl⟩)
    | (go_at_call 53; refine Calls.mono HC.out ?_; rintro e w2 ⟨rfl, h1, h2⟩))
  go_ret
  exact ⟨rfl, h1, h2⟩
end Go.Proofs.YtijkgdbabikojaaGreat.Dk

/- The walks over disk.Room, Down, Files, Arm. -/
namespace Go.Proofs.YtijkgdbabikojaaGreat.Dk
set_option maxRecDepth 1000000
open Go.RowKit
set_option linter.unusedVariables false

theorem ent43 : Ent 74 := fun args w => by kernel_rfl
theorem ent42 : Ent 75 := fun args w => by kernel_rfl
theorem ent56 : Ent 99 := fun args w => by kernel_rfl
theorem ent44 : Ent 58 := fun args w => by kernel_rfl

theorem RF.nil (w : World) (blk : Nat) : RF w blk (.slice none 0 0) [] := ⟨none, 0, rfl, by simp, fun i u h => by simp at h⟩

theorem RF.one (w : World) (v : Value) (k : Nat) (hk : k = w.heap.size) : RF (w.alloc (.cells #[v] 105)) k (.slice (some ⟨k, 0, none⟩) 1 1) [v] := by
  refine ⟨_, 1, rfl, by simp, fun i u h => ?_⟩
  match i, h with
  | 0, h => simp at h; subst h; exact ⟨0, rfl, cell_alloc1 _ _ _ _ hk⟩
  | i + 1, h => simp at h

theorem froz1 (w : World) (v : Value) (t : TypeId) (k o : Nat) (hk : k = w.heap.size) : (w.alloc (.cells #[v] t)).frozen? ⟨k, o, none⟩ = false := by
  subst hk
  exact frozen_of_row _ _ _ #[v] t (heap_alloc_new _ _)

set_option maxRecDepth 1000000 in
theorem room1_any (p b0 b1 : Nat) (x y : Int) (w : World) (h0 : w.cell? ⟨b0, 0, none⟩ = some (.pointer (some ⟨p, 0, none⟩))) (h1 : w.cell? ⟨b1, 0, none⟩ = some (.int .i64 y)) (hf : w.frozen? ⟨b1, 0, none⟩ = false) (hc : w.cell? ⟨p, 131, none⟩ = some (.int .i64 x)) :
    Calls Tryz.prog 74 #[.pointer (some ⟨b0, 0, none⟩), .pointer (some ⟨b1, 0, none⟩)] w fun e w' => e = .returned (.tuple #[]) ∧ w' = w.setCell ⟨b1, 0, none⟩ (.int .i64 x) := by
  go_enter Tryz.func74, Tryz.ntmps74
  go_wp2
  go_end0
  exact ⟨rfl, rfl⟩

set_option maxRecDepth 1000000 in
set_option maxHeartbeats 1000000 in
theorem room_any (p n : Nat) (x : Int) (w : World) (hn : w.cell? ⟨p, 130, none⟩ = some (.int .i64 n)) (hpos : n ≠ 0) (hc : w.cell? ⟨p, 131, none⟩ = some (.int .i64 x)) :
    Calls Tryz.prog 34 #[.pointer (some ⟨p, 0, none⟩)] w fun e w' => e = .returned (.int .i64 x) ∧ Below w.heap.size w w' := by
  have hbel := alloc2 w (.cells #[.pointer (some ⟨p, 0, none⟩)] 25) (.cells #[.int .i64 0] 3)
  have c0 : ((w.alloc (.cells #[.pointer (some ⟨p, 0, none⟩)] 25)).alloc (.cells #[.int .i64 0] 3)).cell? ⟨w.heap.size, 0, none⟩ = some (.pointer (some ⟨p, 0, none⟩)) := by
    rw [cell_past _ _ _ _ (by simp), cell_alloc1 _ _ _ _ rfl]
  have c1 : ((w.alloc (.cells #[.pointer (some ⟨p, 0, none⟩)] 25)).alloc (.cells #[.int .i64 0] 3)).cell? ⟨w.heap.size + 1, 0, none⟩ = some (.int .i64 0) := cell_alloc1 _ _ _ _ (by simp)
  have f1 : ((w.alloc (.cells #[.pointer (some ⟨p, 0, none⟩)] 25)).alloc (.cells #[.int .i64 0] 3)).frozen? ⟨w.heap.size + 1, 0, none⟩ = false := froz1 _ _ _ _ _ (by simp)
  have HC : Hid _ := call_any p n 0 (.func (.func 74) #[] #[.pointer (some ⟨w.heap.size, 0, none⟩), .pointer (some ⟨w.heap.size + 1, 0, none⟩)]) _ [] _ (fun k w' => k = 0 ∧ w' = ((w.alloc (.cells #[.pointer (some ⟨p, 0, none⟩)] 25)).alloc (.cells #[.int .i64 0] 3)).setCell ⟨w.heap.size + 1, 0, none⟩ (.int .i64 x)) (cell_later hbel hn) hpos (RF.nil _ _)
    ⟨74, #[], #[.pointer (some ⟨w.heap.size, 0, none⟩), .pointer (some ⟨w.heap.size + 1, 0, none⟩)], rfl, ent43, Calls.mono (room1_any p w.heap.size (w.heap.size + 1) x 0 _ c0 c1 f1 (cell_later hbel hc)) (fun e w' h => ⟨h.1, rfl, h.2⟩)⟩
  have HB : Hid _ := hbel
  have hmf : ∀ (fn : Fn) (first cap : Array Value) (w : World), (Instr.makeFunc fn first cap).run Tryz.prog w = .ok (.func fn first cap) w := fun _ _ _ _ => rfl
  clear hbel c0 f1
  go_enter Tryz.func34, Tryz.ntmps34
  go_wp2_with (first | (go_at_call 48; refine Calls.mono HC.out ?_; rintro e w2 ⟨k, rfl, rfl, rfl⟩))
  go_ret
  exact ⟨rfl, alloc2 _ _ _⟩

set_option maxRecDepth 1000000 in
theorem down1_any (p b0 b1 : Nat) (x y : Bool) (w : World) (h0 : w.cell? ⟨b0, 0, none⟩ = some (.pointer (some ⟨p, 0, none⟩))) (h1 : w.cell? ⟨b1, 0, none⟩ = some (.bool y)) (hf : w.frozen? ⟨b1, 0, none⟩ = false) (hc : w.cell? ⟨p, 133, none⟩ = some (.bool x)) :
    Calls Tryz.prog 75 #[.pointer (some ⟨b0, 0, none⟩), .pointer (some ⟨b1, 0, none⟩)] w fun e w' => e = .returned (.tuple #[]) ∧ w' = w.setCell ⟨b1, 0, none⟩ (.bool x) := by
  go_enter Tryz.func75, Tryz.ntmps75
  go_wp2
  go_end0
  exact ⟨rfl, rfl⟩

set_option maxRecDepth 1000000 in
set_option maxHeartbeats 1000000 in
theorem down_any (p n : Nat) (x : Bool) (w : World) (hn : w.cell? ⟨p, 130, none⟩ = some (.int .i64 n)) (hpos : n ≠ 0) (hc : w.cell? ⟨p, 133, none⟩ = some (.bool x)) :
    Calls Tryz.prog 35 #[.pointer (some ⟨p, 0, none⟩)] w fun e w' => e = .returned (.bool x) ∧ Below w.heap.size w w' := by
  have hbel := alloc2 w (.cells #[.pointer (some ⟨p, 0, none⟩)] 25) (.cells #[.bool false] 4)
  have c0 : ((w.alloc (.cells #[.pointer (some ⟨p, 0, none⟩)] 25)).alloc (.cells #[.bool false] 4)).cell? ⟨w.heap.size, 0, none⟩ = some (.pointer (some ⟨p, 0, none⟩)) := by
    rw [cell_past _ _ _ _ (by simp), cell_alloc1 _ _ _ _ rfl]
  have c1 : ((w.alloc (.cells #[.pointer (some ⟨p, 0, none⟩)] 25)).alloc (.cells #[.bool false] 4)).cell? ⟨w.heap.size + 1, 0, none⟩ = some (.bool false) := cell_alloc1 _ _ _ _ (by simp)
  have f1 : ((w.alloc (.cells #[.pointer (some ⟨p, 0, none⟩)] 25)).alloc (.cells #[.bool false] 4)).frozen? ⟨w.heap.size + 1, 0, none⟩ = false := froz1 _ _ _ _ _ (by simp)
  have HC : Hid _ := call_any p n 0 (.func (.func 75) #[] #[.pointer (some ⟨w.heap.size, 0, none⟩), .pointer (some ⟨w.heap.size + 1, 0, none⟩)]) _ [] _ (fun k w' => k = 0 ∧ w' = ((w.alloc (.cells #[.pointer (some ⟨p, 0, none⟩)] 25)).alloc (.cells #[.bool false] 4)).setCell ⟨w.heap.size + 1, 0, none⟩ (.bool x)) (cell_later hbel hn) hpos (RF.nil _ _)
    ⟨75, #[], #[.pointer (some ⟨w.heap.size, 0, none⟩), .pointer (some ⟨w.heap.size + 1, 0, none⟩)], rfl, ent42, Calls.mono (down1_any p w.heap.size (w.heap.size + 1) x false _ c0 c1 f1 (cell_later hbel hc)) (fun e w' h => ⟨h.1, rfl, h.2⟩)⟩
  have HB : Hid _ := hbel
  have hmf : ∀ (fn : Fn) (first cap : Array Value) (w : World), (Instr.makeFunc fn first cap).run Tryz.prog w = .ok (.func fn first cap) w := fun _ _ _ _ => rfl
  clear hbel c0 f1
  go_enter Tryz.func35, Tryz.ntmps35
  go_wp2_with (first | (go_at_call 48; refine Calls.mono HC.out ?_; rintro e w2 ⟨k, rfl, rfl, rfl⟩))
  go_ret
  exact ⟨rfl, alloc2 _ _ _⟩

set_option maxRecDepth 1000000 in
theorem files1_any (p b0 b1 : Nat) (x y : Int) (w : World) (h0 : w.cell? ⟨b0, 0, none⟩ = some (.pointer (some ⟨p, 0, none⟩))) (h1 : w.cell? ⟨b1, 0, none⟩ = some (.int .i64 y)) (hf : w.frozen? ⟨b1, 0, none⟩ = false) (hc : w.cell? ⟨p, 130, none⟩ = some (.int .i64 x)) :
    Calls Tryz.prog 99 #[.pointer (some ⟨b0, 0, none⟩), .pointer (some ⟨b1, 0, none⟩)] w fun e w' => e = .returned (.tuple #[]) ∧ w' = w.setCell ⟨b1, 0, none⟩ (.int .i64 x) := by
  go_enter Tryz.func99, Tryz.ntmps99
  go_wp2
  go_end0
  exact ⟨rfl, rfl⟩

set_option maxRecDepth 1000000 in
set_option maxHeartbeats 1000000 in
theorem files_any (p n : Nat) (x : Int) (w : World) (hn : w.cell? ⟨p, 130, none⟩ = some (.int .i64 n)) (hpos : n ≠ 0) (hc : w.cell? ⟨p, 130, none⟩ = some (.int .i64 x)) :
    Calls Tryz.prog 76 #[.pointer (some ⟨p, 0, none⟩)] w fun e w' => e = .returned (.int .i64 x) ∧ Below w.heap.size w w' := by
  have hbel := alloc2 w (.cells #[.pointer (some ⟨p, 0, none⟩)] 25) (.cells #[.int .i64 0] 3)
  have c0 : ((w.alloc (.cells #[.pointer (some ⟨p, 0, none⟩)] 25)).alloc (.cells #[.int .i64 0] 3)).cell? ⟨w.heap.size, 0, none⟩ = some (.pointer (some ⟨p, 0, none⟩)) := by
    rw [cell_past _ _ _ _ (by simp), cell_alloc1 _ _ _ _ rfl]
  have c1 : ((w.alloc (.cells #[.pointer (some ⟨p, 0, none⟩)] 25)).alloc (.cells #[.int .i64 0] 3)).cell? ⟨w.heap.size + 1, 0, none⟩ = some (.int .i64 0) := cell_alloc1 _ _ _ _ (by simp)
  have f1 : ((w.alloc (.cells #[.pointer (some ⟨p, 0, none⟩)] 25)).alloc (.cells #[.int .i64 0] 3)).frozen? ⟨w.heap.size + 1, 0, none⟩ = false := froz1 _ _ _ _ _ (by simp)
  have HC : Hid _ := call_any p n 0 (.func (.func 99) #[] #[.pointer (some ⟨w.heap.size, 0, none⟩), .pointer (some ⟨w.heap.size + 1, 0, none⟩)]) _ [] _ (fun k w' => k = 0 ∧ w' = ((w.alloc (.cells #[.pointer (some ⟨p, 0, none⟩)] 25)).alloc (.cells #[.int .i64 0] 3)).setCell ⟨w.heap.size + 1, 0, none⟩ (.int .i64 x)) (cell_later hbel hn) hpos (RF.nil _ _)
    ⟨99, #[], #[.pointer (some ⟨w.heap.size, 0, none⟩), .pointer (some ⟨w.heap.size + 1, 0, none⟩)], rfl, ent56, Calls.mono (files1_any p w.heap.size (w.heap.size + 1) x 0 _ c0 c1 f1 (cell_later hbel hc)) (fun e w' h => ⟨h.1, rfl, h.2⟩)⟩
  have HB : Hid _ := hbel
  have hmf : ∀ (fn : Fn) (first cap : Array Value) (w : World), (Instr.makeFunc fn first cap).run Tryz.prog w = .ok (.func fn first cap) w := fun _ _ _ _ => rfl
  clear hbel c0 f1
  go_enter Tryz.func76, Tryz.ntmps76
  go_wp2_with (first | (go_at_call 48; refine Calls.mono HC.out ?_; rintro e w2 ⟨k, rfl, rfl, rfl⟩))
  go_ret
  exact ⟨rfl, alloc2 _ _ _⟩

set_option maxRecDepth 1000000 in
theorem arm1_any (p b0 b1 : Nat) (n : Int) (y : Int) (w : World) (h0 : w.cell? ⟨b0, 0, none⟩ = some (.int .i64 n)) (h1 : w.cell? ⟨b1, 0, none⟩ = some (.pointer (some ⟨p, 0, none⟩))) (hf : w.frozen? ⟨p, 132, none⟩ = false) (hc : w.cell? ⟨p, 132, none⟩ = some (.int .i64 y)) :
    Calls Tryz.prog 58 #[.pointer (some ⟨b0, 0, none⟩), .pointer (some ⟨b1, 0, none⟩)] w fun e w' => e = .returned (.tuple #[]) ∧ w' = w.setCell ⟨p, 132, none⟩ (.int .i64 (max n (-1))) := by
  go_enter Tryz.func58, Tryz.ntmps58
  go_wp2
  all_goals
    go_end0
    refine ⟨rfl, ?_⟩
    congr 2
    omega

set_option maxRecDepth 1000000 in
set_option maxHeartbeats 1000000 in
theorem arm_any (T : Nat → Prop) (w : World) (p : Nat) (S : DS) (n : Int) (hd : DK T w p S) (ho : Okay S) :
    Calls Tryz.prog 22 #[.pointer (some ⟨p, 0, none⟩), .int .i64 n] w (WR T w p (armP S n)) := by
  have hT := hd.live
  have hG : ∀ k, w.heap.size ≤ k → ¬ T k := fun k hk h => by have := hT k h; omega
  have hbel := alloc3 w (.cells #[.pointer (some ⟨p, 0, none⟩)] 25) (.cells #[.int .i64 n] 3) (.cells #[.func (.func 59) #[.pointer (some ⟨p, 0, none⟩)] #[]] 105)
  have c0 : (((w.alloc (.cells #[.pointer (some ⟨p, 0, none⟩)] 25)).alloc (.cells #[.int .i64 n] 3)).alloc (.cells #[.func (.func 59) #[.pointer (some ⟨p, 0, none⟩)] #[]] 105)).cell? ⟨w.heap.size, 0, none⟩ = some (.pointer (some ⟨p, 0, none⟩)) := by
    rw [cell_past _ _ _ _ (by simp <;> omega), cell_past _ _ _ _ (by simp), cell_alloc1 _ _ _ _ rfl]
  have c1 : (((w.alloc (.cells #[.pointer (some ⟨p, 0, none⟩)] 25)).alloc (.cells #[.int .i64 n] 3)).alloc (.cells #[.func (.func 59) #[.pointer (some ⟨p, 0, none⟩)] #[]] 105)).cell? ⟨w.heap.size + 1, 0, none⟩ = some (.int .i64 n) := by
    rw [cell_past _ _ _ _ (by simp), cell_alloc1 _ _ _ _ (by simp)]
  have hd2 := hd.later hbel
  have hpos := ho.pos
  have HB : Hid _ := hbel
  have HC : Hid (Calls Tryz.prog 48 #[.pointer (some ⟨p, 0, none⟩), .func (.func 58) #[] #[.pointer (some ⟨w.heap.size + 1, 0, none⟩), .pointer (some ⟨w.heap.size, 0, none⟩)], .slice (some ⟨w.heap.size + 1 + 1, 0, none⟩) 1 1] (((w.alloc (.cells #[.pointer (some ⟨p, 0, none⟩)] 25)).alloc (.cells #[.int .i64 n] 3)).alloc (.cells #[.func (.func 59) #[.pointer (some ⟨p, 0, none⟩)] #[]] 105)) (WR T w p (armP S n))) := by
    obtain ⟨V, hv⟩ := hd2
    have hW : ∀ w', WQ T (((w.alloc (.cells #[.pointer (some ⟨p, 0, none⟩)] 25)).alloc (.cells #[.int .i64 n] 3)).alloc (.cells #[.func (.func 59) #[.pointer (some ⟨p, 0, none⟩)] #[]] 105)) p (armP S n) (armP S n).1 w' → WR T w p (armP S n) (.returned (.int .i64 (armP S n).1)) w' := fun w' h => by
      obtain ⟨h1, h2, h3⟩ := h.back hbel hT
      exact ⟨rfl, h2, h3⟩
    have hlive : ∀ k, T k → k < (((w.alloc (.cells #[.pointer (some ⟨p, 0, none⟩)] 25)).alloc (.cells #[.int .i64 n] 3)).alloc (.cells #[.func (.func 59) #[.pointer (some ⟨p, 0, none⟩)] #[]] 105)).heap.size := fun k hk => Nat.lt_of_lt_of_le (hT k hk) hbel.size
    refine Calls.mono (call_any p S.n (w.heap.size + 1 + 1) _ _ [.func (.func 59) #[.pointer (some ⟨p, 0, none⟩)] #[]] _ (fun k w' => k = (armP S n).1 ∧ WR T w p (armP S n) (.returned (.int .i64 (armP S n).1)) w') hv.cnt (by omega) (RF.one _ _ _ (by simp)) ⟨59, #[.pointer (some ⟨p, 0, none⟩)], #[], rfl, ent45, Calls.mono (runs_any p S.down _ hv.dn) ?_⟩) ?_
    · rintro e w' ⟨rfl, rfl⟩
      by_cases hdn : S.down = true
      · have hA : armP S n = (9, S) := by unfold armP; rw [if_pos hdn]
        rw [hA] at hW ⊢
        exact ⟨9, by rw [if_pos hdn], rfl, fun _ => ⟨rfl, hW _ (WQ.same ⟨V, hv⟩ (Kp.refl _ _) hlive)⟩, fun h => by cases h⟩
      · have hA : armP S n = (0, { S with fuse := max n (-1) }) := by unfold armP; rw [if_neg hdn]
        rw [hA] at hW ⊢
        refine ⟨0, by rw [if_neg hdn], rfl, fun h => absurd rfl h, fun _ => ?_⟩
        refine ⟨58, #[], #[.pointer (some ⟨w.heap.size + 1, 0, none⟩), .pointer (some ⟨w.heap.size, 0, none⟩)], rfl, ent44, Calls.mono (arm1_any p _ _ n S.fuse _ c1 c0 (hv.frozen _) hv.fu) ?_⟩
        rintro e w' ⟨rfl, rfl⟩
        exact ⟨rfl, rfl, hW _ (WQ.same ⟨V, hv.setFuse _⟩ ((Kp.refl _ _).set _ _ hv.own) hlive)⟩
    · rintro e w' ⟨k, rfl, rfl, h⟩
      exact h
  generalize armP S n = res at *
  have hmf : ∀ (fn : Fn) (first cap : Array Value) (w : World), (Instr.makeFunc fn first cap).run Tryz.prog w = .ok (.func fn first cap) w := fun _ _ _ _ => rfl
  clear hd hd2 hbel c0 c1
  go_enter Tryz.func22, Tryz.ntmps22
  go_wp2_with (first | (go_at_call 48; refine Calls.mono HC.out ?_; rintro e w2 ⟨rfl, h1, h2⟩))
  go_ret
  exact ⟨rfl, h1, h2⟩
end Go.Proofs.YtijkgdbabikojaaGreat.Dk

