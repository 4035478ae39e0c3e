/- Texts of the seat, packed: DWf DWg DWh DXa. -/
import Derived.Test.YtijkgdbabikojaaGreatP04
import Derived.Deep.RegionLaw
import Derived.Laws.MakeOwn
/- The walk over disk.file's with. -/
namespace Go.Proofs.YtijkgdbabikojaaGreat.Dk
set_option maxRecDepth 1000000
open Go.RowKit
set_option linter.unusedVariables false

/-- 'append' with a known run, as one step of a region that draws its order. -/
theorem step_append_run {P : Program} {ops : Array Oper} {o : Oper} {a : Act} {w : World} {K : Act → World → Prop} {Q : Exit → Act → World → Prop} {E : Prop}
    (hg : o.guard = none) (s x : Operand) (t : TypeId) (hop : o.op = Op.call { callee := Callee.builtin Builtin.append, args := #[s, x], argTypes := #[t, t] })
    (d : Tmp) (hdst : o.dst = some d) (v xv v' : Value) (w' : World) (hs : a.eval s = v) (hx : a.eval x = xv) (hrun : (Builtin.append_ #[t, t] o.type #[v, xv]).run P w = .ok v' w') (hK : K (a.put (some d) v') w') :
    if Region.wanted o (yielded ops a.tmps) = true then Oper.wp P o a w K Q else E := by
  have hw : Region.wanted o (yielded ops a.tmps) = true := by simp [Region.wanted, hg]
  rw [if_pos hw]
  unfold Oper.wp
  simp [execOp, hop, resolve, invoke, builtin, hs, hx, hrun, Result.andThen]
  rw [← hdst] at hK
  exact hK

/-- What a turned file is like in memory. -/
def NewF (w : World) (v : Value) (f : Fl) (e : Ending) (w' : World) : Prop :=
  ∃ V, e = .returned (.agg #[V, .int .i64 f.s]) ∧ w'.ownsRow 0 5 1 V f.b.length (bvs f.b) ∧ Kp (fun k => v.ownBlock = some k) w w' ∧ (V.ownBlock = v.ownBlock ∨ ∃ g, V.ownBlock = some g ∧ w.heap.size ≤ g)

set_option maxRecDepth 1000000 in
set_option maxHeartbeats 1000000 in
theorem with_any (v xv : Value) (b l : List UInt8) (s : Nat) (w : World) (h : w.ownsRow 0 5 1 v b.length (bvs b)) (hx : RB w xv l) (hb : b.length ≤ 10000000) (hl : l.length ≤ 10000000) :
    Calls Tryz.prog 61 #[.agg #[v, .int .i64 s], xv] w (NewF w v ⟨b ++ l, s⟩) := by
  obtain ⟨a, c, rfl, _, _, _⟩ := owns_slice h
  have hx0 := hx
  obtain ⟨xa, xc, rfl, _, _, _, _⟩ := hx0
  have hbel := (alloc2 w (.cells #[.slice a b.length c, .int .i64 s] 92) (.cells #[.slice none 0 0, .int .i64 0] 92)).drew
  obtain ⟨v', w', hrun, hown, hgr, hblk⟩ := run_append_b _ 34 _ _ b l (owns_later h hbel) (hx.later hbel) hb hl
  obtain ⟨a2, c2, rfl, _, _, _⟩ := owns_slice hown
  have HV : Hid (∀ g, (Value.slice a b.length c).ownBlock = some g → g < w.heap.size) := fun g hg => (h.lt g hg).2
  have HG : Hid (((w.alloc (.cells #[.slice a b.length c, .int .i64 s] 92)).alloc (.cells #[.slice none 0 0, .int .i64 0] 92)).drew.grownBy w' (Value.slice a b.length c).ownBlock) := hgr
  have HO : Hid (w'.ownsRow 0 5 1 (.slice a2 (b ++ l).length c2) (b ++ l).length (bvs (b ++ l))) := hown
  have hr1 : w'.heap[w.heap.size + 1]? = some (.cells #[.slice none 0 0, .int .i64 0] 92 (0, 0)) := by
    rw [hgr.block _ (by show _ < ((w.alloc _).alloc _).heap.size; simp) (fun he => by have := HV.out _ he.symm; omega)]
    exact heap_new _ _ _ (by simp)
  have hr0 : w'.heap[w.heap.size]? = some (.cells #[.slice a b.length c, .int .i64 s] 92 (0, 0)) := by
    rw [hgr.block _ (by show _ < ((w.alloc _).alloc _).heap.size; simp; omega) (fun he => by have := HV.out _ he.symm; omega)]
    show ((w.alloc _).alloc _).heap[w.heap.size]? = _
    rw [Below.heap_alloc _ _ _ (by simp)]
    exact heap_new _ _ _ rfl
  obtain ⟨_, hq0, _⟩ := rowF hr0
  obtain ⟨hq1, hq2, hq3⟩ := rowF hr1
  have HW : Hid (w'.heap[w.heap.size + 1]? = some (.cells #[.slice none 0 0, .int .i64 0] 92 (0, 0))) := hr1
  have HKp : Hid (Kp (fun k => (Value.slice a b.length c).ownBlock = some k) w w') := (Kp.of_below _ hbel).trans (Kp.of_grown (fun k => (Value.slice a b.length c).ownBlock = some k) hgr (fun k h => h)) (fun x hx _ => hx)
  have HBk : Hid ((Value.slice a2 (b ++ l).length c2).ownBlock = (Value.slice a b.length c).ownBlock ∨ (Value.slice a2 (b ++ l).length c2).ownBlock = some (w.heap.size + 2)) := by
    rcases hblk with h | h
    · exact .inl h
    · exact .inr (by rw [h]; simp [World.drew])
  clear hr0 hr1
  have HR : Hid _ := hrun
  clear h hx hbel hown hgr hblk hrun
  go_enter Tryz.func61, Tryz.ntmps61
  go_wp2_with fail
  go_region_law (first | (refine step_append_run rfl (.tmp 6) (.tmp 7) 34 rfl 8 rfl _ _ _ _ rfl rfl HR.out ?_))
  all_goals
    go_wp2_with fail
    refine retF rfl (w.heap.size + 1) _ _ rfl rfl (setF HW.out _ _) ?_
    rw [← List.length_append]
    refine ⟨_, rfl, owns_kept (Kp.set2 _ _ _ _) HO.out (fun g hg => ?_), HKp.out.trans (Kp.set2 _ _ _ _) (fun x hx hl => by omega), ?_⟩
    · rcases HBk.out with h | h
      · rw [h] at hg
        have := HV.out g hg
        omega
      · rw [h] at hg
        cases hg
        omega
    · rcases HBk.out with h | h
      · exact .inl h
      · exact .inr ⟨_, h, by omega⟩
end Go.Proofs.YtijkgdbabikojaaGreat.Dk

/- The walks over what turns a file: of Append, Sync, Cut and Crash. -/
namespace Go.Proofs.YtijkgdbabikojaaGreat.Dk
set_option maxRecDepth 1000000
open Go.RowKit
set_option linter.unusedVariables false

theorem ent51 : Ent 60 := fun args w => by kernel_rfl
theorem ent50 : Ent 54 := fun args w => by kernel_rfl
theorem ent47 : Ent 111 := fun args w => by kernel_rfl
theorem ent40 : Ent 51 := fun args w => by kernel_rfl

/-- A function value that turns a file. -/
def HowV (hv : Value) (w0 : World) (T : Nat → Prop) (f f' : Fl) : Prop :=
  ∃ (g : Nat) (lb : Array Value), hv = .func (.func g) #[] lb ∧ Ent g ∧ ∀ wx v, Kp T w0 wx → wx.ownsRow 0 5 1 v f.b.length (bvs f.b) → Calls Tryz.prog g (#[.agg #[v, .int .i64 f.s]] ++ lb) wx (NewF wx v f')

theorem first_new (v : Value) (b : List UInt8) (s n : Nat) (w : World) (h : w.ownsRow 0 5 1 v b.length (bvs b)) (hn : n ≤ b.length) :
    Calls Tryz.prog 55 #[.agg #[v, .int .i64 s], .int .i64 n] w (NewF w v (firstP n ⟨b, s⟩)) := by
  refine Calls.mono (first_any v b s n w h hn) ?_
  rintro e w' ⟨V, rfl, h1, h2, h3⟩
  exact ⟨V, rfl, h1, Kp.of_below _ h3, .inl h2⟩

theorem with_new (v xv : Value) (b l : List UInt8) (s : Nat) (w : World) (h : w.ownsRow 0 5 1 v b.length (bvs b)) (hx : RB w xv l) (hb : b.length ≤ 10000000) (hl : l.length ≤ 10000000) :
    Calls Tryz.prog 61 #[.agg #[v, .int .i64 s], xv] w (NewF w v (withP l ⟨b, s⟩)) := with_any v xv b l s w h hx hb hl

theorem torn_new (v : Value) (b : List UInt8) (s : Nat) (k : Int) (w : World) (h : w.ownsRow 0 5 1 v b.length (bvs b)) (hs : s ≤ b.length) (hl : b.length ≤ 10000000) :
    Calls Tryz.prog 52 #[.agg #[v, .int .i64 s], .int .i64 k] w (NewF w v (tornP k ⟨b, s⟩)) := by
  refine Calls.mono (torn_any v b s k w h hs hl) ?_
  rintro e w' ⟨V, rfl, h1, h2, h3⟩
  exact ⟨V, rfl, h1, Kp.of_below _ h3, .inl h2⟩

/-- The result is laid into the box that the call made for it. -/
theorem box_new {wx W1 w2 : World} {v V : Value} {f : Fl} (hb : Below wx.heap.size wx W1) (hz : W1.heap.size = wx.heap.size + 2) (hv : ∀ g, v.ownBlock = some g → g < wx.heap.size)
    (h1 : w2.ownsRow 0 5 1 V f.b.length (bvs f.b)) (h2 : Kp (fun k => v.ownBlock = some k) W1 w2) (h3 : V.ownBlock = v.ownBlock ∨ ∃ g, V.ownBlock = some g ∧ W1.heap.size ≤ g) (x y : Value) :
    NewF wx v f (.returned (.agg #[V, .int .i64 f.s])) ((w2.setCell ⟨wx.heap.size + 1, 0, none⟩ x).setCell ⟨wx.heap.size + 1, 1, none⟩ y) := by
  refine ⟨V, rfl, owns_kept (Kp.set2 _ _ _ _) h1 (fun g hg => ?_), ((Kp.of_below _ hb).trans h2 (fun x hx _ => hx)).trans (Kp.set2 _ _ _ _) (fun x hx hl => by omega), ?_⟩
  · rcases h3 with h | ⟨g', h, hl⟩
    · rw [h] at hg
      have := hv g hg
      omega
    · rw [h] at hg
      cases hg
      omega
  · rcases h3 with h | ⟨g', h, hl⟩
    · exact .inl h
    · exact .inr ⟨g', h, by omega⟩

theorem row_kept2 {wx w2 : World} {v : Value} {o o' : Obj} (h2 : Kp (fun k => v.ownBlock = some k) ((wx.alloc o).alloc o') w2) (hv : ∀ g, v.ownBlock = some g → g < wx.heap.size) : w2.heap[wx.heap.size + 1]? = some o' := by
  rw [h2.block _ (by simp) (fun he => by have := hv _ he; omega)]
  exact heap_new _ _ _ (by simp)

set_option maxRecDepth 1000000 in
set_option maxHeartbeats 1000000 in
theorem append1_any (v : Value) (b : List UInt8) (s : Nat) (w : World) (h : w.ownsRow 0 5 1 v b.length (bvs b)) (xv : Value) (l : List UInt8) (bb : Nat) (hc : w.cell? ⟨bb, 0, none⟩ = some xv) (hx : RB w xv l) (hb : b.length ≤ 10000000) (hl : l.length ≤ 10000000) :
    Calls Tryz.prog 60 #[.agg #[v, .int .i64 s], .pointer (some ⟨bb, 0, none⟩)] w (NewF w v (withP l ⟨b, s⟩)) := by
  obtain ⟨a, c, rfl, _, _, _⟩ := owns_slice h
  have HV : Hid (∀ g, (Value.slice a b.length c).ownBlock = some g → g < w.heap.size) := fun g hg => (h.lt g hg).2
  have hbel := alloc2 w (.cells #[.slice a b.length c, .int .i64 s] 92) (.cells #[.slice none 0 0, .int .i64 0] 92)
  have HC : Hid _ := with_new _ xv b l s _ (owns_later h hbel) (hx.later hbel) hb hl
  have hc2 := cell_later hbel hc
  obtain ⟨f, HF⟩ : ∃ f, Hid (f = withP l ⟨b, s⟩) := ⟨_, rfl⟩
  rw [← HF.out] at HC ⊢
  have HBel : Hid _ := hbel
  obtain ⟨xa, xc, rfl, _, _, _, _⟩ := hx
  clear h hbel HF
  go_enter Tryz.func60, Tryz.ntmps60
  go_wp2_with (first | (go_at_call 61; refine Calls.mono HC.out ?_; rintro e w2 ⟨V, rfl, h1, h2, h3⟩; have HR : Hid (w2.heap[w.heap.size + 1]? = some (.cells #[.slice none 0 0, .int .i64 0] 92 (0, 0))) := row_kept2 h2 HV.out; obtain ⟨hr0, hr1, hrf⟩ := rowF HR.out; obtain ⟨a2, c2, rfl, _, _, _⟩ := owns_slice h1; have H1 : Hid _ := h1; have H2 : Hid _ := h2; have H3 : Hid _ := h3; clear h1 h2 h3))
  exact retF rfl (w.heap.size + 1) _ _ rfl rfl (setF HR.out _ _) (box_new HBel.out (by simp) HV.out H1.out H2.out H3.out _ _)

set_option maxRecDepth 1000000 in
set_option maxHeartbeats 1000000 in
theorem sync1_any (v : Value) (b : List UInt8) (s : Nat) (w : World) (h : w.ownsRow 0 5 1 v b.length (bvs b)) (hb : b.length ≤ 10000000) :
    Calls Tryz.prog 54 #[.agg #[v, .int .i64 s]] w (NewF w v (firstP b.length ⟨b, s⟩)) := by
  obtain ⟨a, c, rfl, _, _, _⟩ := owns_slice h
  have HV : Hid (∀ g, (Value.slice a b.length c).ownBlock = some g → g < w.heap.size) := fun g hg => (h.lt g hg).2
  have hbel := alloc2 w (.cells #[.slice a b.length c, .int .i64 s] 92) (.cells #[.slice none 0 0, .int .i64 0] 92)
  have HC : Hid _ := first_new _ b s b.length _ (owns_later h hbel) (Nat.le_refl _)
  obtain ⟨f, HF⟩ : ∃ f, Hid (f = firstP b.length ⟨b, s⟩) := ⟨_, rfl⟩
  rw [← HF.out] at HC ⊢
  have HBel : Hid _ := hbel
  clear h hbel HF
  go_enter Tryz.func54, Tryz.ntmps54
  go_wp2_with (first | (go_at_call 55; refine Calls.mono HC.out ?_; rintro e w2 ⟨V, rfl, h1, h2, h3⟩; have HR : Hid (w2.heap[w.heap.size + 1]? = some (.cells #[.slice none 0 0, .int .i64 0] 92 (0, 0))) := row_kept2 h2 HV.out; obtain ⟨hr0, hr1, hrf⟩ := rowF HR.out; obtain ⟨a2, c2, rfl, _, _, _⟩ := owns_slice h1; have H1 : Hid _ := h1; have H2 : Hid _ := h2; have H3 : Hid _ := h3; clear h1 h2 h3))
  exact retF rfl (w.heap.size + 1) _ _ rfl rfl (setF HR.out _ _) (box_new HBel.out (by simp) HV.out H1.out H2.out H3.out _ _)

set_option maxRecDepth 1000000 in
set_option maxHeartbeats 1000000 in
theorem cut1_any (v : Value) (b : List UInt8) (s : Nat) (w : World) (h : w.ownsRow 0 5 1 v b.length (bvs b)) (n : Nat) (hn : n ≤ b.length) (bb : Nat) (hc : w.cell? ⟨bb, 0, none⟩ = some (.int .i64 n)) :
    Calls Tryz.prog 111 #[.agg #[v, .int .i64 s], .pointer (some ⟨bb, 0, none⟩)] w (NewF w v (firstP n ⟨b, s⟩)) := by
  obtain ⟨a, c, rfl, _, _, _⟩ := owns_slice h
  have HV : Hid (∀ g, (Value.slice a b.length c).ownBlock = some g → g < w.heap.size) := fun g hg => (h.lt g hg).2
  have hbel := alloc2 w (.cells #[.slice a b.length c, .int .i64 s] 92) (.cells #[.slice none 0 0, .int .i64 0] 92)
  have HC : Hid _ := first_new _ b s n _ (owns_later h hbel) hn
  have hc2 := cell_later hbel hc
  obtain ⟨f, HF⟩ : ∃ f, Hid (f = firstP n ⟨b, s⟩) := ⟨_, rfl⟩
  rw [← HF.out] at HC ⊢
  have HBel : Hid _ := hbel
  clear h hbel HF
  go_enter Tryz.func111, Tryz.ntmps111
  go_wp2_with (first | (go_at_call 55; refine Calls.mono HC.out ?_; rintro e w2 ⟨V, rfl, h1, h2, h3⟩; have HR : Hid (w2.heap[w.heap.size + 1]? = some (.cells #[.slice none 0 0, .int .i64 0] 92 (0, 0))) := row_kept2 h2 HV.out; obtain ⟨hr0, hr1, hrf⟩ := rowF HR.out; obtain ⟨a2, c2, rfl, _, _, _⟩ := owns_slice h1; have H1 : Hid _ := h1; have H2 : Hid _ := h2; have H3 : Hid _ := h3; clear h1 h2 h3))
  exact retF rfl (w.heap.size + 1) _ _ rfl rfl (setF HR.out _ _) (box_new HBel.out (by simp) HV.out H1.out H2.out H3.out _ _)

set_option maxRecDepth 1000000 in
set_option maxHeartbeats 1000000 in
theorem crash1_any (v : Value) (b : List UInt8) (s : Nat) (w : World) (h : w.ownsRow 0 5 1 v b.length (bvs b)) (k : Int) (hs : s ≤ b.length) (hl : b.length ≤ 10000000) (bb : Nat) (hc : w.cell? ⟨bb, 0, none⟩ = some (.int .i64 k)) :
    Calls Tryz.prog 51 #[.agg #[v, .int .i64 s], .pointer (some ⟨bb, 0, none⟩)] w (NewF w v (tornP k ⟨b, s⟩)) := by
  obtain ⟨a, c, rfl, _, _, _⟩ := owns_slice h
  have HV : Hid (∀ g, (Value.slice a b.length c).ownBlock = some g → g < w.heap.size) := fun g hg => (h.lt g hg).2
  have hbel := alloc2 w (.cells #[.slice a b.length c, .int .i64 s] 92) (.cells #[.slice none 0 0, .int .i64 0] 92)
  have HC : Hid _ := torn_new _ b s k _ (owns_later h hbel) hs hl
  have hc2 := cell_later hbel hc
  obtain ⟨f, HF⟩ : ∃ f, Hid (f = tornP k ⟨b, s⟩) := ⟨_, rfl⟩
  rw [← HF.out] at HC ⊢
  have HBel : Hid _ := hbel
  clear h hbel HF
  go_enter Tryz.func51, Tryz.ntmps51
  go_wp2_with (first | (go_at_call 52; refine Calls.mono HC.out ?_; rintro e w2 ⟨V, rfl, h1, h2, h3⟩; have HR : Hid (w2.heap[w.heap.size + 1]? = some (.cells #[.slice none 0 0, .int .i64 0] 92 (0, 0))) := row_kept2 h2 HV.out; obtain ⟨hr0, hr1, hrf⟩ := rowF HR.out; obtain ⟨a2, c2, rfl, _, _, _⟩ := owns_slice h1; have H1 : Hid _ := h1; have H2 : Hid _ := h2; have H3 : Hid _ := h3; clear h1 h2 h3))
  exact retF rfl (w.heap.size + 1) _ _ rfl rfl (setF HR.out _ _) (box_new HBel.out (by simp) HV.out H1.out H2.out H3.out _ _)

end Go.Proofs.YtijkgdbabikojaaGreat.Dk

/- What stores make of a program's disk. -/
namespace Go.Proofs.YtijkgdbabikojaaGreat.Dk
set_option maxRecDepth 1000000
open Go.RowKit
set_option linter.unusedVariables false

/-- A disk's own blocks, and what is new. -/
def Wid (T : Nat → Prop) (w w' : World) : Nat → Prop := fun k => T k ∨ (w.heap.size ≤ k ∧ k < w'.heap.size)

theorem DV.frozen {T : Nat → Prop} {w : World} {p : Nat} {S : DS} {V : Nat → Value} (h : DV T w p S V) (o : Nat) : w.frozen? ⟨p, o, none⟩ = false := by
  obtain ⟨cs, hb, _⟩ := h.blk
  exact frozen_of_row _ _ _ cs 95 hb

theorem set_other (w : World) (p o q : Nat) (u : Value) (h : q ≠ o) : (w.setCell ⟨p, o, none⟩ u).cell? ⟨p, q, none⟩ = w.cell? ⟨p, q, none⟩ :=
  World.cell?_setCell_other _ _ _ _ (fun e => h (by cases e; rfl))

theorem set_same {w : World} {a : Addr} {x : Value} (u : Value) (h : w.cell? a = some x) : (w.setCell a u).cell? a = some u := World.cell?_setCell_same _ _ _ h

theorem set_blk {w : World} {p : Nat} (o : Nat) (u : Value) (h : ∃ cs, w.heap[p]? = some (.cells cs 95 (0, 0)) ∧ cs.size = 134) : ∃ cs, (w.setCell ⟨p, o, none⟩ u).heap[p]? = some (.cells cs 95 (0, 0)) ∧ cs.size = 134 := by
  obtain ⟨cs, h1, h2⟩ := h
  exact ⟨_, heap_setCell_same _ _ _ _ 95 _ h1, by simp [h2]⟩

theorem size_set (w : World) (a : Addr) (u : Value) : (w.setCell a u).heap.size = w.heap.size := by simp [World.setCell]

theorem Kp.set1 (w : World) (p o : Nat) (u : Value) : Kp (fun k => k = p) w (w.setCell ⟨p, o, none⟩ u) := (Kp.refl _ _).set _ _ rfl

/-- The count, the room, the fuse, the power are stored. -/
theorem DV.set {T : Nat → Prop} {w : World} {p : Nat} {S : DS} {V : Nat → Value} (h : DV T w p S V) (o : Nat) (u : Value) (S' : DS) (ho : 130 ≤ o) (hn : S'.n = S.n) (hf : S'.fs = S.fs)
    (h1 : (w.setCell ⟨p, o, none⟩ u).cell? ⟨p, 131, none⟩ = some (.int .i64 S'.room)) (h2 : (w.setCell ⟨p, o, none⟩ u).cell? ⟨p, 132, none⟩ = some (.int .i64 S'.fuse)) (h3 : (w.setCell ⟨p, o, none⟩ u).cell? ⟨p, 133, none⟩ = some (.bool S'.down)) (ho2 : o ≠ 130) :
    DV T (w.setCell ⟨p, o, none⟩ u) p S' V := by
  refine ⟨set_blk _ _ h.blk, h.own, fun k hk => by rw [size_set]; exact h.live k hk, ?_, h1, h2, h3, fun i hi => ?_, h.mine, h.apart⟩
  · rw [set_other _ _ _ _ _ (by omega), hn]
    exact h.cnt
  · obtain ⟨g1, g2, g3⟩ := h.file i hi
    rw [hf]
    refine ⟨by rw [set_other _ _ _ _ _ (by omega)]; exact g1, by rw [set_other _ _ _ _ _ (by omega)]; exact g2, owns_kept (Kp.set1 _ _ _ _) g3 (fun g hg => (h.mine i g hi hg).2)⟩

theorem DV.setRoom {T : Nat → Prop} {w : World} {p : Nat} {S : DS} {V : Nat → Value} (h : DV T w p S V) (r : Nat) : DV T (w.setCell ⟨p, 131, none⟩ (.int .i64 r)) p { S with room := r } V :=
  h.set 131 _ _ (by omega) rfl rfl (set_same _ h.rm) (by rw [set_other _ _ _ _ _ (by omega)]; exact h.fu) (by rw [set_other _ _ _ _ _ (by omega)]; exact h.dn) (by omega)

theorem DV.setFuse {T : Nat → Prop} {w : World} {p : Nat} {S : DS} {V : Nat → Value} (h : DV T w p S V) (r : Int) : DV T (w.setCell ⟨p, 132, none⟩ (.int .i64 r)) p { S with fuse := r } V :=
  h.set 132 _ _ (by omega) rfl rfl (by rw [set_other _ _ _ _ _ (by omega)]; exact h.rm) (set_same _ h.fu) (by rw [set_other _ _ _ _ _ (by omega)]; exact h.dn) (by omega)

theorem DV.setDown {T : Nat → Prop} {w : World} {p : Nat} {S : DS} {V : Nat → Value} (h : DV T w p S V) (r : Bool) : DV T (w.setCell ⟨p, 133, none⟩ (.bool r)) p { S with down := r } V :=
  h.set 133 _ _ (by omega) rfl rfl (by rw [set_other _ _ _ _ _ (by omega)]; exact h.rm) (by rw [set_other _ _ _ _ _ (by omega)]; exact h.fu) (set_same _ h.dn) (by omega)

def putV (V : Nat → Value) (i : Nat) (v : Value) : Nat → Value := fun j => if j = i then v else V j
theorem putV_same (V : Nat → Value) (i : Nat) (v : Value) : putV V i v i = v := by simp [putV]
theorem putV_other (V : Nat → Value) (i j : Nat) (v : Value) (h : j ≠ i) : putV V i v j = V j := by simp [putV, h]

/-- A file is stored. -/
theorem DV.put {T : Nat → Prop} {w w2 : World} {p : Nat} {S : DS} {V : Nat → Value} (h : DV T w p S V) (i : Nat) (hi : i < 65) (v : Value) (f : Fl) (h1 : w2.ownsRow 0 5 1 v f.b.length (bvs f.b)) (h2 : Kp (fun k => (V i).ownBlock = some k) w w2)
    (h3 : v.ownBlock = (V i).ownBlock ∨ ∃ g, v.ownBlock = some g ∧ w.heap.size ≤ g) :
    DV (Wid T w w2) ((w2.setCell ⟨p, i * 2, none⟩ v).setCell ⟨p, i * 2 + 1, none⟩ (.int .i64 f.s)) p { S with fs := putF S.fs i f } (putV V i v) := by
  have hp : ¬ (V i).ownBlock = some p := fun he => (h.mine i p hi he).2 rfl
  have hpl : p < w.heap.size := h.live p h.own
  have hpb := h2.block p hpl hp
  have hcell : ∀ o, w2.cell? ⟨p, o, none⟩ = w.cell? ⟨p, o, none⟩ := fun o => World.cell?_of_block (w := w) hpb
  have hvl := fun g hg => h1.lt g hg
  have hpn : ∀ g, v.ownBlock = some g → g ≠ p := by
    intro g hg
    rcases h3 with h4 | ⟨g', h4, hl⟩
    · rw [h4] at hg
      exact (h.mine i g hi hg).2
    · rw [h4] at hg
      cases hg
      omega
  have hne : ∀ q, q ≠ i * 2 → q ≠ i * 2 + 1 → ((w2.setCell ⟨p, i * 2, none⟩ v).setCell ⟨p, i * 2 + 1, none⟩ (.int .i64 f.s)).cell? ⟨p, q, none⟩ = w.cell? ⟨p, q, none⟩ := fun q q1 q2 => by
    rw [set_other _ _ _ _ _ q2, set_other _ _ _ _ _ q1, hcell]
  obtain ⟨f0, f1, f2⟩ := h.file i hi
  have hb2 : ∃ cs, w2.heap[p]? = some (.cells cs 95 (0, 0)) ∧ cs.size = 134 := by rw [hpb]; exact h.blk
  have hk1 : Kp (fun k => k = p) w2 ((w2.setCell ⟨p, i * 2, none⟩ v).setCell ⟨p, i * 2 + 1, none⟩ (.int .i64 f.s)) := (Kp.set1 _ _ _ _).set _ _ rfl
  refine ⟨set_blk _ _ (set_blk _ _ hb2), .inl h.own, fun k hk => ?_, ?_, ?_, ?_, ?_, fun j hj => ?_, fun j g hj hg => ?_, fun j k g hj hk hjk hg => ?_⟩
  · rw [size_set, size_set]
    rcases hk with hk | hk
    · exact Nat.lt_of_lt_of_le (h.live k hk) h2.size
    · exact hk.2
  · rw [hne _ (by omega) (by omega)]
    exact h.cnt
  · rw [hne _ (by omega) (by omega)]
    exact h.rm
  · rw [hne _ (by omega) (by omega)]
    exact h.fu
  · rw [hne _ (by omega) (by omega)]
    exact h.dn
  · by_cases hji : j = i
    · subst hji
      rw [putV_same]
      show _ ∧ _ = some (Value.int .i64 ((putF S.fs j f j).s : Int)) ∧ World.ownsRow _ _ _ _ _ (putF S.fs j f j).b.length (bvs (putF S.fs j f j).b)
      rw [putF_same]
      refine ⟨?_, ?_, owns_kept hk1 h1 hpn⟩
      · rw [set_other _ _ _ _ _ (by omega)]
        exact set_same (x := V j) _ (by rw [hcell]; exact f0)
      · exact set_same (x := .int .i64 (S.fs j).s) _ (by rw [set_other _ _ _ _ _ (by omega), hcell]; exact f1)
    · rw [putV_other _ _ _ _ hji]
      show _ ∧ _ = some (Value.int .i64 ((putF S.fs i f j).s : Int)) ∧ World.ownsRow _ _ _ _ _ (putF S.fs i f j).b.length (bvs (putF S.fs i f j).b)
      rw [putF_other _ _ _ _ hji]
      obtain ⟨e0, e1, e2⟩ := h.file j hj
      refine ⟨by rw [hne _ (by omega) (by omega)]; exact e0, by rw [hne _ (by omega) (by omega)]; exact e1, ?_⟩
      exact owns_kept hk1 (owns_kept h2 e2 (fun g hg he => h.apart i j g hi hj (by omega) he hg)) (fun g hg => (h.mine j g hj hg).2)
  · by_cases hji : j = i
    · subst hji
      rw [putV_same] at hg
      refine ⟨?_, hpn g hg⟩
      rcases h3 with h4 | ⟨g', h4, hl⟩
      · rw [h4] at hg
        exact .inl (h.mine j g hj hg).1
      · have hg2 := hg
        rw [h4] at hg2
        cases hg2
        exact .inr ⟨hl, (hvl g hg).2⟩
    · rw [putV_other _ _ _ _ hji] at hg
      exact ⟨.inl (h.mine j g hj hg).1, (h.mine j g hj hg).2⟩
  · by_cases hji : j = i
    · subst hji
      rw [putV_same] at hg
      rw [putV_other _ _ _ _ (by omega)]
      rcases h3 with h4 | ⟨g', h4, hl⟩
      · rw [h4] at hg
        exact h.apart j k g hj hk hjk hg
      · intro he
        rw [h4] at hg
        cases hg
        have := h.live g (h.mine k g hk he).1
        omega
    · rw [putV_other _ _ _ _ hji] at hg
      by_cases hki : k = i
      · subst hki
        rw [putV_same]
        intro he
        rcases h3 with h4 | ⟨g', h4, hl⟩
        · rw [h4] at he
          exact h.apart j k g hj hk hjk hg he
        · rw [h4] at he
          cases he
          have := h.live g (h.mine j g hj hg).1
          omega
      · rw [putV_other _ _ _ _ hki]
        exact h.apart j k g hj hk hjk hg
end Go.Proofs.YtijkgdbabikojaaGreat.Dk

/- The document's disk in memory; the walks over its New, Has, burns, Grow, Arm. -/
namespace Go.Proofs.YtijkgdbabikojaaGreat.Dk
set_option maxRecDepth 1000000
open Go.RowKit
set_option linter.unusedVariables false

def str (l : List UInt8) : Value := .string ⟨l.toArray⟩

/-- The document's disk: block r, the files in block g. -/
structure RV (w : World) (r g : Nat) (S : DS) : Prop where
  hne : r ≠ g
  rblk : ∃ cs, w.heap[r]? = some (.cells cs 76 (0, 0))
  gblk : ∃ cs, w.heap[g]? = some (.cells cs 73 (0, 0))
  sl : w.cell? ⟨r, 0, none⟩ = some (.slice (some ⟨g, 0, none⟩) S.n S.n)
  rm : w.cell? ⟨r, 1, none⟩ = some (.int .i64 S.room)
  fu : w.cell? ⟨r, 2, none⟩ = some (.int .i64 S.fuse)
  dn : w.cell? ⟨r, 3, none⟩ = some (.bool S.down)
  file : ∀ i, i < S.n → w.cell? ⟨g, i * 2, none⟩ = some (str (S.fs i).b) ∧ w.cell? ⟨g, i * 2 + 1, none⟩ = some (.int .i64 (S.fs i).s)

theorem RV.rlt {w : World} {r g : Nat} {S : DS} (h : RV w r g S) : r < w.heap.size ∧ g < w.heap.size := by
  obtain ⟨cs, e⟩ := h.rblk
  obtain ⟨cs2, e2⟩ := h.gblk
  exact ⟨(Array.getElem?_eq_some_iff.1 e).1, (Array.getElem?_eq_some_iff.1 e2).1⟩

theorem RV.frz {w : World} {r g : Nat} {S : DS} (h : RV w r g S) : (∀ o, w.frozen? ⟨r, o, none⟩ = false) ∧ (∀ o, w.frozen? ⟨g, o, none⟩ = false) := by
  obtain ⟨cs, e⟩ := h.rblk
  obtain ⟨cs2, e2⟩ := h.gblk
  exact ⟨fun o => frozen_of_row _ _ _ cs 76 e, fun o => frozen_of_row _ _ _ cs2 73 e2⟩

theorem RV.kept {w w' : World} {T : Nat → Prop} {r g : Nat} {S : DS} (h : RV w r g S) (hk : Kp T w w') (hr : ¬ T r) (hg : ¬ T g) : RV w' r g S := by
  obtain ⟨cs, e⟩ := h.rblk
  obtain ⟨cs2, e2⟩ := h.gblk
  exact ⟨h.hne, ⟨cs, (hk.block r h.rlt.1 hr).trans e⟩, ⟨cs2, (hk.block g h.rlt.2 hg).trans e2⟩, hk.cell h.sl hr, hk.cell h.rm hr, hk.cell h.fu hr, hk.cell h.dn hr, fun i hi => ⟨hk.cell (h.file i hi).1 hg, hk.cell (h.file i hi).2 hg⟩⟩

theorem RV.later {w w' : World} {r g : Nat} {S : DS} (h : RV w r g S) (hb : Below w.heap.size w w') : RV w' r g S := h.kept (Kp.of_below (fun _ => False) hb) (fun h => h) (fun h => h)

theorem blk_set {w : World} {p q o : Nat} {u : Value} {t : TypeId} (h : ∃ cs, w.heap[p]? = some (.cells cs t (0, 0))) : ∃ cs, (w.setCell ⟨q, o, none⟩ u).heap[p]? = some (.cells cs t (0, 0)) := by
  obtain ⟨cs, h1⟩ := h
  by_cases he : p = q
  · subst he
    exact ⟨_, heap_setCell_same _ _ _ _ t _ h1⟩
  · exact ⟨cs, by rw [Below.heap_setCell _ _ _ _ he]; exact h1⟩

/-- A store into r. -/
theorem RV.setR {w : World} {r g : Nat} {S : DS} (h : RV w r g S) (o : Nat) (u : Value) (S' : DS) (hn : S'.n = S.n) (hf : S'.fs = S.fs) (ho : o ≠ 0)
    (h1 : (w.setCell ⟨r, o, none⟩ u).cell? ⟨r, 1, none⟩ = some (.int .i64 S'.room)) (h2 : (w.setCell ⟨r, o, none⟩ u).cell? ⟨r, 2, none⟩ = some (.int .i64 S'.fuse)) (h3 : (w.setCell ⟨r, o, none⟩ u).cell? ⟨r, 3, none⟩ = some (.bool S'.down)) : RV (w.setCell ⟨r, o, none⟩ u) r g S' := by
  refine ⟨h.hne, blk_set h.rblk, blk_set h.gblk, by rw [set_other _ _ _ _ _ (by omega), hn]; exact h.sl, h1, h2, h3, fun i hi => ?_⟩
  rw [World.cell?_setCell_far _ _ _ _ h.hne, World.cell?_setCell_far _ _ _ _ h.hne, hf]
  rw [hn] at hi
  exact h.file i hi

theorem RV.setRoom {w : World} {r g : Nat} {S : DS} (h : RV w r g S) (x : Nat) : RV (w.setCell ⟨r, 1, none⟩ (.int .i64 x)) r g { S with room := x } :=
  h.setR 1 _ _ rfl rfl (by omega) (set_same _ h.rm) (by rw [set_other _ _ _ _ _ (by omega)]; exact h.fu) (by rw [set_other _ _ _ _ _ (by omega)]; exact h.dn)
theorem RV.setFuse {w : World} {r g : Nat} {S : DS} (h : RV w r g S) (x : Int) : RV (w.setCell ⟨r, 2, none⟩ (.int .i64 x)) r g { S with fuse := x } :=
  h.setR 2 _ _ rfl rfl (by omega) (by rw [set_other _ _ _ _ _ (by omega)]; exact h.rm) (set_same _ h.fu) (by rw [set_other _ _ _ _ _ (by omega)]; exact h.dn)
theorem RV.setDown {w : World} {r g : Nat} {S : DS} (h : RV w r g S) (x : Bool) : RV (w.setCell ⟨r, 3, none⟩ (.bool x)) r g { S with down := x } :=
  h.setR 3 _ _ rfl rfl (by omega) (by rw [set_other _ _ _ _ _ (by omega)]; exact h.rm) (by rw [set_other _ _ _ _ _ (by omega)]; exact h.fu) (set_same _ h.dn)

theorem set_oth (w : World) (p o q : Nat) (u : Value) (h : q ≠ o) : (w.setCell ⟨p, o, none⟩ u).cell? ⟨p, q, none⟩ = w.cell? ⟨p, q, none⟩ := set_other w p o q u h

/-- A file's bytes, or how many are synced, are stored. -/
theorem RV.setB {w : World} {r g : Nat} {S : DS} (h : RV w r g S) (k : Nat) (hk : k < S.n) (b : List UInt8) : RV (w.setCell ⟨g, k * 2, none⟩ (str b)) r g { S with fs := putF S.fs k ⟨b, (S.fs k).s⟩ } := by
  have hgr : g ≠ r := fun e => h.hne e.symm
  refine ⟨h.hne, blk_set h.rblk, blk_set h.gblk, by rw [World.cell?_setCell_far _ _ _ _ hgr]; exact h.sl, by rw [World.cell?_setCell_far _ _ _ _ hgr]; exact h.rm, by rw [World.cell?_setCell_far _ _ _ _ hgr]; exact h.fu, by rw [World.cell?_setCell_far _ _ _ _ hgr]; exact h.dn, fun i hi => ?_⟩
  have hi2 : i < S.n := hi
  show _ = some (str (putF S.fs k ⟨b, (S.fs k).s⟩ i).b) ∧ _ = some (Value.int .i64 ((putF S.fs k ⟨b, (S.fs k).s⟩ i).s : Int))
  by_cases hik : i = k
  · subst hik
    rw [putF_same]
    exact ⟨set_same _ (h.file i hi2).1, by rw [set_other _ _ _ _ _ (by omega)]; exact (h.file i hi2).2⟩
  · rw [putF_other _ _ _ _ hik]
    exact ⟨by rw [set_other _ _ _ _ _ (by omega)]; exact (h.file i hi2).1, by rw [set_other _ _ _ _ _ (by omega)]; exact (h.file i hi2).2⟩

theorem RV.setS {w : World} {r g : Nat} {S : DS} (h : RV w r g S) (k : Nat) (hk : k < S.n) (s : Nat) : RV (w.setCell ⟨g, k * 2 + 1, none⟩ (.int .i64 s)) r g { S with fs := putF S.fs k ⟨(S.fs k).b, s⟩ } := by
  have hgr : g ≠ r := fun e => h.hne e.symm
  refine ⟨h.hne, blk_set h.rblk, blk_set h.gblk, by rw [World.cell?_setCell_far _ _ _ _ hgr]; exact h.sl, by rw [World.cell?_setCell_far _ _ _ _ hgr]; exact h.rm, by rw [World.cell?_setCell_far _ _ _ _ hgr]; exact h.fu, by rw [World.cell?_setCell_far _ _ _ _ hgr]; exact h.dn, fun i hi => ?_⟩
  have hi2 : i < S.n := hi
  show _ = some (str (putF S.fs k ⟨(S.fs k).b, s⟩ i).b) ∧ _ = some (Value.int .i64 ((putF S.fs k ⟨(S.fs k).b, s⟩ i).s : Int))
  by_cases hik : i = k
  · subst hik
    rw [putF_same]
    exact ⟨by rw [set_other _ _ _ _ _ (by omega)]; exact (h.file i hi2).1, set_same _ (h.file i hi2).2⟩
  · rw [putF_other _ _ _ _ hik]
    exact ⟨by rw [set_other _ _ _ _ _ (by omega)]; exact (h.file i hi2).1, by rw [set_other _ _ _ _ _ (by omega)]; exact (h.file i hi2).2⟩

/-- The answer of a call of the document's disk. -/
def RR (r g : Nat) (w : World) (res : Int × DS) (e : Ending) (w' : World) : Prop := e = .returned (.int .i64 res.1) ∧ RV w' r g res.2 ∧ Kp (fun k => k = r ∨ k = g) w w'

theorem RV.drew {w : World} {r g : Nat} {S : DS} (h : RV w r g S) : RV w.drew r g S := h.later (Below.refl _ _).drew

set_option maxRecDepth 1000000 in
theorem rhas_any (r g : Nat) (S : DS) (i : Int) (w : World) (h : RV w r g S) (ho : S.n ≤ 65) : Calls Tryz.prog 56 #[.pointer (some ⟨r, 0, none⟩), .int .i64 i] w fun e w' => e = .returned (.bool (hasB S i)) ∧ w' = w := by
  have hs := h.sl
  obtain ⟨q, HQ⟩ : ∃ q, Hid (hasB S i = q) := ⟨_, rfl⟩
  rw [HQ.out]
  unfold hasB at HQ
  clear h
  by_cases h0 : 0 ≤ i
  · by_cases h1 : i < S.n
    · have hq : q = true := by rw [← HQ.out]; simpa using ⟨h0, h1⟩
      subst hq
      clear HQ
      go_enter Tryz.func56, Tryz.ntmps56
      go_wp2
      go_ret
      exact ⟨by simp, rfl⟩
    · have hq : q = false := by rw [← HQ.out]; simp [h1]
      subst hq
      clear HQ
      go_enter Tryz.func56, Tryz.ntmps56
      go_wp2
      go_ret
      exact ⟨by simp <;> omega, rfl⟩
  · have hq : q = false := by rw [← HQ.out]; simp [h0]
    subst hq
    clear HQ
    go_enter Tryz.func56, Tryz.ntmps56
    go_wp2
    go_ret
    exact ⟨by simp <;> omega, rfl⟩

theorem rburns_off (r g : Nat) (S : DS) (w : World) (h : RV w r g S) (hf : S.fuse = 0) : Calls Tryz.prog 57 #[.pointer (some ⟨r, 0, none⟩)] w fun e w' => e = .returned (.bool true) ∧ w' = w.setCell ⟨r, 3, none⟩ (.bool true) := by
  have h1 := h.fu
  rw [hf] at h1
  have h2 := h.dn
  have h3 := h.frz.1
  clear h
  go_enter Tryz.func57, Tryz.ntmps57
  go_wp2
  go_ret
  exact ⟨rfl, rfl⟩

theorem rburns_on (r g : Nat) (S : DS) (w : World) (h : RV w r g S) (ho : -1 ≤ S.fuse) (ho2 : S.fuse ≤ 9223372036854775807) (hdn : S.down = false) (hf : S.fuse ≠ 0) : Calls Tryz.prog 57 #[.pointer (some ⟨r, 0, none⟩)] w fun e w' => e = .returned (.bool false) ∧ RV w' r g { S with fuse := burnF S.fuse } ∧ Kp (fun k => k = r ∨ k = g) w w' := by
  have h1 := h.fu
  have h2 := h.dn
  rw [hdn] at h2
  have h3 := h.frz.1
  have HR : Hid _ := h
  have hz : (S.fuse == 0) = false := by simpa using hf
  obtain ⟨f, HF⟩ : ∃ f, Hid (S.fuse = f) := ⟨_, rfl⟩
  rw [HF.out] at h1 hz ho ho2 hf ⊢
  by_cases hp : 0 < f
  · have HE : Hid (burnF f = f - 1) := by show _ = _; unfold burnF; rw [if_pos hp]
    rw [HE.out]
    clear h HE
    go_enter Tryz.func57, Tryz.ntmps57
    go_wp2
    go_ret
    exact ⟨rfl, HR.out.setFuse _, (Kp.refl _ _).set _ _ (.inl rfl)⟩
  · have HE : Hid (burnF f = f) := by show _ = _; unfold burnF; rw [if_neg hp]; omega
    rw [HE.out]
    clear h HE
    have HS : Hid ({ S with fuse := f } = S) := by show _ = _; rw [← HF.out]
    rw [HS.out]
    go_enter Tryz.func57, Tryz.ntmps57
    go_wp2
    go_ret
    exact ⟨rfl, HR.out, Kp.refl _ _⟩

set_option maxRecDepth 1000000 in
theorem rarm_any (r g : Nat) (S : DS) (n : Int) (w : World) (h : RV w r g S) : Calls Tryz.prog 23 #[.pointer (some ⟨r, 0, none⟩), .int .i64 n] w (RR r g w (armP S n)) := by
  have h1 := h.fu
  have h2 := h.dn
  have h3 := h.frz.1
  have HR : Hid _ := h
  by_cases hdn : S.down = true
  · rw [hdn] at h2
    have hA : armP S n = (9, S) := by unfold armP; rw [if_pos hdn]
    rw [hA]
    clear h hA
    go_enter Tryz.func23, Tryz.ntmps23
    go_wp2
    go_ret
    exact ⟨rfl, HR.out, Kp.refl _ _⟩
  · have hd2 : S.down = false := by simpa using hdn
    rw [hd2] at h2
    have hA : armP S n = (0, { S with fuse := max n (-1) }) := by unfold armP; rw [if_neg hdn]
    rw [hA]
    clear h hA hd2 hdn
    by_cases hm : n < -1
    · rw [show max n (-1) = -1 by omega]
      go_enter Tryz.func23, Tryz.ntmps23
      go_wp2
      go_ret
      exact ⟨rfl, HR.out.setFuse _, (Kp.refl _ _).set _ _ (.inl rfl)⟩
    · rw [show max n (-1) = n by omega]
      have hm2 : -1 ≤ n := by omega
      go_enter Tryz.func23, Tryz.ntmps23
      go_wp2
      go_ret
      exact ⟨rfl, HR.out.setFuse _, (Kp.refl _ _).set _ _ (.inl rfl)⟩

end Go.Proofs.YtijkgdbabikojaaGreat.Dk

