/- The walks over what turns a file: of Append, Sync, Cut and Crash. -/
import Derived.Test.YtbbmbjlpccdclaaWf
namespace Go.Proofs.Ytbbmbjlpccdclaa
open Go.RowKit
set_option linter.unusedVariables false

theorem ent51 : Ent 51 := fun args w => by kernel_rfl
theorem ent50 : Ent 50 := fun args w => by kernel_rfl
theorem ent47 : Ent 47 := fun args w => by kernel_rfl
theorem ent40 : Ent 40 := fun args w => by kernel_rfl

/-- A function value that turns a file. -/
def HowV (hv : Value) (w0 : World) (T : Nat → Prop) (f f' : Fl) : Prop :=
  ∃ (g : Nat) (lb : Array Value), hv = .func (.func g) #[] lb ∧ Ent g ∧ ∀ wx v, Kp T w0 wx → wx.ownsRow 0 5 1 v f.b.length (bvs f.b) → Calls Try.prog g (#[.agg #[v, .int .i64 f.s]] ++ lb) wx (NewF wx v f')

theorem first_new (v : Value) (b : List UInt8) (s n : Nat) (w : World) (h : w.ownsRow 0 5 1 v b.length (bvs b)) (hn : n ≤ b.length) :
    Calls Try.prog 48 #[.agg #[v, .int .i64 s], .int .i64 n] w (NewF w v (firstP n ⟨b, s⟩)) := by
  refine Calls.mono (first_any v b s n w h hn) ?_
  rintro e w' ⟨V, rfl, h1, h2, h3⟩
  exact ⟨V, rfl, h1, Kp.of_below _ h3, .inl h2⟩

theorem with_new (v xv : Value) (b l : List UInt8) (s : Nat) (w : World) (h : w.ownsRow 0 5 1 v b.length (bvs b)) (hx : RB w xv l) (hb : b.length ≤ 10000000) (hl : l.length ≤ 10000000) :
    Calls Try.prog 52 #[.agg #[v, .int .i64 s], xv] w (NewF w v (withP l ⟨b, s⟩)) := with_any v xv b l s w h hx hb hl

theorem torn_new (v : Value) (b : List UInt8) (s : Nat) (k : Int) (w : World) (h : w.ownsRow 0 5 1 v b.length (bvs b)) (hs : s ≤ b.length) (hl : b.length ≤ 10000000) :
    Calls Try.prog 41 #[.agg #[v, .int .i64 s], .int .i64 k] w (NewF w v (tornP k ⟨b, s⟩)) := by
  refine Calls.mono (torn_any v b s k w h hs hl) ?_
  rintro e w' ⟨V, rfl, h1, h2, h3⟩
  exact ⟨V, rfl, h1, Kp.of_below _ h3, .inl h2⟩

/-- The result is laid into the box that the call made for it. -/
theorem box_new {wx W1 w2 : World} {v V : Value} {f : Fl} (hb : Below wx.heap.size wx W1) (hz : W1.heap.size = wx.heap.size + 2) (hv : ∀ g, v.ownBlock = some g → g < wx.heap.size)
    (h1 : w2.ownsRow 0 5 1 V f.b.length (bvs f.b)) (h2 : Kp (fun k => v.ownBlock = some k) W1 w2) (h3 : V.ownBlock = v.ownBlock ∨ ∃ g, V.ownBlock = some g ∧ W1.heap.size ≤ g) (x y : Value) :
    NewF wx v f (.returned (.agg #[V, .int .i64 f.s])) ((w2.setCell ⟨wx.heap.size + 1, 0, none⟩ x).setCell ⟨wx.heap.size + 1, 1, none⟩ y) := by
  refine ⟨V, rfl, owns_kept (Kp.set2 _ _ _ _) h1 (fun g hg => ?_), ((Kp.of_below _ hb).trans h2 (fun x hx _ => hx)).trans (Kp.set2 _ _ _ _) (fun x hx hl => by omega), ?_⟩
  · rcases h3 with h | ⟨g', h, hl⟩
    · rw [h] at hg
      have := hv g hg
      omega
    · rw [h] at hg
      cases hg
      omega
  · rcases h3 with h | ⟨g', h, hl⟩
    · exact .inl h
    · exact .inr ⟨g', h, by omega⟩

theorem row_kept2 {wx w2 : World} {v : Value} {o o' : Obj} (h2 : Kp (fun k => v.ownBlock = some k) ((wx.alloc o).alloc o') w2) (hv : ∀ g, v.ownBlock = some g → g < wx.heap.size) : w2.heap[wx.heap.size + 1]? = some o' := by
  rw [h2.block _ (by simp) (fun he => by have := hv _ he; omega)]
  exact heap_new _ _ _ (by simp)

set_option maxRecDepth 1000000 in
set_option maxHeartbeats 1000000 in
theorem append1_any (v : Value) (b : List UInt8) (s : Nat) (w : World) (h : w.ownsRow 0 5 1 v b.length (bvs b)) (xv : Value) (l : List UInt8) (bb : Nat) (hc : w.cell? ⟨bb, 0, none⟩ = some xv) (hx : RB w xv l) (hb : b.length ≤ 10000000) (hl : l.length ≤ 10000000) :
    Calls Try.prog 51 #[.agg #[v, .int .i64 s], .pointer (some ⟨bb, 0, none⟩)] w (NewF w v (withP l ⟨b, s⟩)) := by
  obtain ⟨a, c, rfl, _, _, _⟩ := owns_slice h
  have HV : Hid (∀ g, (Value.slice a b.length c).ownBlock = some g → g < w.heap.size) := fun g hg => (h.lt g hg).2
  have hbel := alloc2 w (.cells #[.slice a b.length c, .int .i64 s] 52) (.cells #[.slice none 0 0, .int .i64 0] 52)
  have HC : Hid _ := with_new _ xv b l s _ (owns_later h hbel) (hx.later hbel) hb hl
  have hc2 := cell_later hbel hc
  obtain ⟨f, HF⟩ : ∃ f, Hid (f = withP l ⟨b, s⟩) := ⟨_, rfl⟩
  rw [← HF.out] at HC ⊢
  have HBel : Hid _ := hbel
  obtain ⟨xa, xc, rfl, _, _, _, _⟩ := hx
  clear h hbel HF
  go_enter Try.func51, Try.ntmps51
  go_wp2_with (first | (go_at_call 52; refine Calls.mono HC.out ?_; rintro e w2 ⟨V, rfl, h1, h2, h3⟩; have HR : Hid (w2.heap[w.heap.size + 1]? = some (.cells #[.slice none 0 0, .int .i64 0] 52 (0, 0))) := row_kept2 h2 HV.out; obtain ⟨hr0, hr1, hrf⟩ := rowF HR.out; obtain ⟨a2, c2, rfl, _, _, _⟩ := owns_slice h1; have H1 : Hid _ := h1; have H2 : Hid _ := h2; have H3 : Hid _ := h3; clear h1 h2 h3))
  exact retF rfl (w.heap.size + 1) _ _ rfl rfl (setF HR.out _ _) (box_new HBel.out (by simp) HV.out H1.out H2.out H3.out _ _)

set_option maxRecDepth 1000000 in
set_option maxHeartbeats 1000000 in
theorem sync1_any (v : Value) (b : List UInt8) (s : Nat) (w : World) (h : w.ownsRow 0 5 1 v b.length (bvs b)) (hb : b.length ≤ 10000000) :
    Calls Try.prog 50 #[.agg #[v, .int .i64 s]] w (NewF w v (firstP b.length ⟨b, s⟩)) := by
  obtain ⟨a, c, rfl, _, _, _⟩ := owns_slice h
  have HV : Hid (∀ g, (Value.slice a b.length c).ownBlock = some g → g < w.heap.size) := fun g hg => (h.lt g hg).2
  have hbel := alloc2 w (.cells #[.slice a b.length c, .int .i64 s] 52) (.cells #[.slice none 0 0, .int .i64 0] 52)
  have HC : Hid _ := first_new _ b s b.length _ (owns_later h hbel) (Nat.le_refl _)
  obtain ⟨f, HF⟩ : ∃ f, Hid (f = firstP b.length ⟨b, s⟩) := ⟨_, rfl⟩
  rw [← HF.out] at HC ⊢
  have HBel : Hid _ := hbel
  clear h hbel HF
  go_enter Try.func50, Try.ntmps50
  go_wp2_with (first | (go_at_call 48; refine Calls.mono HC.out ?_; rintro e w2 ⟨V, rfl, h1, h2, h3⟩; have HR : Hid (w2.heap[w.heap.size + 1]? = some (.cells #[.slice none 0 0, .int .i64 0] 52 (0, 0))) := row_kept2 h2 HV.out; obtain ⟨hr0, hr1, hrf⟩ := rowF HR.out; obtain ⟨a2, c2, rfl, _, _, _⟩ := owns_slice h1; have H1 : Hid _ := h1; have H2 : Hid _ := h2; have H3 : Hid _ := h3; clear h1 h2 h3))
  exact retF rfl (w.heap.size + 1) _ _ rfl rfl (setF HR.out _ _) (box_new HBel.out (by simp) HV.out H1.out H2.out H3.out _ _)

set_option maxRecDepth 1000000 in
set_option maxHeartbeats 1000000 in
theorem cut1_any (v : Value) (b : List UInt8) (s : Nat) (w : World) (h : w.ownsRow 0 5 1 v b.length (bvs b)) (n : Nat) (hn : n ≤ b.length) (bb : Nat) (hc : w.cell? ⟨bb, 0, none⟩ = some (.int .i64 n)) :
    Calls Try.prog 47 #[.agg #[v, .int .i64 s], .pointer (some ⟨bb, 0, none⟩)] w (NewF w v (firstP n ⟨b, s⟩)) := by
  obtain ⟨a, c, rfl, _, _, _⟩ := owns_slice h
  have HV : Hid (∀ g, (Value.slice a b.length c).ownBlock = some g → g < w.heap.size) := fun g hg => (h.lt g hg).2
  have hbel := alloc2 w (.cells #[.slice a b.length c, .int .i64 s] 52) (.cells #[.slice none 0 0, .int .i64 0] 52)
  have HC : Hid _ := first_new _ b s n _ (owns_later h hbel) hn
  have hc2 := cell_later hbel hc
  obtain ⟨f, HF⟩ : ∃ f, Hid (f = firstP n ⟨b, s⟩) := ⟨_, rfl⟩
  rw [← HF.out] at HC ⊢
  have HBel : Hid _ := hbel
  clear h hbel HF
  go_enter Try.func47, Try.ntmps47
  go_wp2_with (first | (go_at_call 48; refine Calls.mono HC.out ?_; rintro e w2 ⟨V, rfl, h1, h2, h3⟩; have HR : Hid (w2.heap[w.heap.size + 1]? = some (.cells #[.slice none 0 0, .int .i64 0] 52 (0, 0))) := row_kept2 h2 HV.out; obtain ⟨hr0, hr1, hrf⟩ := rowF HR.out; obtain ⟨a2, c2, rfl, _, _, _⟩ := owns_slice h1; have H1 : Hid _ := h1; have H2 : Hid _ := h2; have H3 : Hid _ := h3; clear h1 h2 h3))
  exact retF rfl (w.heap.size + 1) _ _ rfl rfl (setF HR.out _ _) (box_new HBel.out (by simp) HV.out H1.out H2.out H3.out _ _)

set_option maxRecDepth 1000000 in
set_option maxHeartbeats 1000000 in
theorem crash1_any (v : Value) (b : List UInt8) (s : Nat) (w : World) (h : w.ownsRow 0 5 1 v b.length (bvs b)) (k : Int) (hs : s ≤ b.length) (hl : b.length ≤ 10000000) (bb : Nat) (hc : w.cell? ⟨bb, 0, none⟩ = some (.int .i64 k)) :
    Calls Try.prog 40 #[.agg #[v, .int .i64 s], .pointer (some ⟨bb, 0, none⟩)] w (NewF w v (tornP k ⟨b, s⟩)) := by
  obtain ⟨a, c, rfl, _, _, _⟩ := owns_slice h
  have HV : Hid (∀ g, (Value.slice a b.length c).ownBlock = some g → g < w.heap.size) := fun g hg => (h.lt g hg).2
  have hbel := alloc2 w (.cells #[.slice a b.length c, .int .i64 s] 52) (.cells #[.slice none 0 0, .int .i64 0] 52)
  have HC : Hid _ := torn_new _ b s k _ (owns_later h hbel) hs hl
  have hc2 := cell_later hbel hc
  obtain ⟨f, HF⟩ : ∃ f, Hid (f = tornP k ⟨b, s⟩) := ⟨_, rfl⟩
  rw [← HF.out] at HC ⊢
  have HBel : Hid _ := hbel
  clear h hbel HF
  go_enter Try.func40, Try.ntmps40
  go_wp2_with (first | (go_at_call 41; refine Calls.mono HC.out ?_; rintro e w2 ⟨V, rfl, h1, h2, h3⟩; have HR : Hid (w2.heap[w.heap.size + 1]? = some (.cells #[.slice none 0 0, .int .i64 0] 52 (0, 0))) := row_kept2 h2 HV.out; obtain ⟨hr0, hr1, hrf⟩ := rowF HR.out; obtain ⟨a2, c2, rfl, _, _, _⟩ := owns_slice h1; have H1 : Hid _ := h1; have H2 : Hid _ := h2; have H3 : Hid _ := h3; clear h1 h2 h3))
  exact retF rfl (w.heap.size + 1) _ _ rfl rfl (setF HR.out _ _) (box_new HBel.out (by simp) HV.out H1.out H2.out H3.out _ _)

end Go.Proofs.Ytbbmbjlpccdclaa
