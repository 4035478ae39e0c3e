/- Texts of the seat, packed: DWo DWp DWq. -/
import Derived.Test.YtijkgdbabikojaaGreatP07
/- The walks over bytes.Clone and what disk.Synced and Read hand on. -/
namespace Go.Proofs.YtijkgdbabikojaaGreat.Dk
set_option maxRecDepth 1000000
open Go.RowKit
set_option linter.unusedVariables false

theorem ent34 : Ent 71 := fun args w => by kernel_rfl

theorem wpList_append_run {P : Program} {w : World} {ops : Array Oper} {rest : List Oper} {o : Oper} {a : Act} {Q : Exit → Act → World → Prop} (hgd : o.guard = none) (s x : Operand) (t : TypeId)
    (ho : o.op = .call { callee := .builtin .append, args := #[s, x], argTypes := #[t, t] }) (d : Tmp) (hdst : o.dst = some d) (v xv v' : Value) (w' : World) (hs : a.eval s = v) (hx : a.eval x = xv)
    (hrun : (Builtin.append_ #[t, t] o.type #[v, xv]).run P w = .ok v' w') (h : wpList P ops Q rest (a.put (some d) v') w') : wpList P ops Q (o :: rest) a w := by
  refine wpList_plain hgd fun K hK => ?_
  unfold Oper.wp
  simp [execOp, ho, resolve, invoke, builtin, hs, hx, hrun, Result.andThen]
  rw [← hdst] at h
  exact hK _ _ h

theorem RB.nil_of {w : World} {n c : Nat} {l : List UInt8} (h : RB w (.slice none n c) l) : l = [] ∧ n = 0 ∧ c = 0 := by
  obtain ⟨a, cap, he, _, _, h3, hr⟩ := h
  simp only [Value.slice.injEq] at he
  obtain ⟨rfl, rfl, rfl⟩ := he
  have hl0 : l = [] := by
    cases l with
    | nil => rfl
    | cons x l =>
      obtain ⟨b, off, h9, _⟩ := hr 0 (by simp)
      cases h9
  subst hl0
  exact ⟨rfl, rfl, h3 rfl⟩

set_option maxRecDepth 1000000 in
set_option maxHeartbeats 1000000 in
theorem clone_any (x : Value) (l : List UInt8) (w : World) (hx : RB w x l) (hl : l.length ≤ 10000000) :
    Calls Tryz.prog 72 #[x] w fun e w' => ∃ v, e = .returned v ∧ w'.ownsRow 0 5 1 v l.length (bvs l) ∧ Below w.heap.size w w' ∧ (∀ g, v.ownBlock = some g → w.heap.size ≤ g) := by
  have hx0 := hx
  obtain ⟨a, cap, rfl, _, _, h3, hr⟩ := hx0
  cases a with
  | none =>
    obtain ⟨rfl, _, rfl⟩ := hx.nil_of
    have hE : ∀ w, (binOp .eql 34 (.slice none 0 0) (.slice none 0 0)).run Tryz.prog w = .ok (.bool true) w := fun w => Lib.run_eql_slice_nil w 34 5 none 0 0 0 0 Tryz.underlying34
    clear hr h3 hx
    go_enter Tryz.func72, Tryz.ntmps72
    go_wp2_with fail
    go_ret
    exact ⟨_, rfl, World.ownsRow_nil _ _ _ _, Below.refl _ _, fun g h => by cases h⟩
  | some ad =>
    have hE : ∀ w, (binOp .eql 34 (.slice (some ad) l.length cap) (.slice none 0 0)).run Tryz.prog w = .ok (.bool false) w := fun w => Lib.run_eql_slice_nil w 34 5 (some ad) l.length cap 0 0 Tryz.underlying34
    have hb : Below w.heap.size w (w.alloc (.cells #[] 5)) := (Below.refl _ _).alloc (Nat.le_refl _) _
    have hown : (w.alloc (.cells #[] 5)).ownsRow 0 5 1 (.slice (some ⟨w.heap.size, 0, none⟩) 0 0) ([] : List UInt8).length (bvs []) := World.ownsRow_made w #[] 0 (Nat.zero_le _) (Nat.zero_le _) rfl
    obtain ⟨v', w', h1, h2, h4, h5⟩ := run_append_b _ 34 _ _ [] l hown (hx.later hb) (by simp) hl
    obtain ⟨a2, c2, rfl, _, _, _⟩ := owns_slice h2
    have HR : Hid _ := h1
    have H2 : Hid (w'.ownsRow 0 5 1 (.slice a2 l.length c2) l.length (bvs l)) := h2
    have HB : Hid (Below w.heap.size w w') := hb.grown h4 (by simp) (fun k hk => by simp [Value.ownBlock] at hk; omega)
    have HF : Hid (∀ g, (Value.slice a2 l.length c2).ownBlock = some g → w.heap.size ≤ g) := fun g hg => by
      rcases h5 with h | h
      · have := (hg.symm.trans h); simp [Value.ownBlock] at this; omega
      · have := (hg.symm.trans h); simp at this; omega
    clear hr h3 hx hb hown h1 h2 h4 h5
    go_enter Tryz.func72, Tryz.ntmps72
    go_wp2_with (at_builtin; refine wpList_append_run rfl _ _ 34 rfl 7 rfl _ _ _ _ rfl rfl HR.out ?_)
    go_ret
    exact ⟨_, rfl, H2.out, HB.out, HF.out⟩

set_option maxRecDepth 1000000 in
set_option maxHeartbeats 1000000 in
theorem read1_any (p b0 b1 b2 i : Nat) (v : Value) (l : List UInt8) (w : World) (hi : i < 65) (h0 : w.cell? ⟨b0, 0, none⟩ = some (.pointer (some ⟨p, 0, none⟩))) (h1 : w.cell? ⟨b1, 0, none⟩ = some (.int .i64 i)) (h2 : w.cell? ⟨b2, 0, none⟩ = some (.slice none 0 0)) (hf : w.frozen? ⟨b2, 0, none⟩ = false) (hc : w.cell? ⟨p, i * 2, none⟩ = some v) (hr : RB w v l) (hl : l.length ≤ 10000000) :
    Calls Tryz.prog 71 #[.pointer (some ⟨b0, 0, none⟩), .pointer (some ⟨b1, 0, none⟩), .pointer (some ⟨b2, 0, none⟩)] w fun e w' => e = .returned (.tuple #[]) ∧ ∃ w1 u, Below w.heap.size w w1 ∧ w1.ownsRow 0 5 1 u l.length (bvs l) ∧ (∀ g, u.ownBlock = some g → w.heap.size ≤ g) ∧ w' = w1.setCell ⟨b2, 0, none⟩ u := by
  have HC : Hid _ := clone_any v l w.drew (hr.later (Below.refl _ _).drew) hl
  obtain ⟨a, c, rfl, _, _, _, _⟩ := hr
  have hb2 : b2 < w.heap.size := World.block_lt_of_cell? w _ h2
  go_enter Tryz.func71, Tryz.ntmps71
  go_wp2_with fail
  go_region_with (first | (go_at_call 72; refine Calls.mono HC.out ?_; rintro e w2 ⟨u, rfl, ho2, hbl2, hg2⟩
                           obtain ⟨a2, c2, rfl, _, _, _⟩ := owns_slice ho2
                           have H2 : Hid _ := ho2
                           have HB : Hid (Below w.heap.size w w2) := (Below.refl _ _).drew.trans hbl2
                           have HG : Hid _ := hg2
                           have k2 := cell_later HB.out h2
                           have kf : w2.frozen? ⟨b2, 0, none⟩ = false := (HB.out.frozen hb2).trans hf
                           clear ho2 hbl2 hg2))
  all_goals
    go_wp2_with fail
    go_end0
    exact ⟨rfl, _, _, HB.out, H2.out, HG.out, rfl⟩
end Go.Proofs.YtijkgdbabikojaaGreat.Dk

/- The walks over disk.Synced and Read. -/
namespace Go.Proofs.YtijkgdbabikojaaGreat.Dk
set_option maxRecDepth 1000000
open Go.RowKit
set_option linter.unusedVariables false

/-- Bytes that lie from B on. -/
def RBf (B : Nat) (w : World) (v : Value) (l : List UInt8) : Prop := RB w v l ∧ ∀ a n c, v = .slice (some a) n c → B ≤ a.block
def syncedP (S : DS) (i : Int) : Nat := if hasB S i = true then (S.fs i.toNat).s else 0
def readP (S : DS) (i : Int) : List UInt8 := if hasB S i = true then (S.fs i.toNat).b else []

theorem read_call (T : Nat → Prop) (w : World) (p : Nat) (S : DS) (i : Int) (hd : DK T w p S) (ho : Okay S) (hs : Small 10000000 1000000000000 S) (wq : World)
    (hwq : wq = ((((((w.alloc (.cells #[.pointer (some ⟨p, 0, none⟩)] 25)).alloc (.cells #[.int .i64 i] 3)).alloc (.cells #[.slice none 0 0] 34)).alloc (.cells #[.pointer (some ⟨p, 0, none⟩)] 25)).alloc (.cells #[.int .i64 i] 3)).alloc (.cells #[.func (.func 98) #[] #[.pointer (some ⟨w.heap.size + 1 + 1 + 1 + 1, 0, none⟩), .pointer (some ⟨w.heap.size + 1 + 1 + 1, 0, none⟩)]] 105)).drew) :
    Calls Tryz.prog 48 #[.pointer (some ⟨p, 0, none⟩), .func (.func 71) #[] #[.pointer (some ⟨w.heap.size, 0, none⟩), .pointer (some ⟨w.heap.size + 1, 0, none⟩), .pointer (some ⟨w.heap.size + 1 + 1, 0, none⟩)], .slice (some ⟨w.heap.size + 1 + 1 + 1 + 1 + 1, 0, none⟩) 1 1] wq (fun e w' => (∃ k : Int, e = .returned (.int .i64 k)) ∧ Below w.heap.size w w' ∧ (w'.cell? ⟨w.heap.size, 0, none⟩ = some (.pointer (some ⟨p, 0, none⟩)) ∧ w'.cell? ⟨w.heap.size + 1, 0, none⟩ = some (.int .i64 i)) ∧ ∃ u, w'.cell? ⟨w.heap.size + 1 + 1, 0, none⟩ = some u ∧ RBf w.heap.size w' u (readP S i)) := by
  obtain ⟨f60, hf60⟩ : ∃ f, f = Value.func (.func 98) #[] #[.pointer (some ⟨w.heap.size + 1 + 1 + 1 + 1, 0, none⟩), .pointer (some ⟨w.heap.size + 1 + 1 + 1, 0, none⟩)] := ⟨_, rfl⟩
  rw [← hf60] at hwq
  have hbel : Below w.heap.size w wq := by rw [hwq]; exact ((alloc5 w _ _ _ _ _).alloc (by simp; omega) _).drew
  have c0 : wq.cell? ⟨w.heap.size, 0, none⟩ = some (.pointer (some ⟨p, 0, none⟩)) := by
    rw [hwq]
    show (World.alloc _ _).cell? _ = _
    rw [cell_past _ _ _ _ (by simp <;> omega), cell_past _ _ _ _ (by simp <;> omega), cell_past _ _ _ _ (by simp <;> omega), cell_past _ _ _ _ (by simp <;> omega), cell_past _ _ _ _ (by simp <;> omega), cell_alloc1 _ _ _ _ (by simp)]
  have c1 : wq.cell? ⟨w.heap.size + 1, 0, none⟩ = some (.int .i64 i) := by
    rw [hwq]
    show (World.alloc _ _).cell? _ = _
    rw [cell_past _ _ _ _ (by simp <;> omega), cell_past _ _ _ _ (by simp <;> omega), cell_past _ _ _ _ (by simp <;> omega), cell_past _ _ _ _ (by simp <;> omega), cell_alloc1 _ _ _ _ (by simp)]
  have c2 : wq.cell? ⟨w.heap.size + 1 + 1, 0, none⟩ = some (.slice none 0 0) := by
    rw [hwq]
    show (World.alloc _ _).cell? _ = _
    rw [cell_past _ _ _ _ (by simp <;> omega), cell_past _ _ _ _ (by simp <;> omega), cell_past _ _ _ _ (by simp <;> omega), cell_alloc1 _ _ _ _ (by simp)]
  have c3 : wq.cell? ⟨w.heap.size + 1 + 1 + 1, 0, none⟩ = some (.pointer (some ⟨p, 0, none⟩)) := by
    rw [hwq]
    show (World.alloc _ _).cell? _ = _
    rw [cell_past _ _ _ _ (by simp <;> omega), cell_past _ _ _ _ (by simp <;> omega), cell_alloc1 _ _ _ _ (by simp)]
  have c4 : wq.cell? ⟨w.heap.size + 1 + 1 + 1 + 1, 0, none⟩ = some (.int .i64 i) := by
    rw [hwq]
    show (World.alloc _ _).cell? _ = _
    rw [cell_past _ _ _ _ (by simp <;> omega), cell_alloc1 _ _ _ _ (by simp)]
  have hz : w.heap.size + 3 ≤ wq.heap.size := by rw [hwq]; show _ ≤ (World.alloc _ _).heap.size; simp <;> omega
  have f2 : wq.frozen? ⟨w.heap.size + 1 + 1, 0, none⟩ = false := by
    rw [hwq]
    refine frozen_of_row _ _ _ #[.slice none 0 0] 34 ?_
    show (World.alloc _ _).heap[w.heap.size + 1 + 1]? = _
    rw [Below.heap_alloc _ _ _ (by simp <;> omega), Below.heap_alloc _ _ _ (by simp <;> omega), Below.heap_alloc _ _ _ (by simp)]
    exact heap_new _ _ _ (by simp)
  have hrf : RF wq (w.heap.size + 1 + 1 + 1 + 1 + 1) (.slice (some ⟨w.heap.size + 1 + 1 + 1 + 1 + 1, 0, none⟩) 1 1) [f60] := by
    rw [hwq]
    exact RF.one _ _ _ (by simp)
  clear hwq
  have hd2 := hd.later hbel
  obtain ⟨V, hv⟩ := hd2
  have hpos := ho.pos
  refine Calls.mono (call_any p S.n (w.heap.size + 1 + 1 + 1 + 1 + 1) _ _ [f60] _ (fun k w' => Below w.heap.size w w' ∧ (w'.cell? ⟨w.heap.size, 0, none⟩ = some (.pointer (some ⟨p, 0, none⟩)) ∧ w'.cell? ⟨w.heap.size + 1, 0, none⟩ = some (.int .i64 i)) ∧ ∃ u, w'.cell? ⟨w.heap.size + 1 + 1, 0, none⟩ = some u ∧ RBf w.heap.size w' u (readP S i)) hv.cnt (by omega) hrf ⟨98, #[], #[.pointer (some ⟨w.heap.size + 1 + 1 + 1 + 1, 0, none⟩), .pointer (some ⟨w.heap.size + 1 + 1 + 1, 0, none⟩)], hf60, ent60, Calls.mono (has1_any p _ _ S.n i _ c4 c3 hv.cnt) ?_⟩) ?_
  · rintro e w' ⟨rfl, q, rfl⟩
    have hbq : Below wq.heap.size wq (wq.drewN q) := below_drewN (Below.refl _ _) q
    have hb2 : Below w.heap.size w (wq.drewN q) := hbel.trans (hbq.mono hbel.size)
    by_cases hg : 0 ≤ i ∧ i < S.n
    · have hhb : hasB S i = true := by unfold hasB; simpa using hg
      refine ⟨0, by rw [if_pos hg], rfl, fun h => absurd rfl h, fun _ => ?_⟩
      obtain ⟨k, rfl, hkn⟩ := hasB_true hhb
      have hfew := ho.few
      obtain ⟨e0, e1, e2⟩ := hv.file k (by omega)
      refine ⟨71, #[], #[.pointer (some ⟨w.heap.size, 0, none⟩), .pointer (some ⟨w.heap.size + 1, 0, none⟩), .pointer (some ⟨w.heap.size + 1 + 1, 0, none⟩)], rfl, ent34, Calls.mono (read1_any p _ _ _ k (V k) (S.fs k).b (wq.drewN q) (by omega) (cell_later hbq c0) (cell_later hbq c1) (cell_later hbq c2) f2 (cell_later hbq e0) ((RB.of_owns e2 rfl).later hbq) (hs.len k)) ?_⟩
      rintro e w' ⟨rfl, w1, u, hb1, ho1, hg1, rfl⟩
      have hz1 : wq.heap.size ≤ w1.heap.size := hb1.size
      have hbb : Below w.heap.size w w1 := hb2.trans (hb1.mono (by show _ ≤ wq.heap.size; omega))
      refine ⟨rfl, hbb.setCell (by show _ ≤ w.heap.size + 1 + 1; omega) _, ⟨?_, ?_⟩, ?_⟩
      · rw [World.cell?_setCell_far _ _ _ _ (by show w.heap.size + 1 + 1 ≠ w.heap.size; omega)]
        exact cell_later hb1 (cell_later hbq c0)
      · rw [World.cell?_setCell_far _ _ _ _ (by show w.heap.size + 1 + 1 ≠ w.heap.size + 1; omega)]
        exact cell_later hb1 (cell_later hbq c1)
      · unfold readP
        rw [hhb]
        refine ⟨u, set_same _ (cell_later hb1 (cell_later hbq c2)), ?_⟩
        exact ⟨RB.of_owns (owns_kept (T := fun k => k = w.heap.size + 1 + 1) ((Kp.refl _ _).set _ _ rfl) ho1 (fun g hg => by have : wq.heap.size ≤ g := hg1 g hg; omega)) rfl, fun a n c he => by
          subst he
          rcases ho1.2 with ⟨he, _⟩ | ⟨g, cap, cur, he, _⟩
          · cases he
          · cases he
            have : wq.heap.size ≤ g := hg1 g rfl
            show w.heap.size ≤ g
            omega⟩
    · have hhb : hasB S i = false := by unfold hasB; simpa using hg
      refine ⟨2, by rw [if_neg hg], rfl, fun _ => ⟨hb2, ⟨cell_later hbq c0, cell_later hbq c1⟩, ?_⟩, fun h => by cases h⟩
      unfold readP
      rw [hhb]
      exact ⟨_, cell_later hbq c2, RB.nil _, fun _ _ _ h => by cases h⟩
  · rintro e w' ⟨k, rfl, h⟩
    exact ⟨⟨k, rfl⟩, h⟩

set_option maxRecDepth 1000000 in
set_option maxHeartbeats 1000000 in
theorem read_any (T : Nat → Prop) (w : World) (p : Nat) (S : DS) (i : Int) (hd : DK T w p S) (ho : Okay S) (hs : Small 10000000 1000000000000 S) :
    Calls Tryz.prog 33 #[.pointer (some ⟨p, 0, none⟩), .int .i64 i] w fun e w' => (∃ v, e = .returned v ∧ RBf w.heap.size w' v (readP S i)) ∧ Below w.heap.size w w' := by
  have HC : Hid _ := read_call T w p S i hd ho hs _ rfl
  have HK : Hid (∀ w1 w2 : World, (w1.cell? ⟨w.heap.size, 0, none⟩ = some (.pointer (some ⟨p, 0, none⟩)) ∧ w1.cell? ⟨w.heap.size + 1, 0, none⟩ = some (.int .i64 i)) → Below w1.heap.size w1 w2 → (w2.cell? ⟨w.heap.size, 0, none⟩ = some (.pointer (some ⟨p, 0, none⟩)) ∧ w2.cell? ⟨w.heap.size + 1, 0, none⟩ = some (.int .i64 i))) := fun w1 w2 h hb => ⟨cell_later hb h.1, cell_later hb h.2⟩
  have HS0 : Hid ((((w.alloc (.cells #[.pointer (some ⟨p, 0, none⟩)] 25)).alloc (.cells #[.int .i64 i] 3)).alloc (.cells #[.slice none 0 0] 34)).drew.cell? ⟨w.heap.size, 0, none⟩ = some (.pointer (some ⟨p, 0, none⟩)) ∧ (((w.alloc (.cells #[.pointer (some ⟨p, 0, none⟩)] 25)).alloc (.cells #[.int .i64 i] 3)).alloc (.cells #[.slice none 0 0] 34)).drew.cell? ⟨w.heap.size + 1, 0, none⟩ = some (.int .i64 i)) := by
    refine ⟨?_, ?_⟩
    · show (World.alloc _ _).cell? _ = _
      rw [cell_past _ _ _ _ (by simp <;> omega), cell_past _ _ _ _ (by simp <;> omega), cell_alloc1 _ _ _ _ (by simp)]
    · show (World.alloc _ _).cell? _ = _
      rw [cell_past _ _ _ _ (by simp <;> omega), cell_alloc1 _ _ _ _ (by simp)]
  have hmf : ∀ (fn : Fn) (first cap : Array Value) (w : World), (Instr.makeFunc fn first cap).run Tryz.prog w = .ok (.func fn first cap) w := fun _ _ _ _ => rfl
  obtain ⟨R, HR⟩ : ∃ R, Hid (R = readP S i) := ⟨_, rfl⟩
  rw [← HR.out] at HC ⊢
  clear hd HR
  go_enter Tryz.func33, Tryz.ntmps33
  go_wp2_with fail
  go_region_held_law (fun w' => (w'.cell? ⟨w.heap.size, 0, none⟩ = some (.pointer (some ⟨p, 0, none⟩)) ∧ w'.cell? ⟨w.heap.size + 1, 0, none⟩ = some (.int .i64 i))) (first | assumption | exact HS0.out | exact hs9 | exact HK.out _ _ ‹_› (alloc2 _ _ _) | exact HK.out _ _ ‹_› ((Below.refl _ _).alloc (Nat.le_refl _) _)) (first
    | (go_simp; go_at_call 73; refine Calls.mono (has_any _ _ _) ?_; rintro e w2 ⟨rfl, rfl⟩)
    | (go_simp; go_at_call 48; refine Calls.mono HC.out ?_; rintro e w2 ⟨⟨k9, rfl⟩, hb9, hs9, u9, hc9, hr9⟩; obtain ⟨a9, n9, rfl, _, _, _, _⟩ := id hr9.1; have HR9 : Hid _ := hr9; clear hr9))
  all_goals
    go_wp2_with fail
    go_ret
    exact ⟨⟨_, rfl, HR9.out⟩, hb9⟩

end Go.Proofs.YtijkgdbabikojaaGreat.Dk

/- The walk over what disk.Crash hands on. -/
namespace Go.Proofs.YtijkgdbabikojaaGreat.Dk
set_option maxRecDepth 1000000
open Go.RowKit
set_option linter.unusedVariables false

theorem ent38 : Ent 49 := fun args w => by kernel_rfl

/-- A slice of ints that reads as a list. -/
def RI (w : World) (v : Value) (l : List Int) : Prop :=
  ∃ a cap, v = .slice a l.length cap ∧ l.length ≤ cap ∧ cap ≤ maxLen ∧ ∀ i, i < l.length → ∃ b off, a = some ⟨b, off, none⟩ ∧ w.cell? ⟨b, off + i, none⟩ = some (.int .i64 (l.getD i 0))

theorem RI.kept {w w' : World} {T : Nat → Prop} {v : Value} {l : List Int} (h : RI w v l) (hk : Kp T w w') (hv : 0 < l.length → ∀ a n c, v = .slice (some a) n c → ¬ T a.block) : RI w' v l := by
  obtain ⟨a, cap, rfl, h1, h2, hc⟩ := h
  refine ⟨a, cap, rfl, h1, h2, fun i hi => ?_⟩
  obtain ⟨b, off, rfl, hcell⟩ := hc i hi
  exact ⟨b, off, rfl, hk.cell hcell (show ¬ T b from hv (by omega) ⟨b, off, none⟩ _ _ rfl)⟩

theorem RI.later {w w' : World} {v : Value} {l : List Int} (h : RI w v l) (hb : Below w.heap.size w w') : RI w' v l := h.kept (Kp.of_below (fun _ => False) hb) (fun _ _ _ _ _ h => h)

theorem RI.nil (w : World) : RI w (.slice none 0 0) [] := ⟨none, 0, rfl, by simp, by unfold maxLen; omega, by simp⟩

/-- One file behind a crash. -/
theorem crash_turn (T : Nat → Prop) (w wr : World) (p : Nat) (S : DS) (keep : List Int) (k : Nat) (kv : Int) (hkv : kv = keep.getD k 0) (hk : k < S.n) (ho : Okay S) (hs : Small 10000000 900000000000 S) (hT : ∀ k, T k → k < w.heap.size)
    (hd : DK (Wid T w wr) wr p (crashK keep S k)) (hkp : Kp T w wr) :
    Calls Tryz.prog 50 #[.pointer (some ⟨p, 0, none⟩), .int .i64 k, .func (.func 51) #[] #[.pointer (some ⟨wr.heap.size, 0, none⟩)]] (wr.alloc (.cells #[.int .i64 kv] 3)) fun e w' => e = .returned (.tuple #[]) ∧ DK (Wid T w w') w' p (crashK keep S (k + 1)) ∧ Kp T w w' := by
  have hb : Below wr.heap.size wr (wr.alloc (.cells #[.int .i64 kv] 3)) := (Below.refl _ _).alloc (Nat.le_refl _) _
  have hsm := crashK_room keep ho hs k (by omega)
  have hok := ho.crashK keep k (by omega)
  have hfew := ho.few
  have hsy := hok.syn k
  have hln := hsm.len k
  have hrm := hsm.room
  have hlt : (tornP kv ((crashK keep S k).fs k)).b.length ≤ ((crashK keep S k).fs k).b.length := by
    show (List.take _ _).length ≤ _
    rw [List.length_take]
    omega
  have hmul : k * 10000000 ≤ 650000000 := by omega
  refine Calls.mono (turn_any (Wid T w wr) p (crashK keep S k) k _ (tornP kv ((crashK keep S k).fs k)) _ (hd.later hb) (by omega) ⟨51, _, rfl, ent40, fun wx v hkx hown => ?_⟩ hln (by omega) (by omega) (by omega)) ?_
  · exact crash1_any v _ _ wx hown kv hsy hln wr.heap.size (hkx.cell (cell_alloc1 _ _ _ _ rfl) (fun h => by
      rcases h with h | h
      · have h' : wr.heap.size < w.heap.size := hT _ h; have := hkp.size; omega
      · exact Nat.lt_irrefl _ h.2))
  · rintro e w' ⟨rfl, h1, h2⟩
    have hsz : w.heap.size ≤ wr.heap.size := hkp.size
    have hsz2 : wr.heap.size + 1 ≤ w'.heap.size := by have := h2.size; simpa using this
    refine ⟨rfl, ?_, ?_⟩
    · have hE : crashK keep S (k + 1) = turnP (crashK keep S k) k (tornP kv ((crashK keep S k).fs k)) := by rw [hkv]; rfl
      rw [hE]
      refine h1.wide (fun x hx => ?_) (fun x hx => ?_)
      · rcases hx with (hx | hx) | hx
        · exact .inl hx
        · exact .inr ⟨hx.1, by omega⟩
        · exact .inr ⟨by have := hx.1; simp at this; omega, hx.2⟩
      · rcases hx with hx | hx
        · have := hT x hx; omega
        · exact hx.2
    · exact hkp.trans ((Kp.of_below (Wid T w wr) hb).trans h2 (fun x hx _ => hx)) (fun x hx hl => by
        rcases hx with hx | hx
        · exact hx
        · omega)

set_option maxRecDepth 1000000 in
set_option maxHeartbeats 1000000 in
theorem crash1f_any (T : Nat → Prop) (w : World) (p b0 b1 : Nat) (S : DS) (kv : Value) (keep : List Int) (hd : DK T w p S) (ho : Okay S) (hs : Small 10000000 900000000000 S) (h0 : w.cell? ⟨b0, 0, none⟩ = some (.pointer (some ⟨p, 0, none⟩))) (h1 : w.cell? ⟨b1, 0, none⟩ = some kv) (hn0 : ¬ T b0) (hn1 : ¬ T b1) (hr : RI w kv keep) (hkT : 0 < keep.length → ∀ a n c, kv = .slice (some a) n c → ¬ T a.block) (hl : keep.length ≤ 1000000) :
    Calls Tryz.prog 49 #[.pointer (some ⟨b0, 0, none⟩), .pointer (some ⟨b1, 0, none⟩)] w fun e w' => e = .returned (.tuple #[]) ∧ DK (Wid T w w') w' p (crashP S keep) ∧ Kp T w w' := by
  have hT := hd.live
  have HRI : Hid (∀ wr, Kp T w wr → RI wr kv keep) := fun wr hk => hr.kept hk hkT
  have hcnt : w.cell? ⟨p, 130, none⟩ = some (.int .i64 S.n) := by obtain ⟨V, h⟩ := hd; exact h.cnt
  have HC : Hid (∀ wr k q, q = keep.getD k 0 → k < S.n → DK (Wid T w wr) wr p (crashK keep S k) → Kp T w wr → _) := fun wr k q hq hk h1 h2 => crash_turn T w wr p S keep k q hq hk ho hs hT h1 h2
  have HD0 : Hid (DK (Wid T w w) w p (crashK keep S 0)) := hd.wide (fun k h => .inl h) (fun k h => by
    rcases h with h | h
    · exact hT k h
    · omega)
  have HE : Hid (crashP S keep = { crashK keep S S.n with fuse := -1, down := false }) := rfl
  have hfew := ho.few
  have HTp : Hid (T p) := by obtain ⟨V, h⟩ := hd; exact h.own
  obtain ⟨S2, HS2⟩ : ∃ S2, Hid (S2 = crashP S keep) := ⟨_, rfl⟩
  rw [← HS2.out] at HE ⊢
  obtain ⟨a, cap, rfl, _, _, _⟩ := hr
  obtain ⟨n, HN⟩ : ∃ n, Hid (S.n = n) := ⟨_, rfl⟩
  rw [HN.out] at hcnt HC hfew HE
  have hmf : ∀ (fn : Fn) (first cap : Array Value) (w : World), (Instr.makeFunc fn first cap).run Tryz.prog w = .ok (.func fn first cap) w := fun _ _ _ _ => rfl
  clear hd hkT
  go_enter Tryz.func49, Tryz.ntmps49
  go_wp2_with fail
  go_loopw [8] (fun i wr => ∃ k : Nat, k ≤ n ∧ i = .int .i64 k ∧ Hid (DK (Wid T w wr) wr p (crashK keep S k)) ∧ Hid (Kp T w wr)) (fun i _ => n - (intOf i).toNat)
  case atStart => exact ⟨0, Nat.zero_le _, rfl, HD0, Kp.refl _ _⟩
  case round =>
    obtain ⟨k, hk, rfl, HD, HK⟩ := hrel
    have g0 := HK.out.cell h0 hn0
    have g1 := HK.out.cell h1 hn1
    have g0a : ∀ o, (wr.alloc o).cell? ⟨b0, 0, none⟩ = some (.pointer (some ⟨p, 0, none⟩)) := fun o => (cell_past _ _ _ _ (World.block_lt_of_cell? wr _ g0)).trans g0
    have g1a : ∀ o, (wr.alloc o).cell? ⟨b1, 0, none⟩ = some (.slice a keep.length cap) := fun o => (cell_past _ _ _ _ (World.block_lt_of_cell? wr _ g1)).trans g1
    by_cases hlt : k < n
    · have HC2 : Hid (∀ q, q = keep.getD k 0 → _) := fun q hq => HC.out wr k q hq hlt HD.out HK.out
      by_cases hkl : k < keep.length
      · obtain ⟨a', cap', he, _, _, hcc⟩ := HRI.out wr HK.out
        simp only [Value.slice.injEq] at he
        obtain ⟨rfl, _, rfl⟩ := he
        obtain ⟨b, off, rfl, hcell⟩ := hcc k hkl
        have hcella : ∀ o, (wr.alloc o).cell? ⟨b, off + k, none⟩ = some (.int .i64 (keep.getD k 0)) := fun o => (cell_past _ _ _ _ (World.block_lt_of_cell? wr _ hcell)).trans hcell
        clear hcc
        generalize hq : keep.getD k 0 = q at *
        have HC3 := HC2.out q rfl
        have HC4 : Hid _ := HC3
        clear HC3 HC2 HC hq HRI
        go_wp2_with (first | (go_at_call 50; refine Calls.mono HC4.out ?_; rintro e w2 ⟨rfl, h2, h3⟩; have H2 : Hid _ := h2; have H3 : Hid _ := h3; clear h2 h3))
        go_roundw
        case rel => exact ⟨k + 1, by omega, by go_num, H2, H3⟩
        case measure => simp [intOf]; omega
      · have HC3 := HC2.out 0 (by rw [List.getD_eq_getElem?_getD, List.getElem?_eq_none (by omega)]; rfl)
        have HC4 : Hid _ := HC3
        clear HC3 HC2 HC HRI
        go_wp2_with (first | (go_at_call 50; refine Calls.mono HC4.out ?_; rintro e w2 ⟨rfl, h2, h3⟩; have H2 : Hid _ := h2; have H3 : Hid _ := h3; clear h2 h3))
        go_roundw
        case rel => exact ⟨k + 1, by omega, by go_num, H2, H3⟩
        case measure => simp [intOf]; omega
    · have hkn : k = n := by omega
      subst hkn
      obtain ⟨V, hv⟩ := HD.out
      have HV : Hid _ := hv
      have q0 := hv.frozen
      have q1 := hv.fu
      have q2 := hv.dn
      clear hv HC HRI
      go_wp2_with fail
      go_region
      all_goals
        go_wp2_with fail
        go_end0
        have h5 := ((HV.out.setFuse (-1)).setDown false).later (Below.refl _ _).drew
        have hz : ((wr.setCell ⟨p, 132, none⟩ (.int .i64 (-1))).setCell ⟨p, 133, none⟩ (.bool false)).drew.heap.size = wr.heap.size := (size_set _ _ _).trans (size_set _ _ _)
        refine ⟨rfl, ?_, ((HK.out.set _ _ HTp.out).set _ _ HTp.out).drew⟩
        rw [HE.out]
        refine DK.wide ⟨_, h5⟩ (fun x hx => ?_) (fun x hx => ?_)
        · rcases hx with hx | hx
          · exact .inl hx
          · exact .inr ⟨hx.1, by rw [hz]; exact hx.2⟩
        · rcases hx with hx | hx
          · rw [hz]
            exact Nat.lt_of_lt_of_le (hT x hx) HK.out.size
          · exact hx.2

set_option maxRecDepth 1000000 in
set_option maxHeartbeats 1000000 in
theorem crash_any (T : Nat → Prop) (w : World) (p : Nat) (S : DS) (kv : Value) (keep : List Int) (hd : DK T w p S) (ho : Okay S) (hs : Small 10000000 900000000000 S) (hr : RI w kv keep) (hkT : 0 < keep.length → ∀ a n c, kv = .slice (some a) n c → ¬ T a.block) (hl : keep.length ≤ 1000000) :
    Calls Tryz.prog 19 #[.pointer (some ⟨p, 0, none⟩), kv] w (WR T w p (0, crashP S keep)) := by
  have hT := hd.live
  have hG : ∀ k, w.heap.size ≤ k → ¬ T k := fun k hk h => by have := hT k h; omega
  have hbel := alloc2 w (.cells #[.pointer (some ⟨p, 0, none⟩)] 25) (.cells #[kv] 31)
  have c0 : ((w.alloc (.cells #[.pointer (some ⟨p, 0, none⟩)] 25)).alloc (.cells #[kv] 31)).cell? ⟨w.heap.size, 0, none⟩ = some (.pointer (some ⟨p, 0, none⟩)) := by
    rw [cell_past _ _ _ _ (by simp), cell_alloc1 _ _ _ _ rfl]
  have c1 : ((w.alloc (.cells #[.pointer (some ⟨p, 0, none⟩)] 25)).alloc (.cells #[kv] 31)).cell? ⟨w.heap.size + 1, 0, none⟩ = some kv := cell_alloc1 _ _ _ _ (by simp)
  have hcnt : ((w.alloc (.cells #[.pointer (some ⟨p, 0, none⟩)] 25)).alloc (.cells #[kv] 31)).cell? ⟨p, 130, none⟩ = some (.int .i64 S.n) := by obtain ⟨V, h⟩ := hd.later hbel; exact h.cnt
  have hpos := ho.pos
  have HC : Hid (Calls Tryz.prog 48 #[.pointer (some ⟨p, 0, none⟩), .func (.func 49) #[] #[.pointer (some ⟨w.heap.size, 0, none⟩), .pointer (some ⟨w.heap.size + 1, 0, none⟩)], .slice none 0 0] ((w.alloc (.cells #[.pointer (some ⟨p, 0, none⟩)] 25)).alloc (.cells #[kv] 31)) (WR T w p (0, crashP S keep))) := by
    refine Calls.mono (call_any p S.n 0 _ _ [] _ (fun k w' => k = 0 ∧ WQ T ((w.alloc (.cells #[.pointer (some ⟨p, 0, none⟩)] 25)).alloc (.cells #[kv] 31)) p (0, crashP S keep) 0 w') hcnt (by omega) (RF.nil _ _)
      ⟨49, #[], #[.pointer (some ⟨w.heap.size, 0, none⟩), .pointer (some ⟨w.heap.size + 1, 0, none⟩)], rfl, ent38, Calls.mono (crash1f_any T _ p _ _ S kv keep (hd.later hbel) ho hs c0 c1 (hG _ (by omega)) (hG _ (by omega)) (hr.later hbel) hkT hl) (fun e w' h => ⟨h.1, rfl, rfl, h.2.1, h.2.2⟩)⟩) ?_
    rintro e w' ⟨k, rfl, rfl, hq⟩
    obtain ⟨h1, h2, h3⟩ := hq.back hbel hT
    exact ⟨rfl, h2, h3⟩
  obtain ⟨a, cap, rfl, _, _, _⟩ := hr
  generalize crashP S keep = res at *
  have hmf : ∀ (fn : Fn) (first cap : Array Value) (w : World), (Instr.makeFunc fn first cap).run Tryz.prog w = .ok (.func fn first cap) w := fun _ _ _ _ => rfl
  clear hd hkT c0 c1 hcnt hbel
  go_enter Tryz.func19, Tryz.ntmps19
  go_wp2_with (first | (go_at_call 48; refine Calls.mono HC.out ?_; rintro e w2 ⟨rfl, h1, h2⟩))
  go_ret
  exact ⟨rfl, h1, h2⟩
end Go.Proofs.YtijkgdbabikojaaGreat.Dk

