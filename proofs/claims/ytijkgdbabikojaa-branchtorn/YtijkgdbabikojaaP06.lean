/- Texts of the seat, packed: DWm DWo DWp. -/
import Derived.Test.YtijkgdbabikojaaP05
/- The walks over disk.Room, Down, Files, Arm. -/
namespace Go.Proofs.Ytijkgdbabikojaa.Dk
set_option maxRecDepth 1000000
open Go.RowKit
set_option linter.unusedVariables false

theorem ent56 : Ent 78 := fun args w => by kernel_rfl
theorem ent44 : Ent 40 := fun args w => by kernel_rfl

theorem RF.nil (w : World) (blk : Nat) : RF w blk (.slice none 0 0) [] := ⟨none, 0, rfl, by simp, fun i u h => by simp at h⟩

theorem RF.one (w : World) (v : Value) (k : Nat) (hk : k = w.heap.size) : RF (w.alloc (.cells #[v] 71)) k (.slice (some ⟨k, 0, none⟩) 1 1) [v] := by
  refine ⟨_, 1, rfl, by simp, fun i u h => ?_⟩
  match i, h with
  | 0, h => simp at h; subst h; exact ⟨0, rfl, cell_alloc1 _ _ _ _ hk⟩
  | i + 1, h => simp at h

theorem froz1 (w : World) (v : Value) (t : TypeId) (k o : Nat) (hk : k = w.heap.size) : (w.alloc (.cells #[v] t)).frozen? ⟨k, o, none⟩ = false := by
  subst hk
  exact frozen_of_row _ _ _ #[v] t (heap_alloc_new _ _)

set_option maxRecDepth 1000000 in
theorem files1_any (p b0 b1 : Nat) (x y : Int) (w : World) (h0 : w.cell? ⟨b0, 0, none⟩ = some (.pointer (some ⟨p, 0, none⟩))) (h1 : w.cell? ⟨b1, 0, none⟩ = some (.int .i64 y)) (hf : w.frozen? ⟨b1, 0, none⟩ = false) (hc : w.cell? ⟨p, 130, none⟩ = some (.int .i64 x)) :
    Calls Try.prog 78 #[.pointer (some ⟨b0, 0, none⟩), .pointer (some ⟨b1, 0, none⟩)] w fun e w' => e = .returned (.tuple #[]) ∧ w' = w.setCell ⟨b1, 0, none⟩ (.int .i64 x) := by
  go_enter Try.func78, Try.ntmps78
  go_wp2
  go_end0
  exact ⟨rfl, rfl⟩

set_option maxRecDepth 1000000 in
set_option maxHeartbeats 1000000 in
theorem files_any (p n : Nat) (x : Int) (w : World) (hn : w.cell? ⟨p, 130, none⟩ = some (.int .i64 n)) (hpos : n ≠ 0) (hc : w.cell? ⟨p, 130, none⟩ = some (.int .i64 x)) :
    Calls Try.prog 61 #[.pointer (some ⟨p, 0, none⟩)] w fun e w' => e = .returned (.int .i64 x) ∧ Below w.heap.size w w' := by
  have hbel := alloc2 w (.cells #[.pointer (some ⟨p, 0, none⟩)] 24) (.cells #[.int .i64 0] 3)
  have c0 : ((w.alloc (.cells #[.pointer (some ⟨p, 0, none⟩)] 24)).alloc (.cells #[.int .i64 0] 3)).cell? ⟨w.heap.size, 0, none⟩ = some (.pointer (some ⟨p, 0, none⟩)) := by
    rw [cell_past _ _ _ _ (by simp), cell_alloc1 _ _ _ _ rfl]
  have c1 : ((w.alloc (.cells #[.pointer (some ⟨p, 0, none⟩)] 24)).alloc (.cells #[.int .i64 0] 3)).cell? ⟨w.heap.size + 1, 0, none⟩ = some (.int .i64 0) := cell_alloc1 _ _ _ _ (by simp)
  have f1 : ((w.alloc (.cells #[.pointer (some ⟨p, 0, none⟩)] 24)).alloc (.cells #[.int .i64 0] 3)).frozen? ⟨w.heap.size + 1, 0, none⟩ = false := froz1 _ _ _ _ _ (by simp)
  have HC : Hid _ := call_any p n 0 (.func (.func 78) #[] #[.pointer (some ⟨w.heap.size, 0, none⟩), .pointer (some ⟨w.heap.size + 1, 0, none⟩)]) _ [] _ (fun k w' => k = 0 ∧ w' = ((w.alloc (.cells #[.pointer (some ⟨p, 0, none⟩)] 24)).alloc (.cells #[.int .i64 0] 3)).setCell ⟨w.heap.size + 1, 0, none⟩ (.int .i64 x)) (cell_later hbel hn) hpos (RF.nil _ _)
    ⟨78, #[], #[.pointer (some ⟨w.heap.size, 0, none⟩), .pointer (some ⟨w.heap.size + 1, 0, none⟩)], rfl, ent56, Calls.mono (files1_any p w.heap.size (w.heap.size + 1) x 0 _ c0 c1 f1 (cell_later hbel hc)) (fun e w' h => ⟨h.1, rfl, h.2⟩)⟩
  have HB : Hid _ := hbel
  have hmf : ∀ (fn : Fn) (first cap : Array Value) (w : World), (Instr.makeFunc fn first cap).run Try.prog w = .ok (.func fn first cap) w := fun _ _ _ _ => rfl
  clear hbel c0 f1
  go_enter Try.func61, Try.ntmps61
  go_wp2_with (first | (go_at_call 27; refine Calls.mono HC.out ?_; rintro e w2 ⟨k, rfl, rfl, rfl⟩))
  go_ret
  exact ⟨rfl, alloc2 _ _ _⟩

set_option maxRecDepth 1000000 in
theorem arm1_any (p b0 b1 : Nat) (n : Int) (y : Int) (w : World) (h0 : w.cell? ⟨b0, 0, none⟩ = some (.int .i64 n)) (h1 : w.cell? ⟨b1, 0, none⟩ = some (.pointer (some ⟨p, 0, none⟩))) (hf : w.frozen? ⟨p, 132, none⟩ = false) (hc : w.cell? ⟨p, 132, none⟩ = some (.int .i64 y)) :
    Calls Try.prog 40 #[.pointer (some ⟨b0, 0, none⟩), .pointer (some ⟨b1, 0, none⟩)] w fun e w' => e = .returned (.tuple #[]) ∧ w' = w.setCell ⟨p, 132, none⟩ (.int .i64 (max n (-1))) := by
  go_enter Try.func40, Try.ntmps40
  go_wp2
  all_goals
    go_end0
    refine ⟨rfl, ?_⟩
    congr 2
    omega

set_option maxRecDepth 1000000 in
set_option maxHeartbeats 1000000 in
theorem arm_any (T : Nat → Prop) (w : World) (p : Nat) (S : DS) (n : Int) (hd : DK T w p S) (ho : Okay S) :
    Calls Try.prog 17 #[.pointer (some ⟨p, 0, none⟩), .int .i64 n] w (WR T w p (armP S n)) := by
  have hT := hd.live
  have hG : ∀ k, w.heap.size ≤ k → ¬ T k := fun k hk h => by have := hT k h; omega
  have hbel := alloc3 w (.cells #[.pointer (some ⟨p, 0, none⟩)] 24) (.cells #[.int .i64 n] 3) (.cells #[.func (.func 41) #[.pointer (some ⟨p, 0, none⟩)] #[]] 71)
  have c0 : (((w.alloc (.cells #[.pointer (some ⟨p, 0, none⟩)] 24)).alloc (.cells #[.int .i64 n] 3)).alloc (.cells #[.func (.func 41) #[.pointer (some ⟨p, 0, none⟩)] #[]] 71)).cell? ⟨w.heap.size, 0, none⟩ = some (.pointer (some ⟨p, 0, none⟩)) := by
    rw [cell_past _ _ _ _ (by simp <;> omega), cell_past _ _ _ _ (by simp), cell_alloc1 _ _ _ _ rfl]
  have c1 : (((w.alloc (.cells #[.pointer (some ⟨p, 0, none⟩)] 24)).alloc (.cells #[.int .i64 n] 3)).alloc (.cells #[.func (.func 41) #[.pointer (some ⟨p, 0, none⟩)] #[]] 71)).cell? ⟨w.heap.size + 1, 0, none⟩ = some (.int .i64 n) := by
    rw [cell_past _ _ _ _ (by simp), cell_alloc1 _ _ _ _ (by simp)]
  have hd2 := hd.later hbel
  have hpos := ho.pos
  have HB : Hid _ := hbel
  have HC : Hid (Calls Try.prog 27 #[.pointer (some ⟨p, 0, none⟩), .func (.func 40) #[] #[.pointer (some ⟨w.heap.size + 1, 0, none⟩), .pointer (some ⟨w.heap.size, 0, none⟩)], .slice (some ⟨w.heap.size + 1 + 1, 0, none⟩) 1 1] (((w.alloc (.cells #[.pointer (some ⟨p, 0, none⟩)] 24)).alloc (.cells #[.int .i64 n] 3)).alloc (.cells #[.func (.func 41) #[.pointer (some ⟨p, 0, none⟩)] #[]] 71)) (WR T w p (armP S n))) := by
    obtain ⟨V, hv⟩ := hd2
    have hW : ∀ w', WQ T (((w.alloc (.cells #[.pointer (some ⟨p, 0, none⟩)] 24)).alloc (.cells #[.int .i64 n] 3)).alloc (.cells #[.func (.func 41) #[.pointer (some ⟨p, 0, none⟩)] #[]] 71)) p (armP S n) (armP S n).1 w' → WR T w p (armP S n) (.returned (.int .i64 (armP S n).1)) w' := fun w' h => by
      obtain ⟨h1, h2, h3⟩ := h.back hbel hT
      exact ⟨rfl, h2, h3⟩
    have hlive : ∀ k, T k → k < (((w.alloc (.cells #[.pointer (some ⟨p, 0, none⟩)] 24)).alloc (.cells #[.int .i64 n] 3)).alloc (.cells #[.func (.func 41) #[.pointer (some ⟨p, 0, none⟩)] #[]] 71)).heap.size := fun k hk => Nat.lt_of_lt_of_le (hT k hk) hbel.size
    refine Calls.mono (call_any p S.n (w.heap.size + 1 + 1) _ _ [.func (.func 41) #[.pointer (some ⟨p, 0, none⟩)] #[]] _ (fun k w' => k = (armP S n).1 ∧ WR T w p (armP S n) (.returned (.int .i64 (armP S n).1)) w') hv.cnt (by omega) (RF.one _ _ _ (by simp)) ⟨41, #[.pointer (some ⟨p, 0, none⟩)], #[], rfl, ent45, Calls.mono (runs_any p S.down _ hv.dn) ?_⟩) ?_
    · rintro e w' ⟨rfl, rfl⟩
      by_cases hdn : S.down = true
      · have hA : armP S n = (9, S) := by unfold armP; rw [if_pos hdn]
        rw [hA] at hW ⊢
        exact ⟨9, by rw [if_pos hdn], rfl, fun _ => ⟨rfl, hW _ (WQ.same ⟨V, hv⟩ (Kp.refl _ _) hlive)⟩, fun h => by cases h⟩
      · have hA : armP S n = (0, { S with fuse := max n (-1) }) := by unfold armP; rw [if_neg hdn]
        rw [hA] at hW ⊢
        refine ⟨0, by rw [if_neg hdn], rfl, fun h => absurd rfl h, fun _ => ?_⟩
        refine ⟨40, #[], #[.pointer (some ⟨w.heap.size + 1, 0, none⟩), .pointer (some ⟨w.heap.size, 0, none⟩)], rfl, ent44, Calls.mono (arm1_any p _ _ n S.fuse _ c1 c0 (hv.frozen _) hv.fu) ?_⟩
        rintro e w' ⟨rfl, rfl⟩
        exact ⟨rfl, rfl, hW _ (WQ.same ⟨V, hv.setFuse _⟩ ((Kp.refl _ _).set _ _ hv.own) hlive)⟩
    · rintro e w' ⟨k, rfl, rfl, h⟩
      exact h
  generalize armP S n = res at *
  have hmf : ∀ (fn : Fn) (first cap : Array Value) (w : World), (Instr.makeFunc fn first cap).run Try.prog w = .ok (.func fn first cap) w := fun _ _ _ _ => rfl
  clear hd hd2 hbel c0 c1
  go_enter Try.func17, Try.ntmps17
  go_wp2_with (first | (go_at_call 27; refine Calls.mono HC.out ?_; rintro e w2 ⟨rfl, h1, h2⟩))
  go_ret
  exact ⟨rfl, h1, h2⟩
end Go.Proofs.Ytijkgdbabikojaa.Dk

/- The walks over bytes.Clone and what disk.Synced and Read hand on. -/
namespace Go.Proofs.Ytijkgdbabikojaa.Dk
set_option maxRecDepth 1000000
open Go.RowKit
set_option linter.unusedVariables false

theorem ent37 : Ent 38 := fun args w => by kernel_rfl
theorem ent34 : Ent 28 := fun args w => by kernel_rfl

theorem wpList_append_run {P : Program} {w : World} {ops : Array Oper} {rest : List Oper} {o : Oper} {a : Act} {Q : Exit → Act → World → Prop} (hgd : o.guard = none) (s x : Operand) (t : TypeId)
    (ho : o.op = .call { callee := .builtin .append, args := #[s, x], argTypes := #[t, t] }) (d : Tmp) (hdst : o.dst = some d) (v xv v' : Value) (w' : World) (hs : a.eval s = v) (hx : a.eval x = xv)
    (hrun : (Builtin.append_ #[t, t] o.type #[v, xv]).run P w = .ok v' w') (h : wpList P ops Q rest (a.put (some d) v') w') : wpList P ops Q (o :: rest) a w := by
  refine wpList_plain hgd fun K hK => ?_
  unfold Oper.wp
  simp [execOp, ho, resolve, invoke, builtin, hs, hx, hrun, Result.andThen]
  rw [← hdst] at h
  exact hK _ _ h

theorem RB.nil_of {w : World} {n c : Nat} {l : List UInt8} (h : RB w (.slice none n c) l) : l = [] ∧ n = 0 ∧ c = 0 := by
  obtain ⟨a, cap, he, _, _, h3, hr⟩ := h
  simp only [Value.slice.injEq] at he
  obtain ⟨rfl, rfl, rfl⟩ := he
  have hl0 : l = [] := by
    cases l with
    | nil => rfl
    | cons x l =>
      obtain ⟨b, off, h9, _⟩ := hr 0 (by simp)
      cases h9
  subst hl0
  exact ⟨rfl, rfl, h3 rfl⟩

set_option maxRecDepth 1000000 in
set_option maxHeartbeats 1000000 in
theorem clone_any (x : Value) (l : List UInt8) (w : World) (hx : RB w x l) (hl : l.length ≤ 10000000) :
    Calls Try.prog 29 #[x] w fun e w' => ∃ v, e = .returned v ∧ w'.ownsRow 0 5 1 v l.length (bvs l) ∧ Below w.heap.size w w' ∧ (∀ g, v.ownBlock = some g → w.heap.size ≤ g) := by
  have hx0 := hx
  obtain ⟨a, cap, rfl, _, _, h3, hr⟩ := hx0
  cases a with
  | none =>
    obtain ⟨rfl, _, rfl⟩ := hx.nil_of
    have hE : ∀ w, (binOp .eql 30 (.slice none 0 0) (.slice none 0 0)).run Try.prog w = .ok (.bool true) w := fun w => Lib.run_eql_slice_nil w 30 5 none 0 0 0 0 Try.underlying30
    clear hr h3 hx
    go_enter Try.func29, Try.ntmps29
    go_wp2_with fail
    go_ret
    exact ⟨_, rfl, World.ownsRow_nil _ _ _ _, Below.refl _ _, fun g h => by cases h⟩
  | some ad =>
    have hE : ∀ w, (binOp .eql 30 (.slice (some ad) l.length cap) (.slice none 0 0)).run Try.prog w = .ok (.bool false) w := fun w => Lib.run_eql_slice_nil w 30 5 (some ad) l.length cap 0 0 Try.underlying30
    have hb : Below w.heap.size w (w.alloc (.cells #[] 5)) := (Below.refl _ _).alloc (Nat.le_refl _) _
    have hown : (w.alloc (.cells #[] 5)).ownsRow 0 5 1 (.slice (some ⟨w.heap.size, 0, none⟩) 0 0) ([] : List UInt8).length (bvs []) := World.ownsRow_made w #[] 0 (Nat.zero_le _) (Nat.zero_le _) rfl
    obtain ⟨v', w', h1, h2, h4, h5⟩ := run_append_b _ 30 _ _ [] l hown (hx.later hb) (by simp) hl
    obtain ⟨a2, c2, rfl, _, _, _⟩ := owns_slice h2
    have HR : Hid _ := h1
    have H2 : Hid (w'.ownsRow 0 5 1 (.slice a2 l.length c2) l.length (bvs l)) := h2
    have HB : Hid (Below w.heap.size w w') := hb.grown h4 (by simp) (fun k hk => by simp [Value.ownBlock] at hk; omega)
    have HF : Hid (∀ g, (Value.slice a2 l.length c2).ownBlock = some g → w.heap.size ≤ g) := fun g hg => by
      rcases h5 with h | h
      · have := (hg.symm.trans h); simp [Value.ownBlock] at this; omega
      · have := (hg.symm.trans h); simp at this; omega
    clear hr h3 hx hb hown h1 h2 h4 h5
    go_enter Try.func29, Try.ntmps29
    go_wp2_with (at_builtin; refine wpList_append_run rfl _ _ 30 rfl 7 rfl _ _ _ _ rfl rfl HR.out ?_)
    go_ret
    exact ⟨_, rfl, H2.out, HB.out, HF.out⟩

set_option maxRecDepth 1000000 in
set_option maxHeartbeats 1000000 in
theorem synced1_any (p b0 b1 b2 i s : Nat) (y : Int) (w : World) (hi : i < 65) (h0 : w.cell? ⟨b0, 0, none⟩ = some (.pointer (some ⟨p, 0, none⟩))) (h1 : w.cell? ⟨b1, 0, none⟩ = some (.int .i64 i)) (h2 : w.cell? ⟨b2, 0, none⟩ = some (.int .i64 y)) (hf : w.frozen? ⟨b2, 0, none⟩ = false) (hc : w.cell? ⟨p, i * 2 + 1, none⟩ = some (.int .i64 s)) :
    Calls Try.prog 38 #[.pointer (some ⟨b0, 0, none⟩), .pointer (some ⟨b1, 0, none⟩), .pointer (some ⟨b2, 0, none⟩)] w fun e w' => e = .returned (.tuple #[]) ∧ w' = (w.setCell ⟨b2, 0, none⟩ (.int .i64 s)).drew := by
  go_enter Try.func38, Try.ntmps38
  go_wp2_with fail
  go_region
  all_goals
    go_wp2_with fail
    go_end0
    exact ⟨rfl, rfl⟩

set_option maxRecDepth 1000000 in
set_option maxHeartbeats 1000000 in
theorem read1_any (p b0 b1 b2 i : Nat) (v : Value) (l : List UInt8) (w : World) (hi : i < 65) (h0 : w.cell? ⟨b0, 0, none⟩ = some (.pointer (some ⟨p, 0, none⟩))) (h1 : w.cell? ⟨b1, 0, none⟩ = some (.int .i64 i)) (h2 : w.cell? ⟨b2, 0, none⟩ = some (.slice none 0 0)) (hf : w.frozen? ⟨b2, 0, none⟩ = false) (hc : w.cell? ⟨p, i * 2, none⟩ = some v) (hr : RB w v l) (hl : l.length ≤ 10000000) :
    Calls Try.prog 28 #[.pointer (some ⟨b0, 0, none⟩), .pointer (some ⟨b1, 0, none⟩), .pointer (some ⟨b2, 0, none⟩)] w fun e w' => e = .returned (.tuple #[]) ∧ ∃ w1 u, Below w.heap.size w w1 ∧ w1.ownsRow 0 5 1 u l.length (bvs l) ∧ (∀ g, u.ownBlock = some g → w.heap.size ≤ g) ∧ w' = w1.setCell ⟨b2, 0, none⟩ u := by
  have HC : Hid _ := clone_any v l w.drew (hr.later (Below.refl _ _).drew) hl
  obtain ⟨a, c, rfl, _, _, _, _⟩ := hr
  have hb2 : b2 < w.heap.size := World.block_lt_of_cell? w _ h2
  go_enter Try.func28, Try.ntmps28
  go_wp2_with fail
  go_region_with (first | (go_at_call 29; refine Calls.mono HC.out ?_; rintro e w2 ⟨u, rfl, ho2, hbl2, hg2⟩
                           obtain ⟨a2, c2, rfl, _, _, _⟩ := owns_slice ho2
                           have H2 : Hid _ := ho2
                           have HB : Hid (Below w.heap.size w w2) := (Below.refl _ _).drew.trans hbl2
                           have HG : Hid _ := hg2
                           have k2 := cell_later HB.out h2
                           have kf : w2.frozen? ⟨b2, 0, none⟩ = false := (HB.out.frozen hb2).trans hf
                           clear ho2 hbl2 hg2))
  all_goals
    go_wp2_with fail
    go_end0
    exact ⟨rfl, _, _, HB.out, H2.out, HG.out, rfl⟩
end Go.Proofs.Ytijkgdbabikojaa.Dk

/- The walks over disk.Synced and Read. -/
namespace Go.Proofs.Ytijkgdbabikojaa.Dk
set_option maxRecDepth 1000000
open Go.RowKit
set_option linter.unusedVariables false

/-- Bytes that lie from B on. -/
def RBf (B : Nat) (w : World) (v : Value) (l : List UInt8) : Prop := RB w v l ∧ ∀ a n c, v = .slice (some a) n c → B ≤ a.block
def syncedP (S : DS) (i : Int) : Nat := if hasB S i = true then (S.fs i.toNat).s else 0
def readP (S : DS) (i : Int) : List UInt8 := if hasB S i = true then (S.fs i.toNat).b else []

theorem synced_call (T : Nat → Prop) (w : World) (p : Nat) (S : DS) (i : Int) (hd : DK T w p S) (ho : Okay S) (hs : Small 10000000 1000000000000 S) (wq : World)
    (hwq : wq = ((((((w.alloc (.cells #[.pointer (some ⟨p, 0, none⟩)] 24)).alloc (.cells #[.int .i64 i] 3)).alloc (.cells #[.int .i64 0] 3)).alloc (.cells #[.pointer (some ⟨p, 0, none⟩)] 24)).alloc (.cells #[.int .i64 i] 3)).alloc (.cells #[.func (.func 59) #[] #[.pointer (some ⟨w.heap.size + 1 + 1 + 1 + 1, 0, none⟩), .pointer (some ⟨w.heap.size + 1 + 1 + 1, 0, none⟩)]] 71)).drew) :
    Calls Try.prog 27 #[.pointer (some ⟨p, 0, none⟩), .func (.func 38) #[] #[.pointer (some ⟨w.heap.size, 0, none⟩), .pointer (some ⟨w.heap.size + 1, 0, none⟩), .pointer (some ⟨w.heap.size + 1 + 1, 0, none⟩)], .slice (some ⟨w.heap.size + 1 + 1 + 1 + 1 + 1, 0, none⟩) 1 1] wq (fun e w' => (∃ k : Int, e = .returned (.int .i64 k)) ∧ Below w.heap.size w w' ∧ (w'.cell? ⟨w.heap.size, 0, none⟩ = some (.pointer (some ⟨p, 0, none⟩)) ∧ w'.cell? ⟨w.heap.size + 1, 0, none⟩ = some (.int .i64 i)) ∧ w'.cell? ⟨w.heap.size + 1 + 1, 0, none⟩ = some (.int .i64 (syncedP S i))) := by
  obtain ⟨f60, hf60⟩ : ∃ f, f = Value.func (.func 59) #[] #[.pointer (some ⟨w.heap.size + 1 + 1 + 1 + 1, 0, none⟩), .pointer (some ⟨w.heap.size + 1 + 1 + 1, 0, none⟩)] := ⟨_, rfl⟩
  rw [← hf60] at hwq
  have hbel : Below w.heap.size w wq := by rw [hwq]; exact ((alloc5 w _ _ _ _ _).alloc (by simp; omega) _).drew
  have c0 : wq.cell? ⟨w.heap.size, 0, none⟩ = some (.pointer (some ⟨p, 0, none⟩)) := by
    rw [hwq]
    show (World.alloc _ _).cell? _ = _
    rw [cell_past _ _ _ _ (by simp <;> omega), cell_past _ _ _ _ (by simp <;> omega), cell_past _ _ _ _ (by simp <;> omega), cell_past _ _ _ _ (by simp <;> omega), cell_past _ _ _ _ (by simp <;> omega), cell_alloc1 _ _ _ _ (by simp)]
  have c1 : wq.cell? ⟨w.heap.size + 1, 0, none⟩ = some (.int .i64 i) := by
    rw [hwq]
    show (World.alloc _ _).cell? _ = _
    rw [cell_past _ _ _ _ (by simp <;> omega), cell_past _ _ _ _ (by simp <;> omega), cell_past _ _ _ _ (by simp <;> omega), cell_past _ _ _ _ (by simp <;> omega), cell_alloc1 _ _ _ _ (by simp)]
  have c2 : wq.cell? ⟨w.heap.size + 1 + 1, 0, none⟩ = some (.int .i64 0) := by
    rw [hwq]
    show (World.alloc _ _).cell? _ = _
    rw [cell_past _ _ _ _ (by simp <;> omega), cell_past _ _ _ _ (by simp <;> omega), cell_past _ _ _ _ (by simp <;> omega), cell_alloc1 _ _ _ _ (by simp)]
  have c3 : wq.cell? ⟨w.heap.size + 1 + 1 + 1, 0, none⟩ = some (.pointer (some ⟨p, 0, none⟩)) := by
    rw [hwq]
    show (World.alloc _ _).cell? _ = _
    rw [cell_past _ _ _ _ (by simp <;> omega), cell_past _ _ _ _ (by simp <;> omega), cell_alloc1 _ _ _ _ (by simp)]
  have c4 : wq.cell? ⟨w.heap.size + 1 + 1 + 1 + 1, 0, none⟩ = some (.int .i64 i) := by
    rw [hwq]
    show (World.alloc _ _).cell? _ = _
    rw [cell_past _ _ _ _ (by simp <;> omega), cell_alloc1 _ _ _ _ (by simp)]
  have hz : w.heap.size + 3 ≤ wq.heap.size := by rw [hwq]; show _ ≤ (World.alloc _ _).heap.size; simp <;> omega
  have f2 : wq.frozen? ⟨w.heap.size + 1 + 1, 0, none⟩ = false := by
    rw [hwq]
    refine frozen_of_row _ _ _ #[.int .i64 0] 3 ?_
    show (World.alloc _ _).heap[w.heap.size + 1 + 1]? = _
    rw [Below.heap_alloc _ _ _ (by simp <;> omega), Below.heap_alloc _ _ _ (by simp <;> omega), Below.heap_alloc _ _ _ (by simp)]
    exact heap_new _ _ _ (by simp)
  have hrf : RF wq (w.heap.size + 1 + 1 + 1 + 1 + 1) (.slice (some ⟨w.heap.size + 1 + 1 + 1 + 1 + 1, 0, none⟩) 1 1) [f60] := by
    rw [hwq]
    exact RF.one _ _ _ (by simp)
  clear hwq
  have hd2 := hd.later hbel
  obtain ⟨V, hv⟩ := hd2
  have hpos := ho.pos
  refine Calls.mono (call_any p S.n (w.heap.size + 1 + 1 + 1 + 1 + 1) _ _ [f60] _ (fun k w' => Below w.heap.size w w' ∧ (w'.cell? ⟨w.heap.size, 0, none⟩ = some (.pointer (some ⟨p, 0, none⟩)) ∧ w'.cell? ⟨w.heap.size + 1, 0, none⟩ = some (.int .i64 i)) ∧ w'.cell? ⟨w.heap.size + 1 + 1, 0, none⟩ = some (.int .i64 (syncedP S i))) hv.cnt (by omega) hrf ⟨59, #[], #[.pointer (some ⟨w.heap.size + 1 + 1 + 1 + 1, 0, none⟩), .pointer (some ⟨w.heap.size + 1 + 1 + 1, 0, none⟩)], hf60, ent60, Calls.mono (has1_any p _ _ S.n i _ c4 c3 hv.cnt) ?_⟩) ?_
  · rintro e w' ⟨rfl, q, rfl⟩
    have hbq : Below wq.heap.size wq (wq.drewN q) := below_drewN (Below.refl _ _) q
    have hb2 : Below w.heap.size w (wq.drewN q) := hbel.trans (hbq.mono hbel.size)
    by_cases hg : 0 ≤ i ∧ i < S.n
    · have hhb : hasB S i = true := by unfold hasB; simpa using hg
      refine ⟨0, by rw [if_pos hg], rfl, fun h => absurd rfl h, fun _ => ?_⟩
      obtain ⟨k, rfl, hkn⟩ := hasB_true hhb
      have hfew := ho.few
      obtain ⟨e0, e1, e2⟩ := hv.file k (by omega)
      refine ⟨38, #[], #[.pointer (some ⟨w.heap.size, 0, none⟩), .pointer (some ⟨w.heap.size + 1, 0, none⟩), .pointer (some ⟨w.heap.size + 1 + 1, 0, none⟩)], rfl, ent37, Calls.mono (synced1_any p _ _ _ k (S.fs k).s 0 (wq.drewN q) (by omega) (cell_later hbq c0) (cell_later hbq c1) (cell_later hbq c2) f2 (cell_later hbq e1)) ?_⟩
      rintro e w' ⟨rfl, rfl⟩
      refine ⟨rfl, (hb2.setCell (by show _ ≤ w.heap.size + 1 + 1; omega) _).drew, ⟨?_, ?_⟩, ?_⟩
      · show (World.setCell _ _ _).cell? _ = _
        rw [World.cell?_setCell_far _ _ _ _ (by show w.heap.size + 1 + 1 ≠ w.heap.size; omega)]
        exact c0
      · show (World.setCell _ _ _).cell? _ = _
        rw [World.cell?_setCell_far _ _ _ _ (by show w.heap.size + 1 + 1 ≠ w.heap.size + 1; omega)]
        exact c1
      · unfold syncedP
        rw [hhb]
        exact set_same _ c2
    · have hhb : hasB S i = false := by unfold hasB; simpa using hg
      refine ⟨2, by rw [if_neg hg], rfl, fun _ => ⟨hb2, ⟨cell_later hbq c0, cell_later hbq c1⟩, ?_⟩, fun h => by cases h⟩
      unfold syncedP
      rw [hhb]
      exact cell_later hbq c2
  · rintro e w' ⟨k, rfl, h⟩
    exact ⟨⟨k, rfl⟩, h⟩

set_option maxRecDepth 1000000 in
set_option maxHeartbeats 1000000 in
theorem synced_any (T : Nat → Prop) (w : World) (p : Nat) (S : DS) (i : Int) (hd : DK T w p S) (ho : Okay S) (hs : Small 10000000 1000000000000 S) :
    Calls Try.prog 15 #[.pointer (some ⟨p, 0, none⟩), .int .i64 i] w fun e w' => e = .returned (.int .i64 (syncedP S i)) ∧ Below w.heap.size w w' := by
  have HC : Hid _ := synced_call T w p S i hd ho hs _ rfl
  have HK : Hid (∀ w1 w2 : World, (w1.cell? ⟨w.heap.size, 0, none⟩ = some (.pointer (some ⟨p, 0, none⟩)) ∧ w1.cell? ⟨w.heap.size + 1, 0, none⟩ = some (.int .i64 i)) → Below w1.heap.size w1 w2 → (w2.cell? ⟨w.heap.size, 0, none⟩ = some (.pointer (some ⟨p, 0, none⟩)) ∧ w2.cell? ⟨w.heap.size + 1, 0, none⟩ = some (.int .i64 i))) := fun w1 w2 h hb => ⟨cell_later hb h.1, cell_later hb h.2⟩
  have HS0 : Hid ((((w.alloc (.cells #[.pointer (some ⟨p, 0, none⟩)] 24)).alloc (.cells #[.int .i64 i] 3)).alloc (.cells #[.int .i64 0] 3)).drew.cell? ⟨w.heap.size, 0, none⟩ = some (.pointer (some ⟨p, 0, none⟩)) ∧ (((w.alloc (.cells #[.pointer (some ⟨p, 0, none⟩)] 24)).alloc (.cells #[.int .i64 i] 3)).alloc (.cells #[.int .i64 0] 3)).drew.cell? ⟨w.heap.size + 1, 0, none⟩ = some (.int .i64 i)) := by
    refine ⟨?_, ?_⟩
    · show (World.alloc _ _).cell? _ = _
      rw [cell_past _ _ _ _ (by simp <;> omega), cell_past _ _ _ _ (by simp <;> omega), cell_alloc1 _ _ _ _ (by simp)]
    · show (World.alloc _ _).cell? _ = _
      rw [cell_past _ _ _ _ (by simp <;> omega), cell_alloc1 _ _ _ _ (by simp)]
  have hmf : ∀ (fn : Fn) (first cap : Array Value) (w : World), (Instr.makeFunc fn first cap).run Try.prog w = .ok (.func fn first cap) w := fun _ _ _ _ => rfl
  obtain ⟨R, HR⟩ : ∃ R, Hid (R = syncedP S i) := ⟨_, rfl⟩
  rw [← HR.out] at HC ⊢
  clear hd HR
  go_enter Try.func15, Try.ntmps15
  go_wp2_with fail
  go_region_held_law (fun w' => (w'.cell? ⟨w.heap.size, 0, none⟩ = some (.pointer (some ⟨p, 0, none⟩)) ∧ w'.cell? ⟨w.heap.size + 1, 0, none⟩ = some (.int .i64 i))) (first | assumption | exact HS0.out | exact hs9 | exact HK.out _ _ ‹_› (alloc2 _ _ _) | exact HK.out _ _ ‹_› ((Below.refl _ _).alloc (Nat.le_refl _) _)) (first
    | (go_simp; go_at_call 30; refine Calls.mono (has_any _ _ _) ?_; rintro e w2 ⟨rfl, rfl⟩)
    | (go_simp; go_at_call 27; refine Calls.mono HC.out ?_; rintro e w2 ⟨⟨k9, rfl⟩, hb9, hs9, hr9⟩))
  all_goals
    go_wp2_with fail
    go_ret
    exact ⟨rfl, hb9⟩

theorem read_call (T : Nat → Prop) (w : World) (p : Nat) (S : DS) (i : Int) (hd : DK T w p S) (ho : Okay S) (hs : Small 10000000 1000000000000 S) (wq : World)
    (hwq : wq = ((((((w.alloc (.cells #[.pointer (some ⟨p, 0, none⟩)] 24)).alloc (.cells #[.int .i64 i] 3)).alloc (.cells #[.slice none 0 0] 30)).alloc (.cells #[.pointer (some ⟨p, 0, none⟩)] 24)).alloc (.cells #[.int .i64 i] 3)).alloc (.cells #[.func (.func 59) #[] #[.pointer (some ⟨w.heap.size + 1 + 1 + 1 + 1, 0, none⟩), .pointer (some ⟨w.heap.size + 1 + 1 + 1, 0, none⟩)]] 71)).drew) :
    Calls Try.prog 27 #[.pointer (some ⟨p, 0, none⟩), .func (.func 28) #[] #[.pointer (some ⟨w.heap.size, 0, none⟩), .pointer (some ⟨w.heap.size + 1, 0, none⟩), .pointer (some ⟨w.heap.size + 1 + 1, 0, none⟩)], .slice (some ⟨w.heap.size + 1 + 1 + 1 + 1 + 1, 0, none⟩) 1 1] wq (fun e w' => (∃ k : Int, e = .returned (.int .i64 k)) ∧ Below w.heap.size w w' ∧ (w'.cell? ⟨w.heap.size, 0, none⟩ = some (.pointer (some ⟨p, 0, none⟩)) ∧ w'.cell? ⟨w.heap.size + 1, 0, none⟩ = some (.int .i64 i)) ∧ ∃ u, w'.cell? ⟨w.heap.size + 1 + 1, 0, none⟩ = some u ∧ RBf w.heap.size w' u (readP S i)) := by
  obtain ⟨f60, hf60⟩ : ∃ f, f = Value.func (.func 59) #[] #[.pointer (some ⟨w.heap.size + 1 + 1 + 1 + 1, 0, none⟩), .pointer (some ⟨w.heap.size + 1 + 1 + 1, 0, none⟩)] := ⟨_, rfl⟩
  rw [← hf60] at hwq
  have hbel : Below w.heap.size w wq := by rw [hwq]; exact ((alloc5 w _ _ _ _ _).alloc (by simp; omega) _).drew
  have c0 : wq.cell? ⟨w.heap.size, 0, none⟩ = some (.pointer (some ⟨p, 0, none⟩)) := by
    rw [hwq]
    show (World.alloc _ _).cell? _ = _
    rw [cell_past _ _ _ _ (by simp <;> omega), cell_past _ _ _ _ (by simp <;> omega), cell_past _ _ _ _ (by simp <;> omega), cell_past _ _ _ _ (by simp <;> omega), cell_past _ _ _ _ (by simp <;> omega), cell_alloc1 _ _ _ _ (by simp)]
  have c1 : wq.cell? ⟨w.heap.size + 1, 0, none⟩ = some (.int .i64 i) := by
    rw [hwq]
    show (World.alloc _ _).cell? _ = _
    rw [cell_past _ _ _ _ (by simp <;> omega), cell_past _ _ _ _ (by simp <;> omega), cell_past _ _ _ _ (by simp <;> omega), cell_past _ _ _ _ (by simp <;> omega), cell_alloc1 _ _ _ _ (by simp)]
  have c2 : wq.cell? ⟨w.heap.size + 1 + 1, 0, none⟩ = some (.slice none 0 0) := by
    rw [hwq]
    show (World.alloc _ _).cell? _ = _
    rw [cell_past _ _ _ _ (by simp <;> omega), cell_past _ _ _ _ (by simp <;> omega), cell_past _ _ _ _ (by simp <;> omega), cell_alloc1 _ _ _ _ (by simp)]
  have c3 : wq.cell? ⟨w.heap.size + 1 + 1 + 1, 0, none⟩ = some (.pointer (some ⟨p, 0, none⟩)) := by
    rw [hwq]
    show (World.alloc _ _).cell? _ = _
    rw [cell_past _ _ _ _ (by simp <;> omega), cell_past _ _ _ _ (by simp <;> omega), cell_alloc1 _ _ _ _ (by simp)]
  have c4 : wq.cell? ⟨w.heap.size + 1 + 1 + 1 + 1, 0, none⟩ = some (.int .i64 i) := by
    rw [hwq]
    show (World.alloc _ _).cell? _ = _
    rw [cell_past _ _ _ _ (by simp <;> omega), cell_alloc1 _ _ _ _ (by simp)]
  have hz : w.heap.size + 3 ≤ wq.heap.size := by rw [hwq]; show _ ≤ (World.alloc _ _).heap.size; simp <;> omega
  have f2 : wq.frozen? ⟨w.heap.size + 1 + 1, 0, none⟩ = false := by
    rw [hwq]
    refine frozen_of_row _ _ _ #[.slice none 0 0] 30 ?_
    show (World.alloc _ _).heap[w.heap.size + 1 + 1]? = _
    rw [Below.heap_alloc _ _ _ (by simp <;> omega), Below.heap_alloc _ _ _ (by simp <;> omega), Below.heap_alloc _ _ _ (by simp)]
    exact heap_new _ _ _ (by simp)
  have hrf : RF wq (w.heap.size + 1 + 1 + 1 + 1 + 1) (.slice (some ⟨w.heap.size + 1 + 1 + 1 + 1 + 1, 0, none⟩) 1 1) [f60] := by
    rw [hwq]
    exact RF.one _ _ _ (by simp)
  clear hwq
  have hd2 := hd.later hbel
  obtain ⟨V, hv⟩ := hd2
  have hpos := ho.pos
  refine Calls.mono (call_any p S.n (w.heap.size + 1 + 1 + 1 + 1 + 1) _ _ [f60] _ (fun k w' => Below w.heap.size w w' ∧ (w'.cell? ⟨w.heap.size, 0, none⟩ = some (.pointer (some ⟨p, 0, none⟩)) ∧ w'.cell? ⟨w.heap.size + 1, 0, none⟩ = some (.int .i64 i)) ∧ ∃ u, w'.cell? ⟨w.heap.size + 1 + 1, 0, none⟩ = some u ∧ RBf w.heap.size w' u (readP S i)) hv.cnt (by omega) hrf ⟨59, #[], #[.pointer (some ⟨w.heap.size + 1 + 1 + 1 + 1, 0, none⟩), .pointer (some ⟨w.heap.size + 1 + 1 + 1, 0, none⟩)], hf60, ent60, Calls.mono (has1_any p _ _ S.n i _ c4 c3 hv.cnt) ?_⟩) ?_
  · rintro e w' ⟨rfl, q, rfl⟩
    have hbq : Below wq.heap.size wq (wq.drewN q) := below_drewN (Below.refl _ _) q
    have hb2 : Below w.heap.size w (wq.drewN q) := hbel.trans (hbq.mono hbel.size)
    by_cases hg : 0 ≤ i ∧ i < S.n
    · have hhb : hasB S i = true := by unfold hasB; simpa using hg
      refine ⟨0, by rw [if_pos hg], rfl, fun h => absurd rfl h, fun _ => ?_⟩
      obtain ⟨k, rfl, hkn⟩ := hasB_true hhb
      have hfew := ho.few
      obtain ⟨e0, e1, e2⟩ := hv.file k (by omega)
      refine ⟨28, #[], #[.pointer (some ⟨w.heap.size, 0, none⟩), .pointer (some ⟨w.heap.size + 1, 0, none⟩), .pointer (some ⟨w.heap.size + 1 + 1, 0, none⟩)], rfl, ent34, Calls.mono (read1_any p _ _ _ k (V k) (S.fs k).b (wq.drewN q) (by omega) (cell_later hbq c0) (cell_later hbq c1) (cell_later hbq c2) f2 (cell_later hbq e0) ((RB.of_owns e2 rfl).later hbq) (hs.len k)) ?_⟩
      rintro e w' ⟨rfl, w1, u, hb1, ho1, hg1, rfl⟩
      have hz1 : wq.heap.size ≤ w1.heap.size := hb1.size
      have hbb : Below w.heap.size w w1 := hb2.trans (hb1.mono (by show _ ≤ wq.heap.size; omega))
      refine ⟨rfl, hbb.setCell (by show _ ≤ w.heap.size + 1 + 1; omega) _, ⟨?_, ?_⟩, ?_⟩
      · rw [World.cell?_setCell_far _ _ _ _ (by show w.heap.size + 1 + 1 ≠ w.heap.size; omega)]
        exact cell_later hb1 (cell_later hbq c0)
      · rw [World.cell?_setCell_far _ _ _ _ (by show w.heap.size + 1 + 1 ≠ w.heap.size + 1; omega)]
        exact cell_later hb1 (cell_later hbq c1)
      · unfold readP
        rw [hhb]
        refine ⟨u, set_same _ (cell_later hb1 (cell_later hbq c2)), ?_⟩
        exact ⟨RB.of_owns (owns_kept (T := fun k => k = w.heap.size + 1 + 1) ((Kp.refl _ _).set _ _ rfl) ho1 (fun g hg => by have : wq.heap.size ≤ g := hg1 g hg; omega)) rfl, fun a n c he => by
          subst he
          rcases ho1.2 with ⟨he, _⟩ | ⟨g, cap, cur, he, _⟩
          · cases he
          · cases he
            have : wq.heap.size ≤ g := hg1 g rfl
            show w.heap.size ≤ g
            omega⟩
    · have hhb : hasB S i = false := by unfold hasB; simpa using hg
      refine ⟨2, by rw [if_neg hg], rfl, fun _ => ⟨hb2, ⟨cell_later hbq c0, cell_later hbq c1⟩, ?_⟩, fun h => by cases h⟩
      unfold readP
      rw [hhb]
      exact ⟨_, cell_later hbq c2, RB.nil _, fun _ _ _ h => by cases h⟩
  · rintro e w' ⟨k, rfl, h⟩
    exact ⟨⟨k, rfl⟩, h⟩

set_option maxRecDepth 1000000 in
set_option maxHeartbeats 1000000 in
theorem read_any (T : Nat → Prop) (w : World) (p : Nat) (S : DS) (i : Int) (hd : DK T w p S) (ho : Okay S) (hs : Small 10000000 1000000000000 S) :
    Calls Try.prog 11 #[.pointer (some ⟨p, 0, none⟩), .int .i64 i] w fun e w' => (∃ v, e = .returned v ∧ RBf w.heap.size w' v (readP S i)) ∧ Below w.heap.size w w' := by
  have HC : Hid _ := read_call T w p S i hd ho hs _ rfl
  have HK : Hid (∀ w1 w2 : World, (w1.cell? ⟨w.heap.size, 0, none⟩ = some (.pointer (some ⟨p, 0, none⟩)) ∧ w1.cell? ⟨w.heap.size + 1, 0, none⟩ = some (.int .i64 i)) → Below w1.heap.size w1 w2 → (w2.cell? ⟨w.heap.size, 0, none⟩ = some (.pointer (some ⟨p, 0, none⟩)) ∧ w2.cell? ⟨w.heap.size + 1, 0, none⟩ = some (.int .i64 i))) := fun w1 w2 h hb => ⟨cell_later hb h.1, cell_later hb h.2⟩
  have HS0 : Hid ((((w.alloc (.cells #[.pointer (some ⟨p, 0, none⟩)] 24)).alloc (.cells #[.int .i64 i] 3)).alloc (.cells #[.slice none 0 0] 30)).drew.cell? ⟨w.heap.size, 0, none⟩ = some (.pointer (some ⟨p, 0, none⟩)) ∧ (((w.alloc (.cells #[.pointer (some ⟨p, 0, none⟩)] 24)).alloc (.cells #[.int .i64 i] 3)).alloc (.cells #[.slice none 0 0] 30)).drew.cell? ⟨w.heap.size + 1, 0, none⟩ = some (.int .i64 i)) := by
    refine ⟨?_, ?_⟩
    · show (World.alloc _ _).cell? _ = _
      rw [cell_past _ _ _ _ (by simp <;> omega), cell_past _ _ _ _ (by simp <;> omega), cell_alloc1 _ _ _ _ (by simp)]
    · show (World.alloc _ _).cell? _ = _
      rw [cell_past _ _ _ _ (by simp <;> omega), cell_alloc1 _ _ _ _ (by simp)]
  have hmf : ∀ (fn : Fn) (first cap : Array Value) (w : World), (Instr.makeFunc fn first cap).run Try.prog w = .ok (.func fn first cap) w := fun _ _ _ _ => rfl
  obtain ⟨R, HR⟩ : ∃ R, Hid (R = readP S i) := ⟨_, rfl⟩
  rw [← HR.out] at HC ⊢
  clear hd HR
  go_enter Try.func11, Try.ntmps11
  go_wp2_with fail
  go_region_held_law (fun w' => (w'.cell? ⟨w.heap.size, 0, none⟩ = some (.pointer (some ⟨p, 0, none⟩)) ∧ w'.cell? ⟨w.heap.size + 1, 0, none⟩ = some (.int .i64 i))) (first | assumption | exact HS0.out | exact hs9 | exact HK.out _ _ ‹_› (alloc2 _ _ _) | exact HK.out _ _ ‹_› ((Below.refl _ _).alloc (Nat.le_refl _) _)) (first
    | (go_simp; go_at_call 30; refine Calls.mono (has_any _ _ _) ?_; rintro e w2 ⟨rfl, rfl⟩)
    | (go_simp; go_at_call 27; refine Calls.mono HC.out ?_; rintro e w2 ⟨⟨k9, rfl⟩, hb9, hs9, u9, hc9, hr9⟩; obtain ⟨a9, n9, rfl, _, _, _, _⟩ := id hr9.1; have HR9 : Hid _ := hr9; clear hr9))
  all_goals
    go_wp2_with fail
    go_ret
    exact ⟨⟨_, rfl, HR9.out⟩, hb9⟩

end Go.Proofs.Ytijkgdbabikojaa.Dk

