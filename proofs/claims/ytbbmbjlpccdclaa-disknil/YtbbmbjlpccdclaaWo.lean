/- The walks over bytes.Clone and what disk.Synced and Read hand on. -/
import Derived.Test.YtbbmbjlpccdclaaWn
namespace Go.Proofs.Ytbbmbjlpccdclaa
open Go.RowKit
set_option linter.unusedVariables false

theorem ent37 : Ent 37 := fun args w => by kernel_rfl
theorem ent34 : Ent 34 := fun args w => by kernel_rfl

theorem wpList_append_run {P : Program} {w : World} {ops : Array Oper} {rest : List Oper} {o : Oper} {a : Act} {Q : Exit → Act → World → Prop} (hgd : o.guard = none) (s x : Operand) (t : TypeId)
    (ho : o.op = .call { callee := .builtin .append, args := #[s, x], argTypes := #[t, t] }) (d : Tmp) (hdst : o.dst = some d) (v xv v' : Value) (w' : World) (hs : a.eval s = v) (hx : a.eval x = xv)
    (hrun : (Builtin.append_ #[t, t] o.type #[v, xv]).run P w = .ok v' w') (h : wpList P ops Q rest (a.put (some d) v') w') : wpList P ops Q (o :: rest) a w := by
  refine wpList_plain hgd fun K hK => ?_
  unfold Oper.wp
  simp [execOp, ho, resolve, invoke, builtin, hs, hx, hrun, Result.andThen]
  rw [← hdst] at h
  exact hK _ _ h

theorem RB.nil_of {w : World} {n c : Nat} {l : List UInt8} (h : RB w (.slice none n c) l) : l = [] ∧ n = 0 ∧ c = 0 := by
  obtain ⟨a, cap, he, _, _, h3, hr⟩ := h
  simp only [Value.slice.injEq] at he
  obtain ⟨rfl, rfl, rfl⟩ := he
  have hl0 : l = [] := by
    cases l with
    | nil => rfl
    | cons x l =>
      obtain ⟨b, off, h9, _⟩ := hr 0 (by simp)
      cases h9
  subst hl0
  exact ⟨rfl, rfl, h3 rfl⟩

set_option maxRecDepth 1000000 in
set_option maxHeartbeats 1000000 in
theorem clone_any (x : Value) (l : List UInt8) (w : World) (hx : RB w x l) (hl : l.length ≤ 10000000) :
    Calls Try.prog 35 #[x] w fun e w' => ∃ v, e = .returned v ∧ w'.ownsRow 0 5 1 v l.length (bvs l) ∧ Below w.heap.size w w' ∧ (∀ g, v.ownBlock = some g → w.heap.size ≤ g) := by
  have hx0 := hx
  obtain ⟨a, cap, rfl, _, _, h3, hr⟩ := hx0
  cases a with
  | none =>
    obtain ⟨rfl, _, rfl⟩ := hx.nil_of
    have hE : ∀ w, (binOp .eql 33 (.slice none 0 0) (.slice none 0 0)).run Try.prog w = .ok (.bool true) w := fun w => Lib.run_eql_slice_nil w 33 5 none 0 0 0 0 Try.underlying33
    clear hr h3 hx
    go_enter Try.func35, Try.ntmps35
    go_wp2_with fail
    go_ret
    exact ⟨_, rfl, World.ownsRow_nil _ _ _ _, Below.refl _ _, fun g h => by cases h⟩
  | some ad =>
    have hE : ∀ w, (binOp .eql 33 (.slice (some ad) l.length cap) (.slice none 0 0)).run Try.prog w = .ok (.bool false) w := fun w => Lib.run_eql_slice_nil w 33 5 (some ad) l.length cap 0 0 Try.underlying33
    have hb : Below w.heap.size w (w.alloc (.cells #[] 5)) := (Below.refl _ _).alloc (Nat.le_refl _) _
    have hown : (w.alloc (.cells #[] 5)).ownsRow 0 5 1 (.slice (some ⟨w.heap.size, 0, none⟩) 0 0) ([] : List UInt8).length (bvs []) := World.ownsRow_made w #[] 0 (Nat.zero_le _) (Nat.zero_le _) rfl
    obtain ⟨v', w', h1, h2, h4, h5⟩ := run_append_b _ 33 _ _ [] l hown (hx.later hb) (by simp) hl
    obtain ⟨a2, c2, rfl, _, _, _⟩ := owns_slice h2
    have HR : Hid _ := h1
    have H2 : Hid (w'.ownsRow 0 5 1 (.slice a2 l.length c2) l.length (bvs l)) := h2
    have HB : Hid (Below w.heap.size w w') := hb.grown h4 (by simp) (fun k hk => by simp [Value.ownBlock] at hk; omega)
    have HF : Hid (∀ g, (Value.slice a2 l.length c2).ownBlock = some g → w.heap.size ≤ g) := fun g hg => by
      rcases h5 with h | h
      · have := (hg.symm.trans h); simp [Value.ownBlock] at this; omega
      · have := (hg.symm.trans h); simp at this; omega
    clear hr h3 hx hb hown h1 h2 h4 h5
    go_enter Try.func35, Try.ntmps35
    go_wp2_with (at_builtin; refine wpList_append_run rfl _ _ 33 rfl 7 rfl _ _ _ _ rfl rfl HR.out ?_)
    go_ret
    exact ⟨_, rfl, H2.out, HB.out, HF.out⟩

set_option maxRecDepth 1000000 in
set_option maxHeartbeats 1000000 in
theorem synced1_any (p b0 b1 b2 i s : Nat) (y : Int) (w : World) (hi : i < 65) (h0 : w.cell? ⟨b0, 0, none⟩ = some (.pointer (some ⟨p, 0, none⟩))) (h1 : w.cell? ⟨b1, 0, none⟩ = some (.int .i64 i)) (h2 : w.cell? ⟨b2, 0, none⟩ = some (.int .i64 y)) (hf : w.frozen? ⟨b2, 0, none⟩ = false) (hc : w.cell? ⟨p, i * 2 + 1, none⟩ = some (.int .i64 s)) :
    Calls Try.prog 37 #[.pointer (some ⟨b0, 0, none⟩), .pointer (some ⟨b1, 0, none⟩), .pointer (some ⟨b2, 0, none⟩)] w fun e w' => e = .returned (.tuple #[]) ∧ w' = (w.setCell ⟨b2, 0, none⟩ (.int .i64 s)).drew := by
  go_enter Try.func37, Try.ntmps37
  go_wp2_with fail
  go_region
  all_goals
    go_wp2_with fail
    go_end0
    exact ⟨rfl, rfl⟩

set_option maxRecDepth 1000000 in
set_option maxHeartbeats 1000000 in
theorem read1_any (p b0 b1 b2 i : Nat) (v : Value) (l : List UInt8) (w : World) (hi : i < 65) (h0 : w.cell? ⟨b0, 0, none⟩ = some (.pointer (some ⟨p, 0, none⟩))) (h1 : w.cell? ⟨b1, 0, none⟩ = some (.int .i64 i)) (h2 : w.cell? ⟨b2, 0, none⟩ = some (.slice none 0 0)) (hf : w.frozen? ⟨b2, 0, none⟩ = false) (hc : w.cell? ⟨p, i * 2, none⟩ = some v) (hr : RB w v l) (hl : l.length ≤ 10000000) :
    Calls Try.prog 34 #[.pointer (some ⟨b0, 0, none⟩), .pointer (some ⟨b1, 0, none⟩), .pointer (some ⟨b2, 0, none⟩)] w fun e w' => e = .returned (.tuple #[]) ∧ ∃ w1 u, Below w.heap.size w w1 ∧ w1.ownsRow 0 5 1 u l.length (bvs l) ∧ (∀ g, u.ownBlock = some g → w.heap.size ≤ g) ∧ w' = w1.setCell ⟨b2, 0, none⟩ u := by
  have HC : Hid _ := clone_any v l w.drew (hr.later (Below.refl _ _).drew) hl
  obtain ⟨a, c, rfl, _, _, _, _⟩ := hr
  have hb2 : b2 < w.heap.size := World.block_lt_of_cell? w _ h2
  go_enter Try.func34, Try.ntmps34
  go_wp2_with fail
  go_region_with (first | (go_at_call 35; refine Calls.mono HC.out ?_; rintro e w2 ⟨u, rfl, ho2, hbl2, hg2⟩
                           obtain ⟨a2, c2, rfl, _, _, _⟩ := owns_slice ho2
                           have H2 : Hid _ := ho2
                           have HB : Hid (Below w.heap.size w w2) := (Below.refl _ _).drew.trans hbl2
                           have HG : Hid _ := hg2
                           have k2 := cell_later HB.out h2
                           have kf : w2.frozen? ⟨b2, 0, none⟩ = false := (HB.out.frozen hb2).trans hf
                           clear ho2 hbl2 hg2))
  all_goals
    go_wp2_with fail
    go_end0
    exact ⟨rfl, _, _, HB.out, H2.out, HG.out, rfl⟩
end Go.Proofs.Ytbbmbjlpccdclaa
