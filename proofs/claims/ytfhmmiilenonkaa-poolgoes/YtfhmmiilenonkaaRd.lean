/- The walks over the program's call, New, Len, Push. -/
import Derived.Test.YtfhmmiilenonkaaRc
import Derived.Shelf.Abstract
namespace Go.Proofs.Ytfhmmiilenonkaa

open Go.RowKit

set_option maxRecDepth 1000000

set_option linter.unusedVariables false

/-- A function that has a body is entered. -/
def Ent (g : Nat) : Prop := ∀ args w, (callFunc g args).run Try.prog w = .ok (.enter g args) w

theorem ent63 : Ent 63 := fun args w => by kernel_rfl

theorem ent59 : Ent 59 := fun args w => by kernel_rfl

theorem ent57 : Ent 57 := fun args w => by kernel_rfl

theorem ent70 : Ent 70 := fun args w => by kernel_rfl

theorem ent65 : Ent 65 := fun args w => by kernel_rfl

theorem ent60 : Ent 60 := fun args w => by kernel_rfl

theorem ent69 : Ent 69 := fun args w => by kernel_rfl

/-- No deque, or one that nothing made. -/
def NoDq (w : World) (v : Value) : Prop := v = .pointer none ∨ ∃ p sv, v = .pointer (some ⟨p, 0, none⟩) ∧ w.heap[p]? = some (.cells #[.bool false, sv] 93 (0, 0))

theorem NoDq.later {w w' : World} {v : Value} (h : NoDq w v) (hb : Below w.heap.size w w') : NoDq w' v := by
  rcases h with h | ⟨p, sv, h1, h2⟩
  · exact .inl h
  · exact .inr ⟨p, sv, h1, row_later h2 hb⟩

theorem call_no (v dv : Value) (w : World) (h : NoDq w v) : Calls Try.prog 56 #[v, dv] w fun e w' => e = .returned (.int .i64 1) ∧ w' = w := by
  rcases h with rfl | ⟨p, sv, rfl, h2⟩
  · go_enter Try.func56, Try.ntmps56
    go_wp2
    go_ret
    exact ⟨rfl, rfl⟩
  · have c0 : w.cell? ⟨p, 0, none⟩ = some (.bool false) := (cell_row h2 0).trans rfl
    clear h2
    go_enter Try.func56, Try.ntmps56
    go_wp2
    go_ret
    exact ⟨rfl, rfl⟩

set_option maxHeartbeats 1000000 in
theorem call_any (p g : Nat) (fi lb : Array Value) (w : World) (Q : Int → World → Prop) (hc : w.cell? ⟨p, 0, none⟩ = some (.bool true)) (hent : Ent g) (h : Calls Try.prog g (fi ++ lb) w fun e w' => ∃ k : Int, e = .returned (.int .i64 k) ∧ Q k w') :
    Calls Try.prog 56 #[.pointer (some ⟨p, 0, none⟩), .func (.func g) fi lb] w fun e w' => ∃ k : Int, e = .returned (.int .i64 k) ∧ Q k w' := by
  have H : Hid _ := h
  have eg : ∀ args w, (callFunc g args).run Try.prog w = .ok (.enter g args) w := hent
  clear h hent
  go_enter Try.func56, Try.ntmps56
  go_wp2_with (first | (go_at_fn g; refine Calls.mono H.out ?_; rintro e w2 ⟨k2, rfl, hq2⟩; have HQ2 : Hid (Q k2 w2) := hq2; clear hq2))
  go_ret
  exact ⟨k2, rfl, HQ2.out⟩

theorem new_any (w : World) : Calls Try.prog 25 #[] w fun e w' => ∃ p, e = .returned (.pointer (some ⟨p, 0, none⟩)) ∧ DQ (fun k => k = p) w' p [] ∧ p = w.heap.size ∧ Below w.heap.size w w' := by
  go_enter Try.func25, Try.ntmps25
  go_wp2_with fail
  go_ret
  refine ⟨w.heap.size, rfl, ⟨.slice none 0 0, [], ⟨row_new w _ 93, .inl ⟨rfl, rfl⟩, rfl, fun g hg => ?_, fun k hk => ?_, fun x hx => ?_⟩, rfl⟩, rfl, bl1 _ _⟩
  · cases hg
  · rw [hk]; simp
  · cases hx

theorem DQ.made {T : Nat → Prop} {w : World} {p : Nat} {L : List Jb} (h : DQ T w p L) : w.cell? ⟨p, 0, none⟩ = some (.bool true) := by
  obtain ⟨v, M, h, e⟩ := h
  exact (cell_row h.blk 0).trans rfl

set_option maxHeartbeats 1000000 in
theorem len_any (T : Nat → Prop) (w : World) (p : Nat) (L : List Jb) (h : DQ T w p L) (hl : L.length ≤ 1000000) : Calls Try.prog 50 #[.pointer (some ⟨p, 0, none⟩)] w fun e w' => e = .returned (.int .i64 L.length) ∧ Below w.heap.size w w' := by
  obtain ⟨v, M, hv, rfl⟩ := h
  rw [List.length_map] at *
  obtain ⟨a, c, rfl, hc1, hc2⟩ := hv.row.slice
  have HV : Hid _ := hv
  generalize hn : M.length = n at *
  have HL : Hid (∀ w1, Below w.heap.size w w1 → ∀ bd bn, w1.heap[bd]? = some (.cells #[.pointer (some ⟨p, 0, none⟩)] 53 (0, 0)) → w1.heap[bn]? = some (.cells #[.int .i64 0] 3 (0, 0)) → w.heap.size ≤ bn → Calls Try.prog 63 #[.pointer (some ⟨bd, 0, none⟩), .pointer (some ⟨bn, 0, none⟩)] w1 fun e w' => ∃ k : Int, e = .returned (.int .i64 k) ∧ w'.heap[bn]? = some (.cells #[.int .i64 n] 3 (0, 0)) ∧ Below w.heap.size w w') := by
    show ∀ w1, _
    intro w1 hb bd bn h1 h2 h3
    have c0 := (cell_row h1 0).trans rfl
    have c1 := (cell_row (row_later hv.blk hb) 1).trans rfl
    have c2 := (cell_row h2 0).trans rfl
    have f2 := froz_row h2 0
    have H2 : Hid _ := h2
    have HB : Hid _ := hb
    clear h1 h2 hb hv
    simp at c0 c1 c2
    go_enter Try.func63, Try.ntmps63
    go_wp2_with fail
    go_ret
    exact ⟨0, rfl, row_set H2.out 0 _, HB.out.setCell h3 _⟩
  have HC : Hid (∀ w1, Below w.heap.size w w1 → ∀ bd bn, w1.heap[bd]? = some (.cells #[.pointer (some ⟨p, 0, none⟩)] 53 (0, 0)) → w1.heap[bn]? = some (.cells #[.int .i64 0] 3 (0, 0)) → w.heap.size ≤ bn → Calls Try.prog 56 #[.pointer (some ⟨p, 0, none⟩), .func (.func 63) #[] #[.pointer (some ⟨bd, 0, none⟩), .pointer (some ⟨bn, 0, none⟩)]] w1 fun e w' => ∃ k : Int, e = .returned (.int .i64 k) ∧ w'.heap[bn]? = some (.cells #[.int .i64 n] 3 (0, 0)) ∧ Below w.heap.size w w') := fun w1 hb bd bn h1 h2 h3 =>
    call_any p 63 #[] _ w1 (fun k w' => w'.heap[bn]? = some (.cells #[.int .i64 n] 3 (0, 0)) ∧ Below w.heap.size w w') ((cell_row (row_later hv.blk hb) 0).trans rfl) ent63 (HL.out w1 hb bd bn h1 h2 h3)
  have hmf : ∀ (fn : Fn) (first cap : Array Value) (w : World), (Instr.makeFunc fn first cap).run Try.prog w = .ok (.func fn first cap) w := fun _ _ _ _ => rfl
  have HR2 : Hid (((w.alloc (.cells #[.pointer (some ⟨p, 0, none⟩)] 53)).alloc (.cells #[.int .i64 0] 3)).heap[w.heap.size + 1]? = some (.cells #[.int .i64 0] 3 (0, 0))) := row_new2 w _ _
  clear HL hv
  go_enter Try.func50, Try.ntmps50
  go_wp2_with fail
  refine Calls.mono (HC.out _ (bl2 _ _ _) w.heap.size (w.heap.size + 1) (row_new1 w _ _) HR2.out (by omega)) ?_
  rintro e w2 ⟨k, rfl, hr, hb⟩
  have c2 := (cell_row hr 0).trans rfl
  simp at c2
  have HB : Hid _ := hb
  clear hr hb HC HR2
  go_wp2_with fail
  go_ret
  exact ⟨rfl, HB.out⟩

/-- What Push makes of a deque. -/
def pushP (L : List Jb) (e : Jb) : Int × List Jb := if L.length = 128 then (8, L) else (0, L ++ [e])

theorem WD.of_kept {T : Nat → Prop} {w w' : World} {p : Nat} {L : List Jb} (h : DQ T w p L) (hb : Below w.heap.size w w') : WD T w p L w' := by
  obtain ⟨v, M, hv, e⟩ := h
  have hv' := hv.later hb
  exact ⟨⟨v, M, ⟨hv'.blk, hv'.row, .inl hv'.own, fun g hg => ⟨.inl (hv'.mine g hg).1, (hv'.mine g hg).2⟩, fun k hk => by rcases hk with hk | hk; exact hv'.live k hk; exact hk.2, fun x hx => (hv'.st x hx).mono (fun k _ hk => ⟨.inl hk.1, hk.2⟩)⟩, e⟩, Kp.of_below T hb⟩

/-- Behind a job that was put down. -/
theorem push_end {T : Nat → Prop} {w w2 w3 : World} {p : Nat} {v sv : Value} {M : List JbP} {e : Jb} {a : Option Addr} {c : Nat} (h : DV T w p v M) (hb : Below w.heap.size w w2) (hs : OwI w.heap.size w2 sv e.s)
    (ho : OwR w3 (.slice a (M.length + 1) c) (M ++ [(e, sv)])) (hg : (w2.alloc (.cells (jrow (e, sv)).toArray 37)).grownBy w3 v.ownBlock) (hat : (Value.slice a (M.length + 1) c).ownBlock = v.ownBlock ∨ (Value.slice a (M.length + 1) c).ownBlock = some (w2.alloc (.cells (jrow (e, sv)).toArray 37)).heap.size) :
    WD T w p (M.map Prod.fst ++ [e]) (w3.setCell ⟨p, 1, none⟩ (.slice a (M.length + 1) c)) := by
  have hb3 : Below w.heap.size w (w2.alloc (.cells (jrow (e, sv)).toArray 37)) := hb.alloc hb.size _
  have hsz := hb.size
  have k3 : Kp (fun k => v.ownBlock = some k) (w2.alloc (.cells (jrow (e, sv)).toArray 37)) w3 := Kp.of_grown _ hg (fun k hk => hk)
  have kT : Kp T w w3 := (Kp.of_below T hb3).trans k3 (fun x hx _ => (h.mine x hx).1)
  have hp3 : w3.heap[p]? = some (.cells #[.bool true, v] 93 (0, 0)) := k3.row (row_later h.blk hb3) (fun e => (h.mine p e).2 rfl)
  have hr := row_set hp3 1 (.slice a (M.length + 1) c)
  have hk4 : Kp (fun k => k = p) w3 (w3.setCell ⟨p, 1, none⟩ (.slice a (M.length + 1) c)) := (Kp.refl _ _).set _ _ rfl
  have hpl := h.live p h.own
  have hsz3 := k3.size
  rw [World.size_alloc] at hsz3
  have hz4 : (w3.setCell ⟨p, 1, none⟩ (.slice a (M.length + 1) c)).heap.size = w3.heap.size := by simp [World.setCell]
  have hap : ∀ g, (Value.slice a (M.length + 1) c).ownBlock = some g → (v.ownBlock = some g ∨ (w2.heap.size < g ∧ g < w3.heap.size)) := fun g hg9 => by
    have hlt := ho.lt g hg9
    rcases hat with hat | hat
    · exact .inl (hat ▸ hg9)
    · rw [hat] at hg9
      simp at hg9
      exact .inr ⟨by omega, by omega⟩
  refine ⟨⟨_, M ++ [(e, sv)], ⟨hr, ho.kept hk4 (fun g hg9 hgp => ?_), .inl h.own, fun g hg9 => ?_, fun k hk => ?_, fun x hx => ?_⟩, by rw [List.map_append]; rfl⟩, kT.trans hk4 (fun x hx _ => by rw [hx]; exact h.own)⟩
  · rcases hap g hg9 with h9 | h9
    · exact (h.mine g h9).2 hgp
    · omega
  · rcases hap g hg9 with h9 | h9
    · exact ⟨.inl (h.mine g h9).1, (h.mine g h9).2⟩
    · exact ⟨.inr ⟨by omega, by rw [hz4]; omega⟩, by omega⟩
  · rcases hk with hk | hk
    · rw [hz4]; have := h.live k hk; omega
    · exact hk.2
  · rcases List.mem_append.1 hx with hx | hx
    · have h1 := (h.st x hx).later hb3
      have h2 := (h1.kept k3 (fun k hk => hk.2.2)).kept hk4 (fun k hk hkp => hk.2.1 hkp)
      refine ⟨h2.1, fun h0 a9 n9 c9 he => ?_⟩
      have h3 := h2.2 h0 a9 n9 c9 he
      refine ⟨.inl h3.1, h3.2.1, fun h9 => ?_⟩
      rcases hap _ h9 with h8 | h8
      · exact h3.2.2 h8
      · have := h.live _ h3.1; omega
    · simp at hx
      subst hx
      have h1 := hs.rs
      have h2 := ((h1.later (bl1 w2 _)).kept k3 (fun k hk e9 => by have := h.live _ (h.mine k e9).1; omega)).kept hk4 (fun k hk hkp => by omega)
      refine ⟨h2.1, fun h0 a9 n9 c9 he => ?_⟩
      have h3 := h2.2 h0 a9 n9 c9 he
      refine ⟨.inr ⟨h3.1, by rw [hz4]; omega⟩, by omega, fun h9 => ?_⟩
      rcases hap _ h9 with h8 | h8
      · have := h.live _ (h.mine _ h8).1; omega
      · omega

end Go.Proofs.Ytfhmmiilenonkaa
