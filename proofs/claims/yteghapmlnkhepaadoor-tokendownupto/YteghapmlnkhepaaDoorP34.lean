/- Texts of the seat, packed: Cf. -/
import Derived.Test.YteghapmlnkhepaaDoorP33
/- In and Of of a tree in memory; one more token. -/
namespace Go.Proofs.YteghapmlnkhepaaDoor.Tk
open Go.RowKit Go.Shelf Go.Proofs.YteghapmlnkhepaaDoor.St Go.Proofs.YteghapmlnkhepaaDoor.Sx
set_option maxRecDepth 1000000
set_option linter.unusedVariables false

variable {n0 : Nat} {w w' : World} {tb : Nat} {sv : Value} {bs : List Nat} {its : List It} {p : Pl} {L : List (Nat × Nat)} {C : Nat → Bool} {S : Nat → Prop}

theorem Bn.new (w : World) (s : Int) : Bn (w.alloc (.cells #[.int .i64 s] 3)) w.heap.size s := Dg.row_new w _ 3

theorem In_any (h : TT n0 w tb sv bs its p L C S) (hS : L.length ≤ 1000) (s a : Int) :
    Calls Tryd.prog 12 #[.pointer (some ⟨tb, 0, none⟩), .int .i64 s, .int .i64 a] w fun e w' => e = .returned (.int .i64 (fidx (fun x : Nat × Nat => decide ((x.1 : Int) = s) && decide ((x.2 : Int) = a)) L : Int)) ∧ Below w.heap.size w w' := by
  have hb1 : Below w.heap.size w (w.alloc (.cells #[.int .i64 s] 3)) := (Below.refl _ w).alloc (Nat.le_refl _) _
  have hb2 : Below w.heap.size w ((w.alloc (.cells #[.int .i64 s] 3)).alloc (.cells #[.int .i64 a] 3)) := hb1.alloc hb1.size _
  have r1 : Bn ((w.alloc (.cells #[.int .i64 s] 3)).alloc (.cells #[.int .i64 a] 3)) w.heap.size s := Dg.row_alloc (Bn.new w s) _
  have r2 : Bn ((w.alloc (.cells #[.int .i64 s] 3)).alloc (.cells #[.int .i64 a] 3)) (w.heap.size + 1) a := by
    have := Bn.new (w.alloc (.cells #[.int .i64 s] 3)) a
    rwa [World.size_alloc] at this
  have h2 := h.later hb2
  have HM : Hid _ := find_any h2 hS 25 #[.pointer (some ⟨w.heap.size, 0, none⟩), .pointer (some ⟨w.heap.size + 1, 0, none⟩)] (fun x => decide ((x.1 : Int) = s) && decide ((x.2 : Int) = a)) (fun _ _ => by kernel_rfl) (fun wx i x b hb hx hbb => in1_any (h2.later hb) hx hbb (r1.later hb) (r2.later hb))
  have HB : Hid _ := hb2
  clear h h2 r1 r2 hb1 hb2
  go_enter Tryd.func12, Tryd.ntmps12
  go_wp2_with fail
  refine Calls.mono HM.out ?_
  rintro e w1 ⟨rfl, hb⟩
  have HB1 : Hid _ := HB.out.trans (hb.mono HB.out.size)
  clear HM hb
  go_wp2_with fail
  go_ret
  exact ⟨rfl, HB1.out⟩

theorem In_nil (s a : Int) (w : World) : Calls Tryd.prog 12 #[.pointer none, .int .i64 s, .int .i64 a] w fun e w' => e = .returned (.int .i64 0) ∧ Below w.heap.size w w' := by
  have hb1 : Below w.heap.size w (w.alloc (.cells #[.int .i64 s] 3)) := (Below.refl _ w).alloc (Nat.le_refl _) _
  have HB : Hid (Below w.heap.size w ((w.alloc (.cells #[.int .i64 s] 3)).alloc (.cells #[.int .i64 a] 3))) := hb1.alloc hb1.size _
  clear hb1
  go_enter Tryd.func12, Tryd.ntmps12
  go_wp2_with fail
  refine Calls.mono (find_nil _ _ _) ?_
  rintro e w1 ⟨rfl, rfl⟩
  go_wp2_with fail
  go_ret
  exact ⟨rfl, HB.out⟩

theorem Of_any (h : TT n0 w tb sv bs its p L C S) (hS : L.length ≤ 1000) (hlen : its.length ≤ 64) (s : Int) :
    Calls Tryd.prog 13 #[.pointer (some ⟨tb, 0, none⟩), .int .i64 s] w fun e w' => e = .returned (.int .i64 (fidx (fun x : Nat × Nat => decide (s ∈ kidV its x)) L : Int)) ∧ Below w.heap.size w w' := by
  have hb1 : Below w.heap.size w (w.alloc (.cells #[.int .i64 s] 3)) := (Below.refl _ w).alloc (Nat.le_refl _) _
  have r1 : Bn (w.alloc (.cells #[.int .i64 s] 3)) w.heap.size s := Bn.new w s
  have h2 := h.later hb1
  have HM : Hid _ := find_any h2 hS 26 #[.pointer (some ⟨w.heap.size, 0, none⟩)] (fun x => decide (s ∈ kidV its x)) (fun _ _ => by kernel_rfl) (fun wx i x b hb hx hbb => of1_any (h2.later hb) hlen hx hbb (r1.later hb))
  have HB : Hid _ := hb1
  clear h h2 r1 hb1
  go_enter Tryd.func13, Tryd.ntmps13
  go_wp2_with fail
  refine Calls.mono HM.out ?_
  rintro e w1 ⟨rfl, hb⟩
  have HB1 : Hid _ := HB.out.trans (hb.mono HB.out.size)
  clear HM hb
  go_wp2_with fail
  go_ret
  exact ⟨rfl, HB1.out⟩

theorem Of_nil (s : Int) (w : World) : Calls Tryd.prog 13 #[.pointer none, .int .i64 s] w fun e w' => e = .returned (.int .i64 0) ∧ Below w.heap.size w w' := by
  have HB : Hid (Below w.heap.size w (w.alloc (.cells #[.int .i64 s] 3))) := (Below.refl _ w).alloc (Nat.le_refl _) _
  go_enter Tryd.func13, Tryd.ntmps13
  go_wp2_with fail
  refine Calls.mono (find_nil _ _ _) ?_
  rintro e w1 ⟨rfl, rfl⟩
  go_wp2_with fail
  go_ret
  exact ⟨rfl, HB.out⟩

theorem info55 : (Tryd.prog.info? 55).map (fun i => (i.zero, i.size, i.bytes)) = some (some (.pointer none), 1, 8) := by kernel_rfl

theorem wi_snoc {bs : List Nat} {b s : Nat} (h : s ≠ 0 → tk p (p.inn s) (p.alt s) - 1 < bs.length) : wiV p (bs ++ [b]) s = wiV p bs s := by
  unfold wiV
  by_cases h0 : s = 0
  · rw [if_pos h0, if_pos h0]
  · rw [if_neg h0, if_neg h0, List.getD_eq_getElem?_getD, List.getD_eq_getElem?_getD, List.getElem?_append_left (h h0)]

/-- The token in which one stands is there ahead of it. -/
theorem tk_ahead {p : Pl} (hp : p.Ok) {k a s : Nat} (hk : s ≤ k) (hn : s < p.n) (h0 : s ≠ 0) : tk p (p.inn s) (p.alt s) - 1 < (tkL p k a).length := by
  obtain ⟨q1, q2, q3⟩ := hp.inn s (by omega) hn
  obtain ⟨u1, u2⟩ := tk_range (n := s) q1 q3
  have := base_mono p hk
  rw [tkL_len]
  omega

theorem TT.push {k a : Nat} (h : TT n0 w tb sv bs its p (tkL p k a) C S) (hp : p.Ok) (hk : k < p.n) (hn0 : n0 ≤ w.heap.size) (hfew : (tkL p k a).length ≤ 1000) {u : Value} (hu : RdZ w u (kidV its (k, a))) (hug : ∀ g, u.ownBlock = some g → g < w.heap.size ∧ g ∉ bs ∧ g ≠ tb ∧ sv.ownBlock ≠ some g) (hC : C ((tkL p k a).length + 1) = false) {xb : Nat} {cs : Array Value} (hxb : w.heap[xb]? = some (.cells cs 59 (0, 0))) :
    ∃ ua m uc W5, (Builtin.append_ #[45, 45] 45 #[sv, .slice (some ⟨w.heap.size + 1, 0, none⟩) 1 1]).run Tryd.prog ((w.alloc (.cells (tokC (k, a) u (wiV p bs k) false) 61)).alloc (.cells #[.pointer (some ⟨w.heap.size, 0, none⟩)] 55)) = .ok (.slice ua m uc) W5 ∧ W5.heap[tb]? = some (.cells #[sv] 47 (0, 0)) ∧ W5.heap[xb]? = some (.cells cs 59 (0, 0)) ∧ (W5.setCell ⟨tb, 0, none⟩ (.slice ua m uc)).heap[xb]? = some (.cells cs 59 (0, 0)) ∧
      Below n0 w (W5.setCell ⟨tb, 0, none⟩ (.slice ua m uc)) ∧ TT n0 (W5.setCell ⟨tb, 0, none⟩ (.slice ua m uc)) tb (.slice ua m uc) (bs ++ [w.heap.size]) its p (tkL p k (a + 1)) C (fun g => S g ∨ u.ownBlock = some g) := by
  obtain ⟨i0, hi0, hz0, hz1, hz2⟩ := info_parts info55
  have hlen := h.len
  have hbA : Below w.heap.size w (w.alloc (.cells (tokC (k, a) u (wiV p bs k) false) 61)) := (Below.refl _ w).alloc (Nat.le_refl _) _
  have hbB : Below w.heap.size w ((w.alloc (.cells (tokC (k, a) u (wiV p bs k) false) 61)).alloc (.cells #[.pointer (some ⟨w.heap.size, 0, none⟩)] 55)) := hbA.alloc hbA.size _
  have hT2 := h.later hbB
  have hx2 : ((w.alloc (.cells (tokC (k, a) u (wiV p bs k) false) 61)).alloc (.cells #[.pointer (some ⟨w.heap.size, 0, none⟩)] 55)).heap[xb]? = some (.cells cs 59 (0, 0)) := (hbB.block _ (row_lt hxb)).trans hxb
  have htok : ((w.alloc (.cells (tokC (k, a) u (wiV p bs k) false) 61)).alloc (.cells #[.pointer (some ⟨w.heap.size, 0, none⟩)] 55)).heap[w.heap.size]? = some (.cells (tokC (k, a) u (wiV p bs k) false) 61 (0, 0)) := Dg.row_alloc (Dg.row_new w _ 61) _
  have hu2 : RdZ ((w.alloc (.cells (tokC (k, a) u (wiV p bs k) false) 61)).alloc (.cells #[.pointer (some ⟨w.heap.size, 0, none⟩)] 55)) u (kidV its (k, a)) := hu.later hbB
  have hrow : ((w.alloc (.cells (tokC (k, a) u (wiV p bs k) false) 61)).alloc (.cells #[.pointer (some ⟨w.heap.size, 0, none⟩)] 55)).heap[w.heap.size + 1]? = some (.cells #[.pointer (some ⟨w.heap.size, 0, none⟩)] 55 (0, 0)) := by
    have := Dg.row_new (w.alloc (.cells (tokC (k, a) u (wiV p bs k) false) 61)) #[.pointer (some ⟨w.heap.size, 0, none⟩)] 55
    rwa [World.size_alloc] at this
  have hsz : ((w.alloc (.cells (tokC (k, a) u (wiV p bs k) false) 61)).alloc (.cells #[.pointer (some ⟨w.heap.size, 0, none⟩)] 55)).heap.size = w.heap.size + 2 := by simp
  generalize (w.alloc (.cells (tokC (k, a) u (wiV p bs k) false) 61)).alloc (.cells #[.pointer (some ⟨w.heap.size, 0, none⟩)] 55) = W4 at *
  have hcl : ∀ (j : Nat) (y : Value), ([.pointer (some ⟨w.heap.size, 0, none⟩)] : List Value)[j]? = some y → W4.cell? ((⟨w.heap.size + 1, 0, none⟩ : Addr).add j) = some y := by
    intro j y hj
    rw [Go.WideShapes.add_plain, Nat.zero_add, Dg.cell_row hrow, ← Array.getElem?_toList]
    exact hj
  obtain ⟨u', W5, hr5, ho5, hg5, _, hat5⟩ := run_append_own_at (P := Tryd.prog) (w := W4) n0 45 45 55 i0 _ 1 _ Tryd.underlying45 hi0 hz0 hz1 hz2 rfl (by decide) sv _ _ hT2.own ⟨w.heap.size + 1, 0, none⟩ 1 1 [.pointer (some ⟨w.heap.size, 0, none⟩)] rfl hcl (by intro y hy; simp at hy; subst hy; rfl) (by unfold maxLen; omega) (by omega) (by omega)
  obtain ⟨ua, uc, rfl⟩ := own_slice ho5
  have hW5 : w.heap.size + 2 ≤ W5.heap.size := by have := hg5.size; omega
  have hob : ∀ g, sv.ownBlock = some g → n0 ≤ g ∧ g < w.heap.size := own_exists h.own
  have htbn : some tb ≠ sv.ownBlock := own_other h.own h.box (by decide)
  have htbl : tb < w.heap.size := row_lt h.box
  have hg : Kp (fun g => sv.ownBlock = some g) W4 W5 := Kp.of_grown _ hg5 (fun k e => e)
  have hK : Kp (fun g => sv.ownBlock = some g ∨ g = tb) W4 (W5.setCell ⟨tb, 0, none⟩ (.slice ua ((tkL p k a).length + 1) uc)) := (hg.mono fun g h => .inl h).set ⟨tb, 0, none⟩ _ (.inr rfl)
  have hx5 := hg.row hx2 (fun e => own_other hT2.own hx2 (by decide) e.symm)
  have htb5 := hg.row hT2.box (fun e => own_other hT2.own hT2.box (by decide) e.symm)
  have hxtb : xb ≠ tb := fun e => by
    subst e
    rw [h.box] at hxb
    injection hxb with h1
    injection h1 with _ h2 _
    exact absurd h2 (by decide)
  have hown6 : (W5.setCell ⟨tb, 0, none⟩ (.slice ua ((tkL p k a).length + 1) uc)).ownsRow n0 55 1 (.slice ua ((tkL p k a).length + 1) uc) (tkL p k (a + 1)).length (ptrs (bs ++ [w.heap.size])) := by
    have e1 : ptrs (bs ++ [w.heap.size]) = ptrs bs ++ [.pointer (some ⟨w.heap.size, 0, none⟩)] := by simp [ptrs]
    have e2 : (tkL p k (a + 1)).length = (tkL p k a).length + 1 := by rw [tkL_succ]; simp
    rw [e1, e2]
    exact own_agree (G := fun b => b ≠ tb) (fun b hb' => Below.heap_setCell _ _ _ _ hb') ho5 (fun b hb' e => own_other ho5 htb5 (by decide) (e ▸ hb'.symm))
  have hnewrow : ∀ g, g < w.heap.size + 2 → sv.ownBlock ≠ some g → (Value.slice ua ((tkL p k a).length + 1) uc).ownBlock ≠ some g := by
    intro g h1 h2 h3
    rcases hat5 with e | e
    · exact h2 (e ▸ h3)
    · rw [e] at h3
      have := Option.some.inj h3
      omega
  refine ⟨ua, _, uc, W5, hr5, htb5, hx5, Dg.row_other hx5 _ hxtb, (hbB.mono hn0).trans (hK.below (by omega) (fun g h9 => by rcases h9 with h9 | h9; exact (hob g h9).1; exact h9 ▸ h.ge)), ?_⟩
  refine ⟨?_, hown6, by rw [tkL_succ, List.length_append, List.length_append, hlen]; rfl, ?_, ?_, ?_, h.ge, ?_⟩
  · have := Dg.row_set htb5 0 (.slice ua ((tkL p k a).length + 1) uc)
    exact this
  · intro i x b hx hb
    rw [tkL_succ] at hx
    have wsn : ∀ s, s ≤ k → s < p.n → wiV p (bs ++ [w.heap.size]) s = wiV p bs s := fun s h1 h2 => wi_snoc fun h0 => by rw [hlen]; exact tk_ahead hp h1 h2 h0
    by_cases hi : i < (tkL p k a).length
    · rw [List.getElem?_append_left hi] at hx
      rw [List.getElem?_append_left (by omega)] at hb
      obtain ⟨v, q1, q2, q3⟩ := hT2.tok i x b hx hb
      have hbm := List.mem_of_getElem? hb
      have hxs := mem_tkL.1 (show (x.1, x.2) ∈ tkL p k a from List.mem_of_getElem? hx)
      refine ⟨v, ?_, RdZ.kept q2 hK (fun g hg9 => ?_), fun g hg9 => .inl (q3 g hg9)⟩
      · rw [wsn x.1 (by omega) (by omega)]
        exact hK.row q1 (fun e => by rcases e with e | e; exact h.nrow hbm e.symm; exact h.ntb (e ▸ hbm))
      · have := h.sep g (q3 g hg9)
        exact fun e => by rcases e with e | e; exact this.2.2.2 e; exact this.2.2.1 e
    · rw [List.getElem?_append_right (by omega)] at hx
      have hi0 : i = (tkL p k a).length := by
        have := (List.getElem?_eq_some_iff.1 hx).1
        simp at this
        omega
      subst hi0
      rw [List.getElem?_append_right (by omega), hlen, Nat.sub_self] at hb
      rw [Nat.sub_self] at hx
      simp at hx hb
      subst hx hb
      refine ⟨u, ?_, RdZ.kept hu2 hK (fun g hg9 => ?_), fun g hg9 => .inr hg9⟩
      · rw [wsn k (Nat.le_refl _) hk, hC]
        exact hK.row htok (fun e => by rcases e with e | e; have := (hob _ e).2; omega; omega)
      · have := hug g hg9
        exact fun e => by rcases e with e | e; exact this.2.2.2 e; exact this.2.2.1 e
  · intro i j b hbi hbj
    have key : ∀ i, (bs ++ [w.heap.size])[i]? = some b → (i < bs.length ∧ bs[i]? = some b ∧ b < w.heap.size) ∨ (i = bs.length ∧ b = w.heap.size) := by
      intro i hi
      by_cases hl : i < bs.length
      · rw [List.getElem?_append_left hl] at hi
        exact .inl ⟨hl, hi, h.lt (List.mem_of_getElem? hi)⟩
      · rw [List.getElem?_append_right (by omega)] at hi
        have := (List.getElem?_eq_some_iff.1 hi).1
        simp at this
        rw [show i - bs.length = 0 by omega] at hi
        simp at hi
        exact .inr ⟨by omega, hi.symm⟩
    rcases key i hbi with ⟨a1, a2, a3⟩ | ⟨a1, a2⟩
    · rcases key j hbj with ⟨b1, b2, b3⟩ | ⟨b1, b2⟩
      · exact h.inj i j b a2 b2
      · omega
    · rcases key j hbj with ⟨b1, b2, b3⟩ | ⟨b1, b2⟩
      · omega
      · omega
  · intro g hg9
    have hlt6 : W5.heap.size ≤ (W5.setCell ⟨tb, 0, none⟩ (.slice ua ((tkL p k a).length + 1) uc)).heap.size := by simp [World.setCell]
    rcases hg9 with hg9 | hg9
    · obtain ⟨s1, s2, s3, s4⟩ := h.sep g hg9
      exact ⟨by omega, by rw [List.mem_append, List.mem_singleton]; rintro (h9 | h9); exact s2 h9; omega, s3, hnewrow g (by omega) s4⟩
    · obtain ⟨s1, s2, s3, s4⟩ := hug g hg9
      exact ⟨by omega, by rw [List.mem_append, List.mem_singleton]; rintro (h9 | h9); exact s2 h9; omega, s3, hnewrow g (by omega) s4⟩
  · intro b hb
    rcases List.mem_append.1 hb with hb | hb
    · exact h.geb b hb
    · rw [List.mem_singleton] at hb
      omega
end Go.Proofs.YteghapmlnkhepaaDoor.Tk

