/- Texts of the seat, packed: JRi. -/
import Derived.Test.YtlegmmhacnbnlaaGreatDoorP24
/- The deeds of a trace: deedsOf. -/
namespace Go.Proofs.YtlegmmhacnbnlaaGreatDoor.J.Tz
open Go.RowKit Go.Shelf Go.Proofs.YtlegmmhacnbnlaaGreatDoor.J
set_option maxRecDepth 1000000
set_option linter.unusedVariables false

def SV (s : Sp) : Value := .agg #[.int .i64 s.first, .int .i64 s.well, .int .i64 s.last]
theorem Tryz.underlying54 : Tryz.prog.underlying 54 = some (.map 36 63) := by kernel_rfl
theorem Tryz.zero53 (w : World) : (zeroValue 63).run Tryz.prog w = .ok (SV ⟨0, 0, 0⟩) w := by kernel_rfl

/-- Between two places. -/
def DeI (w : World) (v : Value) (l : List Ef) (k : Nat) (V : World) (TB : Nat → Prop) : Prop :=
  CoS w v l (w.heap.size + 2) V TB ∧ Boxed V (w.heap.size + 1) 54 (.map (some w.heap.size)) ∧ KM SV V w.heap.size k (dd l (l.length - k))

attribute [local go_sem] Oper.semAt_some

set_option maxHeartbeats 16000000 in
theorem deeds_any (l : List Ef) (v : Value) (hl : l.length ≤ 1000000) (w : World) (hv : RE w v l) :
    Calls Tryz.prog 19 #[v] w fun e w' => e = .returned (.map (some w.heap.size)) ∧ KM SV w' w.heap.size l.length (dd l 0) ∧ Below w.heap.size w w' := by
  obtain ⟨a, c, hvs, hlc⟩ := hv.slice
  subst hvs
  obtain ⟨n, hn⟩ : ∃ n, l.length = n := ⟨_, rfl⟩
  have HN : Hid (l.length = n) := hn
  obtain ⟨w1, hw1⟩ : ∃ w1, (w.alloc (.map #[] 0)).alloc (.cells #[.map (some w.heap.size)] 54) = w1 := ⟨_, rfl⟩
  have HW1 : Hid ((w.alloc (.map #[] 0)).alloc (.cells #[.map (some w.heap.size)] 54) = w1) := hw1
  obtain ⟨R, HR⟩ : ∃ R : Ending → World → Prop, Hid (R = fun e w' => e = .returned (.map (some w.heap.size)) ∧ KM SV w' w.heap.size l.length (dd l 0) ∧ Below w.heap.size w w') := ⟨_, rfl⟩
  rw [← HR.out]
  suffices key : CallsIn Fence.wide 0 Tryz.prog 19 #[.slice a l.length c] w R from callsIn_wide.1 key
  have hb1 : Below w.heap.size w w1 := by rw [← hw1]; exact bl2 _ _ _
  have hs1 : w1.heap.size = w.heap.size + 2 := by rw [← hw1]; simp
  have q0 : KM SV w1 w.heap.size 0 (fun _ => none) := by rw [← hw1]; exact (KM.made w).later (bl1 _ _)
  have q1 : Boxed w1 (w.heap.size + 1) 54 (.map (some w.heap.size)) := by
    have := Boxed.new (w.alloc (.map #[] 0)) 54 (.map (some w.heap.size))
    rw [World.size_alloc, hw1] at this
    exact this
  obtain ⟨w2, hw2⟩ : ∃ w2, w1.alloc (.cells #[.slice a n c] 25) = w2 := ⟨_, rfl⟩
  have hb2 : Below w1.heap.size w1 w2 := by rw [← hw2]; exact bl1 _ _
  have hs2 : w2.heap.size = w.heap.size + 3 := by rw [← hw2]; simp; omega
  have q2 : Boxed w2 (w.heap.size + 2) 25 (.slice a n c) := by rw [← hw2, ← hs1]; exact Boxed.new w1 25 _
  have HMK : Hid _ := backward_any a n c w1
  rw [hw2, hs1] at HMK
  have HITR : Hid _ := backward_itr l a c (w.heap.size + 2) hl (fun b => b = w.heap.size + 2) w2 (by rw [hn]; exact q2) rfl (fun b hb => by omega)
  have H0 : Hid (DeI w (.slice a n c) l 0 w2 (fun b => b = w.heap.size + 2)) := by
    refine ⟨⟨hb1.trans (hb2.mono hb1.size), fun b hb => by omega, by omega, by omega, by rw [← hn]; exact hv⟩, (hb2.block _ q1.lt).trans q1, ?_⟩
    rw [Nat.sub_zero, dd_end (Nat.le_refl _)]
    exact q0.later hb2
  have HS2 : Hid (w2.heap.size = w.heap.size + 3) := hs2
  rw [hn] at HITR ⊢
  obtain ⟨xs, HX⟩ : ∃ xs, Hid (xs = brev n) := ⟨_, rfl⟩
  have HXL : Hid (xs.length = n) := by show _ = _; rw [HX.out]; exact brev_len n
  have HXA : Hid (∀ i x, xs[i]? = some x → i < n ∧ x = n - 1 - i) := fun i x hx => by
    rw [HX.out] at hx
    have h1 : i < n := by have := (List.getElem?_eq_some_iff.1 hx).1; rw [brev_len] at this; exact this
    rw [brev_at h1] at hx
    exact ⟨h1, (Option.some.inj hx).symm⟩
  rw [← HX.out] at HITR
  have HLN : Hid (l.length ≤ 1000000) := hl
  have hmm := @run_makeMap Tryz.prog
  clear hv hb1 hs1 q0 q1 hw2 hb2 hs2 q2 hn hl HX hlc hw1
  refine callsIn_of_wp_marks Tryz.func19 rfl trivial ?_ rfl
  simp only [Tryz.ntmps19, List.size_toArray, List.length_cons, List.length_nil, Nat.reduceAdd, Nat.reduceSub, Array.replicate_succ, Array.replicate_zero, List.push_toArray, List.append_toArray, List.nil_append, List.cons_append]
  gi_wp2
  rw [HW1.out]
  clear hmm
  refine ⟨trivial, rfl, (callsIn_wide.2 HMK.out).mono ?_⟩
  rintro e w3 ⟨rfl, hw3⟩
  subst hw3
  clear HMK HW1
  gi_wp2
  refine Rl.range_law (P := Tryz.prog) (gf := 48) (lb := #[.pointer (some ⟨w.heap.size + 2, 0, none⟩)]) rfl (enters_of Tryz.func48 (by kernel_rfl) rfl) (enc := encB l) (xs := xs) (n0 := 0) (m0 := 0) (G := fun A => RE A (.slice a n c) l) (T := fun b => b = w.heap.size + 2)
    HITR.out (fun b hb => by have := HS2.out; omega) (Nat.zero_le _) (Nat.le_refl _) (fun x F W T args h => by rw [show args = _ from h]; rfl)
    (fun k V TB => Hid (DeI w (.slice a n c) l k V TB)) (fun c' k V TB => False)
    (fun k V TV V' TV' h hm => by
      obtain ⟨h1, h2, h3⟩ := h.out
      obtain ⟨m1, m2⟩ := h1.mv hm
      exact ⟨m1, (m2 _ (by omega)).trans h2, h3.of_block (m2 _ (by omega))⟩)
    (fun c k V TV V' TV' h hm => h)
    (fun k V TV h => h.out.1.reV) H0 ?rnd ?done ?stop
  case rnd =>
    rintro m l' k x args F9 V T1 TB hxk henc ⟨Wf, Tf, HIf, hF9, hmF⟩ HI hTB hup hnc hlt
    cases henc
    obtain ⟨hkn, hxe⟩ := HXA.out k x hxk
    have HXE : Hid (x = n - 1 - k ∧ k < n) := ⟨hxe, hkn⟩
    clear HIf hF9 hmF hxk hTB hnc hlt HITR H0 HS2 hup hkn hxe
    have HXN : Hid (x < l.length ∧ l.length - k = x + 1 ∧ l.length - (k + 1) = x) := by have := HXE.out; have := HN.out; exact ⟨by omega, by omega, by omega⟩
    obtain ⟨e, he⟩ : ∃ e, l.getD x default = e := ⟨_, rfl⟩
    have HE : Hid (l.getD x default = e) := he
    have HEV : Hid (EV (l.getD x default) = .agg #[.int .i64 e.i, .bool e.u, .int .i64 e.t, .bool e.ok]) := by rw [HE.out]; rfl
    rw [HEV.out]
    obtain ⟨h1, h2, h3⟩ := HI.out
    have hwf : wfK (l.getD x default).key := (h1.reV.at' (i := x) HXN.out.1).1
    rw [he] at hwf
    have HWF : Hid (wfK (e.i, e.u, 0)) := ⟨hwf.1, show (Lit.int .i64 0).wf = true by decide⟩
    obtain ⟨b5, hb5⟩ : ∃ b, V.heap.size = b := ⟨_, rfl⟩
    obtain ⟨W4, hW4⟩ : ∃ W4, V.alloc (.cells #[.int .i64 e.i, .bool e.u, .int .i64 e.t, .bool e.ok] 38) = W4 := ⟨_, rfl⟩
    have HI4 : Hid (DeI w (.slice a n c) l k W4 TB) := by
      have hb := bl1 V (.cells #[.int .i64 e.i, .bool e.u, .int .i64 e.t, .bool e.ok] 38)
      rw [hW4] at hb
      exact ⟨(h1.later hb).1, (hb.block _ h2.lt).trans h2, h3.later hb⟩
    have HR4 : Hid (Rl.Rv 0 TB V W4) := by rw [← hW4]; exact Rl.Rv.of_below (bl1 _ _) (Nat.zero_le _)
    have HEB : Hid (W4.heap[b5]? = some (.cells #[.int .i64 e.i, .bool e.u, .int .i64 e.t, .bool e.ok] 38 (0, 0))) := by rw [← hW4, ← hb5]; exact heap_alloc_new _ _
    clear h1 h2 h3 hwf HI he
    gi_wp2
    clear hW4 hb5
    refine ⟨HI4, HR4.out, fun W2 hmv2 HI2 hbz => ?_⟩
    have hrow : W2.heap[b5]? = some (.cells #[.int .i64 e.i, .bool e.u, .int .i64 e.t, .bool e.ok] 38 (0, 0)) := hbz.cells _ _ HEB.out rfl
    have hec : EC W2 b5 0 e := EC.of fun j hj => by rw [cell_row hrow, Nat.zero_add]; show (erow e).toArray[j]? = _; rw [List.getElem?_toArray]
    have HIB : Hid (DeI w (.slice a n c) l k W2 TB) := HI2
    obtain ⟨z0, z1, z2, z3⟩ := hec
    obtain ⟨h1, h2, h3⟩ := HIB.out
    -- the key's box
    have hb5 : Below W2.heap.size W2 (W2.alloc (.cells #[.int .i64 e.i, .bool e.u, .int .i64 0] 36)) := bl1 _ _
    have hs5 : (W2.alloc (.cells #[.int .i64 e.i, .bool e.u, .int .i64 0] 36)).heap.size = W2.heap.size + 1 := by simp
    have HK5 : Hid ((W2.alloc (.cells #[.int .i64 e.i, .bool e.u, .int .i64 0] 36)).heap[W2.heap.size]? = some (.cells #[.int .i64 e.i, .bool e.u, .int .i64 0] 36 (0, 0))) := heap_alloc_new _ _
    have hx5 : Boxed (W2.alloc (.cells #[.int .i64 e.i, .bool e.u, .int .i64 0] 36)) (w.heap.size + 1) 54 (.map (some w.heap.size)) := (hb5.block _ h2.lt).trans h2
    have y5 := hx5.cell
    have d5 : ∀ o : Obj, ((W2.alloc (.cells #[.int .i64 e.i, .bool e.u, .int .i64 0] 36)).alloc o).cell? ⟨w.heap.size + 1, 0, none⟩ = some (.map (some w.heap.size)) := fun o => cell_later (bl1 _ o) y5
    have dk0 : ∀ o : Obj, ((W2.alloc (.cells #[.int .i64 e.i, .bool e.u, .int .i64 0] 36)).alloc o).cell? ⟨W2.heap.size, 0, none⟩ = some (.int .i64 e.i) := fun o => cell_later (bl1 _ o) ((cell_row HK5.out 0).trans rfl)
    have dk1 : ∀ o : Obj, ((W2.alloc (.cells #[.int .i64 e.i, .bool e.u, .int .i64 0] 36)).alloc o).cell? ⟨W2.heap.size, 1, none⟩ = some (.bool e.u) := fun o => cell_later (bl1 _ o) ((cell_row HK5.out 1).trans rfl)
    have dk2 : ∀ o : Obj, ((W2.alloc (.cells #[.int .i64 e.i, .bool e.u, .int .i64 0] 36)).alloc o).cell? ⟨W2.heap.size, 2, none⟩ = some (.int .i64 0) := fun o => cell_later (bl1 _ o) ((cell_row HK5.out 2).trans rfl)
    have t3 : ∀ o : Obj, ((W2.alloc (.cells #[.int .i64 e.i, .bool e.u, .int .i64 0] 36)).alloc o).cell? ⟨b5, 3, none⟩ = some (.bool e.ok) := fun o => cell_later (bl1 _ o) ((cell_row (row_later hrow hb5) 3).trans rfl)
    have HM5 : Hid (KM SV (W2.alloc (.cells #[.int .i64 e.i, .bool e.u, .int .i64 0] 36)) w.heap.size k (dd l (l.length - k))) := h3.later hb5
    clear hmv2 hbz HI4 HR4 HEB HI2 h1 h2 h3 hx5 hb5 hrow hs5 HK5
    obtain ⟨mv, hmv⟩ : ∃ mv, dd l (l.length - k) (e.i, e.u, 0) = mv := ⟨_, rfl⟩
    have HMV : Hid (dd l (l.length - k) (e.i, e.u, 0) = mv) := hmv
    obtain ⟨o, ho⟩ : ∃ o, e.ok = o := ⟨_, rfl⟩
    have HO : Hid (e.ok = o) := ho
    rw [ho] at t3 z3
    clear ho z3
    cases mv with
    | none =>
      cases o
      · skip
        have hlk : (Instr.lookup 54 (.map (some w.heap.size)) (.agg #[.int .i64 e.i, .bool e.u, .int .i64 0]) true).run Tryz.prog (W2.alloc (.cells #[.int .i64 e.i, .bool e.u, .int .i64 0] 36)) = .ok (.tuple #[.agg #[.int .i64 0, .int .i64 0, .int .i64 0], .bool false]) (W2.alloc (.cells #[.int .i64 e.i, .bool e.u, .int .i64 0] 36)) := HM5.out.look_none Tryz.underlying54 (Tryz.zero53 _) HWF.out hmv
        have hb6 : Below W2.heap.size W2 ((W2.alloc (.cells #[.int .i64 e.i, .bool e.u, .int .i64 0] 36)).alloc (.cells #[.int .i64 (x : Int), .int .i64 9223372036854775807, .int .i64 (x : Int)] 63)) := bl2 _ _ _
        have HM6 : Hid (KM SV ((W2.alloc (.cells #[.int .i64 e.i, .bool e.u, .int .i64 0] 36)).alloc (.cells #[.int .i64 (x : Int), .int .i64 9223372036854775807, .int .i64 (x : Int)] 63)) w.heap.size k (dd l (l.length - k))) := HM5.out.later (bl1 _ _)
        obtain ⟨W8, hst, hkm, hgr, hsz⟩ := HM6.out.store Tryz.underlying54 HWF.out ⟨(x : Int), 9223372036854775807, (x : Int)⟩
        have HSP : Hid (spOf x e (dd l (l.length - k) (e.i, e.u, 0)) = ⟨(x : Int), 9223372036854775807, (x : Int)⟩) := by
          show _ = _
          rw [HMV.out]
          unfold spOf
          rw [HO.out]
          rfl
        have HI8 : Hid (DeI w (.slice a n c) l (k + 1) W8 TB ∧ Rl.Rv 0 TB W2 W8) := by
          obtain ⟨h1, h2, h3⟩ := HIB.out
          obtain ⟨c6, r6⟩ := h1.later hb6
          obtain ⟨c8, r8⟩ := c6.grown hgr (fun g hg => by cases hg; exact ⟨Nat.le_refl _, fun ht => by have := (h1.own _ ht).1; omega⟩)
          refine ⟨⟨c8, (hgr.block _ (Nat.lt_of_lt_of_le h2.lt hb6.size) (fun e => by have := Option.some.inj e; omega)).trans ((hb6.block _ h2.lt).trans h2), ?_⟩, r6.trans r8⟩
          rw [HXN.out.2.2, dd_step HXN.out.1, HE.out, ← HXN.out.2.1, HSP.out]
          exact hkm
        change (Instr.mapUpdate 54 (.map (some w.heap.size)) (.agg #[.int .i64 e.i, .bool e.u, .int .i64 0]) (.agg #[.int .i64 (x : Int), .int .i64 9223372036854775807, .int .i64 (x : Int)])).run Tryz.prog ((W2.alloc (.cells #[.int .i64 e.i, .bool e.u, .int .i64 0] 36)).alloc (.cells #[.int .i64 (x : Int), .int .i64 9223372036854775807, .int .i64 (x : Int)] 63)) = .ok () W8 at hst
        clear hmv hb6 hkm hgr hsz
        gi_wp2
        exact HI8.out
      · skip
        have hlk : (Instr.lookup 54 (.map (some w.heap.size)) (.agg #[.int .i64 e.i, .bool e.u, .int .i64 0]) true).run Tryz.prog (W2.alloc (.cells #[.int .i64 e.i, .bool e.u, .int .i64 0] 36)) = .ok (.tuple #[.agg #[.int .i64 0, .int .i64 0, .int .i64 0], .bool false]) (W2.alloc (.cells #[.int .i64 e.i, .bool e.u, .int .i64 0] 36)) := HM5.out.look_none Tryz.underlying54 (Tryz.zero53 _) HWF.out hmv
        have hb6 : Below W2.heap.size W2 ((W2.alloc (.cells #[.int .i64 e.i, .bool e.u, .int .i64 0] 36)).alloc (.cells #[.int .i64 (x : Int), .int .i64 (x : Int), .int .i64 (x : Int)] 63)) := bl2 _ _ _
        have HM6 : Hid (KM SV ((W2.alloc (.cells #[.int .i64 e.i, .bool e.u, .int .i64 0] 36)).alloc (.cells #[.int .i64 (x : Int), .int .i64 (x : Int), .int .i64 (x : Int)] 63)) w.heap.size k (dd l (l.length - k))) := HM5.out.later (bl1 _ _)
        obtain ⟨W8, hst, hkm, hgr, hsz⟩ := HM6.out.store Tryz.underlying54 HWF.out ⟨(x : Int), (x : Int), (x : Int)⟩
        have HSP : Hid (spOf x e (dd l (l.length - k) (e.i, e.u, 0)) = ⟨(x : Int), (x : Int), (x : Int)⟩) := by
          show _ = _
          rw [HMV.out]
          unfold spOf
          rw [HO.out]
          rfl
        have HI8 : Hid (DeI w (.slice a n c) l (k + 1) W8 TB ∧ Rl.Rv 0 TB W2 W8) := by
          obtain ⟨h1, h2, h3⟩ := HIB.out
          obtain ⟨c6, r6⟩ := h1.later hb6
          obtain ⟨c8, r8⟩ := c6.grown hgr (fun g hg => by cases hg; exact ⟨Nat.le_refl _, fun ht => by have := (h1.own _ ht).1; omega⟩)
          refine ⟨⟨c8, (hgr.block _ (Nat.lt_of_lt_of_le h2.lt hb6.size) (fun e => by have := Option.some.inj e; omega)).trans ((hb6.block _ h2.lt).trans h2), ?_⟩, r6.trans r8⟩
          rw [HXN.out.2.2, dd_step HXN.out.1, HE.out, ← HXN.out.2.1, HSP.out]
          exact hkm
        change (Instr.mapUpdate 54 (.map (some w.heap.size)) (.agg #[.int .i64 e.i, .bool e.u, .int .i64 0]) (.agg #[.int .i64 (x : Int), .int .i64 (x : Int), .int .i64 (x : Int)])).run Tryz.prog ((W2.alloc (.cells #[.int .i64 e.i, .bool e.u, .int .i64 0] 36)).alloc (.cells #[.int .i64 (x : Int), .int .i64 (x : Int), .int .i64 (x : Int)] 63)) = .ok () W8 at hst
        clear hmv hb6 hkm hgr hsz
        gi_wp2
        exact HI8.out
    | some s =>
      cases o
      · skip
        have hlk : (Instr.lookup 54 (.map (some w.heap.size)) (.agg #[.int .i64 e.i, .bool e.u, .int .i64 0]) true).run Tryz.prog (W2.alloc (.cells #[.int .i64 e.i, .bool e.u, .int .i64 0] 36)) = .ok (.tuple #[.agg #[.int .i64 s.first, .int .i64 s.well, .int .i64 s.last], .bool true]) (W2.alloc (.cells #[.int .i64 e.i, .bool e.u, .int .i64 0] 36)) := HM5.out.look_some Tryz.underlying54 hmv
        have hb6 : Below W2.heap.size W2 ((W2.alloc (.cells #[.int .i64 e.i, .bool e.u, .int .i64 0] 36)).alloc (.cells #[.int .i64 (x : Int), .int .i64 s.well, .int .i64 s.last] 63)) := bl2 _ _ _
        have HM6 : Hid (KM SV ((W2.alloc (.cells #[.int .i64 e.i, .bool e.u, .int .i64 0] 36)).alloc (.cells #[.int .i64 (x : Int), .int .i64 s.well, .int .i64 s.last] 63)) w.heap.size k (dd l (l.length - k))) := HM5.out.later (bl1 _ _)
        obtain ⟨W8, hst, hkm, hgr, hsz⟩ := HM6.out.store Tryz.underlying54 HWF.out ⟨(x : Int), s.well, s.last⟩
        have HSP : Hid (spOf x e (dd l (l.length - k) (e.i, e.u, 0)) = ⟨(x : Int), s.well, s.last⟩) := by
          show _ = _
          rw [HMV.out]
          unfold spOf
          rw [HO.out]
          rfl
        have HI8 : Hid (DeI w (.slice a n c) l (k + 1) W8 TB ∧ Rl.Rv 0 TB W2 W8) := by
          obtain ⟨h1, h2, h3⟩ := HIB.out
          obtain ⟨c6, r6⟩ := h1.later hb6
          obtain ⟨c8, r8⟩ := c6.grown hgr (fun g hg => by cases hg; exact ⟨Nat.le_refl _, fun ht => by have := (h1.own _ ht).1; omega⟩)
          refine ⟨⟨c8, (hgr.block _ (Nat.lt_of_lt_of_le h2.lt hb6.size) (fun e => by have := Option.some.inj e; omega)).trans ((hb6.block _ h2.lt).trans h2), ?_⟩, r6.trans r8⟩
          rw [HXN.out.2.2, dd_step HXN.out.1, HE.out, ← HXN.out.2.1, HSP.out]
          exact hkm
        change (Instr.mapUpdate 54 (.map (some w.heap.size)) (.agg #[.int .i64 e.i, .bool e.u, .int .i64 0]) (.agg #[.int .i64 (x : Int), .int .i64 s.well, .int .i64 s.last])).run Tryz.prog ((W2.alloc (.cells #[.int .i64 e.i, .bool e.u, .int .i64 0] 36)).alloc (.cells #[.int .i64 (x : Int), .int .i64 s.well, .int .i64 s.last] 63)) = .ok () W8 at hst
        clear hmv hb6 hkm hgr hsz
        gi_wp2
        exact HI8.out
      · skip
        have hlk : (Instr.lookup 54 (.map (some w.heap.size)) (.agg #[.int .i64 e.i, .bool e.u, .int .i64 0]) true).run Tryz.prog (W2.alloc (.cells #[.int .i64 e.i, .bool e.u, .int .i64 0] 36)) = .ok (.tuple #[.agg #[.int .i64 s.first, .int .i64 s.well, .int .i64 s.last], .bool true]) (W2.alloc (.cells #[.int .i64 e.i, .bool e.u, .int .i64 0] 36)) := HM5.out.look_some Tryz.underlying54 hmv
        have hb6 : Below W2.heap.size W2 ((W2.alloc (.cells #[.int .i64 e.i, .bool e.u, .int .i64 0] 36)).alloc (.cells #[.int .i64 (x : Int), .int .i64 (x : Int), .int .i64 s.last] 63)) := bl2 _ _ _
        have HM6 : Hid (KM SV ((W2.alloc (.cells #[.int .i64 e.i, .bool e.u, .int .i64 0] 36)).alloc (.cells #[.int .i64 (x : Int), .int .i64 (x : Int), .int .i64 s.last] 63)) w.heap.size k (dd l (l.length - k))) := HM5.out.later (bl1 _ _)
        obtain ⟨W8, hst, hkm, hgr, hsz⟩ := HM6.out.store Tryz.underlying54 HWF.out ⟨(x : Int), (x : Int), s.last⟩
        have HSP : Hid (spOf x e (dd l (l.length - k) (e.i, e.u, 0)) = ⟨(x : Int), (x : Int), s.last⟩) := by
          show _ = _
          rw [HMV.out]
          unfold spOf
          rw [HO.out]
          rfl
        have HI8 : Hid (DeI w (.slice a n c) l (k + 1) W8 TB ∧ Rl.Rv 0 TB W2 W8) := by
          obtain ⟨h1, h2, h3⟩ := HIB.out
          obtain ⟨c6, r6⟩ := h1.later hb6
          obtain ⟨c8, r8⟩ := c6.grown hgr (fun g hg => by cases hg; exact ⟨Nat.le_refl _, fun ht => by have := (h1.own _ ht).1; omega⟩)
          refine ⟨⟨c8, (hgr.block _ (Nat.lt_of_lt_of_le h2.lt hb6.size) (fun e => by have := Option.some.inj e; omega)).trans ((hb6.block _ h2.lt).trans h2), ?_⟩, r6.trans r8⟩
          rw [HXN.out.2.2, dd_step HXN.out.1, HE.out, ← HXN.out.2.1, HSP.out]
          exact hkm
        change (Instr.mapUpdate 54 (.map (some w.heap.size)) (.agg #[.int .i64 e.i, .bool e.u, .int .i64 0]) (.agg #[.int .i64 (x : Int), .int .i64 (x : Int), .int .i64 s.last])).run Tryz.prog ((W2.alloc (.cells #[.int .i64 e.i, .bool e.u, .int .i64 0] 36)).alloc (.cells #[.int .i64 (x : Int), .int .i64 (x : Int), .int .i64 s.last] 63)) = .ok () W8 at hst
        clear hmv hb6 hkm hgr hsz
        gi_wp2
        exact HI8.out
  case done =>
    rintro V T2 h hold hup hdef hts
    obtain ⟨h1, h2, h3⟩ := h.out
    have HV : Hid (V.heap[w3.heap.size]? = some (.deferred (some [])) ∧ T2 w3.heap.size) := ⟨hdef, hts⟩
    have hx9 : l.length - xs.length = 0 := by rw [HXL.out, HN.out]; omega
    rw [hx9, HXL.out] at h3
    have HM : Hid (CoS w (.slice a n c) l (w.heap.size + 2) V T2 ∧ KM SV V w.heap.size n (dd l 0)) := ⟨h1, h3⟩
    have y0 := h2.cell
    clear h h1 h2 h3 hold hup hdef hts HITR H0 hx9
    gi_wp2
    show LeavesInM Fence.wide 0 Tryz.prog Tryz.f19 _ R ([w3.heap.size].map Rl.mark) .returning _
    refine Rl.leaves_marks (T := T2) (by simp) (fun A => CoS w (.slice a n c) l (w.heap.size + 2) A T2 ∧ KM SV A w.heap.size n (dd l 0)) ?_ ?_ _ _ ⟨by simp, fun D hD => by simp at hD; subst hD; exact ⟨HV.out.2, HV.out.1⟩⟩ HM.out
    · rintro A D hD ⟨k1, k2⟩
      obtain ⟨j1, j2⟩ := k1.mv (Rl.Mv.putObj A _ hD)
      exact ⟨j1, k2.of_block (j2 _ (by omega))⟩
    · rintro A ⟨k1, k2⟩
      refine ⟨_, results_slot2 rfl _ _ rfl, ?_⟩
      rw [HR.out, HN.out]
      exact ⟨rfl, k2, k1.bel⟩
  case stop =>
    rintro c' k V T2 hk h hold hup hdef hts
    exact h.elim
end Go.Proofs.YtlegmmhacnbnlaaGreatDoor.J.Tz

