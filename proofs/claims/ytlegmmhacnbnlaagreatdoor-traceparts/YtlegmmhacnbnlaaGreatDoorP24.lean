/- Texts of the seat, packed: JRh. -/
import Derived.Test.YtlegmmhacnbnlaaGreatDoorP23
/- Last. -/
namespace Go.Proofs.YtlegmmhacnbnlaaGreatDoor.J.Tz
open Go.RowKit Go.Shelf Go.Proofs.YtlegmmhacnbnlaaGreatDoor.J
set_option maxRecDepth 1000000
set_option linter.unusedVariables false

/-- Between two places. -/
def LaI (w : World) (v : Value) (l : List Ef) (k : Nat) (V : World) (TB : Nat → Prop) : Prop :=
  CoS w v l (w.heap.size + 2) V TB ∧ Boxed V w.heap.size 25 v ∧ ∃ rv, Boxed V (w.heap.size + 1) 25 rv ∧ OwE V rv (lastL (l.drop (l.length - k))).reverse ∧ ∀ g, rv.ownBlock = some g → w.heap.size + 2 ≤ g ∧ ¬ TB g

theorem append_exec {P : Program} {o : Oper} {a : Act} {w w' : World} {s x : Operand} {t : TypeId} {v xv v' : Value} (hop : o.op = Op.call { callee := Callee.builtin Builtin.append, args := #[s, x], argTypes := #[t, t] }) (hs : a.eval s = v) (hx : a.eval x = xv)
    (hrun : (Builtin.append_ #[t, t] o.type #[v, xv]).run P w = .ok v' w') : (execOp a.eval o).run P w = .ok (.value v') w' := by
  simp [execOp, hop, resolve, invoke, builtin, hs, hx, hrun, Result.andThen]

theorem lastL_le (l : List Ef) : (lastL l).length ≤ l.length := lastL_len l

attribute [local go_sem] Oper.semAt_some

set_option maxHeartbeats 16000000 in
theorem last_any (l : List Ef) (v : Value) (hl : l.length ≤ 1000000) (w : World) (hv : RE w v l) :
    Calls Tryz.prog 11 #[v] w fun e w' => ∃ rv, e = .returned rv ∧ OwE w' rv (lastL l) ∧ Below w.heap.size w w' ∧ ∀ g, rv.ownBlock = some g → w.heap.size ≤ g := by
  obtain ⟨a, c, hvs, hlc⟩ := hv.slice
  subst hvs
  obtain ⟨n, hn⟩ : ∃ n, l.length = n := ⟨_, rfl⟩
  have HN : Hid (l.length = n) := hn
  obtain ⟨w1, hw1⟩ : ∃ w1, (w.alloc (.cells #[.slice a n c] 25)).alloc (.cells #[.slice none 0 0] 25) = w1 := ⟨_, rfl⟩
  have HW1 : Hid ((w.alloc (.cells #[.slice a n c] 25)).alloc (.cells #[.slice none 0 0] 25) = w1) := hw1
  obtain ⟨R, HR⟩ : ∃ R : Ending → World → Prop, Hid (R = fun e w' => ∃ rv, e = .returned rv ∧ OwE w' rv (lastL l) ∧ Below w.heap.size w w' ∧ ∀ g, rv.ownBlock = some g → w.heap.size ≤ g) := ⟨_, rfl⟩
  rw [← HR.out]
  suffices key : CallsIn Fence.wide 0 Tryz.prog 11 #[.slice a l.length c] w R from callsIn_wide.1 key
  have hb1 : Below w.heap.size w w1 := by rw [← hw1]; exact bl2 _ _ _
  have hs1 : w1.heap.size = w.heap.size + 2 := by rw [← hw1]; simp
  have q0 : Boxed w1 w.heap.size 25 (.slice a n c) := by rw [← hw1]; exact (Boxed.new w 25 _).alloc _
  have q1 : Boxed w1 (w.heap.size + 1) 25 (.slice none 0 0) := by
    have := Boxed.new (w.alloc (.cells #[.slice a n c] 25)) 25 (.slice none 0 0)
    rw [World.size_alloc, hw1] at this
    exact this
  obtain ⟨w2, hw2⟩ : ∃ w2, w1.alloc (.cells #[.slice a n c] 25) = w2 := ⟨_, rfl⟩
  have hb2 : Below w1.heap.size w1 w2 := by rw [← hw2]; exact bl1 _ _
  have hs2 : w2.heap.size = w.heap.size + 3 := by rw [← hw2]; simp; omega
  have q2 : Boxed w2 (w.heap.size + 2) 25 (.slice a n c) := by rw [← hw2, ← hs1]; exact Boxed.new w1 25 _
  have HMK : Hid _ := fromBehind_any a n c w1
  rw [hw2, hs1] at HMK
  have HITR : Hid _ := behind_itr l a c (w.heap.size + 2) hl (fun b => b = w.heap.size + 2) w2 (by rw [hn]; exact q2) rfl (fun b hb => by omega)
  have H0 : Hid (LaI w (.slice a n c) l 0 w2 (fun b => b = w.heap.size + 2)) := by
    refine ⟨⟨hb1.trans (hb2.mono hb1.size), fun b hb => by omega, by omega, by omega, by rw [← hn]; exact hv⟩, (hb2.block _ q0.lt).trans q0, .slice none 0 0, (hb2.block _ q1.lt).trans q1, .inl ⟨rfl, ?_⟩, fun g hg => by cases hg⟩
    rw [Nat.sub_zero, List.drop_eq_nil_of_le (Nat.le_refl _)]
    rfl
  have HS2 : Hid (w2.heap.size = w.heap.size + 3) := hs2
  have y0 := q0.cell
  rw [hn] at HITR ⊢
  obtain ⟨xs, HX⟩ : ∃ xs, Hid (xs = brev n) := ⟨_, rfl⟩
  have HXL : Hid (xs.length = n) := by show _ = _; rw [HX.out]; exact brev_len n
  have HXA : Hid (∀ i x, xs[i]? = some x → i < n ∧ x = n - 1 - i) := fun i x hx => by
    rw [HX.out] at hx
    have h1 : i < n := by have := (List.getElem?_eq_some_iff.1 hx).1; rw [brev_len] at this; exact this
    rw [brev_at h1] at hx
    exact ⟨h1, (Option.some.inj hx).symm⟩
  rw [← HX.out] at HITR
  have HLN : Hid (l.length ≤ 1000000) := hl
  clear hv hb1 hs1 q0 q1 hw2 hb2 hs2 q2 hn hl HX hlc hw1
  refine callsIn_of_wp_marks Tryz.func11 rfl trivial ?_ rfl
  simp only [Tryz.ntmps11, List.size_toArray, List.length_cons, List.length_nil, Nat.reduceAdd, Nat.reduceSub, Array.replicate_succ, Array.replicate_zero, List.push_toArray, List.append_toArray, List.nil_append, List.cons_append]
  rw [← HW1.out] at y0
  gi_wp2
  rw [HW1.out]
  clear y0
  refine ⟨trivial, rfl, (callsIn_wide.2 HMK.out).mono ?_⟩
  rintro e w3 ⟨rfl, hw3⟩
  subst hw3
  clear HMK HW1
  gi_wp2
  refine Rl.range_law (P := Tryz.prog) (gf := 40) (lb := #[.pointer (some ⟨w.heap.size + 2, 0, none⟩)]) rfl (enters_of Tryz.func40 (by kernel_rfl) rfl) (enc := encN l) (xs := xs) (n0 := 0) (m0 := 0) (G := fun A => RE A (.slice a n c) l) (T := fun b => b = w.heap.size + 2)
    HITR.out (fun b hb => by have := HS2.out; omega) (Nat.zero_le _) (Nat.le_refl _) (fun x F W T args h => by rw [show args = _ from h]; rfl)
    (fun k V TB => Hid (LaI w (.slice a n c) l k V TB)) (fun c' k V TB => False)
    (fun k V TV V' TV' h hm => by
      obtain ⟨h1, h2, rv, h3, h4, h5⟩ := h.out
      obtain ⟨m1, m2⟩ := h1.mv hm
      exact ⟨m1, (m2 _ (by omega)).trans h2, rv, (m2 _ (by omega)).trans h3, h4.of_block (fun g hg => hm.same g (h4.lt g hg) (h5 g hg).2), fun g hg => ⟨(h5 g hg).1, hm.no (h4.lt g hg) (h5 g hg).2⟩⟩)
    (fun c k V TV V' TV' h hm => h)
    (fun k V TV h => h.out.1.reV) H0 ?rnd ?done ?stop
  case rnd =>
    rintro m l' k x args F9 V T1 TB hxk henc ⟨Wf, Tf, HIf, hF9, hmF⟩ HI2 hTB hup hnc hlt
    cases henc
    obtain ⟨hkn, hxe⟩ := HXA.out k x hxk
    have HXE : Hid (x = n - 1 - k ∧ k < n) := ⟨hxe, hkn⟩
    clear HIf hF9 hmF hxk hTB hnc hlt HITR H0 HS2 hup hkn hxe
    gi_wp2
    refine ⟨HI2, Rl.Rv.refl _ _ _, fun W2 hmv HI3 hbz => ?_⟩
    clear hbz HI2 hmv
    have HXN : Hid (x < l.length ∧ l.length - k = x + 1 ∧ l.length - (k + 1) = x) := by have := HXE.out; have := HN.out; exact ⟨by omega, by omega, by omega⟩
    rcases nxt_cases (a := x) HLN.out with ⟨hnx, hno⟩ | ⟨g, hnx, hg1, hg2, hg3, hg4⟩
    · rw [show nxtV l x = 9223372036854775807 from hnx]
      obtain ⟨h1, h2, rv, h3, h4, h5⟩ := HI3.out
      have hxn : x < n := by have := HXE.out; omega
      obtain ⟨hwf, b, off, ha, z0, z1, z2, z3⟩ := h1.reV.at' (i := x) HXN.out.1
      subst ha
      have hxi : (x : Int) < (n : Int) := by omega
      obtain ⟨e, he⟩ : ∃ e, l.getD x default = e := ⟨_, rfl⟩
      rw [he] at z0 z1 z2 z3
      have HE : Hid (lastL (l.drop (l.length - (k + 1))) = e :: lastL (l.drop (l.length - k))) := by
        show _ = _
        rw [HXN.out.2.2, HXN.out.2.1, last_step HXN.out.1, if_neg hno, he]
      have y0 := h2.cell
      have y5 := h3.cell
      have f5 := h3.frozen
      -- the new effect, and the append
      obtain ⟨W4, hW4⟩ : ∃ W4, W2.drew.alloc (.cells #[.int .i64 e.i, .bool e.u, .int .i64 e.t, .bool e.ok] 38) = W4 := ⟨_, rfl⟩
      have hb4 : Below W2.heap.size W2 W4 := by rw [← hW4]; exact (Below.refl _ W2).drew.alloc (Nat.le_refl _) _
      have hs4 : W4.heap.size = W2.heap.size + 1 := by rw [← hW4]; simp
      have hnb : W4.heap[W2.heap.size]? = some (.cells (erow e).toArray 38 (0, 0)) := by rw [← hW4]; exact heap_alloc_new W2.drew _
      have hle9 : (lastL (l.drop (l.length - k))).reverse.length ≤ 1000000 := by
        have q1 := lastL_len (l.drop (l.length - k))
        have q2 := HLN.out
        rw [List.length_drop] at q1
        rw [List.length_reverse]
        omega
      obtain ⟨m9, hm9⟩ : ∃ m, (lastL (l.drop (l.length - k))).reverse.length = m := ⟨_, rfl⟩
      obtain ⟨ga, gc, W5, hrun, how, hgr, hob⟩ := run_append_e 25 25 Tryz.underlying25 (h4.later hb4) e hnb (fun hh => by have := h4.lt _ hh; omega) (by omega)
      rw [hm9] at hrun how hob
      obtain ⟨W6, hW6⟩ : ∃ W6, W5.setCell ⟨w.heap.size + 1, 0, none⟩ (.slice ga (m9 + 1) gc) = W6 := ⟨_, rfl⟩
      have hgo : ∀ g, rv.ownBlock = some g → w.heap.size + 2 ≤ g ∧ ¬ TB g := h5
      obtain ⟨c4, r4⟩ := h1.later hb4
      obtain ⟨c5, r5⟩ := c4.grown hgr (fun g hg => ⟨by have := (hgo g hg).1; omega, (hgo g hg).2⟩)
      obtain ⟨c6, r6⟩ := c5.set (i := 0) (.slice ga (m9 + 1) gc) (show w.heap.size ≤ w.heap.size + 1 by omega) (by omega)
      rw [hW6] at c6 r6
      have b4 : ∀ q, q < W2.heap.size → W4.heap[q]? = W2.heap[q]? := fun q hq => hb4.block q hq
      have b5 : ∀ q, q < w.heap.size + 2 → W5.heap[q]? = W2.heap[q]? := fun q hq => (hgr.block q (by have := h1.sz; omega) (fun e => by have := (hgo q e.symm).1; omega)).trans (b4 q (by have := h1.sz; omega))
      have hTBn : ∀ g, (Value.slice ga (m9 + 1) gc).ownBlock = some g → w.heap.size + 2 ≤ g ∧ ¬ TB g := fun g hg => by
        rcases hob with h | h
        · exact hgo g (h ▸ hg)
        · rw [hg] at h
          have h9 : g = W4.heap.size := Option.some.inj h
          exact ⟨by have := h1.sz; omega, fun ht => by have := (h1.own g ht).2; omega⟩
      have HI5 : Hid (LaI w (.slice (some ⟨b, off, none⟩) n c) l (k + 1) W6 TB) := by
        refine ⟨c6, ?_, .slice ga (m9 + 1) gc, ?_, ?_, hTBn⟩
        · rw [← hW6]
          exact (set_same _ _ _ _ _ (by omega)).trans ((b5 _ (by omega)).trans h2)
        · rw [← hW6]
          exact Boxed.set _ ((b5 _ (by omega)).trans h3)
        · rw [HE.out, List.reverse_cons, ← hW6]
          exact how.of_block (fun g hg => set_same _ _ _ _ _ (by have := (hTBn g hg).1; omega))
      have HR5 : Hid (Rl.Rv 0 TB W2 W6) := (r4.trans r5).trans r6
      -- what stands throughout
      obtain ⟨S, hS⟩ : ∃ S : World → Prop, S = fun wx => wx.cell? ⟨w.heap.size, 0, none⟩ = some (.slice (some ⟨b, off, none⟩) n c) ∧ wx.cell? ⟨b, off + x * 4, none⟩ = some (.int .i64 e.i) ∧ wx.cell? ⟨b, off + x * 4 + 1, none⟩ = some (.bool e.u) ∧ wx.cell? ⟨b, off + x * 4 + 2, none⟩ = some (.int .i64 e.t) ∧ wx.cell? ⟨b, off + x * 4 + 3, none⟩ = some (.bool e.ok) := ⟨_, rfl⟩
      have hSx : ∀ wx, CoS w (.slice (some ⟨b, off, none⟩) n c) l (w.heap.size + 2) wx TB → wx.heap[w.heap.size]? = W2.heap[w.heap.size]? → S wx := fun wx hc hb9 => by
        rw [hS]
        obtain ⟨_, b', off', ha', q⟩ := hc.reV.at' (i := x) HXN.out.1
        simp only [Option.some.injEq, Addr.mk.injEq, and_true] at ha'
        obtain ⟨rfl, rfl⟩ := ha'
        rw [he] at q
        exact ⟨(show Boxed wx w.heap.size 25 _ from hb9.trans h2).cell, q⟩
      have HS2 : Hid (S W2.drew) := hSx W2.drew (h1.mv (Rl.Mv.drew _ _)).1 rfl
      have HS4 : Hid (S W4) := hSx W4 c4 (b4 _ (by have := h1.sz; omega))
      have HS5 : Hid (S W5) := hSx W5 c5 (b5 _ (by omega))
      have HS6 : Hid (S W6) := hSx W6 c6 (by rw [← hW6]; exact (set_same _ _ _ _ _ (by omega)).trans (b5 _ (by omega)))
      have yd : W2.drew.cell? ⟨w.heap.size + 1, 0, none⟩ = some rv := y5
      have y4 : W4.cell? ⟨w.heap.size + 1, 0, none⟩ = some rv := (show Boxed W4 (w.heap.size + 1) 25 rv from (b4 _ (by have := h1.sz; omega)).trans h3).cell
      have hB5 : Boxed W5 (w.heap.size + 1) 25 rv := (b5 _ (by omega)).trans h3
      have y6 := hB5.cell
      have f6 := hB5.frozen
      obtain ⟨rva, rvc, hrv⟩ : ∃ ra rc, rv = .slice ra m9 rc := by
        rcases h4 with ⟨e1, e2⟩ | ⟨g, cap, cur, e1, _⟩
        · rw [e2] at hm9
          exact ⟨none, 0, by rw [e1, ← hm9]; rfl⟩
        · exact ⟨_, _, by rw [e1, hm9]⟩
      subst hrv
      clear h1 h2 h3 h4 h5 HI3 hnx hno hwf c4 c5 c6 r4 r5 r6 b4 b5 hob hgo hTBn how hgr hnb hb4 hs4 hle9 hSx hB5 y0 z0 z1 z2 z3 he hm9 y5 f5
      gi_wp2
      subst hS
      refine regionR (S := fun wx => wx.cell? ⟨w.heap.size, 0, none⟩ = some (.slice (some ⟨b, off, none⟩) n c) ∧ wx.cell? ⟨b, off + x * 4, none⟩ = some (.int .i64 e.i) ∧ wx.cell? ⟨b, off + x * 4 + 1, none⟩ = some (.bool e.u) ∧ wx.cell? ⟨b, off + x * 4 + 2, none⟩ = some (.int .i64 e.t) ∧ wx.cell? ⟨b, off + x * 4 + 3, none⟩ = some (.bool e.ok)) (β := Unit) (fun _ => [(12, .slice rva m9 rvc), (13, .slice (some ⟨b, off, none⟩) n c), (14, .int .i64 (x : Int)), (15, .pointer (some ⟨b, off + x * 4, none⟩)), (16, .agg #[.int .i64 e.i, .bool e.u, .int .i64 e.t, .bool e.ok]), (17, .slice (some ⟨W2.heap.size, 0, none⟩) 1 1), (18, .slice ga (m9 + 1) gc)]) (fun _ w' => w' = W6) (by kernel_rfl) ?_ ?_
      · have hS0 := HS2.out
        simp only [List.size_toArray, List.length_cons, List.length_nil, Nat.reduceAdd, Array.replicate_succ, Array.replicate_zero, List.push_toArray, List.nil_append, List.cons_append]
        refine takeR (i := 1) (d := 13) (v := .slice (some ⟨b, off, none⟩) n c) (fuel := 7) (by kernel_rfl) rfl rfl (by kernel_rfl) (by kernel_rfl) (by kernel_rfl) (fun _ _ _ h => by cases h.1) (.inl ⟨by kernel_rfl, fun wx h => by obtain ⟨y0, y1, y2, y3, y4⟩ := h; go_simp⟩) hS0 ?_
        simp only [List.setIfInBounds_toArray, List.set_cons_succ, List.set_cons_zero]
        refine takeR (i := 2) (d := 14) (v := .int .i64 (x : Int)) (fuel := 6) (by kernel_rfl) rfl rfl (by kernel_rfl) (by kernel_rfl) (by kernel_rfl) (fun _ _ _ h => by cases h.1) (.inl ⟨by kernel_rfl, fun wx h => by go_simp⟩) hS0 ?_
        simp only [List.setIfInBounds_toArray, List.set_cons_succ, List.set_cons_zero]
        refine takeR (i := 3) (d := 15) (v := .pointer (some ⟨b, off + x * 4, none⟩)) (fuel := 5) (by kernel_rfl) rfl rfl (by kernel_rfl) (by kernel_rfl) (by kernel_rfl) (fun _ _ _ h => by cases h.1) (.inl ⟨by kernel_rfl, fun wx h => by go_simp⟩) hS0 ?_
        simp only [List.setIfInBounds_toArray, List.set_cons_succ, List.set_cons_zero]
        refine takeR (i := 4) (d := 16) (v := .agg #[.int .i64 e.i, .bool e.u, .int .i64 e.t, .bool e.ok]) (fuel := 4) (by kernel_rfl) rfl rfl (by kernel_rfl) (by kernel_rfl) (by kernel_rfl) (fun _ _ _ h => by cases h.1) (.inl ⟨by kernel_rfl, fun wx h => by obtain ⟨y0, y1, y2, y3, y4⟩ := h; go_simp⟩) hS0 ?_
        simp only [List.setIfInBounds_toArray, List.set_cons_succ, List.set_cons_zero]
        refine readyR (rs := [0, 5]) (by kernel_rfl) (by decide) (fun i hi => ?_)
        rcases List.mem_cons.1 hi with rfl | hi
        · clear hi
          refine valR (d := 12) (v := .slice rva m9 rvc) (w' := W2.drew) (fuel := 3) rfl (by intro c h; cases h) rfl (by kernel_rfl) (by have y9 := yd; go_simp) HS2.out ?_
          simp only [List.setIfInBounds_toArray, List.set_cons_succ, List.set_cons_zero]
          refine readyR (rs := [5]) (by kernel_rfl) (by decide) (List.forall_mem_singleton.2 ?_)
          refine valR (d := 17) (v := .slice (some ⟨W2.heap.size, 0, none⟩) 1 1) (w' := W4) (fuel := 2) rfl (by intro c h; cases h) rfl (by kernel_rfl) (by go_simp) HS4.out ?_
          simp only [List.setIfInBounds_toArray, List.set_cons_succ, List.set_cons_zero]
          refine readyR (rs := [6]) (by kernel_rfl) (by decide) (List.forall_mem_singleton.2 ?_)
          refine valR (d := 18) (v := .slice ga (m9 + 1) gc) (w' := W5) (fuel := 1) rfl (by intro c h; cases h) rfl (by kernel_rfl) (append_exec (s := .tmp 12) (x := .tmp 17) rfl rfl rfl hrun) HS5.out ?_
          simp only [List.setIfInBounds_toArray, List.set_cons_succ, List.set_cons_zero]
          refine readyR (rs := [7]) (by kernel_rfl) (by decide) (List.forall_mem_singleton.2 ?_)
          refine setR (w' := W6) (fuel := 0) rfl (by intro c h; cases h) rfl (by kernel_rfl) (by go_simp) HS6.out ?_
          refine doneR (by kernel_rfl) ?_ _
          exact ⟨rfl, (), by kernel_rfl, rfl⟩
        · obtain rfl := List.mem_singleton.1 hi
          clear hi
          refine valR (d := 17) (v := .slice (some ⟨W2.heap.size, 0, none⟩) 1 1) (w' := W4) (fuel := 3) rfl (by intro c h; cases h) rfl (by kernel_rfl) (by go_simp) HS4.out ?_
          simp only [List.setIfInBounds_toArray, List.set_cons_succ, List.set_cons_zero]
          refine readyR (rs := [0]) (by kernel_rfl) (by decide) (List.forall_mem_singleton.2 ?_)
          refine valR (d := 12) (v := .slice rva m9 rvc) (w' := W4) (fuel := 2) rfl (by intro c h; cases h) rfl (by kernel_rfl) (by have y9 := y4; go_simp) HS4.out ?_
          simp only [List.setIfInBounds_toArray, List.set_cons_succ, List.set_cons_zero]
          refine readyR (rs := [6]) (by kernel_rfl) (by decide) (List.forall_mem_singleton.2 ?_)
          refine valR (d := 18) (v := .slice ga (m9 + 1) gc) (w' := W5) (fuel := 1) rfl (by intro c h; cases h) rfl (by kernel_rfl) (append_exec (s := .tmp 12) (x := .tmp 17) rfl rfl rfl hrun) HS5.out ?_
          simp only [List.setIfInBounds_toArray, List.set_cons_succ, List.set_cons_zero]
          refine readyR (rs := [7]) (by kernel_rfl) (by decide) (List.forall_mem_singleton.2 ?_)
          refine setR (w' := W6) (fuel := 0) rfl (by intro c h; cases h) rfl (by kernel_rfl) (by go_simp) HS6.out ?_
          refine doneR (by kernel_rfl) ?_ _
          exact ⟨rfl, (), by kernel_rfl, rfl⟩
      · rintro _ w5 rfl
        simp only [setAll, List.setIfInBounds_toArray, List.set_cons_succ, List.set_cons_zero]
        clear yd y4 y6 f6 hrun hW4 hW6 HS2 HS4 HS5 HS6
        gi_wp2
        exact ⟨HI5, HR5.out⟩
    · rw [hnx]
      have hgm : ¬ ((g : Int) = 9223372036854775807) := by have := HLN.out; omega
      have HI5 : Hid (LaI w (.slice a n c) l (k + 1) W2 TB) := by
        obtain ⟨h1, h2, rv, h3, h4, h5⟩ := HI3.out
        refine ⟨h1, h2, rv, h3, ?_, h5⟩
        rw [HXN.out.2.2, last_step HXN.out.1, if_pos hg4, ← HXN.out.2.1]
        exact h4
      clear HI3 hnx hg1 hg2 hg3 hg4
      gi_wp2
      exact ⟨HI5, Rl.Rv.refl _ _ _⟩
  case done =>
    rintro V T2 h hold hup hdef hts
    obtain ⟨h1, h2, rv, h3, h4, h5⟩ := h.out
    have he9 : l.length - xs.length = 0 := by rw [HXL.out, HN.out]; omega
    rw [he9] at h4
    have HV : Hid (V.heap[w3.heap.size]? = some (.deferred (some [])) ∧ T2 w3.heap.size) := ⟨hdef, hts⟩
    have HC : Hid (CoS w (.slice a n c) l (w.heap.size + 2) V T2 ∧ Boxed V (w.heap.size + 1) 25 rv ∧ ∀ g, rv.ownBlock = some g → w.heap.size + 2 ≤ g ∧ ¬ T2 g) := ⟨h1, h3, h5⟩
    have HRV : Hid _ := reverse_any _ rv V h4 (by have q1 := lastL_len (l.drop 0); have q2 := HLN.out; rw [List.length_drop] at q1; rw [List.length_reverse]; omega)
    have y0 := h3.cell
    obtain ⟨ra, rn, rc, hrv⟩ : ∃ ra rn rc, rv = .slice ra rn rc := by
      rcases h4 with ⟨e1, e2⟩ | ⟨g, cap, cur, e1, _⟩
      · exact ⟨none, 0, 0, e1⟩
      · exact ⟨_, _, _, e1⟩
    subst hrv
    clear h h1 h2 h3 h4 h5 hold hup hdef hts HITR H0 he9
    gi_wp2
    refine ⟨trivial, rfl, (callsIn_wide.2 HRV.out).mono ?_⟩
    rintro e w4 ⟨rfl, how, hgr⟩
    rw [List.reverse_reverse] at how
    have HOW : Hid (OwE w4 (.slice ra rn rc) (lastL l)) := how
    obtain ⟨hc1, hc2⟩ := HC.out.1.grown hgr (fun g hg => ⟨by have := (HC.out.2.2 g hg).1; omega, (HC.out.2.2 g hg).2⟩)
    have HC4 : Hid (CoS w (.slice a n c) l (w.heap.size + 2) w4 T2) := hc1
    have hD : w4.heap[w3.heap.size]? = some (.deferred (some [])) := (hc2.keep _ HV.out.2 (row_lt HV.out.1)).trans HV.out.1
    have HD : Hid _ := hD
    have hbx : Boxed w4 (w.heap.size + 1) 25 (.slice ra rn rc) := (hgr.block _ HC.out.2.1.lt (fun e => by have := (HC.out.2.2 _ e.symm).1; omega)).trans HC.out.2.1
    have y1 := hbx.cell
    clear how hgr hc1 hc2 hD hbx HRV y0
    gi_wp2
    show LeavesInM Fence.wide 0 Tryz.prog Tryz.f11 _ R ([w3.heap.size].map Rl.mark) .returning _
    refine Rl.leaves_marks (T := T2) (by simp) (fun A => CoS w (.slice a n c) l (w.heap.size + 2) A T2 ∧ OwE A (.slice ra rn rc) (lastL l)) ?_ ?_ _ _ ⟨by simp, fun D hD => by simp at hD; subst hD; exact ⟨HV.out.2, HD.out⟩⟩ ⟨HC4.out, HOW.out⟩
    · rintro A D hD ⟨k1, k2⟩
      exact ⟨(k1.mv (Rl.Mv.putObj A _ hD)).1, k2.of_block (fun g hg => World.putObj_heap_other (fun e => (HC.out.2.2 g hg).2 (by rw [e]; exact hD)))⟩
    · rintro A ⟨k1, k2⟩
      refine ⟨_, results_slot2 rfl _ _ rfl, ?_⟩
      rw [HR.out]
      exact ⟨_, rfl, k2, k1.bel, fun g hg => by have := (HC.out.2.2 g hg).1; omega⟩
  case stop =>
    rintro c' k V T2 hk h hold hup hdef hts
    exact h.elim
end Go.Proofs.YtlegmmhacnbnlaaGreatDoor.J.Tz

