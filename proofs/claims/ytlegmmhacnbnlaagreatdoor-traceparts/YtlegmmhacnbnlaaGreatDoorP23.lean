/- Texts of the seat, packed: JRe JRf JRg. -/
import Derived.Test.YtlegmmhacnbnlaaGreatDoorP22
/- Again. -/
namespace Go.Proofs.YtlegmmhacnbnlaaGreatDoor.J.Tz
open Go.RowKit Go.Shelf Go.Proofs.YtlegmmhacnbnlaaGreatDoor.J
set_option maxRecDepth 1000000
set_option linter.unusedVariables false

theorem results_slot2 {P : Program} {fn : Func} (h : fn.results = #[.tmp 2]) (tmps : Array Value) (w : World) {v : Value} (hp : tmps.getD 2 undef = v) : (results fn tmps).run P w = .ok v w := by
  have hp' : tmps[2]?.getD undef = v := by simpa using hp
  simp [results, h, hp', go_sem]

/-- Between two places. -/
def AgI (w : World) (v : Value) (l : List Ef) (k : Nat) (V : World) (TB : Nat → Prop) : Prop :=
  CoS w v l (w.heap.size + 1) V TB ∧ Boxed V w.heap.size 3 (.int .i64 (cntB (l.drop (l.length - k)) : Nat))

attribute [local go_sem] Oper.semAt_some

set_option maxHeartbeats 16000000 in
theorem again_any (l : List Ef) (v : Value) (hl : l.length ≤ 1000000) (w : World) (hv : RE w v l) :
    Calls Tryz.prog 9 #[v] w fun e w' => e = .returned (.int .i64 (agn [] l : Nat)) ∧ Below w.heap.size w w' := by
  obtain ⟨a, c, hvs, hlc⟩ := hv.slice
  subst hvs
  obtain ⟨n, hn⟩ : ∃ n, l.length = n := ⟨_, rfl⟩
  have HN : Hid (l.length = n) := hn
  obtain ⟨w1, hw1⟩ : ∃ w1, w.alloc (.cells #[.int .i64 0] 3) = w1 := ⟨_, rfl⟩
  have HW1 : Hid (w.alloc (.cells #[.int .i64 0] 3) = w1) := hw1
  obtain ⟨R, HR⟩ : ∃ R : Ending → World → Prop, Hid (R = fun e w' => e = .returned (.int .i64 (agn [] l : Nat)) ∧ Below w.heap.size w w') := ⟨_, rfl⟩
  rw [← HR.out]
  suffices key : CallsIn Fence.wide 0 Tryz.prog 9 #[.slice a l.length c] w R from callsIn_wide.1 key
  have hb1 : Below w.heap.size w w1 := by rw [← hw1]; exact bl1 _ _
  have hs1 : w1.heap.size = w.heap.size + 1 := by rw [← hw1]; simp
  have q0 : Boxed w1 w.heap.size 3 (.int .i64 0) := by rw [← hw1]; exact Boxed.new w 3 _
  obtain ⟨w2, hw2⟩ : ∃ w2, w1.alloc (.cells #[.slice a n c] 25) = w2 := ⟨_, rfl⟩
  have hb2 : Below w1.heap.size w1 w2 := by rw [← hw2]; exact bl1 _ _
  have hs2 : w2.heap.size = w.heap.size + 2 := by rw [← hw2]; simp; omega
  have q2 : Boxed w2 (w.heap.size + 1) 25 (.slice a n c) := by rw [← hw2, ← hs1]; exact Boxed.new w1 25 _
  have HMK : Hid _ := fromBehind_any a n c w1
  rw [hw2, hs1] at HMK
  have HITR : Hid _ := behind_itr l a c (w.heap.size + 1) hl (fun b => b = w.heap.size + 1) w2 (by rw [hn]; exact q2) rfl (fun b hb => by omega)
  have H0 : Hid (AgI w (.slice a n c) l 0 w2 (fun b => b = w.heap.size + 1)) := by
    refine ⟨⟨hb1.trans (hb2.mono hb1.size), fun b hb => by omega, by omega, by omega, by rw [← hn]; exact hv⟩, ?_⟩
    rw [Nat.sub_zero, List.drop_eq_nil_of_le (Nat.le_refl _)]
    exact (hb2.block _ q0.lt).trans q0
  have HS2 : Hid (w2.heap.size = w.heap.size + 2) := hs2
  rw [hn] at HITR ⊢
  obtain ⟨xs, HX⟩ : ∃ xs, Hid (xs = brev n) := ⟨_, rfl⟩
  have HXL : Hid (xs.length = n) := by show _ = _; rw [HX.out]; exact brev_len n
  have HXA : Hid (∀ i x, xs[i]? = some x → i < n ∧ x = n - 1 - i) := fun i x hx => by
    rw [HX.out] at hx
    have h1 : i < n := by have := (List.getElem?_eq_some_iff.1 hx).1; rw [brev_len] at this; exact this
    rw [brev_at h1] at hx
    exact ⟨h1, (Option.some.inj hx).symm⟩
  rw [← HX.out] at HITR
  have HLN : Hid (l.length ≤ 1000000) := hl
  clear hv hb1 hs1 q0 hw2 hb2 hs2 q2 hn hl HX hlc hw1
  refine callsIn_of_wp_marks Tryz.func9 rfl trivial ?_ rfl
  simp only [Tryz.ntmps9, List.size_toArray, List.length_cons, List.length_nil, Nat.reduceAdd, Nat.reduceSub, Array.replicate_succ, Array.replicate_zero, List.push_toArray, List.append_toArray, List.nil_append, List.cons_append]
  gi_wp2
  rw [HW1.out]
  refine ⟨trivial, rfl, (callsIn_wide.2 HMK.out).mono ?_⟩
  rintro e w3 ⟨rfl, hw3⟩
  subst hw3
  clear HMK HW1
  gi_wp2
  refine Rl.range_law (P := Tryz.prog) (gf := 40) (lb := #[.pointer (some ⟨w.heap.size + 1, 0, none⟩)]) rfl (enters_of Tryz.func40 (by kernel_rfl) rfl) (enc := encN l) (xs := xs) (n0 := 0) (m0 := 0) (G := fun A => RE A (.slice a n c) l) (T := fun b => b = w.heap.size + 1)
    HITR.out (fun b hb => by have := HS2.out; omega) (Nat.zero_le _) (Nat.le_refl _) (fun x F W T args h => by rw [show args = _ from h]; rfl)
    (fun k V TB => Hid (AgI w (.slice a n c) l k V TB)) (fun c' k V TB => False)
    (fun k V TV V' TV' h hm => by
      obtain ⟨h1, h2⟩ := h.out
      obtain ⟨m1, m2⟩ := h1.mv hm
      exact ⟨m1, (m2 _ (by omega)).trans h2⟩)
    (fun c k V TV V' TV' h hm => h)
    (fun k V TV h => h.out.1.reV) H0 ?rnd ?done ?stop
  case rnd =>
    rintro m l' k x args F9 V T1 TB hxk henc ⟨Wf, Tf, HIf, hF9, hmF⟩ HI2 hTB hup hnc hlt
    cases henc
    obtain ⟨hkn, hxe⟩ := HXA.out k x hxk
    have HXE : Hid (x = n - 1 - k ∧ k < n) := ⟨hxe, hkn⟩
    clear HIf hF9 hmF hxk hTB hnc hlt HITR H0 HS2 hup hkn hxe
    gi_wp2
    refine ⟨HI2, Rl.Rv.refl _ _ _, fun W2 hmv HI3 hbz => ?_⟩
    clear hbz HI2 hmv
    have HI4 : Hid (AgI w (.slice a n c) l k W2 TB) := HI3
    obtain ⟨h1, h2⟩ := HI3.out
    have y0 := h2.cell
    have f0 := h2.frozen
    have HXN : Hid (x < l.length ∧ l.length - k = x + 1 ∧ l.length - (k + 1) = x) := by have := HXE.out; have := HN.out; exact ⟨by omega, by omega, by omega⟩
    rcases nxt_cases (a := x) HLN.out with ⟨hnx, hno⟩ | ⟨g, hnx, hg1, hg2, hg3, hg4⟩
    · rw [show nxtV l x = 9223372036854775807 from hnx]
      have HI5 : Hid (AgI w (.slice a n c) l (k + 1) W2 TB) := by
        refine ⟨h1, ?_⟩
        rw [HXN.out.2.2, cntB_step HXN.out.1, if_neg hno, Nat.zero_add, ← HXN.out.2.1]
        exact h2
      clear HI3 h1 h2 hnx hno
      gi_wp2
      exact ⟨HI5, Rl.Rv.refl _ _ _⟩
    · rw [hnx]
      have hgm : ¬ ((g : Int) = 9223372036854775807) := by have := HLN.out; omega
      obtain ⟨q, hq⟩ : ∃ q, cntB (l.drop (l.length - k)) = q := ⟨_, rfl⟩
      have hq9 : (q : Int) ≤ 1000000 := by have := cntB_le (l.drop (l.length - k)); have := HLN.out; rw [List.length_drop] at *; omega
      have HQ : Hid (cntB (l.drop (l.length - (k + 1))) = q + 1) := by
        show _ = _
        rw [HXN.out.2.2, cntB_step HXN.out.1, if_pos hg4, ← HXN.out.2.1, hq, Nat.add_comm]
      rw [hq] at y0
      obtain ⟨m1, m2⟩ := h1.set (i := 0) (.int .i64 ((q : Int) + 1)) (Nat.le_refl _) (show w.heap.size < w.heap.size + 1 by omega)
      have HI5 : Hid (AgI w (.slice a n c) l (k + 1) (W2.setCell ⟨w.heap.size, 0, none⟩ (.int .i64 ((q : Int) + 1))) TB ∧ Rl.Rv 0 TB W2 (W2.setCell ⟨w.heap.size, 0, none⟩ (.int .i64 ((q : Int) + 1)))) := by
        refine ⟨⟨m1, ?_⟩, m2⟩
        rw [HQ.out, show ((q + 1 : Nat) : Int) = (q : Int) + 1 by omega]
        exact Boxed.set _ h2
      clear HI3 h1 h2 hnx m1 m2 hq hg1 hg2 hg3 hg4
      gi_wp2
      exact HI5.out
  case done =>
    rintro V T2 h hold hup hdef hts
    obtain ⟨h1, h2⟩ := h.out
    have HV : Hid (V.heap[w3.heap.size]? = some (.deferred (some [])) ∧ T2 w3.heap.size) := ⟨hdef, hts⟩
    have y0 := h2.cell
    have HC : Hid (CoS w (.slice a n c) l (w.heap.size + 1) V T2) := h1
    have hc : cntB (l.drop (l.length - xs.length)) = agn [] l := by
      rw [HXL.out, HN.out, Nat.sub_self]
      exact cntB_agn l
    rw [hc] at y0
    clear h h1 h2 hold hup hdef hts HITR H0 hc
    gi_wp2
    show LeavesInM Fence.wide 0 Tryz.prog Tryz.f9 _ R ([w3.heap.size].map Rl.mark) .returning _
    refine Rl.leaves_marks (T := T2) (by simp) (fun A => CoS w (.slice a n c) l (w.heap.size + 1) A T2) ?_ ?_ _ _ ⟨by simp, fun D hD => by simp at hD; subst hD; exact ⟨HV.out.2, HV.out.1⟩⟩ HC.out
    · rintro A D hD k1
      exact (k1.mv (Rl.Mv.putObj A _ hD)).1
    · rintro A k1
      refine ⟨_, results_slot2 rfl _ _ rfl, ?_⟩
      rw [HR.out]
      exact ⟨rfl, k1.bel⟩
  case stop =>
    rintro c' k V T2 hk h hold hup hdef hts
    exact h.elim
end Go.Proofs.YtlegmmhacnbnlaaGreatDoor.J.Tz

/- Find: the program's, and the document's. -/
namespace Go.Proofs.YtlegmmhacnbnlaaGreatDoor.J.Tz
open Go.RowKit Go.Shelf Go.Proofs.YtlegmmhacnbnlaaGreatDoor.J
set_option maxRecDepth 1000000
set_option linter.unusedVariables false

theorem eq_if' {α : Type} {b : Prop} [Decidable b] {x : Bool → α} : (if b then x true else x false) = x (decide b) := by
  by_cases h : b <;> simp [h]

theorem eq_key (k k' : Kx) (w : World) : (Go.binOp .eql 36 (KV k) (KV k')).run Tryz.prog w = .ok (.bool (decide (k = k'))) w := by
  obtain ⟨i, u, t⟩ := k
  obtain ⟨i', u', t'⟩ := k'
  rw [← eq_if' (x := fun b => Result.ok (Value.bool b) w)]
  unfold KV
  go_simp
  by_cases h1 : i = i' <;> by_cases h2 : u = u' <;> by_cases h3 : t = t' <;> simp [h1, h2, h3]
theorem eq_exec (k k' : Kx) {o : Oper} {x y : Operand} {a : Act} {w : World} {q : Bool} {ty : TypeId} (ho : o.op = .binOp .eql 36 x y ty) (hx : a.eval x = KV k) (hy : a.eval y = KV k') (hq : decide (k = k') = q) : (execOp a.eval o).run Tryz.prog w = .ok (.value (.bool q)) w := by
  unfold execOp
  subst hq
  have hg : (eqGuard BinOp.eql 36 x y (KV k) (KV k')).run Tryz.prog w = .ok () w := by
    have hk : Tryz.prog.eqGuardType Tryz.prog.depth 36 = false := by kernel_rfl
    unfold eqGuard KV
    simp [hk]
  simp only [ho, hx, hy, Sem.run_bind, eq_key, hg, Result.andThen_ok]
  rfl

/-- Where a key was done first. -/
def findV (k : Kx) (l : List Ef) : Int := match findE k l with
  | some i => i
  | none => -1

/-- Is an effect one of a key? -/
def isK (k : Kx) (e : Ef) : Bool := decide (e.key = k)

set_option maxHeartbeats 1000000 in
theorem isK_any (k : Kx) (e : Ef) (bk : Nat) (w : World) (hk : w.heap[bk]? = some (.cells #[.int .i64 k.1, .bool k.2.1, .int .i64 k.2.2] 36 (0, 0))) :
    Calls Tryz.prog 27 #[EV e, .pointer (some ⟨bk, 0, none⟩)] w fun x w' => x = .returned (.bool (isK k e)) ∧ Below w.heap.size w w' := by
  have c0 : w.cell? ⟨bk, 0, none⟩ = some (.int .i64 k.1) := (cell_row hk 0).trans rfl
  have c1 : w.cell? ⟨bk, 1, none⟩ = some (.bool k.2.1) := (cell_row hk 1).trans rfl
  have c2 : w.cell? ⟨bk, 2, none⟩ = some (.int .i64 k.2.2) := (cell_row hk 2).trans rfl
  unfold isK EV Ef.key
  obtain ⟨ki, ku, kt⟩ := k
  obtain ⟨ei, eu, et, eb⟩ := e
  dsimp only at *
  have d0 : ∀ o : Obj, (w.alloc o).cell? ⟨bk, 0, none⟩ = some (.int .i64 ki) := fun o => cell_later (bl1 w o) c0
  have d1 : ∀ o : Obj, (w.alloc o).cell? ⟨bk, 1, none⟩ = some (.bool ku) := fun o => cell_later (bl1 w o) c1
  have d2 : ∀ o : Obj, (w.alloc o).cell? ⟨bk, 2, none⟩ = some (.int .i64 kt) := fun o => cell_later (bl1 w o) c2
  clear hk c0 c1 c2
  go_enter Tryz.func27, Tryz.ntmps27
  go_wp2_with fail
  all_goals
    go_ret
    exact ⟨ret_b (by simp_all), bl1 _ _⟩

set_option maxHeartbeats 4000000 in
theorem index_any (k : Kx) (l : List Ef) (v : Value) (bk : Nat) (w : World) (h : RE w v l) (hk : w.heap[bk]? = some (.cells #[.int .i64 k.1, .bool k.2.1, .int .i64 k.2.2] 36 (0, 0))) (hl : l.length ≤ 1000000) :
    Calls Tryz.prog 26 #[v, .func (.func 27) #[] #[.pointer (some ⟨bk, 0, none⟩)]] w fun x w' => x = .returned (.int .i64 (findV k l)) ∧ Below w.heap.size w w' := by
  obtain ⟨a, c, rfl, hc1⟩ := h.slice
  obtain ⟨n, HN⟩ : ∃ n, Hid (l.length = n) := ⟨_, rfl⟩
  have HK : Hid (∀ w1 e, Below w.heap.size w w1 → Calls Tryz.prog 27 #[EV e, .pointer (some ⟨bk, 0, none⟩)] w1 fun x w' => x = .returned (.bool (isK k e)) ∧ Below w1.heap.size w1 w') := fun w1 e hb => isK_any k e bk w1 (row_later hk hb)
  have HV : Hid (RE w (.slice a n c) l) := by have h9 := h; rw [HN.out] at h9; exact h9
  rw [HN.out] at hl hc1 ⊢
  clear h hk
  go_enter Tryz.func26, Tryz.ntmps26
  go_wp2_with fail
  go_loopw [8, 5] (fun s8 s5 wr => ∃ (j : Nat), s8 = .int .i64 j ∧ j ≤ n ∧ Hid (Below w.heap.size w wr) ∧ Hid (∀ i, i < j → (l.getD i default).key ≠ k)) (fun s8 _ _ => n - (intOf s8).toNat)
  case atStart => exact ⟨0, rfl, Nat.zero_le _, Below.refl _ _, fun i hi => by omega⟩
  case round =>
    obtain ⟨j, rfl, hj, HB, HX⟩ := hrel
    rename World => wr
    by_cases hlt : j < n
    · obtain ⟨hwf, b, off, ha, d0, d1, d2, d3⟩ := (HV.out.later HB.out).at' (i := j) (by rw [HN.out]; exact hlt)
      subst ha
      have hji : (j : Int) < (n : Int) := by omega
      obtain ⟨e, he⟩ : ∃ e, l.getD j default = e := ⟨_, rfl⟩
      have HE : Hid (l.getD j default = e) := he
      obtain ⟨q, hq⟩ : ∃ q, isK k e = q := ⟨_, rfl⟩
      have HQ : Hid _ := hq
      have HC : Hid _ := HK.out wr e HB.out
      rw [hq] at HC
      rw [he] at d0 d1 d2 d3
      unfold EV at HC
      clear hq he hwf
      cases q with
      | true =>
        go_wp2_with fail
        refine Calls.mono HC.out ?_
        rintro x w2 ⟨rfl, hb2⟩
        have HB2 : Hid _ := HB.out.trans (hb2.mono HB.out.size)
        have HF : Hid (findV k l = j) := by
          have := find_some (k := k) (i := j) (by rw [HN.out]; exact hlt) (by rw [HE.out]; simpa [isK] using HQ.out) HX.out
          show findV _ _ = _
          unfold findV
          rw [this]
        clear hb2 HC d0 d1 d2 d3
        go_wp2_with fail
        go_ret
        exact ⟨(congrArg (fun z => Ending.returned (.int .i64 z)) HF.out.symm), HB2.out⟩
      | false =>
        go_wp2_with fail
        refine Calls.mono HC.out ?_
        rintro x w2 ⟨rfl, hb2⟩
        have HB2 : Hid _ := HB.out.trans (hb2.mono HB.out.size)
        have HX2 : Hid (∀ i, i < j + 1 → (l.getD i default).key ≠ k) := by
          intro i hi
          by_cases e9 : i = j
          · rw [e9, HE.out]
            simpa [isK] using HQ.out
          · exact HX.out i (by omega)
        clear hb2 HC HX d0 d1 d2 d3
        go_wp2_with fail
        go_roundw
        case rel => exact ⟨j + 1, by go_num, by omega, HB2, HX2⟩
        case measure => simp [intOf]; omega
    · have HF : Hid (findV k l = -1) := by
        have := find_none (k := k) (l := l) (fun i hi => HX.out i (by rw [HN.out] at hi; omega))
        show findV _ _ = _
        unfold findV
        rw [this]
      clear HX
      go_wp2_with fail
      go_ret
      exact ⟨(congrArg (fun z => Ending.returned (.int .i64 z)) HF.out.symm), HB.out⟩

set_option maxHeartbeats 1000000 in
theorem find_any (k : Kx) (l : List Ef) (v : Value) (w : World) (h : RE w v l) (hl : l.length ≤ 1000000) :
    Calls Tryz.prog 14 #[v, KV k] w fun x w' => x = .returned (.int .i64 (findV k l)) ∧ Below w.heap.size w w' := by
  obtain ⟨a, c, rfl, hc1⟩ := h.slice
  have HC : Hid _ := index_any k l _ w.heap.size (w.alloc (.cells #[.int .i64 k.1, .bool k.2.1, .int .i64 k.2.2] 36)) (h.later (bl1 _ _)) (heap_alloc_new _ _) hl
  unfold KV
  clear h
  go_enter Tryz.func14, Tryz.ntmps14
  go_wp2_with fail
  refine Calls.mono HC.out ?_
  rintro x w2 ⟨rfl, hb2⟩
  have HB2 : Hid (Below w.heap.size w w2) := (bl1 w _).trans (hb2.mono (by simp))
  clear hb2 HC
  go_wp2_with fail
  go_ret
  exact ⟨rfl, HB2.out⟩
end Go.Proofs.YtlegmmhacnbnlaaGreatDoor.J.Tz

/- slices.Reverse of effects. -/
namespace Go.Proofs.YtlegmmhacnbnlaaGreatDoor.J.Tz
open Go.RowKit Go.Shelf Go.Proofs.YtlegmmhacnbnlaaGreatDoor.J
set_option maxRecDepth 1000000
set_option linter.unusedVariables false

theorem OwE.ec {w : World} {g n c : Nat} {L : List Ef} (h : OwE w (.slice (some ⟨g, 0, none⟩) n c) L) {i : Nat} (hi : i < L.length) : EC w g (i * 4) (L.getD i default) ∧ ∀ j, w.frozen? ⟨g, j, none⟩ = false := by
  rcases h with ⟨e, _⟩ | ⟨g', cap', cur, e, h1, h2, h3, h4, h5⟩
  · cases e
  · simp only [Value.slice.injEq, Option.some.injEq, Addr.mk.injEq] at e
    obtain ⟨⟨rfl, _, _⟩, _, _⟩ := e
    have hg : L[i]? = some (L.getD i default) := by simp [List.getD, hi]
    exact ⟨EC.of fun j hj => by rw [cell_row h3]; exact h5 i _ hg j hj, fun j => froz_row h3 _⟩
theorem OwE.set {w : World} {g n c : Nat} {C : List Ef} (h : OwE w (.slice (some ⟨g, 0, none⟩) n c) C) {i : Nat} (hi : i < C.length) (p : Ef) : OwE (set4 w g (i * 4) p) (.slice (some ⟨g, 0, none⟩) n c) (C.set i p) := by
  rcases h with ⟨e, _⟩ | ⟨g', cap', cur, e, h1, h2, h3, h4, h5⟩
  · cases e
  · simp only [Value.slice.injEq, Option.some.injEq, Addr.mk.injEq] at e
    obtain ⟨⟨rfl, _, _⟩, rfl, rfl⟩ := e
    obtain ⟨cur', k1, k2, k3, k4⟩ := set4_row (o := i * 4) h3 p
    refine .inr ⟨g, c, cur', by rw [List.length_set], by rw [List.length_set]; exact h1, h2, k1, by rw [k2]; exact h4, fun j q hq jj hjj => ?_⟩
    have hj := (List.getElem?_eq_some_iff.1 hq).1
    rw [List.length_set] at hj
    by_cases hij : i = j
    · subst hij
      rw [List.getElem?_set_self hi] at hq
      cases hq
      exact k3 (by omega) jj hjj
    · rw [List.getElem?_set_ne hij] at hq
      rw [k4 _ (by omega)]
      exact h5 j q hq jj hjj

/-- Turned round from both ends, i of each. -/
def RvI (L M : List Ef) (i : Nat) : Prop := M.length = L.length ∧ ∀ t, t < L.length → M.getD t default = if t < i ∨ L.length - i ≤ t then L.getD (L.length - 1 - t) default else L.getD t default
theorem rv_step {L M : List Ef} {i : Nat} (h : RvI L M i) (hi : i < L.length - 1 - i) : RvI L ((M.set i (M.getD (L.length - 1 - i) default)).set (L.length - 1 - i) (M.getD i default)) (i + 1) := by
  obtain ⟨h1, h2⟩ := h
  refine ⟨by simp [h1], fun t ht => ?_⟩
  have e1 := h2 i (by omega)
  have e2 := h2 (L.length - 1 - i) (by omega)
  rw [if_neg (by omega)] at e1 e2
  rw [List.getD_eq_getElem?_getD, List.getElem?_set, List.getElem?_set]
  by_cases q1 : L.length - 1 - i = t
  · subst q1
    rw [if_pos rfl, if_pos (by simp [h1]; omega), e1, if_pos (by omega)]
    simp [show L.length - 1 - (L.length - 1 - i) = i by omega]
  · rw [if_neg q1]
    by_cases q2 : i = t
    · subst q2
      rw [if_pos rfl, if_pos (by omega), e2, if_pos (by omega)]
      rfl
    · rw [if_neg q2, ← List.getD_eq_getElem?_getD, h2 t ht]
      by_cases q3 : t < i ∨ L.length - i ≤ t
      · rw [if_pos q3, if_pos (by omega)]
      · rw [if_neg q3, if_neg (by omega)]
theorem rv_end {L M : List Ef} {i : Nat} (h : RvI L M i) (hi : ¬ (i : Int) < (L.length : Int) - 1 - i) (h2 : 2 * i ≤ L.length) : M = L.reverse := by
  obtain ⟨h1, h3⟩ := h
  refine List.ext_getElem? fun t => ?_
  by_cases ht : t < L.length
  · have e := h3 t ht
    rw [List.getElem?_reverse ht]
    have e1 : M[t]? = some (M.getD t default) := by simp [List.getD, h1, ht]
    have e2 : L[L.length - 1 - t]? = some (L.getD (L.length - 1 - t) default) := by simp [List.getD, show L.length - 1 - t < L.length by omega]
    rw [e1, e2, e]
    by_cases q : t < i ∨ L.length - i ≤ t
    · rw [if_pos q]
    · rw [if_neg q, show L.length - 1 - t = t by omega]
  · rw [List.getElem?_eq_none (by omega), List.getElem?_eq_none (by simp; omega)]
theorem rv_start (L : List Ef) : RvI L L 0 := ⟨rfl, fun t ht => by rw [if_neg (by omega)]⟩

theorem grown_refl (w : World) (row : Option Nat) : w.grownBy w row := ⟨rfl, rfl, rfl, Nat.le_refl _, fun _ _ _ => rfl⟩

set_option maxHeartbeats 8000000 in
theorem reverse_any (L : List Ef) (v : Value) (w : World) (h : OwE w v L) (hl : L.length ≤ 1000000) :
    Calls Tryz.prog 23 #[v] w fun e w' => e = .returned (.tuple #[]) ∧ OwE w' v L.reverse ∧ w.grownBy w' v.ownBlock := by
  rcases id h with ⟨rfl, rfl⟩ | ⟨g, c, cur, rfl, h1, h2, _⟩
  · clear hl
    go_enter Tryz.func23, Tryz.ntmps23
    go_wp2_with fail
    go_loopw [2, 3] (fun s2 s3 wr => s2 = .int .i64 0 ∧ s3 = .int .i64 (-1) ∧ wr = w) (fun _ _ _ => 0)
    case atStart => exact ⟨rfl, rfl, rfl⟩
    obtain ⟨rfl, rfl, rfl⟩ := hrel
    go_wp2_with fail
    refine bodyPost_end (results_none9 rfl _ _) rfl ?_
    exact ⟨rfl, h, grown_refl _ _⟩
  · obtain ⟨n, hn⟩ : ∃ n, L.length = n := ⟨_, rfl⟩
    have HN : Hid (L.length = n) := hn
    have H0 : Hid (OwE w (.slice (some ⟨g, 0, none⟩) n c) L) := by rw [← hn]; exact h
    rw [hn] at hl ⊢
    clear h h1 h2 hn
    go_enter Tryz.func23, Tryz.ntmps23
    go_wp2_with fail
    go_loopw [2, 3] (fun s2 s3 wr => ∃ (i : Nat) (j : Int) (M : List Ef), s2 = .int .i64 i ∧ s3 = .int .i64 j ∧ j = (n : Int) - 1 - i ∧ 2 * i ≤ n ∧ Hid (OwE wr (.slice (some ⟨g, 0, none⟩) n c) M) ∧ Hid (RvI L M i) ∧ Hid (w.grownBy wr (some g))) (fun s2 _ _ => n - (intOf s2).toNat)
    case atStart => exact ⟨0, _, L, rfl, rfl, by simp <;> omega, by omega, H0, rv_start L, grown_refl _ _⟩
    case round =>
      obtain ⟨i, j, M, rfl, rfl, hj, hi2, HM, HR, HG⟩ := hrel
      rename World => wr
      by_cases hlt : (i : Int) < j
      · obtain ⟨x, hx⟩ : ∃ x : Nat, x = n - 1 - i := ⟨_, rfl⟩
        obtain rfl : j = (x : Int) := by omega
        have HJ : Hid ((x : Int) = (n : Int) - 1 - i) := hj
        have hin : (i : Int) < (n : Int) := by omega
        have hxn : (x : Int) < (n : Int) := by omega
        obtain ⟨⟨a0, a1, a2, a3⟩, fz⟩ := HM.out.ec (i := i) (by have := HR.out.1; have := HN.out; omega)
        obtain ⟨⟨b0, b1, b2, b3⟩, _⟩ := HM.out.ec (i := x) (by have := HR.out.1; have := HN.out; omega)
        obtain ⟨p, hp⟩ : ∃ p, M.getD i default = p := ⟨_, rfl⟩
        obtain ⟨q, hq⟩ : ∃ q, M.getD x default = q := ⟨_, rfl⟩
        have HP : Hid (M.getD i default = p ∧ M.getD x default = q) := ⟨hp, hq⟩
        rw [hp] at a0 a1 a2 a3
        rw [hq] at b0 b1 b2 b3
        have HX : Hid (x = n - 1 - i) := hx
        clear hp hq hj hx
        go_wp2_with fail
        go_region
        obtain ⟨wx, hwx⟩ : ∃ wx, set4 (set4 wr g (i * 4) q) g (x * 4) p = wx := ⟨_, rfl⟩
        have HWX : Hid ((((((((wr.setCell ⟨g, i * 4, none⟩ (.int .i64 q.i)).setCell ⟨g, i * 4 + 1, none⟩ (.bool q.u)).setCell ⟨g, i * 4 + 2, none⟩ (.int .i64 q.t)).setCell ⟨g, i * 4 + 3, none⟩ (.bool q.ok)).setCell ⟨g, x * 4, none⟩ (.int .i64 p.i)).setCell ⟨g, x * 4 + 1, none⟩ (.bool p.u)).setCell ⟨g, x * 4 + 2, none⟩ (.int .i64 p.t)).setCell ⟨g, x * 4 + 3, none⟩ (.bool p.ok) = wx) := hwx
        rw [HWX.out]
        have HM2 : Hid (OwE wx.drew (.slice (some ⟨g, 0, none⟩) n c) ((M.set i q).set x p)) := by
          have h1 := (HM.out.set (i := i) (by have := HR.out.1; have := HN.out; omega) q).set (i := x) (by have := HR.out.1; have := HN.out; simp; omega) p
          rw [hwx] at h1
          exact h1.of_block (fun _ _ => rfl)
        have HR2 : Hid (RvI L ((M.set i q).set x p) (i + 1)) := by
          have h1 := rv_step HR.out (by have := HN.out; have := HX.out; omega)
          rw [show L.length - 1 - i = x by have := HN.out; have := HX.out; omega, HP.out.1, HP.out.2] at h1
          exact h1
        have HG2 : Hid (w.grownBy wx.drew (some g)) := by
          have h1 := (set4_kept (fun k => k = g) wr g (i * 4) q rfl).trans (set4_kept (fun k => k = g) (set4 wr g (i * 4) q) g (x * 4) p rfl) (fun _ h _ => h)
          rw [hwx] at h1
          have h2 := HG.out
          exact ⟨h1.os.trans h2.os, h1.tape.trans h2.tape, h1.output.trans h2.output, Nat.le_trans h2.size h1.size, fun k hk hne => (h1.block k (Nat.lt_of_lt_of_le hk h2.size) (fun e => hne (by rw [e]))).trans (h2.block k hk hne)⟩
        clear a0 a1 a2 a3 b0 b1 b2 b3 fz HWX hwx
        go_wp2_with fail
        go_roundw
        case rel =>
          have hJ := HJ.out
          exact ⟨i + 1, (x : Int) - 1, _, by go_num, rfl, by omega, by omega, HM2, HR2, HG2⟩
        case measure => simp [intOf]; omega
      · have HE : Hid (M = L.reverse) := rv_end HR.out (by have := HN.out; omega) (by have := HN.out; omega)
        go_wp2_with fail
        refine bodyPost_end (results_none9 rfl _ _) rfl ?_
        refine ⟨rfl, ?_, HG.out⟩
        rw [← HE.out]
        exact HM.out
end Go.Proofs.YtlegmmhacnbnlaaGreatDoor.J.Tz

