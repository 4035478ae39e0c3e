/- Texts of the seat, packed: JRc. -/
import Derived.Test.YtlegmmhacnbnlaaGreatDoorP18
import Derived.Test.YtlegmmhacnbnlaaGreatDoorP19
/- The places from behind, each with the next one of its key: the iterator. -/
namespace Go.Proofs.YtlegmmhacnbnlaaGreatDoor.J.Tz
open Go.RowKit Go.Shelf Go.Proofs.YtlegmmhacnbnlaaGreatDoor.J
set_option maxRecDepth 1000000
set_option linter.unusedVariables false

theorem mv_grown {T : Nat → Prop} {A B : World} {row : Nat} (h : A.grownBy B (some row)) (hs : B.heap.size = A.heap.size) (hT : T row) : Rl.Mv T A T B :=
  ⟨h.os, h.tape, h.output, h.size, fun k hk hn => h.block k hk (fun e => hn (by cases e; exact hT)), fun _ _ => Iff.rfl, fun hu k hk => by rw [hs]; exact hu k hk⟩

/-- What is left of the iterator when it is left. -/
structure XSt (Ws : World) (T TJ TB : Nat → Prop) (Ds : List Nat) (W : World) : Prop where
  mks : Rl.Marks (fun b => TJ b ∧ ¬ TB b) W Ds
  sub : ∀ b, TB b → TJ b
  own : ∀ b, TJ b → b < W.heap.size
  old : ∀ b, b < Ws.heap.size → (TJ b ↔ T b)
  sz : Ws.heap.size ≤ W.heap.size

section
variable {Ws : World} {T TJ TB : Nat → Prop} {Ds : List Nat} {W W' : World}
theorem XSt.mv (h : XSt Ws T TJ TB Ds W) {TB' : Nat → Prop} (hm : Rl.Mv TB W TB' W') : Rl.Mv TJ W (fun b => TJ b ∨ TB' b) W' ∧ XSt Ws T (fun b => TJ b ∨ TB' b) TB' Ds W' := by
  have hl : ∀ b, TB b → b < W.heap.size := fun b hb => h.own b (h.sub b hb)
  have hsz := h.sz
  refine ⟨hm.wide h.sub hl, h.mks.mono (fun D hD hx => ⟨.inl hD.1, hm.no (h.own D hD.1) hD.2⟩) (fun D hD hx => (hm.same D (h.own D hD.1) hD.2).trans hx), fun b hb => .inr hb, fun b hb => ?_, fun b hb => ?_, Nat.le_trans h.sz hm.size⟩
  · rcases hb with hb | hb
    · exact Nat.lt_of_lt_of_le (h.own b hb) hm.size
    · exact hm.up hl b hb
  · rw [← h.old b hb]
    exact ⟨fun hx => hx.elim id (fun hx => h.sub b ((hm.old b (by omega)).1 hx)), .inl⟩
theorem XSt.rv (h : XSt Ws T TJ TB Ds W) (hr : Rl.Rv 0 TJ W W') : XSt Ws T TJ TB Ds W' :=
  ⟨h.mks.mono (fun D hD _ => hD) (fun D hD hx => (hr.keep D hD.1 (h.own D hD.1)).trans hx), h.sub, fun b hb => Nat.lt_of_lt_of_le (h.own b hb) hr.size, h.old, Nat.le_trans h.sz hr.size⟩
/-- The range within is over. -/
theorem XSt.leave (h : XSt Ws T TJ TB Ds W) {D : Nat} (hT : TB D) (hD : W.heap[D]? = some (.deferred (some []))) : XSt Ws T TJ (fun _ => False) (D :: Ds) W :=
  ⟨Rl.Marks.cons (h.mks.mono (fun D hD _ => ⟨hD.1, id⟩) (fun _ _ hx => hx)) ⟨h.sub D hT, id⟩ hD (fun hm => (h.mks.2 D hm).1.2 hT), fun _ h => h.elim, h.own, h.old, h.sz⟩
end


def encN (l : List Ef) (x : Nat) (_ : Nat) (_ : World) (_ : Nat → Prop) (args : Array Value) : Prop := args = #[.int .i64 (x : Int), .int .i64 (nxtV l x)]
def iV (n : Int) : Value := .int .i64 n

/-- What the iterator knows while it goes on. -/
structure FbS (Y bx bm li : Nat) (l : List Ef) (Ws : World) (T TJ TB : Nat → Prop) (k : Nat) (W : World) : Prop where
  bY : Boxed W Y 86 (.func (.yield li) #[] #[])
  tY : TJ Y
  nY : ¬ TB Y
  bX : Boxed W bx 87 (.map (some bm))
  tX : TJ bx
  nX : ¬ TB bx
  km : KM iV W bm k (metF l (l.length - k))
  tM : TJ bm
  nM : ¬ TB bm
  x : XSt Ws T TJ TB [] W

section
variable {Y bx bm li k : Nat} {l : List Ef} {Ws W W' : World} {T TJ TB : Nat → Prop}
theorem FbS.mv (h : FbS Y bx bm li l Ws T TJ TB k W) {TB' : Nat → Prop} (hm : Rl.Mv TB W TB' W') : Rl.Mv TJ W (fun b => TJ b ∨ TB' b) W' ∧ FbS Y bx bm li l Ws T (fun b => TJ b ∨ TB' b) TB' k W' := by
  obtain ⟨h1, h2⟩ := h.x.mv hm
  exact ⟨h1, Rl.boxed_mv h.bY hm h.nY, .inl h.tY, hm.no (h.x.own _ h.tY) h.nY, Rl.boxed_mv h.bX hm h.nX, .inl h.tX, hm.no (h.x.own _ h.tX) h.nX, h.km.of_block (hm.same bm h.km.lt h.nM), .inl h.tM, hm.no (h.x.own _ h.tM) h.nM, h2⟩
theorem FbS.rv (h : FbS Y bx bm li l Ws T TJ TB k W) (hr : Rl.Rv 0 TJ W W') : FbS Y bx bm li l Ws T TJ TB k W' :=
  ⟨(hr.keep Y h.tY h.bY.lt).trans h.bY, h.tY, h.nY, (hr.keep bx h.tX h.bX.lt).trans h.bX, h.tX, h.nX, h.km.of_block (hr.keep bm h.tM h.km.lt), h.tM, h.nM, h.x.rv hr⟩
/-- One block more. -/
theorem FbS.add (h : FbS Y bx bm li l Ws T TJ TB k W) (o : Obj) : FbS Y bx bm li l Ws T (fun b => TJ b ∨ b = W.heap.size) TB k (W.alloc o) := by
  have hb := bl1 W o
  have hlt : ∀ b, TJ b → b < W.heap.size := h.x.own
  refine ⟨(hb.block _ h.bY.lt).trans h.bY, .inl h.tY, h.nY, (hb.block _ h.bX.lt).trans h.bX, .inl h.tX, h.nX, h.km.later hb, .inl h.tM, h.nM, ?_⟩
  have hx := h.x
  have hsz := hx.sz
  refine ⟨hx.mks.mono (fun D hD _ => ⟨.inl hD.1, hD.2⟩) (fun D hD hq => (hb.block D (hlt D hD.1)).trans hq), fun b hb => .inl (hx.sub b hb), fun b hb => ?_, fun b hb => ?_, by simp; omega⟩
  · rcases hb with hb | rfl
    · simp; have := hlt b hb; omega
    · simp
  · rw [← hx.old b hb]
    exact ⟨fun h => h.resolve_right (by omega), .inl⟩
/-- The place is laid into the map. -/
theorem FbS.put (h : FbS Y bx bm li l Ws T TJ TB k W) (hk : k < l.length) (hg : W.grownBy W' (some bm)) (hs : W'.heap.size = W.heap.size)
    (hm : KM iV W' bm (k + 1) (fun x => if x = (l.getD (l.length - 1 - k) default).key then some ((l.length - 1 - k : Nat) : Int) else metF l (l.length - k) x)) (hne1 : Y ≠ bm) (hne2 : bx ≠ bm) : Rl.Mv TJ W TJ W' ∧ Rl.Rv 0 TB W W' ∧ FbS Y bx bm li l Ws T TJ TB (k + 1) W' := by
  have e : metF l (l.length - (k + 1)) = fun x => if x = (l.getD (l.length - 1 - k) default).key then some ((l.length - 1 - k : Nat) : Int) else metF l (l.length - k) x := by
    rw [show l.length - (k + 1) = l.length - 1 - k by omega, metF_step (by omega), show l.length - 1 - k + 1 = l.length - k by omega]
  have hrv : Rl.Rv 0 TB W W' := ⟨hg.os, hg.tape, hg.output, hg.size, fun k hk => by omega, fun k hk hl => hg.block k hl (fun e => h.nM (by cases e; exact hk))⟩
  refine ⟨mv_grown hg hs h.tM, hrv, (hg.block _ h.bY.lt (fun e => hne1 (by cases e; rfl))).trans h.bY, h.tY, h.nY, (hg.block _ h.bX.lt (fun e => hne2 (by cases e; rfl))).trans h.bX, h.tX, h.nX, by rw [e]; exact hm, h.tM, h.nM, ?_⟩
  have hx := h.x
  exact ⟨by
    have h0 : ∀ D, D ∉ ([] : List Nat) := by simp
    exact ⟨by simp, fun D hD => absurd hD (h0 D)⟩, hx.sub, fun b hb => by rw [hs]; exact hx.own b hb, hx.old, by rw [hs]; exact hx.sz⟩
theorem boxed_ne_map {b bm : Nat} {t : TypeId} {v : Value} {α : Type} {ev : α → Value} {n : Nat} {f : Kx → Option α} (h : Boxed W b t v) (hm : KM ev W bm n f) : b ≠ bm := by
  rintro rfl
  obtain ⟨es, c, h1, _⟩ := hm
  rw [show W.heap[b]? = _ from h] at h1
  cases h1
end

/-- In the range within; where it is left. -/
def FbI (Y bx bm li : Nat) (l : List Ef) (Ws : World) (T : Nat → Prop) (J : Nat → World → (Nat → Prop) → Prop) (k : Nat) (W : World) (TB : Nat → Prop) : Prop := ∃ TJ, J k W TJ ∧ FbS Y bx bm li l Ws T TJ TB k W
def FbX (Ws : World) (T : Nat → Prop) (Jx : Nat → World → (Nat → Prop) → Prop) (k : Nat) (c : Code) (W : World) (TB : Nat → Prop) : Prop := ∃ TJ, c = .ret ∧ Jx k W TJ ∧ XSt Ws T TJ TB [] W

theorem Tryz.underlying87 : Tryz.prog.underlying 87 = some (.map 36 3) := by kernel_rfl
theorem Tryz.zero3 (w : World) : (zeroValue 3).run Tryz.prog w = .ok (.int .i64 0) w := by kernel_rfl

attribute [local go_sem] Oper.semAt_some

set_option maxHeartbeats 16000000 in
theorem behind_itr (l : List Ef) (a : Option Addr) (c bp : Nat) (hl : l.length ≤ 1000000) (T : Nat → Prop) (w : World) (hbp : Boxed w bp 25 (.slice a l.length c)) (tp : T bp) (hown : ∀ b, T b → b < w.heap.size) :
    Rl.Itr Tryz.prog 40 #[.pointer (some ⟨bp, 0, none⟩)] (encN l) (brev l.length) 0 0 (fun A => RE A (.slice a l.length c) l) T w := by
  intro li J Jx W hW hJ hJx hG hY hJ0
  have HY : Hid _ := hY
  have HJ : Hid _ := hJ
  have HJx : Hid _ := hJx
  have HG : Hid _ := hG
  obtain ⟨n, hn⟩ : ∃ n, l.length = n := ⟨_, rfl⟩
  have HN : Hid (l.length = n) := hn
  -- the box of the round; the map, and its box; Backward's box
  obtain ⟨s, hs⟩ : ∃ s, W.heap.size = s := ⟨_, rfl⟩
  obtain ⟨W2, hW2⟩ : ∃ W2, ((W.alloc (.cells #[.func (.yield li) #[] #[]] 86)).alloc (.map #[] 0)).alloc (.cells #[.map (some (s + 1))] 87) = W2 := ⟨_, rfl⟩
  have hs1 : (W.alloc (.cells #[.func (.yield li) #[] #[]] 86)).heap.size = s + 1 := by simp [hs]
  have hs2 : ((W.alloc (.cells #[.func (.yield li) #[] #[]] 86)).alloc (.map #[] 0)).heap.size = s + 2 := by simp [hs]
  have hs3 : W2.heap.size = s + 3 := by rw [← hW2]; simp [hs]
  have hb2 : Below W.heap.size W W2 := by rw [← hW2]; exact bl3 _ _ _ _
  have q1 : Boxed W2 s 86 (.func (.yield li) #[] #[]) := by rw [← hW2, ← hs]; exact ((Boxed.new W 86 _).alloc _).alloc _
  have q2 : KM iV W2 (s + 1) 0 (fun _ => none) := by
    have h1 := (KM.made (ev := iV) (W.alloc (.cells #[.func (.yield li) #[] #[]] 86))).later (bl1 _ (.cells #[.map (some (s + 1))] 87))
    rw [hs1, hW2] at h1
    exact h1
  have q3 : Boxed W2 (s + 1 + 1) 87 (.map (some (s + 1))) := by
    have h1 := Boxed.new ((W.alloc (.cells #[.func (.yield li) #[] #[]] 86)).alloc (.map #[] 0)) 87 (.map (some (s + 1)))
    rw [hs2, hW2] at h1
    exact h1
  have hbp2 : Boxed W2 bp 25 (.slice a n c) := by rw [← hn]; exact (hb2.block bp (Nat.lt_of_lt_of_le hbp.lt hW.size)).trans ((hW.block bp hbp.lt).trans hbp)
  obtain ⟨W3, hW3⟩ : ∃ W3, W2.alloc (.cells #[.slice a n c] 25) = W3 := ⟨_, rfl⟩
  have hs4 : W3.heap.size = s + 4 := by rw [← hW3]; simp [hs3]
  have hb3 : Below W2.heap.size W2 W3 := by rw [← hW3]; exact bl1 _ _
  have hb03 : Below W.heap.size W W3 := hb2.trans (hb3.mono hb2.size)
  have q4 : Boxed W3 (s + 3) 25 (.slice a n c) := by rw [← hW3, ← hs3]; exact Boxed.new W2 25 _
  have hownW : ∀ b, T b → b < s := fun b hb => by have := hown b hb; have := hW.size; omega
  have hMv : Rl.Mv T W (fun b => T b ∨ (s ≤ b ∧ b < s + 4)) W3 := by
    have h1 := Rl.Mv.of_below_own (T := T) hb03
    rw [hs4, hs] at h1
    exact h1
  have HJ3 : Hid (J 0 W3 (fun b => T b ∨ (s ≤ b ∧ b < s + 4))) := hJ _ _ _ _ _ hJ0 hMv
  have HFB : Hid (FbS s (s + 1 + 1) (s + 1) li l W T (fun b => T b ∨ (s ≤ b ∧ b < s + 4)) (fun b => b = s + 3) 0 W3) := by
    refine ⟨(hb3.block _ q1.lt).trans q1, .inr (by omega), by omega, (hb3.block _ q3.lt).trans q3, .inr (by omega), by omega, ?_, .inr (by omega), by omega, ⟨Rl.Marks.nil _ _, fun b hb => .inr (by omega), fun b hb => ?_, fun b hb => ⟨fun h => h.resolve_right (by omega), .inl⟩, by rw [hs4, hs]; omega⟩⟩
    · rw [Nat.sub_zero, metF_end (Nat.le_refl _)]
      exact q2.later hb3
    · rw [hs4]
      rcases hb with hb | hb
      · have := hownW b hb; omega
      · omega
  have HITR : Hid _ := backward_itr l a c (s + 3) hl (fun b => b = s + 3) W3 (by rw [hn]; exact q4) rfl (fun b hb => by omega)
  have HMK : Hid _ := backward_any a n c W2
  rw [hs3, hW3] at HMK
  obtain ⟨xs, HX⟩ : ∃ xs, Hid (xs = brev n) := ⟨_, rfl⟩
  have HXL : Hid (xs.length = n) := by show _ = _; rw [HX.out]; exact brev_len n
  have HXA : Hid (∀ i x, xs[i]? = some x → i < n ∧ x = n - 1 - i) := fun i x hx => by
    rw [HX.out] at hx
    have h1 : i < n := by have := (List.getElem?_eq_some_iff.1 hx).1; rw [brev_len] at this; exact this
    rw [brev_at h1] at hx
    exact ⟨h1, (Option.some.inj hx).symm⟩
  have y9 := hbp2.cell
  rw [hn] at HY HG HITR ⊢
  rw [← HX.out] at HY HITR ⊢
  obtain ⟨R, HR⟩ : ∃ R : Ending → World → Prop, Hid (R = fun e W2 => ∃ v T2, e = .returned v ∧ (J xs.length W2 T2 ∨ ∃ k, k < xs.length ∧ Jx (k + 1) W2 T2) ∧ (∀ b, b < W.heap.size → (T2 b ↔ T b)) ∧ (∀ b, T2 b → b < W2.heap.size)) := ⟨_, rfl⟩
  rw [← HR.out]
  have HS3 : Hid (W3.heap.size = s + 4) := hs4
  have HSW : Hid (W.heap.size = s) := hs
  have HW2 : Hid (((W.alloc (.cells #[.func (.yield li) #[] #[]] 86)).alloc (.map #[] 0)).alloc (.cells #[.map (some (s + 1))] 87) = W2) := hW2
  have HS9 : Hid (((W.alloc (.cells #[.func (.yield li) #[] #[]] 86))).heap.size = s + 1) := hs1
  have HLN : Hid (n ≤ 1000000) := by rw [← hn]; exact hl
  clear hJ hJx hG hY hJ0 hW hbp tp hown HX hn hs hs1 hs2 hs3 hs4 hb2 hb3 hb03 q1 q2 q3 q4 hbp2 hW2 hW3 hownW hMv hl
  refine callsIn_of_wp_marks Tryz.func40 rfl trivial ?_ rfl
  simp only [Tryz.ntmps40, List.size_toArray, List.length_cons, List.length_nil, Nat.reduceAdd, Nat.reduceSub, Array.replicate_succ, Array.replicate_zero, List.push_toArray, List.append_toArray, List.nil_append, List.cons_append]
  have hmm := @run_makeMap Tryz.prog
  obtain rfl := HSW.out
  rw [← HW2.out] at y9
  gi_wp2
  rw [HW2.out]
  refine ⟨trivial, rfl, (callsIn_wide.2 HMK.out).mono ?_⟩
  rintro e w3 ⟨rfl, hw3⟩
  subst hw3
  clear HMK y9 hmm
  gi_wp2
  refine Rl.range_law (P := Tryz.prog) (gf := 48) (lb := #[.pointer (some ⟨W.heap.size + 3, 0, none⟩)]) rfl (enters_of Tryz.func48 (by kernel_rfl) rfl) (enc := encB l) (xs := xs) (n0 := 0) (m0 := 0) (G := fun A => RE A (.slice a n c) l) (T := fun b => b = W.heap.size + 3)
    HITR.out (fun b hb => by have := HS3.out; omega) (Nat.zero_le _) (Nat.le_refl _) (fun x F W T args h => by rw [show args = _ from h]; rfl)
    (fun k V TB => Hid (FbI W.heap.size (W.heap.size + 1 + 1) (W.heap.size + 1) li l W T J k V TB)) (fun c k V TB => Hid (FbX W T Jx k c V TB))
    (fun k V TV V' TV' h hm => by obtain ⟨TJ, h1, h2⟩ := h.out; obtain ⟨m1, m2⟩ := h2.mv hm; exact ⟨_, HJ.out _ _ _ _ _ h1 m1, m2⟩)
    (fun c k V TV V' TV' h hm => by obtain ⟨TJ, h0, h1, h2⟩ := h.out; obtain ⟨m1, m2⟩ := h2.mv hm; exact ⟨_, h0, HJx.out _ _ _ _ _ h1 m1, m2⟩)
    (fun k V TV h => by obtain ⟨TJ, h1, h2⟩ := h.out; exact HG.out _ _ _ h1)
    ⟨_, HJ3.out, HFB.out⟩ ?rnd ?done ?stop
  case rnd =>
    rintro m l' k x args F V T1 TB hxk henc ⟨Wf, Tf, HIf, hF9, hmF⟩ HI hTB hup hnc hlt
    cases henc
    obtain ⟨hkn, hxe⟩ := HXA.out k x hxk
    have HXK : Hid (xs[k]? = some x) := hxk
    have HXE : Hid (x = n - 1 - k) := hxe
    have HKN : Hid (k < n) := hkn
    clear HIf hF9 hmF hxk hTB hnc hup hlt HITR HFB HJ3 hxe hkn
    obtain ⟨e, he⟩ : ∃ e, l.getD x default = e := ⟨_, rfl⟩
    have HE : Hid (l.getD x default = e) := he
    have HEV : Hid (EV (l.getD x default) = .agg #[.int .i64 e.i, .bool e.u, .int .i64 e.t, .bool e.ok]) := by rw [HE.out]; rfl
    rw [HEV.out]
    obtain ⟨TJ, hj2, hm2⟩ := HI.out
    have HM2 : Hid (FbS W.heap.size (W.heap.size + 1 + 1) (W.heap.size + 1) li l W T TJ TB k V) := hm2
    have HJ2 : Hid _ := hj2
    have hwf : wfK (l.getD x default).key := ((HG.out _ _ _ hj2).at' (i := x) (by have := HKN.out; have := HN.out; have := HXE.out; omega)).1
    rw [he] at hwf
    clear hj2 hm2 HI
    -- the effect's box
    obtain ⟨b5, hb5⟩ : ∃ b, V.heap.size = b := ⟨_, rfl⟩
    obtain ⟨W4, hW4⟩ : ∃ W4, V.alloc (.cells #[.int .i64 e.i, .bool e.u, .int .i64 e.t, .bool e.ok] 38) = W4 := ⟨_, rfl⟩
    have HW4 : Hid (V.alloc (.cells #[.int .i64 e.i, .bool e.u, .int .i64 e.t, .bool e.ok] 38) = W4) := hW4
    have HM4 : Hid (FbS W.heap.size (W.heap.size + 1 + 1) (W.heap.size + 1) li l W T (fun b => TJ b ∨ b = b5) TB k W4) := by
      have h1 := HM2.out.add (.cells #[.int .i64 e.i, .bool e.u, .int .i64 e.t, .bool e.ok] 38)
      rw [hb5, hW4] at h1
      exact h1
    have HJ4 : Hid (J k W4 (fun b => TJ b ∨ b = b5)) := by
      have h1 := HJ.out _ _ _ _ _ HJ2.out (Rl.Mv.alloc TJ V (.cells #[.int .i64 e.i, .bool e.u, .int .i64 e.t, .bool e.ok] 38))
      rw [hb5, hW4] at h1
      exact h1
    have HR4 : Hid (Rl.Rv 0 TB V W4) := by rw [← hW4]; exact Rl.Rv.of_below (bl1 _ _) (Nat.zero_le _)
    have HEB : Hid (W4.heap[b5]? = some (.cells #[.int .i64 e.i, .bool e.u, .int .i64 e.t, .bool e.ok] 38 (0, 0))) := by rw [← hW4, ← hb5]; exact heap_alloc_new _ _
    have HN5 : Hid (¬ TB b5) := fun hb => by have := HM2.out.x.own b5 (HM2.out.x.sub b5 hb); omega
    have HWF : Hid (wfK e.key) := hwf
    clear HM2 HJ2 hwf he
    gi_wp2
    clear HW4 hW4 hb5
    refine ⟨⟨_, HJ4.out, HM4.out⟩, HR4.out, fun W2' hmv2 HI2 hbz => ?_⟩
    clear HI2
    obtain ⟨hm5, hf5⟩ := HM4.out.mv hmv2
    generalize hTJ : (fun b => (TJ b ∨ b = b5) ∨ TB b) = TJ5 at hm5 hf5
    have HM5 : Hid (FbS W.heap.size (W.heap.size + 1 + 1) (W.heap.size + 1) li l W T TJ5 TB k W2') := hf5
    have HJ5 : Hid (J k W2' TJ5) := HJ.out _ _ _ _ _ HJ4.out hm5
    have HT5 : Hid (TJ5 b5) := by rw [← hTJ]; exact .inl (.inr rfl)
    have HEB5 : Hid (W2'.heap[b5]? = some (.cells #[.int .i64 e.i, .bool e.u, .int .i64 e.t, .bool e.ok] 38 (0, 0))) := hbz.cells _ _ HEB.out rfl
    have hec : EC W2' b5 0 e := EC.of fun j hj => by rw [cell_row HEB5.out, Nat.zero_add]; show (erow e).toArray[j]? = _; rw [List.getElem?_toArray]
    obtain ⟨z0, z1, z2, z3⟩ := hec
    have y1 := HM5.out.bX.cell
    have y2 := HM5.out.bY.cell
    have hl1 : ∀ v, metF l (l.length - k) e.key = some v → (Instr.lookup 87 (.map (some (W.heap.size + 1))) (.agg #[.int .i64 e.i, .bool e.u, .int .i64 e.t]) true).run Tryz.prog W2' = .ok (.tuple #[.int .i64 v, .bool true]) W2' := fun v hv => HM5.out.km.look_some Tryz.underlying87 hv
    have hl2 : metF l (l.length - k) e.key = none → (Instr.lookup 87 (.map (some (W.heap.size + 1))) (.agg #[.int .i64 e.i, .bool e.u, .int .i64 e.t]) true).run Tryz.prog W2' = .ok (.tuple #[.int .i64 0, .bool false]) W2' := fun hv => HM5.out.km.look_none Tryz.underlying87 (Tryz.zero3 _) HWF.out hv
    have HNX : Hid (nxtV l x = (metF l (l.length - k) e.key).getD never) := by
      show nxtV l x = _
      unfold nxtV
      rw [HE.out, show x + 1 = l.length - k by have := HKN.out; have := HN.out; have := HXE.out; omega]
    clear hmv2 hm5 hf5 hTJ hbz HM4 HJ4 HR4 HEB
    obtain ⟨mv, hmv⟩ : ∃ mv, metF l (l.length - k) e.key = mv := ⟨_, rfl⟩
    rw [hmv] at hl1 hl2 HNX
    have HMV : Hid (metF l (l.length - k) e.key = mv) := hmv
    clear hmv
    obtain ⟨fnn, tms, asg, bdy, hy, hR⟩ := HY.out k x #[.int .i64 (x : Int), .int .i64 (nxtV l x)] W2'.heap.size W2' TJ5 HXK.out rfl ⟨W2', TJ5, HJ5.out, rfl, Rl.Mv.refl _ _⟩ HJ5.out HM5.out.x.own (m - 1)
    cases mv with
    | none =>
      have hl3 := hl2 rfl
      clear hl1 hl2
      have hnx : nxtV l x = 9223372036854775807 := HNX.out
      rw [hnx] at hy
      have HL3 : Hid True := trivial
      gi_wp2
      clear hnx
      clear HL3 hl3
      refine ⟨(fun h => by cases h), RoundIn.mono (F := Fence.wide.inRound l') hR ?_⟩
      rintro e6 W6 ⟨t, rfl, ht1, ht2⟩
      cases t with
      | true =>
        obtain ⟨hj6, hrv⟩ := ht1 rfl
        have HM6 : Hid (FbS W.heap.size (W.heap.size + 1 + 1) (W.heap.size + 1) li l W T TJ5 TB k W6) := HM5.out.rv hrv
        have HEB6 : Hid (W6.heap[b5]? = some (.cells #[.int .i64 e.i, .bool e.u, .int .i64 e.t, .bool e.ok] 38 (0, 0))) := (hrv.keep b5 HT5.out (row_lt HEB5.out)).trans HEB5.out
        have hec : EC W6 b5 0 e := EC.of fun j hj => by rw [cell_row HEB6.out, Nat.zero_add]; show (erow e).toArray[j]? = _; rw [List.getElem?_toArray]
        obtain ⟨z0, z1, z2, z3⟩ := hec
        have y1 := HM6.out.bX.cell
        obtain ⟨W7, hst, hkm, hgr, hsz⟩ := HM6.out.km.store Tryz.underlying87 HWF.out (x : Int)
        have HR6 : Hid (Rl.Rv 0 TB W2' W6) := hrv.mono HM5.out.x.sub
        have HI7 : Hid (FbI W.heap.size (W.heap.size + 1 + 1) (W.heap.size + 1) li l W T J (k + 1) W7 TB) ∧ Hid (Rl.Rv 0 TB W2' W7) := by
          have hkl : k < l.length := by have := HKN.out; have := HN.out; omega
          have hxe : l.length - 1 - k = x := by have := HN.out; have := HXE.out; omega
          obtain ⟨p1, p2, p3⟩ := HM6.out.put (W' := W7) hkl hgr hsz (by rw [hxe, HE.out]; exact hkm) (boxed_ne_map HM6.out.bY HM6.out.km) (boxed_ne_map HM6.out.bX HM6.out.km)
          exact ⟨⟨TJ5, HJ.out _ _ _ _ _ hj6 p1, p3⟩, HR6.out.trans p2⟩
        change (Instr.mapUpdate 87 (.map (some (W.heap.size + 1))) (.agg #[.int .i64 e.i, .bool e.u, .int .i64 e.t]) (.int .i64 (x : Int))).run Tryz.prog W6 = .ok () W7 at hst
        clear ht1 ht2 hj6 hrv HM6 HEB6 HEB5 HM5 HJ5 hy hR hkm hgr hsz HR6 HY
        gi_wp2
        exact HI7
      | false =>
        obtain ⟨hj6, hrv⟩ := ht2 rfl
        have HI7 : Hid (FbX W T Jx (k + 1) .ret W6 TB) := ⟨TJ5, rfl, hj6, HM5.out.x.rv hrv⟩
        have HR6 : Hid (Rl.Rv 0 TB W2' W6) := hrv.mono HM5.out.x.sub
        clear ht1 ht2 hj6 hrv HEB5 HM5 HJ5 hy hR HY
        gi_wp2
        exact ⟨HI7, HR6.out⟩
    | some v =>
      have hl3 := hl1 v rfl
      clear hl1 hl2
      have hnx : nxtV l x = v := HNX.out
      rw [hnx] at hy
      have HL3 : Hid True := trivial
      gi_wp2
      clear hnx
      clear HL3 hl3
      refine ⟨(fun h => by cases h), RoundIn.mono (F := Fence.wide.inRound l') hR ?_⟩
      rintro e6 W6 ⟨t, rfl, ht1, ht2⟩
      cases t with
      | true =>
        obtain ⟨hj6, hrv⟩ := ht1 rfl
        have HM6 : Hid (FbS W.heap.size (W.heap.size + 1 + 1) (W.heap.size + 1) li l W T TJ5 TB k W6) := HM5.out.rv hrv
        have HEB6 : Hid (W6.heap[b5]? = some (.cells #[.int .i64 e.i, .bool e.u, .int .i64 e.t, .bool e.ok] 38 (0, 0))) := (hrv.keep b5 HT5.out (row_lt HEB5.out)).trans HEB5.out
        have hec : EC W6 b5 0 e := EC.of fun j hj => by rw [cell_row HEB6.out, Nat.zero_add]; show (erow e).toArray[j]? = _; rw [List.getElem?_toArray]
        obtain ⟨z0, z1, z2, z3⟩ := hec
        have y1 := HM6.out.bX.cell
        obtain ⟨W7, hst, hkm, hgr, hsz⟩ := HM6.out.km.store Tryz.underlying87 HWF.out (x : Int)
        have HR6 : Hid (Rl.Rv 0 TB W2' W6) := hrv.mono HM5.out.x.sub
        have HI7 : Hid (FbI W.heap.size (W.heap.size + 1 + 1) (W.heap.size + 1) li l W T J (k + 1) W7 TB) ∧ Hid (Rl.Rv 0 TB W2' W7) := by
          have hkl : k < l.length := by have := HKN.out; have := HN.out; omega
          have hxe : l.length - 1 - k = x := by have := HN.out; have := HXE.out; omega
          obtain ⟨p1, p2, p3⟩ := HM6.out.put (W' := W7) hkl hgr hsz (by rw [hxe, HE.out]; exact hkm) (boxed_ne_map HM6.out.bY HM6.out.km) (boxed_ne_map HM6.out.bX HM6.out.km)
          exact ⟨⟨TJ5, HJ.out _ _ _ _ _ hj6 p1, p3⟩, HR6.out.trans p2⟩
        change (Instr.mapUpdate 87 (.map (some (W.heap.size + 1))) (.agg #[.int .i64 e.i, .bool e.u, .int .i64 e.t]) (.int .i64 (x : Int))).run Tryz.prog W6 = .ok () W7 at hst
        clear ht1 ht2 hj6 hrv HM6 HEB6 HEB5 HM5 HJ5 hy hR hkm hgr hsz HR6 HY
        gi_wp2
        exact HI7
      | false =>
        obtain ⟨hj6, hrv⟩ := ht2 rfl
        have HI7 : Hid (FbX W T Jx (k + 1) .ret W6 TB) := ⟨TJ5, rfl, hj6, HM5.out.x.rv hrv⟩
        have HR6 : Hid (Rl.Rv 0 TB W2' W6) := hrv.mono HM5.out.x.sub
        clear ht1 ht2 hj6 hrv HEB5 HM5 HJ5 hy hR HY
        gi_wp2
        exact ⟨HI7, HR6.out⟩
  case done =>
    rintro V T2 h hold hup hdef hts
    obtain ⟨TJ, h1, h2⟩ := h.out
    have HXS : Hid (XSt W T TJ (fun _ => False) [w3.heap.size] V) := h2.x.leave hts hdef
    have HJd : Hid (J xs.length V TJ) := h1
    clear h1 h2 h hold hup hdef hts HITR HFB HJ3 HY
    gi_wp2
    show LeavesInM Fence.wide 0 Tryz.prog Tryz.f40 _ R ([w3.heap.size].map Rl.mark) .returning V
    refine Rl.leaves_marks (T := fun b => TJ b ∧ ¬ False) (by simp) (fun A => ∃ TA, J xs.length A TA ∧ (∀ b, TJ b → TA b) ∧ (∀ b, b < W.heap.size → (TA b ↔ T b)) ∧ ∀ b, TA b → b < A.heap.size) ?_ ?_ _ V HXS.out.mks ⟨TJ, HJd.out, fun _ => id, HXS.out.old, HXS.out.own⟩
    · rintro A D hD ⟨TA, h1, h2, h3, h4⟩
      exact ⟨TA, HJ.out _ _ _ _ _ h1 (Rl.Mv.putObj _ _ (h2 D hD.1)), h2, h3, fun b hb => by simpa [World.putObj] using h4 b hb⟩
    · rintro A ⟨TA, h1, h2, h3, h4⟩
      refine ⟨_, results_none9 rfl _ _, ?_⟩
      rw [HR.out]
      exact ⟨_, TA, rfl, .inl h1, h3, h4⟩
  case stop =>
    rintro c k V T2 hk h hold hup hdef hts
    obtain ⟨TJ, rfl, h1, h2⟩ := h.out
    have HXS : Hid (XSt W T TJ (fun _ => False) [w3.heap.size] V) := h2.leave hts hdef
    have HJd : Hid (Jx (k + 1) V TJ) := h1
    have HKX : Hid (k < xs.length) := hk
    clear h1 h2 h hold hup hdef hts hk HITR HFB HJ3 HY
    gi_wp2
    show LeavesInM Fence.wide 0 Tryz.prog Tryz.f40 _ R ([w3.heap.size].map Rl.mark) .returning V
    refine Rl.leaves_marks (T := fun b => TJ b ∧ ¬ False) (by simp) (fun A => ∃ TA, Jx (k + 1) A TA ∧ (∀ b, TJ b → TA b) ∧ (∀ b, b < W.heap.size → (TA b ↔ T b)) ∧ ∀ b, TA b → b < A.heap.size) ?_ ?_ _ V HXS.out.mks ⟨TJ, HJd.out, fun _ => id, HXS.out.old, HXS.out.own⟩
    · rintro A D hD ⟨TA, h1, h2, h3, h4⟩
      exact ⟨TA, HJx.out _ _ _ _ _ h1 (Rl.Mv.putObj _ _ (h2 D hD.1)), h2, h3, fun b hb => by simpa [World.putObj] using h4 b hb⟩
    · rintro A ⟨TA, h1, h2, h3, h4⟩
      refine ⟨_, results_none9 rfl _ _, ?_⟩
      rw [HR.out]
      exact ⟨_, TA, rfl, .inr ⟨k, HKX.out, h1⟩, h3, h4⟩
end Go.Proofs.YtlegmmhacnbnlaaGreatDoor.J.Tz

