/- Texts of the seat, packed: Yp Yq Tf Tg Kr. -/
import Derived.Test.YteghapmlnkhepaaDoorP30
import Derived.Test.YteghapmlnkhepaaDoorP29
import Derived.Test.YteghapmlnkhepaaDoorP12
import Derived.Test.YteghapmlnkhepaaDoorP13
import Derived.Test.YteghapmlnkhepaaDoorP28
/- The library's AppendSeq and Collect, over numbers. -/
namespace Go.Proofs.YteghapmlnkhepaaDoor

open Go.RowKit Go.Shelf Go.Proofs.YteghapmlnkhepaaDoor.Sx

attribute [local go_sem] Oper.semAt_some

theorem inf3 : (Tryd.prog.info? 3).map (fun i => (i.zero, i.size, i.bytes)) = some (some (.int .i64 0), 1, 8) := by kernel_rfl

theorem one_tmps (tm : Array Value) (p : Tmp) (v : Value) : (#[p].zip #[v]).foldl (fun t (p, v) => t.setIfInBounds p v) tm = tm.setIfInBounds p v := by
  simp

/-- What AppendSeq knows once k numbers are appended. -/
def Sq (w0 : World) (bx : Nat) (js : List Nat) (k : Nat) (A : World) (TA : Nat → Prop) : Prop :=
  Lo w0 A TA ∧ w0.heap.size ≤ bx ∧ bx < A.heap.size ∧ ¬ TA bx ∧ ∃ u, A.heap[bx]? = some (.cells #[u] 25 (0, 0)) ∧ A.ownsRow bx 3 1 u k (Dg.ivs (js.take k)) ∧ ∀ b, u.ownBlock = some b → ¬ TA b

theorem Sq.mv {w0 : World} {bx : Nat} {js : List Nat} {k : Nat} {A B : World} {TA TB : Nat → Prop} (h : Sq w0 bx js k A TA) (m : Mv TA A TB B) : Sq w0 bx js k B TB := by
  obtain ⟨h1, h2, h3, h4, u, h5, h6, h7⟩ := h
  refine ⟨h1.mv m, h2, Nat.lt_of_lt_of_le h3 m.size, fun ht => h4 ((m.old _ h3).1 ht), u, (m.same _ h3 h4).trans h5, ?_, fun b hb ht => ?_⟩
  · exact own_agree (G := fun b => u.ownBlock = some b) (fun b hb => m.same b (own_exists h6 b hb).2 (h7 b hb)) h6 (fun b hb => hb)
  · exact h7 b hb ((m.old b (own_exists h6 b hb).2).1 ht)

set_option maxRecDepth 1000000 in
set_option maxHeartbeats 2000000 in
theorem AppendSeq_in (w0 w : World) (lb : Array Value) (js : List Nat) (T : Nat → Prop) (hlen : js.length ≤ 100000) (hLo : Lo w0 w T)
    (hseq : Itr Tryd.prog 56 lb (fun (j : Nat) => #[.int .i64 (j : Int)]) js w0.heap.size T (w.alloc (.cells #[.slice none 0 0] 25))) :
    CallsIn Fence.wide 0 Tryd.prog 55 #[.slice none 0 0, .func (Fn.func 56) #[] lb] w fun e w' => Below w0.heap.size w0 w' ∧ ∃ u, e = .returned u ∧ w'.ownsRow w.heap.size 3 1 u js.length (Dg.ivs js) := by
  refine callsE Tryd.func55 rfl ?_
  simp only [Tryd.ntmps55, List.size_toArray, List.length_cons, List.length_nil, Nat.reduceAdd, Nat.reduceSub, Array.replicate_succ, Array.replicate_zero, List.push_toArray, List.append_toArray, List.nil_append, List.cons_append]
  have rn := Dg.row_new w #[.slice none 0 0] 25
  have hz : (w.alloc (.cells #[.slice none 0 0] 25)).heap.size = w.heap.size + 1 := by simp
  have hP0 : Sq w0 w.heap.size js 0 (w.alloc (.cells #[.slice none 0 0] 25)) T := by
    have hL := hLo.mv (Mv.alloc_other T w (.cells #[.slice none 0 0] 25))
    exact ⟨hL, hLo.bel.size, by omega, fun ht => by have := hLo.lt _ ht; omega, _, rn, World.ownsRow_nil _ _ _ _, fun b hb => by cases hb⟩
  refine wpE_seq_wp fun K hK => ?_
  go_wp2_with fail
  generalize w.alloc (.cells #[.slice none 0 0] 25) = w1 at *
  have hu1 : ∀ b, T b → b < w1.heap.size := fun b hb => by have := hLo.lt b hb; omega
  refine wpE_seq ?_
  refine wpE_seq_wp fun K hK => ?_
  go_wp2_with fail
  refine wpE_block ?_
  refine range_law Tryd.func55 (gf := 56) (lb := lb) rfl (enters_of Tryd.func56 (by kernel_rfl) rfl) hseq hu1 (by have := hLo.bel.size; omega) (fun _ => rfl)
    (Sq w0 w.heap.size js) (fun _ _ _ => False) (fun k A TA B TB h m => h.mv m) (fun ch A TA d o h hd => h.elim) hP0 ?_ ?_ ?_
  · intro l3 k3 x3 WA TB hx3 hL tb1 tb2 hltA
    refine wpE_inRound (n := 5) ?_
    rw [one_tmps]
    simp only [List.setIfInBounds_toArray, List.set_cons_succ, List.set_cons_zero]
    gi_wp2
    refine ⟨hL, Rv.refl _ _ _, fun WB hLB _ => ?_⟩
    obtain ⟨hLo1, h2, h3, h4, u, h5, h6, h7⟩ := hLB
    obtain ⟨ua, uc, rfl⟩ := own_slice h6
    have hkl := (List.getElem?_eq_some_iff.1 hx3).1
    have c0 := (Dg.cell_row h5 0).trans rfl
    obtain ⟨i0, hi0, hz0, hz1, hz2⟩ := info_parts inf3
    have ho5 : (WB.alloc (.cells #[.int .i64 (x3 : Int)] 3)).ownsRow w.heap.size 3 1 (.slice ua k3 uc) k3 (Dg.ivs (js.take k3)) := own_below h6 ((Below.refl _ _).alloc (Nat.le_refl _) _)
    have h5b := Dg.row_alloc h5 (.cells #[.int .i64 (x3 : Int)] 3)
    have hnb := own_other ho5 h5b (by decide)
    refine wpE_block ?_
    refine wpE_inRound (n := 5) ?_
    gi_wp2_with (refine wpListIn_append_own_at _ rfl _ _ 25 rfl w.heap.size 3 i0 _ 1 8 Tryd.underlying25 hi0 hz0 hz1 hz2 rfl (by decide) _ k3 (Dg.ivs (js.take k3)) rfl ho5 ⟨WB.heap.size, 0, none⟩ 1 1 [.int .i64 (x3 : Int)] rfl rfl (cell_one_new WB (.int .i64 (x3 : Int)) 3) (by simp [Value.oneCell']) (by unfold maxLen; omega) (by omega) (by simp; omega) ?_; intro v7 w7 ho7 hg7 _ hat7; obtain ⟨va, vc, rfl⟩ := own_slice ho7; have h57 := (hg7.block _ (Array.getElem?_eq_some_iff.1 h5b).1 hnb).trans h5b; have z7 := (Dg.cell_row h57 0).trans rfl; have f7 := Dg.froz_row h57 0)
    have hz0' : w0.heap.size ≤ WB.heap.size := hLo1.bel.size
    have hzA : (WB.alloc (.cells #[.int .i64 (x3 : Int)] 3)).heap.size = WB.heap.size + 1 := by simp
    have hR : Rv w0.heap.size TB WB (w7.setCell ⟨w.heap.size, 0, none⟩ (.slice va (k3 + 1) vc)) :=
      ((Rv.alloc WB _ hz0').trans (Rv.grown hg7 (by omega) (fun b hb => ⟨by have := (own_exists ho5 b hb).1; omega, h7 b hb⟩))).trans (Rv.setCell w7 _ h2 h4)
    have hsz7 : (w7.setCell ⟨w.heap.size, 0, none⟩ (.slice va (k3 + 1) vc)).heap.size = w7.heap.size := by simp
    have hg7s := hg7.size
    refine ⟨⟨hLo1.rv hR, h2, by omega, h4, _, Dg.row_set h57 0 _, ?_, ?_⟩, hR⟩
    · have h9 : w7.ownsRow w.heap.size 3 1 (.slice va (k3 + 1) vc) (k3 + 1) (Dg.ivs (js.take (k3 + 1))) := by
        rw [List.take_add_one, hx3]
        simpa [Dg.ivs] using ho7
      exact own_agree (G := fun b => b ≠ w.heap.size) (fun b hb => Below.heap_setCell _ _ _ _ hb) h9 (fun b hb e => own_other ho7 h57 (by decide) (e ▸ hb.symm))
    · intro b hb ht
      rcases hat7 with h9 | h9
      · exact h7 b (h9.symm.trans hb) ht
      · rw [h9] at hb
        have h8 := hLo1.lt b ht
        have := Option.some.inj hb
        omega
  · intro W6 T2 hL hold ht2 hD
    show wpE Tryd.prog none 55 _ _ _ _
    dsimp only
    obtain ⟨hLo1, h2, h3, h4, u, h5, h6, h7⟩ := hL
    obtain ⟨ua, uc, rfl⟩ := own_slice h6
    have c0 := (Dg.cell_row h5 0).trans rfl
    rw [List.take_length] at h6
    refine wpE_seq_wp fun K hK => ?_
    go_wp2_with fail
    refine wpE_of_wp (wp_ret ?_)
    show LeavesInM Fence.wide 0 Tryd.prog Tryd.f55 _ _ ([w1.heap.size].map mark) .returning W6
    refine leaves_marks (T := T2) (by simp) (fun A => Lo w0 A T2 ∧ A.ownsRow w.heap.size 3 1 (.slice ua js.length uc) js.length (Dg.ivs js)) (fun A D hD' h => ⟨h.1.put hD' _, own_agree (G := fun b => (Value.slice ua js.length uc).ownBlock = some b) (fun b hb => World.putObj_heap_other (fun e => h7 b hb (by rw [e]; exact hD'))) h.2 (fun b hb => hb)⟩) (fun A h => ?_) _ W6 (Marks.cons (Marks.nil _ _) ht2 hD (by simp)) ⟨hLo1, h6⟩
    exact ⟨_, results_tmp (t := 4) rfl _ _ _, h.1.bel, _, rfl, h.2⟩
  · rintro ch W6 T2 h
    exact h.elim

end Go.Proofs.YteghapmlnkhepaaDoor

/- The program's within: the items that stand in a spot, one after another. -/
namespace Go.Proofs.YteghapmlnkhepaaDoor

open Go.RowKit Go.Shelf Go.Proofs.YteghapmlnkhepaaDoor.Sx

attribute [local go_sem] Oper.semAt_some

/-- The numbers of the items that stand in a spot, from the i-th on. -/
def kidsF (inn alt : Int) : Nat → List It → List Nat
  | _, [] => []
  | i, x :: r => if x.inn = inn ∧ x.alt = alt then i :: kidsF inn alt (i + 1) r else kidsF inn alt (i + 1) r

set_option maxRecDepth 1000000 in
theorem within_maker (b : Nat) (i alt : Int) (w : World) : Calls Tryd.prog 43 #[.pointer (some ⟨b, 0, none⟩), .agg #[.int .i64 i, .int .i64 alt]] w fun e w' => e = .returned (.func (.func 56) #[] #[.pointer (some ⟨w.heap.size, 0, none⟩), .pointer (some ⟨w.heap.size + 1, 0, none⟩)]) ∧ w' = (w.alloc (.cells #[.pointer (some ⟨b, 0, none⟩)] 52)).alloc (.cells #[.int .i64 i, .int .i64 alt] 73) := by
  go_enter Tryd.func43, Tryd.ntmps43
  go_wp2_with fail
  go_ret
  exact ⟨rfl, rfl⟩

/-- What is known between two items. -/
structure KSt (w0 : World) (bv bs b : Nat) (inn alt : Int) (J : Nat → World → (Nat → Prop) → Prop) (W0 : World) (T0 : Nat → Prop) (k : Nat) (T : Nat → Prop) (Wr : World) : Prop where
  j : J k Wr T
  low : ∀ b, b < w0.heap.size → Wr.heap[b]? = w0.heap[b]?
  le : w0.heap.size ≤ Wr.heap.size
  own : ∀ b, T b → w0.heap.size ≤ b ∧ b < Wr.heap.size
  hbv : Wr.heap[bv]? = some (.cells #[.pointer (some ⟨b, 0, none⟩)] 52 (0, 0))
  hbs : Wr.heap[bs]? = some (.cells #[.int .i64 inn, .int .i64 alt] 73 (0, 0))
  tv : T bv
  ts : T bs
  old : ∀ b, b < W0.heap.size → (T b ↔ T0 b)
  sz : W0.heap.size ≤ Wr.heap.size

section

variable {w0 : World} {bv bs b : Nat} {inn alt : Int} {J : Nat → World → (Nat → Prop) → Prop} {W0 : World} {T0 : Nat → Prop} {k : Nat} {T : Nat → Prop} {Wr : World}

theorem KSt.alloc (h : KSt w0 bv bs b inn alt J W0 T0 k T Wr) (hJ : ∀ k A TA B TB, J k A TA → Mv TA A TB B → J k B TB) (o : Obj) : KSt w0 bv bs b inn alt J W0 T0 k (fun b => T b ∨ b = Wr.heap.size) (Wr.alloc o) := by
  have al : ∀ {b x}, Wr.heap[b]? = some x → (Wr.alloc o).heap[b]? = some x := fun hx => (Below.heap_alloc _ _ _ (Array.getElem?_eq_some_iff.1 hx).1).trans hx
  refine ⟨hJ _ _ _ _ _ h.j (Mv.alloc _ _ _), fun b hb => (Below.heap_alloc _ _ _ (by have := h.le; omega)).trans (h.low b hb), by have := h.le; simp; omega, fun b hb => ?_, al h.hbv, al h.hbs, .inl h.tv, .inl h.ts, fun b hb => ?_, by have := h.sz; simp; omega⟩
  · rcases hb with hb | rfl
    · have := h.own b hb; simp; omega
    · have := h.le; simp; omega
  · have := h.sz
    exact ⟨fun hx => (h.old b hb).1 (hx.resolve_right (by omega)), fun hx => .inl ((h.old b hb).2 hx)⟩

theorem KSt.round (h : KSt w0 bv bs b inn alt J W0 T0 k T Wr) {W' : World} {k' : Nat} (hj : J k' W' T) (hr : Rv w0.heap.size T Wr W') : KSt w0 bv bs b inn alt J W0 T0 k' T W' := by
  have kp : ∀ {b x}, T b → Wr.heap[b]? = some x → W'.heap[b]? = some x := fun hb hx => (hr.keep _ hb (Array.getElem?_eq_some_iff.1 hx).1).trans hx
  exact ⟨hj, fun b hb => (hr.low b hb).trans (h.low b hb), Nat.le_trans h.le hr.size, fun b hb => ⟨(h.own b hb).1, Nat.lt_of_lt_of_le (h.own b hb).2 hr.size⟩, kp h.tv h.hbv, kp h.ts h.hbs, h.tv, h.ts, h.old, Nat.le_trans h.sz hr.size⟩

theorem KSt.cell (h : KSt w0 bv bs b inn alt J W0 T0 k T Wr) {c i : Nat} {v : Value} (hc : w0.cell? ⟨c, i, none⟩ = some v) : Wr.cell? ⟨c, i, none⟩ = some v := by
  have hb : c < w0.heap.size := World.block_lt_of_cell? w0 ⟨c, i, none⟩ hc
  exact (World.cell?_of_block (a := ⟨c, i, none⟩) (h.low c hb)).trans hc

end

def Inv73 (w0 : World) (bv bs b : Nat) (inn alt : Int) (J : Nat → World → (Nat → Prop) → Prop) (W : World) (T0 : Nat → Prop) (js : List Nat) (its : List It) (l n : Nat) (a : Option Addr) (cap : Nat) (mm : Nat) (act : Act) (Wr : World) : Prop :=
  ∃ (i k : Nat) (T : Nat → Prop) (u3 u4 u5 u6 u7 u8 u12 u13 u14 u15 u16 u17 u18 u19 u20 u21 u22 u23 u24 u25 : Value), mm = n - i ∧ i ≤ n ∧ act = { tmps := #[.func (.yield l) #[] #[], .pointer (some ⟨bv, 0, none⟩), .pointer (some ⟨bs, 0, none⟩), u3, u4, u5, u6, u7, u8, .slice a n cap, .int .i64 (n : Int), .int .i64 (i : Int), u12, u13, u14, u15, u16, u17, u18, u19, u20, u21, u22, u23, u24, u25], defers := [] } ∧
    KSt w0 bv bs b inn alt J W T0 k T Wr ∧ js.drop k = kidsF inn alt i (its.drop i) ∧ k + (kidsF inn alt i (its.drop i)).length = js.length

set_option maxRecDepth 1000000 in
set_option maxHeartbeats 4000000 in
theorem within_itr (w0 : World) (b : Nat) (its : List It) (sv : Value) (inn alt : Int) (w : World) (bv bs : Nat) (T : Nat → Prop) (js : List Nat) (hjs : js = kidsF inn alt 0 its)
    (h0 : w0.cell? ⟨b, 0, none⟩ = some sv) (hsp : RdSp w0 sv its) (hn : its.length ≤ 1000000)
    (hlow : ∀ b, b < w0.heap.size → w.heap[b]? = w0.heap[b]?) (hle : w0.heap.size ≤ w.heap.size)
    (hbv : w.heap[bv]? = some (.cells #[.pointer (some ⟨b, 0, none⟩)] 52 (0, 0))) (hbs : w.heap[bs]? = some (.cells #[.int .i64 inn, .int .i64 alt] 73 (0, 0))) (tv : T bv) (ts : T bs) (hown : ∀ b, T b → w0.heap.size ≤ b ∧ b < w.heap.size) :
    Itr Tryd.prog 56 #[.pointer (some ⟨bv, 0, none⟩), .pointer (some ⟨bs, 0, none⟩)] (fun (j : Nat) => #[.int .i64 (j : Int)]) js w0.heap.size T w := by
  intro l J Jp W hW hJ hJp hY hJ0
  have hzW := hW.size
  obtain ⟨a, cap, rfl, hcap, hr⟩ := hsp
  have HR0 : Hid _ := hr
  obtain ⟨n, HN⟩ : ∃ n, Hid (its.length = n) := ⟨_, rfl⟩
  rw [HN.out] at h0 hcap hn
  have HK : KSt w0 bv bs b inn alt J W T 0 T W := by
    refine ⟨hJ0, fun c hc => (hW.block c (by omega)).trans (hlow c hc), by omega, fun c hc => by have := hown c hc; omega, (hW.block _ (Array.getElem?_eq_some_iff.1 hbv).1).trans hbv, (hW.block _ (Array.getElem?_eq_some_iff.1 hbs).1).trans hbs, tv, ts, fun _ _ => Iff.rfl, Nat.le_refl _⟩
  have c0 := (Dg.cell_row HK.hbv 0).trans rfl
  have c1 := HK.cell h0
  clear hr hbv hbs
  obtain ⟨R, HR⟩ : ∃ R : Ending → World → Prop, Hid (R = fun e W2 => (∃ v T2, e = .returned v ∧ J js.length W2 T2 ∧ (∀ b, b < W.heap.size → (T2 b ↔ T b))) ∨ (∃ ch T2, e = .panicked ch ∧ Jp ch W2 T2 ∧ (∀ b, b < W.heap.size → (T2 b ↔ T b)))) := ⟨_, rfl⟩
  rw [← HR.out]
  refine callsE Tryd.func56 rfl ?_
  simp only [Tryd.ntmps56, List.size_toArray, List.length_cons, List.length_nil, Nat.reduceAdd, Nat.reduceSub, Array.replicate_succ, Array.replicate_zero, List.push_toArray, List.append_toArray, List.nil_append, List.cons_append]
  refine wpE_seq_wp fun K hK => ?_
  go_wp2_with fail
  clear c0 c1
  refine wpE_block ?_
  refine wpE_loop (Inv73 w0 bv bs b inn alt J W T js its l n a cap) n ?atStart ?round
  case atStart =>
    exact ⟨0, 0, T, _, _, _, _, _, _, _, _, _, _, _, _, _, _, _, _, _, _, _, _, rfl, Nat.zero_le _, rfl, HK, by rw [List.drop_zero, List.drop_zero]; exact hjs, by rw [List.drop_zero, ← hjs, Nat.zero_add]⟩
  case round =>
    rintro m act Wr ⟨i, k, T1, u3, u4, u5, u6, u7, u8, u12, u13, u14, u15, u16, u17, u18, u19, u20, u21, u22, u23, u24, u25, rfl, hi, rfl, H, hd, hl⟩
    clear HK
    by_cases hlt : i < n
    · obtain ⟨x, hx⟩ : ∃ x, its[i]? = some x := ⟨_, List.getElem?_eq_getElem (by rw [HN.out]; exact hlt)⟩
      have hdr : its.drop i = x :: its.drop (i + 1) := by
        obtain ⟨hxl, rfl⟩ := List.getElem?_eq_some_iff.1 hx
        exact List.drop_eq_getElem_cons hxl
      obtain ⟨b2, off, rfl, e0, e1⟩ := HR0.out i x hx
      have d0 := H.cell e0
      have d1 := H.cell e1
      have hii : (i : Int) < (n : Int) := by omega
      refine wpE_seq_wp fun K hK => ?_
      go_wp2_with fail
      refine wpE_seq (wpE_cond (t := true) rfl (wpE_of_wp ?_))
      go_wp2_with fail
      refine wpE_seq (wpE_block ?_)
      refine wpE_seq_wp fun K hK => ?_
      go_wp2_with fail
      have H3 := H.alloc hJ (.cells #[.int .i64 x.inn, .int .i64 x.alt] 73)
      have nb3 := Dg.row_new Wr #[.int .i64 x.inn, .int .i64 x.alt] 73
      clear d0 d1
      generalize Wr.alloc (.cells #[.int .i64 x.inn, .int .i64 x.alt] 73) = W3 at *
      have g0 := (Dg.cell_row nb3 0).trans rfl
      have g1 := (Dg.cell_row nb3 1).trans rfl
      have s0 := (Dg.cell_row H3.hbs 0).trans rfl
      have s1 := (Dg.cell_row H3.hbs 1).trans rfl
      have hmm : n - (i + 1) < n - i := by omega
      by_cases heq : x.inn = inn ∧ x.alt = alt
      · have hkf : kidsF inn alt i (x :: its.drop (i + 1)) = i :: kidsF inn alt (i + 1) (its.drop (i + 1)) := by
          show (if _ then _ else _) = _
          rw [if_pos heq]
        rw [hdr, hkf] at hd hl
        have hxk : js[k]? = some i := by
          have h9 : (js.drop k)[0]? = some i := by rw [hd]; rfl
          simpa using h9
        have HD1 : Hid (js.drop (k + 1) = kidsF inn alt (i + 1) (its.drop (i + 1))) := by
          show _ = _
          rw [← List.drop_drop, hd]
          rfl
        have HL1 : Hid (k + 1 + (kidsF inn alt (i + 1) (its.drop (i + 1))).length = js.length) := by
          show _ = _
          rw [← hl, List.length_cons]
          omega
        rw [heq.1] at g0
        rw [heq.2] at g1
        obtain ⟨fnn, tms, asg, bdy, hy, hR⟩ := hY k i W3 _ hxk H3.j 4
        clear hd hl hdr hkf hx hxk heq
        refine wpE_seq (wpE_wide (n := 5) ?_)
        gi_wp2
        refine hR.mono ?_
        rintro e W5 (⟨rfl, hj5, hr5⟩ | ⟨ch, rfl, hjp, hkd⟩)
        · clear hy hR g0 g1 s0 s1
          gi_wp2
          refine wpE_cond (t := false) rfl (wpE_of_wp ?_)
          go_wp2_with fail
          refine wpE_of_wp ?_
          go_wp2_with fail
          refine ⟨n - (i + 1), hmm, ?_⟩
          rw [show (i : Int) + 1 = ((i + 1 : Nat) : Int) from rfl]
          exact ⟨i + 1, k + 1, _, _, _, _, _, _, _, _, _, _, _, _, _, _, _, _, _, _, _, _, _, rfl, by omega, rfl, H3.round hj5 hr5, HD1.out, HL1.out⟩
        · clear hy hR g0 g1 s0 s1
          show R (.panicked ch) W5
          rw [HR.out]
          exact .inr ⟨ch, _, rfl, hjp, H3.old⟩
      · have hkf : kidsF inn alt i (x :: its.drop (i + 1)) = kidsF inn alt (i + 1) (its.drop (i + 1)) := by
          show (if _ then _ else _) = _
          rw [if_neg heq]
        rw [hdr, hkf] at hd hl
        have HD1 : Hid _ := hd
        have HL1 : Hid _ := hl
        clear hd hl hdr hkf hx
        refine wpE_seq_wp fun K hK => ?_
        go_wp2_with fail
        all_goals
          refine wpE_cond (t := false) rfl (wpE_of_wp ?_)
          go_wp2_with fail
          refine wpE_of_wp ?_
          go_wp2_with fail
          refine ⟨n - (i + 1), hmm, ?_⟩
          rw [show (i : Int) + 1 = ((i + 1 : Nat) : Int) from rfl]
          exact ⟨i + 1, k, _, _, _, _, _, _, _, _, _, _, _, _, _, _, _, _, _, _, _, _, _, rfl, by omega, rfl, H3, HD1.out, HL1.out⟩
    · obtain rfl : i = n := by omega
      have hnl : its.drop i = [] := List.drop_eq_nil_of_le (by rw [HN.out]; exact Nat.le_refl _)
      rw [hnl] at hd hl
      have hkl : k = js.length := by
        simp only [kidsF, List.length_nil] at hl
        omega
      have HKL : Hid _ := hkl
      clear hd hl hnl hkl
      refine wpE_of_wp ?_
      go_wp2_with fail
      refine ⟨_, results_none rfl _ _, ?_⟩
      rw [HR.out]
      have h9 := H.j
      rw [HKL.out] at h9
      exact .inl ⟨_, T1, rfl, h9, H.old⟩

end Go.Proofs.YteghapmlnkhepaaDoor

/- Plain: what is told of the plan of a saga: its bodies, what stands above, how many. -/
namespace Go.Proofs.YteghapmlnkhepaaDoor

open Go.RowKit Go.Shelf Go.Proofs.YteghapmlnkhepaaDoor.Sx

theorem fits_all (t : Tr) : ∀ (inn alt last : Nat), fitN t = true → ∀ y ∈ xsT t inn alt last, fits y.alts = true ∧ y.am = y.alts.len := by
  induction t with
  | e => intro _ _ _ _ y hy; cases hy
  | b x r ih1 ih2 =>
    intro inn alt last hN y hy
    simp only [fitN, Bool.and_eq_true] at hN
    rw [xsT, List.mem_append] at hy
    rcases hy with hy | hy
    · exact ih1 _ _ _ hN.1 y hy
    · exact ih2 _ _ _ hN.2 y hy
  | n l s r ih1 ih2 =>
    intro inn alt last hN y hy
    simp only [fitN, Bool.and_eq_true] at hN
    rw [xsT, List.mem_cons, List.mem_append] at hy
    rcases hy with rfl | hy | hy
    · exact ⟨hN.1, rfl⟩
    · exact ih1 _ _ _ hN.2.1 y hy
    · exact ih2 _ _ _ hN.2.2 y hy

/-- In which body of what a node stands. -/
theorem alt_top (t : Tr) : ∀ (k : Bool) (inn alt last : Nat), Kd k t → inn ≤ last → ∀ y ∈ xsT t inn alt last, y.inn = inn → k = true → y.alt < alt + t.len := by
  induction t with
  | e => intro _ _ _ _ _ _ y hy; cases hy
  | b x r ih1 ih2 =>
    rintro k inn alt last ⟨_, hx, hr⟩ hl y hy hi hk
    have hlen : (Tr.b x r).len = r.len + 1 := rfl
    rw [xsT, List.mem_append] at hy
    rcases hy with hy | hy
    · have := (xsT_alt x false inn alt last hx hl y hy hi).1 rfl
      omega
    · have := ih2 true inn (alt + 1) (last + cntA x) hr (by omega) y hy hi rfl
      omega
  | n l s r _ _ => rintro k inn alt last ⟨hk, _⟩ _ y _ _ hk2; rw [hk] at hk2; cases hk2

theorem alt_lt (t : Tr) : ∀ (k : Bool) (inn alt last : Nat), Kd k t → inn ≤ last → ∀ y ∈ xsT t inn alt last, y.inn = inn ∨ ∃ p ∈ xsT t inn alt last, p.num = y.inn ∧ y.alt < p.am := by
  induction t with
  | e => intro _ _ _ _ _ _ y hy; cases hy
  | b x r ih1 ih2 =>
    rintro k inn alt last ⟨_, hx, hr⟩ hl y hy
    rw [xsT, List.mem_append] at hy
    rcases hy with hy | hy
    · rcases ih1 false inn alt last hx hl y hy with h | ⟨p, h1, h2⟩
      · exact .inl h
      · exact .inr ⟨p, by rw [xsT]; exact List.mem_append_left _ h1, h2⟩
    · rcases ih2 true inn (alt + 1) (last + cntA x) hr (by omega) y hy with h | ⟨p, h1, h2⟩
      · exact .inl h
      · exact .inr ⟨p, by rw [xsT]; exact List.mem_append_right _ h1, h2⟩
  | n l s r ih1 ih2 =>
    rintro k inn alt last ⟨_, hs, hr⟩ hl y hy
    rw [xsT, List.mem_cons, List.mem_append] at hy
    rcases hy with rfl | hy | hy
    · exact .inl rfl
    · rcases ih1 true (last + 1) 0 (last + 1) hs (Nat.le_refl _) y hy with h | ⟨p, h1, h2⟩
      · have := alt_top s true (last + 1) 0 (last + 1) hs (Nat.le_refl _) y hy h rfl
        refine .inr ⟨_, by rw [xsT]; exact List.mem_cons_self .., h.symm, ?_⟩
        show y.alt < s.len
        omega
      · exact .inr ⟨p, by rw [xsT]; exact List.mem_cons_of_mem _ (List.mem_append_left _ h1), h2⟩
    · rcases ih2 false inn alt (last + 1 + cntA s) hr (by omega) y hy with h | ⟨p, h1, h2⟩
      · exact .inl h
      · exact .inr ⟨p, by rw [xsT]; exact List.mem_cons_of_mem _ (List.mem_append_right _ h1), h2⟩

end Go.Proofs.YteghapmlnkhepaaDoor

/- Plain: what PlanAll asks of the plan of a saga. -/
namespace Go.Proofs.YteghapmlnkhepaaDoor

open Go.RowKit Go.Shelf Go.Proofs.YteghapmlnkhepaaDoor.Sx

/-- Where each item but the first one stands. -/
theorem item_in {x : By} {t : Tr} {its : List It} (h : planT x t = some its) (hk : Kd true t) {j : Nat} {z : It} (hz : its[j]? = some z) (hj : 0 < j) : ∃ (i alt : Nat) (p : It), z.inn = (i : Int) ∧ z.alt = (alt : Int) ∧ i < j ∧ its[i]? = some p ∧ (alt : Int) < p.alts := by
  have htell := plan_tells h
  obtain ⟨k, rfl⟩ : ∃ k, j = k + 1 := ⟨j - 1, by omega⟩
  have hjl : k < (xsT t 0 0 0).length := by
    have := (List.getElem?_eq_some_iff.1 hz).1
    rw [htell.len] at this
    omega
  obtain ⟨y, hy⟩ : ∃ y, (xsT t 0 0 0)[k]? = some y := ⟨_, List.getElem?_eq_getElem hjl⟩
  obtain ⟨_, hle, z', hz', hi, ha, _, _⟩ := htell.at_ k y hy
  rw [hz] at hz'
  cases hz'
  have hm := List.mem_of_getElem? hy
  by_cases h0 : y.inn = 0
  · have h1 := alt_top t true 0 0 0 hk (Nat.le_refl _) y hm h0 rfl
    obtain ⟨_, _, _, he⟩ := planT_parts h
    refine ⟨0, y.alt, rootI x t.len, by rw [hi, h0], ha, by omega, by rw [he, its2_root], ?_⟩
    show (y.alt : Int) < (t.len : Int)
    omega
  · rcases alt_lt t true 0 0 0 hk (Nat.le_refl _) y hm with h1 | ⟨p, hp, hpn, hpa⟩
    · exact absurd h1 h0
    · obtain ⟨q, hq⟩ := List.mem_iff_getElem?.1 hp
      obtain ⟨hqn, _, u, hu, _, _, hus, _⟩ := htell.at_ q p hq
      refine ⟨y.inn, y.alt, u, hi, ha, by omega, ?_, by omega⟩
      rw [← hpn, hqn]
      exact hu

end Go.Proofs.YteghapmlnkhepaaDoor

/- A right plan as the plain side of layer 14 has it. -/
namespace Go.Proofs.YteghapmlnkhepaaDoor.St

open Go.Proofs.YteghapmlnkhepaaDoor.Sx

set_option linter.unusedVariables false

/-- Nodes, and bodies, of lists are of their kind. -/
theorem kd_nodes : ∀ (l : List (Lab × Tr)), (∀ x ∈ l, Kd true x.2) → Kd false (nodesL l)
  | [], _ => trivial
  | x :: l, h => ⟨rfl, h x (by simp), kd_nodes l fun y hy => h y (by simp [hy])⟩

theorem kd_bodies : ∀ (l : List Tr), (∀ x ∈ l, Kd false x) → Kd true (bodiesL l)
  | [], _ => trivial
  | x :: l, h => ⟨rfl, h x (by simp), kd_bodies l fun y hy => h y (by simp [hy])⟩

theorem kd_kids {its : List It} {rec : Nat → Tr} (hr : ∀ k, Kd true (rec k)) (i alt : Nat) : ∀ k, ∀ x ∈ kidsT its rec i alt k, Kd true x.2
  | 0, x, hx => by cases hx
  | k + 1, x, hx => by
    unfold kidsT at hx
    rcases List.mem_append.1 hx with hx | hx
    · exact kd_kids hr i alt k x hx
    · split at hx
      · split at hx
        · simp at hx
          subst hx
          exact hr k
        · cases hx
      · cases hx

theorem kd_bodT (its : List It) : ∀ (f i : Nat), Kd true (bodT its f i)
  | 0, _ => trivial
  | f + 1, i => by
    unfold bodT
    refine kd_bodies _ fun x hx => ?_
    obtain ⟨a, _, rfl⟩ := List.mem_map.1 hx
    exact kd_nodes _ (kd_kids (kd_bodT its f) i a _)

/-- Each node of right bodies is right. -/
theorem xs_ok (t : Tr) : ∀ (k : Bool) (inn alt last d : Nat), Kd k t → Sx.okL (fltn d t) = true → ∀ y ∈ xsT t inn alt last, nodeOk y.lab y.am = true := by
  induction t with
  | e => intro k inn alt last d _ _ y hy; cases hy
  | b x r ih1 ih2 =>
    intro k inn alt last d hk ho y hy
    obtain ⟨_, k1, k2⟩ := hk
    unfold Sx.okL fltn at ho
    rw [List.all_append, Bool.and_eq_true] at ho
    rcases List.mem_append.1 hy with hy | hy
    · exact ih1 _ _ _ _ d k1 ho.1 y hy
    · exact ih2 _ _ _ _ d k2 ho.2 y hy
  | n l s r ih1 ih2 =>
    intro k inn alt last d hk ho y hy
    obtain ⟨_, k1, k2⟩ := hk
    unfold Sx.okL fltn at ho
    rw [List.all_cons, List.all_append, Bool.and_eq_true, Bool.and_eq_true] at ho
    obtain ⟨o1, o2, o3⟩ := ho
    rcases List.mem_cons.1 hy with rfl | hy
    · exact o1
    · rcases List.mem_append.1 hy with hy | hy
      · cases hsub : l.sub with
        | true =>
          rw [hsub] at o2
          exact ih1 _ _ _ _ (d + 1) k1 o2 y hy
        | false =>
          have hs : s = .e := by
            unfold nodeOk at o1
            simp only [hsub] at o1
            cases s with
            | e => rfl
            | b x r => simp [Tr.len] at o1
            | n l t r => simp [Tr.len] at o1
          subst hs
          cases hy
      · exact ih2 _ _ _ _ d k2 o3 y hy

def It.z : It := ⟨[], [], false, false, 0, 0, 0, []⟩

/-- A plan of items. -/
def plOf (its : List It) : Pl where
  n := its.length
  sub := fun i => (its.getD i It.z).sub
  vital := fun i => (its.getD i It.z).vital
  alts := fun i => (its.getD i It.z).alts.toNat
  inn := fun i => (its.getD i It.z).inn.toNat
  alt := fun i => (its.getD i It.z).alt.toNat

theorem getD_it {its : List It} {i : Nat} {x : It} (h : its[i]? = some x) : its.getD i It.z = x := by
  rw [List.getD_eq_getElem?_getD, h]
  rfl

/-- What each item of a right plan is. -/
theorem plan_items {its : List It} {q : By × Tr} (h : sagaP its = some q) :
    (∃ x, its[0]? = some x ∧ x.sub = true ∧ x.inn = -1 ∧ x.alt = 0 ∧ 1 ≤ x.alts ∧ x.alts ≤ 4) ∧
    ∀ (i : Nat) (x : It), its[i]? = some x → 1 ≤ i → (∃ (j a : Nat) (y : It), x.inn = (j : Int) ∧ x.alt = (a : Int) ∧ j < i ∧ its[j]? = some y ∧ (a : Int) < y.alts ∧ y.sub = true) ∧ (if x.sub then 1 ≤ x.alts ∧ x.alts ≤ 4 else x.alts = 0 ∧ x.vital = false) := by
  unfold sagaP at h
  split at h
  rotate_left
  · cases h
  rename_i hc
  obtain ⟨_, hp⟩ := hc
  have hk : Kd true (bodS its) := kd_bodT its _ 0
  obtain ⟨p1, p2, p3, p4⟩ := planT_parts hp
  have hfs := p1
  unfold fitS at hfs
  simp only [Bool.and_eq_true, decide_eq_true_eq] at hfs
  obtain ⟨f1, _, _, f4, f5⟩ := hfs
  have hr : rightS (nameI its 0) (bodS its) = true := by
    apply Classical.byContradiction
    intro h9
    unfold codeS at f1
    rw [if_neg h9] at f1
    cases f1
  unfold rightS at hr
  simp only [Bool.and_eq_true, decide_eq_true_eq] at hr
  obtain ⟨⟨⟨_, hpos⟩, _⟩, hok⟩ := hr
  have h4 : (bodS its).len ≤ 4 := by
    unfold fits at f4
    simp only [Bool.and_eq_true, decide_eq_true_eq] at f4
    exact f4.1
  have htell := plan_tells hp
  have hroot : its[0]? = some (rootI (nameI its 0) (bodS its).len) := by
    have h9 := its2_root (nameI its 0) (bodS its).len (xsT (bodS its) 0 0 0)
    rw [← p4] at h9
    exact h9
  have step : ∀ (i : Nat) (x : It), its[i]? = some x → 1 ≤ i → (if x.sub then 1 ≤ x.alts ∧ x.alts ≤ 4 else x.alts = 0 ∧ x.vital = false) := by
    intro i x hx hi
    obtain ⟨k, rfl⟩ : ∃ k, i = k + 1 := ⟨i - 1, by omega⟩
    have hkl : k < (xsT (bodS its) 0 0 0).length := by
      have := (List.getElem?_eq_some_iff.1 hx).1
      rw [htell.len] at this
      omega
    obtain ⟨y, hy⟩ : ∃ y, (xsT (bodS its) 0 0 0)[k]? = some y := ⟨_, List.getElem?_eq_getElem hkl⟩
    obtain ⟨_, _, z, hz, _, _, ha, hlab⟩ := htell.at_ k y hy
    rw [hx] at hz
    cases hz
    have hm := List.mem_of_getElem? hy
    have hn := xs_ok (bodS its) true 0 0 0 1 hk hok y hm
    obtain ⟨hf, he⟩ := fits_all (bodS its) 0 0 0 f5 y hm
    have hl4 : y.am ≤ 4 := by
      unfold fits at hf
      simp only [Bool.and_eq_true, decide_eq_true_eq] at hf
      rw [he]
      exact hf.1
    have hs : x.sub = y.lab.sub := by rw [← hlab]; rfl
    have hv : x.vital = y.lab.vital := by rw [← hlab]; rfl
    unfold nodeOk at hn
    rw [Bool.and_eq_true] at hn
    rw [hs, hv, ha]
    have hn2 := hn.2
    cases hsub : y.lab.sub with
    | true =>
      rw [hsub] at hn2
      simp at hn2
      rw [if_pos rfl]
      omega
    | false =>
      rw [hsub] at hn2
      simp at hn2
      rw [if_neg (by decide)]
      exact ⟨by omega, hn2.1.2⟩
  refine ⟨⟨_, hroot, rfl, rfl, rfl, by show (1 : Int) ≤ ((bodS its).len : Int); omega, by show (((bodS its).len : Nat) : Int) ≤ 4; omega⟩, fun i x hx hi => ⟨?_, step i x hx hi⟩⟩
  obtain ⟨j, a, y, e1, e2, e3, e4, e5⟩ := item_in hp hk hx (by omega)
  refine ⟨j, a, y, e1, e2, e3, e4, e5, ?_⟩
  by_cases hj : j = 0
  · subst hj
    rw [hroot] at e4
    cases e4
    rfl
  · have h9 := step j y e4 (by omega)
    cases hs : y.sub with
    | true => rfl
    | false =>
      rw [hs, if_neg (by decide)] at h9
      omega

/-- A right plan, plainly. -/
theorem plan_ok {its : List It} {q : By × Tr} (h : sagaP its = some q) : (plOf its).Ok := by
  obtain ⟨⟨r, r0, r1, r2, r3, r4, r5⟩, hi⟩ := plan_items h
  have hlen : 1 ≤ its.length := by have := (List.getElem?_eq_some_iff.1 r0).1; omega
  refine ⟨hlen, by show (its.getD 0 It.z).sub = true; rw [getD_it r0]; exact r1, fun i h1 h2 => ?_, fun i h2 hs => ?_⟩
  · obtain ⟨x, hx⟩ : ∃ x, its[i]? = some x := ⟨_, List.getElem?_eq_getElem h2⟩
    obtain ⟨⟨j, a, y, e1, e2, e3, e4, e5, e6⟩, _⟩ := hi i x hx h1
    have ej : (plOf its).inn i = j := by show (its.getD i It.z).inn.toNat = j; rw [getD_it hx, e1]; rfl
    have ea : (plOf its).alt i = a := by show (its.getD i It.z).alt.toNat = a; rw [getD_it hx, e2]; rfl
    rw [ej, ea]
    refine ⟨e3, by show (its.getD j It.z).sub = true; rw [getD_it e4]; exact e6, by show a < (its.getD j It.z).alts.toNat; rw [getD_it e4]; omega⟩
  · obtain ⟨x, hx⟩ : ∃ x, its[i]? = some x := ⟨_, List.getElem?_eq_getElem h2⟩
    have hs' : x.sub = true := by have : (its.getD i It.z).sub = true := hs; rw [getD_it hx] at this; exact this
    show 1 ≤ (its.getD i It.z).alts.toNat
    rw [getD_it hx]
    by_cases h0 : i = 0
    · subst h0
      rw [r0] at hx
      cases hx
      omega
    · have := (hi i x hx (by omega)).2
      rw [hs', if_pos rfl] at this
      omega

end Go.Proofs.YteghapmlnkhepaaDoor.St

