/- Texts of the seat, packed: Ze. -/
import Derived.Test.YtlegmmhacnbnlaaGreatDoorP30
/- The program's iterator over the nodes of an item's bodies: the walk. -/
namespace Go.Proofs.YtlegmmhacnbnlaaGreatDoor

open Go.RowKit Go.Shelf Go.Proofs.YtlegmmhacnbnlaaGreatDoor.Sx

attribute [local go_sem] Oper.semAt_some

theorem wpE_wide {P : Program} {f : FuncId} {n : Nat} {c : Code} {Q : Exit → Act → World → Prop} {a : Act} {w : World} (h : c.wpIn Fence.wide n P Q a w) : wpE P none f c Q a w := wpE_of (n := n) h

theorem wpE_inRound {P : Program} {f : FuncId} {n l : Nat} {c : Code} {Q : Exit → Act → World → Prop} {a : Act} {w : World} (h : c.wpIn (Fence.wide.inRound l) n P Q a w) : wpE P (some l) f c Q a w := wpE_of (n := n) h

theorem yieldIn {P : Program} {m l l' : Nat} {args : Array Value} {W : World} {R : Ending → World → Prop} (h : YieldAt Fence.wide m P l args W R) : YieldAt (Fence.wide.inRound l') m P l args W R := h

theorem results_none {P : Program} {fn : Func} (h : fn.results = #[]) (tmps : Array Value) (w : World) : (results fn tmps).run P w = .ok (.tuple #[]) w := by
  simp [results, h, go_sem]

/-- What is known while the iterator within goes round: TA is its own, T' ours. -/
structure LS (n0 : Nat) (w0 : World) (bi bb bq bl l inn am ac : Nat) (a : Option Addr) (J : Nat → World → (Nat → Prop) → Prop) (T' : Nat → Prop) (Ds : List Nat) (s last k : Nat) (A : World) (TA : Nat → Prop) : Prop where
  j : J k A (fun b => TA b ∨ T' b)
  dis : ∀ b, T' b → ¬ TA b
  own : ∀ b, TA b → n0 ≤ b ∧ b < A.heap.size
  low : ∀ b, b < n0 → A.heap[b]? = w0.heap[b]?
  le : n0 ≤ A.heap.size
  hbi : A.heap[bi]? = some (.cells #[.int .i64 (inn : Int)] 3 (0, 0))
  hbb : A.heap[bb]? = some (.cells #[.slice a am ac] 92 (0, 0))
  hbq : A.heap[bq]? = some (.cells #[.func (.yield l) #[] #[]] 167 (0, 0))
  hbl : A.heap[bl]? = some (.cells #[.int .i64 (last : Int)] 3 (0, 0))
  mks : Marks T' A Ds
  sz : s ≤ A.heap.size

section

variable {n0 : Nat} {w0 : World} {bi bb bq bl l inn am ac : Nat} {a : Option Addr} {J : Nat → World → (Nat → Prop) → Prop} {T' : Nat → Prop} {Ds : List Nat} {s last k : Nat} {A : World} {TA : Nat → Prop}

theorem LS.mv (h : LS n0 w0 bi bb bq bl l inn am ac a J T' Ds s last k A TA) (hJ : ∀ k A TA B TB, J k A TA → Mv TA A TB B → J k B TB) (hT : ∀ b, T' b → b < s) (ti : T' bi) (tb : T' bb) (tq : T' bq) (tl : T' bl) {B : World} {TB : Nat → Prop} (m : Mv TA A TB B) : LS n0 w0 bi bb bq bl l inn am ac a J T' Ds s last k B TB := by
  have lt : ∀ b, T' b → b < A.heap.size := fun b hb => Nat.lt_of_lt_of_le (hT b hb) h.sz
  have kp : ∀ {b x}, T' b → A.heap[b]? = some x → B.heap[b]? = some x := fun hb hx => (m.same _ (lt _ hb) (h.dis _ hb)).trans hx
  refine ⟨hJ _ _ _ _ _ h.j (m.or T'), fun b hb hx => h.dis b hb ((m.old b (lt b hb)).1 hx), fun b hb => ⟨?_, m.up (fun b hb => (h.own b hb).2) b hb⟩, fun b hb => ?_, Nat.le_trans h.le m.size, kp ti h.hbi, kp tb h.hbb, kp tq h.hbq, kp tl h.hbl, h.mks.mono (fun _ => id) (fun D hD hx => kp hD hx), Nat.le_trans h.sz m.size⟩
  · by_cases hb2 : b < A.heap.size
    · exact (h.own b ((m.old b hb2).1 hb)).1
    · have := h.le; omega
  · have := h.le
    exact (m.same b (by omega) (fun hx => by have := (h.own b hx).1; omega)).trans (h.low b hb)

theorem LS.alloc (h : LS n0 w0 bi bb bq bl l inn am ac a J T' Ds s last k A TA) (hJ : ∀ k A TA B TB, J k A TA → Mv TA A TB B → J k B TB) (hT : ∀ b, T' b → b < s) (ti : T' bi) (tb : T' bb) (tq : T' bq) (tl : T' bl) (o : Obj) : LS n0 w0 bi bb bq bl l inn am ac a J T' Ds s last k (A.alloc o) TA := h.mv hJ hT ti tb tq tl (Mv.alloc_other _ _ _)

theorem LS.step (h : LS n0 w0 bi bb bq bl l inn am ac a J T' Ds s last k A TA) (hJ : ∀ k A TA B TB, J k A TA → Mv TA A TB B → J k B TB) (tl : T' bl) (ni : bl ≠ bi) (nb : bl ≠ bb) (nq : bl ≠ bq) (hl : n0 ≤ bl) (z : Nat) : LS n0 w0 bi bb bq bl l inn am ac a J T' Ds s z k (A.setCell ⟨bl, 0, none⟩ (.int .i64 (z : Int))) TA := by
  have ne : ∀ {b}, b ≠ bl → (A.setCell ⟨bl, 0, none⟩ (.int .i64 (z : Int))).heap[b]? = A.heap[b]? := fun hb => Below.heap_setCell A ⟨bl, 0, none⟩ _ _ hb
  refine ⟨hJ _ _ _ _ _ h.j (Mv.setCell _ _ (.inr tl)), h.dis, fun b hb => by simpa using h.own b hb, fun b hb => (ne (by omega)).trans (h.low b hb), by simpa using h.le, (ne (Ne.symm ni)).trans h.hbi, (ne (Ne.symm nb)).trans h.hbb, (ne (Ne.symm nq)).trans h.hbq, Dg.row_set h.hbl 0 _, h.mks.mono (fun _ => id) (fun D _ hD => (ne ?_).trans hD), by simpa using h.sz⟩
  intro e
  rw [e, h.hbl] at hD
  cases hD

theorem LS.round (h : LS n0 w0 bi bb bq bl l inn am ac a J T' Ds s last k A TA) (ti : T' bi) (tb : T' bb) (tq : T' bq) (tl : T' bl) {B : World} {k' : Nat} (hj : J k' B (fun b => TA b ∨ T' b)) (hr : Rv n0 (fun b => TA b ∨ T' b) A B) : LS n0 w0 bi bb bq bl l inn am ac a J T' Ds s last k' B TA := by
  have kp : ∀ {b x}, T' b → A.heap[b]? = some x → B.heap[b]? = some x := fun hb hx => (hr.keep _ (.inr hb) (Array.getElem?_eq_some_iff.1 hx).1).trans hx
  exact ⟨hj, h.dis, fun b hb => ⟨(h.own b hb).1, Nat.lt_of_lt_of_le (h.own b hb).2 hr.size⟩, fun b hb => (hr.low b hb).trans (h.low b hb), Nat.le_trans h.le hr.size, kp ti h.hbi, kp tb h.hbb, kp tq h.hbq, kp tl h.hbl, h.mks.mono (fun _ => id) (fun D hD hx => kp hD hx), Nat.le_trans h.sz hr.size⟩

end

/-- The iterator's word on a tree of bodies. -/
def NodesOK (t : Tr) : Prop := ∀ (n0 : Nat) (w0 : World) (inn : Nat) (a : Option Addr) (am ac : Nat) (xs : List Pd) (w : World) (bi bb : Nat) (T : Nat → Prop),
  XAt (· < n0) w0 true t a 0 am inn 0 inn xs → (∀ b, b < n0 → w.heap[b]? = w0.heap[b]?) → n0 ≤ w.heap.size →
  w.heap[bi]? = some (.cells #[.int .i64 (inn : Int)] 3 (0, 0)) → w.heap[bb]? = some (.cells #[.slice a am ac] 92 (0, 0)) → T bi → T bb → (∀ b, T b → n0 ≤ b ∧ b < w.heap.size) → inn + cntA t ≤ 1000000000 → szA t ≤ 1000000000 →
  Itr Tryz.prog 102 #[.pointer (some ⟨bi, 0, none⟩), .pointer (some ⟨bb, 0, none⟩)] Pd.enc xs n0 T w

theorem len_szA (t : Tr) : t.len ≤ szA t := by
  induction t with
  | e => simp [Tr.len]
  | b x r _ ih => simp only [Tr.len, szA]; omega
  | n l t r _ ih => simp only [Tr.len, szA]; omega

theorem two_tmps (tm : Array Value) (p q : Tmp) (v u : Value) : (#[p, q].zip #[v, u]).foldl (fun t (p, v) => t.setIfInBounds p v) tm = (tm.setIfInBounds p v).setIfInBounds q u := by
  simp

theorem mv_two (T : Nat → Prop) (A : World) (o1 o2 : Obj) : Mv T A (fun b => (b = A.heap.size ∨ b = A.heap.size + 1) ∨ T b) ((A.alloc o1).alloc o2) := by
  refine ⟨rfl, rfl, rfl, by simp; omega, fun k hk _ => (Below.heap_alloc _ _ _ (by simp; omega)).trans (Below.heap_alloc _ _ _ hk), fun k hk => ⟨fun h => h.resolve_left (by omega), .inr⟩, fun hu k hk => ?_⟩
  rcases hk with hk | hk
  · simp; omega
  · have := hu k hk; simp; omega

/-- Between two bodies. -/
def Inv1 (n0 : Nat) (w0 : World) (bi bb bq bl l inn am ac : Nat) (a : Option Addr) (J : Nat → World → (Nat → Prop) → Prop) (W : World) (T0 : Nat → Prop) (xs : List Pd) (t : Tr) (mm : Nat) (act : Act) (Wr : World) : Prop := ∃ (i last k : Nat) (T : Nat → Prop) (Ds : List Nat) (r : Tr) (zs : List Pd) (u5 u6 u8 u9 u10 u11 u15 u16 u17 u18 u19 u20 u21 u22 u23 u24 u25 u26 u27 u28 u29 u30 u31 u32 u33 u34 u35 u36 u37 u38 u39 u40 u41 u42 u43 u44 u45 u46 u47 u48 u49 u50 : Value), mm = am - i ∧ act = { tmps := #[.func (.yield l) #[] #[], .pointer (some ⟨bi, 0, none⟩), .pointer (some ⟨bb, 0, none⟩), .pointer (some ⟨bq, 0, none⟩), .pointer (some ⟨bl, 0, none⟩), u5, u6, undef, u8, u9, u10, u11, .slice a am ac, .int .i64 (am : Int), .int .i64 (i : Int), u15, u16, u17, u18, u19, u20, u21, u22, u23, u24, u25, u26, u27, u28, u29, u30, u31, u32, u33, u34, u35, u36, u37, u38, u39, u40, u41, u42, u43, u44, u45, u46, u47, u48, u49, u50], defers := Ds.map mark } ∧ NSt n0 w0 bi bb bq bl l inn am ac a J W T0 last k T Wr Ds ∧ XAt (· < n0) w0 true r a i am inn i last zs ∧ zs = xs.drop k ∧ k + zs.length = xs.length ∧ szA r ≤ szA t ∧ last + cntA r = inn + cntA t

/-- Between two nodes of a body. -/
def Inv2 (n0 : Nat) (w0 : World) (bi bb bq bl l inn am ac : Nat) (a : Option Addr) (J : Nat → World → (Nat → Prop) → Prop) (W : World) (T0 : Nat → Prop) (xs : List Pd) (x : Tr) (zs' : List Pd) (v : Option Addr) (i last m c : Nat) (mm : Nat) (act : Act) (Wr : World) : Prop := ∃ (j last2 k2 : Nat) (T2 : Nat → Prop) (Ds2 : List Nat) (r2 : Tr) (zs2 : List Pd) (u6 u8 u9 u10 u11 u15 u16 u17 u18 u19 u23 u24 u25 u26 u27 u28 u29 u30 u31 u32 u33 u34 u35 u36 u37 u38 u39 u40 u41 u42 u43 u44 u45 u46 u47 u48 u49 u50 : Value), mm = m - j ∧ act = { tmps := #[.func (.yield l) #[] #[], .pointer (some ⟨bi, 0, none⟩), .pointer (some ⟨bb, 0, none⟩), .pointer (some ⟨bq, 0, none⟩), .pointer (some ⟨bl, 0, none⟩), .int .i64 (i : Int), u6, undef, u8, u9, u10, u11, .slice a am ac, .int .i64 (am : Int), .int .i64 (i : Int), u15, u16, u17, u18, u19, .slice v m c, .int .i64 (m : Int), .int .i64 (j : Int), u23, u24, u25, u26, u27, u28, u29, u30, u31, u32, u33, u34, u35, u36, u37, u38, u39, u40, u41, u42, u43, u44, u45, u46, u47, u48, u49, u50], defers := Ds2.map mark } ∧ NSt n0 w0 bi bb bq bl l inn am ac a J W T0 last2 k2 T2 Wr Ds2 ∧ XAt (· < n0) w0 false r2 v j m inn i last2 zs2 ∧ zs2 ++ zs' = xs.drop k2 ∧ k2 + (zs2 ++ zs').length = xs.length ∧ szA r2 ≤ szA x ∧ last2 + cntA r2 = last + cntA x

set_option maxRecDepth 1000000 in
theorem nodes_maker (i : Int) (av : Option Addr) (am ac : Nat) (w : World) : Calls Tryz.prog 94 #[.int .i64 i, .slice av am ac] w fun e w' => e = .returned (.func (.func 102) #[] #[.pointer (some ⟨w.heap.size, 0, none⟩), .pointer (some ⟨w.heap.size + 1, 0, none⟩)]) ∧ w' = (w.alloc (.cells #[.int .i64 i] 3)).alloc (.cells #[.slice av am ac] 92) := by
  go_enter Tryz.func94, Tryz.ntmps94
  go_wp2_with fail
  go_ret
  exact ⟨rfl, rfl⟩

set_option maxRecDepth 1000000 in
set_option maxHeartbeats 4000000 in
theorem nodes_step (t : Tr) (IH : ∀ tn, szA tn < szA t → NodesOK tn) : NodesOK t := by
  intro n0 w0 inn a am ac xs w bi bb T0 hX hlow hn0 hbi hbb ti tb hown hcnt hsz l J Jp W hW hJ hJp hY h0
  have hzW := hW.size
  have wbi : W.heap[bi]? = some (.cells #[.int .i64 (inn : Int)] 3 (0, 0)) := (hW.block _ (Array.getElem?_eq_some_iff.1 hbi).1).trans hbi
  have wbb : W.heap[bb]? = some (.cells #[.slice a am ac] 92 (0, 0)) := (hW.block _ (Array.getElem?_eq_some_iff.1 hbb).1).trans hbb
  have ib := (Array.getElem?_eq_some_iff.1 hbi).1
  have bbl := (Array.getElem?_eq_some_iff.1 hbb).1
  obtain ⟨bq, HQ⟩ : ∃ bq, bq = W.heap.size := ⟨_, rfl⟩
  obtain ⟨bl, HL⟩ : ∃ bl, bl = W.heap.size + 1 := ⟨_, rfl⟩
  obtain ⟨hxl, hal, _⟩ := hX.count
  have HAl : Hid _ := hal
  have ham : am ≤ 1000000000 := by have := len_szA t; omega
  have HXl : Hid _ := hxl
  clear hal hxl
  obtain ⟨T1, HT1⟩ : ∃ T1 : Nat → Prop, T1 = fun b => (T0 b ∨ b = bq) ∨ b = bl := ⟨_, rfl⟩
  have HNS : NSt n0 w0 bi bb bq bl l inn am ac a J W T0 inn 0 T1 ((W.alloc (.cells #[.func (.yield l) #[] #[]] 167)).alloc (.cells #[.int .i64 (inn : Int)] 3)) [] := by
    have q1 := Dg.row_alloc (Dg.row_new W #[.func (.yield l) #[] #[]] 167) (.cells #[.int .i64 (inn : Int)] 3)
    have q2 := Dg.row_new (W.alloc (.cells #[.func (.yield l) #[] #[]] 167)) #[.int .i64 (inn : Int)] 3
    rw [World.size_alloc, ← HL] at q2
    rw [← HQ] at q1
    have m1 : Mv T0 W T1 ((W.alloc (.cells #[.func (.yield l) #[] #[]] 167)).alloc (.cells #[.int .i64 (inn : Int)] 3)) := by
      have := (Mv.alloc T0 W (.cells #[.func (.yield l) #[] #[]] 167)).trans (Mv.alloc _ _ (.cells #[.int .i64 (inn : Int)] 3))
      rw [World.size_alloc, ← HQ] at this
      rw [HT1, HL, ← HQ]
      exact this
    refine ⟨hJ _ _ _ _ _ h0 m1, fun b hb => ?_, by simp; omega, fun b hb => ?_, Dg.row_alloc (Dg.row_alloc wbi _) _, Dg.row_alloc (Dg.row_alloc wbb _) _, q1, q2, by rw [HT1]; exact .inl (.inl ti), by rw [HT1]; exact .inl (.inl tb), by rw [HT1]; exact .inl (.inr rfl), by rw [HT1]; exact .inr rfl, by omega, by omega, by omega, Marks.nil _ _, fun b hb => m1.old b hb, m1.size⟩
    · rw [Below.heap_alloc _ _ _ (by simp; omega), Below.heap_alloc _ _ _ (by omega), hW.block b (by omega)]
      exact hlow b hb
    · rw [HT1] at hb
      rcases hb with (hb | rfl) | rfl
      · have := hown b hb; simp; omega
      · simp; omega
      · simp; omega
  obtain ⟨W1, HW1⟩ : ∃ W1, W1 = (W.alloc (.cells #[.func (.yield l) #[] #[]] 167)).alloc (.cells #[.int .i64 (inn : Int)] 3) := ⟨_, rfl⟩
  rw [← HW1] at HNS
  have c1 : ∀ o, (W.alloc o).cell? ⟨bi, 0, none⟩ = some (.int .i64 (inn : Int)) := fun o => (Dg.cell_row (Dg.row_alloc wbi o) 0).trans rfl
  have c2 := (Dg.cell_row HNS.hbb 0).trans rfl
  obtain ⟨R, HR⟩ : ∃ R : Ending → World → Prop, Hid (R = fun e W2 => (∃ v T2, e = .returned v ∧ J xs.length W2 T2 ∧ (∀ b, b < W.heap.size → (T2 b ↔ T0 b))) ∨ (∃ ch T2, e = .panicked ch ∧ Jp ch W2 T2 ∧ (∀ b, b < W.heap.size → (T2 b ↔ T0 b)))) := ⟨_, rfl⟩
  rw [← HR.out]
  refine callsE Tryz.func102 rfl ?_
  simp only [Tryz.ntmps102, List.size_toArray, List.length_cons, List.length_nil, Nat.reduceAdd, Nat.reduceSub, Array.replicate_succ, Array.replicate_zero, List.push_toArray, List.append_toArray, List.nil_append, List.cons_append]
  refine wpE_seq_wp fun K hK => ?_
  go_wp2_with fail
  refine wpE_seq_wp fun K hK => ?_
  go_wp2_with fail
  rw [← HW1, ← HL, ← HQ]
  clear HW1 HQ HL HT1 c1 wbi wbb
  refine wpE_seq_wp fun K hK => ?_
  go_wp2_with fail
  refine wpE_block ?_
  refine wpE_loop (Inv1 n0 w0 bi bb bq bl l inn am ac a J W T0 xs t) am ?atStart ?round
  case atStart =>
    exact ⟨0, inn, 0, T1, [], t, xs, undef, undef, undef, undef, undef, .int .i64 (inn : Int), undef, undef, undef, undef, undef, undef, undef, undef, undef, undef, undef, undef, undef, undef, undef, undef, undef, undef, undef, undef, undef, undef, undef, undef, undef, undef, undef, undef, undef, undef, undef, undef, undef, undef, undef, undef, rfl, rfl, HNS, hX, rfl, by simp, Nat.le_refl _, rfl⟩
  case round =>
    rintro m act Wr ⟨i, last, k, T, Ds, r, zs, u5, u6, u8, u9, u10, u11, u15, u16, u17, u18, u19, u20, u21, u22, u23, u24, u25, u26, u27, u28, u29, u30, u31, u32, u33, u34, u35, u36, u37, u38, u39, u40, u41, u42, u43, u44, u45, u46, u47, u48, u49, u50, rfl, rfl, H, hXr, hzs, hkz, hsr, hcr⟩
    clear HNS hX
    cases r with
    | e =>
      obtain ⟨rfl, rfl⟩ := hXr
      refine wpE_of_wp ?_
      go_wp2_with fail
      refine leaves_marks (T := T) (by simp) (fun A => ∃ TA, J xs.length A TA ∧ (∀ b, T b → TA b) ∧ ∀ b, b < W.heap.size → (TA b ↔ T0 b)) ?_ ?_ Ds Wr H.mks ⟨T, ?_, fun _ => id, H.old⟩
      · rintro A D hD ⟨TA, h1, h2, h3⟩
        exact ⟨TA, hJ _ _ _ _ _ h1 (Mv.putObj _ _ (h2 D hD)), h2, h3⟩
      · rintro A ⟨TA, h1, h2, h3⟩
        refine ⟨_, results_none rfl _ _, ?_⟩
        rw [HR.out]
        exact .inl ⟨_, TA, rfl, h1, h3⟩
      · simp only [List.length_nil, Nat.add_zero] at hkz
        rw [← hkz]
        exact H.j
    | n l2 t2 r2 => exact absurd hXr.1 (by simp)
    | b x r =>
      obtain ⟨_, hi, ys, zs', rfl, ⟨b, off, v, m, c, hab, hpb, hcb, hXx⟩, hXr⟩ := hXr
      have hcb' := H.cell hpb hcb
      subst hab
      have hii : (i : Int) < (am : Int) := by omega
      refine wpE_seq_wp fun K hK => ?_
      go_wp2_with fail
      refine wpE_seq (wpE_cond (t := true) rfl (wpE_of_wp ?_))
      go_wp2_with fail
      refine wpE_seq (wpE_block ?_)
      refine wpE_seq_wp fun K hK => ?_
      go_wp2_with fail
      have HB := H.alloc hJ (.cells #[.slice v m c] 145)
      have cB := (Dg.cell_row (Dg.row_new Wr #[.slice v m c] 145) 0).trans rfl
      have hml := hXx.count.2.1
      have hmx : m ≤ 1000000000 := by
        have := len_szA x
        simp only [szA] at hsr
        omega
      have HML : Hid _ := hml
      clear hml hcb' c2
      generalize Wr.alloc (.cells #[.slice v m c] 145) = Wb at *
      refine wpE_seq_wp fun K hK => ?_
      go_wp2_with fail
      clear cB
      refine wpE_block ?_
      refine wpE_loop (Inv2 n0 w0 bi bb bq bl l inn am ac (some ⟨b, off, none⟩) J W T0 xs x zs' v i last m c) m ?start2 ?round2
      case start2 =>
        exact ⟨0, last, k, _, Ds, x, ys, .pointer (some ⟨Wr.heap.size, 0, none⟩), u8, u9, u10, u11, .bool true, .int .i64 (i : Int), .pointer (some ⟨b, off + i, none⟩), .agg #[.slice v m c], .pointer (some ⟨Wr.heap.size, 0, none⟩), u23, u24, u25, u26, u27, u28, u29, u30, u31, u32, u33, u34, u35, u36, u37, u38, u39, u40, u41, u42, u43, u44, u45, u46, u47, u48, u49, u50, rfl, rfl, HB, hXx, hzs, hkz, Nat.le_refl _, rfl⟩
      case round2 =>
        rintro m2 act Wr2 ⟨j, last2, k2, T2, Ds2, r2, zs2, w6, w8, w9, w10, w11, w15, w16, w17, w18, w19, w23, w24, w25, w26, w27, w28, w29, w30, w31, w32, w33, w34, w35, w36, w37, w38, w39, w40, w41, w42, w43, w44, w45, w46, w47, w48, w49, w50, rfl, rfl, H2, hX2, hzs2, hkz2, hsr2, hcr2⟩
        clear HB
        cases r2 with
        | e =>
          obtain ⟨rfl, rfl⟩ := hX2
          refine wpE_of_wp ?_
          go_wp2_with fail
          refine wpE_of_wp ?_
          go_wp2_with fail
          have hlt : am - (i + 1) < am - i := by omega
          refine ⟨am - (i + 1), hlt, ?_⟩
          rw [show (i : Int) + 1 = ((i + 1 : Nat) : Int) from rfl]
          have hl2 : last2 = last + cntA x := by simpa [cntA] using hcr2
          have hq1 : zs' = xs.drop k2 := by simpa using hzs2
          have hq2 : k2 + zs'.length = xs.length := by simpa using hkz2
          have hq3 : szA r ≤ szA t := by simp only [szA] at hsr; omega
          have hq4 : last2 + cntA r = inn + cntA t := by simp only [cntA] at hcr hcr2; omega
          subst hl2
          exact ⟨i + 1, _, k2, T2, Ds2, r, zs', _, _, _, _, _, _, _, _, _, _, _, _, _, _, _, _, _, _, _, _, _, _, _, _, _, _, _, _, _, _, _, _, _, _, _, _, _, _, _, _, _, _, rfl, rfl, H2, hXr, hq1, hq2, hq3, hq4⟩
        | b x2 r3 => exact absurd hX2.1 (by simp)
        | n l2 t2 r3 =>
          obtain ⟨_, hj, sv, sm, sc, av, am2, ac2, ys2, zs3, hzq, ⟨b2, off2, hv2, hpb2, e0, e1, e2, e3, e4, e5⟩, hS2, hTt, hXt, hX3⟩ := hX2
          subst hv2
          have d0 := H2.cell hpb2 e0
          have d1 := H2.cell hpb2 e1
          have d2 := H2.cell hpb2 e2
          have d3 := H2.cell hpb2 e3
          have d4 := H2.cell hpb2 e4
          have d5 := H2.cell hpb2 e5
          have hjj : (j : Int) < (m : Int) := by omega
          have hlb : last2 + 1 + cntA t2 ≤ 1000000000 := by simp only [cntA] at hcr hcr2; omega
          refine wpE_seq_wp fun K hK => ?_
          go_wp2_with fail
          refine wpE_seq (wpE_cond (t := true) rfl (wpE_of_wp ?_))
          go_wp2_with fail
          refine wpE_seq (wpE_block ?_)
          refine wpE_seq_wp fun K hK => ?_
          go_wp2_with fail
          have H3 := H2.alloc hJ (.cells #[.string ⟨l2.name.toArray⟩, .string ⟨l2.undo.toArray⟩, .slice sv sm sc, .bool l2.sub, .bool l2.vital, .slice av am2 ac2] 148)
          have nb3 := Dg.row_new Wr2 #[.string ⟨l2.name.toArray⟩, .string ⟨l2.undo.toArray⟩, .slice sv sm sc, .bool l2.sub, .bool l2.vital, .slice av am2 ac2] 148
          have hblt := (H2.own bl H2.tl).2
          have HSz2 : Hid (Wr2.heap.size < (Wr2.alloc (.cells #[.string ⟨l2.name.toArray⟩, .string ⟨l2.undo.toArray⟩, .slice sv sm sc, .bool l2.sub, .bool l2.vital, .slice av am2 ac2] 148)).heap.size) := by show _ < _; simp
          obtain ⟨bn, hbn⟩ : ∃ bn, Wr2.heap.size = bn := ⟨_, rfl⟩
          rw [hbn] at H3 nb3 hblt HSz2 ⊢
          have hnl : bn ≠ bl := by omega
          have HK2 : Hid (∀ b, T2 b → b < bn) := by show ∀ b, T2 b → b < bn; intro b hb; have := (H2.own b hb).2; omega
          clear d0 d1 d2 d3 d4 d5 hbn hblt
          generalize Wr2.alloc (.cells #[.string ⟨l2.name.toArray⟩, .string ⟨l2.undo.toArray⟩, .slice sv sm sc, .bool l2.sub, .bool l2.vital, .slice av am2 ac2] 148) = W3 at *
          have cl := (Dg.cell_row H3.hbl 0).trans rfl
          have fl := Dg.froz_row H3.hbl 0
          refine wpE_seq_wp fun K hK => ?_
          go_wp2_with fail
          rw [show (last2 : Int) + 1 = ((last2 + 1 : Nat) : Int) from rfl]
          have H4 := H3.step hJ (last2 + 1)
          have nb4 := Dg.row_other nb3 (c := bl) (i := 0) (.int .i64 ((last2 + 1 : Nat) : Int)) hnl
          have HSz3 : Hid (bn < (W3.setCell ⟨bl, 0, none⟩ (.int .i64 ((last2 + 1 : Nat) : Int))).heap.size) := by have := HSz2.out; show _ < _; simpa using this
          clear cl fl nb3 HSz2
          generalize W3.setCell ⟨bl, 0, none⟩ (.int .i64 ((last2 + 1 : Nat) : Int)) = W4 at *
          have g0 := (Dg.cell_row nb4 0).trans rfl
          have g1 := (Dg.cell_row nb4 1).trans rfl
          have g2 := (Dg.cell_row nb4 2).trans rfl
          have g3 := (Dg.cell_row nb4 3).trans rfl
          have g4 := (Dg.cell_row nb4 4).trans rfl
          have g5 := (Dg.cell_row nb4 5).trans rfl
          have gl := (Dg.cell_row H4.hbl 0).trans rfl
          have gi' := (Dg.cell_row H4.hbi 0).trans rfl
          have gq := (Dg.cell_row H4.hbq 0).trans rfl
          have hxk : xs[k2]? = some ⟨last2 + 1, l2, t2, sv, sm, sc, av, am2, ac2, inn, i⟩ := by
            have h9 : (xs.drop k2)[0]? = some (⟨last2 + 1, l2, t2, sv, sm, sc, av, am2, ac2, inn, i⟩ : Pd) := by rw [← hzs2, hzq]; rfl
            simpa using h9
          obtain ⟨fnn, tms, asg, bdy, hy, hR⟩ := hY k2 _ W4 _ hxk H4.j 4
          dsimp only [Pd.enc] at hy
          rw [show ((last2 + 1 : Nat) : Int) = (last2 : Int) + 1 from rfl] at hy
          refine wpE_seq (wpE_seq (wpE_wide (n := 5) ?_))
          gi_wp2
          refine hR.mono ?_
          rintro e W5 (⟨rfl, hj5, hr5⟩ | ⟨ch, rfl, hjp, hkd⟩)
          · clear hy hR g0 g1 g2 g3 g4 g5 gl gi' gq
            gi_wp2
            refine wpE_cond (t := false) rfl (wpE_of_wp ?_)
            go_wp2_with fail
            have H5 := H4.round hj5 hr5
            have nb5 := (hr5.keep bn (.inr rfl) HSz3.out).trans nb4
            have gl := (Dg.cell_row H5.hbl 0).trans rfl
            have g5 := (Dg.cell_row nb5 5).trans rfl
            obtain ⟨TT, HTT⟩ : ∃ TT : Nat → Prop, TT = fun b => T2 b ∨ b = bn := ⟨_, rfl⟩
            rw [← HTT] at H5
            have hsw : szA t2 < szA t := by simp only [szA] at hsr hsr2; omega
            have hcw := XAt.count _ _ _ _ _ _ _ _ _ hXt
            have hTl : ∀ b, TT b → b < W5.heap.size := fun b hb => (H5.own b hb).2
            have hxn : ∀ (k3 : Nat) (x3 : Pd), ys2[k3]? = some x3 → xs[k2 + 1 + k3]? = some x3 := by
              intro k3 x3 h3
              have h9 : (xs.drop k2)[1 + k3]? = some x3 := by
                rw [← hzs2, hzq, Nat.add_comm 1 k3, List.cons_append, List.getElem?_cons_succ, List.append_assoc, List.getElem?_append_left (List.getElem?_eq_some_iff.1 h3).1]
                exact h3
              rw [List.getElem?_drop] at h9
              rw [show k2 + 1 + k3 = k2 + (1 + k3) by omega]
              exact h9
            have HXN : Hid _ := hxn
            have HCW : Hid _ := hcw
            have HTL : Hid _ := hTl
            clear hcw hxn hTl hj5 hr5 hxk H4 HSz3 nb4
            refine wpE_seq_wp fun K hK => ?_
            go_wp2_with fail
            refine Calls.mono (nodes_maker _ _ _ _ _) ?_
            rintro e w6 ⟨rfl, rfl⟩
            go_wp2_with fail
            clear gl g5
            rw [show (last2 : Int) + 1 = ((last2 + 1 : Nat) : Int) from rfl]
            obtain ⟨s0, hs0⟩ : ∃ s0, W5.heap.size = s0 := ⟨_, rfl⟩
            have hmt := mv_two TT W5 (.cells #[.int .i64 ((last2 + 1 : Nat) : Int)] 3) (.cells #[.slice av am2 ac2] 92)
            have q1 := Dg.row_alloc (Dg.row_new W5 #[.int .i64 ((last2 + 1 : Nat) : Int)] 3) (.cells #[.slice av am2 ac2] 92)
            have q2 := Dg.row_new (W5.alloc (.cells #[.int .i64 ((last2 + 1 : Nat) : Int)] 3)) #[.slice av am2 ac2] 92
            have hsz6 : ((W5.alloc (.cells #[.int .i64 ((last2 + 1 : Nat) : Int)] 3)).alloc (.cells #[.slice av am2 ac2] 92)).heap.size = s0 + 2 := by simp; omega
            have hblk : ∀ b, b < s0 → ((W5.alloc (.cells #[.int .i64 ((last2 + 1 : Nat) : Int)] 3)).alloc (.cells #[.slice av am2 ac2] 92)).heap[b]? = W5.heap[b]? := fun b hb => (Below.heap_alloc _ _ _ (by simp; omega)).trans (Below.heap_alloc _ _ _ (by omega))
            rw [World.size_alloc, hs0] at q2
            rw [hs0] at q1 hmt HTL ⊢
            generalize (W5.alloc (.cells #[.int .i64 ((last2 + 1 : Nat) : Int)] 3)).alloc (.cells #[.slice av am2 ac2] 92) = Wc at *
            have h5le := H5.le
            have kpc : ∀ {b x}, TT b → W5.heap[b]? = some x → Wc.heap[b]? = some x := fun hb hx => (hblk _ (HTL.out _ hb)).trans hx
            have hL0 : LS n0 w0 bi bb bq bl l inn am ac (some ⟨b, off, none⟩) J TT Ds2 s0 (last2 + 1 + 0) (k2 + 1 + 0) Wc (fun b => b = s0 ∨ b = s0 + 1) :=
              ⟨hJ _ _ _ _ _ H5.j hmt, fun b hb hx => by have := HTL.out b hb; omega, fun b hb => by omega, fun b hb => (hblk b (by omega)).trans (H5.low b hb), by omega, kpc H5.ti H5.hbi, kpc H5.tb H5.hbb, kpc H5.tq H5.hbq, kpc H5.tl H5.hbl, H5.mks.mono (fun _ => id) (fun D hD hx => kpc hD hx), by omega⟩
            have hlow6 : ∀ b, b < n0 → Wc.heap[b]? = w0.heap[b]? := hL0.low
            have hseq := IH t2 hsw n0 w0 (last2 + 1) av am2 ac2 ys2 Wc s0 (s0 + 1) (fun b => b = s0 ∨ b = s0 + 1) hXt hlow6 (by omega) q1 q2 (.inl rfl) (.inr rfl) (fun b hb => by omega) hlb (by omega)
            have hll := (H5.own bl H5.tl).1
            refine wpE_block ?_
            refine range_law Tryz.func102 (gf := 102) (lb := #[.pointer (some ⟨s0, 0, none⟩), .pointer (some ⟨s0 + 1, 0, none⟩)]) rfl (enters_of Tryz.func102 (by kernel_rfl) rfl) hseq (fun b hb => by omega) (by omega) (fun _ => rfl)
              (fun k3 A TA => LS n0 w0 bi bb bq bl l inn am ac (some ⟨b, off, none⟩) J TT Ds2 s0 (last2 + 1 + k3) (k2 + 1 + k3) A TA)
              (fun ch A TA => Jp ch A (fun b => TA b ∨ TT b) ∧ (∀ b, TT b → ¬ TA b) ∧ Marks TT A Ds2)
              (fun k A TA B TB h m => h.mv hJ HTL.out H5.ti H5.tb H5.tq H5.tl m) ?_ hL0 ?_ ?_ ?_
            · rintro ch A TA d o ⟨h1, h2, h3⟩ hd
              exact ⟨hJp _ _ _ _ _ h1 (.inl hd), h2, h3.mono (fun _ => id) (fun D hD hx => (World.putObj_heap_other (fun (e : D = d) => h2 D hD (e ▸ hd))).trans hx)⟩
            · intro l3 k3 x3 W6 TB hx3 hL tb1 tb2 hlt6
              have hnum : x3.num = last2 + 1 + 1 + k3 := HCW.out.2.2 k3 x3 hx3
              have hxs := HXN.out k3 x3 hx3
              refine wpE_inRound (n := 5) ?_
              rw [show x3.enc = #[.int .i64 (x3.num : Int), .agg #[.string ⟨x3.lab.name.toArray⟩, .string ⟨x3.lab.undo.toArray⟩, .slice x3.sv x3.sm x3.sc, .bool x3.lab.sub, .bool x3.lab.vital, .slice x3.av x3.am x3.ac, .int .i64 (x3.inn : Int), .int .i64 (x3.alt : Int)]] from rfl, two_tmps]
              simp only [List.setIfInBounds_toArray, List.set_cons_succ, List.set_cons_zero]
              gi_wp2
              refine ⟨hL.alloc hJ HTL.out H5.ti H5.tb H5.tq H5.tl _, Rv.alloc _ _ hL.le, fun W7 hL7 hmv => ?_⟩
              have nw := Dg.row_new W6 #[.string ⟨x3.lab.name.toArray⟩, .string ⟨x3.lab.undo.toArray⟩, .slice x3.sv x3.sm x3.sc, .bool x3.lab.sub, .bool x3.lab.vital, .slice x3.av x3.am x3.ac, .int .i64 (x3.inn : Int), .int .i64 (x3.alt : Int)] 159
              have hbw : ¬ TB W6.heap.size := fun hx => by have := (hL.own _ hx).2; omega
              have nw7 := (hmv.same W6.heap.size (by simp) hbw).trans nw
              obtain ⟨bw, hbwe⟩ : ∃ bw, W6.heap.size = bw := ⟨_, rfl⟩
              rw [hbwe] at nw7 ⊢
              have hbwl : bw ≠ bl := by
                have h1 := HTL.out bl H5.tl
                have h2 := hL.sz
                omega
              clear hmv nw hbw hbwe
              have HL8 := hL7.step hJ H5.tl H5.ni H5.nb H5.nq hll x3.num
              have nw8 := Dg.row_other nw7 (c := bl) (i := 0) (.int .i64 (x3.num : Int)) hbwl
              have cl7 := (Dg.cell_row hL7.hbl 0).trans rfl
              have fl7 := Dg.froz_row hL7.hbl 0
              have gq := (Dg.cell_row HL8.hbq 0).trans rfl
              have g0 := (Dg.cell_row nw8 0).trans rfl
              have g1 := (Dg.cell_row nw8 1).trans rfl
              have g2 := (Dg.cell_row nw8 2).trans rfl
              have g3 := (Dg.cell_row nw8 3).trans rfl
              have g4 := (Dg.cell_row nw8 4).trans rfl
              have g5 := (Dg.cell_row nw8 5).trans rfl
              have g6 := (Dg.cell_row nw8 6).trans rfl
              have g7 := (Dg.cell_row nw8 7).trans rfl
              obtain ⟨fnn, tms, asg, bdy, hy, hR⟩ := yieldIn (l' := l3) (hY (k2 + 1 + k3) x3 _ _ hxs HL8.j 4)
              dsimp only [Pd.enc] at hy
              have HNum : Hid _ := hnum
              clear hnum hxs
              refine wpE_inRound (n := 5) ?_
              gi_wp2
              refine hR.mono ?_
              rintro e W9 (⟨rfl, hj9, hr9⟩ | ⟨ch, rfl, hjp, hkd⟩)
              · clear hy hR g0 g1 g2 g3 g4 g5 g6 g7 gq cl7 fl7
                gi_wp2
                refine ⟨?_, ?_⟩
                · have h9 := HL8.round H5.ti H5.tb H5.tq H5.tl hj9 hr9
                  rw [HNum.out, show last2 + 1 + 1 + k3 = last2 + 1 + (k3 + 1) by omega] at h9
                  exact h9
                · exact (Rv.setCell W7 _ hll (hL7.dis bl H5.tl)).trans (hr9.mono (fun b hb => .inl hb))
              · refine ⟨rfl, ⟨hjp, hL7.dis, HL8.mks.mono (fun _ => id) (fun D hD hx => hkd D _ (.inr hD) hx)⟩, fun b ds hb hx => ?_⟩
                refine hkd b ds (.inl hb) ?_
                exact (Below.heap_setCell W7 ⟨bl, 0, none⟩ _ b (fun (e : b = bl) => hL7.dis bl H5.tl (e ▸ hb))).trans hx
            · intro W6 T6 hL hold ht6 hD
              have hTs : ∀ b, b < W.heap.size → ¬ T6 b := fun b hb hx => by
                have h1 := H5.sz
                have := (hold b (by omega)).1 hx
                omega
              refine wpE_of_wp ?_
              go_wp2_with fail
              have hlt : m - (j + 1) < m - j := by omega
              refine ⟨m - (j + 1), hlt, ?_⟩
              rw [show (j : Int) + 1 = ((j + 1 : Nat) : Int) from rfl]
              have hyl : ys2.length = cntA t2 := HCW.out.1
              have hnd : Wc.heap.size ∉ Ds2 := fun hx => by have := HTL.out _ (hL.mks.2 _ hx).1; omega
              have hN : NSt n0 w0 bi bb bq bl l inn am ac (some ⟨b, off, none⟩) J W T0 (last2 + 1 + ys2.length) (k2 + 1 + ys2.length) (fun b => T6 b ∨ TT b) W6 (Wc.heap.size :: Ds2) := by
                refine ⟨hL.j, hL.low, hL.le, fun b hb => ?_, hL.hbi, hL.hbb, hL.hbq, hL.hbl, .inr H5.ti, .inr H5.tb, .inr H5.tq, .inr H5.tl, H5.ni, H5.nb, H5.nq, Marks.cons (hL.mks.mono (fun _ => .inr) (fun _ _ hx => hx)) (.inl ht6) hD hnd, fun b hb => ⟨fun hx => (H5.old b hb).1 (hx.resolve_left (hTs b hb)), fun hx => .inr ((H5.old b hb).2 hx)⟩, by have h1 := H5.sz; have h2 := hL.sz; omega⟩
                rcases hb with hb | hb
                · exact hL.own b hb
                · have h1 := H5.own b hb
                  have h2 := hL.sz
                  omega
              have hX4 : XAt (· < n0) w0 false r3 (some ⟨b2, off2, none⟩) (j + 1) m inn i (last2 + 1 + ys2.length) zs3 := by rw [hyl]; exact hX3
              have hq1 : zs3 ++ zs' = xs.drop (k2 + 1 + ys2.length) := by
                have h9 : xs.drop (k2 + 1 + ys2.length) = (xs.drop k2).drop (1 + ys2.length) := by rw [List.drop_drop, Nat.add_assoc]
                rw [h9, ← hzs2, hzq, Nat.add_comm 1, List.cons_append, List.drop_succ_cons, List.append_assoc, List.drop_left]
              have hq2 : k2 + 1 + ys2.length + (zs3 ++ zs').length = xs.length := by
                rw [hzq] at hkz2
                simp at hkz2 ⊢
                omega
              have hq3 : szA r3 ≤ szA x := by simp only [szA] at hsr2; omega
              have hq4 : last2 + 1 + ys2.length + cntA r3 = last + cntA x := by simp only [cntA] at hcr2; omega
              rw [hsz6] at hN
              exact ⟨j + 1, _, _, _, (s0 + 2) :: Ds2, r3, zs3, _, _, _, _, _, _, _, _, _, _, _, _, _, _, _, _, _, _, _, _, _, _, _, _, _, _, _, _, _, _, _, _, _, _, _, _, _, _, rfl, rfl, hN, hX4, hq1, hq2, hq3, hq4⟩
            · rintro ch W6 T6 ⟨h1, h2, h3⟩ hold ht6 hD
              have hTs : ∀ b, b < W.heap.size → ¬ T6 b := fun b hb hx => by
                have h1 := H5.sz
                have := (hold b (by omega)).1 hx
                omega
              show LeavesInM Fence.wide 0 Tryz.prog Tryz.f102 _ R ((Wc.heap.size :: Ds2).map mark) (.panicking ch) W6
              have hnd : Wc.heap.size ∉ Ds2 := fun hx => by have := HTL.out _ (h3.2 _ hx).1; omega
              refine leaves_marks (T := fun b => T6 b ∨ TT b) (by simp) (fun A => ∃ TA, Jp ch A TA ∧ (∀ b, (T6 b ∨ TT b) → TA b) ∧ ∀ b, b < W.heap.size → (TA b ↔ T0 b)) ?_ ?_ _ W6 (Marks.cons (h3.mono (fun _ => .inr) (fun _ _ hx => hx)) (.inl ht6) hD hnd) ⟨_, h1, fun _ => id, fun b hb => ⟨fun hx => (H5.old b hb).1 (hx.resolve_left (hTs b hb)), fun hx => .inr ((H5.old b hb).2 hx)⟩⟩
              · rintro A D hD ⟨TA, h1, h2, h3⟩
                exact ⟨TA, hJp _ _ _ _ _ h1 (h2 D hD), h2, h3⟩
              · rintro A ⟨TA, h1, h2, h3⟩
                show R (.panicked ch) A
                rw [HR.out]
                exact .inr ⟨ch, TA, rfl, h1, h3⟩
          · clear hy hR g0 g1 g2 g3 g4 g5 gl gi' gq
            show LeavesInM Fence.wide 0 Tryz.prog Tryz.f102 _ R (Ds2.map mark) (.panicking ch) W5
            refine leaves_marks (T := fun b => T2 b ∨ b = bn) (by simp) (fun A => ∃ TA, Jp ch A TA ∧ (∀ b, (T2 b ∨ b = bn) → TA b) ∧ ∀ b, b < W.heap.size → (TA b ↔ T0 b)) ?_ ?_ Ds2 W5 (H4.mks.mono (fun _ => id) (fun D hD hx => hkd D _ hD hx)) ⟨_, hjp, fun _ => id, H4.old⟩
            · rintro A D hD ⟨TA, h1, h2, h3⟩
              exact ⟨TA, hJp _ _ _ _ _ h1 (h2 D hD), h2, h3⟩
            · rintro A ⟨TA, h1, h2, h3⟩
              show R (.panicked ch) A
              rw [HR.out]
              exact .inr ⟨ch, TA, rfl, h1, h3⟩

end Go.Proofs.YtlegmmhacnbnlaaGreatDoor

