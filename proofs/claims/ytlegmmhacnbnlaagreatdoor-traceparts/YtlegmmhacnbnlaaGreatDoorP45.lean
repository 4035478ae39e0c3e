/- Texts of the seat, packed: Yg Yh. -/
import Derived.Test.YtlegmmhacnbnlaaGreatDoorP44
/- The program's sagaOf. -/
namespace Go.Proofs.YtlegmmhacnbnlaaGreatDoor

open Go.RowKit Go.Shelf Go.Proofs.YtlegmmhacnbnlaaGreatDoor.Sx

/-- The bodies that items tell of. -/
def bodS (its : List It) : Tr := bodT its (its.length + 1) 0

open Classical in
/-- The saga of items, or none. -/
noncomputable def sagaP (its : List It) : Option (By × Tr) := if hangs its = true ∧ planT (nameI its 0) (bodS its) = some its then some (nameI its 0, bodS its) else none

/-- How sagaOf ends. -/
def SagaC (its : List It) (w : World) (e : Ending) (w' : World) : Prop := Below w.heap.size w w' ∧ match sagaP its with
  | none => e = .panicked (rej 2)
  | some (x, t) => ∃ a c, e = .returned (.agg #[.string ⟨x.toArray⟩, .slice a t.len c]) ∧ TAt (Since w w') w' true t a 0 t.len

theorem SagaC.bad {its : List It} {w w' : World} (h : ¬ (hangs its = true ∧ planT (nameI its 0) (bodS its) = some its)) (hb : Below w.heap.size w w') : SagaC its w (.panicked (rej 2)) w' := by
  unfold SagaC sagaP
  rw [if_neg h]
  exact ⟨hb, rfl⟩

theorem SagaC.ok {its : List It} {w w' : World} {a : Option Addr} {c : Nat} (h : hangs its = true ∧ planT (nameI its 0) (bodS its) = some its) (hb : Below w.heap.size w w') (ht : TAt (Since w w') w' true (bodS its) a 0 (bodS its).len) : SagaC its w (.returned (.agg #[.string ⟨(nameI its 0).toArray⟩, .slice a (bodS its).len c])) w' := by
  unfold SagaC sagaP
  rw [if_pos h]
  exact ⟨hb, a, c, rfl, ht⟩

theorem xsT_len (t : Tr) : ∀ inn alt last, (xsT t inn alt last).length = cntA t := by
  induction t with
  | e => intro _ _ _; rfl
  | b x r h1 h2 => intro inn alt last; simp only [xsT, cntA, List.length_append, h1, h2]
  | n l t r h1 h2 => intro inn alt last; simp only [xsT, cntA, List.length_append, List.length_cons, h1, h2]; omega

theorem planT_small {x : By} {t : Tr} {its : List It} (h : planT x t = some its) : its.length ≤ 100000 ∧ ∀ y ∈ its, y.after.length ≤ 1000000 := by
  have hf := fit_cnt (planT_fit h)
  unfold planT planP at h
  split at h
  · cases h
    have hl := xsT_len t 0 0 0
    refine ⟨by rw [its2_len]; omega, fun y hy => ?_⟩
    have := (its2_after _ _ _ _ y hy).1
    omega
  · cases h

/-- What sagaOf knows once the bodies are told. -/
structure SgS (w : World) (v : Value) (x : It) (T : Tr) (nb : Nat) (A : World) (av : Option Addr) (ac : Nat) (P : Nat → Prop) : Prop where
  bel : Below w.heap.size w A
  it : A.heap[w.heap.size]? = some (.cells #[v] 24 (0, 0))
  nd : A.heap[nb]? = some (.cells #[.string ⟨x.name.toArray⟩, .slice av T.len ac] 94 (0, 0))
  res : A.heap[w.heap.size + 1]? = some (.cells #[.string ⟨#[]⟩, .slice none 0 0] 94 (0, 0))
  ge : w.heap.size + 1 < nb
  tr : TAt P A true T av 0 T.len
  pg : ∀ b, P b → w.heap.size + 1 < b ∧ b < A.heap.size ∧ b ≠ nb

theorem SgS.later {w : World} {v : Value} {x : It} {T : Tr} {nb : Nat} {A B : World} {av : Option Addr} {ac : Nat} {P : Nat → Prop} (h : SgS w v x T nb A av ac P) (hb : Below A.heap.size A B) : SgS w v x T nb B av ac P := by
  have hlt : ∀ {b : Nat} {o : Obj}, A.heap[b]? = some o → b < A.heap.size := fun h => (Array.getElem?_eq_some_iff.1 h).1
  exact ⟨h.bel.trans (hb.mono h.bel.size), (hb.block _ (hlt h.it)).trans h.it, (hb.block _ (hlt h.nd)).trans h.nd, (hb.block _ (hlt h.res)).trans h.res, h.ge, TAt.keep (fun b _ hl => hb.block b hl) (fun b hb _ => hb) _ _ _ _ _ h.tr, fun b hp => ⟨(h.pg b hp).1, Nat.lt_of_lt_of_le (h.pg b hp).2.1 hb.size, (h.pg b hp).2.2⟩⟩

/-- Two cells of a block put. -/
theorem two_row {A : World} {n : Nat} {c0 c1 : Value} {t : TypeId} (h : A.heap[n]? = some (.cells #[c0, c1] t (0, 0))) (u0 u1 : Value) :
    ((A.setCell ⟨n, 0, none⟩ u0).setCell ⟨n, 1, none⟩ u1).heap[n]? = some (.cells #[u0, u1] t (0, 0)) ∧ ((A.setCell ⟨n, 0, none⟩ u0).setCell ⟨n, 1, none⟩ u1).heap.size = A.heap.size ∧
    (∀ b, b ≠ n → ((A.setCell ⟨n, 0, none⟩ u0).setCell ⟨n, 1, none⟩ u1).heap[b]? = A.heap[b]?) ∧ ∀ base, base ≤ n → Below base A ((A.setCell ⟨n, 0, none⟩ u0).setCell ⟨n, 1, none⟩ u1) := by
  refine ⟨Dg.row_set (Dg.row_set h 0 u0) 1 u1, by simp, fun b hb => ?_, fun base hb => ((Below.refl _ A).setCell hb u0).setCell hb u1⟩
  rw [Below.heap_setCell _ _ _ b hb, Below.heap_setCell _ _ _ b hb]

set_option maxRecDepth 1000000 in
set_option maxHeartbeats 4000000 in
theorem sagaOf_any (its : List It) (v : Value) (w : World) (hIt : RdIt w v its) (hnm : ∀ x ∈ its, x.name.length ≤ 1100000) (hT : Dg.Tab w) (haf : ∀ x ∈ its, x.after.length ≤ 1000000) :
    Calls Tryz.prog 66 #[.agg #[v]] w fun e w' => SagaC its w e w' := by
  have HIt : Hid (RdIt w v its) := hIt
  have HNm : Hid _ := hnm
  have HTb : Hid (Dg.Tab w) := hT
  have HAf : Hid _ := haf
  clear hnm hT haf
  obtain ⟨ia, icap, rfl, hic, hir⟩ := hIt
  have hb1 : Below w.heap.size w ((w.alloc (.cells #[.slice ia its.length icap] 24)).alloc (.cells #[.string ⟨#[]⟩, .slice none 0 0] 94)) := ((Below.refl _ w).alloc (Nat.le_refl _) _).alloc (by simp) _
  have r0 := Dg.row_alloc (Dg.row_new w #[.slice ia its.length icap] 24) (.cells #[.string ⟨#[]⟩, .slice none 0 0] 94)
  have r1 := Dg.row_new (w.alloc (.cells #[.slice ia its.length icap] 24)) #[.string ⟨#[]⟩, .slice none 0 0] 94
  rw [World.size_alloc] at r1
  have g0 := (Dg.cell_row r0 0).trans rfl
  have M1 : Hid _ := mustHang_any its _ _ (HIt.out.later hb1)
  go_enter Tryz.func66, Tryz.ntmps66
  go_wp2_with fail
  generalize (w.alloc (.cells #[.slice ia its.length icap] 24)).alloc (.cells #[.string ⟨#[]⟩, .slice none 0 0] 94) = w1 at *
  have hz1 : w.heap.size + 1 < w1.heap.size := (Array.getElem?_eq_some_iff.1 r1).1
  refine Calls.mono M1.out ?_
  rintro e w2 ⟨he, hb2⟩
  clear M1 g0
  have hbl2 := hb1.trans (hb2.mono hb1.size)
  have s0 := (hb2.block _ (by omega)).trans r0
  have s1 := (hb2.block _ hz1).trans r1
  have hz2 := Nat.lt_of_lt_of_le hz1 hb2.size
  clear r0 r1 hz1 hb1 hb2
  cases hh : hangs its with
  | false =>
    rw [hh] at he
    obtain rfl : e = .panicked (rej 2) := he
    go_wp2_with fail
    exact ⟨rfl, SagaC.bad (fun h9 => by rw [hh] at h9; cases h9.1) hbl2⟩
  | true =>
    rw [hh] at he
    obtain rfl : e = .returned (.tuple #[]) := he
    have HH : Hid _ := hh
    obtain ⟨h0, h64, hat⟩ := hangs_at hh
    obtain ⟨x, hx⟩ : ∃ x, its[0]? = some x := ⟨_, List.getElem?_eq_getElem h0⟩
    obtain ⟨b1, off1, yav, yam, yac, rfl, k0, _⟩ := hir 0 x hx
    have HX : Hid (nameI its 0 = x.name) := by show _ = _; unfold nameI; rw [show (0 : Int).toNat = 0 from rfl, hx]
    have MB := fun w3 h3 => bodies_rec hh (.slice (some ⟨b1, off1, none⟩) its.length icap) (its.length + 1) 0 (by omega) h0 w3 h3
    have HMB : Hid _ := MB
    obtain ⟨T, HTT⟩ : ∃ T, Hid (bodS its = T) := ⟨_, rfl⟩
    have hzero : off1 + 0 * 8 = off1 := by omega
    rw [hzero] at k0
    obtain ⟨il, HIL⟩ : ∃ il, Hid (its.length = il) := ⟨_, rfl⟩
    have hil0 : 0 < il := by rw [← HIL.out]; exact h0
    rw [HIL.out] at s0
    rw [HIL.out]
    clear hh hat hx MB hir hzero h0 hic h64
    go_wp2_with fail
    have hMB : ∀ W, Below w.heap.size w W → Calls Tryz.prog 80 #[(.slice (some ⟨b1, off1, none⟩) il icap), .int .i64 0] W fun e w' => BodC T W e w' := by
      intro W hW
      have h9 := HMB.out W (HIt.out.later hW)
      rw [show bodT its (its.length + 1) 0 = T from HTT.out, HIL.out] at h9
      exact h9
    have HMB2 : Hid _ := hMB
    clear HMB hMB
    refine wp_mono (Q := fun e a' w' => e = .normal ∧ ∃ nb av ac P, SgS w (.slice (some ⟨b1, off1, none⟩) il icap) x T nb w' av ac P ∧ a' = ⟨#[.agg #[(.slice (some ⟨b1, off1, none⟩) il icap)], .pointer (some ⟨w.heap.size, 0, none⟩), .pointer (some ⟨w.heap.size + 1, 0, none⟩), .pointer (some ⟨nb, 0, none⟩), undef, undef, .pointer (some ⟨w.heap.size, 0, none⟩), (.slice (some ⟨b1, off1, none⟩) il icap), .tuple #[], .pointer (some ⟨w.heap.size, 0, none⟩), (.slice (some ⟨b1, off1, none⟩) il icap), .pointer (some ⟨b1, off1, none⟩), .pointer (some ⟨b1, off1, none⟩), .string ⟨x.name.toArray⟩, .pointer (some ⟨w.heap.size, 0, none⟩), (.slice (some ⟨b1, off1, none⟩) il icap), .slice av T.len ac, .agg #[.string ⟨x.name.toArray⟩, .slice av T.len ac], undef, undef, undef, undef, undef, undef, undef, undef, undef, undef, undef, undef, undef, undef, undef, undef], []⟩) ?_ ?_
    · refine wp_region_held (S := fun w' => Below w.heap.size w w' ∧ w'.heap[w.heap.size]? = some (.cells #[(.slice (some ⟨b1, off1, none⟩) il icap)] 24 (0, 0)) ∧ w'.heap[w.heap.size + 1]? = some (.cells #[.string ⟨#[]⟩, .slice none 0 0] 94 (0, 0))) (by kernel_rfl) ?_
      have hS0 : Below w.heap.size w w2.drew ∧ w2.drew.heap[w.heap.size]? = some (.cells #[(.slice (some ⟨b1, off1, none⟩) il icap)] 24 (0, 0)) ∧ w2.drew.heap[w.heap.size + 1]? = some (.cells #[.string ⟨#[]⟩, .slice none 0 0] 94 (0, 0)) := ⟨hbl2.drew, s0, s1⟩
      simp only [List.size_toArray, List.length_cons, List.length_nil, Nat.reduceAdd, Array.replicate_succ, Array.replicate_zero, List.push_toArray, List.nil_append, List.cons_append]
      refine tG 0 9 (.pointer (some ⟨w.heap.size, 0, none⟩)) 10 rfl hS0 ?_
      refine tV 1 10 ((.slice (some ⟨b1, off1, none⟩) il icap)) 9 rfl hS0 ?_ (fun w9 hw9 => by have z0 := (Dg.cell_row hw9.2.1 0).trans rfl; go_simp)
      refine tG 2 11 (.pointer (some ⟨b1, off1, none⟩)) 8 rfl hS0 ?_
      refine tG 3 12 (.pointer (some ⟨b1, off1, none⟩)) 7 rfl hS0 ?_
      refine tV 4 13 (.string ⟨x.name.toArray⟩) 6 rfl hS0 ?_ (fun w9 hw9 => by have z0 := Dg.cell_later hw9.1 k0; go_simp)
      refine tG 5 14 (.pointer (some ⟨w.heap.size, 0, none⟩)) 5 rfl hS0 ?_
      refine tV 6 15 ((.slice (some ⟨b1, off1, none⟩) il icap)) 4 rfl hS0 ?_ (fun w9 hw9 => by have z0 := (Dg.cell_row hw9.2.1 0).trans rfl; go_simp)
      refine wpAnyH_all (fuel := 3) (rs := [7, 9]) (by kernel_rfl) (by decide) ?_
      refine List.forall_mem_cons.2 ⟨?_, List.forall_mem_singleton.2 ?_⟩
      · refine wpOp_calls (i := 7) (d := 16) rfl rfl (by kernel_rfl) (f := 80) (args := #[(.slice (some ⟨b1, off1, none⟩) il icap), .int .i64 0]) (by kernel_rfl) _ (HMB2.out w2.drew hbl2.drew) ?_ ?_ ?_
        · rintro vA WA ⟨hbA2, av, am, ac, hvA, htA⟩
          obtain rfl : am = T.len := by have := htA.len; omega
          cases hvA
          have hbA : Below w.heap.size w WA := hbl2.trans ((Below.refl _ _).drew.trans (hbA2.mono hbl2.size))
          have hA0 := (hbA2.block _ (show w.heap.size < w2.heap.size by omega)).trans s0
          have hA1 := (hbA2.block _ hz2).trans s1
          refine ⟨⟨hbA, hA0, hA1⟩, ?_⟩
          simp only [List.setIfInBounds_toArray, List.set_cons_succ, List.set_cons_zero]
          refine wpAnyH_all (fuel := 2) (rs := [8, 9]) (by kernel_rfl) (by decide) ?_
          refine List.forall_mem_cons.2 ⟨?_, List.forall_mem_singleton.2 ?_⟩
          · refine wpOp_value (i := 8) (d := 17) (v := .agg #[.string ⟨x.name.toArray⟩, .slice av T.len ac]) (w' := WA) rfl rfl (by kernel_rfl) (by go_simp) ?_
            refine ⟨⟨hbA, hA0, hA1⟩, ?_⟩
            simp only [List.setIfInBounds_toArray, List.set_cons_succ, List.set_cons_zero]
            refine wpAnyH_all (fuel := 1) (rs := [9]) (by kernel_rfl) (by decide) ?_
            refine List.forall_mem_singleton.2 ?_
            refine wpOp_value (i := 9) (d := 3) (v := .pointer (some ⟨WA.heap.size, 0, none⟩)) (w' := WA.alloc (.cells #[.string ⟨#[]⟩, .slice none 0 0] 94)) rfl rfl (by kernel_rfl) (by go_simp) ?_
            refine ⟨⟨hbA.alloc hbA.size _, Dg.row_alloc hA0 _, Dg.row_alloc hA1 _⟩, ?_⟩
            simp only [List.setIfInBounds_toArray, List.set_cons_succ, List.set_cons_zero]
            refine wpAnyH_all (fuel := 0) (rs := [10]) (by kernel_rfl) (by decide) ?_
            refine List.forall_mem_singleton.2 ?_
            refine wpOp_skip (i := 10) (w' := WA.alloc (.cells #[.string ⟨x.name.toArray⟩, .slice av T.len ac] 94)) rfl rfl (by kernel_rfl) (by go_simp) ?_
            refine ⟨⟨hbA.alloc hbA.size _, Dg.row_alloc hA0 _, Dg.row_alloc hA1 _⟩, wpAnyH_done (by kernel_rfl) ?_ _⟩
            refine ⟨rfl, WA.heap.size, av, ac, Since w2.drew WA, ⟨hbA.alloc hbA.size _, Dg.row_alloc hA0 _, Dg.row_new WA #[.string ⟨x.name.toArray⟩, .slice av T.len ac] 94, Dg.row_alloc hA1 _, Nat.lt_of_lt_of_le hz2 hbA2.size, TAt.keep (fun b hb hl => ((Below.refl WA.heap.size WA).alloc (Nat.le_refl _) _).block b hl) (fun b hb _ => hb) _ _ _ _ _ htA, fun b hb => ⟨Nat.lt_of_lt_of_le hz2 hb.1, by have := hb.2; simp; omega, by have := hb.2; omega⟩⟩, rfl⟩
          · refine wpOp_value (i := 9) (d := 3) (v := .pointer (some ⟨WA.heap.size, 0, none⟩)) (w' := WA.alloc (.cells #[.string ⟨#[]⟩, .slice none 0 0] 94)) rfl rfl (by kernel_rfl) (by go_simp) ?_
            refine ⟨⟨hbA.alloc hbA.size _, Dg.row_alloc hA0 _, Dg.row_alloc hA1 _⟩, ?_⟩
            simp only [List.setIfInBounds_toArray, List.set_cons_succ, List.set_cons_zero]
            refine wpAnyH_all (fuel := 1) (rs := [8]) (by kernel_rfl) (by decide) ?_
            refine List.forall_mem_singleton.2 ?_
            refine wpOp_value (i := 8) (d := 17) (v := .agg #[.string ⟨x.name.toArray⟩, .slice av T.len ac]) (w' := WA.alloc (.cells #[.string ⟨#[]⟩, .slice none 0 0] 94)) rfl rfl (by kernel_rfl) (by go_simp) ?_
            refine ⟨⟨hbA.alloc hbA.size _, Dg.row_alloc hA0 _, Dg.row_alloc hA1 _⟩, ?_⟩
            simp only [List.setIfInBounds_toArray, List.set_cons_succ, List.set_cons_zero]
            refine wpAnyH_all (fuel := 0) (rs := [10]) (by kernel_rfl) (by decide) ?_
            refine List.forall_mem_singleton.2 ?_
            refine wpOp_skip (i := 10) (w' := WA.alloc (.cells #[.string ⟨x.name.toArray⟩, .slice av T.len ac] 94)) rfl rfl (by kernel_rfl) (by go_simp) ?_
            refine ⟨⟨hbA.alloc hbA.size _, Dg.row_alloc hA0 _, Dg.row_alloc hA1 _⟩, wpAnyH_done (by kernel_rfl) ?_ _⟩
            refine ⟨rfl, WA.heap.size, av, ac, Since w2.drew WA, ⟨hbA.alloc hbA.size _, Dg.row_alloc hA0 _, Dg.row_new WA #[.string ⟨x.name.toArray⟩, .slice av T.len ac] 94, Dg.row_alloc hA1 _, Nat.lt_of_lt_of_le hz2 hbA2.size, TAt.keep (fun b hb hl => ((Below.refl WA.heap.size WA).alloc (Nat.le_refl _) _).block b hl) (fun b hb _ => hb) _ _ _ _ _ htA, fun b hb => ⟨Nat.lt_of_lt_of_le hz2 hb.1, by have := hb.2; simp; omega, by have := hb.2; omega⟩⟩, rfl⟩
        · rintro ch w'' ⟨_, _, _, _, h9, _⟩
          cases h9
        · rintro w'' ⟨_, _, _, _, h9, _⟩
          cases h9
      · refine wpOp_value (i := 9) (d := 3) (v := .pointer (some ⟨w2.heap.size, 0, none⟩)) (w' := w2.drew.alloc (.cells #[.string ⟨#[]⟩, .slice none 0 0] 94)) rfl rfl (by kernel_rfl) (by go_simp) ?_
        have hbN : Below w.heap.size w (w2.drew.alloc (.cells #[.string ⟨#[]⟩, .slice none 0 0] 94)) := hbl2.drew.alloc hbl2.size _
        have rN := Dg.row_new w2.drew #[.string ⟨#[]⟩, .slice none 0 0] 94
        have hN0 := Dg.row_alloc (w := w2.drew) s0 (.cells #[.string ⟨#[]⟩, .slice none 0 0] 94)
        have hN1 := Dg.row_alloc (w := w2.drew) s1 (.cells #[.string ⟨#[]⟩, .slice none 0 0] 94)
        have hzN : (w2.drew.alloc (.cells #[.string ⟨#[]⟩, .slice none 0 0] 94)).heap.size = w2.heap.size + 1 := by simp
        refine ⟨⟨hbN, hN0, hN1⟩, ?_⟩
        simp only [List.setIfInBounds_toArray, List.set_cons_succ, List.set_cons_zero]
        generalize w2.drew.alloc (.cells #[.string ⟨#[]⟩, .slice none 0 0] 94) = wN at *
        refine wpAnyH_all (fuel := 2) (rs := [7]) (by kernel_rfl) (by decide) ?_
        refine List.forall_mem_singleton.2 ?_
        refine wpOp_calls (i := 7) (d := 16) rfl rfl (by kernel_rfl) (f := 80) (args := #[(.slice (some ⟨b1, off1, none⟩) il icap), .int .i64 0]) (by kernel_rfl) _ (HMB2.out wN hbN) ?_ ?_ ?_
        · rintro vA WA ⟨hbA2, av, am, ac, hvA, htA⟩
          obtain rfl : am = T.len := by have := htA.len; omega
          cases hvA
          have hbA : Below w.heap.size w WA := hbN.trans (hbA2.mono hbN.size)
          have hA0 := (hbA2.block _ (show w.heap.size < wN.heap.size by omega)).trans hN0
          have hA1 := (hbA2.block _ (show w.heap.size + 1 < wN.heap.size by omega)).trans hN1
          have hAN : WA.heap[w2.heap.size]? = some (.cells #[.string ⟨#[]⟩, .slice none 0 0] 94 (0, 0)) := (hbA2.block _ (show w2.heap.size < wN.heap.size by omega)).trans rN
          refine ⟨⟨hbA, hA0, hA1⟩, ?_⟩
          simp only [List.setIfInBounds_toArray, List.set_cons_succ, List.set_cons_zero]
          refine wpAnyH_all (fuel := 1) (rs := [8]) (by kernel_rfl) (by decide) ?_
          refine List.forall_mem_singleton.2 ?_
          refine wpOp_value (i := 8) (d := 17) (v := .agg #[.string ⟨x.name.toArray⟩, .slice av T.len ac]) (w' := WA) rfl rfl (by kernel_rfl) (by go_simp) ?_
          refine ⟨⟨hbA, hA0, hA1⟩, ?_⟩
          simp only [List.setIfInBounds_toArray, List.set_cons_succ, List.set_cons_zero]
          refine wpAnyH_all (fuel := 0) (rs := [10]) (by kernel_rfl) (by decide) ?_
          refine List.forall_mem_singleton.2 ?_
          have q0 := (Dg.cell_row hAN 0).trans rfl
          have q1 := (Dg.cell_row hAN 1).trans rfl
          have f0 := Dg.froz_row hAN 0
          have f1 := Dg.froz_row hAN 1
          refine wpOp_skip (i := 10) (w' := (WA.setCell ⟨w2.heap.size, 0, none⟩ (.string ⟨x.name.toArray⟩)).setCell ⟨w2.heap.size, 1, none⟩ (.slice av T.len ac)) rfl rfl (by kernel_rfl) (by go_simp) ?_
          obtain ⟨t1, t2, t3, t4⟩ := two_row hAN (.string ⟨x.name.toArray⟩) (.slice av T.len ac)
          have hbE := hbA.trans (t4 w.heap.size (by omega))
          have hE0 := (t3 _ (show w.heap.size ≠ w2.heap.size by omega)).trans hA0
          have hE1 := (t3 _ (show w.heap.size + 1 ≠ w2.heap.size by omega)).trans hA1
          refine ⟨⟨hbE, hE0, hE1⟩, wpAnyH_done (by kernel_rfl) ?_ _⟩
          refine ⟨rfl, w2.heap.size, av, ac, Since wN WA, ⟨hbE, hE0, t1, hE1, hz2, TAt.keep (fun b hb hl => t3 b (fun e => by have := hb.1; omega)) (fun b hb _ => hb) _ _ _ _ _ htA, fun b hb => ⟨by have := hb.1; omega, by rw [t2]; exact hb.2, by have := hb.1; omega⟩⟩, rfl⟩
        · rintro ch w'' ⟨_, _, _, _, h9, _⟩
          cases h9
        · rintro w'' ⟨_, _, _, _, h9, _⟩
          cases h9
    · rintro e a' w3 ⟨rfl, nb, av, ac, P, hN, rfl⟩
      clear hbl2 s0 s1 hz2 HMB2
      have HN : Hid (SgS w (.slice (some ⟨b1, off1, none⟩) il icap) x T nb w3 av ac P) := hN
      have n0 := (Dg.cell_row hN.nd 0).trans rfl
      have n1 := (Dg.cell_row hN.nd 1).trans rfl
      have hFT : Fair T := by have h9 := hang_fair HH.out HNm.out; rw [show bodT its (its.length + 1) 0 = T from HTT.out] at h9; exact h9
      have MM : Hid _ := Make_any w3 x.name T av ac (TAt.keep (fun b _ _ => rfl) (fun b hb _ => (hN.pg b hb).2.1) _ _ _ _ _ hN.tr) hFT (Dg.Tab.later HTb.out hN.bel)
      clear hN hFT
      simp only [Exit.then]
      go_at_K
      go_wp2_with fail
      refine Calls.mono MM.out ?_
      rintro e w4 ⟨hb4, he⟩
      clear MM n0 n1
      have HN4 : Hid (SgS w (.slice (some ⟨b1, off1, none⟩) il icap) x T nb w4 av ac P) := HN.out.later hb4
      have hz3 := HN.out.bel.size
      have hz4 := hb4.size
      cases hP : planT x.name T with
      | none =>
        rw [hP] at he
        obtain rfl : e = .returned (.tuple #[.agg #[.slice none 0 0], .int .i64 11]) := he
        have HP : Hid (¬ (hangs its = true ∧ planT (nameI its 0) (bodS its) = some its)) := by
          show ¬ _
          rw [HX.out, HTT.out, hP]
          rintro ⟨_, h9⟩
          cases h9
        clear hP
        go_wp2_with fail
        refine Calls.mono (must_no 2 _) ?_
        rintro e w'' ⟨rfl, rfl⟩
        exact ⟨rfl, SagaC.bad HP.out (HN4.out.bel.alloc HN4.out.bel.size _)⟩
      | some its' =>
        rw [hP] at he
        obtain ⟨v', rfl, hs⟩ := he
        obtain ⟨ia', icap', rfl, _⟩ := id hs.rd
        have hN5 := HN4.out.later ((Below.refl w4.heap.size w4).alloc (Nat.le_refl _) (.cells #[.slice ia' its'.length icap'] 24))
        have hR5 : RdIt (w4.alloc (.cells #[.slice ia' its'.length icap'] 24)) (.slice ia' its'.length icap') its' := hs.rd.later ((Below.refl w4.heap.size w4).alloc (Nat.le_refl _) _)
        have rn5 := Dg.row_new w4 #[.slice ia' its'.length icap'] 24
        have m0 := (Dg.cell_row rn5 0).trans rfl
        have m1 := (Dg.cell_row hN5.it 0).trans rfl
        obtain ⟨hl', ha'⟩ := planT_small hP
        obtain ⟨_, h64, _⟩ := hangs_at HH.out
        have ME := EqualFunc_any its its' (.slice (some ⟨b1, off1, none⟩) its.length icap) (.slice ia' its'.length icap') (w4.alloc (.cells #[.slice ia' its'.length icap'] 24)) (HIt.out.later hN5.bel) hR5 (by omega) hl' HAf.out ha'
        rw [HIL.out] at ME
        have HME : Hid _ := ME
        have HN5 : Hid _ := hN5
        have HP : Hid _ := hP
        clear ME hP hs hR5 hN5 rn5 hl' ha' h64
        obtain ⟨il', HIL'⟩ : ∃ il', Hid (its'.length = il') := ⟨_, rfl⟩
        rw [HIL'.out] at HN5 HME m0 m1 ⊢
        go_wp2_with fail
        generalize w4.alloc (.cells #[.slice ia' il' icap'] 24) = w5 at *
        refine Calls.mono HME.out ?_
        rintro e w6 ⟨rfl, hb6⟩
        clear HME m0 m1
        have HN6 : Hid _ := SgS.later HN5.out hb6
        by_cases heq : its = its'
        rotate_left
        · rw [decide_eq_false heq]
          have HQ : Hid (¬ (hangs its = true ∧ planT (nameI its 0) (bodS its) = some its)) := by
            show ¬ _
            rw [HX.out, HTT.out, HP.out]
            rintro ⟨_, h9⟩
            exact heq (Option.some.inj h9).symm
          go_wp2_with fail
          refine Calls.mono (must_no 2 _) ?_
          rintro e w'' ⟨rfl, rfl⟩
          exact ⟨rfl, SagaC.bad HQ.out (SgS.bel HN6.out)⟩
        · rw [decide_eq_true heq]
          have HQ : Hid (hangs its = true ∧ planT (nameI its 0) (bodS its) = some its) := by
            show _ ∧ _
            rw [HX.out, HTT.out, HP.out, ← heq]
            exact ⟨HH.out, rfl⟩
          have n0 := (Dg.cell_row (SgS.nd HN6.out) 0).trans rfl
          have n1 := (Dg.cell_row (SgS.nd HN6.out) 1).trans rfl
          have p0 := (Dg.cell_row (SgS.res HN6.out) 0).trans rfl
          have p1 := (Dg.cell_row (SgS.res HN6.out) 1).trans rfl
          have f0 := Dg.froz_row (SgS.res HN6.out) 0
          have f1 := Dg.froz_row (SgS.res HN6.out) 1
          clear heq
          go_wp2_with fail
          refine Calls.mono (must_yes 2 _) ?_
          rintro e w'' ⟨rfl, rfl⟩
          go_wp2_with fail
          obtain ⟨t1, t2, t3, t4⟩ := two_row (SgS.res HN6.out) (.string ⟨x.name.toArray⟩) (.slice av T.len ac)
          have hfin := SagaC.ok (a := av) (c := ac) HQ.out ((SgS.bel HN6.out).trans (t4 w.heap.size (by omega))) (by rw [HTT.out]; exact TAt.keep (fun b hb _ => t3 b (by have := (SgS.pg HN6.out b hb).1; omega)) (fun b hb _ => ⟨by have := (SgS.pg HN6.out b hb).1; omega, by rw [t2]; exact (SgS.pg HN6.out b hb).2.1⟩) _ _ _ _ _ (SgS.tr HN6.out))
          rw [HX.out, HTT.out] at hfin
          exact bodyPost_ret_by (results_cell_row rfl _ _ (w.heap.size + 1) 94 _ (0, 0) _ rfl t1 Tryz.underlying94 rfl (by kernel_rfl)) rfl hfin

end Go.Proofs.YtlegmmhacnbnlaaGreatDoor

/- The program's Back and Right. -/
namespace Go.Proofs.YtlegmmhacnbnlaaGreatDoor

open Go.RowKit Go.Shelf Go.Proofs.YtlegmmhacnbnlaaGreatDoor.Sx

theorem SagaC.bad' {its : List It} {w w' : World} (h : sagaP its = none) (hb : Below w.heap.size w w') : SagaC its w (.panicked (rej 2)) w' := by
  unfold SagaC
  rw [h]
  exact ⟨hb, rfl⟩

theorem SagaC.ok' {its : List It} {w w' : World} {x : By} {t : Tr} {a : Option Addr} {c : Nat} (h : sagaP its = some (x, t)) (hb : Below w.heap.size w w') (ht : TAt (Since w w') w' true t a 0 t.len) : SagaC its w (.returned (.agg #[.string ⟨x.toArray⟩, .slice a t.len c])) w' := by
  unfold SagaC
  rw [h]
  exact ⟨hb, a, c, rfl, ht⟩

set_option maxRecDepth 1000000 in
/-- What answer's deferred call does with a panic. -/
theorem catch58 (b2 b3 : Nat) (c2 c2' c3 : Value) (c : Int) (older : List PanicEntry) (w : World) (h2 : w.heap[b2]? = some (.cells #[c2, c2'] 94 (0, 0))) (h3 : w.heap[b3]? = some (.cells #[c3] 28 (0, 0))) (h23 : b2 ≠ b3) :
    CallsD Tryz.prog 78 #[.pointer (some ⟨b2, 0, none⟩), .pointer (some ⟨b3, 0, none⟩)] (.panicking ({ v := .iface 28 (.int .i64 c), recovered := false } :: older)) w fun e u' w' =>
      e = .returned (.tuple #[]) ∧ u' = .panicking ({ v := .iface 28 (.int .i64 c), recovered := true } :: older) ∧ w' = ((((w.alloc (.cells #[.string ⟨#[]⟩, .slice none 0 0] 94)).setCell ⟨b2, 0, none⟩ (.string ⟨#[]⟩)).setCell ⟨b2, 1, none⟩ (.slice none 0 0)).setCell ⟨b3, 0, none⟩ (.int .i64 c)).drew := by
  have l2 := (Array.getElem?_eq_some_iff.1 h2).1
  have l3 := (Array.getElem?_eq_some_iff.1 h3).1
  have r2 := Dg.row_alloc h2 (.cells #[.string ⟨#[]⟩, .slice none 0 0] 94)
  have r3 := Dg.row_alloc h3 (.cells #[.string ⟨#[]⟩, .slice none 0 0] 94)
  have rn := Dg.row_new w #[.string ⟨#[]⟩, .slice none 0 0] 94
  have g2 := (Dg.cell_row r2 0).trans rfl
  have g2' := (Dg.cell_row r2 1).trans rfl
  have f2 := Dg.froz_row r2 0
  have f2' := Dg.froz_row r2 1
  have g3 := (Dg.cell_row r3 0).trans rfl
  have f3 := Dg.froz_row r3 0
  have gn := (Dg.cell_row rn 0).trans rfl
  have gn' := (Dg.cell_row rn 1).trans rfl
  refine callsD_of_wpS Tryz.func78 rfl fun c₀ cs hu => ?_
  apply wpS_seq
  apply wpS_region
  simp [wpOpsS, go_sem, recoverD, hu, Tryz.ntmps78, Exit.thenS]
  refine wpS_of_wp ?_
  simp only [Array.replicate_succ, Array.replicate_zero, List.push_toArray, List.append_toArray, List.nil_append, List.cons_append, List.setIfInBounds_toArray, List.set_cons_zero, List.set_cons_succ]
  have hta : ∀ (v : Value) (w : World), (Instr.typeAssert (.iface 28 v) 20 28 false).run Tryz.prog w = .ok v w := fun v w => by simp [Instr.typeAssert, run_underlying Tryz.underlying28, go_sem, Result.andThen]
  have n1 : b3 ≠ b2 := fun h => h23 h.symm
  have n2 : w.heap.size ≠ b2 := by omega
  have n3 : w.heap.size ≠ b3 := by omega
  go_wp2_with fail
  obtain ⟨w1, hw1⟩ : ∃ w1, w.alloc (.cells #[.string ⟨#[]⟩, .slice none 0 0] 94) = w1 := ⟨_, rfl⟩
  rw [hw1] at r2 r3 rn g2 g2' f2 f2' g3 f3 gn gn' ⊢
  have HW1 : Hid _ := hw1
  clear hw1
  have m3 : ∀ v u, ((w1.setCell ⟨b2, 0, none⟩ v).setCell ⟨b2, 1, none⟩ u).cell? ⟨b3, 0, none⟩ = some c3 := fun v u => (Dg.cell_row (Dg.row_other (Dg.row_other r3 v n1) u n1) 0).trans rfl
  have k3 : ∀ v u, ((w1.setCell ⟨b2, 0, none⟩ v).setCell ⟨b2, 1, none⟩ u).frozen? ⟨b3, 0, none⟩ = false := fun v u => Dg.froz_row (Dg.row_other (Dg.row_other r3 v n1) u n1) 0
  go_region
  all_goals
    show bodyPostS Tryz.prog Tryz.f78 _ _ _ Exit.normal _ _ _
    simp [bodyPostS, results, Tryz.results78]
    rw [← HW1.out]

set_option maxRecDepth 1000000 in
theorem idle58 (b2 b3 : Nat) (w : World) :
    CallsD Tryz.prog 78 #[.pointer (some ⟨b2, 0, none⟩), .pointer (some ⟨b3, 0, none⟩)] .returning w fun e u' w' => e = .returned (.tuple #[]) ∧ u' = .returning ∧ w' = w := by
  refine callsD_of_wpS Tryz.func78 rfl fun c₀ cs hu => ?_
  apply wpS_seq
  apply wpS_region
  simp [wpOpsS, go_sem, recoverD, hu, Tryz.ntmps78, Exit.thenS]
  refine wpS_of_wp ?_
  simp only [Array.replicate_succ, Array.replicate_zero, List.push_toArray, List.append_toArray, List.nil_append, List.cons_append, List.setIfInBounds_toArray, List.set_cons_zero, List.set_cons_succ]
  go_wp2_with fail
  cases c₀
  simp_all [bodyPostS, results, Tryz.results78]

set_option maxRecDepth 1000000 in
/-- A panic: it is told. -/
theorem pan33 {a : Act} {wc : World} {R : Ending → World → Prop} {c2 c2' c3 : Value} {b2 b3 : Nat} {c : Int} (r2 : wc.heap[b2]? = some (.cells #[c2, c2'] 94 (0, 0))) (r3 : wc.heap[b3]? = some (.cells #[c3] 28 (0, 0))) (h23 : b2 ≠ b3) (h2 : a.tmps.getD 2 undef = .pointer (some ⟨b2, 0, none⟩)) (h3 : a.tmps.getD 3 undef = .pointer (some ⟨b3, 0, none⟩))
    (hd : a.defers = [{ target := Target.fn (Fn.func 78) #[.pointer (some ⟨b2, 0, none⟩), .pointer (some ⟨b3, 0, none⟩)], args := #[] }])
    (hR : R (.returned (.tuple #[.agg #[.string ⟨#[]⟩, .slice none 0 0], .int .i64 c])) ((((wc.alloc (.cells #[.string ⟨#[]⟩, .slice none 0 0] 94)).setCell ⟨b2, 0, none⟩ (.string ⟨#[]⟩)).setCell ⟨b2, 1, none⟩ (.slice none 0 0)).setCell ⟨b3, 0, none⟩ (.int .i64 c)).drew) : bodyPostD Tryz.prog Tryz.f64 R (Exit.panic (rej c)) a wc := by
  have s2 := Dg.row_other (Dg.row_set (Dg.row_set (Dg.row_alloc r2 (.cells #[.string ⟨#[]⟩, .slice none 0 0] 94)) 0 (.string ⟨#[]⟩)) 1 (.slice none 0 0)) (i := 0) (c := b3) (.int .i64 c) h23
  have s3 := Dg.row_set (Dg.row_other (Dg.row_other (Dg.row_alloc r3 (.cells #[.string ⟨#[]⟩, .slice none 0 0] 94)) (i := 0) (c := b2) (.string ⟨#[]⟩) (Ne.symm h23)) (i := 1) (c := b2) (.slice none 0 0) (Ne.symm h23)) 0 (.int .i64 c)
  have h2' : a.tmps[2]?.getD undef = .pointer (some ⟨b2, 0, none⟩) := by simpa using h2
  have h3' : a.tmps[3]?.getD undef = .pointer (some ⟨b3, 0, none⟩) := by simpa using h3
  simp only [bodyPostD, hd]
  refine leaves_cons (f := 78) (args := #[.pointer (some ⟨b2, 0, none⟩), .pointer (some ⟨b3, 0, none⟩)]) (by simp) (by simp [go_sem]) ?_
  refine (catch58 b2 b3 c2 c2' c3 c [] wc r2 r3 h23).mono ?_
  rintro e u' w'' ⟨rfl, rfl, rfl⟩
  generalize ((((wc.alloc (.cells #[.string ⟨#[]⟩, .slice none 0 0] 94)).setCell ⟨b2, 0, none⟩ (.string ⟨#[]⟩)).setCell ⟨b2, 1, none⟩ (.slice none 0 0)).setCell ⟨b3, 0, none⟩ (.int .i64 c)) = wz at *
  have q2 : wz.drew.cell? ⟨b2, 0, none⟩ = some (.string ⟨#[]⟩) := (Dg.cell_row s2 0).trans rfl
  have q2' : wz.drew.cell? ⟨b2, 1, none⟩ = some (.slice none 0 0) := (Dg.cell_row s2 1).trans rfl
  have q3 : wz.drew.cell? ⟨b3, 0, none⟩ = some (.int .i64 c) := (Dg.cell_row s3 0).trans rfl
  simp [Leaves, settle, results, Tryz.results64, go_sem, q2, q2', q3, h2', h3']
  exact hR

set_option maxRecDepth 1000000 in
/-- A return behind the deferred call. -/
theorem ret33 {a : Act} {wc : World} {R : Ending → World → Prop} {c2 c2' c3 : Value} {b2 b3 : Nat} (r2 : wc.heap[b2]? = some (.cells #[c2, c2'] 94 (0, 0))) (r3 : wc.heap[b3]? = some (.cells #[c3] 28 (0, 0))) (h2 : a.tmps.getD 2 undef = .pointer (some ⟨b2, 0, none⟩)) (h3 : a.tmps.getD 3 undef = .pointer (some ⟨b3, 0, none⟩))
    (hd : a.defers = [{ target := Target.fn (Fn.func 78) #[.pointer (some ⟨b2, 0, none⟩), .pointer (some ⟨b3, 0, none⟩)], args := #[] }])
    (hR : R (.returned (.tuple #[.agg #[c2, c2'], c3])) wc) : bodyPostD Tryz.prog Tryz.f64 R Exit.ret a wc := by
  have q2 := (Dg.cell_row r2 0).trans rfl
  have q2' := (Dg.cell_row r2 1).trans rfl
  have q3 := (Dg.cell_row r3 0).trans rfl
  have h2' : a.tmps[2]?.getD undef = .pointer (some ⟨b2, 0, none⟩) := by simpa using h2
  have h3' : a.tmps[3]?.getD undef = .pointer (some ⟨b3, 0, none⟩) := by simpa using h3
  simp only [bodyPostD, hd]
  refine leaves_cons (f := 78) (args := #[.pointer (some ⟨b2, 0, none⟩), .pointer (some ⟨b3, 0, none⟩)]) (by simp) (by simp [go_sem]) ?_
  refine (idle58 b2 b3 wc).mono ?_
  rintro e u' w'' ⟨rfl, rfl, rfl⟩
  simp [Leaves, settle, results, Tryz.results64, go_sem, q2, q2', q3, h2', h3']
  exact hR

/-- What a plan must be so that Back can be asked for its saga. -/
structure FairI (its : List It) : Prop where
  name : ∀ x ∈ its, x.name.length ≤ 1100000
  after : ∀ x ∈ its, x.after.length ≤ 1000000

set_option maxRecDepth 1000000 in
set_option maxHeartbeats 2000000 in
/-- How the function that Back hands to answer ends. -/
theorem back1_any (its : List It) (v : Value) (w : World) (b : Nat) (hb : w.heap[b]? = some (.cells #[v] 24 (0, 0))) (hIt : RdIt w v its) (hF : FairI its) (hT : Dg.Tab w) :
    Calls Tryz.prog 65 #[.pointer (some ⟨b, 0, none⟩)] w fun e w' => SagaC its w e w' := by
  have hb1 : Below w.heap.size w (w.alloc (.cells #[.string ⟨#[]⟩, .slice none 0 0] 94)) := (Below.refl _ w).alloc (Nat.le_refl _) _
  have r1 := Dg.row_alloc hb (.cells #[.string ⟨#[]⟩, .slice none 0 0] 94)
  have rn := Dg.row_new w #[.string ⟨#[]⟩, .slice none 0 0] 94
  have M : Hid _ := sagaOf_any its v _ (hIt.later hb1) hF.name (hT.later hb1) hF.after
  obtain ⟨ia, icap, rfl, _⟩ := hIt
  have g0 := (Dg.cell_row r1 0).trans rfl
  go_enter Tryz.func65, Tryz.ntmps65
  go_wp2_with fail
  generalize w.alloc (.cells #[.string ⟨#[]⟩, .slice none 0 0] 94) = w1 at *
  have hz : w.heap.size < w1.heap.size := (Array.getElem?_eq_some_iff.1 rn).1
  refine Calls.mono M.out ?_
  rintro e w2 ⟨hb2, he⟩
  clear M g0
  cases hP : sagaP its with
  | none =>
    rw [hP] at he
    obtain rfl : e = .panicked (rej 2) := he
    go_wp2_with fail
    exact ⟨rfl, SagaC.bad' hP (hb1.trans (hb2.mono hb1.size))⟩
  | some p =>
    obtain ⟨x, t⟩ := p
    rw [hP] at he
    obtain ⟨a, c, rfl, ht⟩ := he
    have rn2 := (hb2.block _ hz).trans rn
    have g0 := (Dg.cell_row rn2 0).trans rfl
    have g1 := (Dg.cell_row rn2 1).trans rfl
    have f0 := Dg.froz_row rn2 0
    have f1 := Dg.froz_row rn2 1
    have HP : Hid _ := hP
    have HT : Hid _ := ht
    clear hP ht
    go_wp2_with fail
    obtain ⟨t1, t2, t3, t4⟩ := two_row rn2 (.string ⟨x.toArray⟩) (.slice a t.len c)
    refine bodyPost_ret_by (results_cell_row rfl _ _ w.heap.size 94 _ (0, 0) _ rfl t1 Tryz.underlying94 rfl (by kernel_rfl)) rfl (SagaC.ok' HP.out ((hb1.trans (hb2.mono hb1.size)).trans (t4 _ (Nat.le_refl _))) ?_)
    exact TAt.keep (fun b hb _ => t3 b (by have := hb.1; omega)) (fun b hb _ => ⟨by have := hb.1; omega, by rw [t2]; exact hb.2⟩) _ _ _ _ _ HT.out

end Go.Proofs.YtlegmmhacnbnlaaGreatDoor

