/- Texts of the seat, packed: Yc. -/
import Derived.Test.YtlegmmhacnbnlaaGreatDoorP40
/- The program's nodeOf. -/
namespace Go.Proofs.YtlegmmhacnbnlaaGreatDoor

open Go.RowKit Go.Shelf Go.Proofs.YtlegmmhacnbnlaaGreatDoor.Sx

/-- The blocks that are there since. -/
def Since (w w' : World) (b : Nat) : Prop := w.heap.size ≤ b ∧ b < w'.heap.size

/-- How bodiesOf ends. -/
def BodC (T : Tr) (w : World) (e : Ending) (w' : World) : Prop := Below w.heap.size w w' ∧ ∃ a n c, e = .returned (.slice a n c) ∧ TAt (Since w w') w' true T a 0 n

/-- How nodeOf ends. -/
def NodC (its : List It) (x : It) (T : Tr) (w : World) (e : Ending) (w' : World) : Prop := Below w.heap.size w w' ∧ ∃ sv sm sc av am ac, e = .returned (.agg #[.string ⟨x.name.toArray⟩, .string ⟨x.undo.toArray⟩, .slice sv sm sc, .bool x.sub, .bool x.vital, .slice av am ac]) ∧
  SAt (Since w w') w' (x.after.map (nameI its)) sv sm ∧ TAt (Since w w') w' true T av 0 am

/-- What nodeOf knows once the node's bodies are told: the node's own block. -/
structure NdS (w : World) (x : It) (T : Tr) (nb : Nat) (yv : Value) (A : World) (u : Value) (av : Option Addr) (am ac : Nat) (P : Nat → Prop) : Prop where
  bel : Below w.heap.size w A
  it : A.heap[w.heap.size + 1]? = some (.cells #[.string ⟨x.name.toArray⟩, .string ⟨x.undo.toArray⟩, .bool x.sub, .bool x.vital, .int .i64 x.alts, .int .i64 x.inn, .int .i64 x.alt, yv] 34 (0, 0))
  nd : A.heap[nb]? = some (.cells #[.string ⟨x.name.toArray⟩, .string ⟨x.undo.toArray⟩, u, .bool x.sub, .bool x.vital, .slice av am ac] 148 (0, 0))
  res : A.heap[w.heap.size]? = some (.cells #[.string ⟨#[]⟩, .string ⟨#[]⟩, .slice none 0 0, .bool false, .bool false, .slice none 0 0] 148 (0, 0))
  ge : w.heap.size + 1 < nb
  tr : TAt P A true T av 0 am
  pg : ∀ b, P b → w.heap.size + 1 < b ∧ b < A.heap.size ∧ b ≠ nb

/-- Six cells of a block put. -/
theorem six_row {A : World} {n : Nat} {c0 c1 c2 c3 c4 c5 : Value} {t : TypeId} (h : A.heap[n]? = some (.cells #[c0, c1, c2, c3, c4, c5] t (0, 0))) (u0 u1 u2 u3 u4 u5 : Value) :
    ((((((A.setCell ⟨n, 0, none⟩ u0).setCell ⟨n, 1, none⟩ u1).setCell ⟨n, 2, none⟩ u2).setCell ⟨n, 3, none⟩ u3).setCell ⟨n, 4, none⟩ u4).setCell ⟨n, 5, none⟩ u5).heap[n]? = some (.cells #[u0, u1, u2, u3, u4, u5] t (0, 0)) ∧
    ((((((A.setCell ⟨n, 0, none⟩ u0).setCell ⟨n, 1, none⟩ u1).setCell ⟨n, 2, none⟩ u2).setCell ⟨n, 3, none⟩ u3).setCell ⟨n, 4, none⟩ u4).setCell ⟨n, 5, none⟩ u5).heap.size = A.heap.size ∧
    (∀ b, b ≠ n → ((((((A.setCell ⟨n, 0, none⟩ u0).setCell ⟨n, 1, none⟩ u1).setCell ⟨n, 2, none⟩ u2).setCell ⟨n, 3, none⟩ u3).setCell ⟨n, 4, none⟩ u4).setCell ⟨n, 5, none⟩ u5).heap[b]? = A.heap[b]?) ∧
    ∀ base, base ≤ n → Below base A ((((((A.setCell ⟨n, 0, none⟩ u0).setCell ⟨n, 1, none⟩ u1).setCell ⟨n, 2, none⟩ u2).setCell ⟨n, 3, none⟩ u3).setCell ⟨n, 4, none⟩ u4).setCell ⟨n, 5, none⟩ u5) := by
  refine ⟨Dg.row_set (Dg.row_set (Dg.row_set (Dg.row_set (Dg.row_set (Dg.row_set h 0 u0) 1 u1) 2 u2) 3 u3) 4 u4) 5 u5, by simp, fun b hb => ?_, fun base hb => (((((((Below.refl _ A).setCell hb u0).setCell hb u1).setCell hb u2).setCell hb u3).setCell hb u4).setCell hb u5)⟩
  rw [Below.heap_setCell _ _ _ b hb, Below.heap_setCell _ _ _ b hb, Below.heap_setCell _ _ _ b hb, Below.heap_setCell _ _ _ b hb, Below.heap_setCell _ _ _ b hb, Below.heap_setCell _ _ _ b hb]

/-- nodeOf's slots, once the node's bodies are told. -/
def ndT (w : World) (x : It) (b1 off1 il icap i : Nat) (yv : Value) (nb : Nat) (av : Option Addr) (am ac : Nat) : Array Value :=
  #[.slice (some ⟨b1, off1, none⟩) il icap, .int .i64 (i : Int), undef, undef, .pointer (some ⟨w.heap.size, 0, none⟩), .pointer (some ⟨w.heap.size + 1, 0, none⟩), .pointer (some ⟨nb, 0, none⟩), undef, undef, .slice (some ⟨b1, off1, none⟩) il icap, .int .i64 (i : Int), .pointer (some ⟨b1, off1 + i * 8, none⟩),
    .agg #[.string ⟨x.name.toArray⟩, .string ⟨x.undo.toArray⟩, .bool x.sub, .bool x.vital, .int .i64 x.alts, .int .i64 x.inn, .int .i64 x.alt, yv], .pointer (some ⟨w.heap.size + 1, 0, none⟩), .string ⟨x.name.toArray⟩, .pointer (some ⟨w.heap.size + 1, 1, none⟩), .string ⟨x.undo.toArray⟩, .pointer (some ⟨w.heap.size + 1, 2, none⟩), .bool x.sub, .pointer (some ⟨w.heap.size + 1, 3, none⟩), .bool x.vital,
    .slice (some ⟨b1, off1, none⟩) il icap, .int .i64 (i : Int), .slice av am ac, .agg #[.string ⟨x.name.toArray⟩, .string ⟨x.undo.toArray⟩, .slice none 0 0, .bool x.sub, .bool x.vital, .slice av am ac], undef, undef, undef, undef, undef, undef, undef, undef, undef, undef, undef, undef, undef, undef, undef, undef, undef, undef, undef]

theorem inf9 : (Tryz.prog.info? 9).map (fun i => (i.zero, i.size, i.bytes)) = some (some (.string ⟨#[]⟩), 1, 16) := by kernel_rfl

theorem NdS.step {w : World} {x : It} {T : Tr} {nb : Nat} {yv : Value} {A B : World} {u : Value} {av : Option Addr} {am ac : Nat} {P : Nat → Prop} (h : NdS w x T nb yv A u av am ac P) (row : Option Nat) (hg : A.grownBy B row) (hu : ∀ b, row = some b → ¬ P b ∧ w.heap.size + 1 < b ∧ b ≠ nb) :
    NdS w x T nb yv B u av am ac P := by
  have hne : ∀ b, (b ≤ w.heap.size + 1 ∨ b = nb ∨ P b) → some b ≠ row := fun b hb e => by
    obtain ⟨h1, h2, h3⟩ := hu b e.symm
    rcases hb with hb | hb | hb
    · omega
    · exact h3 hb
    · exact h1 hb
  have hlt : ∀ {b : Nat} {o : Obj}, A.heap[b]? = some o → b < A.heap.size := fun h => (Array.getElem?_eq_some_iff.1 h).1
  refine ⟨h.bel.trans ⟨hg.os, hg.tape, hg.output, hg.size, fun b hb => hg.block b (by have := h.bel.size; omega) (hne b (.inl (by omega)))⟩, (hg.block _ (hlt h.it) (hne _ (.inl (Nat.le_refl _)))).trans h.it, (hg.block _ (hlt h.nd) (hne _ (.inr (.inl rfl)))).trans h.nd, (hg.block _ (hlt h.res) (hne _ (.inl (Nat.le_succ _)))).trans h.res, h.ge, ?_, fun b hb => ⟨(h.pg b hb).1, Nat.lt_of_lt_of_le (h.pg b hb).2.1 hg.size, (h.pg b hb).2.2⟩⟩
  exact TAt.keep (fun b hb hl => hg.block b hl (hne b (.inr (.inr hb)))) (fun b hb _ => hb) _ _ _ _ _ h.tr

theorem NdS.put {w : World} {x : It} {T : Tr} {nb : Nat} {yv : Value} {A : World} {u : Value} {av : Option Addr} {am ac : Nat} {P : Nat → Prop} (h : NdS w x T nb yv A u av am ac P) (u' : Value) : NdS w x T nb yv (A.setCell ⟨nb, 2, none⟩ u') u' av am ac P := by
  have hge := h.ge
  refine ⟨h.bel.setCell (by show _ ≤ nb; omega) _, Dg.row_other h.it _ (by omega), Dg.row_set h.nd 2 u', Dg.row_other h.res _ (by omega), h.ge, ?_, fun b hb => ⟨(h.pg b hb).1, by simpa using (h.pg b hb).2.1, (h.pg b hb).2.2⟩⟩
  exact TAt.keep (fun b hb hl => Below.heap_setCell _ _ _ _ (h.pg b hb).2.2) (fun b hb _ => hb) _ _ _ _ _ h.tr

/-- The names on which a node leans, as the values of a row. -/
def nmV (its : List It) (l : List Int) : List Value := l.map fun on => .string ⟨(nameI its on).toArray⟩

theorem SAt_own {A B : World} {base k uc : Nat} {ua : Option Addr} {its : List It} {l : List Int} {P : Nat → Prop} (ho : A.ownsRow base 9 1 (.slice ua k uc) k (nmV its l)) (hl : l.length = k) (hk : ∀ b, (Value.slice ua k uc).ownBlock = some b → B.heap[b]? = A.heap[b]? ∧ P b) : SAt P B (l.map (nameI its)) ua k := by
  refine ⟨by rw [List.length_map, hl], fun i x hi => ?_⟩
  have hil : i < k := by have := (List.getElem?_eq_some_iff.1 hi).1; rw [List.length_map] at this; omega
  rcases ho.2 with ⟨h0, h1⟩ | ⟨g, cap, cur, he, _⟩
  · omega
  · cases he
    obtain ⟨h1, h2⟩ := hk g rfl
    refine ⟨g, 0, rfl, h2, ?_⟩
    rw [World.cell?_of_block (a := ⟨g, 0 + i, none⟩) h1, Nat.zero_add, ho.cellAt i (by omega)]
    simp only [List.getElem?_map, Option.map_eq_some_iff] at hi
    obtain ⟨on, h3, rfl⟩ := hi
    simp [nmV, h3]

set_option maxRecDepth 1000000 in
set_option maxHeartbeats 2000000 in
theorem nodeOf_any (its : List It) (v : Value) (w : World) (i : Nat) (x : It) (hx : its[i]? = some x) (hIt : RdIt w v its) (haf : ∀ on ∈ x.after, 0 ≤ on ∧ on < (its.length : Int)) (hal : x.after.length ≤ 1100000) (T : Tr)
    (hB : ∀ w1, RdIt w1 v its → Calls Tryz.prog 80 #[v, .int .i64 (i : Int)] w1 fun e w' => BodC T w1 e w') :
    Calls Tryz.prog 87 #[v, .int .i64 (i : Int)] w fun e w' => NodC its x T w e w' := by
  have HBo : Hid _ := hB
  have HIt : Hid (RdIt w v its) := hIt
  have HAF : Hid _ := haf
  clear hB haf
  obtain ⟨ia, icap, rfl, hic, hir⟩ := hIt
  obtain ⟨b1, off1, yav, yam, yac, rfl, k0, k1, k2, k3, k4, k5, k6, k7, hz⟩ := hir i x hx
  have hii : (i : Int) < (its.length : Int) := by have := (List.getElem?_eq_some_iff.1 hx).1; omega
  obtain ⟨za, zcap, hze, hzc, hzr⟩ := hz
  cases hze
  obtain ⟨il, HIL⟩ : ∃ il, Hid (its.length = il) := ⟨_, rfl⟩
  obtain ⟨m, HM⟩ : ∃ m, Hid (x.after.length = m) := ⟨_, rfl⟩
  rw [HIL.out] at hii hic
  rw [HM.out] at k7 hzc hal
  have HX : Hid _ := hx
  have HZR : Hid _ := hzr
  have HIR : Hid _ := hir
  clear hx hzr hir
  have hb1 : Below w.heap.size w (w.alloc (.cells #[.string ⟨#[]⟩, .string ⟨#[]⟩, .slice none 0 0, .bool false, .bool false, .slice none 0 0] 148)) := (Below.refl _ w).alloc (Nat.le_refl _) _
  have j0 := Dg.cell_later hb1 k0
  have j1 := Dg.cell_later hb1 k1
  have j2 := Dg.cell_later hb1 k2
  have j3 := Dg.cell_later hb1 k3
  have j4 := Dg.cell_later hb1 k4
  have j5 := Dg.cell_later hb1 k5
  have j6 := Dg.cell_later hb1 k6
  have j7 := Dg.cell_later hb1 k7
  rw [HIL.out]
  go_enter Tryz.func87, Tryz.ntmps87
  go_wp2_with fail
  clear j0 j1 j2 j3 j4 j5 j6 j7 k0 k1 k2 k3 k4 k5 k6 k7
  have r0 := Dg.row_alloc (Dg.row_new w #[.string ⟨#[]⟩, .string ⟨#[]⟩, .slice none 0 0, .bool false, .bool false, .slice none 0 0] 148) (.cells #[.string ⟨x.name.toArray⟩, .string ⟨x.undo.toArray⟩, .bool x.sub, .bool x.vital, .int .i64 x.alts, .int .i64 x.inn, .int .i64 x.alt, .slice yav m yac] 34)
  have r1 := Dg.row_new (w.alloc (.cells #[.string ⟨#[]⟩, .string ⟨#[]⟩, .slice none 0 0, .bool false, .bool false, .slice none 0 0] 148)) #[.string ⟨x.name.toArray⟩, .string ⟨x.undo.toArray⟩, .bool x.sub, .bool x.vital, .int .i64 x.alts, .int .i64 x.inn, .int .i64 x.alt, .slice yav m yac] 34
  rw [World.size_alloc] at r1
  have hb2 : Below w.heap.size w ((w.alloc (.cells #[.string ⟨#[]⟩, .string ⟨#[]⟩, .slice none 0 0, .bool false, .bool false, .slice none 0 0] 148)).alloc (.cells #[.string ⟨x.name.toArray⟩, .string ⟨x.undo.toArray⟩, .bool x.sub, .bool x.vital, .int .i64 x.alts, .int .i64 x.inn, .int .i64 x.alt, .slice yav m yac] 34)) := hb1.alloc hb1.size _
  generalize (w.alloc (.cells #[.string ⟨#[]⟩, .string ⟨#[]⟩, .slice none 0 0, .bool false, .bool false, .slice none 0 0] 148)).alloc (.cells #[.string ⟨x.name.toArray⟩, .string ⟨x.undo.toArray⟩, .bool x.sub, .bool x.vital, .int .i64 x.alts, .int .i64 x.inn, .int .i64 x.alt, .slice yav m yac] 34) = w2 at *
  have hz2 : w.heap.size + 1 < w2.heap.size := (Array.getElem?_eq_some_iff.1 r1).1
  clear hb1
  refine wp_mono (Q := fun e a' w' => e = .normal ∧ ∃ nb av am ac P, NdS w x T nb (.slice yav m yac) w' (.slice none 0 0) av am ac P ∧ a' = ⟨ndT w x b1 off1 il icap i (.slice yav m yac) nb av am ac, []⟩) ?_ ?_
  · refine wp_region_held (S := fun w' => Below w.heap.size w w' ∧ w'.heap[w.heap.size]? = some (.cells #[.string ⟨#[]⟩, .string ⟨#[]⟩, .slice none 0 0, .bool false, .bool false, .slice none 0 0] 148 (0, 0)) ∧ w'.heap[w.heap.size + 1]? = some (.cells #[.string ⟨x.name.toArray⟩, .string ⟨x.undo.toArray⟩, .bool x.sub, .bool x.vital, .int .i64 x.alts, .int .i64 x.inn, .int .i64 x.alt, .slice yav m yac] 34 (0, 0))) (by kernel_rfl) ?_
    have hS0 : Below w.heap.size w w2.drew ∧ w2.drew.heap[w.heap.size]? = some (.cells #[.string ⟨#[]⟩, .string ⟨#[]⟩, .slice none 0 0, .bool false, .bool false, .slice none 0 0] 148 (0, 0)) ∧ w2.drew.heap[w.heap.size + 1]? = some (.cells #[.string ⟨x.name.toArray⟩, .string ⟨x.undo.toArray⟩, .bool x.sub, .bool x.vital, .int .i64 x.alts, .int .i64 x.inn, .int .i64 x.alt, .slice yav m yac] 34 (0, 0)) := ⟨hb2.drew, r0, r1⟩
    simp only [List.size_toArray, List.length_cons, List.length_nil, Nat.reduceAdd, Array.replicate_succ, Array.replicate_zero, List.push_toArray, List.nil_append, List.cons_append]
    refine tG 0 13 (.pointer (some ⟨w.heap.size + 1, 0, none⟩)) 13 rfl hS0 ?_
    refine tV 1 14 (.string ⟨x.name.toArray⟩) 12 rfl hS0 ?_ (fun w3 hw3 => by have z0 := (Dg.cell_row hw3.2.2 0).trans rfl; go_simp)
    refine tG 2 15 (.pointer (some ⟨w.heap.size + 1, 1, none⟩)) 11 rfl hS0 ?_
    refine tV 3 16 (.string ⟨x.undo.toArray⟩) 10 rfl hS0 ?_ (fun w3 hw3 => by have z0 := (Dg.cell_row hw3.2.2 1).trans rfl; go_simp)
    refine tG 4 17 (.pointer (some ⟨w.heap.size + 1, 2, none⟩)) 9 rfl hS0 ?_
    refine tV 5 18 (.bool x.sub) 8 rfl hS0 ?_ (fun w3 hw3 => by have z0 := (Dg.cell_row hw3.2.2 2).trans rfl; go_simp)
    refine tG 6 19 (.pointer (some ⟨w.heap.size + 1, 3, none⟩)) 7 rfl hS0 ?_
    refine tV 7 20 (.bool x.vital) 6 rfl hS0 ?_ (fun w3 hw3 => by have z0 := (Dg.cell_row hw3.2.2 3).trans rfl; go_simp)
    refine tK 8 21 ((.slice (some ⟨b1, off1, none⟩) il icap)) 5 rfl hS0 ?_
    refine tK 9 22 (.int .i64 (i : Int)) 4 rfl hS0 ?_
    have hMB := HBo.out w2.drew (HIt.out.later hb2.drew)
    rw [HIL.out] at hMB
    refine wpAnyH_all (fuel := 3) (rs := [10, 12]) (by kernel_rfl) (by decide) ?_
    refine List.forall_mem_cons.2 ⟨?_, List.forall_mem_singleton.2 ?_⟩
    · refine wpOp_calls (i := 10) (d := 23) rfl rfl (by kernel_rfl) (f := 80) (args := #[(.slice (some ⟨b1, off1, none⟩) il icap), .int .i64 (i : Int)]) (by kernel_rfl) _ hMB ?_ ?_ ?_
      · rintro vA WA ⟨hbA2, av, am, ac, hvA, htA⟩
        cases hvA
        have hbA : Below w.heap.size w WA := hb2.trans ((Below.refl _ _).drew.trans (hbA2.mono hb2.size))
        have hA0 := (hbA2.block _ (show w.heap.size < w2.heap.size by omega)).trans r0
        have hA1 := (hbA2.block _ hz2).trans r1
        refine ⟨⟨hbA, hA0, hA1⟩, ?_⟩
        simp only [List.setIfInBounds_toArray, List.set_cons_succ, List.set_cons_zero]
        refine wpAnyH_all (fuel := 2) (rs := [11, 12]) (by kernel_rfl) (by decide) ?_
        refine List.forall_mem_cons.2 ⟨?_, List.forall_mem_singleton.2 ?_⟩
        · refine wpOp_value (i := 11) (d := 24) (v := .agg #[.string ⟨x.name.toArray⟩, .string ⟨x.undo.toArray⟩, .slice none 0 0, .bool x.sub, .bool x.vital, .slice av am ac]) (w' := WA) rfl rfl (by kernel_rfl) (by go_simp) ?_
          refine ⟨⟨hbA, hA0, hA1⟩, ?_⟩
          simp only [List.setIfInBounds_toArray, List.set_cons_succ, List.set_cons_zero]
          refine wpAnyH_all (fuel := 1) (rs := [12]) (by kernel_rfl) (by decide) ?_
          refine List.forall_mem_singleton.2 ?_
          refine wpOp_value (i := 12) (d := 6) (v := .pointer (some ⟨WA.heap.size, 0, none⟩)) (w' := WA.alloc (.cells #[.string ⟨#[]⟩, .string ⟨#[]⟩, .slice none 0 0, .bool false, .bool false, .slice none 0 0] 148)) rfl rfl (by kernel_rfl) (by go_simp) ?_
          refine ⟨⟨hbA.alloc hbA.size _, Dg.row_alloc hA0 _, Dg.row_alloc hA1 _⟩, ?_⟩
          simp only [List.setIfInBounds_toArray, List.set_cons_succ, List.set_cons_zero]
          refine wpAnyH_all (fuel := 0) (rs := [13]) (by kernel_rfl) (by decide) ?_
          refine List.forall_mem_singleton.2 ?_
          refine wpOp_skip (i := 13) (w' := WA.alloc (.cells #[.string ⟨x.name.toArray⟩, .string ⟨x.undo.toArray⟩, .slice none 0 0, .bool x.sub, .bool x.vital, .slice av am ac] 148)) rfl rfl (by kernel_rfl) (by go_simp) ?_
          refine ⟨⟨hbA.alloc hbA.size _, Dg.row_alloc hA0 _, Dg.row_alloc hA1 _⟩, wpAnyH_done (by kernel_rfl) ?_ _⟩
          refine ⟨rfl, WA.heap.size, av, am, ac, Since w2.drew WA, ⟨hbA.alloc hbA.size _, Dg.row_alloc hA1 _, Dg.row_new WA #[.string ⟨x.name.toArray⟩, .string ⟨x.undo.toArray⟩, .slice none 0 0, .bool x.sub, .bool x.vital, .slice av am ac] 148, Dg.row_alloc hA0 _, Nat.lt_of_lt_of_le hz2 hbA2.size, TAt.keep (fun b hb hl => ((Below.refl WA.heap.size WA).alloc (Nat.le_refl _) _).block b hl) (fun b hb _ => hb) _ _ _ _ _ htA, fun b hb => ⟨Nat.lt_of_lt_of_le hz2 hb.1, by have := hb.2; simp; omega, by have := hb.2; omega⟩⟩, rfl⟩
        · refine wpOp_value (i := 12) (d := 6) (v := .pointer (some ⟨WA.heap.size, 0, none⟩)) (w' := WA.alloc (.cells #[.string ⟨#[]⟩, .string ⟨#[]⟩, .slice none 0 0, .bool false, .bool false, .slice none 0 0] 148)) rfl rfl (by kernel_rfl) (by go_simp) ?_
          refine ⟨⟨hbA.alloc hbA.size _, Dg.row_alloc hA0 _, Dg.row_alloc hA1 _⟩, ?_⟩
          simp only [List.setIfInBounds_toArray, List.set_cons_succ, List.set_cons_zero]
          refine wpAnyH_all (fuel := 1) (rs := [11]) (by kernel_rfl) (by decide) ?_
          refine List.forall_mem_singleton.2 ?_
          refine wpOp_value (i := 11) (d := 24) (v := .agg #[.string ⟨x.name.toArray⟩, .string ⟨x.undo.toArray⟩, .slice none 0 0, .bool x.sub, .bool x.vital, .slice av am ac]) (w' := WA.alloc (.cells #[.string ⟨#[]⟩, .string ⟨#[]⟩, .slice none 0 0, .bool false, .bool false, .slice none 0 0] 148)) rfl rfl (by kernel_rfl) (by go_simp) ?_
          refine ⟨⟨hbA.alloc hbA.size _, Dg.row_alloc hA0 _, Dg.row_alloc hA1 _⟩, ?_⟩
          simp only [List.setIfInBounds_toArray, List.set_cons_succ, List.set_cons_zero]
          refine wpAnyH_all (fuel := 0) (rs := [13]) (by kernel_rfl) (by decide) ?_
          refine List.forall_mem_singleton.2 ?_
          refine wpOp_skip (i := 13) (w' := WA.alloc (.cells #[.string ⟨x.name.toArray⟩, .string ⟨x.undo.toArray⟩, .slice none 0 0, .bool x.sub, .bool x.vital, .slice av am ac] 148)) rfl rfl (by kernel_rfl) (by go_simp) ?_
          refine ⟨⟨hbA.alloc hbA.size _, Dg.row_alloc hA0 _, Dg.row_alloc hA1 _⟩, wpAnyH_done (by kernel_rfl) ?_ _⟩
          refine ⟨rfl, WA.heap.size, av, am, ac, Since w2.drew WA, ⟨hbA.alloc hbA.size _, Dg.row_alloc hA1 _, Dg.row_new WA #[.string ⟨x.name.toArray⟩, .string ⟨x.undo.toArray⟩, .slice none 0 0, .bool x.sub, .bool x.vital, .slice av am ac] 148, Dg.row_alloc hA0 _, Nat.lt_of_lt_of_le hz2 hbA2.size, TAt.keep (fun b hb hl => ((Below.refl WA.heap.size WA).alloc (Nat.le_refl _) _).block b hl) (fun b hb _ => hb) _ _ _ _ _ htA, fun b hb => ⟨Nat.lt_of_lt_of_le hz2 hb.1, by have := hb.2; simp; omega, by have := hb.2; omega⟩⟩, rfl⟩
      · rintro ch w'' ⟨_, _, _, _, h9, _⟩
        cases h9
      · rintro w'' ⟨_, _, _, _, h9, _⟩
        cases h9
    · refine wpOp_value (i := 12) (d := 6) (v := .pointer (some ⟨w2.heap.size, 0, none⟩)) (w' := w2.drew.alloc (.cells #[.string ⟨#[]⟩, .string ⟨#[]⟩, .slice none 0 0, .bool false, .bool false, .slice none 0 0] 148)) rfl rfl (by kernel_rfl) (by go_simp) ?_
      have hbN : Below w.heap.size w (w2.drew.alloc (.cells #[.string ⟨#[]⟩, .string ⟨#[]⟩, .slice none 0 0, .bool false, .bool false, .slice none 0 0] 148)) := hb2.drew.alloc hb2.size _
      have rN := Dg.row_new w2.drew #[.string ⟨#[]⟩, .string ⟨#[]⟩, .slice none 0 0, .bool false, .bool false, .slice none 0 0] 148
      have hN0 := Dg.row_alloc (w := w2.drew) r0 (.cells #[.string ⟨#[]⟩, .string ⟨#[]⟩, .slice none 0 0, .bool false, .bool false, .slice none 0 0] 148)
      have hN1 := Dg.row_alloc (w := w2.drew) r1 (.cells #[.string ⟨#[]⟩, .string ⟨#[]⟩, .slice none 0 0, .bool false, .bool false, .slice none 0 0] 148)
      have hzN : (w2.drew.alloc (.cells #[.string ⟨#[]⟩, .string ⟨#[]⟩, .slice none 0 0, .bool false, .bool false, .slice none 0 0] 148)).heap.size = w2.heap.size + 1 := by simp
      refine ⟨⟨hbN, hN0, hN1⟩, ?_⟩
      simp only [List.setIfInBounds_toArray, List.set_cons_succ, List.set_cons_zero]
      have hMB2 := HBo.out (w2.drew.alloc (.cells #[.string ⟨#[]⟩, .string ⟨#[]⟩, .slice none 0 0, .bool false, .bool false, .slice none 0 0] 148)) (HIt.out.later hbN)
      rw [HIL.out] at hMB2
      generalize w2.drew.alloc (.cells #[.string ⟨#[]⟩, .string ⟨#[]⟩, .slice none 0 0, .bool false, .bool false, .slice none 0 0] 148) = wN at *
      refine wpAnyH_all (fuel := 2) (rs := [10]) (by kernel_rfl) (by decide) ?_
      refine List.forall_mem_singleton.2 ?_
      refine wpOp_calls (i := 10) (d := 23) rfl rfl (by kernel_rfl) (f := 80) (args := #[(.slice (some ⟨b1, off1, none⟩) il icap), .int .i64 (i : Int)]) (by kernel_rfl) _ hMB2 ?_ ?_ ?_
      · rintro vA WA ⟨hbA2, av, am, ac, hvA, htA⟩
        cases hvA
        have hbA : Below w.heap.size w WA := hbN.trans (hbA2.mono hbN.size)
        have hA0 := (hbA2.block _ (show w.heap.size < wN.heap.size by omega)).trans hN0
        have hA1 := (hbA2.block _ (show w.heap.size + 1 < wN.heap.size by omega)).trans hN1
        have hAN : WA.heap[w2.heap.size]? = some (.cells #[.string ⟨#[]⟩, .string ⟨#[]⟩, .slice none 0 0, .bool false, .bool false, .slice none 0 0] 148 (0, 0)) := (hbA2.block _ (show w2.heap.size < wN.heap.size by omega)).trans rN
        refine ⟨⟨hbA, hA0, hA1⟩, ?_⟩
        simp only [List.setIfInBounds_toArray, List.set_cons_succ, List.set_cons_zero]
        refine wpAnyH_all (fuel := 1) (rs := [11]) (by kernel_rfl) (by decide) ?_
        refine List.forall_mem_singleton.2 ?_
        refine wpOp_value (i := 11) (d := 24) (v := .agg #[.string ⟨x.name.toArray⟩, .string ⟨x.undo.toArray⟩, .slice none 0 0, .bool x.sub, .bool x.vital, .slice av am ac]) (w' := WA) rfl rfl (by kernel_rfl) (by go_simp) ?_
        refine ⟨⟨hbA, hA0, hA1⟩, ?_⟩
        simp only [List.setIfInBounds_toArray, List.set_cons_succ, List.set_cons_zero]
        refine wpAnyH_all (fuel := 0) (rs := [13]) (by kernel_rfl) (by decide) ?_
        refine List.forall_mem_singleton.2 ?_
        have q0 := (Dg.cell_row hAN 0).trans rfl
        have q1 := (Dg.cell_row hAN 1).trans rfl
        have q2 := (Dg.cell_row hAN 2).trans rfl
        have q3 := (Dg.cell_row hAN 3).trans rfl
        have q4 := (Dg.cell_row hAN 4).trans rfl
        have q5 := (Dg.cell_row hAN 5).trans rfl
        have f0 := Dg.froz_row hAN 0
        have f1 := Dg.froz_row hAN 1
        have f2 := Dg.froz_row hAN 2
        have f3 := Dg.froz_row hAN 3
        have f4 := Dg.froz_row hAN 4
        have f5 := Dg.froz_row hAN 5
        refine wpOp_skip (i := 13) (w' := ((((((WA.setCell ⟨w2.heap.size, 0, none⟩ (.string ⟨x.name.toArray⟩)).setCell ⟨w2.heap.size, 1, none⟩ (.string ⟨x.undo.toArray⟩)).setCell ⟨w2.heap.size, 2, none⟩ (.slice none 0 0)).setCell ⟨w2.heap.size, 3, none⟩ (.bool x.sub)).setCell ⟨w2.heap.size, 4, none⟩ (.bool x.vital)).setCell ⟨w2.heap.size, 5, none⟩ (.slice av am ac))) rfl rfl (by kernel_rfl) (by go_simp) ?_
        obtain ⟨s1, s2, s3, s4⟩ := six_row hAN (.string ⟨x.name.toArray⟩) (.string ⟨x.undo.toArray⟩) (.slice none 0 0) (.bool x.sub) (.bool x.vital) (.slice av am ac)
        have hbE := hbA.trans (s4 w.heap.size (by omega))
        have hE0 := (s3 _ (show w.heap.size ≠ w2.heap.size by omega)).trans hA0
        have hE1 := (s3 _ (show w.heap.size + 1 ≠ w2.heap.size by omega)).trans hA1
        refine ⟨⟨hbE, hE0, hE1⟩, wpAnyH_done (by kernel_rfl) ?_ _⟩
        refine ⟨rfl, w2.heap.size, av, am, ac, Since wN WA, ⟨hbE, hE1, s1, hE0, hz2, TAt.keep (fun b hb hl => s3 b (fun e => by have := hb.1; omega)) (fun b hb _ => hb) _ _ _ _ _ htA, fun b hb => ⟨by have := hb.1; omega, by rw [s2]; exact hb.2, by have := hb.1; omega⟩⟩, rfl⟩
      · rintro ch w'' ⟨_, _, _, _, h9, _⟩
        cases h9
      · rintro w'' ⟨_, _, _, _, h9, _⟩
        cases h9
  · rintro e a' w3 ⟨rfl, nb, av, am, ac, P, hN, rfl⟩
    clear hb2 r0 r1 hz2
    have z7 := (Dg.cell_row hN.it 7).trans rfl
    have HN : Hid (NdS w x T nb (.slice yav m yac) w3 (.slice none 0 0) av am ac P) := hN
    clear hN
    simp only [Exit.then]
    go_at_K
    unfold ndT
    go_wp2_with fail
    clear z7
    go_loopw [28] (fun kv wr => ∃ (k : Nat) (u : Value), k ≤ m ∧ kv = .int .i64 k ∧ Hid (NdS w x T nb (.slice yav m yac) wr u av am ac P) ∧ Hid (wr.ownsRow w.heap.size 9 1 u k (nmV its (x.after.take k))) ∧ Hid (∀ b, u.ownBlock = some b → ¬ P b ∧ w.heap.size + 1 < b ∧ b ≠ nb)) (fun kv _ => m - (intOf kv).toNat)
    case atStart => exact ⟨0, _, Nat.zero_le _, rfl, HN, World.ownsRow_nil _ _ _ _, fun b hb => by cases hb⟩
    case round =>
      obtain ⟨k, u, hk, rfl, HS, HO, HU⟩ := hrel
      rename World => w4
      by_cases hlt : k < m
      rotate_left
      · have hke : k = m := by omega
        subst hke
        obtain ⟨ua, uc, rfl⟩ := own_slice HO.out
        have q0 := (Dg.cell_row HS.out.nd 0).trans rfl
        have q1 := (Dg.cell_row HS.out.nd 1).trans rfl
        have q2 := (Dg.cell_row HS.out.nd 2).trans rfl
        have q3 := (Dg.cell_row HS.out.nd 3).trans rfl
        have q4 := (Dg.cell_row HS.out.nd 4).trans rfl
        have q5 := (Dg.cell_row HS.out.nd 5).trans rfl
        have p0 := (Dg.cell_row HS.out.res 0).trans rfl
        have p1 := (Dg.cell_row HS.out.res 1).trans rfl
        have p2 := (Dg.cell_row HS.out.res 2).trans rfl
        have p3 := (Dg.cell_row HS.out.res 3).trans rfl
        have p4 := (Dg.cell_row HS.out.res 4).trans rfl
        have p5 := (Dg.cell_row HS.out.res 5).trans rfl
        have f0 := Dg.froz_row HS.out.res 0
        have f1 := Dg.froz_row HS.out.res 1
        have f2 := Dg.froz_row HS.out.res 2
        have f3 := Dg.froz_row HS.out.res 3
        have f4 := Dg.froz_row HS.out.res 4
        have f5 := Dg.froz_row HS.out.res 5
        clear HZR HIR HAF HX
        go_wp2_with fail
        obtain ⟨s1, s2, s3, s4⟩ := six_row HS.out.res (.string ⟨x.name.toArray⟩) (.string ⟨x.undo.toArray⟩) (.slice ua k uc) (.bool x.sub) (.bool x.vital) (.slice av am ac)
        refine bodyPost_ret_by (results_cell_row rfl _ _ w.heap.size 148 _ (0, 0) _ rfl s1 Tryz.underlying148 rfl (by kernel_rfl)) rfl ⟨HS.out.bel.trans (s4 _ (Nat.le_refl _)), _, _, _, _, _, _, rfl, ?_, ?_⟩
        · have hfull : x.after.take k = x.after := by rw [← HM.out, List.take_length]
          have ho := HO.out
          rw [hfull] at ho
          exact SAt_own ho HM.out (fun b hb => ⟨s3 b (by have := (HU.out b hb).2.1; omega), by have := (HU.out b hb).2.1; show w.heap.size ≤ b; omega, by rw [s2]; exact (own_exists HO.out b hb).2⟩)
        · exact TAt.keep (fun b hb hl => s3 b (by have := (HS.out.pg b hb).1; omega)) (fun b hb _ => ⟨by have := (HS.out.pg b hb).1; omega, by rw [s2]; exact (HS.out.pg b hb).2.1⟩) _ _ _ _ _ HS.out.tr
      · obtain ⟨on, hon⟩ : ∃ on, x.after[k]? = some on := ⟨_, List.getElem?_eq_getElem (by rw [HM.out]; exact hlt)⟩
        obtain ⟨zb, zo, rfl, c0⟩ := HZR.out k on hon
        obtain ⟨h0, h1⟩ := HAF.out on (List.mem_of_getElem? hon)
        obtain ⟨n, rfl⟩ : ∃ n : Nat, on = (n : Int) := ⟨on.toNat, by omega⟩
        obtain ⟨y, hy⟩ : ∃ y, its[n]? = some y := ⟨_, List.getElem?_eq_getElem (by omega)⟩
        obtain ⟨b2, off2, _, _, _, he, d0, _⟩ := HIR.out n y hy
        cases he
        have HNm : Hid (nmV its (x.after.take (k + 1)) = nmV its (x.after.take k) ++ [.string ⟨y.name.toArray⟩]) := by
          show _ = _
          rw [List.take_add_one, hon]
          simp [nmV, nameI, hy]
        have hnl : (n : Int) < (il : Int) := by rw [HIL.out] at h1; exact h1
        have c1 := Dg.cell_later HS.out.bel c0
        have hkk : (k : Int) < (m : Int) := by omega
        have HD0 : Hid _ := d0
        have HIL2 : Hid _ := HIL.out
        clear hy hon h1 d0 c0
        go_wp2_with fail
        clear c1
        have hbw := HS.out.bel
        obtain ⟨ua, uc, rfl⟩ := own_slice HO.out
        refine wp_region_held (S := fun w' => Below w.heap.size w w') (by kernel_rfl) ?_
        have hS0 : Below w.heap.size w w4.drew := hbw.drew
        simp only [List.size_toArray, List.length_cons, List.length_nil, Nat.reduceAdd, Array.replicate_succ, Array.replicate_zero, List.push_toArray, List.nil_append, List.cons_append]
        refine tG 0 32 (.pointer (some ⟨nb, 2, none⟩)) 10 rfl hS0 ?_
        refine tK 2 34 ((.slice (some ⟨b1, off1, none⟩) il icap)) 9 rfl hS0 ?_
        refine tK 3 35 (.int .i64 (n : Int)) 8 rfl hS0 ?_
        refine tG 4 36 (.pointer (some ⟨b1, off1 + n * 8, none⟩)) 7 rfl hS0 ?_
        refine tG 5 37 (.pointer (some ⟨b1, off1 + n * 8, none⟩)) 6 rfl hS0 ?_
        refine tV 6 38 (.string ⟨y.name.toArray⟩) 5 rfl hS0 ?_ (fun w9 hw9 => by have z0 := Dg.cell_later hw9 HD0.out; go_simp)
        have hN5 : NdS w x T nb (.slice (some ⟨zb, zo, none⟩) m yac) (w4.drew.alloc (.cells #[.string ⟨y.name.toArray⟩] 9)) (.slice ua k uc) av am ac P := HS.out.step none ⟨rfl, rfl, rfl, by simp, fun k hk _ => ((Below.refl w4.heap.size w4).drew.alloc (Nat.le_refl _) _).block k hk⟩ (fun b hb => by cases hb)
        have ho5 : World.ownsRow (w4.drew.alloc (.cells #[.string ⟨y.name.toArray⟩] 9)) w.heap.size 9 1 (.slice ua k uc) k (nmV its (x.after.take k)) := own_below HO.out (((Below.refl w4.heap.size w4).drew).alloc (Nat.le_refl _) _)
        have q4 : w4.drew.cell? ⟨nb, 2, none⟩ = some (.slice ua k uc) := (Dg.cell_row (w := w4.drew) HS.out.nd 2).trans rfl
        have q5 := (Dg.cell_row hN5.nd 2).trans rfl
        have hb5 : Below w.heap.size w (w4.drew.alloc (.cells #[.string ⟨y.name.toArray⟩] 9)) := hS0.alloc hbw.size _
        obtain ⟨i0, hi0, hz0, hz1, hz2⟩ := info_parts inf9
        obtain ⟨u', W6, hr6, ho6, hg6, _, hat6⟩ := run_append_own_at (P := Tryz.prog) (w4.drew.alloc (.cells #[.string ⟨y.name.toArray⟩] 9)) w.heap.size 146 146 9 i0 _ 1 _ Tryz.underlying146 hi0 hz0 hz1 hz2 rfl (by decide) (.slice ua k uc) k _ ho5 ⟨w4.heap.size, 0, none⟩ 1 1 [.string ⟨y.name.toArray⟩] rfl (cell_one_new w4.drew (.string ⟨y.name.toArray⟩) 9) (by intro u hu; simp at hu; rw [hu]; rfl) (by unfold maxLen; omega) (by omega) hb5.size
        obtain ⟨ua', uc', rfl⟩ := own_slice ho6
        have hN6 := hN5.step _ hg6 HU.out
        have c6 := (Dg.cell_row hN6.nd 2).trans rfl
        have f6 := Dg.froz_row hN6.nd 2
        have HN7 : Hid _ := hN6.put (.slice ua' (k + 1) uc')
        have HU7 : Hid (∀ b, (Value.slice ua' (k + 1) uc').ownBlock = some b → ¬ P b ∧ w.heap.size + 1 < b ∧ b ≠ nb) := by
          show ∀ b, _
          intro b hb
          rcases hat6 with h9 | h9
          · exact HU.out b (h9.symm.trans hb)
          · rw [h9] at hb
            have hbe : w4.heap.size + 1 = b := by have := Option.some.inj hb; simpa using this
            have hnl4 := (Array.getElem?_eq_some_iff.1 HS.out.nd).1
            have := HS.out.ge
            exact ⟨fun hp => by have := (HS.out.pg b hp).2.1; omega, by omega, by omega⟩
        have HO7 : Hid (World.ownsRow (W6.setCell ⟨nb, 2, none⟩ (.slice ua' (k + 1) uc')) w.heap.size 9 1 (.slice ua' (k + 1) uc') (k + 1) (nmV its (x.after.take (k + 1)))) := by
          show World.ownsRow _ _ _ _ _ _ _
          rw [HNm.out]
          exact own_agree (G := fun b => b ≠ nb) (fun b hb => Below.heap_setCell _ _ _ _ hb) ho6 (fun b hb => (HU7.out b hb).2.2)
        refine wpAnyH_all (fuel := 4) (rs := [1, 7]) (by kernel_rfl) (by decide) ?_
        refine List.forall_mem_cons.2 ⟨?_, List.forall_mem_singleton.2 ?_⟩
        · refine wpOp_value (i := 1) (d := 33) (v := .slice ua k uc) (w' := w4.drew) rfl rfl (by kernel_rfl) (by go_simp) ?_
          refine ⟨hS0, ?_⟩
          simp only [List.setIfInBounds_toArray, List.set_cons_succ, List.set_cons_zero]
          refine wpAnyH_all (fuel := 3) (rs := [7]) (by kernel_rfl) (by decide) ?_
          refine List.forall_mem_singleton.2 ?_
          refine wpOp_value (i := 7) (d := 39) (v := .slice (some ⟨w4.heap.size, 0, none⟩) 1 1) (w' := (w4.drew.alloc (.cells #[.string ⟨y.name.toArray⟩] 9))) rfl rfl (by kernel_rfl) (by go_simp) ?_
          refine ⟨hb5, ?_⟩
          simp only [List.setIfInBounds_toArray, List.set_cons_succ, List.set_cons_zero]
          refine wpAnyH_all (fuel := 2) (rs := [8]) (by kernel_rfl) (by decide) ?_
          refine List.forall_mem_singleton.2 ?_
          refine wpOp_value (i := 8) (d := 40) (v := .slice ua' (k + 1) uc') (w' := W6) rfl rfl (by kernel_rfl) (by simp [execOp, resolve, invoke, builtin, hr6, Result.andThen, Act.eval]) ?_
          refine ⟨hN6.bel, ?_⟩
          simp only [List.setIfInBounds_toArray, List.set_cons_succ, List.set_cons_zero]
          refine wpAnyH_all (fuel := 1) (rs := [9]) (by kernel_rfl) (by decide) ?_
          refine List.forall_mem_singleton.2 ?_
          refine wpOp_value (i := 9) (d := 41) (v := .pointer (some ⟨nb, 2, none⟩)) (w' := W6) rfl rfl (by kernel_rfl) (by go_simp) ?_
          refine ⟨hN6.bel, ?_⟩
          simp only [List.setIfInBounds_toArray, List.set_cons_succ, List.set_cons_zero]
          refine wpAnyH_all (fuel := 0) (rs := [10]) (by kernel_rfl) (by decide) ?_
          refine List.forall_mem_singleton.2 ?_
          refine wpOp_skip (i := 10) (w' := W6.setCell ⟨nb, 2, none⟩ (.slice ua' (k + 1) uc')) rfl rfl (by kernel_rfl) (by go_simp) ?_
          refine ⟨HN7.out.bel, by kernel_rfl, ?_⟩
          clear hr6 hN6 c6 f6 q4 q5 hN5 ho5 HS HO HU
          go_wp2_with fail
          go_roundw
          case rel => exact ⟨k + 1, _, by omega, by go_num, HN7, HO7, HU7⟩
          case measure => simp [intOf]; omega
        · refine wpOp_value (i := 7) (d := 39) (v := .slice (some ⟨w4.heap.size, 0, none⟩) 1 1) (w' := (w4.drew.alloc (.cells #[.string ⟨y.name.toArray⟩] 9))) rfl rfl (by kernel_rfl) (by go_simp) ?_
          refine ⟨hb5, ?_⟩
          simp only [List.setIfInBounds_toArray, List.set_cons_succ, List.set_cons_zero]
          refine wpAnyH_all (fuel := 3) (rs := [1]) (by kernel_rfl) (by decide) ?_
          refine List.forall_mem_singleton.2 ?_
          refine wpOp_value (i := 1) (d := 33) (v := .slice ua k uc) (w' := (w4.drew.alloc (.cells #[.string ⟨y.name.toArray⟩] 9))) rfl rfl (by kernel_rfl) (by have q5b : (w4.alloc (.cells #[.string ⟨y.name.toArray⟩] 9)).cell? ⟨nb, 2, none⟩ = some (.slice ua k uc) := q5; go_simp) ?_
          refine ⟨hb5, ?_⟩
          simp only [List.setIfInBounds_toArray, List.set_cons_succ, List.set_cons_zero]
          refine wpAnyH_all (fuel := 2) (rs := [8]) (by kernel_rfl) (by decide) ?_
          refine List.forall_mem_singleton.2 ?_
          refine wpOp_value (i := 8) (d := 40) (v := .slice ua' (k + 1) uc') (w' := W6) rfl rfl (by kernel_rfl) (by simp [execOp, resolve, invoke, builtin, hr6, Result.andThen, Act.eval]) ?_
          refine ⟨hN6.bel, ?_⟩
          simp only [List.setIfInBounds_toArray, List.set_cons_succ, List.set_cons_zero]
          refine wpAnyH_all (fuel := 1) (rs := [9]) (by kernel_rfl) (by decide) ?_
          refine List.forall_mem_singleton.2 ?_
          refine wpOp_value (i := 9) (d := 41) (v := .pointer (some ⟨nb, 2, none⟩)) (w' := W6) rfl rfl (by kernel_rfl) (by go_simp) ?_
          refine ⟨hN6.bel, ?_⟩
          simp only [List.setIfInBounds_toArray, List.set_cons_succ, List.set_cons_zero]
          refine wpAnyH_all (fuel := 0) (rs := [10]) (by kernel_rfl) (by decide) ?_
          refine List.forall_mem_singleton.2 ?_
          refine wpOp_skip (i := 10) (w' := W6.setCell ⟨nb, 2, none⟩ (.slice ua' (k + 1) uc')) rfl rfl (by kernel_rfl) (by go_simp) ?_
          refine ⟨HN7.out.bel, by kernel_rfl, ?_⟩
          clear hr6 hN6 c6 f6 q4 q5 hN5 ho5 HS HO HU
          go_wp2_with fail
          go_roundw
          case rel => exact ⟨k + 1, _, by omega, by go_num, HN7, HO7, HU7⟩
          case measure => simp [intOf]; omega

end Go.Proofs.YtlegmmhacnbnlaaGreatDoor

