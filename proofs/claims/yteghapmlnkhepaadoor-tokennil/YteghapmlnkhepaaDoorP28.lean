/- Texts of the seat, packed: Yh Yi Yj. -/
import Derived.Test.YteghapmlnkhepaaDoorP27
import Derived.Test.YteghapmlnkhepaaDoorP12
/- The program's Back and Right. -/
namespace Go.Proofs.YteghapmlnkhepaaDoor

open Go.RowKit Go.Shelf Go.Proofs.YteghapmlnkhepaaDoor.Sx

theorem SagaC.bad' {its : List It} {w w' : World} (h : sagaP its = none) (hb : Below w.heap.size w w') : SagaC its w (.panicked (rej 2)) w' := by
  unfold SagaC
  rw [h]
  exact ⟨hb, rfl⟩

theorem SagaC.ok' {its : List It} {w w' : World} {x : By} {t : Tr} {a : Option Addr} {c : Nat} (h : sagaP its = some (x, t)) (hb : Below w.heap.size w w') (ht : TAt (Since w w') w' true t a 0 t.len) : SagaC its w (.returned (.agg #[.string ⟨x.toArray⟩, .slice a t.len c])) w' := by
  unfold SagaC
  rw [h]
  exact ⟨hb, a, c, rfl, ht⟩

set_option maxRecDepth 1000000 in
/-- What answer's deferred call does with a panic. -/
theorem catch58 (b2 b3 : Nat) (c2 c2' c3 : Value) (c : Int) (older : List PanicEntry) (w : World) (h2 : w.heap[b2]? = some (.cells #[c2, c2'] 24 (0, 0))) (h3 : w.heap[b3]? = some (.cells #[c3] 29 (0, 0))) (h23 : b2 ≠ b3) :
    CallsD Tryd.prog 73 #[.pointer (some ⟨b2, 0, none⟩), .pointer (some ⟨b3, 0, none⟩)] (.panicking ({ v := .iface 29 (.int .i64 c), recovered := false } :: older)) w fun e u' w' =>
      e = .returned (.tuple #[]) ∧ u' = .panicking ({ v := .iface 29 (.int .i64 c), recovered := true } :: older) ∧ w' = ((((w.alloc (.cells #[.string ⟨#[]⟩, .slice none 0 0] 24)).setCell ⟨b2, 0, none⟩ (.string ⟨#[]⟩)).setCell ⟨b2, 1, none⟩ (.slice none 0 0)).setCell ⟨b3, 0, none⟩ (.int .i64 c)).drew := by
  have l2 := (Array.getElem?_eq_some_iff.1 h2).1
  have l3 := (Array.getElem?_eq_some_iff.1 h3).1
  have r2 := Dg.row_alloc h2 (.cells #[.string ⟨#[]⟩, .slice none 0 0] 24)
  have r3 := Dg.row_alloc h3 (.cells #[.string ⟨#[]⟩, .slice none 0 0] 24)
  have rn := Dg.row_new w #[.string ⟨#[]⟩, .slice none 0 0] 24
  have g2 := (Dg.cell_row r2 0).trans rfl
  have g2' := (Dg.cell_row r2 1).trans rfl
  have f2 := Dg.froz_row r2 0
  have f2' := Dg.froz_row r2 1
  have g3 := (Dg.cell_row r3 0).trans rfl
  have f3 := Dg.froz_row r3 0
  have gn := (Dg.cell_row rn 0).trans rfl
  have gn' := (Dg.cell_row rn 1).trans rfl
  refine callsD_of_wpS Tryd.func73 rfl fun c₀ cs hu => ?_
  apply wpS_seq
  apply wpS_region
  simp [wpOpsS, go_sem, recoverD, hu, Tryd.ntmps73, Exit.thenS]
  refine wpS_of_wp ?_
  simp only [Array.replicate_succ, Array.replicate_zero, List.push_toArray, List.append_toArray, List.nil_append, List.cons_append, List.setIfInBounds_toArray, List.set_cons_zero, List.set_cons_succ]
  have hta : ∀ (v : Value) (w : World), (Instr.typeAssert (.iface 29 v) 20 29 false).run Tryd.prog w = .ok v w := fun v w => by simp [Instr.typeAssert, run_underlying Tryd.underlying29, go_sem, Result.andThen]
  have n1 : b3 ≠ b2 := fun h => h23 h.symm
  have n2 : w.heap.size ≠ b2 := by omega
  have n3 : w.heap.size ≠ b3 := by omega
  go_wp2_with fail
  obtain ⟨w1, hw1⟩ : ∃ w1, w.alloc (.cells #[.string ⟨#[]⟩, .slice none 0 0] 24) = w1 := ⟨_, rfl⟩
  rw [hw1] at r2 r3 rn g2 g2' f2 f2' g3 f3 gn gn' ⊢
  have HW1 : Hid _ := hw1
  clear hw1
  have m3 : ∀ v u, ((w1.setCell ⟨b2, 0, none⟩ v).setCell ⟨b2, 1, none⟩ u).cell? ⟨b3, 0, none⟩ = some c3 := fun v u => (Dg.cell_row (Dg.row_other (Dg.row_other r3 v n1) u n1) 0).trans rfl
  have k3 : ∀ v u, ((w1.setCell ⟨b2, 0, none⟩ v).setCell ⟨b2, 1, none⟩ u).frozen? ⟨b3, 0, none⟩ = false := fun v u => Dg.froz_row (Dg.row_other (Dg.row_other r3 v n1) u n1) 0
  go_region
  all_goals
    show bodyPostS Tryd.prog Tryd.f73 _ _ _ Exit.normal _ _ _
    simp [bodyPostS, results, Tryd.results73]
    rw [← HW1.out]

set_option maxRecDepth 1000000 in
theorem idle58 (b2 b3 : Nat) (w : World) :
    CallsD Tryd.prog 73 #[.pointer (some ⟨b2, 0, none⟩), .pointer (some ⟨b3, 0, none⟩)] .returning w fun e u' w' => e = .returned (.tuple #[]) ∧ u' = .returning ∧ w' = w := by
  refine callsD_of_wpS Tryd.func73 rfl fun c₀ cs hu => ?_
  apply wpS_seq
  apply wpS_region
  simp [wpOpsS, go_sem, recoverD, hu, Tryd.ntmps73, Exit.thenS]
  refine wpS_of_wp ?_
  simp only [Array.replicate_succ, Array.replicate_zero, List.push_toArray, List.append_toArray, List.nil_append, List.cons_append, List.setIfInBounds_toArray, List.set_cons_zero, List.set_cons_succ]
  go_wp2_with fail
  cases c₀
  simp_all [bodyPostS, results, Tryd.results73]

set_option maxRecDepth 1000000 in
/-- A panic: it is told. -/
theorem pan33 {a : Act} {wc : World} {R : Ending → World → Prop} {c2 c2' c3 : Value} {b2 b3 : Nat} {c : Int} (r2 : wc.heap[b2]? = some (.cells #[c2, c2'] 24 (0, 0))) (r3 : wc.heap[b3]? = some (.cells #[c3] 29 (0, 0))) (h23 : b2 ≠ b3) (h2 : a.tmps.getD 2 undef = .pointer (some ⟨b2, 0, none⟩)) (h3 : a.tmps.getD 3 undef = .pointer (some ⟨b3, 0, none⟩))
    (hd : a.defers = [{ target := Target.fn (Fn.func 73) #[.pointer (some ⟨b2, 0, none⟩), .pointer (some ⟨b3, 0, none⟩)], args := #[] }])
    (hR : R (.returned (.tuple #[.agg #[.string ⟨#[]⟩, .slice none 0 0], .int .i64 c])) ((((wc.alloc (.cells #[.string ⟨#[]⟩, .slice none 0 0] 24)).setCell ⟨b2, 0, none⟩ (.string ⟨#[]⟩)).setCell ⟨b2, 1, none⟩ (.slice none 0 0)).setCell ⟨b3, 0, none⟩ (.int .i64 c)).drew) : bodyPostD Tryd.prog Tryd.f65 R (Exit.panic (rej c)) a wc := by
  have s2 := Dg.row_other (Dg.row_set (Dg.row_set (Dg.row_alloc r2 (.cells #[.string ⟨#[]⟩, .slice none 0 0] 24)) 0 (.string ⟨#[]⟩)) 1 (.slice none 0 0)) (i := 0) (c := b3) (.int .i64 c) h23
  have s3 := Dg.row_set (Dg.row_other (Dg.row_other (Dg.row_alloc r3 (.cells #[.string ⟨#[]⟩, .slice none 0 0] 24)) (i := 0) (c := b2) (.string ⟨#[]⟩) (Ne.symm h23)) (i := 1) (c := b2) (.slice none 0 0) (Ne.symm h23)) 0 (.int .i64 c)
  have h2' : a.tmps[2]?.getD undef = .pointer (some ⟨b2, 0, none⟩) := by simpa using h2
  have h3' : a.tmps[3]?.getD undef = .pointer (some ⟨b3, 0, none⟩) := by simpa using h3
  simp only [bodyPostD, hd]
  refine leaves_cons (f := 73) (args := #[.pointer (some ⟨b2, 0, none⟩), .pointer (some ⟨b3, 0, none⟩)]) (by simp) (by simp [go_sem]) ?_
  refine (catch58 b2 b3 c2 c2' c3 c [] wc r2 r3 h23).mono ?_
  rintro e u' w'' ⟨rfl, rfl, rfl⟩
  generalize ((((wc.alloc (.cells #[.string ⟨#[]⟩, .slice none 0 0] 24)).setCell ⟨b2, 0, none⟩ (.string ⟨#[]⟩)).setCell ⟨b2, 1, none⟩ (.slice none 0 0)).setCell ⟨b3, 0, none⟩ (.int .i64 c)) = wz at *
  have q2 : wz.drew.cell? ⟨b2, 0, none⟩ = some (.string ⟨#[]⟩) := (Dg.cell_row s2 0).trans rfl
  have q2' : wz.drew.cell? ⟨b2, 1, none⟩ = some (.slice none 0 0) := (Dg.cell_row s2 1).trans rfl
  have q3 : wz.drew.cell? ⟨b3, 0, none⟩ = some (.int .i64 c) := (Dg.cell_row s3 0).trans rfl
  simp [Leaves, settle, results, Tryd.results65, go_sem, q2, q2', q3, h2', h3']
  exact hR

set_option maxRecDepth 1000000 in
/-- A return behind the deferred call. -/
theorem ret33 {a : Act} {wc : World} {R : Ending → World → Prop} {c2 c2' c3 : Value} {b2 b3 : Nat} (r2 : wc.heap[b2]? = some (.cells #[c2, c2'] 24 (0, 0))) (r3 : wc.heap[b3]? = some (.cells #[c3] 29 (0, 0))) (h2 : a.tmps.getD 2 undef = .pointer (some ⟨b2, 0, none⟩)) (h3 : a.tmps.getD 3 undef = .pointer (some ⟨b3, 0, none⟩))
    (hd : a.defers = [{ target := Target.fn (Fn.func 73) #[.pointer (some ⟨b2, 0, none⟩), .pointer (some ⟨b3, 0, none⟩)], args := #[] }])
    (hR : R (.returned (.tuple #[.agg #[c2, c2'], c3])) wc) : bodyPostD Tryd.prog Tryd.f65 R Exit.ret a wc := by
  have q2 := (Dg.cell_row r2 0).trans rfl
  have q2' := (Dg.cell_row r2 1).trans rfl
  have q3 := (Dg.cell_row r3 0).trans rfl
  have h2' : a.tmps[2]?.getD undef = .pointer (some ⟨b2, 0, none⟩) := by simpa using h2
  have h3' : a.tmps[3]?.getD undef = .pointer (some ⟨b3, 0, none⟩) := by simpa using h3
  simp only [bodyPostD, hd]
  refine leaves_cons (f := 73) (args := #[.pointer (some ⟨b2, 0, none⟩), .pointer (some ⟨b3, 0, none⟩)]) (by simp) (by simp [go_sem]) ?_
  refine (idle58 b2 b3 wc).mono ?_
  rintro e u' w'' ⟨rfl, rfl, rfl⟩
  simp [Leaves, settle, results, Tryd.results65, go_sem, q2, q2', q3, h2', h3']
  exact hR

/-- What a plan must be so that Back can be asked for its saga. -/
structure FairI (its : List It) : Prop where
  name : ∀ x ∈ its, x.name.length ≤ 1100000
  after : ∀ x ∈ its, x.after.length ≤ 1000000

set_option maxRecDepth 1000000 in
set_option maxHeartbeats 2000000 in
/-- How the function that Back hands to answer ends. -/
theorem back1_any (its : List It) (v : Value) (w : World) (b : Nat) (hb : w.heap[b]? = some (.cells #[v] 28 (0, 0))) (hIt : RdIt w v its) (hF : FairI its) (hT : Dg.Tab w) :
    Calls Tryd.prog 66 #[.pointer (some ⟨b, 0, none⟩)] w fun e w' => SagaC its w e w' := by
  have hb1 : Below w.heap.size w (w.alloc (.cells #[.string ⟨#[]⟩, .slice none 0 0] 24)) := (Below.refl _ w).alloc (Nat.le_refl _) _
  have r1 := Dg.row_alloc hb (.cells #[.string ⟨#[]⟩, .slice none 0 0] 24)
  have rn := Dg.row_new w #[.string ⟨#[]⟩, .slice none 0 0] 24
  have M : Hid _ := sagaOf_any its v _ (hIt.later hb1) hF.name (hT.later hb1) hF.after
  obtain ⟨ia, icap, rfl, _⟩ := hIt
  have g0 := (Dg.cell_row r1 0).trans rfl
  go_enter Tryd.func66, Tryd.ntmps66
  go_wp2_with fail
  generalize w.alloc (.cells #[.string ⟨#[]⟩, .slice none 0 0] 24) = w1 at *
  have hz : w.heap.size < w1.heap.size := (Array.getElem?_eq_some_iff.1 rn).1
  refine Calls.mono M.out ?_
  rintro e w2 ⟨hb2, he⟩
  clear M g0
  cases hP : sagaP its with
  | none =>
    rw [hP] at he
    obtain rfl : e = .panicked (rej 2) := he
    go_wp2_with fail
    exact ⟨rfl, SagaC.bad' hP (hb1.trans (hb2.mono hb1.size))⟩
  | some p =>
    obtain ⟨x, t⟩ := p
    rw [hP] at he
    obtain ⟨a, c, rfl, ht⟩ := he
    have rn2 := (hb2.block _ hz).trans rn
    have g0 := (Dg.cell_row rn2 0).trans rfl
    have g1 := (Dg.cell_row rn2 1).trans rfl
    have f0 := Dg.froz_row rn2 0
    have f1 := Dg.froz_row rn2 1
    have HP : Hid _ := hP
    have HT : Hid _ := ht
    clear hP ht
    go_wp2_with fail
    obtain ⟨t1, t2, t3, t4⟩ := two_row rn2 (.string ⟨x.toArray⟩) (.slice a t.len c)
    refine bodyPost_ret_by (results_cell_row rfl _ _ w.heap.size 24 _ (0, 0) _ rfl t1 Tryd.underlying24 rfl (by kernel_rfl)) rfl (SagaC.ok' HP.out ((hb1.trans (hb2.mono hb1.size)).trans (t4 _ (Nat.le_refl _))) ?_)
    exact TAt.keep (fun b hb _ => t3 b (by have := hb.1; omega)) (fun b hb _ => ⟨by have := hb.1; omega, by rw [t2]; exact hb.2⟩) _ _ _ _ _ HT.out

end Go.Proofs.YteghapmlnkhepaaDoor

/- The program's Back and Right. -/
namespace Go.Proofs.YteghapmlnkhepaaDoor

open Go.RowKit Go.Shelf Go.Proofs.YteghapmlnkhepaaDoor.Sx

/-- How Back ends. -/
def BackC (its : List It) (w : World) (e : Ending) (w' : World) : Prop := Below w.heap.size w w' ∧ match sagaP its with
  | none => e = .returned (.tuple #[.agg #[.string ⟨#[]⟩, .slice none 0 0], .int .i64 2])
  | some (x, t) => ∃ a c, e = .returned (.tuple #[.agg #[.string ⟨x.toArray⟩, .slice a t.len c], .int .i64 0]) ∧ TAt (Since w w') w' true t a 0 t.len

theorem BackC.bad {its : List It} {w w' : World} (h : sagaP its = none) (hb : Below w.heap.size w w') : BackC its w (.returned (.tuple #[.agg #[.string ⟨#[]⟩, .slice none 0 0], .int .i64 2])) w' := by
  unfold BackC
  rw [h]
  exact ⟨hb, rfl⟩

theorem BackC.ok {its : List It} {w w' : World} {x : By} {t : Tr} {a : Option Addr} {c : Nat} (h : sagaP its = some (x, t)) (hb : Below w.heap.size w w') (ht : TAt (Since w w') w' true t a 0 t.len) : BackC its w (.returned (.tuple #[.agg #[.string ⟨x.toArray⟩, .slice a t.len c], .int .i64 0])) w' := by
  unfold BackC
  rw [h]
  exact ⟨hb, a, c, rfl, ht⟩

set_option maxRecDepth 1000000 in
set_option maxHeartbeats 2000000 in
theorem answer33 (its : List It) (v : Value) (w : World) (b : Nat) (hb : w.heap[b]? = some (.cells #[v] 28 (0, 0))) (hIt : RdIt w v its) (hF : FairI its) (hT : Dg.Tab w) :
    Calls Tryd.prog 65 #[.func (Fn.func 66) #[] #[.pointer (some ⟨b, 0, none⟩)]] w fun e w' => BackC its w e w' := by
  have hb1 : Below w.heap.size w ((w.alloc (.cells #[.string ⟨#[]⟩, .slice none 0 0] 24)).alloc (.cells #[.int .i64 0] 29)) := ((Below.refl _ w).alloc (Nat.le_refl _) _).alloc (by simp) _
  have r2 := Dg.row_alloc (Dg.row_new w #[.string ⟨#[]⟩, .slice none 0 0] 24) (.cells #[.int .i64 0] 29)
  have r3 := Dg.row_new (w.alloc (.cells #[.string ⟨#[]⟩, .slice none 0 0] 24)) #[.int .i64 0] 29
  have rb := Dg.row_alloc (Dg.row_alloc hb (.cells #[.string ⟨#[]⟩, .slice none 0 0] 24)) (.cells #[.int .i64 0] 29)
  rw [World.size_alloc] at r3
  have M : Hid _ := back1_any its v _ b rb (hIt.later hb1) hF (hT.later hb1)
  go_enter_defers Tryd.func65, Tryd.ntmps65
  go_wp2_with fail
  generalize (w.alloc (.cells #[.string ⟨#[]⟩, .slice none 0 0] 24)).alloc (.cells #[.int .i64 0] 29) = w1 at *
  have hz : w.heap.size + 1 < w1.heap.size := (Array.getElem?_eq_some_iff.1 r3).1
  refine Calls.mono M.out ?_
  rintro e w2 ⟨hb2, he⟩
  clear M
  have hbw := hb1.trans (hb2.mono hb1.size)
  have s2 := (hb2.block _ (by omega)).trans r2
  have s3 := (hb2.block _ hz).trans r3
  cases hP : sagaP its with
  | none =>
    rw [hP] at he
    obtain rfl : e = .panicked (rej 2) := he
    refine pan33 s2 s3 (by omega) rfl rfl rfl (BackC.bad hP ?_)
    exact ((((hbw.alloc hbw.size _).setCell (Nat.le_refl _) _).setCell (Nat.le_refl _) _).setCell (by show _ ≤ w.heap.size + 1; omega) _).drew
  | some p =>
    obtain ⟨x, t⟩ := p
    rw [hP] at he
    obtain ⟨a, c, rfl, ht⟩ := he
    have HT : Hid _ := ht
    have HP : Hid _ := hP
    have z2 := (Dg.cell_row s2 0).trans rfl
    have z2' := (Dg.cell_row s2 1).trans rfl
    have f2 := Dg.froz_row s2 0
    have f2' := Dg.froz_row s2 1
    obtain ⟨t1, t2, t3, t4⟩ := two_row s2 (.string ⟨x.toArray⟩) (.slice a t.len c)
    have s3' := (t3 _ (show w.heap.size + 1 ≠ w.heap.size by omega)).trans s3
    have z3 := (Dg.cell_row s3' 0).trans rfl
    have f3 := Dg.froz_row s3' 0
    have hbE := hbw.trans (t4 w.heap.size (Nat.le_refl _))
    have T1 : Hid _ := t1
    have S3 : Hid _ := s3'
    have T2 : Hid _ := t2
    have T3 : Hid _ := t3
    have HBE : Hid _ := hbE
    clear ht hP hbw s2 s3 s3' t1 t2 t3 t4 hbE
    go_wp2_with fail
    generalize (w2.setCell ⟨w.heap.size, 0, none⟩ (.string ⟨x.toArray⟩)).setCell ⟨w.heap.size, 1, none⟩ (.slice a t.len c) = w3 at *
    refine ret33 (b2 := w.heap.size) (b3 := w.heap.size + 1) (Dg.row_other T1.out (i := 0) (c := w.heap.size + 1) (.int .i64 0) (by omega)) (Dg.row_set S3.out 0 (.int .i64 0)) rfl rfl rfl (BackC.ok HP.out (HBE.out.setCell (by show _ ≤ w.heap.size + 1; omega) _) ?_)
    exact TAt.keep (fun b hb _ => (Below.heap_setCell _ _ _ _ (by have := hb.1; show b ≠ w.heap.size + 1; omega)).trans (T3.out b (by have := hb.1; omega))) (fun b hb _ => ⟨by have := hb.1; omega, by have h8 := T2.out; have := hb.2; simp; omega⟩) _ _ _ _ _ HT.out

set_option maxRecDepth 1000000 in
set_option maxHeartbeats 2000000 in
/-- Back tells a plan's saga. -/
theorem Back_any (its : List It) (v : Value) (w : World) (hIt : RdIt w v its) (hF : FairI its) (hT : Dg.Tab w) :
    Calls Tryd.prog 52 #[.agg #[v]] w fun e w' => BackC its w e w' := by
  have hb1 : Below w.heap.size w ((w.alloc (.cells #[v] 28)).alloc (.cells #[.string ⟨#[]⟩, .slice none 0 0] 24)) := ((Below.refl _ w).alloc (Nat.le_refl _) _).alloc (by simp) _
  have r1 := Dg.row_alloc (Dg.row_new w #[v] 28) (.cells #[.string ⟨#[]⟩, .slice none 0 0] 24)
  have r2 := Dg.row_new (w.alloc (.cells #[v] 28)) #[.string ⟨#[]⟩, .slice none 0 0] 24
  rw [World.size_alloc] at r2
  have M : Hid _ := answer33 its v _ w.heap.size r1 (hIt.later hb1) hF (hT.later hb1)
  obtain ⟨ia, icap, rfl, _⟩ := hIt
  go_enter Tryd.func52, Tryd.ntmps52
  go_wp2_with fail
  generalize (w.alloc (.cells #[.slice ia its.length icap] 28)).alloc (.cells #[.string ⟨#[]⟩, .slice none 0 0] 24) = w1 at *
  have hz : w.heap.size + 1 < w1.heap.size := (Array.getElem?_eq_some_iff.1 r2).1
  refine Calls.mono M.out ?_
  rintro e w2 ⟨hb2, he⟩
  clear M
  have hbw := hb1.trans (hb2.mono hb1.size)
  have s2 := (hb2.block _ hz).trans r2
  have z2 := (Dg.cell_row s2 0).trans rfl
  have z2' := (Dg.cell_row s2 1).trans rfl
  have f2 := Dg.froz_row s2 0
  have f2' := Dg.froz_row s2 1
  have S2 : Hid _ := s2
  have HBW : Hid _ := hbw
  clear s2 hbw
  cases hP : sagaP its with
  | none =>
    rw [hP] at he
    have HP : Hid _ := hP
    obtain rfl : e = .returned (.tuple #[.agg #[.string ⟨#[]⟩, .slice none 0 0], .int .i64 2]) := he
    clear hP
    go_wp2_with fail
    obtain ⟨t1, t2, t3, t4⟩ := two_row S2.out (.string ⟨#[]⟩) (.slice none 0 0)
    have q2 := (Dg.cell_row t1 0).trans rfl
    have q2' := (Dg.cell_row t1 1).trans rfl
    exact bodyPost_ret_by (by simp [results, Tryd.results52, go_sem, q2, q2']) rfl (BackC.bad HP.out (HBW.out.trans (t4 w.heap.size (by omega))))
  | some p =>
    obtain ⟨x, t⟩ := p
    rw [hP] at he
    obtain ⟨a, c, rfl, ht⟩ := he
    have HT : Hid _ := ht
    have HP : Hid _ := hP
    clear ht hP
    go_wp2_with fail
    obtain ⟨t1, t2, t3, t4⟩ := two_row S2.out (.string ⟨x.toArray⟩) (.slice a t.len c)
    have q2 := (Dg.cell_row t1 0).trans rfl
    have q2' := (Dg.cell_row t1 1).trans rfl
    refine bodyPost_ret_by (by simp [results, Tryd.results52, go_sem, q2, q2']) rfl (BackC.ok (a := a) (c := c) HP.out (HBW.out.trans (t4 w.heap.size (by omega))) ?_)
    exact TAt.keep (fun b hb _ => t3 b (by have := hb.1; omega)) (fun b hb _ => ⟨by have := hb.1; omega, by rw [t2]; exact hb.2⟩) _ _ _ _ _ HT.out

set_option maxRecDepth 1000000 in
set_option maxHeartbeats 2000000 in
/-- Right tells whether a plan is a saga's. -/
theorem Right_any (its : List It) (v : Value) (w : World) (hIt : RdIt w v its) (hF : FairI its) (hT : Dg.Tab w) :
    Calls Tryd.prog 37 #[.agg #[v]] w fun e w' => e = .returned (.bool (sagaP its).isSome) ∧ Below w.heap.size w w' := by
  have hb1 : Below w.heap.size w (w.alloc (.cells #[v] 28)) := (Below.refl _ w).alloc (Nat.le_refl _) _
  have r1 := Dg.row_new w #[v] 28
  have M : Hid _ := Back_any its v _ (hIt.later hb1) hF (hT.later hb1)
  obtain ⟨ia, icap, rfl, _⟩ := hIt
  have g0 := (Dg.cell_row r1 0).trans rfl
  go_enter Tryd.func37, Tryd.ntmps37
  go_wp2_with fail
  generalize w.alloc (.cells #[.slice ia its.length icap] 28) = w1 at *
  refine Calls.mono M.out ?_
  rintro e w2 ⟨hb2, he⟩
  clear M g0
  have HBW : Hid _ := hb1.trans (hb2.mono hb1.size)
  have hz := hb1.size
  have hz2 := hb2.size
  cases hP : sagaP its with
  | none =>
    rw [hP] at he
    obtain rfl : e = .returned (.tuple #[.agg #[.string ⟨#[]⟩, .slice none 0 0], .int .i64 2]) := he
    have HP : Hid _ := hP
    clear hP
    go_wp2_with fail
    go_ret
    rw [HP.out]
    exact ⟨rfl, HBW.out.alloc (by omega) _⟩
  | some p =>
    obtain ⟨x, t⟩ := p
    rw [hP] at he
    obtain ⟨a, c, rfl, ht⟩ := he
    have HP : Hid _ := hP
    clear ht hP
    go_wp2_with fail
    go_ret
    rw [HP.out]
    exact ⟨rfl, HBW.out.alloc (by omega) _⟩

end Go.Proofs.YteghapmlnkhepaaDoor

/- The program's See. -/
namespace Go.Proofs.YteghapmlnkhepaaDoor

open Go.RowKit Go.Shelf Go.Proofs.YteghapmlnkhepaaDoor.Sx

theorem inf97 : (Tryd.prog.info? 73).map (fun i => (i.zero, i.size, i.bytes)) = some (some (.agg #[.int .i64 0, .int .i64 0]), 2, 16) := by kernel_rfl

/-- The spots of items, as the values of a row. -/
def spV : List It → List Value
  | [] => []
  | x :: r => .int .i64 x.inn :: .int .i64 x.alt :: spV r

theorem spV_append : ∀ (l m : List It), spV (l ++ m) = spV l ++ spV m
  | [], _ => rfl
  | x :: r, m => by simp [spV, spV_append r m]

theorem spV_at : ∀ (l : List It) (i : Nat) (x : It), l[i]? = some x → (spV l)[i * 2]? = some (.int .i64 x.inn) ∧ (spV l)[i * 2 + 1]? = some (.int .i64 x.alt)
  | [], i, x, h => by simp at h
  | y :: r, 0, x, h => by simp at h; subst h; exact ⟨rfl, rfl⟩
  | y :: r, i + 1, x, h => by
    have := spV_at r i x (by simpa using h)
    rw [show (i + 1) * 2 = i * 2 + 2 by omega]
    exact this

/-- A plan that is right can be turned round. -/
theorem right_facts {its : List It} {p : By × Tr} (h : sagaP its = some p) : its.length ≤ 64 ∧ arcN its ≤ 1000000 ∧ Dg.Small (arcP its) ∧ (arcP its).length ≤ 8192 ∧ ∃ W o, Dg.weaveP (its.length : Int) (Dg.swapA (arcP its)) = .ok W o := by
  unfold sagaP at h
  split at h
  · rename_i hc
    have hp := hc.2
    have hf := fit_cnt (planT_fit hp)
    unfold planT planP at hp
    split at hp
    · rename_i hd
      have hl := xsT_len (bodS its) 0 0 0
      have he := Option.some.inj hp
      have ho := hd.2.2.2
      have hn63 : (xsT (bodS its) 0 0 0).length < 64 := by omega
      have h1 := arcN_le (nameI its 0) (bodS its).len (xsT (bodS its) 0 0 0) (xsT (bodS its) 0 0 0).length hn63
      have h2 := arcP_small (nameI its 0) (bodS its).len (xsT (bodS its) 0 0 0) (xsT (bodS its) 0 0 0).length hn63
      have h3 := its2_len (nameI its 0) (bodS its).len (xsT (bodS its) 0 0 0) (xsT (bodS its) 0 0 0).length
      rw [he] at h1 h2 h3 ho
      unfold ordOk at ho
      cases hw : Dg.weaveP (its.length : Int) (arcP its) with
      | bad c => rw [hw] at ho; cases ho
      | ok W o =>
        have hlen : (arcP its).length ≤ 4096 := by
          unfold Dg.weaveP at hw
          split at hw
          · cases hw
          · rename_i hx
            simp only [not_or] at hx
            omega
        refine ⟨by omega, h1, h2, by omega, ?_⟩
        rcases Dg.weave_turn (its.length : Int) (arcP its) with ⟨c, h9, _⟩ | ⟨o1, o2, _, h9⟩
        · rw [hw] at h9; cases h9
        · exact ⟨_, _, h9⟩
    · cases hp
  · cases h

/-- What See knows once k items are looked at. -/
structure SeS (w : World) (v : Value) (its : List It) (vb k : Nat) (A : World) (sv : Value) : Prop where
  bel : Below w.heap.size w A
  box : A.heap[w.heap.size]? = some (.cells #[v] 28 (0, 0))
  vw : A.heap[vb]? = some (.cells #[sv, .slice none 0 0] 92 (0, 0))
  ge : w.heap.size < vb
  own : A.ownsRow w.heap.size 73 2 sv k (spV (its.take k))

theorem SeS.later {w : World} {v : Value} {its : List It} {vb k : Nat} {A B : World} {sv : Value} (h : SeS w v its vb k A sv) (hb : Below A.heap.size A B) : SeS w v its vb k B sv := by
  have hlt : ∀ {b : Nat} {o : Obj}, A.heap[b]? = some o → b < A.heap.size := fun h => (Array.getElem?_eq_some_iff.1 h).1
  exact ⟨h.bel.trans (hb.mono h.bel.size), (hb.block _ (hlt h.box)).trans h.box, (hb.block _ (hlt h.vw)).trans h.vw, h.ge, own_below h.own hb⟩

theorem SeS.push {w : World} {v : Value} {its : List It} {vb k : Nat} {A B : World} {sv : Value} (h : SeS w v its vb k A sv) (y : It) (hy : its[k]? = some y) (hb : Below A.heap.size A B) (hk : k ≤ 100000) :
    ∃ ua m uc W3, (Builtin.append_ #[89, 89] 89 #[sv, .slice (some ⟨B.heap.size, 0, none⟩) 1 1]).run Tryd.prog (B.alloc (.cells #[.int .i64 y.inn, .int .i64 y.alt] 73)) = .ok (.slice ua m uc) W3 ∧ (B.alloc (.cells #[.int .i64 y.inn, .int .i64 y.alt] 73)).grownBy W3 sv.ownBlock ∧ W3.heap[vb]? = some (.cells #[sv, .slice none 0 0] 92 (0, 0)) ∧
      SeS w v its vb (k + 1) (W3.setCell ⟨vb, 0, none⟩ (.slice ua m uc)) (.slice ua m uc) := by
  obtain ⟨i0, hi0, hz0, hz1, hz2⟩ := info_parts inf97
  have hB2 : Below A.heap.size A (B.alloc (.cells #[.int .i64 y.inn, .int .i64 y.alt] 73)) := hb.alloc hb.size _
  have h2 := h.later hB2
  have hcl : ∀ (j : Nat) (u : Value), ([.int .i64 y.inn, .int .i64 y.alt] : List Value)[j]? = some u → (B.alloc (.cells #[.int .i64 y.inn, .int .i64 y.alt] 73)).cell? ((⟨B.heap.size, 0, none⟩ : Addr).add j) = some u := by
    intro j u hj
    rw [Go.WideShapes.add_plain, Nat.zero_add, Dg.cell_row (Dg.row_new B #[.int .i64 y.inn, .int .i64 y.alt] 73), ← Array.getElem?_toList]
    exact hj
  obtain ⟨u', W3, hr3, ho3, hg3, _, hat3⟩ := run_append_own_at (P := Tryd.prog) (B.alloc (.cells #[.int .i64 y.inn, .int .i64 y.alt] 73)) w.heap.size 89 89 73 i0 _ 2 _ Tryd.underlying89 hi0 hz0 hz1 hz2 rfl (by decide) sv _ _ h2.own ⟨B.heap.size, 0, none⟩ 1 1 [.int .i64 y.inn, .int .i64 y.alt] rfl hcl (by intro u hu; simp at hu; rcases hu with rfl | rfl <;> rfl) (by unfold maxLen; omega) (by omega) h2.bel.size
  obtain ⟨ua, uc, rfl⟩ := own_slice ho3
  have hlt : ∀ {b : Nat} {o : Obj}, (B.alloc (.cells #[.int .i64 y.inn, .int .i64 y.alt] 73)).heap[b]? = some o → b < (B.alloc (.cells #[.int .i64 y.inn, .int .i64 y.alt] 73)).heap.size := fun h => (Array.getElem?_eq_some_iff.1 h).1
  have hv3 : W3.heap[vb]? = some (.cells #[sv, .slice none 0 0] 92 (0, 0)) := (hg3.block _ (hlt h2.vw) (own_other h2.own h2.vw (by decide))).trans h2.vw
  have hb3 : W3.heap[w.heap.size]? = some (.cells #[v] 28 (0, 0)) := (hg3.block _ (hlt h2.box) (own_other h2.own h2.box (by decide))).trans h2.box
  have hge := h.ge
  refine ⟨ua, _, uc, W3, hr3, hg3, hv3, ?_, ?_, ?_, hge, ?_⟩
  · refine (h2.bel.trans ⟨hg3.os, hg3.tape, hg3.output, hg3.size, fun b hb' => hg3.block b (by have := h2.bel.size; omega) (fun e => ?_)⟩).setCell (by show _ ≤ vb; omega) _
    have := (own_exists h2.own b e.symm).1
    omega
  · exact Dg.row_other hb3 _ (by omega)
  · exact Dg.row_set hv3 0 _
  · rw [List.take_add_one, hy]
    have h9 : W3.ownsRow w.heap.size 73 2 (.slice ua (k + 1) uc) (k + 1) (spV (its.take k ++ (some y).toList)) := by
      rw [spV_append]
      exact ho3
    exact own_agree (G := fun b => b ≠ vb) (fun b hb' => Below.heap_setCell _ _ _ _ hb') h9 (fun b hb' e => own_other h9 hv3 (by decide) (e ▸ hb'.symm))

/-- How See ends. -/
def SeeC (its : List It) (w : World) (e : Ending) (w' : World) : Prop := Below w.heap.size w w' ∧ match sagaP its with
  | none => e = .returned (.tuple #[.pointer none, .int .i64 2])
  | some _ => ∃ b W o, e = .returned (.tuple #[.pointer (some ⟨b, 0, none⟩), .int .i64 0]) ∧ w.heap.size ≤ b ∧ Dg.weaveP (its.length : Int) (Dg.swapA (arcP its)) = .ok W o ∧ VwAt w' b its (Dg.reachL W o)

theorem SeeC.bad {its : List It} {w w' : World} (h : sagaP its = none) (hb : Below w.heap.size w w') : SeeC its w (.returned (.tuple #[.pointer none, .int .i64 2])) w' := by
  unfold SeeC
  rw [h]
  exact ⟨hb, rfl⟩

theorem SeeC.ok {its : List It} {w w' : World} {p : By × Tr} {b : Nat} {W o : List Nat} (h : sagaP its = some p) (hb : Below w.heap.size w w') (hz : w.heap.size ≤ b) (hw : Dg.weaveP (its.length : Int) (Dg.swapA (arcP its)) = .ok W o) (hv : VwAt w' b its (Dg.reachL W o)) : SeeC its w (.returned (.tuple #[.pointer (some ⟨b, 0, none⟩), .int .i64 0])) w' := by
  unfold SeeC
  rw [h]
  exact ⟨hb, b, W, o, rfl, hz, hw, hv⟩

end Go.Proofs.YteghapmlnkhepaaDoor

