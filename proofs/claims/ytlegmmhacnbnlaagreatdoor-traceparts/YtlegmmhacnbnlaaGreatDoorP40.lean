/- Texts of the seat, packed: Ya Yb Zw. -/
import Derived.Test.YtlegmmhacnbnlaaGreatDoorP39
import Derived.Test.YtlegmmhacnbnlaaGreatDoorP37
/- A saga's plan, of the saga alone. -/
namespace Go.Proofs.YtlegmmhacnbnlaaGreatDoor

open Go.RowKit Go.Shelf Go.Proofs.YtlegmmhacnbnlaaGreatDoor.Sx

/-- A node without the places where it lies. -/
def Pd.bare (x : Pd) : Pd := ⟨x.num, x.lab, x.alts, none, 0, 0, none, x.am, 0, x.inn, x.alt⟩

/-- The nodes of bodies by their numbers. -/
def xsT : Tr → Nat → Nat → Nat → List Pd
  | .e, _, _, _ => []
  | .b x r, inn, alt, last => xsT x inn alt last ++ xsT r inn (alt + 1) (last + cntA x)
  | .n l t r, inn, alt, last => ⟨last + 1, l, t, none, 0, 0, none, t.len, 0, inn, alt⟩ :: (xsT t (last + 1) 0 (last + 1) ++ xsT r inn alt (last + 1 + cntA t))

theorem XAt.bare {P : Nat → Prop} {w : World} (t : Tr) : ∀ (k : Bool) (a : Option Addr) (i n inn alt last : Nat) (xs : List Pd), XAt P w k t a i n inn alt last xs → xs.map Pd.bare = xsT t inn alt last := by
  induction t with
  | e => rintro k a i n inn alt last xs ⟨_, rfl⟩; rfl
  | b x r ih1 ih2 =>
    rintro k a i n inn alt last xs ⟨h0, h1, ys, zs, rfl, ⟨b, off, v, m, c, ha, hp, hc, hx⟩, hr⟩
    rw [List.map_append, ih1 _ _ _ _ _ _ _ _ hx, ih2 _ _ _ _ _ _ _ _ hr]
    rfl
  | n l t r ih1 ih2 =>
    rintro k a i n inn alt last xs ⟨h0, h1, sv, sm, sc, av, am, ac, ys, zs, rfl, _, _, ht, hy, hz⟩
    rw [List.map_cons, List.map_append, ih1 _ _ _ _ _ _ _ _ hy, ih2 _ _ _ _ _ _ _ _ hz]
    have : am = t.len := by have := ht.len; omega
    subst this
    rfl

theorem numFold_bare : ∀ (xs : List Pd) (f : By → Option Nat), (xs.map Pd.bare).foldl numPut f = xs.foldl numPut f
  | [], _ => rfl
  | x :: xs, f => by rw [List.map_cons, List.foldl_cons, List.foldl_cons, numFold_bare xs]; rfl

theorem numF_bare (xs : List Pd) : numF (xs.map Pd.bare) = numF xs := numFold_bare xs _

theorem goodN_bare (xs : List Pd) : goodN (xs.map Pd.bare) = goodN xs := by
  unfold goodN
  rw [List.length_map]
  congr 1
  funext j
  unfold goodAt
  rw [List.getElem?_map, ← List.map_take, numF_bare]
  cases xs[j]? <;> rfl

theorem its1_bare (x : By) (am : Nat) (xs : List Pd) (k : Nat) : its1 x am (xs.map Pd.bare) k = its1 x am xs k := by
  unfold its1
  rw [← List.map_take, List.map_map]
  rfl

theorem leanK_bare (x : By) (am : Nat) (xs : List Pd) (k : Nat) : leanK x am (xs.map Pd.bare) k = leanK x am xs k := by
  unfold leanK
  rw [List.getElem?_map, List.length_map, its1_bare, numF_bare]
  cases xs[k]? <;> rfl

theorem its2_bare (x : By) (am : Nat) (xs : List Pd) : ∀ k, its2 x am (xs.map Pd.bare) k = its2 x am xs k
  | 0 => by rw [its2, its2, List.length_map, its1_bare]
  | k + 1 => by rw [its2, its2, its2_bare x am xs k, leanK_bare]

theorem planP_bare (x : By) (t : Tr) (am : Nat) (xs : List Pd) : planP x t am (xs.map Pd.bare) = planP x t am xs := by
  unfold planP
  rw [goodN_bare, List.length_map, its2_bare]
  simp only [leanK_bare]

/-- The plan of a saga, or none. -/
noncomputable def planT (x : By) (t : Tr) : Option (List It) := planP x t t.len (xsT t 0 0 0)

/-- Bodies that are no longer than the machine bears. -/
structure Fair (t : Tr) : Prop where
  bnd : Bnd t
  sz : szA t ≤ 1000000000
  cn : cntA t ≤ 1000000000
  lab : ∀ y ∈ xsT t 0 0 0, y.lab.name.length ≤ 1100000 ∧ y.lab.after.length ≤ 1100000 ∧ ∀ z ∈ y.lab.after, z.length ≤ 1100000

theorem planT_fit {x : By} {t : Tr} {its : List It} (h : planT x t = some its) : fitS x t = true := by
  unfold planT planP at h
  split at h
  · rename_i hc
    exact hc.1
  · cases h

/-- How planOf ends. -/
def PlanC (x : By) (t : Tr) (w : World) (e : Ending) (w' : World) : Prop := Below w.heap.size w w' ∧ match planT x t with
  | none => e = .panicked (rej 11)
  | some its => ∃ v, e = .returned (.agg #[v]) ∧ Stands w.heap.size w' v its

theorem Stands.widen {base base' : Nat} {w : World} {v : Value} {its : List It} (h : Stands base w v its) (hb : base' ≤ base) : Stands base' w v its := fun A hA => h A fun b h1 h2 => hA b (by omega) h2

theorem PlanC.bad {x : By} {t : Tr} {w w' : World} (hP : planT x t = none) (hb : Below w.heap.size w w') : PlanC x t w (.panicked (rej 11)) w' := by
  unfold PlanC
  rw [hP]
  exact ⟨hb, rfl⟩

theorem PlanC.ok {x : By} {t : Tr} {w w' : World} {its : List It} {v : Value} (hP : planT x t = some its) (hb : Below w.heap.size w w') (hs : Stands w.heap.size w' v its) : PlanC x t w (.returned (.agg #[v])) w' := by
  unfold PlanC
  rw [hP]
  exact ⟨hb, v, rfl, hs⟩

theorem planOf_any (w : World) (x : By) (t : Tr) (a : Option Addr) (ac : Nat) (ht : TAt (· < w.heap.size) w true t a 0 t.len) (hF : Fair t) (hT : Dg.Tab w) :
    Calls Tryz.prog 90 #[.agg #[.string ⟨x.toArray⟩, .slice a t.len ac]] w fun e w' => PlanC x t w e w' := by
  obtain ⟨xs, hX⟩ := TAt.xat t true a 0 t.len 0 0 0 ht
  have hB := XAt.bare _ _ _ _ _ _ _ _ _ hX
  have hmem : ∀ y ∈ xs, y.bare ∈ xsT t 0 0 0 := fun y hy => by rw [← hB]; exact List.mem_map_of_mem hy
  have hP : planP x t t.len xs = planT x t := by rw [planT, ← hB, planP_bare]
  refine callsIn_wide.1 (planOf_in w x t a t.len ac ht hF.bnd hF.sz hF.cn xs hX (fun y hy => (hF.lab _ (hmem y hy)).1) _ hT (fun y hy => (hF.lab _ (hmem y hy)).2) ?_ ?_)
  · intro w' hb h
    rw [hP] at h
    unfold PlanC
    rw [h]
    exact ⟨hb, rfl⟩
  · intro w' v its hb h hs
    rw [hP] at h
    unfold PlanC
    rw [h]
    exact ⟨hb, v, rfl, hs⟩

set_option maxRecDepth 1000000 in
/-- What answer's deferred call does with a panic. -/
theorem catch51 (b2 b3 : Nat) (c2 c3 : Value) (c : Int) (older : List PanicEntry) (w : World) (h2 : w.heap[b2]? = some (.cells #[c2] 24 (0, 0))) (h3 : w.heap[b3]? = some (.cells #[c3] 28 (0, 0))) (h23 : b2 ≠ b3) :
    CallsD Tryz.prog 92 #[.pointer (some ⟨b2, 0, none⟩), .pointer (some ⟨b3, 0, none⟩)] (.panicking ({ v := .iface 28 (.int .i64 c), recovered := false } :: older)) w fun e u' w' =>
      e = .returned (.tuple #[]) ∧ u' = .panicking ({ v := .iface 28 (.int .i64 c), recovered := true } :: older) ∧ w' = (((w.alloc (.cells #[.slice none 0 0] 24)).setCell ⟨b2, 0, none⟩ (.slice none 0 0)).setCell ⟨b3, 0, none⟩ (.int .i64 c)).drew := by
  have l2 := (Array.getElem?_eq_some_iff.1 h2).1
  have l3 := (Array.getElem?_eq_some_iff.1 h3).1
  have r2 := Dg.row_alloc h2 (.cells #[.slice none 0 0] 24)
  have r3 := Dg.row_alloc h3 (.cells #[.slice none 0 0] 24)
  have rn := Dg.row_new w #[.slice none 0 0] 24
  have g2 := (Dg.cell_row r2 0).trans rfl
  have f2 := Dg.froz_row r2 0
  have g3 := (Dg.cell_row r3 0).trans rfl
  have f3 := Dg.froz_row r3 0
  have gn := (Dg.cell_row rn 0).trans rfl
  refine callsD_of_wpS Tryz.func92 rfl fun c₀ cs hu => ?_
  apply wpS_seq
  apply wpS_region
  simp [wpOpsS, go_sem, recoverD, hu, Tryz.ntmps92, Exit.thenS]
  refine wpS_of_wp ?_
  simp only [Array.replicate_succ, Array.replicate_zero, List.push_toArray, List.append_toArray, List.nil_append, List.cons_append, List.setIfInBounds_toArray, List.set_cons_zero, List.set_cons_succ]
  have hta : ∀ (v : Value) (w : World), (Instr.typeAssert (.iface 28 v) 20 28 false).run Tryz.prog w = .ok v w := fun v w => by simp [Instr.typeAssert, run_underlying Tryz.underlying28, go_sem, Result.andThen]
  have n1 : b3 ≠ b2 := fun h => h23 h.symm
  have n2 : w.heap.size ≠ b2 := by omega
  have n3 : w.heap.size ≠ b3 := by omega
  go_wp2_with fail
  obtain ⟨w1, hw1⟩ : ∃ w1, w.alloc (.cells #[.slice none 0 0] 24) = w1 := ⟨_, rfl⟩
  rw [hw1] at r2 r3 rn g2 f2 g3 f3 gn ⊢
  have HW1 : Hid _ := hw1
  clear hw1
  have m3 : ∀ v, (w1.setCell ⟨b2, 0, none⟩ v).cell? ⟨b3, 0, none⟩ = some c3 := fun v => (Dg.cell_row (Dg.row_other r3 v n1) 0).trans rfl
  have k3 : ∀ v, (w1.setCell ⟨b2, 0, none⟩ v).frozen? ⟨b3, 0, none⟩ = false := fun v => Dg.froz_row (Dg.row_other r3 v n1) 0
  go_region
  all_goals
    show bodyPostS Tryz.prog Tryz.f92 _ _ _ Exit.normal _ _ _
    simp [bodyPostS, results, Tryz.results92]
    rw [← HW1.out]

set_option maxRecDepth 1000000 in
theorem idle51 (b2 b3 : Nat) (w : World) :
    CallsD Tryz.prog 92 #[.pointer (some ⟨b2, 0, none⟩), .pointer (some ⟨b3, 0, none⟩)] .returning w fun e u' w' => e = .returned (.tuple #[]) ∧ u' = .returning ∧ w' = w := by
  refine callsD_of_wpS Tryz.func92 rfl fun c₀ cs hu => ?_
  apply wpS_seq
  apply wpS_region
  simp [wpOpsS, go_sem, recoverD, hu, Tryz.ntmps92, Exit.thenS]
  refine wpS_of_wp ?_
  simp only [Array.replicate_succ, Array.replicate_zero, List.push_toArray, List.append_toArray, List.nil_append, List.cons_append, List.setIfInBounds_toArray, List.set_cons_zero, List.set_cons_succ]
  go_wp2_with fail
  cases c₀
  simp_all [bodyPostS, results, Tryz.results92]

/-- How the function that Make hands to answer ends. -/
theorem make1_any (w : World) (x : By) (t : Tr) (a : Option Addr) (ac b : Nat) (hb : w.heap[b]? = some (.cells #[.string ⟨x.toArray⟩, .slice a t.len ac] 94 (0, 0))) (ht : TAt (· < w.heap.size) w true t a 0 t.len) (hF : Fair t) (hT : Dg.Tab w) :
    Calls Tryz.prog 89 #[.pointer (some ⟨b, 0, none⟩)] w fun e w' => PlanC x t w e w' := by
  have hb1 : Below w.heap.size w (w.alloc (.cells #[.slice none 0 0] 24)) := (Below.refl _ w).alloc (Nat.le_refl _) _
  have r1 := Dg.row_alloc hb (.cells #[.slice none 0 0] 24)
  have rn := Dg.row_new w #[.slice none 0 0] 24
  have M : Hid _ := planOf_any _ x t a ac (TAt.later ht hb1) hF (hT.later hb1)
  have g0 := (Dg.cell_row r1 0).trans rfl
  have g1 := (Dg.cell_row r1 1).trans rfl
  go_enter Tryz.func89, Tryz.ntmps89
  go_wp2_with fail
  generalize w.alloc (.cells #[.slice none 0 0] 24) = w1 at *
  have hz : w.heap.size < w1.heap.size := (Array.getElem?_eq_some_iff.1 rn).1
  refine Calls.mono M.out ?_
  rintro e w2 ⟨hb2, he⟩
  clear M g0 g1
  cases hP : planT x t with
  | none =>
    rw [hP] at he
    obtain rfl : e = .panicked (rej 11) := he
    go_wp2_with fail
    exact ⟨rfl, PlanC.bad hP (hb1.trans (hb2.mono hb1.size))⟩
  | some its =>
    rw [hP] at he
    obtain ⟨v, rfl, hs⟩ := he
    obtain ⟨ia, icap, rfl, _⟩ := id hs.rd
    have rn2 := (hb2.block _ hz).trans rn
    have g0 := (Dg.cell_row rn2 0).trans rfl
    have f0 := Dg.froz_row rn2 0
    have HS : Hid _ := hs
    have HP : Hid _ := hP
    clear hs hP
    go_wp2_with fail
    have hb3 : Below w.heap.size w (w2.setCell ⟨w.heap.size, 0, none⟩ (.slice ia its.length icap)) := (hb1.trans (hb2.mono hb1.size)).setCell (Nat.le_refl _) _
    have rn3 := Dg.row_set rn2 0 (.slice ia its.length icap)
    refine bodyPost_ret_by (results_cell_row rfl _ _ w.heap.size 24 _ (0, 0) _ rfl rn3 Tryz.underlying24 rfl (by kernel_rfl)) rfl (PlanC.ok HP.out hb3 ?_)
    exact Stands.widen (Stands.next HS.out (by simp) (fun b h1 h2 => Below.heap_setCell _ _ _ _ (by show b ≠ w.heap.size; omega))) (Nat.le_of_lt hz)

/-- How Make ends. -/
def MakeC (x : By) (t : Tr) (w : World) (e : Ending) (w' : World) : Prop := Below w.heap.size w w' ∧ match planT x t with
  | none => e = .returned (.tuple #[.agg #[.slice none 0 0], .int .i64 11])
  | some its => ∃ v, e = .returned (.tuple #[.agg #[v], .int .i64 0]) ∧ Stands w.heap.size w' v its

theorem MakeC.bad {x : By} {t : Tr} {w w' : World} (hP : planT x t = none) (hb : Below w.heap.size w w') : MakeC x t w (.returned (.tuple #[.agg #[.slice none 0 0], .int .i64 11])) w' := by
  unfold MakeC
  rw [hP]
  exact ⟨hb, rfl⟩

theorem MakeC.ok {x : By} {t : Tr} {w w' : World} {its : List It} {v : Value} (hP : planT x t = some its) (hb : Below w.heap.size w w') (hs : Stands w.heap.size w' v its) : MakeC x t w (.returned (.tuple #[.agg #[v], .int .i64 0])) w' := by
  unfold MakeC
  rw [hP]
  exact ⟨hb, v, rfl, hs⟩

set_option maxRecDepth 1000000 in
/-- A panic: it is told. -/
theorem pan30 {a : Act} {wc : World} {R : Ending → World → Prop} {c2 c3 : Value} {b2 b3 : Nat} {c : Int} (r2 : wc.heap[b2]? = some (.cells #[c2] 24 (0, 0))) (r3 : wc.heap[b3]? = some (.cells #[c3] 28 (0, 0))) (h23 : b2 ≠ b3) (h2 : a.tmps.getD 2 undef = .pointer (some ⟨b2, 0, none⟩)) (h3 : a.tmps.getD 3 undef = .pointer (some ⟨b3, 0, none⟩))
    (hd : a.defers = [{ target := Target.fn (Fn.func 92) #[.pointer (some ⟨b2, 0, none⟩), .pointer (some ⟨b3, 0, none⟩)], args := #[] }])
    (hR : R (.returned (.tuple #[.agg #[.slice none 0 0], .int .i64 c])) (((wc.alloc (.cells #[.slice none 0 0] 24)).setCell ⟨b2, 0, none⟩ (.slice none 0 0)).setCell ⟨b3, 0, none⟩ (.int .i64 c)).drew) : bodyPostD Tryz.prog Tryz.f88 R (Exit.panic (rej c)) a wc := by
  have s2 := Dg.row_other (Dg.row_set (Dg.row_alloc r2 (.cells #[.slice none 0 0] 24)) 0 (.slice none 0 0)) (i := 0) (c := b3) (.int .i64 c) h23
  have s3 := Dg.row_set (Dg.row_other (Dg.row_alloc r3 (.cells #[.slice none 0 0] 24)) (i := 0) (c := b2) (.slice none 0 0) (Ne.symm h23)) 0 (.int .i64 c)
  have h2' : a.tmps[2]?.getD undef = .pointer (some ⟨b2, 0, none⟩) := by simpa using h2
  have h3' : a.tmps[3]?.getD undef = .pointer (some ⟨b3, 0, none⟩) := by simpa using h3
  simp only [bodyPostD, hd]
  refine leaves_cons (f := 92) (args := #[.pointer (some ⟨b2, 0, none⟩), .pointer (some ⟨b3, 0, none⟩)]) (by simp) (by simp [go_sem]) ?_
  refine (catch51 b2 b3 c2 c3 c [] wc r2 r3 h23).mono ?_
  rintro e u' w'' ⟨rfl, rfl, rfl⟩
  generalize (((wc.alloc (.cells #[.slice none 0 0] 24)).setCell ⟨b2, 0, none⟩ (.slice none 0 0)).setCell ⟨b3, 0, none⟩ (.int .i64 c)) = wz at *
  have q2 : wz.drew.cell? ⟨b2, 0, none⟩ = some (.slice none 0 0) := (Dg.cell_row s2 0).trans rfl
  have q3 : wz.drew.cell? ⟨b3, 0, none⟩ = some (.int .i64 c) := (Dg.cell_row s3 0).trans rfl
  simp [Leaves, settle, results, Tryz.results88, go_sem, q2, q3, h2', h3']
  exact hR

end Go.Proofs.YtlegmmhacnbnlaaGreatDoor

/- The program's Make and Check. -/
namespace Go.Proofs.YtlegmmhacnbnlaaGreatDoor

open Go.RowKit Go.Shelf Go.Proofs.YtlegmmhacnbnlaaGreatDoor.Sx

set_option maxRecDepth 1000000 in
/-- A return behind the deferred call. -/
theorem ret30 {a : Act} {wc : World} {R : Ending → World → Prop} {c2 c3 : Value} {b2 b3 : Nat} (r2 : wc.heap[b2]? = some (.cells #[c2] 24 (0, 0))) (r3 : wc.heap[b3]? = some (.cells #[c3] 28 (0, 0))) (h2 : a.tmps.getD 2 undef = .pointer (some ⟨b2, 0, none⟩)) (h3 : a.tmps.getD 3 undef = .pointer (some ⟨b3, 0, none⟩))
    (hd : a.defers = [{ target := Target.fn (Fn.func 92) #[.pointer (some ⟨b2, 0, none⟩), .pointer (some ⟨b3, 0, none⟩)], args := #[] }])
    (hR : R (.returned (.tuple #[.agg #[c2], c3])) wc) : bodyPostD Tryz.prog Tryz.f88 R Exit.ret a wc := by
  have q2 := (Dg.cell_row r2 0).trans rfl
  have q3 := (Dg.cell_row r3 0).trans rfl
  have h2' : a.tmps[2]?.getD undef = .pointer (some ⟨b2, 0, none⟩) := by simpa using h2
  have h3' : a.tmps[3]?.getD undef = .pointer (some ⟨b3, 0, none⟩) := by simpa using h3
  simp only [bodyPostD, hd]
  refine leaves_cons (f := 92) (args := #[.pointer (some ⟨b2, 0, none⟩), .pointer (some ⟨b3, 0, none⟩)]) (by simp) (by simp [go_sem]) ?_
  refine (idle51 b2 b3 wc).mono ?_
  rintro e u' w'' ⟨rfl, rfl, rfl⟩
  simp [Leaves, settle, results, Tryz.results88, go_sem, q2, q3, h2', h3']
  exact hR

set_option maxRecDepth 1000000 in
set_option maxHeartbeats 2000000 in
theorem answer30 (w : World) (x : By) (t : Tr) (a : Option Addr) (ac b : Nat) (hb : w.heap[b]? = some (.cells #[.string ⟨x.toArray⟩, .slice a t.len ac] 94 (0, 0))) (ht : TAt (· < w.heap.size) w true t a 0 t.len) (hF : Fair t) (hT : Dg.Tab w) :
    Calls Tryz.prog 88 #[.func (Fn.func 89) #[] #[.pointer (some ⟨b, 0, none⟩)]] w fun e w' => MakeC x t w e w' := by
  have hb1 : Below w.heap.size w ((w.alloc (.cells #[.slice none 0 0] 24)).alloc (.cells #[.int .i64 0] 28)) := ((Below.refl _ w).alloc (Nat.le_refl _) _).alloc (by simp) _
  have r2 := Dg.row_alloc (Dg.row_new w #[.slice none 0 0] 24) (.cells #[.int .i64 0] 28)
  have r3 := Dg.row_new (w.alloc (.cells #[.slice none 0 0] 24)) #[.int .i64 0] 28
  have rb := Dg.row_alloc (Dg.row_alloc hb (.cells #[.slice none 0 0] 24)) (.cells #[.int .i64 0] 28)
  rw [World.size_alloc] at r3
  have M : Hid _ := make1_any _ x t a ac b rb (TAt.later ht hb1) hF (hT.later hb1)
  go_enter_defers Tryz.func88, Tryz.ntmps88
  go_wp2_with fail
  generalize (w.alloc (.cells #[.slice none 0 0] 24)).alloc (.cells #[.int .i64 0] 28) = w1 at *
  have hz : w.heap.size + 1 < w1.heap.size := (Array.getElem?_eq_some_iff.1 r3).1
  refine Calls.mono M.out ?_
  rintro e w2 ⟨hb2, he⟩
  clear M
  have hbw := hb1.trans (hb2.mono hb1.size)
  have s2 := (hb2.block _ (by omega)).trans r2
  have s3 := (hb2.block _ hz).trans r3
  cases hP : planT x t with
  | none =>
    rw [hP] at he
    obtain rfl : e = .panicked (rej 11) := he
    refine pan30 s2 s3 (by omega) rfl rfl rfl (MakeC.bad hP ?_)
    exact (((hbw.alloc hbw.size _).setCell (Nat.le_refl _) _).setCell (by show _ ≤ w.heap.size + 1; omega) _).drew
  | some its =>
    rw [hP] at he
    obtain ⟨v, rfl, hs⟩ := he
    obtain ⟨ia, icap, rfl, _⟩ := id hs.rd
    have HS : Hid _ := hs
    have HP : Hid _ := hP
    have z2 := (Dg.cell_row s2 0).trans rfl
    have f2 := Dg.froz_row s2 0
    have s3' := Dg.row_other s3 (i := 0) (c := w.heap.size) (.slice ia its.length icap) (by omega)
    have z3 := (Dg.cell_row s3' 0).trans rfl
    have f3 := Dg.froz_row s3' 0
    have HBW : Hid _ := hbw
    have S2 : Hid _ := s2
    have S3 : Hid _ := s3'
    clear hs hP hbw s2 s3 s3'
    go_wp2_with fail
    have hb3 : Below w.heap.size w ((w2.setCell ⟨w.heap.size, 0, none⟩ (.slice ia its.length icap)).setCell ⟨w.heap.size + 1, 0, none⟩ (.int .i64 0)) := (HBW.out.setCell (Nat.le_refl _) _).setCell (by show _ ≤ w.heap.size + 1; omega) _
    refine ret30 (b2 := w.heap.size) (b3 := w.heap.size + 1) (Dg.row_other (Dg.row_set S2.out 0 (.slice ia its.length icap)) (i := 0) (c := w.heap.size + 1) (.int .i64 0) (by omega)) (Dg.row_set S3.out 0 (.int .i64 0)) rfl rfl rfl (MakeC.ok HP.out hb3 ?_)
    exact Stands.widen (Stands.next HS.out (by simp) (fun b h1 h2 => (Below.heap_setCell _ _ _ _ (by show b ≠ w.heap.size + 1; omega)).trans (Below.heap_setCell _ _ _ _ (by show b ≠ w.heap.size; omega)))) (show w.heap.size ≤ w1.heap.size by omega)

set_option maxRecDepth 1000000 in
set_option maxHeartbeats 2000000 in
/-- Make tells a saga's plan. -/
theorem Make_any (w : World) (x : By) (t : Tr) (a : Option Addr) (ac : Nat) (ht : TAt (· < w.heap.size) w true t a 0 t.len) (hF : Fair t) (hT : Dg.Tab w) :
    Calls Tryz.prog 81 #[.agg #[.string ⟨x.toArray⟩, .slice a t.len ac]] w fun e w' => MakeC x t w e w' := by
  have hb1 : Below w.heap.size w ((w.alloc (.cells #[.string ⟨x.toArray⟩, .slice a t.len ac] 94)).alloc (.cells #[.slice none 0 0] 24)) := ((Below.refl _ w).alloc (Nat.le_refl _) _).alloc (by simp) _
  have r1 := Dg.row_alloc (Dg.row_new w #[.string ⟨x.toArray⟩, .slice a t.len ac] 94) (.cells #[.slice none 0 0] 24)
  have r2 := Dg.row_new (w.alloc (.cells #[.string ⟨x.toArray⟩, .slice a t.len ac] 94)) #[.slice none 0 0] 24
  rw [World.size_alloc] at r2
  have M : Hid _ := answer30 _ x t a ac w.heap.size r1 (TAt.later ht hb1) hF (hT.later hb1)
  go_enter Tryz.func81, Tryz.ntmps81
  go_wp2_with fail
  generalize (w.alloc (.cells #[.string ⟨x.toArray⟩, .slice a t.len ac] 94)).alloc (.cells #[.slice none 0 0] 24) = w1 at *
  have hz : w.heap.size + 1 < w1.heap.size := (Array.getElem?_eq_some_iff.1 r2).1
  refine Calls.mono M.out ?_
  rintro e w2 ⟨hb2, he⟩
  clear M
  have hbw := hb1.trans (hb2.mono hb1.size)
  have s2 := (hb2.block _ hz).trans r2
  have z2 := (Dg.cell_row s2 0).trans rfl
  have f2 := Dg.froz_row s2 0
  have S2 : Hid _ := s2
  have HBW : Hid _ := hbw
  clear s2 hbw
  cases hP : planT x t with
  | none =>
    rw [hP] at he
    have HP : Hid _ := hP
    obtain rfl : e = .returned (.tuple #[.agg #[.slice none 0 0], .int .i64 11]) := he
    clear hP
    go_wp2_with fail
    have q2 := (Dg.cell_row (Dg.row_set S2.out 0 (.slice none 0 0)) 0).trans rfl
    have hbE : Below w.heap.size w (w2.setCell ⟨w.heap.size + 1, 0, none⟩ (.slice none 0 0)) := HBW.out.setCell (by show _ ≤ w.heap.size + 1; omega) _
    exact bodyPost_ret_by (by simp [results, Tryz.results81, go_sem, q2]) rfl (MakeC.bad HP.out hbE)
  | some its =>
    rw [hP] at he
    obtain ⟨v, rfl, hs⟩ := he
    obtain ⟨ia, icap, rfl, _⟩ := id hs.rd
    have HS : Hid _ := hs
    have HP : Hid _ := hP
    clear hs hP
    go_wp2_with fail
    have q2 := (Dg.cell_row (Dg.row_set S2.out 0 (.slice ia its.length icap)) 0).trans rfl
    have hbE : Below w.heap.size w (w2.setCell ⟨w.heap.size + 1, 0, none⟩ (.slice ia its.length icap)) := HBW.out.setCell (by show _ ≤ w.heap.size + 1; omega) _
    refine bodyPost_ret_by (by simp [results, Tryz.results81, go_sem, q2]; rfl) rfl (MakeC.ok HP.out hbE ?_)
    exact Stands.widen (Stands.next HS.out (by simp) (fun b h1 h2 => Below.heap_setCell _ _ _ _ (by show b ≠ w.heap.size + 1; omega))) hb1.size

end Go.Proofs.YtlegmmhacnbnlaaGreatDoor

/- Plain facts: the bodies that items tell of, and how many parts they have. -/
namespace Go.Proofs.YtlegmmhacnbnlaaGreatDoor

open Go.Proofs.YtlegmmhacnbnlaaGreatDoor.Sx

/-- Nodes side by side. -/
def nodesL : List (Lab × Tr) → Tr
  | [] => .e
  | (l, t) :: r => .n l t (nodesL r)

/-- Bodies side by side. -/
def bodiesL : List Tr → Tr
  | [] => .e
  | x :: r => .b x (bodiesL r)

/-- The name of an item. -/
def nameI (its : List It) (on : Int) : By := match its[on.toNat]? with
  | some y => y.name
  | none => []

/-- What an item says of itself as a node. -/
def labI (its : List It) (x : It) : Lab := ⟨x.name, x.undo, x.after.map (nameI its), x.sub, x.vital⟩

/-- How many bodies an item has. -/
def altsI (its : List It) (i : Nat) : Nat := match its[i]? with
  | some x => x.alts.toNat
  | none => 0

/-- The nodes of one body among the first k items. -/
def kidsT (its : List It) (rec : Nat → Tr) (i alt : Nat) : Nat → List (Lab × Tr)
  | 0 => []
  | k + 1 => kidsT its rec i alt k ++ match its[k]? with
    | some x => if x.inn = (i : Int) ∧ x.alt = (alt : Int) then [(labI its x, rec k)] else []
    | none => []

/-- An item's bodies (fuel). -/
def bodT (its : List It) : Nat → Nat → Tr
  | 0, _ => .e
  | f + 1, i => bodiesL ((List.range (altsI its i)).map fun alt => nodesL (kidsT its (bodT its f) i alt its.length))

/-- Each item stands in one ahead of it. -/
def Hang (its : List It) : Prop := ∀ (i : Nat) (x : It), its[i]? = some x → x.inn < (i : Int)

theorem kidsT_congr {its : List It} {r s : Nat → Tr} {i alt : Nat} (h : ∀ k x, its[k]? = some x → x.inn = (i : Int) → r k = s k) : ∀ k, kidsT its r i alt k = kidsT its s i alt k
  | 0 => rfl
  | k + 1 => by
    rw [kidsT, kidsT, kidsT_congr h k]
    congr 1
    cases hx : its[k]? with
    | none => rfl
    | some x =>
      simp only
      split
      · rename_i hc
        rw [h k x hx hc.1]
      · rfl

/-- More fuel tells no more. -/
theorem bodT_fuel {its : List It} (hH : Hang its) : ∀ (f g i : Nat), its.length < i + f → its.length < i + g → bodT its f i = bodT its g i
  | 0, 0, _, _, _ => rfl
  | 0, g + 1, i, h1, _ => by
    have : altsI its i = 0 := by unfold altsI; rw [List.getElem?_eq_none (by omega)]
    simp [bodT, this, bodiesL]
  | f + 1, 0, i, _, h2 => by
    have : altsI its i = 0 := by unfold altsI; rw [List.getElem?_eq_none (by omega)]
    simp [bodT, this, bodiesL]
  | f + 1, g + 1, i, h1, h2 => by
    unfold bodT
    congr 1
    apply List.map_congr_left
    intro alt _
    congr 1
    apply kidsT_congr
    intro k x hx hi
    have := hH k x hx
    exact bodT_fuel hH f g k (by omega) (by omega)

/-- A sum. -/
def sm (v : Nat → Nat) : Nat → Nat
  | 0 => 0
  | k + 1 => sm v k + v k

theorem sm_le {u v : Nat → Nat} (h : ∀ j, u j ≤ v j) : ∀ n, sm u n ≤ sm v n
  | 0 => Nat.le_refl _
  | n + 1 => by have := sm_le h n; have := h n; simp only [sm]; omega

theorem sm_add (u v : Nat → Nat) : ∀ n, sm (fun j => u j + v j) n = sm u n + sm v n
  | 0 => rfl
  | n + 1 => by simp only [sm, sm_add u v n]; omega

theorem sm_zero : ∀ n, sm (fun _ => 0) n = 0
  | 0 => rfl
  | n + 1 => by simp only [sm, sm_zero n]

theorem sm_swap (f : Nat → Nat → Nat) (m : Nat) : ∀ n, sm (fun a => sm (fun j => f a j) m) n = sm (fun j => sm (fun a => f a j) n) m
  | 0 => by simp only [sm]; rw [sm_zero]
  | n + 1 => by simp only [sm, sm_swap f m n]; rw [← sm_add]

theorem sm_one (c : Nat → Prop) [DecidablePred c] (v : Nat) (h : ∀ a b, c a → c b → a = b) : ∀ n, sm (fun a => if c a then v else 0) n ≤ v
  | 0 => Nat.zero_le _
  | n + 1 => by
    simp only [sm]
    by_cases hc : c n
    · have : ∀ k, k ≤ n → sm (fun a => if c a then v else 0) k = 0 := by
        intro k
        induction k with
        | zero => intro _; rfl
        | succ k ih =>
          intro hk
          simp only [sm, ih (by omega)]
          rw [if_neg (fun hk' => by have := h _ _ hk' hc; omega)]
      rw [this n (Nat.le_refl _), if_pos hc]
      omega
    · rw [if_neg hc]
      have := sm_one c v h n
      omega

theorem sz_nodesL : ∀ (l : List (Lab × Tr)), szA (nodesL l) = (l.map fun p => 1 + szA p.2).sum
  | [] => rfl
  | (l, t) :: r => by simp [nodesL, szA, sz_nodesL r]

theorem sz_bodies (f : Nat → Tr) : ∀ (l : List Nat), szA (bodiesL (l.map f)) = (l.map fun a => 1 + szA (f a)).sum
  | [] => rfl
  | x :: r => by simp [bodiesL, szA, sz_bodies f r]

theorem range_sum (v : Nat → Nat) : ∀ n, ((List.range n).map v).sum = sm v n
  | 0 => rfl
  | n + 1 => by rw [List.range_succ, List.map_append, List.sum_append, range_sum v n]; simp [sm]

/-- Does the item k stand in that body? -/
def stands (its : List It) (i alt k : Nat) : Prop := ∃ x, its[k]? = some x ∧ x.inn = (i : Int) ∧ x.alt = (alt : Int)

/-- Does the item k stand in that item? -/
def standsIn (its : List It) (i k : Nat) : Prop := ∃ x, its[k]? = some x ∧ x.inn = (i : Int)

open Classical in
theorem sz_kids (its : List It) (rec : Nat → Tr) (i alt : Nat) : ∀ k, szA (nodesL (kidsT its rec i alt k)) = sm (fun j => if stands its i alt j then 1 + szA (rec j) else 0) k
  | 0 => rfl
  | k + 1 => by
    rw [sz_nodesL, kidsT, List.map_append, List.sum_append, ← sz_nodesL, sz_kids its rec i alt k]
    simp only [sm]
    congr 1
    cases hx : its[k]? with
    | none => rw [if_neg (by rintro ⟨x, h1, _⟩; rw [hx] at h1; cases h1)]; rfl
    | some x =>
      simp only
      by_cases hc : x.inn = (i : Int) ∧ x.alt = (alt : Int)
      · rw [if_pos hc, if_pos ⟨x, hx, hc⟩]
        simp
      · rw [if_neg hc, if_neg (by rintro ⟨y, h1, h2⟩; rw [hx] at h1; cases h1; exact hc h2)]
        rfl

open Classical in
theorem sz_bod (its : List It) (f i : Nat) : szA (bodT its (f + 1) i) ≤ altsI its i + sm (fun j => if standsIn its i j then 1 + szA (bodT its f j) else 0) its.length := by
  rw [bodT, sz_bodies, range_sum]
  have h1 : ∀ a, 1 + szA (nodesL (kidsT its (bodT its f) i a its.length)) = 1 + sm (fun j => if stands its i a j then 1 + szA (bodT its f j) else 0) its.length := fun a => by rw [sz_kids]
  have h2 : sm (fun a => 1 + szA (nodesL (kidsT its (bodT its f) i a its.length))) (altsI its i) = sm (fun a => 1) (altsI its i) + sm (fun a => sm (fun j => if stands its i a j then 1 + szA (bodT its f j) else 0) its.length) (altsI its i) := by
    rw [← sm_add]
    congr 1
    funext a
    exact h1 a
  rw [h2, sm_swap]
  have h3 : ∀ n, sm (fun _ => 1) n = n := by
    intro n
    induction n with
    | zero => rfl
    | succ n ih => simp only [sm, ih]
  rw [h3]
  refine Nat.add_le_add_left (sm_le (fun j => ?_) _) _
  by_cases hs : standsIn its i j
  · rw [if_pos hs]
    refine sm_one (fun a => stands its i a j) _ ?_ _
    rintro a b ⟨x, h1, _, h2⟩ ⟨y, h3, _, h4⟩
    rw [h1] at h3
    cases h3
    rw [h2] at h4
    omega
  · rw [if_neg hs]
    have : (fun a => if stands its i a j then 1 + szA (bodT its f j) else 0) = fun _ => 0 := by
      funext a
      rw [if_neg]
      rintro ⟨x, h1, h2, _⟩
      exact hs ⟨x, h1, h2⟩
    rw [this, sm_zero]
    exact Nat.le_refl _

theorem sm_congr {u v : Nat → Nat} : ∀ n, (∀ j, j < n → u j = v j) → sm u n = sm v n
  | 0, _ => rfl
  | n + 1, h => by simp only [sm]; rw [sm_congr n (fun j hj => h j (by omega)), h n (by omega)]

open Classical in
/-- All items from the k-th on that stand in one ahead of it, with all that stands in them. -/
noncomputable def tot (its : List It) (F k : Nat) : Nat := sm (fun j => if k ≤ j ∧ ∃ x, its[j]? = some x ∧ x.inn < (k : Int) then 1 + szA (bodT its F j) else 0) its.length

theorem sm_pick (u : Nat → Nat) (k : Nat) : ∀ n, k < n → sm u n = u k + sm (fun j => if j = k then 0 else u j) n
  | 0, h => by omega
  | n + 1, h => by
    simp only [sm]
    by_cases hk : k = n
    · subst hk
      have : sm (fun j => if j = k then 0 else u j) k = sm u k := sm_congr k (fun j hj => by rw [if_neg (by omega)])
      rw [this, if_pos rfl]
      omega
    · rw [sm_pick u k n (by omega), if_neg (fun e => hk e.symm)]
      omega

open Classical in
theorem tot_step {its : List It} (hH : Hang its) (ha : ∀ i, altsI its i ≤ 4) (k : Nat) (hk : k < its.length) : tot its (its.length + 1) k ≤ 5 + tot its (its.length + 1) (k + 1) := by
  obtain ⟨x, hx⟩ : ∃ x, its[k]? = some x := ⟨_, List.getElem?_eq_getElem hk⟩
  have hxk := hH k x hx
  unfold tot
  rw [sm_pick _ k _ hk, if_pos ⟨Nat.le_refl _, x, hx, hxk⟩]
  have h1 := sz_bod its its.length k
  have hfu : (fun j => if standsIn its k j then 1 + szA (bodT its its.length j) else 0) = fun j => if standsIn its k j then 1 + szA (bodT its (its.length + 1) j) else 0 := by
    funext j
    by_cases hs : standsIn its k j
    · rw [if_pos hs, if_pos hs]
      obtain ⟨y, hy, hi⟩ := hs
      have := hH j y hy
      rw [bodT_fuel hH its.length (its.length + 1) j (by omega) (by omega)]
    · rw [if_neg hs, if_neg hs]
  rw [hfu] at h1
  have h2 := ha k
  have h3 : sm (fun j => if j = k then 0 else if k ≤ j ∧ ∃ x, its[j]? = some x ∧ x.inn < (k : Int) then 1 + szA (bodT its (its.length + 1) j) else 0) its.length + sm (fun j => if standsIn its k j then 1 + szA (bodT its (its.length + 1) j) else 0) its.length ≤ sm (fun j => if k + 1 ≤ j ∧ ∃ x, its[j]? = some x ∧ x.inn < ((k + 1 : Nat) : Int) then 1 + szA (bodT its (its.length + 1) j) else 0) its.length := by
    rw [← sm_add]
    refine sm_le (fun j => ?_) _
    by_cases hj : j = k
    · subst hj
      rw [if_pos rfl, if_neg (by rintro ⟨y, h5, h6⟩; have := hH j y h5; omega)]
      exact Nat.zero_le _
    · rw [if_neg hj]
      by_cases hs : standsIn its k j
      · obtain ⟨y, hy, hi⟩ := hs
        have h5 := hH j y hy
        rw [if_neg (by rintro ⟨_, z, h7, h8⟩; rw [hy] at h7; cases h7; omega), if_pos ⟨y, hy, hi⟩, if_pos ⟨by omega, y, hy, by omega⟩]
        omega
      · rw [if_neg hs]
        by_cases hc : k ≤ j ∧ ∃ x, its[j]? = some x ∧ x.inn < (k : Int)
        · obtain ⟨h6, y, h7, h8⟩ := hc
          rw [if_pos ⟨h6, y, h7, h8⟩, if_pos ⟨by omega, y, h7, by omega⟩]
          exact Nat.le_refl _
        · rw [if_neg hc]
          exact Nat.zero_le _
  omega

theorem tot_le {its : List It} (hH : Hang its) (ha : ∀ i, altsI its i ≤ 4) : ∀ d k, k + d = its.length → tot its (its.length + 1) k ≤ 5 * d
  | 0, k, h => by
    have : tot its (its.length + 1) k = 0 := by
      unfold tot
      refine Eq.trans (sm_congr (v := fun _ => 0) _ (fun j hj => ?_)) (sm_zero _)
      rw [if_neg]
      rintro ⟨h1, _⟩
      omega
    omega
  | d + 1, k, h => by
    have h1 := tot_step hH ha k (by omega)
    have h2 := tot_le hH ha d (k + 1) (by omega)
    omega

/-- All that stands in an item is no more than five parts an item. -/
theorem bod_size {its : List It} (hH : Hang its) (ha : ∀ i, altsI its i ≤ 4) (i : Nat) (hi : i < its.length) : szA (bodT its (its.length + 1) i) ≤ 5 * its.length + 5 := by
  have h1 := tot_le hH ha (its.length - i) i (by omega)
  obtain ⟨x, hx⟩ : ∃ x, its[i]? = some x := ⟨_, List.getElem?_eq_getElem hi⟩
  have hxi := hH i x hx
  have h2 : 1 + szA (bodT its (its.length + 1) i) ≤ tot its (its.length + 1) i := by
    unfold tot
    rw [sm_pick _ i _ hi, if_pos ⟨Nat.le_refl _, x, hx, hxi⟩]
    omega
  omega

end Go.Proofs.YtlegmmhacnbnlaaGreatDoor

