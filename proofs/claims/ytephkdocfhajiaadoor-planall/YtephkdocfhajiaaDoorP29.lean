/- Texts of the seat, packed: Ya Yb. -/
import Derived.Test.YtephkdocfhajiaaDoorP28
/- A saga's plan, of the saga alone. -/
namespace Go.Proofs.YtephkdocfhajiaaDoor
open Go.RowKit Go.Shelf Go.Proofs.YtephkdocfhajiaaDoor.Sx

/-- A node without the places where it lies. -/
def Pd.bare (x : Pd) : Pd := ⟨x.num, x.lab, x.alts, none, 0, 0, none, x.am, 0, x.inn, x.alt⟩

/-- The nodes of bodies by their numbers. -/
def xsT : Tr → Nat → Nat → Nat → List Pd
  | .e, _, _, _ => []
  | .b x r, inn, alt, last => xsT x inn alt last ++ xsT r inn (alt + 1) (last + cntA x)
  | .n l t r, inn, alt, last => ⟨last + 1, l, t, none, 0, 0, none, t.len, 0, inn, alt⟩ :: (xsT t (last + 1) 0 (last + 1) ++ xsT r inn alt (last + 1 + cntA t))

theorem XAt.bare {P : Nat → Prop} {w : World} (t : Tr) : ∀ (k : Bool) (a : Option Addr) (i n inn alt last : Nat) (xs : List Pd), XAt P w k t a i n inn alt last xs → xs.map Pd.bare = xsT t inn alt last := by
  induction t with
  | e => rintro k a i n inn alt last xs ⟨_, rfl⟩; rfl
  | b x r ih1 ih2 =>
    rintro k a i n inn alt last xs ⟨h0, h1, ys, zs, rfl, ⟨b, off, v, m, c, ha, hp, hc, hx⟩, hr⟩
    rw [List.map_append, ih1 _ _ _ _ _ _ _ _ hx, ih2 _ _ _ _ _ _ _ _ hr]
    rfl
  | n l t r ih1 ih2 =>
    rintro k a i n inn alt last xs ⟨h0, h1, sv, sm, sc, av, am, ac, ys, zs, rfl, _, _, ht, hy, hz⟩
    rw [List.map_cons, List.map_append, ih1 _ _ _ _ _ _ _ _ hy, ih2 _ _ _ _ _ _ _ _ hz]
    have : am = t.len := by have := ht.len; omega
    subst this
    rfl

theorem numFold_bare : ∀ (xs : List Pd) (f : By → Option Nat), (xs.map Pd.bare).foldl numPut f = xs.foldl numPut f
  | [], _ => rfl
  | x :: xs, f => by rw [List.map_cons, List.foldl_cons, List.foldl_cons, numFold_bare xs]; rfl

theorem numF_bare (xs : List Pd) : numF (xs.map Pd.bare) = numF xs := numFold_bare xs _

theorem goodN_bare (xs : List Pd) : goodN (xs.map Pd.bare) = goodN xs := by
  unfold goodN
  rw [List.length_map]
  congr 1
  funext j
  unfold goodAt
  rw [List.getElem?_map, ← List.map_take, numF_bare]
  cases xs[j]? <;> rfl

theorem its1_bare (x : By) (am : Nat) (xs : List Pd) (k : Nat) : its1 x am (xs.map Pd.bare) k = its1 x am xs k := by
  unfold its1
  rw [← List.map_take, List.map_map]
  rfl

theorem leanK_bare (x : By) (am : Nat) (xs : List Pd) (k : Nat) : leanK x am (xs.map Pd.bare) k = leanK x am xs k := by
  unfold leanK
  rw [List.getElem?_map, List.length_map, its1_bare, numF_bare]
  cases xs[k]? <;> rfl

theorem its2_bare (x : By) (am : Nat) (xs : List Pd) : ∀ k, its2 x am (xs.map Pd.bare) k = its2 x am xs k
  | 0 => by rw [its2, its2, List.length_map, its1_bare]
  | k + 1 => by rw [its2, its2, its2_bare x am xs k, leanK_bare]

theorem planP_bare (x : By) (t : Tr) (am : Nat) (xs : List Pd) : planP x t am (xs.map Pd.bare) = planP x t am xs := by
  unfold planP
  rw [goodN_bare, List.length_map, its2_bare]
  simp only [leanK_bare]

/-- The plan of a saga, or none. -/
noncomputable def planT (x : By) (t : Tr) : Option (List It) := planP x t t.len (xsT t 0 0 0)

/-- Bodies that are no longer than the machine bears. -/
structure Fair (t : Tr) : Prop where
  bnd : Bnd t
  sz : szA t ≤ 1000000000
  cn : cntA t ≤ 1000000000
  lab : ∀ y ∈ xsT t 0 0 0, y.lab.name.length ≤ 1000000 ∧ y.lab.after.length ≤ 100000 ∧ ∀ z ∈ y.lab.after, z.length ≤ 1000000

theorem planT_fit {x : By} {t : Tr} {its : List It} (h : planT x t = some its) : fitS x t = true := by
  unfold planT planP at h
  split at h
  · rename_i hc
    exact hc.1
  · cases h

/-- How planOf ends. -/
def PlanC (x : By) (t : Tr) (w : World) (e : Ending) (w' : World) : Prop := Below w.heap.size w w' ∧ match planT x t with
  | none => e = .panicked (rej 11)
  | some its => ∃ v, e = .returned (.agg #[v]) ∧ Stands w.heap.size w' v its

theorem Stands.widen {base base' : Nat} {w : World} {v : Value} {its : List It} (h : Stands base w v its) (hb : base' ≤ base) : Stands base' w v its := fun A hA => h A fun b h1 h2 => hA b (by omega) h2

theorem PlanC.bad {x : By} {t : Tr} {w w' : World} (hP : planT x t = none) (hb : Below w.heap.size w w') : PlanC x t w (.panicked (rej 11)) w' := by
  unfold PlanC
  rw [hP]
  exact ⟨hb, rfl⟩

theorem PlanC.ok {x : By} {t : Tr} {w w' : World} {its : List It} {v : Value} (hP : planT x t = some its) (hb : Below w.heap.size w w') (hs : Stands w.heap.size w' v its) : PlanC x t w (.returned (.agg #[v])) w' := by
  unfold PlanC
  rw [hP]
  exact ⟨hb, v, rfl, hs⟩

theorem planOf_any (w : World) (x : By) (t : Tr) (a : Option Addr) (ac : Nat) (ht : TAt (· < w.heap.size) w true t a 0 t.len) (hF : Fair t) (hT : Dg.Tab w) :
    Calls Tryd.prog 32 #[.agg #[.string ⟨x.toArray⟩, .slice a t.len ac]] w fun e w' => PlanC x t w e w' := by
  obtain ⟨xs, hX⟩ := TAt.xat t true a 0 t.len 0 0 0 ht
  have hB := XAt.bare _ _ _ _ _ _ _ _ _ hX
  have hmem : ∀ y ∈ xs, y.bare ∈ xsT t 0 0 0 := fun y hy => by rw [← hB]; exact List.mem_map_of_mem hy
  have hP : planP x t t.len xs = planT x t := by rw [planT, ← hB, planP_bare]
  refine callsIn_wide.1 (planOf_in w x t a t.len ac ht hF.bnd hF.sz hF.cn xs hX (fun y hy => (hF.lab _ (hmem y hy)).1) _ hT (fun y hy => (hF.lab _ (hmem y hy)).2) ?_ ?_)
  · intro w' hb h
    rw [hP] at h
    unfold PlanC
    rw [h]
    exact ⟨hb, rfl⟩
  · intro w' v its hb h hs
    rw [hP] at h
    unfold PlanC
    rw [h]
    exact ⟨hb, v, rfl, hs⟩

set_option maxRecDepth 1000000 in
/-- What answer's deferred call does with a panic. -/
theorem catch51 (b2 b3 : Nat) (c2 c3 : Value) (c : Int) (older : List PanicEntry) (w : World) (h2 : w.heap[b2]? = some (.cells #[c2] 27 (0, 0))) (h3 : w.heap[b3]? = some (.cells #[c3] 31 (0, 0))) (h23 : b2 ≠ b3) :
    CallsD Tryd.prog 51 #[.pointer (some ⟨b2, 0, none⟩), .pointer (some ⟨b3, 0, none⟩)] (.panicking ({ v := .iface 31 (.int .i64 c), recovered := false } :: older)) w fun e u' w' =>
      e = .returned (.tuple #[]) ∧ u' = .panicking ({ v := .iface 31 (.int .i64 c), recovered := true } :: older) ∧ w' = (((w.alloc (.cells #[.slice none 0 0] 27)).setCell ⟨b2, 0, none⟩ (.slice none 0 0)).setCell ⟨b3, 0, none⟩ (.int .i64 c)).drew := by
  have l2 := (Array.getElem?_eq_some_iff.1 h2).1
  have l3 := (Array.getElem?_eq_some_iff.1 h3).1
  have r2 := Dg.row_alloc h2 (.cells #[.slice none 0 0] 27)
  have r3 := Dg.row_alloc h3 (.cells #[.slice none 0 0] 27)
  have rn := Dg.row_new w #[.slice none 0 0] 27
  have g2 := (Dg.cell_row r2 0).trans rfl
  have f2 := Dg.froz_row r2 0
  have g3 := (Dg.cell_row r3 0).trans rfl
  have f3 := Dg.froz_row r3 0
  have gn := (Dg.cell_row rn 0).trans rfl
  refine callsD_of_wpS Tryd.func51 rfl fun c₀ cs hu => ?_
  apply wpS_seq
  apply wpS_region
  simp [wpOpsS, go_sem, recoverD, hu, Tryd.ntmps51, Exit.thenS]
  refine wpS_of_wp ?_
  simp only [Array.replicate_succ, Array.replicate_zero, List.push_toArray, List.append_toArray, List.nil_append, List.cons_append, List.setIfInBounds_toArray, List.set_cons_zero, List.set_cons_succ]
  have hta : ∀ (v : Value) (w : World), (Instr.typeAssert (.iface 31 v) 20 31 false).run Tryd.prog w = .ok v w := fun v w => by simp [Instr.typeAssert, run_underlying Tryd.underlying31, go_sem, Result.andThen]
  have n1 : b3 ≠ b2 := fun h => h23 h.symm
  have n2 : w.heap.size ≠ b2 := by omega
  have n3 : w.heap.size ≠ b3 := by omega
  go_wp2_with fail
  obtain ⟨w1, hw1⟩ : ∃ w1, w.alloc (.cells #[.slice none 0 0] 27) = w1 := ⟨_, rfl⟩
  rw [hw1] at r2 r3 rn g2 f2 g3 f3 gn ⊢
  have HW1 : Hid _ := hw1
  clear hw1
  have m3 : ∀ v, (w1.setCell ⟨b2, 0, none⟩ v).cell? ⟨b3, 0, none⟩ = some c3 := fun v => (Dg.cell_row (Dg.row_other r3 v n1) 0).trans rfl
  have k3 : ∀ v, (w1.setCell ⟨b2, 0, none⟩ v).frozen? ⟨b3, 0, none⟩ = false := fun v => Dg.froz_row (Dg.row_other r3 v n1) 0
  go_region
  all_goals
    show bodyPostS Tryd.prog Tryd.f51 _ _ _ Exit.normal _ _ _
    simp [bodyPostS, results, Tryd.results51]
    rw [← HW1.out]

set_option maxRecDepth 1000000 in
theorem idle51 (b2 b3 : Nat) (w : World) :
    CallsD Tryd.prog 51 #[.pointer (some ⟨b2, 0, none⟩), .pointer (some ⟨b3, 0, none⟩)] .returning w fun e u' w' => e = .returned (.tuple #[]) ∧ u' = .returning ∧ w' = w := by
  refine callsD_of_wpS Tryd.func51 rfl fun c₀ cs hu => ?_
  apply wpS_seq
  apply wpS_region
  simp [wpOpsS, go_sem, recoverD, hu, Tryd.ntmps51, Exit.thenS]
  refine wpS_of_wp ?_
  simp only [Array.replicate_succ, Array.replicate_zero, List.push_toArray, List.append_toArray, List.nil_append, List.cons_append, List.setIfInBounds_toArray, List.set_cons_zero, List.set_cons_succ]
  go_wp2_with fail
  cases c₀
  simp_all [bodyPostS, results, Tryd.results51]

/-- How the function that Make hands to answer ends. -/
theorem make1_any (w : World) (x : By) (t : Tr) (a : Option Addr) (ac b : Nat) (hb : w.heap[b]? = some (.cells #[.string ⟨x.toArray⟩, .slice a t.len ac] 24 (0, 0))) (ht : TAt (· < w.heap.size) w true t a 0 t.len) (hF : Fair t) (hT : Dg.Tab w) :
    Calls Tryd.prog 31 #[.pointer (some ⟨b, 0, none⟩)] w fun e w' => PlanC x t w e w' := by
  have hb1 : Below w.heap.size w (w.alloc (.cells #[.slice none 0 0] 27)) := (Below.refl _ w).alloc (Nat.le_refl _) _
  have r1 := Dg.row_alloc hb (.cells #[.slice none 0 0] 27)
  have rn := Dg.row_new w #[.slice none 0 0] 27
  have M : Hid _ := planOf_any _ x t a ac (TAt.later ht hb1) hF (hT.later hb1)
  have g0 := (Dg.cell_row r1 0).trans rfl
  have g1 := (Dg.cell_row r1 1).trans rfl
  go_enter Tryd.func31, Tryd.ntmps31
  go_wp2_with fail
  generalize w.alloc (.cells #[.slice none 0 0] 27) = w1 at *
  have hz : w.heap.size < w1.heap.size := (Array.getElem?_eq_some_iff.1 rn).1
  refine Calls.mono M.out ?_
  rintro e w2 ⟨hb2, he⟩
  clear M g0 g1
  cases hP : planT x t with
  | none =>
    rw [hP] at he
    obtain rfl : e = .panicked (rej 11) := he
    go_wp2_with fail
    exact ⟨rfl, PlanC.bad hP (hb1.trans (hb2.mono hb1.size))⟩
  | some its =>
    rw [hP] at he
    obtain ⟨v, rfl, hs⟩ := he
    obtain ⟨ia, icap, rfl, _⟩ := id hs.rd
    have rn2 := (hb2.block _ hz).trans rn
    have g0 := (Dg.cell_row rn2 0).trans rfl
    have f0 := Dg.froz_row rn2 0
    have HS : Hid _ := hs
    have HP : Hid _ := hP
    clear hs hP
    go_wp2_with fail
    have hb3 : Below w.heap.size w (w2.setCell ⟨w.heap.size, 0, none⟩ (.slice ia its.length icap)) := (hb1.trans (hb2.mono hb1.size)).setCell (Nat.le_refl _) _
    have rn3 := Dg.row_set rn2 0 (.slice ia its.length icap)
    refine bodyPost_ret_by (results_cell_row rfl _ _ w.heap.size 27 _ (0, 0) _ rfl rn3 Tryd.underlying27 rfl (by kernel_rfl)) rfl (PlanC.ok HP.out hb3 ?_)
    exact Stands.widen (Stands.next HS.out (by simp) (fun b h1 h2 => Below.heap_setCell _ _ _ _ (by show b ≠ w.heap.size; omega))) (Nat.le_of_lt hz)

/-- How Make ends. -/
def MakeC (x : By) (t : Tr) (w : World) (e : Ending) (w' : World) : Prop := Below w.heap.size w w' ∧ match planT x t with
  | none => e = .returned (.tuple #[.agg #[.slice none 0 0], .int .i64 11])
  | some its => ∃ v, e = .returned (.tuple #[.agg #[v], .int .i64 0]) ∧ Stands w.heap.size w' v its

theorem MakeC.bad {x : By} {t : Tr} {w w' : World} (hP : planT x t = none) (hb : Below w.heap.size w w') : MakeC x t w (.returned (.tuple #[.agg #[.slice none 0 0], .int .i64 11])) w' := by
  unfold MakeC
  rw [hP]
  exact ⟨hb, rfl⟩

theorem MakeC.ok {x : By} {t : Tr} {w w' : World} {its : List It} {v : Value} (hP : planT x t = some its) (hb : Below w.heap.size w w') (hs : Stands w.heap.size w' v its) : MakeC x t w (.returned (.tuple #[.agg #[v], .int .i64 0])) w' := by
  unfold MakeC
  rw [hP]
  exact ⟨hb, v, rfl, hs⟩

set_option maxRecDepth 1000000 in
/-- A panic: it is told. -/
theorem pan30 {a : Act} {wc : World} {R : Ending → World → Prop} {c2 c3 : Value} {b2 b3 : Nat} {c : Int} (r2 : wc.heap[b2]? = some (.cells #[c2] 27 (0, 0))) (r3 : wc.heap[b3]? = some (.cells #[c3] 31 (0, 0))) (h23 : b2 ≠ b3) (h2 : a.tmps.getD 2 undef = .pointer (some ⟨b2, 0, none⟩)) (h3 : a.tmps.getD 3 undef = .pointer (some ⟨b3, 0, none⟩))
    (hd : a.defers = [{ target := Target.fn (Fn.func 51) #[.pointer (some ⟨b2, 0, none⟩), .pointer (some ⟨b3, 0, none⟩)], args := #[] }])
    (hR : R (.returned (.tuple #[.agg #[.slice none 0 0], .int .i64 c])) (((wc.alloc (.cells #[.slice none 0 0] 27)).setCell ⟨b2, 0, none⟩ (.slice none 0 0)).setCell ⟨b3, 0, none⟩ (.int .i64 c)).drew) : bodyPostD Tryd.prog Tryd.f30 R (Exit.panic (rej c)) a wc := by
  have s2 := Dg.row_other (Dg.row_set (Dg.row_alloc r2 (.cells #[.slice none 0 0] 27)) 0 (.slice none 0 0)) (i := 0) (c := b3) (.int .i64 c) h23
  have s3 := Dg.row_set (Dg.row_other (Dg.row_alloc r3 (.cells #[.slice none 0 0] 27)) (i := 0) (c := b2) (.slice none 0 0) (Ne.symm h23)) 0 (.int .i64 c)
  have h2' : a.tmps[2]?.getD undef = .pointer (some ⟨b2, 0, none⟩) := by simpa using h2
  have h3' : a.tmps[3]?.getD undef = .pointer (some ⟨b3, 0, none⟩) := by simpa using h3
  simp only [bodyPostD, hd]
  refine leaves_cons (f := 51) (args := #[.pointer (some ⟨b2, 0, none⟩), .pointer (some ⟨b3, 0, none⟩)]) (by simp) (by simp [go_sem]) ?_
  refine (catch51 b2 b3 c2 c3 c [] wc r2 r3 h23).mono ?_
  rintro e u' w'' ⟨rfl, rfl, rfl⟩
  generalize (((wc.alloc (.cells #[.slice none 0 0] 27)).setCell ⟨b2, 0, none⟩ (.slice none 0 0)).setCell ⟨b3, 0, none⟩ (.int .i64 c)) = wz at *
  have q2 : wz.drew.cell? ⟨b2, 0, none⟩ = some (.slice none 0 0) := (Dg.cell_row s2 0).trans rfl
  have q3 : wz.drew.cell? ⟨b3, 0, none⟩ = some (.int .i64 c) := (Dg.cell_row s3 0).trans rfl
  simp [Leaves, settle, results, Tryd.results30, go_sem, q2, q3, h2', h3']
  exact hR
end Go.Proofs.YtephkdocfhajiaaDoor

/- The program's Make and Check. -/
namespace Go.Proofs.YtephkdocfhajiaaDoor
open Go.RowKit Go.Shelf Go.Proofs.YtephkdocfhajiaaDoor.Sx

set_option maxRecDepth 1000000 in
/-- A return behind the deferred call. -/
theorem ret30 {a : Act} {wc : World} {R : Ending → World → Prop} {c2 c3 : Value} {b2 b3 : Nat} (r2 : wc.heap[b2]? = some (.cells #[c2] 27 (0, 0))) (r3 : wc.heap[b3]? = some (.cells #[c3] 31 (0, 0))) (h2 : a.tmps.getD 2 undef = .pointer (some ⟨b2, 0, none⟩)) (h3 : a.tmps.getD 3 undef = .pointer (some ⟨b3, 0, none⟩))
    (hd : a.defers = [{ target := Target.fn (Fn.func 51) #[.pointer (some ⟨b2, 0, none⟩), .pointer (some ⟨b3, 0, none⟩)], args := #[] }])
    (hR : R (.returned (.tuple #[.agg #[c2], c3])) wc) : bodyPostD Tryd.prog Tryd.f30 R Exit.ret a wc := by
  have q2 := (Dg.cell_row r2 0).trans rfl
  have q3 := (Dg.cell_row r3 0).trans rfl
  have h2' : a.tmps[2]?.getD undef = .pointer (some ⟨b2, 0, none⟩) := by simpa using h2
  have h3' : a.tmps[3]?.getD undef = .pointer (some ⟨b3, 0, none⟩) := by simpa using h3
  simp only [bodyPostD, hd]
  refine leaves_cons (f := 51) (args := #[.pointer (some ⟨b2, 0, none⟩), .pointer (some ⟨b3, 0, none⟩)]) (by simp) (by simp [go_sem]) ?_
  refine (idle51 b2 b3 wc).mono ?_
  rintro e u' w'' ⟨rfl, rfl, rfl⟩
  simp [Leaves, settle, results, Tryd.results30, go_sem, q2, q3, h2', h3']
  exact hR

set_option maxRecDepth 1000000 in
set_option maxHeartbeats 2000000 in
theorem answer30 (w : World) (x : By) (t : Tr) (a : Option Addr) (ac b : Nat) (hb : w.heap[b]? = some (.cells #[.string ⟨x.toArray⟩, .slice a t.len ac] 24 (0, 0))) (ht : TAt (· < w.heap.size) w true t a 0 t.len) (hF : Fair t) (hT : Dg.Tab w) :
    Calls Tryd.prog 30 #[.func (Fn.func 31) #[] #[.pointer (some ⟨b, 0, none⟩)]] w fun e w' => MakeC x t w e w' := by
  have hb1 : Below w.heap.size w ((w.alloc (.cells #[.slice none 0 0] 27)).alloc (.cells #[.int .i64 0] 31)) := ((Below.refl _ w).alloc (Nat.le_refl _) _).alloc (by simp) _
  have r2 := Dg.row_alloc (Dg.row_new w #[.slice none 0 0] 27) (.cells #[.int .i64 0] 31)
  have r3 := Dg.row_new (w.alloc (.cells #[.slice none 0 0] 27)) #[.int .i64 0] 31
  have rb := Dg.row_alloc (Dg.row_alloc hb (.cells #[.slice none 0 0] 27)) (.cells #[.int .i64 0] 31)
  rw [World.size_alloc] at r3
  have M : Hid _ := make1_any _ x t a ac b rb (TAt.later ht hb1) hF (hT.later hb1)
  go_enter_defers Tryd.func30, Tryd.ntmps30
  go_wp2_with fail
  generalize (w.alloc (.cells #[.slice none 0 0] 27)).alloc (.cells #[.int .i64 0] 31) = w1 at *
  have hz : w.heap.size + 1 < w1.heap.size := (Array.getElem?_eq_some_iff.1 r3).1
  refine Calls.mono M.out ?_
  rintro e w2 ⟨hb2, he⟩
  clear M
  have hbw := hb1.trans (hb2.mono hb1.size)
  have s2 := (hb2.block _ (by omega)).trans r2
  have s3 := (hb2.block _ hz).trans r3
  cases hP : planT x t with
  | none =>
    rw [hP] at he
    obtain rfl : e = .panicked (rej 11) := he
    refine pan30 s2 s3 (by omega) rfl rfl rfl (MakeC.bad hP ?_)
    exact (((hbw.alloc hbw.size _).setCell (Nat.le_refl _) _).setCell (by show _ ≤ w.heap.size + 1; omega) _).drew
  | some its =>
    rw [hP] at he
    obtain ⟨v, rfl, hs⟩ := he
    obtain ⟨ia, icap, rfl, _⟩ := id hs.rd
    have HS : Hid _ := hs
    have HP : Hid _ := hP
    have z2 := (Dg.cell_row s2 0).trans rfl
    have f2 := Dg.froz_row s2 0
    have s3' := Dg.row_other s3 (i := 0) (c := w.heap.size) (.slice ia its.length icap) (by omega)
    have z3 := (Dg.cell_row s3' 0).trans rfl
    have f3 := Dg.froz_row s3' 0
    have HBW : Hid _ := hbw
    have S2 : Hid _ := s2
    have S3 : Hid _ := s3'
    clear hs hP hbw s2 s3 s3'
    go_wp2_with fail
    have hb3 : Below w.heap.size w ((w2.setCell ⟨w.heap.size, 0, none⟩ (.slice ia its.length icap)).setCell ⟨w.heap.size + 1, 0, none⟩ (.int .i64 0)) := (HBW.out.setCell (Nat.le_refl _) _).setCell (by show _ ≤ w.heap.size + 1; omega) _
    refine ret30 (b2 := w.heap.size) (b3 := w.heap.size + 1) (Dg.row_other (Dg.row_set S2.out 0 (.slice ia its.length icap)) (i := 0) (c := w.heap.size + 1) (.int .i64 0) (by omega)) (Dg.row_set S3.out 0 (.int .i64 0)) rfl rfl rfl (MakeC.ok HP.out hb3 ?_)
    exact Stands.widen (Stands.next HS.out (by simp) (fun b h1 h2 => (Below.heap_setCell _ _ _ _ (by show b ≠ w.heap.size + 1; omega)).trans (Below.heap_setCell _ _ _ _ (by show b ≠ w.heap.size; omega)))) (show w.heap.size ≤ w1.heap.size by omega)

set_option maxRecDepth 1000000 in
set_option maxHeartbeats 2000000 in
/-- Make tells a saga's plan. -/
theorem Make_any (w : World) (x : By) (t : Tr) (a : Option Addr) (ac : Nat) (ht : TAt (· < w.heap.size) w true t a 0 t.len) (hF : Fair t) (hT : Dg.Tab w) :
    Calls Tryd.prog 10 #[.agg #[.string ⟨x.toArray⟩, .slice a t.len ac]] w fun e w' => MakeC x t w e w' := by
  have hb1 : Below w.heap.size w ((w.alloc (.cells #[.string ⟨x.toArray⟩, .slice a t.len ac] 24)).alloc (.cells #[.slice none 0 0] 27)) := ((Below.refl _ w).alloc (Nat.le_refl _) _).alloc (by simp) _
  have r1 := Dg.row_alloc (Dg.row_new w #[.string ⟨x.toArray⟩, .slice a t.len ac] 24) (.cells #[.slice none 0 0] 27)
  have r2 := Dg.row_new (w.alloc (.cells #[.string ⟨x.toArray⟩, .slice a t.len ac] 24)) #[.slice none 0 0] 27
  rw [World.size_alloc] at r2
  have M : Hid _ := answer30 _ x t a ac w.heap.size r1 (TAt.later ht hb1) hF (hT.later hb1)
  go_enter Tryd.func10, Tryd.ntmps10
  go_wp2_with fail
  generalize (w.alloc (.cells #[.string ⟨x.toArray⟩, .slice a t.len ac] 24)).alloc (.cells #[.slice none 0 0] 27) = w1 at *
  have hz : w.heap.size + 1 < w1.heap.size := (Array.getElem?_eq_some_iff.1 r2).1
  refine Calls.mono M.out ?_
  rintro e w2 ⟨hb2, he⟩
  clear M
  have hbw := hb1.trans (hb2.mono hb1.size)
  have s2 := (hb2.block _ hz).trans r2
  have z2 := (Dg.cell_row s2 0).trans rfl
  have f2 := Dg.froz_row s2 0
  have S2 : Hid _ := s2
  have HBW : Hid _ := hbw
  clear s2 hbw
  cases hP : planT x t with
  | none =>
    rw [hP] at he
    have HP : Hid _ := hP
    obtain rfl : e = .returned (.tuple #[.agg #[.slice none 0 0], .int .i64 11]) := he
    clear hP
    go_wp2_with fail
    have q2 := (Dg.cell_row (Dg.row_set S2.out 0 (.slice none 0 0)) 0).trans rfl
    have hbE : Below w.heap.size w (w2.setCell ⟨w.heap.size + 1, 0, none⟩ (.slice none 0 0)) := HBW.out.setCell (by show _ ≤ w.heap.size + 1; omega) _
    exact bodyPost_ret_by (by simp [results, Tryd.results10, go_sem, q2]) rfl (MakeC.bad HP.out hbE)
  | some its =>
    rw [hP] at he
    obtain ⟨v, rfl, hs⟩ := he
    obtain ⟨ia, icap, rfl, _⟩ := id hs.rd
    have HS : Hid _ := hs
    have HP : Hid _ := hP
    clear hs hP
    go_wp2_with fail
    have q2 := (Dg.cell_row (Dg.row_set S2.out 0 (.slice ia its.length icap)) 0).trans rfl
    have hbE : Below w.heap.size w (w2.setCell ⟨w.heap.size + 1, 0, none⟩ (.slice ia its.length icap)) := HBW.out.setCell (by show _ ≤ w.heap.size + 1; omega) _
    refine bodyPost_ret_by (by simp [results, Tryd.results10, go_sem, q2]; rfl) rfl (MakeC.ok HP.out hbE ?_)
    exact Stands.widen (Stands.next HS.out (by simp) (fun b h1 h2 => Below.heap_setCell _ _ _ _ (by show b ≠ w.heap.size + 1; omega))) hb1.size

/-- What Check answers. -/
noncomputable def chkE (x : By) (t : Tr) : Int := if (planT x t).isSome then 0 else 11

set_option maxRecDepth 1000000 in
set_option maxHeartbeats 2000000 in
theorem Check_any (w : World) (x : By) (t : Tr) (a : Option Addr) (ac : Nat) (ht : TAt (· < w.heap.size) w true t a 0 t.len) (hF : Fair t) (hT : Dg.Tab w) :
    Calls Tryd.prog 29 #[.agg #[.string ⟨x.toArray⟩, .slice a t.len ac]] w fun e w' => e = .returned (.int .i64 (chkE x t)) ∧ Below w.heap.size w w' := by
  have hb1 : Below w.heap.size w (w.alloc (.cells #[.string ⟨x.toArray⟩, .slice a t.len ac] 24)) := (Below.refl _ w).alloc (Nat.le_refl _) _
  have r1 := Dg.row_new w #[.string ⟨x.toArray⟩, .slice a t.len ac] 24
  have M : Hid _ := Make_any _ x t a ac (TAt.later ht hb1) hF (hT.later hb1)
  have g0 := (Dg.cell_row r1 0).trans rfl
  have g1 := (Dg.cell_row r1 1).trans rfl
  go_enter Tryd.func29, Tryd.ntmps29
  go_wp2_with fail
  generalize w.alloc (.cells #[.string ⟨x.toArray⟩, .slice a t.len ac] 24) = w1 at *
  refine Calls.mono M.out ?_
  rintro e w2 ⟨hb2, he⟩
  clear M g0 g1
  have HBW : Hid _ := hb1.trans (hb2.mono hb1.size)
  have rn := Dg.row_new w2 #[.slice none 0 0] 27
  have g0 := (Dg.cell_row rn 0).trans rfl
  have f0 := Dg.froz_row rn 0
  have hz := hb1.size
  have hz2 := hb2.size
  cases hP : planT x t with
  | none =>
    rw [hP] at he
    have HP : Hid (chkE x t = 11) := by show _ = _; unfold chkE; rw [hP]; rfl
    obtain rfl : e = .returned (.tuple #[.agg #[.slice none 0 0], .int .i64 11]) := he
    clear hP
    go_wp2_with fail
    go_ret
    rw [HP.out]
    exact ⟨rfl, HBW.out.alloc (by omega) _⟩
  | some its =>
    rw [hP] at he
    have HP : Hid (chkE x t = 0) := by show _ = _; unfold chkE; rw [hP]; rfl
    obtain ⟨v, rfl, hs⟩ := he
    obtain ⟨ia, icap, rfl, _⟩ := id hs.rd
    clear hs hP
    go_wp2_with fail
    go_ret
    rw [HP.out]
    exact ⟨rfl, HBW.out.alloc (by omega) _⟩
end Go.Proofs.YtephkdocfhajiaaDoor

