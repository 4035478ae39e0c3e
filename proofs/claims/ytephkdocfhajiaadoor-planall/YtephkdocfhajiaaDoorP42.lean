/- Texts of the seat, packed: Yw Yy. -/
import Derived.Test.YtephkdocfhajiaaDoorP41
import Derived.Deep.RegionHeldLaw
/- What the laws' lives wants: the example in memory, and what is told of it. -/
namespace Go.Proofs.YtephkdocfhajiaaDoor
open Go.RowKit Go.Shelf Go.Proofs.YtephkdocfhajiaaDoor.Sx
set_option linter.unusedVariables false

theorem fair_ex : Fair tEx := Fair.of (by decide) (by simp [AllL, tEx])
theorem fair_no : Fair tNo := Fair.of (by decide) (by simp [AllL, tNo])
theorem fairI_ex : FairI iEx := ⟨by decide, by decide⟩

/-- The wanted items, as they lie in a block. -/
def wantC (ba : Nat) : Array Value := #[.string ⟨#[116]⟩, .string ⟨#[]⟩, .bool true, .bool true, .int .i64 1, .int .i64 (-1), .int .i64 0, .slice none 0 0, .string ⟨#[97]⟩, .string ⟨#[98]⟩, .bool false, .bool false, .int .i64 0, .int .i64 0, .int .i64 0, .slice none 0 0, .string ⟨#[99]⟩, .string ⟨#[]⟩, .bool true, .bool false, .int .i64 1, .int .i64 0, .int .i64 0, .slice (some ⟨ba, 0, none⟩) 1 1, .string ⟨#[100]⟩, .string ⟨#[101]⟩, .bool false, .bool false, .int .i64 0, .int .i64 2, .int .i64 0, .slice none 0 0]

theorem want_rd (W : World) (bw ba : Nat) (r : W.heap[bw]? = some (.cells (wantC ba) 43 (0, 0))) (ra : W.heap[ba]? = some (.cells #[.int .i64 1] 3 (0, 0))) : RdIt W (.slice (some ⟨bw, 0, none⟩) 4 4) iEx := by
  have hone : RdZ W (.slice (some ⟨ba, 0, none⟩) 1 1) [1] := by
    refine ⟨_, _, rfl, Nat.le_refl _, fun i x hx => ⟨ba, 0, rfl, ?_⟩⟩
    match i, hx with
    | 0, hx =>
      simp at hx
      subst hx
      exact (Dg.cell_row ra 0).trans rfl
    | i + 1, hx => simp at hx
  have hnil : RdZ W (.slice none 0 0) [] := ⟨none, 0, rfl, Nat.le_refl _, fun i x hx => by simp at hx⟩
  refine ⟨_, _, rfl, Nat.le_refl _, fun i x hx => ?_⟩
  match i, hx with
  | 0, hx =>
    have hx : some (iEx.getD 0 ⟨[], [], false, false, 0, 0, 0, []⟩) = some x := hx
    cases hx
    exact ⟨bw, 0, none, 0, 0, rfl, (Dg.cell_row r 0).trans rfl, (Dg.cell_row r 1).trans rfl, (Dg.cell_row r 2).trans rfl, (Dg.cell_row r 3).trans rfl, (Dg.cell_row r 4).trans rfl, (Dg.cell_row r 5).trans rfl, (Dg.cell_row r 6).trans rfl, (Dg.cell_row r 7).trans rfl, hnil⟩
  | 1, hx =>
    have hx : some (iEx.getD 1 ⟨[], [], false, false, 0, 0, 0, []⟩) = some x := hx
    cases hx
    exact ⟨bw, 0, none, 0, 0, rfl, (Dg.cell_row r 8).trans rfl, (Dg.cell_row r 9).trans rfl, (Dg.cell_row r 10).trans rfl, (Dg.cell_row r 11).trans rfl, (Dg.cell_row r 12).trans rfl, (Dg.cell_row r 13).trans rfl, (Dg.cell_row r 14).trans rfl, (Dg.cell_row r 15).trans rfl, hnil⟩
  | 2, hx =>
    have hx : some (iEx.getD 2 ⟨[], [], false, false, 0, 0, 0, []⟩) = some x := hx
    cases hx
    exact ⟨bw, 0, some ⟨ba, 0, none⟩, 1, 1, rfl, (Dg.cell_row r 16).trans rfl, (Dg.cell_row r 17).trans rfl, (Dg.cell_row r 18).trans rfl, (Dg.cell_row r 19).trans rfl, (Dg.cell_row r 20).trans rfl, (Dg.cell_row r 21).trans rfl, (Dg.cell_row r 22).trans rfl, (Dg.cell_row r 23).trans rfl, hone⟩
  | 3, hx =>
    have hx : some (iEx.getD 3 ⟨[], [], false, false, 0, 0, 0, []⟩) = some x := hx
    cases hx
    exact ⟨bw, 0, none, 0, 0, rfl, (Dg.cell_row r 24).trans rfl, (Dg.cell_row r 25).trans rfl, (Dg.cell_row r 26).trans rfl, (Dg.cell_row r 27).trans rfl, (Dg.cell_row r 28).trans rfl, (Dg.cell_row r 29).trans rfl, (Dg.cell_row r 30).trans rfl, (Dg.cell_row r 31).trans rfl, hnil⟩
  | i + 4, hx => simp [iEx] at hx

theorem RdI.of_z {w : World} {v : Value} {l : List Nat} (h : RdZ w v (l.map fun (x : Nat) => (x : Int))) : Dg.RdI w v l := by
  obtain ⟨a, cap, hv, hc, hr⟩ := h
  refine ⟨a, cap, by rw [hv]; simp, by simpa using hc, fun i x hi => ?_⟩
  obtain ⟨b, off, ha, hcell⟩ := hr i (x : Int) (by simp [hi])
  exact ⟨b, off, ha, hcell⟩

theorem RdI.new (w : World) (l : List Nat) (vs : Array Value) (h : vs.toList = Dg.ivs l) : Dg.RdI (w.alloc (.cells vs 3)) (.slice (some ⟨w.heap.size, 0, none⟩) l.length l.length) l := by
  refine ⟨_, _, rfl, Nat.le_refl _, fun i x hi => ⟨_, _, rfl, ?_⟩⟩
  rw [Dg.cell_row (Dg.row_new w vs 3), Nat.zero_add, ← Array.getElem?_toList, h, Dg.ivs, List.getElem?_map, hi]
  rfl

theorem sm_new (l : List Nat) (vs : Array Value) (h : vs.toList = Dg.ivs l) (hl : l.length ≤ 1000) (w : World) (u : Value) (hu : Dg.RdI w u l) :
    Calls Tryd.prog 18 #[u, .slice (some ⟨w.heap.size, 0, none⟩) l.length l.length] (w.alloc (.cells vs 3)) fun e w' => e = .returned (.bool true) ∧ Below w.heap.size w w' := by
  have hb : Below w.heap.size w (w.alloc (.cells vs 3)) := (Below.refl _ _).alloc (Nat.le_refl _) _
  have := Dg.sameI_any l l u _ (w.alloc (.cells vs 3)) (hu.later hb) (RdI.new w l vs h) (by omega) (by omega)
  rw [show decide (l = l) = true from decide_eq_true rfl] at this
  refine Calls.mono this ?_
  rintro e w' ⟨h1, h2⟩
  exact ⟨h1, hb.trans (h2.mono hb.size)⟩

theorem sm_old (l : List Nat) (vs : Array Value) (h : vs.toList = Dg.ivs l) (hl : l.length ≤ 1000) (w w2 : World) (hb : Below (w.alloc (.cells vs 3)).heap.size (w.alloc (.cells vs 3)) w2) (u : Value) (hu : Dg.RdI w2 u l) :
    Calls Tryd.prog 18 #[u, .slice (some ⟨w.heap.size, 0, none⟩) l.length l.length] w2 fun e w' => e = .returned (.bool true) ∧ Below w2.heap.size w2 w' := by
  have := Dg.sameI_any l l u _ w2 hu ((RdI.new w l vs h).later hb) (by omega) (by omega)
  rw [show decide (l = l) = true from decide_eq_true rfl] at this
  exact this

theorem no_tree (W : World) (b1 b2 : Nat)
    (r1 : W.heap[b1]? = some (.cells #[.string ⟨#[97]⟩, .string ⟨#[]⟩, .slice none 0 0, .bool false, .bool false, .slice none 0 0] 68 (0, 0)))
    (r2 : W.heap[b2]? = some (.cells #[.slice (some ⟨b1, 0, none⟩) 1 1] 71 (0, 0))) :
    TAt (· < W.heap.size) W true tNo (some ⟨b2, 0, none⟩) 0 1 := by
  have l1 := (Array.getElem?_eq_some_iff.1 r1).1
  have l2 := (Array.getElem?_eq_some_iff.1 r2).1
  have nl : SAt (· < W.heap.size) W [] none 0 := ⟨rfl, fun i x hx => by simp at hx⟩
  exact ⟨rfl, by omega, ⟨b2, 0, _, 1, 1, rfl, l2, (Dg.cell_row r2 0).trans rfl, ⟨rfl, by omega, ⟨b1, 0, none, 0, 0, none, 0, 0, rfl, l1, (Dg.cell_row r1 0).trans rfl, (Dg.cell_row r1 1).trans rfl, (Dg.cell_row r1 2).trans rfl, (Dg.cell_row r1 3).trans rfl, (Dg.cell_row r1 4).trans rfl, (Dg.cell_row r1 5).trans rfl, nl, rfl⟩, rfl⟩⟩, rfl⟩

theorem l_make (w : World) (a : Option Addr) (ht : TAt (· < w.heap.size) w true tEx a 0 1) (hT : Dg.Tab w) :
    Calls Tryd.prog 10 #[.agg #[.string ⟨#[116]⟩, .slice a 1 1]] w fun e w' => Below w.heap.size w w' ∧ ∃ v c, e = .returned (.tuple #[.agg #[.slice v 4 c], .int .i64 0]) ∧ RdIt w' (.slice v 4 c) iEx := by
  have h := Make_any w [116] tEx a 1 ht fair_ex hT
  refine Calls.mono h ?_
  rintro e w' ⟨hb, h⟩
  rw [plan_ex] at h
  obtain ⟨v, rfl, hs⟩ := h
  have hr := hs.rd
  obtain ⟨a2, c2, rfl, _⟩ := id hr
  exact ⟨hb, a2, c2, rfl, hr⟩

theorem l_back (w : World) (v : Value) (hv : RdIt w v iEx) (hT : Dg.Tab w) :
    Calls Tryd.prog 11 #[.agg #[v]] w fun e w' => Below w.heap.size w w' ∧ ∃ a c, e = .returned (.tuple #[.agg #[.string ⟨#[116]⟩, .slice a 1 c], .int .i64 0]) ∧ TAt (fun _ => True) w' true tEx a 0 1 := by
  have h := Back_any iEx v w hv fairI_ex hT
  refine Calls.mono h ?_
  rintro e w' ⟨hb, h⟩
  rw [saga_ex] at h
  obtain ⟨a, c, rfl, ht⟩ := h
  exact ⟨hb, a, c, rfl, TAt.keep (fun _ _ _ => rfl) (fun _ _ _ => trivial) _ _ _ _ _ ht⟩

theorem l_kids (w : World) (v : Value) (hv : RdIt w v iEx) (hT : Dg.Tab w) :
    Calls Tryd.prog 17 #[.agg #[v], .int .i64 2, .int .i64 0] w fun e w' => ∃ a c, e = .returned (.slice a 1 c) ∧ Dg.RdI w' (.slice a 1 c) [3] ∧ Below w.heap.size w w' := by
  refine Calls.mono (KidsP_any iEx v 2 0 w hv fairI_ex hT) ?_
  rintro e w' ⟨hb, u, rfl, hu⟩
  rw [kids_ex] at hu
  have hi := RdI.of_z hu
  obtain ⟨a, c, rfl, _⟩ := id hi
  exact ⟨a, c, rfl, hi, hb⟩

theorem l_above (w : World) (v : Value) (hv : RdIt w v iEx) (hT : Dg.Tab w) :
    Calls Tryd.prog 19 #[.agg #[v], .int .i64 3] w fun e w' => ∃ a c, e = .returned (.slice a 2 c) ∧ Dg.RdI w' (.slice a 2 c) [2, 0] ∧ Below w.heap.size w w' := by
  refine Calls.mono (AboveP_any iEx v 3 w hv fairI_ex hT) ?_
  rintro e w' ⟨hb, u, rfl, hu⟩
  rw [above_ex] at hu
  have hi := RdI.of_z hu
  obtain ⟨a, c, rfl, _⟩ := id hi
  exact ⟨a, c, rfl, hi, hb⟩

theorem l_over (w : World) (v : Value) (hv : RdIt w v iEx) (hT : Dg.Tab w) :
    Calls Tryd.prog 20 #[.agg #[v], .int .i64 1] w fun e w' => ∃ a c, e = .returned (.slice a 1 c) ∧ Dg.RdI w' (.slice a 1 c) [2] ∧ Below w.heap.size w w' := by
  refine Calls.mono (OverP_any iEx v 1 w hv fairI_ex hT) ?_
  rintro e w' ⟨hb, u, rfl, hu⟩
  rw [over_ex] at hu
  have hi := RdI.of_z hu
  obtain ⟨a, c, rfl, _⟩ := id hi
  exact ⟨a, c, rfl, hi, hb⟩

theorem l_right (w : World) (v : Value) (hv : RdIt w v iEx) (hT : Dg.Tab w) :
    Calls Tryd.prog 12 #[.agg #[v]] w fun e w' => e = .returned (.bool true) ∧ Below w.heap.size w w' := by
  have h := Right_any iEx v w hv fairI_ex hT
  rw [saga_ex] at h
  exact h

theorem l_same (w : World) (v u : Value) (hv : RdIt w v iEx) (hu : RdIt w u iEx) :
    Calls Tryd.prog 16 #[.agg #[v], .agg #[u]] w fun e w' => e = .returned (.bool true) ∧ Below w.heap.size w w' :=
  planSame_any iEx v u w hv hu (by decide) (by decide)

theorem l_saga (w : World) (P Q : Nat → Prop) (a b : Option Addr) (ca cb : Nat) (ha : TAt P w true tEx a 0 1) (hb : TAt Q w true tEx b 0 1) :
    Calls Tryd.prog 13 #[.agg #[.string ⟨#[116]⟩, .slice a 1 ca], .agg #[.string ⟨#[116]⟩, .slice b 1 cb]] w fun e w' => e = .returned (.bool true) ∧ Below w.heap.size w w' :=
  same_saga [116] tEx P Q w a b ca cb ha hb (by decide) (by simp [tEx, Tr.afs])

theorem l_check (w : World) (a : Option Addr) (c : Nat) (ht : TAt (· < w.heap.size) w true tNo a 0 1) (hT : Dg.Tab w) :
    Calls Tryd.prog 29 #[.agg #[.string ⟨#[116]⟩, .slice a 1 c]] w fun e w' => e = .returned (.int .i64 11) ∧ Below w.heap.size w w' := by
  have h := Check_any w [116] tNo a c ht fair_no hT
  have e : chkE [116] tNo = 11 := by unfold chkE; rw [plan_no]; rfl
  rw [e] at h
  exact h
end Go.Proofs.YtephkdocfhajiaaDoor

/- What is told of a right plan, by the plan and by its view; the walk over PlanSees. -/
namespace Go.Proofs.YtephkdocfhajiaaDoor
open Go.RowKit Go.Shelf Go.Proofs.YtephkdocfhajiaaDoor.Sx
set_option linter.unusedVariables false

theorem kids_len (inn alt : Int) : ∀ (its : List It) (k : Nat), (kidsF inn alt k its).length ≤ its.length
  | [], k => by simp [kidsF]
  | x :: its, k => by
    have := kids_len inn alt its (k + 1)
    simp only [kidsF, List.length_cons]
    split <;> simp <;> omega

theorem bits_64 (x : Nat) : (Dg.bitsOf x).length ≤ 64 := by
  have := List.length_filter_le (fun i => x.testBit i) (List.range 64)
  simp only [List.length_range] at this
  unfold Dg.bitsOf
  exact this

theorem small_fair {its : List It} (h : smallI its = true) : FairI its ∧ its.length ≤ 70 := by
  unfold smallI at h
  rw [Bool.and_eq_true, decide_eq_true_eq] at h
  obtain ⟨h1, h2⟩ := h
  rw [List.take_of_length_le h2, List.all_eq_true] at h1
  have h3 : ∀ x ∈ its, x.name.length ≤ 200 ∧ x.undo.length ≤ 200 ∧ x.after.length ≤ 100 := by
    intro x hx
    have := h1 x hx
    simp only [okIt, Bool.and_eq_true, decide_eq_true_eq] at this
    exact this
  exact ⟨⟨fun x hx => by have := h3 x hx; omega, fun x hx => by have := h3 x hx; omega⟩, h2⟩

theorem see_in (W0 : World) (B b : Nat) (v : Value) (its : List It) (i alt : Int) (W o : List Nat) (p : By × Tr) (hLv : ∀ wx : World, Dg.Tab wx → Calls Tryd.prog 9 #[] wx fun e w' => e = .returned (.bool true) ∧ Below wx.heap.size wx w') (hT : Dg.Tab W0) (hIt : RdIt W0 v its) (hF : FairI its) (hl : its.length ≤ 70) (hP : sagaP its = some p)
    (hW : Dg.weaveP (its.length : Int) (Dg.swapA (arcP its)) = .ok W o) (hV : VwAt W0 b its (Dg.reachL W o)) :
    ∃ KL AL OL : List Nat, KL.length ≤ 1000 ∧ AL.length ≤ 1000 ∧ OL.length ≤ 1000 ∧
    (∀ w1 w2 : World, (Below W0.heap.size W0 w1 ∧ w1.cell? ⟨B, 0, none⟩ = some v) → Below w1.heap.size w1 w2 → (Below W0.heap.size W0 w2 ∧ w2.cell? ⟨B, 0, none⟩ = some v)) ∧
    (∀ wx : World, (Below W0.heap.size W0 wx ∧ wx.cell? ⟨B, 0, none⟩ = some v) → Calls Tryd.prog 23 #[.pointer (some ⟨b, 0, none⟩), .int .i64 i, .int .i64 alt] wx fun e w' => ∃ a c, e = .returned (.slice a KL.length c) ∧ Dg.RdI w' (.slice a KL.length c) KL ∧ Below wx.heap.size wx w' ∧ (Below W0.heap.size W0 w' ∧ w'.cell? ⟨B, 0, none⟩ = some v)) ∧ (∀ wx : World, (Below W0.heap.size W0 wx ∧ wx.cell? ⟨B, 0, none⟩ = some v) → Calls Tryd.prog 17 #[.agg #[v], .int .i64 i, .int .i64 alt] wx fun e w' => ∃ a c, e = .returned (.slice a KL.length c) ∧ Dg.RdI w' (.slice a KL.length c) KL ∧ Below wx.heap.size wx w' ∧ (Below W0.heap.size W0 w' ∧ w'.cell? ⟨B, 0, none⟩ = some v)) ∧ (∀ wx : World, (Below W0.heap.size W0 wx ∧ wx.cell? ⟨B, 0, none⟩ = some v) → Calls Tryd.prog 24 #[.pointer (some ⟨b, 0, none⟩), .int .i64 i] wx fun e w' => ∃ a c, e = .returned (.slice a AL.length c) ∧ Dg.RdI w' (.slice a AL.length c) AL ∧ Below wx.heap.size wx w' ∧ (Below W0.heap.size W0 w' ∧ w'.cell? ⟨B, 0, none⟩ = some v)) ∧ (∀ wx : World, (Below W0.heap.size W0 wx ∧ wx.cell? ⟨B, 0, none⟩ = some v) → Calls Tryd.prog 19 #[.agg #[v], .int .i64 i] wx fun e w' => ∃ a c, e = .returned (.slice a AL.length c) ∧ Dg.RdI w' (.slice a AL.length c) AL ∧ Below wx.heap.size wx w' ∧ (Below W0.heap.size W0 w' ∧ w'.cell? ⟨B, 0, none⟩ = some v)) ∧ (∀ wx : World, (Below W0.heap.size W0 wx ∧ wx.cell? ⟨B, 0, none⟩ = some v) → Calls Tryd.prog 25 #[.pointer (some ⟨b, 0, none⟩), .int .i64 i] wx fun e w' => ∃ a c, e = .returned (.slice a OL.length c) ∧ Dg.RdI w' (.slice a OL.length c) OL ∧ Below wx.heap.size wx w' ∧ (Below W0.heap.size W0 w' ∧ w'.cell? ⟨B, 0, none⟩ = some v)) ∧ (∀ wx : World, (Below W0.heap.size W0 wx ∧ wx.cell? ⟨B, 0, none⟩ = some v) → Calls Tryd.prog 20 #[.agg #[v], .int .i64 i] wx fun e w' => ∃ a c, e = .returned (.slice a OL.length c) ∧ Dg.RdI w' (.slice a OL.length c) OL ∧ Below wx.heap.size wx w' ∧ (Below W0.heap.size W0 w' ∧ w'.cell? ⟨B, 0, none⟩ = some v)) ∧
    (∀ (l : List Nat) (wx : World) (u u' : Value), Dg.RdI wx u l → Dg.RdI wx u' l → l.length ≤ 1000 → (Below W0.heap.size W0 wx ∧ wx.cell? ⟨B, 0, none⟩ = some v) → Calls Tryd.prog 18 #[u, u'] wx fun e w' => e = .returned (.bool true) ∧ (Below W0.heap.size W0 w' ∧ w'.cell? ⟨B, 0, none⟩ = some v)) ∧
    (∀ wx : World, (Below W0.heap.size W0 wx ∧ wx.cell? ⟨B, 0, none⟩ = some v) → Calls Tryd.prog 9 #[] wx fun e w' => e = .returned (.bool true) ∧ (Below W0.heap.size W0 w' ∧ w'.cell? ⟨B, 0, none⟩ = some v)) := by
  have K : ∀ w1 w2 : World, (Below W0.heap.size W0 w1 ∧ w1.cell? ⟨B, 0, none⟩ = some v) → Below w1.heap.size w1 w2 → (Below W0.heap.size W0 w2 ∧ w2.cell? ⟨B, 0, none⟩ = some v) := by
    rintro w1 w2 ⟨h1, h2⟩ hb
    exact ⟨h1.trans (hb.mono h1.size), Dg.cell_later hb h2⟩
  have fin : ∀ (L : List Nat) (wx : World) (e : Ending) (w' : World), (Below W0.heap.size W0 wx ∧ wx.cell? ⟨B, 0, none⟩ = some v) → (Below wx.heap.size wx w' ∧ ∃ u, e = .returned u ∧ RdZ w' u (L.map fun (x : Nat) => (x : Int))) → ∃ a c, e = .returned (.slice a L.length c) ∧ Dg.RdI w' (.slice a L.length c) L ∧ Below wx.heap.size wx w' ∧ (Below W0.heap.size W0 w' ∧ w'.cell? ⟨B, 0, none⟩ = some v) := by
    rintro L wx e w' hS ⟨hb, u, rfl, hu⟩
    have hi := RdI.of_z hu
    obtain ⟨a, c, rfl, _⟩ := id hi
    exact ⟨a, c, rfl, hi, hb, K _ _ hS hb⟩
  have hov : ovT its = Dg.reachL W o := by unfold ovT; rw [hW]
  have hbl : ∀ l ∈ Dg.reachL W o, l.length ≤ 64 := by
    intro l hl
    unfold Dg.reachL at hl
    obtain ⟨x, _, rfl⟩ := List.mem_map.1 hl
    exact bits_64 x
  refine ⟨kidsL its i alt, aboveL its i, overL (Dg.reachL W o) i, ?_, ?_, ?_, K, ?_, ?_, ?_, ?_, ?_, ?_, ?_, ?_⟩
  · unfold kidsL
    split
    · have := kids_len i alt its 0; omega
    · simp
  · unfold aboveL
    split
    · have := ups_len its its.length i.toNat; omega
    · simp
  · unfold overL
    split
    · rename_i h
      have hlt : i.toNat < (Dg.reachL W o).length := by omega
      rw [List.getD_eq_getElem?_getD, List.getElem?_eq_getElem hlt]
      have := hbl _ (List.getElem_mem hlt)
      show ((Dg.reachL W o)[i.toNat]).length ≤ 1000
      omega
    · simp
  · intro wx hS
    exact Calls.mono (Kids_all b i alt its _ wx (hV.later hS.1) (by omega)) fun e w' h => fin _ wx e w' hS h
  · intro wx hS
    have h := KidsP_any its v i alt wx (hIt.later hS.1) hF (hT.later hS.1)
    have e1 : kidsI its i alt = kidsL its i alt := by unfold kidsI; rw [hP]; rfl
    rw [e1] at h
    exact Calls.mono h fun e w' h => fin _ wx e w' hS h
  · intro wx hS
    exact Calls.mono (Above_all b i its _ wx (hV.later hS.1) (right_stem hP) (by omega)) fun e w' h => fin _ wx e w' hS h
  · intro wx hS
    have h := AboveP_any its v i wx (hIt.later hS.1) hF (hT.later hS.1)
    have e1 : aboveI its i = aboveL its i := by unfold aboveI; rw [hP]; rfl
    rw [e1] at h
    exact Calls.mono h fun e w' h => fin _ wx e w' hS h
  · intro wx hS
    exact Calls.mono (Over_all b i its _ wx (hV.later hS.1) (fun l hl => by have := hbl l hl; omega)) fun e w' h => fin _ wx e w' hS h
  · intro wx hS
    have h := OverP_any its v i wx (hIt.later hS.1) hF (hT.later hS.1)
    have e1 : overI its i = overL (Dg.reachL W o) i := by unfold overI; rw [hP, hov]; rfl
    rw [e1] at h
    exact Calls.mono h fun e w' h => fin _ wx e w' hS h
  · intro l wx u u' hu hu' hl hS
    have h := Dg.sameI_any l l u u' wx hu hu' (by omega) (by omega)
    rw [show decide (l = l) = true from decide_eq_true rfl] at h
    refine Calls.mono h ?_
    rintro e w' ⟨h, hb⟩
    exact ⟨h, K _ _ hS hb⟩
  · intro wx hS
    refine Calls.mono (hLv wx (hT.later hS.1)) ?_
    rintro e w' ⟨h, hb⟩
    exact ⟨h, K _ _ hS hb⟩
end Go.Proofs.YtephkdocfhajiaaDoor

