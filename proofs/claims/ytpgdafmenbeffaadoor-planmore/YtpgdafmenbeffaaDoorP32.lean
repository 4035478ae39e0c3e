/- Texts of the seat, packed: Yw. -/
import Derived.Test.YtpgdafmenbeffaaDoorP31
import Derived.Deep.RegionHeldLaw
/- What the laws' lives wants: the example in memory, and what is told of it. -/
namespace Go.Proofs.YtpgdafmenbeffaaDoor
open Go.RowKit Go.Shelf Go.Proofs.YtpgdafmenbeffaaDoor.Sx
set_option linter.unusedVariables false

theorem fair_ex : Fair tEx := Fair.of (by decide) (by simp [AllL, tEx])
theorem fair_no : Fair tNo := Fair.of (by decide) (by simp [AllL, tNo])
theorem fairI_ex : FairI iEx := ⟨by decide, by decide⟩

/-- The wanted items, as they lie in a block. -/
def wantC (ba : Nat) : Array Value := #[.string ⟨#[116]⟩, .string ⟨#[]⟩, .bool true, .bool true, .int .i64 1, .int .i64 (-1), .int .i64 0, .slice none 0 0, .string ⟨#[97]⟩, .string ⟨#[98]⟩, .bool false, .bool false, .int .i64 0, .int .i64 0, .int .i64 0, .slice none 0 0, .string ⟨#[99]⟩, .string ⟨#[]⟩, .bool true, .bool false, .int .i64 1, .int .i64 0, .int .i64 0, .slice (some ⟨ba, 0, none⟩) 1 1, .string ⟨#[100]⟩, .string ⟨#[101]⟩, .bool false, .bool false, .int .i64 0, .int .i64 2, .int .i64 0, .slice none 0 0]

theorem want_rd (W : World) (bw ba : Nat) (r : W.heap[bw]? = some (.cells (wantC ba) 46 (0, 0))) (ra : W.heap[ba]? = some (.cells #[.int .i64 1] 3 (0, 0))) : RdIt W (.slice (some ⟨bw, 0, none⟩) 4 4) iEx := by
  have hone : RdZ W (.slice (some ⟨ba, 0, none⟩) 1 1) [1] := by
    refine ⟨_, _, rfl, Nat.le_refl _, fun i x hx => ⟨ba, 0, rfl, ?_⟩⟩
    match i, hx with
    | 0, hx =>
      simp at hx
      subst hx
      exact (Dg.cell_row ra 0).trans rfl
    | i + 1, hx => simp at hx
  have hnil : RdZ W (.slice none 0 0) [] := ⟨none, 0, rfl, Nat.le_refl _, fun i x hx => by simp at hx⟩
  refine ⟨_, _, rfl, Nat.le_refl _, fun i x hx => ?_⟩
  match i, hx with
  | 0, hx =>
    have hx : some (iEx.getD 0 ⟨[], [], false, false, 0, 0, 0, []⟩) = some x := hx
    cases hx
    exact ⟨bw, 0, none, 0, 0, rfl, (Dg.cell_row r 0).trans rfl, (Dg.cell_row r 1).trans rfl, (Dg.cell_row r 2).trans rfl, (Dg.cell_row r 3).trans rfl, (Dg.cell_row r 4).trans rfl, (Dg.cell_row r 5).trans rfl, (Dg.cell_row r 6).trans rfl, (Dg.cell_row r 7).trans rfl, hnil⟩
  | 1, hx =>
    have hx : some (iEx.getD 1 ⟨[], [], false, false, 0, 0, 0, []⟩) = some x := hx
    cases hx
    exact ⟨bw, 0, none, 0, 0, rfl, (Dg.cell_row r 8).trans rfl, (Dg.cell_row r 9).trans rfl, (Dg.cell_row r 10).trans rfl, (Dg.cell_row r 11).trans rfl, (Dg.cell_row r 12).trans rfl, (Dg.cell_row r 13).trans rfl, (Dg.cell_row r 14).trans rfl, (Dg.cell_row r 15).trans rfl, hnil⟩
  | 2, hx =>
    have hx : some (iEx.getD 2 ⟨[], [], false, false, 0, 0, 0, []⟩) = some x := hx
    cases hx
    exact ⟨bw, 0, some ⟨ba, 0, none⟩, 1, 1, rfl, (Dg.cell_row r 16).trans rfl, (Dg.cell_row r 17).trans rfl, (Dg.cell_row r 18).trans rfl, (Dg.cell_row r 19).trans rfl, (Dg.cell_row r 20).trans rfl, (Dg.cell_row r 21).trans rfl, (Dg.cell_row r 22).trans rfl, (Dg.cell_row r 23).trans rfl, hone⟩
  | 3, hx =>
    have hx : some (iEx.getD 3 ⟨[], [], false, false, 0, 0, 0, []⟩) = some x := hx
    cases hx
    exact ⟨bw, 0, none, 0, 0, rfl, (Dg.cell_row r 24).trans rfl, (Dg.cell_row r 25).trans rfl, (Dg.cell_row r 26).trans rfl, (Dg.cell_row r 27).trans rfl, (Dg.cell_row r 28).trans rfl, (Dg.cell_row r 29).trans rfl, (Dg.cell_row r 30).trans rfl, (Dg.cell_row r 31).trans rfl, hnil⟩
  | i + 4, hx => simp [iEx] at hx

theorem RdI.of_z {w : World} {v : Value} {l : List Nat} (h : RdZ w v (l.map fun (x : Nat) => (x : Int))) : Dg.RdI w v l := by
  obtain ⟨a, cap, hv, hc, hr⟩ := h
  refine ⟨a, cap, by rw [hv]; simp, by simpa using hc, fun i x hi => ?_⟩
  obtain ⟨b, off, ha, hcell⟩ := hr i (x : Int) (by simp [hi])
  exact ⟨b, off, ha, hcell⟩

theorem RdI.new (w : World) (l : List Nat) (vs : Array Value) (h : vs.toList = Dg.ivs l) : Dg.RdI (w.alloc (.cells vs 3)) (.slice (some ⟨w.heap.size, 0, none⟩) l.length l.length) l := by
  refine ⟨_, _, rfl, Nat.le_refl _, fun i x hi => ⟨_, _, rfl, ?_⟩⟩
  rw [Dg.cell_row (Dg.row_new w vs 3), Nat.zero_add, ← Array.getElem?_toList, h, Dg.ivs, List.getElem?_map, hi]
  rfl

theorem sm_new (l : List Nat) (vs : Array Value) (h : vs.toList = Dg.ivs l) (hl : l.length ≤ 1000) (w : World) (u : Value) (hu : Dg.RdI w u l) :
    Calls Tryd.prog 13 #[u, .slice (some ⟨w.heap.size, 0, none⟩) l.length l.length] (w.alloc (.cells vs 3)) fun e w' => e = .returned (.bool true) ∧ Below w.heap.size w w' := by
  have hb : Below w.heap.size w (w.alloc (.cells vs 3)) := (Below.refl _ _).alloc (Nat.le_refl _) _
  have := Dg.sameI_any l l u _ (w.alloc (.cells vs 3)) (hu.later hb) (RdI.new w l vs h) (by omega) (by omega)
  rw [show decide (l = l) = true from decide_eq_true rfl] at this
  refine Calls.mono this ?_
  rintro e w' ⟨h1, h2⟩
  exact ⟨h1, hb.trans (h2.mono hb.size)⟩

theorem sm_old (l : List Nat) (vs : Array Value) (h : vs.toList = Dg.ivs l) (hl : l.length ≤ 1000) (w w2 : World) (hb : Below (w.alloc (.cells vs 3)).heap.size (w.alloc (.cells vs 3)) w2) (u : Value) (hu : Dg.RdI w2 u l) :
    Calls Tryd.prog 13 #[u, .slice (some ⟨w.heap.size, 0, none⟩) l.length l.length] w2 fun e w' => e = .returned (.bool true) ∧ Below w2.heap.size w2 w' := by
  have := Dg.sameI_any l l u _ w2 hu ((RdI.new w l vs h).later hb) (by omega) (by omega)
  rw [show decide (l = l) = true from decide_eq_true rfl] at this
  exact this

theorem no_tree (W : World) (b1 b2 : Nat)
    (r1 : W.heap[b1]? = some (.cells #[.string ⟨#[97]⟩, .string ⟨#[]⟩, .slice none 0 0, .bool false, .bool false, .slice none 0 0] 38 (0, 0)))
    (r2 : W.heap[b2]? = some (.cells #[.slice (some ⟨b1, 0, none⟩) 1 1] 35 (0, 0))) :
    TAt (· < W.heap.size) W true tNo (some ⟨b2, 0, none⟩) 0 1 := by
  have l1 := (Array.getElem?_eq_some_iff.1 r1).1
  have l2 := (Array.getElem?_eq_some_iff.1 r2).1
  have nl : SAt (· < W.heap.size) W [] none 0 := ⟨rfl, fun i x hx => by simp at hx⟩
  exact ⟨rfl, by omega, ⟨b2, 0, _, 1, 1, rfl, l2, (Dg.cell_row r2 0).trans rfl, ⟨rfl, by omega, ⟨b1, 0, none, 0, 0, none, 0, 0, rfl, l1, (Dg.cell_row r1 0).trans rfl, (Dg.cell_row r1 1).trans rfl, (Dg.cell_row r1 2).trans rfl, (Dg.cell_row r1 3).trans rfl, (Dg.cell_row r1 4).trans rfl, (Dg.cell_row r1 5).trans rfl, nl, rfl⟩, rfl⟩⟩, rfl⟩

theorem l_make (w : World) (a : Option Addr) (ht : TAt (· < w.heap.size) w true tEx a 0 1) (hT : Dg.Tab w) :
    Calls Tryd.prog 6 #[.agg #[.string ⟨#[116]⟩, .slice a 1 1]] w fun e w' => Below w.heap.size w w' ∧ ∃ v c, e = .returned (.tuple #[.agg #[.slice v 4 c], .int .i64 0]) ∧ RdIt w' (.slice v 4 c) iEx := by
  have h := Make_any w [116] tEx a 1 ht fair_ex hT
  refine Calls.mono h ?_
  rintro e w' ⟨hb, h⟩
  rw [plan_ex] at h
  obtain ⟨v, rfl, hs⟩ := h
  have hr := hs.rd
  obtain ⟨a2, c2, rfl, _⟩ := id hr
  exact ⟨hb, a2, c2, rfl, hr⟩

theorem l_back (w : World) (v : Value) (hv : RdIt w v iEx) (hT : Dg.Tab w) :
    Calls Tryd.prog 11 #[.agg #[v]] w fun e w' => Below w.heap.size w w' ∧ ∃ a c, e = .returned (.tuple #[.agg #[.string ⟨#[116]⟩, .slice a 1 c], .int .i64 0]) ∧ TAt (fun _ => True) w' true tEx a 0 1 := by
  have h := Back_any iEx v w hv fairI_ex hT
  refine Calls.mono h ?_
  rintro e w' ⟨hb, h⟩
  rw [saga_ex] at h
  obtain ⟨a, c, rfl, ht⟩ := h
  exact ⟨hb, a, c, rfl, TAt.keep (fun _ _ _ => rfl) (fun _ _ _ => trivial) _ _ _ _ _ ht⟩

theorem l_kids (w : World) (v : Value) (hv : RdIt w v iEx) (hT : Dg.Tab w) :
    Calls Tryd.prog 14 #[.agg #[v], .int .i64 2, .int .i64 0] w fun e w' => ∃ a c, e = .returned (.slice a 1 c) ∧ Dg.RdI w' (.slice a 1 c) [3] ∧ Below w.heap.size w w' := by
  refine Calls.mono (KidsP_any iEx v 2 0 w hv fairI_ex hT) ?_
  rintro e w' ⟨hb, u, rfl, hu⟩
  rw [kids_ex] at hu
  have hi := RdI.of_z hu
  obtain ⟨a, c, rfl, _⟩ := id hi
  exact ⟨a, c, rfl, hi, hb⟩

theorem l_above (w : World) (v : Value) (hv : RdIt w v iEx) (hT : Dg.Tab w) :
    Calls Tryd.prog 15 #[.agg #[v], .int .i64 3] w fun e w' => ∃ a c, e = .returned (.slice a 2 c) ∧ Dg.RdI w' (.slice a 2 c) [2, 0] ∧ Below w.heap.size w w' := by
  refine Calls.mono (AboveP_any iEx v 3 w hv fairI_ex hT) ?_
  rintro e w' ⟨hb, u, rfl, hu⟩
  rw [above_ex] at hu
  have hi := RdI.of_z hu
  obtain ⟨a, c, rfl, _⟩ := id hi
  exact ⟨a, c, rfl, hi, hb⟩

theorem l_over (w : World) (v : Value) (hv : RdIt w v iEx) (hT : Dg.Tab w) :
    Calls Tryd.prog 8 #[.agg #[v], .int .i64 1] w fun e w' => ∃ a c, e = .returned (.slice a 1 c) ∧ Dg.RdI w' (.slice a 1 c) [2] ∧ Below w.heap.size w w' := by
  refine Calls.mono (OverP_any iEx v 1 w hv fairI_ex hT) ?_
  rintro e w' ⟨hb, u, rfl, hu⟩
  rw [over_ex] at hu
  have hi := RdI.of_z hu
  obtain ⟨a, c, rfl, _⟩ := id hi
  exact ⟨a, c, rfl, hi, hb⟩

theorem l_right (w : World) (v : Value) (hv : RdIt w v iEx) (hT : Dg.Tab w) :
    Calls Tryd.prog 17 #[.agg #[v]] w fun e w' => e = .returned (.bool true) ∧ Below w.heap.size w w' := by
  have h := Right_any iEx v w hv fairI_ex hT
  rw [saga_ex] at h
  exact h

theorem l_same (w : World) (v u : Value) (hv : RdIt w v iEx) (hu : RdIt w u iEx) :
    Calls Tryd.prog 7 #[.agg #[v], .agg #[u]] w fun e w' => e = .returned (.bool true) ∧ Below w.heap.size w w' :=
  planSame_any iEx v u w hv hu (by decide) (by decide)

theorem l_saga (w : World) (P Q : Nat → Prop) (a b : Option Addr) (ca cb : Nat) (ha : TAt P w true tEx a 0 1) (hb : TAt Q w true tEx b 0 1) :
    Calls Tryd.prog 12 #[.agg #[.string ⟨#[116]⟩, .slice a 1 ca], .agg #[.string ⟨#[116]⟩, .slice b 1 cb]] w fun e w' => e = .returned (.bool true) ∧ Below w.heap.size w w' :=
  same_saga [116] tEx P Q w a b ca cb ha hb (by decide) (by simp [tEx, Tr.afs])

theorem l_check (w : World) (a : Option Addr) (c : Nat) (ht : TAt (· < w.heap.size) w true tNo a 0 1) (hT : Dg.Tab w) :
    Calls Tryd.prog 16 #[.agg #[.string ⟨#[116]⟩, .slice a 1 c]] w fun e w' => e = .returned (.int .i64 11) ∧ Below w.heap.size w w' := by
  have h := Check_any w [116] tNo a c ht fair_no hT
  have e : chkE [116] tNo = 11 := by unfold chkE; rw [plan_no]; rfl
  rw [e] at h
  exact h
end Go.Proofs.YtpgdafmenbeffaaDoor

