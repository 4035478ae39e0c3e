/- Texts of the seat, packed: Yt Yu. -/
import Derived.Test.YtpgdafmenbeffaaDoorP29
import Derived.Laws.Rows
/- The laws' example, in memory. -/
namespace Go.Proofs.YtpgdafmenbeffaaDoor
open Go.RowKit Go.Shelf Go.Proofs.YtpgdafmenbeffaaDoor.Sx

def nodeV (nm un : List UInt8) (af : Value) (sub : Bool) (al : Value) : List Value := [.string ⟨nm.toArray⟩, .string ⟨un.toArray⟩, af, .bool sub, .bool false, al]

/-- The example's bodies, in the blocks that hold them. -/
theorem ex_tree (W : World) (b2 b3 b4 b6 b7 : Nat)
    (r2 : W.heap[b2]? = some (.cells #[.string ⟨#[97]⟩] 9 (0, 0)))
    (r3 : W.heap[b3]? = some (.cells #[.string ⟨#[100]⟩, .string ⟨#[101]⟩, .slice none 0 0, .bool false, .bool false, .slice none 0 0] 38 (0, 0)))
    (r4 : W.heap[b4]? = some (.cells #[.slice (some ⟨b3, 0, none⟩) 1 1] 35 (0, 0)))
    (r6 : W.heap[b6]? = some (.cells #[.string ⟨#[97]⟩, .string ⟨#[98]⟩, .slice none 0 0, .bool false, .bool false, .slice none 0 0, .string ⟨#[99]⟩, .string ⟨#[]⟩, .slice (some ⟨b2, 0, none⟩) 1 1, .bool true, .bool false, .slice (some ⟨b4, 0, none⟩) 1 1] 38 (0, 0)))
    (r7 : W.heap[b7]? = some (.cells #[.slice (some ⟨b6, 0, none⟩) 2 2] 35 (0, 0))) :
    TAt (· < W.heap.size) W true tEx (some ⟨b7, 0, none⟩) 0 1 := by
  have l2 := (Array.getElem?_eq_some_iff.1 r2).1
  have l3 := (Array.getElem?_eq_some_iff.1 r3).1
  have l4 := (Array.getElem?_eq_some_iff.1 r4).1
  have l6 := (Array.getElem?_eq_some_iff.1 r6).1
  have l7 := (Array.getElem?_eq_some_iff.1 r7).1
  have nl : SAt (· < W.heap.size) W [] none 0 := ⟨rfl, fun i x hx => by simp at hx⟩
  refine ⟨rfl, by omega, ⟨b7, 0, _, 2, 2, rfl, l7, (Dg.cell_row r7 0).trans rfl, ⟨rfl, by omega, ⟨b6, 0, none, 0, 0, none, 0, 0, rfl, l6, (Dg.cell_row r6 0).trans rfl, (Dg.cell_row r6 1).trans rfl, (Dg.cell_row r6 2).trans rfl, (Dg.cell_row r6 3).trans rfl, (Dg.cell_row r6 4).trans rfl, (Dg.cell_row r6 5).trans rfl, nl, rfl⟩, rfl, by omega,
    ⟨b6, 0, some ⟨b2, 0, none⟩, 1, 1, some ⟨b4, 0, none⟩, 1, 1, rfl, l6, (Dg.cell_row r6 6).trans rfl, (Dg.cell_row r6 7).trans rfl, (Dg.cell_row r6 8).trans rfl, (Dg.cell_row r6 9).trans rfl, (Dg.cell_row r6 10).trans rfl, (Dg.cell_row r6 11).trans rfl, ⟨rfl, ?_⟩, rfl, by omega, ⟨b4, 0, _, 1, 1, rfl, l4, (Dg.cell_row r4 0).trans rfl, ⟨rfl, by omega, ⟨b3, 0, none, 0, 0, none, 0, 0, rfl, l3, (Dg.cell_row r3 0).trans rfl, (Dg.cell_row r3 1).trans rfl, (Dg.cell_row r3 2).trans rfl, (Dg.cell_row r3 3).trans rfl, (Dg.cell_row r3 4).trans rfl, (Dg.cell_row r3 5).trans rfl, nl, rfl⟩, rfl⟩⟩, rfl⟩, rfl⟩⟩, rfl⟩
  intro i x hx
  match i, hx with
  | 0, hx =>
    simp at hx
    subst hx
    exact ⟨b2, 0, rfl, l2, (Dg.cell_row r2 0).trans rfl⟩
  | i + 1, hx => simp at hx

theorem old1 {W : World} {k : Nat} {x : Obj} (h : W.heap[k]? = some x) (o : Obj) : (W.alloc o).heap[k]? = some x := (Below.heap_alloc _ _ _ (Array.getElem?_eq_some_iff.1 h).1).trans h
theorem new1 (W : World) (o : Obj) (k : Nat) (h : k = W.heap.size) : (W.alloc o).heap[k]? = some o := by subst h; exact World.alloc_heap_new W o

theorem eight (w : World) (o0 o1 o2 o3 o4 o5 o6 o7 : Obj) :
    let W := (((((((w.alloc o0).alloc o1).alloc o2).alloc o3).alloc o4).alloc o5).alloc o6).alloc o7
    W.heap[w.heap.size]? = some o0 ∧ W.heap[w.heap.size + 1 + 1]? = some o2 ∧ W.heap[w.heap.size + 1 + 1 + 1]? = some o3 ∧ W.heap[w.heap.size + 1 + 1 + 1 + 1]? = some o4 ∧ W.heap[w.heap.size + 1 + 1 + 1 + 1 + 1 + 1]? = some o6 ∧ W.heap[w.heap.size + 1 + 1 + 1 + 1 + 1 + 1 + 1]? = some o7 ∧ Below w.heap.size w W := by
  refine ⟨?_, ?_, ?_, ?_, ?_, ?_, ?_⟩
  · exact old1 (old1 (old1 (old1 (old1 (old1 (old1 (new1 w o0 _ rfl) _) _) _) _) _) _) _
  · exact old1 (old1 (old1 (old1 (old1 (new1 _ o2 _ (by simp)) _) _) _) _) _
  · exact old1 (old1 (old1 (old1 (new1 _ o3 _ (by simp)) _) _) _) _
  · exact old1 (old1 (old1 (new1 _ o4 _ (by simp)) _) _) _
  · exact old1 (new1 _ o6 _ (by simp)) _
  · exact new1 _ o7 _ (by simp)
  · exact (((((((((Below.refl _ w).alloc (Nat.le_refl _) _).alloc (by simp) _).alloc (by simp; omega) _).alloc (by simp; omega) _).alloc (by simp; omega) _).alloc (by simp; omega) _).alloc (by simp; omega) _).alloc (by simp; omega) _)

set_option maxRecDepth 1000000 in
set_option maxHeartbeats 1000000 in
theorem example_any (w : World) : Calls Tryd.prog 10 #[] w fun e w' => Below w.heap.size w w' ∧ ∃ a, e = .returned (.agg #[.string ⟨#[116]⟩, .slice a 1 1]) ∧ TAt (· < w'.heap.size) w' true tEx a 0 1 := by
  go_enter Tryd.func10, Tryd.ntmps10
  go_wp2_with fail
  obtain ⟨q0, q2, q3, q4, q6, q7, hb⟩ := eight w _ _ _ _ _ _ _ _
  refine ⟨rfl, _, results_cell_row (p := 0) (ty := 24) rfl _ _ w.heap.size 24 #[_, _] (0, 0) _ rfl q0 Tryd.underlying24 rfl (by kernel_rfl), hb, _, rfl, ?_⟩
  exact ex_tree _ _ _ _ _ _ q2 q3 q4 q6 q7
end Go.Proofs.YtpgdafmenbeffaaDoor

/- The laws' small. -/
namespace Go.Proofs.YtpgdafmenbeffaaDoor
open Go.RowKit Go.Shelf Go.Proofs.YtpgdafmenbeffaaDoor.Sx

def okIt (x : It) : Bool := decide (x.name.length ≤ 200) && (decide (x.undo.length ≤ 200) && decide (x.after.length ≤ 100))
/-- Is a plan small? -/
def smallI (its : List It) : Bool := (its.take 70).all okIt && decide (its.length ≤ 70)

theorem small_no {its : List It} {i : Nat} {x : It} (hx : its[i]? = some x) (hi : i < 70) (h : okIt x = false) : smallI its = false := by
  unfold smallI
  have : (its.take 70).all okIt = false := by
    rw [List.all_eq_false]
    exact ⟨x, List.mem_of_getElem? (i := i) (by rw [List.getElem?_take, if_pos hi]; exact hx), by rw [h]; simp⟩
  rw [this]
  rfl


end Go.Proofs.YtpgdafmenbeffaaDoor

