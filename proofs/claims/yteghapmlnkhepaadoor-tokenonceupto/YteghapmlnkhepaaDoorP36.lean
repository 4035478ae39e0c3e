/- Texts of the seat, packed: Ch. -/
import Derived.Test.YteghapmlnkhepaaDoorP35
/- The laws' example: its plan; three. -/
namespace Go.Proofs.YteghapmlnkhepaaDoor.Tk
open Go.RowKit Go.Shelf Go.Proofs.YteghapmlnkhepaaDoor.St Go.Proofs.YteghapmlnkhepaaDoor.Sx
set_option maxRecDepth 1000000
set_option linter.unusedVariables false

/-- How the tokens of a right plan stand in one another. -/
theorem std_of {its : List It} {p : Pl} (hI : Itm its p) : Std p (toks p) := by
  have hat : ∀ (i : Nat) (x : Nat × Nat), (toks p)[i]? = some x → x.1 < p.n ∧ tk p x.1 x.2 = i + 1 := fun i x hx => by
    rw [toks_eq] at hx
    obtain ⟨h1, h2⟩ := tkL_at p p.n 0 i x hx
    exact ⟨by omega, h1⟩
  refine ⟨hI.ok, ?_, hat, fun i x hx h0 => ?_⟩
  · rw [toks_eq]
    exact tkL_few hI (by rw [hI.n]; exact hI.len) (by omega)
  · obtain ⟨h1, h2⟩ := hat i x hx
    obtain ⟨q1, q2, q3⟩ := hI.ok.inn x.1 (by omega) h1
    have h3 := tkL_of (p := p) (s := p.n) (a := 0) (t := p.inn x.1) (b := p.alt x.1) (.inl ⟨by omega, q3⟩)
    rw [← toks_eq] at h3
    refine ⟨?_, h3⟩
    have h4 := base_mono p (show p.inn x.1 + 1 ≤ x.1 from q1)
    have h5 : base p (p.inn x.1 + 1) = base p (p.inn x.1) + p.alts (p.inn x.1) := rfl
    have h6 : tk p x.1 x.2 = base p x.1 + x.2 + 1 := rfl
    have h7 : tk p (p.inn x.1) (p.alt x.1) = base p (p.inn x.1) + p.alt x.1 + 1 := rfl
    omega

theorem nm_s : nmP [115] = true := by
  rw [nmP, (isName_iff _).2 (name1 115 115 (by decide +kernel) (by decide +kernel) (by decide +kernel))]; rfl
theorem nm_u : nmP [117] = true := by
  rw [nmP, (isName_iff _).2 (name1 117 117 (by decide +kernel) (by decide +kernel) (by decide +kernel))]; rfl

/-- The bodies of the laws' saga. -/
def tTh : Tr := .b (.n ⟨[97], [117], [], false, false⟩ .e .e) (.b (.n ⟨[98], [117], [], false, false⟩ .e (.n ⟨[115], [], [], true, false⟩ (.b (.n ⟨[99], [117], [], false, false⟩ .e .e) .e) .e)) .e)
/-- Its items. -/
def iTh : List It := [⟨[116], [], true, true, 2, -1, 0, []⟩, ⟨[97], [117], false, false, 0, 0, 0, []⟩, ⟨[98], [117], false, false, 0, 0, 1, []⟩, ⟨[115], [], true, false, 1, 0, 1, []⟩, ⟨[99], [117], false, false, 0, 3, 0, []⟩]

theorem right_th : rightS [116] tTh = true := by
  unfold rightS Sx.okL
  rw [nm_t]
  have hb : bigL (fltn 1 tTh) = false := by decide +kernel
  rw [hb]
  simp [tTh, fltn, nodeOk, nm_a, nm_b, nm_c, nm_s, nm_u, Tr.len]

theorem fit_th : fitS [116] tTh = true := by
  unfold fitS codeS
  rw [right_th]
  decide +kernel

theorem plan_th : planT [116] tTh = some iTh := by
  unfold planT planP
  rw [if_pos ⟨fit_th, by decide +kernel, by decide +kernel, by kernel_rfl⟩]
  kernel_rfl

theorem saga_th : sagaP iTh = some ([116], tTh) := by
  have h1 : nameI iTh 0 = [116] := by kernel_rfl
  have h2 : bodS iTh = tTh := by kernel_rfl
  unfold sagaP
  rw [h1, h2, if_pos ⟨by decide +kernel, plan_th⟩]

theorem fair_th : Fair tTh := Fair.of (by decide) (by simp [AllL, tTh])
theorem fairI_th : FairI iTh := ⟨fun x hx => by simp [iTh] at hx; rcases hx with rfl | rfl | rfl | rfl | rfl <;> decide, fun x hx => by simp [iTh] at hx; rcases hx with rfl | rfl | rfl | rfl | rfl <;> decide⟩

theorem toks_th : toks (plOf iTh) = [(0, 0), (0, 1), (3, 0)] := by decide +kernel
theorem of_th4 : ofV (plOf iTh) 4 = 3 := by decide +kernel
theorem of_th1 : ofV (plOf iTh) 1 = 1 := by decide +kernel
theorem in_th : inV (plOf iTh) 0 1 = 2 := by decide +kernel
theorem live_th0 : liveL (plOf iTh) (fun _ => false) (toks (plOf iTh)) = [1, 2, 3] := by rw [toks_th]; decide +kernel
theorem put_th : putZ (toks (plOf iTh)).length (fun _ => false) 2 = put (fun _ => false) 2 := by
  rw [toks_th]; unfold putZ; rw [if_pos (by decide)]; rfl
theorem live_th1 : liveL (plOf iTh) (put (fun _ => false) 2) (toks (plOf iTh)) = [1] := by rw [toks_th]; decide +kernel
theorem off_th3 : offZ (plOf iTh) (put (fun _ => false) 2) (toks (plOf iTh)) 3 = true := by rw [toks_th]; decide +kernel
theorem off_th1 : offZ (plOf iTh) (put (fun _ => false) 2) (toks (plOf iTh)) 1 = false := by rw [toks_th]; decide +kernel

/-- A step, as it is made. -/
def stepV (c : UInt8) : List Value := [.string ⟨#[c]⟩, .string ⟨#[117]⟩, .slice none 0 0, .bool false, .bool false, .slice none 0 0]

theorem step_any (c : UInt8) (w : World) : Calls Tryd.prog 36 #[.string ⟨#[c]⟩] w fun e w' => e = .returned (.agg #[.string ⟨#[c]⟩, .string ⟨#[117]⟩, .slice none 0 0, .bool false, .bool false, .slice none 0 0]) ∧ Below w.heap.size w w' := by
  have r0 := Dg.row_new w #[.string ⟨#[c]⟩, .string ⟨#[117]⟩, .slice none 0 0, .bool false, .bool false, .slice none 0 0] 71
  have hb : Below w.heap.size w (w.alloc (.cells #[.string ⟨#[c]⟩, .string ⟨#[117]⟩, .slice none 0 0, .bool false, .bool false, .slice none 0 0] 71)) := (Below.refl _ w).alloc (Nat.le_refl _) _
  go_enter Tryd.func36, Tryd.ntmps36
  go_wp2_with fail
  exact ⟨rfl, _, results_cell_row (p := 2) (ty := 71) rfl _ _ w.heap.size 71 #[_, _, _, _, _, _] (0, 0) _ rfl r0 Tryd.underlying71 rfl (by kernel_rfl), rfl, hb⟩

/-- The bodies in memory. -/
theorem th_tree (W : World) (ga gba gbb gb gc gcb : Nat)
    (r1 : W.heap[ga]? = some (.cells #[.string ⟨#[97]⟩, .string ⟨#[117]⟩, .slice none 0 0, .bool false, .bool false, .slice none 0 0] 71 (0, 0)))
    (r2 : W.heap[gbb]? = some (.cells #[.string ⟨#[98]⟩, .string ⟨#[117]⟩, .slice none 0 0, .bool false, .bool false, .slice none 0 0, .string ⟨#[115]⟩, .string ⟨#[]⟩, .slice none 0 0, .bool true, .bool false, .slice (some ⟨gcb, 0, none⟩) 1 1] 71 (0, 0)))
    (r3 : W.heap[gc]? = some (.cells #[.string ⟨#[99]⟩, .string ⟨#[117]⟩, .slice none 0 0, .bool false, .bool false, .slice none 0 0] 71 (0, 0)))
    (r4 : W.heap[gcb]? = some (.cells #[.slice (some ⟨gc, 0, none⟩) 1 1] 87 (0, 0)))
    (r5 : W.heap[gb]? = some (.cells #[.slice (some ⟨ga, 0, none⟩) 1 1, .slice (some ⟨gbb, 0, none⟩) 2 2] 87 (0, 0))) :
    TAt (· < W.heap.size) W true tTh (some ⟨gb, 0, none⟩) 0 2 := by
  have l1 := (Array.getElem?_eq_some_iff.1 r1).1
  have l2 := (Array.getElem?_eq_some_iff.1 r2).1
  have l3 := (Array.getElem?_eq_some_iff.1 r3).1
  have l4 := (Array.getElem?_eq_some_iff.1 r4).1
  have l5 := (Array.getElem?_eq_some_iff.1 r5).1
  have nl : SAt (· < W.heap.size) W [] none 0 := ⟨rfl, fun i x hx => by simp at hx⟩
  have cC : TAt (· < W.heap.size) W false (.n ⟨[99], [117], [], false, false⟩ .e .e) (some ⟨gc, 0, none⟩) 0 1 := ⟨rfl, by omega, ⟨gc, 0, none, 0, 0, none, 0, 0, rfl, l3, (Dg.cell_row r3 0).trans rfl, (Dg.cell_row r3 1).trans rfl, (Dg.cell_row r3 2).trans rfl, (Dg.cell_row r3 3).trans rfl, (Dg.cell_row r3 4).trans rfl, (Dg.cell_row r3 5).trans rfl, nl, rfl⟩, rfl⟩
  have cB : TAt (· < W.heap.size) W true (.b (.n ⟨[99], [117], [], false, false⟩ .e .e) .e) (some ⟨gcb, 0, none⟩) 0 1 := ⟨rfl, by omega, ⟨gcb, 0, _, 1, 1, rfl, l4, (Dg.cell_row r4 0).trans rfl, cC⟩, rfl⟩
  have cS : TAt (· < W.heap.size) W false (.n ⟨[115], [], [], true, false⟩ (.b (.n ⟨[99], [117], [], false, false⟩ .e .e) .e) .e) (some ⟨gbb, 0, none⟩) 1 2 := ⟨rfl, by omega, ⟨gbb, 0, none, 0, 0, _, 1, 1, rfl, l2, (Dg.cell_row r2 6).trans rfl, (Dg.cell_row r2 7).trans rfl, (Dg.cell_row r2 8).trans rfl, (Dg.cell_row r2 9).trans rfl, (Dg.cell_row r2 10).trans rfl, (Dg.cell_row r2 11).trans rfl, nl, cB⟩, rfl⟩
  have bB : TAt (· < W.heap.size) W false (.n ⟨[98], [117], [], false, false⟩ .e (.n ⟨[115], [], [], true, false⟩ (.b (.n ⟨[99], [117], [], false, false⟩ .e .e) .e) .e)) (some ⟨gbb, 0, none⟩) 0 2 := ⟨rfl, by omega, ⟨gbb, 0, none, 0, 0, none, 0, 0, rfl, l2, (Dg.cell_row r2 0).trans rfl, (Dg.cell_row r2 1).trans rfl, (Dg.cell_row r2 2).trans rfl, (Dg.cell_row r2 3).trans rfl, (Dg.cell_row r2 4).trans rfl, (Dg.cell_row r2 5).trans rfl, nl, rfl⟩, cS⟩
  have aB : TAt (· < W.heap.size) W false (.n ⟨[97], [117], [], false, false⟩ .e .e) (some ⟨ga, 0, none⟩) 0 1 := ⟨rfl, by omega, ⟨ga, 0, none, 0, 0, none, 0, 0, rfl, l1, (Dg.cell_row r1 0).trans rfl, (Dg.cell_row r1 1).trans rfl, (Dg.cell_row r1 2).trans rfl, (Dg.cell_row r1 3).trans rfl, (Dg.cell_row r1 4).trans rfl, (Dg.cell_row r1 5).trans rfl, nl, rfl⟩, rfl⟩
  exact ⟨rfl, by omega, ⟨gb, 0, _, 1, 1, rfl, l5, (Dg.cell_row r5 0).trans rfl, aB⟩, ⟨rfl, by omega, ⟨gb, 0, _, 2, 2, rfl, l5, (Dg.cell_row r5 1).trans rfl, bB⟩, rfl⟩⟩
end Go.Proofs.YteghapmlnkhepaaDoor.Tk

