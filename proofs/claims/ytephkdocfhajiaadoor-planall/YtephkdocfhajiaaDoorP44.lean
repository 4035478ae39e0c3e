/- Texts of the seat, packed: SYa Ua. -/
import Derived.Test.YtephkdocfhajiaaDoorP10
import Derived.Deep.SlicePairs
import Derived.Deep.Strs
import Derived.OpenShut
import Derived.Test.YtephkdocfhajiaaDoorRows
import Derived.Test.YtephkdocfhajiaaDoorP43
import Derived.ProofKit
import Derived.ShutString
import Derived.LaidLaws
import Derived.LaidMore
import Derived.LaidHandle
import Derived.Stop.Joined
/- A saga that came in is a finite tree. -/
namespace Go.Proofs.YtephkdocfhajiaaDoor.Sx

open Go.RowKit Go.ChangeShapes Go.WideShapes

theorem Tryd.cells68 : Tryd.prog.cellsOf 68 = 6 := by kernel_rfl

theorem Tryd.cells71 : Tryd.prog.cellsOf 71 = 1 := by kernel_rfl

theorem Tryd.cells24 : Tryd.prog.cellsOf 24 = 2 := by kernel_rfl

theorem Tryd.cells22 : Tryd.prog.cellsOf 22 = 1 := by kernel_rfl

theorem Tryd.cells69 : Tryd.prog.cellsOf 69 = 1 := by kernel_rfl

theorem Tryd.cells66 : Tryd.prog.cellsOf 66 = 1 := by kernel_rfl

theorem Tryd.cells9' : Tryd.prog.cellsOf 9 = 1 := by kernel_rfl

theorem Tryd.cells4 : Tryd.prog.cellsOf 4 = 1 := by kernel_rfl

/-- All lists and texts are as long as one may be, at most. -/
def Tr.bnd : Tr → Prop
  | .e => True
  | .b x r => x.len ≤ maxLen ∧ x.bnd ∧ r.bnd
  | .n l t r => l.name.length ≤ maxLen ∧ l.undo.length ≤ maxLen ∧ l.after.length ≤ maxLen ∧ (∀ y ∈ l.after, y.length ≤ maxLen) ∧ t.len ≤ maxLen ∧ t.bnd ∧ r.bnd

theorem ba_list (s : ByteArray) : (⟨s.data.toList.toArray⟩ : ByteArray) = s := by cases s; simp

variable {H : Type} {enc : TypeId × Value → H} {w : World} {base : Nat} {spare : Nat → Bool} {held : Bool}

theorem open_texts {fuel : Nat} {cs : List Value} {x : DataW H × List MemPlace} (h : DataW.trod enc Tryd.prog w base spare held fuel 66 cs = some x) :
    ∃ a n c xs, cs = [.slice a n c] ∧ SAt (· < w.heap.size) w xs a n ∧ n ≤ maxLen ∧ ∀ y ∈ xs, y.length ≤ maxLen := by
  rcases Go.Deep.open_strs Tryd.underlying66 Tryd.underlying9 (by kernel_rfl) h with ⟨hcs, _⟩ | ⟨ad, l, c, m, Sx, hcs, _, hl, hm, hmm, _, hcell⟩
  · exact ⟨none, 0, 0, [], hcs, ⟨rfl, by simp⟩, by unfold maxLen; omega, by simp⟩
  · have hlm : l ≤ m := by rw [hmm]; split <;> omega
    refine ⟨some ad, l, c, (List.range l).map fun i => (Sx i).data.toList, hcs, ⟨by simp, fun i y hi => ?_⟩, by omega, fun y hy => ?_⟩
    · have hil : i < l := by have := (List.getElem?_eq_some_iff.1 hi).1; simpa using this
      have hy : y = (Sx i).data.toList := by simp [hil] at hi; exact hi.symm
      subst hy
      obtain ⟨b, off, spot⟩ := ad
      have hspot : spot = none := by simpa [Addr.add] using World.cell?_spot (hcell 0 (by omega)).1
      subst hspot
      have hc := (hcell i (by omega)).1
      rw [add_plain] at hc
      exact ⟨b, off, rfl, lt_of_cell? hc, by rw [ba_list]; exact hc⟩
    · obtain ⟨i, hi, rfl⟩ := List.mem_map.1 hy
      have := (hcell i (by have := List.mem_range.1 hi; omega)).2
      show (Sx i).data.toList.length ≤ maxLen
      rw [Array.length_toList]
      exact this

/-- What a body's cell says. -/
def BdAt (w : World) (b off i : Nat) : Prop := ∃ v m c x, w.cell? ⟨b, off + i, none⟩ = some (.slice v m c) ∧ TAt (· < w.heap.size) w false x v 0 m ∧ m ≤ maxLen ∧ x.bnd

def NdAt (w : World) (b off i : Nat) : Prop := ∃ (l : Lab) (t : Tr) (sv : Option Addr) (sm sc : Nat) (av : Option Addr) (am ac : Nat), w.cell? ⟨b, off + i * 6, none⟩ = some (.string ⟨l.name.toArray⟩) ∧ w.cell? ⟨b, off + i * 6 + 1, none⟩ = some (.string ⟨l.undo.toArray⟩) ∧
  w.cell? ⟨b, off + i * 6 + 2, none⟩ = some (.slice sv sm sc) ∧ w.cell? ⟨b, off + i * 6 + 3, none⟩ = some (.bool l.sub) ∧ w.cell? ⟨b, off + i * 6 + 4, none⟩ = some (.bool l.vital) ∧ w.cell? ⟨b, off + i * 6 + 5, none⟩ = some (.slice av am ac) ∧
  SAt (· < w.heap.size) w l.after sv sm ∧ TAt (· < w.heap.size) w true t av 0 am ∧ l.name.length ≤ maxLen ∧ l.undo.length ≤ maxLen ∧ sm ≤ maxLen ∧ (∀ y ∈ l.after, y.length ≤ maxLen) ∧ am ≤ maxLen ∧ t.bnd

theorem build_b (b off n : Nat) : ∀ k i, i + k = n → (∀ j, i ≤ j → j < n → BdAt w b off j) → ∃ t, TAt (· < w.heap.size) w true t (some ⟨b, off, none⟩) i n ∧ t.bnd := by
  intro k
  induction k with
  | zero => intro i hi _; exact ⟨.e, by show i = n; omega, trivial⟩
  | succ k ih =>
    intro i hi h
    obtain ⟨r, hr, hrb⟩ := ih (i + 1) (by omega) (fun j h1 h2 => h j (by omega) h2)
    obtain ⟨v, m, c, x, h1, h2, h3, h4⟩ := h i (Nat.le_refl _) (by omega)
    exact ⟨.b x r, ⟨rfl, by omega, ⟨b, off, v, m, c, rfl, lt_of_cell? h1, h1, h2⟩, hr⟩, by have := h2.len; show x.len ≤ maxLen; omega, h4, hrb⟩

theorem build_n (b off n : Nat) : ∀ k i, i + k = n → (∀ j, i ≤ j → j < n → NdAt w b off j) → ∃ t, TAt (· < w.heap.size) w false t (some ⟨b, off, none⟩) i n ∧ t.bnd := by
  intro k
  induction k with
  | zero => intro i hi _; exact ⟨.e, by show i = n; omega, trivial⟩
  | succ k ih =>
    intro i hi h
    obtain ⟨r, hr, hrb⟩ := ih (i + 1) (by omega) (fun j h1 h2 => h j (by omega) h2)
    obtain ⟨l, t, sv, sm, sc, av, am, ac, c0, c1, c2, c3, c4, c5, h1, h2, b1, b2, b3, b4, b5, b6⟩ := h i (Nat.le_refl _) (by omega)
    exact ⟨.n l t r, ⟨rfl, by omega, ⟨b, off, sv, sm, sc, av, am, ac, rfl, lt_of_cell? c0, c0, c1, c2, c3, c4, c5, h1, h2⟩, hr⟩, b1, b2, by have := h1.1; omega, b4, by have := h2.len; omega, b6, hrb⟩

set_option maxRecDepth 1000000 in
theorem open_tree : ∀ (fuel : Nat), (∀ cs (x : DataW H × List MemPlace), DataW.trod enc Tryd.prog w base spare held fuel 22 cs = some x → ∃ a n c t, cs = [.slice a n c] ∧ TAt (· < w.heap.size) w true t a 0 n ∧ n ≤ maxLen ∧ t.bnd) ∧
    (∀ cs (x : DataW H × List MemPlace), DataW.trod enc Tryd.prog w base spare held fuel 69 cs = some x → ∃ a n c t, cs = [.slice a n c] ∧ TAt (· < w.heap.size) w false t a 0 n ∧ n ≤ maxLen ∧ t.bnd) := by
  intro fuel
  induction fuel using Nat.strongRecOn with
  | ind fuel ih =>
  refine ⟨fun cs x h => ?_, fun cs x h => ?_⟩
  · rcases DataW.trod_slice Tryd.underlying22 h with ⟨rfl, _⟩ | ⟨ad, len, cap, elems, rest, n, hf, rfl, _, _, hl, hm, hel, hx, _, _⟩
    · exact ⟨none, 0, 0, .e, rfl, rfl, by unfold maxLen; omega, trivial⟩
    · by_cases h0 : len = 0
      · subst h0
        exact ⟨_, _, _, .e, rfl, rfl, by omega, trivial⟩
      obtain ⟨b, off, spot⟩ := ad
      have cellOf : ∀ i, i < len → ∃ v, w.cell? ((⟨b, off, spot⟩ : Addr).add (i * 1)) = some v ∧ ∃ y : DataW H × List MemPlace, DataW.trod enc Tryd.prog w base spare held n 71 [v] = some y := by
        intro i hi
        have h1 := hx i hi
        rw [Tryd.cells71, List.getElem?_eq_getElem (by omega), Option.bind_eq_some_iff] at h1
        obtain ⟨cs', h2, h3⟩ := h1
        obtain ⟨_, hlen, hcell⟩ := World.cells?_some h2
        match cs', hlen with
        | [v], _ =>
          have := hcell 0 (by omega)
          rw [Go.Deep.add_add] at this
          exact ⟨v, by simpa using this, _, h3⟩
      have hspot : spot = none := by
        obtain ⟨v, hv, _⟩ := cellOf 0 (by omega)
        simpa [Addr.add] using World.cell?_spot hv
      subst hspot
      have hall : ∀ j, 0 ≤ j → j < len → BdAt w b off j := by
        intro j _ hj
        obtain ⟨v, hv, y, hy⟩ := cellOf j hj
        obtain ⟨xs, n', hn', _, _, hxl, hfs⟩ := DataW.trod_struct Tryd.underlying71 hy
        have g := hfs 0 _ rfl
        simp [Tryd.cells69] at g
        rw [List.getElem?_eq_getElem (by simp at hxl; omega)] at g
        obtain ⟨a2, n2, c2, t2, e2, ht2, hn2, hb2⟩ := (ih n' (by omega)).2 _ _ g
        simp at e2
        subst e2
        rw [add_plain, Nat.mul_one] at hv
        exact ⟨a2, n2, c2, t2, hv, ht2, hn2, hb2⟩
      obtain ⟨t, ht, hb⟩ := build_b b off len len 0 (by omega) hall
      exact ⟨_, _, _, t, rfl, ht, by omega, hb⟩
  · rcases DataW.trod_slice Tryd.underlying69 h with ⟨rfl, _⟩ | ⟨ad, len, cap, elems, rest, n, hf, rfl, _, _, hl, hm, hel, hx, _, _⟩
    · exact ⟨none, 0, 0, .e, rfl, rfl, by unfold maxLen; omega, trivial⟩
    · by_cases h0 : len = 0
      · subst h0
        exact ⟨_, _, _, .e, rfl, rfl, by omega, trivial⟩
      obtain ⟨b, off, spot⟩ := ad
      have cellOf : ∀ i, i < len → ∃ v0 v1 v2 v3 v4 v5, (∀ j, j < 6 → w.cell? ((⟨b, off, spot⟩ : Addr).add (i * 6 + j)) = ([v0, v1, v2, v3, v4, v5] : List Value)[j]?) ∧ ∃ y : DataW H × List MemPlace, DataW.trod enc Tryd.prog w base spare held n 68 [v0, v1, v2, v3, v4, v5] = some y := by
        intro i hi
        have h1 := hx i hi
        rw [Tryd.cells68, List.getElem?_eq_getElem (by omega), Option.bind_eq_some_iff] at h1
        obtain ⟨cs', h2, h3⟩ := h1
        obtain ⟨_, hlen, hcell⟩ := World.cells?_some h2
        match cs', hlen with
        | [v0, v1, v2, v3, v4, v5], _ =>
          refine ⟨v0, v1, v2, v3, v4, v5, fun j hj => ?_, _, h3⟩
          have := hcell j hj
          rwa [Go.Deep.add_add] at this
      have hspot : spot = none := by
        obtain ⟨v0, v1, v2, v3, v4, v5, hv, _⟩ := cellOf 0 (by omega)
        have := hv 0 (by omega)
        simpa [Addr.add] using World.cell?_spot this
      subst hspot
      have hall : ∀ j, 0 ≤ j → j < len → NdAt w b off j := by
        intro j _ hj
        obtain ⟨v0, v1, v2, v3, v4, v5, hv, y, hy⟩ := cellOf j hj
        obtain ⟨xs, n', hn', _, _, hxl, hfs⟩ := DataW.trod_struct Tryd.underlying68 hy
        have hx6 : xs.length = 6 := by simpa using hxl
        have g0 := hfs 0 _ rfl
        have g1 := hfs 1 _ rfl
        have g2 := hfs 2 _ rfl
        have g3 := hfs 3 _ rfl
        have g4 := hfs 4 _ rfl
        have g5 := hfs 5 _ rfl
        simp [Tryd.cells9'] at g0 g1
        simp [Tryd.cells66] at g2
        simp [Tryd.cells4] at g3 g4
        simp [Tryd.cells22] at g5
        rw [List.getElem?_eq_getElem (by omega)] at g0 g1 g2 g3 g4 g5
        obtain ⟨s0, e0, _, z0⟩ := DataW.trod_string Tryd.underlying9 g0
        obtain ⟨s1, e1, _, z1⟩ := DataW.trod_string Tryd.underlying9 g1
        obtain ⟨a2, n2, c2, xs2, e2, hs2, z2, z2'⟩ := open_texts g2
        obtain ⟨b3, e3, _⟩ := DataW.trod_bool Tryd.underlying4 g3
        obtain ⟨b4, e4, _⟩ := DataW.trod_bool Tryd.underlying4 g4
        obtain ⟨a5, n5, c5, t5, e5, ht5, z5, hb5⟩ := (ih n' (by omega)).1 _ _ g5
        simp only [List.cons.injEq, and_true] at e0 e1 e2 e3 e4 e5
        subst e0 e1 e2 e3 e4 e5
        have k : ∀ q, q < 6 → w.cell? ⟨b, off + j * 6 + q, none⟩ = ([.string s0, .string s1, .slice a2 n2 c2, .bool b3, .bool b4, .slice a5 n5 c5] : List Value)[q]? := fun q hq => by
          have := hv q hq
          rwa [add_plain, ← Nat.add_assoc] at this
        refine ⟨⟨s0.data.toList, s1.data.toList, xs2, b3, b4⟩, t5, a2, n2, c2, a5, n5, c5, ?_, ?_, k 2 (by omega), k 3 (by omega), k 4 (by omega), k 5 (by omega), hs2, ht5, ?_, ?_, z2, z2', z5, hb5⟩
        · rw [ba_list]; exact k 0 (by omega)
        · rw [ba_list]; exact k 1 (by omega)
        · show s0.data.toList.length ≤ maxLen; rw [Array.length_toList]; exact z0
        · show s1.data.toList.length ≤ maxLen; rw [Array.length_toList]; exact z1
      obtain ⟨t, ht, hb⟩ := build_n b off len len 0 (by omega) hall
      exact ⟨_, _, _, t, rfl, ht, by omega, hb⟩

set_option maxRecDepth 1000000 in
/-- A saga that came in. -/
theorem open_saga {fuel : Nat} {cs : List Value} {x : DataW H × List MemPlace} (h : DataW.trod enc Tryd.prog w base spare held fuel 24 cs = some x) :
    ∃ (nm : By) (a : Option Addr) (n c : Nat) (t : Tr), cs = [.string ⟨nm.toArray⟩, .slice a n c] ∧ TAt (· < w.heap.size) w true t a 0 n ∧ n ≤ maxLen ∧ t.bnd ∧ nm.length ≤ maxLen := by
  obtain ⟨xs, n', _, _, hcl, hxl, hfs⟩ := DataW.trod_struct Tryd.underlying24 h
  rw [Tryd.cells24] at hcl
  have hx2 : xs.length = 2 := by simpa using hxl
  match cs, hcl with
  | [v0, v1], _ =>
    have g0 := hfs 0 _ rfl
    have g1 := hfs 1 _ rfl
    simp [Tryd.cells9'] at g0
    simp [Tryd.cells22] at g1
    rw [List.getElem?_eq_getElem (by omega)] at g0 g1
    obtain ⟨s0, e0, _, z0⟩ := DataW.trod_string Tryd.underlying9 g0
    obtain ⟨a, n, c, t, e1, ht, hn, hb⟩ := (open_tree n').1 _ _ g1
    simp only [List.cons.injEq, and_true] at e0 e1
    subst e0 e1
    exact ⟨s0.data.toList, a, n, c, t, by rw [ba_list], ht, hn, hb, by rw [Array.length_toList]; exact z0⟩

end Go.Proofs.YtephkdocfhajiaaDoor.Sx

/- The laid table; plans that came in. -/
namespace Go.Proofs.YtephkdocfhajiaaDoor
open Go.ChangeShapes Go.WideShapes Go.ChangeAt Go.RowKit Go.Shelf Go.Proofs.YtephkdocfhajiaaDoor.Sx

theorem own : ownKnob Tryd.prog.godebug = none := by kernel_rfl
theorem laidOut : laidOutB Tryd.prog = true := by kernel_rfl
theorem gTab : Tryd.prog.globalNamed "math/bits.deBruijn64tab" = some 0 := by kernel_rfl
theorem tTab : (Tryd.prog.globals[0]?).map (·.type) = some 138 := by kernel_rfl
theorem uTab : Tryd.prog.underlying 138 = some (.array 64 5) := by kernel_rfl
theorem u5 : Tryd.prog.underlying 5 = some (.int .u8) := by kernel_rfl
theorem c5 : Tryd.prog.cellsOf 5 = 1 := by kernel_rfl
theorem c3 : Tryd.prog.cellsOf 3 = 1 := by kernel_rfl

theorem door_met (os : Os) (args : Array Value) : laidMetH Tryd.prog [("math/bits.deBruijn64tab", Rows.laid_math_bits_deBruijn64tab)] ((World.doorLaid Tryd.prog 400 os).forCall (fun _ _ => 0) ⟨#[], args, []⟩).memory :=
  laidMetH_of_parts3 (fuel := 8) (laidMet_of_run' 8 (by kernel_rfl) (by kernel_rfl)) (by kernel_rfl) (by kernel_rfl)

theorem tab_form : (Rows.laid_math_bits_deBruijn64tab : DataW Unit) = .agg (Lib.deBruijn64tab.map fun (n : Nat) => .lit (.int .u8 (n : Int))) := rfl

theorem tab_of_laid {W : World} (h : laidMetH Tryd.prog [("math/bits.deBruijn64tab", Rows.laid_math_bits_deBruijn64tab)] W) : Dg.Tab W := by
  rw [MakeChecks.laidMetH_plain _ _ _ (by kernel_rfl)] at h
  obtain ⟨ps, ⟨g0, t0, cs0, f0, p0, q0, hg0, ht0, hv0, hd0, _, _⟩, _, _⟩ := h
  obtain rfl := Option.some.inj (gTab.symm.trans hg0)
  obtain rfl := Option.some.inj (tTab.symm.trans ht0)
  obtain ⟨xs, m1, rfl, hx1, hlen, hn, hel⟩ := DataW.trod_array uTab hd0
  rw [tab_form] at hx1
  simp only [Prod.mk.injEq, DataW.agg.injEq] at hx1
  have htl : Lib.deBruijn64tab.length = 64 := rfl
  intro j hj
  rw [htl] at hj
  obtain ⟨x, hx⟩ : ∃ x, xs[j]? = some x := ⟨_, List.getElem?_eq_getElem (by omega)⟩
  have h1 := hel j hj
  rw [hx, c5] at h1
  obtain ⟨k, e1, e2, _⟩ := DataW.trod_int u5 h1
  have h2 := congrArg (fun l => l[j]?) hx1.1
  simp only [List.getElem?_map, hx, Option.map_some] at h2
  have h3 : Lib.deBruijn64tab[j]? = some (Lib.deBruijn64tab.getD j 0) := by rw [List.getD_eq_getElem?_getD, List.getElem?_eq_getElem (by omega)]; rfl
  rw [h3, e2] at h2
  simp only [Option.map_some, Option.some.injEq, DataW.lit.injEq, Lit.int.injEq, true_and] at h2
  rw [World.var?_cell hg0 hv0 j, ← Array.getElem?_toList, h2]
  have h4 := congrArg (fun l => l[0]?) e1
  simp only [Nat.mul_one] at h4
  rw [List.getElem?_take_of_lt (by omega), List.getElem?_drop] at h4
  simpa using h4

theorem c43 : Tryd.prog.cellsOf 43 = 8 := by kernel_rfl
theorem c27 : Tryd.prog.cellsOf 27 = 1 := by kernel_rfl
theorem c25 : Tryd.prog.cellsOf 25 = 1 := by kernel_rfl
theorem c41 : Tryd.prog.cellsOf 41 = 1 := by kernel_rfl

variable {H : Type} {enc : TypeId × Value → H} {w : World} {base : Nat} {spare : Nat → Bool} {held : Bool}

theorem open_ns {fuel : Nat} {cs : List Value} {x : DataW H × List MemPlace} (h : DataW.trod enc Tryd.prog w base spare held fuel 41 cs = some x) : ∃ a n c l, cs = [.slice a n c] ∧ RdZ w (.slice a n c) l ∧ l.length ≤ maxLen := by
  rcases open_ints Tryd.underlying41 Tryd.underlying3 (by kernel_rfl) h with ⟨hcs, _⟩ | ⟨x, l, c, zs, hcs, _, hl, hm, hz, _, hcell, hwz⟩
  · exact ⟨none, 0, 0, [], hcs, ⟨none, 0, rfl, Nat.le_refl _, fun i x hx => by simp at hx⟩, by simp⟩
  · have hlz : l ≤ zs.length := by rw [hz]; split <;> omega
    have hlen : (zs.take l).length = l := by simp; omega
    refine ⟨some x, l, c, zs.take l, hcs, ⟨some x, c, by rw [hlen], by rw [hlen]; exact hl, fun i y hi => ?_⟩, by rw [hlen]; omega⟩
    have hil : i < l := by have := (List.getElem?_eq_some_iff.1 hi).1; omega
    obtain ⟨b, off, rfl, hcc⟩ := ints_at hcell (by omega)
    refine ⟨b, off, rfl, ?_⟩
    rw [hcc i (by omega), List.getD_eq_getElem?_getD]
    rw [List.getElem?_take, if_pos hil] at hi
    rw [hi]
    rfl

set_option maxRecDepth 1000000 in
theorem open_item {fuel : Nat} {cs : List Value} {x : DataW H × List MemPlace} (h : DataW.trod enc Tryd.prog w base spare held fuel 43 cs = some x) :
    ∃ (y : It) (a : Option Addr) (n c : Nat), cs = [.string ⟨y.name.toArray⟩, .string ⟨y.undo.toArray⟩, .bool y.sub, .bool y.vital, .int .i64 y.alts, .int .i64 y.inn, .int .i64 y.alt, .slice a n c] ∧ RdZ w (.slice a n c) y.after ∧ y.name.length ≤ maxLen ∧ y.undo.length ≤ maxLen ∧ y.after.length ≤ maxLen := by
  obtain ⟨xs, n', hn', _, hcl, hxl, hfs⟩ := DataW.trod_struct Tryd.underlying43 h
  rw [c43] at hcl
  have hx8 : xs.length = 8 := by simpa using hxl
  match cs, hcl with
  | [v0, v1, v2, v3, v4, v5, v6, v7], _ =>
    have g0 := hfs 0 _ rfl
    have g1 := hfs 1 _ rfl
    have g2 := hfs 2 _ rfl
    have g3 := hfs 3 _ rfl
    have g4 := hfs 4 _ rfl
    have g5 := hfs 5 _ rfl
    have g6 := hfs 6 _ rfl
    have g7 := hfs 7 _ rfl
    simp [Tryd.cells9', Tryd.cells4, c3, c41] at g0 g1 g2 g3 g4 g5 g6 g7
    rw [List.getElem?_eq_getElem (by omega)] at g0 g1 g2 g3 g4 g5 g6 g7
    obtain ⟨s0, e0, _, z0⟩ := DataW.trod_string Tryd.underlying9 g0
    obtain ⟨s1, e1, _, z1⟩ := DataW.trod_string Tryd.underlying9 g1
    obtain ⟨b2, e2, _⟩ := DataW.trod_bool Tryd.underlying4 g2
    obtain ⟨b3, e3, _⟩ := DataW.trod_bool Tryd.underlying4 g3
    obtain ⟨n4, e4, _, z4⟩ := DataW.trod_int Tryd.underlying3 g4
    obtain ⟨n5, e5, _, z5⟩ := DataW.trod_int Tryd.underlying3 g5
    obtain ⟨n6, e6, _, z6⟩ := DataW.trod_int Tryd.underlying3 g6
    obtain ⟨a7, m7, c7, l7, e7, h7, z7⟩ := open_ns g7
    simp only [List.cons.injEq, and_true] at e0 e1 e2 e3 e4 e5 e6 e7
    subst e0 e1 e2 e3 e4 e5 e6 e7
    refine ⟨⟨s0.data.toList, s1.data.toList, b2, b3, n4, n5, n6, l7⟩, a7, m7, c7, by rw [ba_list, ba_list], h7, ?_, ?_, z7⟩
    · show s0.data.toList.length ≤ maxLen; rw [Array.length_toList]; exact z0
    · show s1.data.toList.length ≤ maxLen; rw [Array.length_toList]; exact z1

instance : Inhabited (It × Option Addr × Nat × Nat) := ⟨(⟨[], [], false, false, 0, 0, 0, []⟩, none, 0, 0)⟩

set_option maxRecDepth 1000000 in
theorem open_items {fuel : Nat} {cs : List Value} {x : DataW H × List MemPlace} (h : DataW.trod enc Tryd.prog w base spare held fuel 25 cs = some x) :
    ∃ a n c its, cs = [.slice a n c] ∧ RdIt w (.slice a n c) its ∧ its.length ≤ maxLen ∧ ∀ y ∈ its, y.name.length ≤ maxLen ∧ y.undo.length ≤ maxLen ∧ y.after.length ≤ maxLen := by
  rcases Go.Deep.open_slice Tryd.underlying25 h with ⟨hcs, _⟩ | ⟨ad, len, cap, m, n, D, Pl, hcs, hb, hl, hm, hmm, rfl, hx⟩
  · exact ⟨none, 0, 0, [], hcs, ⟨none, 0, rfl, Nat.le_refl _, fun i x hx => by simp at hx⟩, by simp, fun y hy => by cases hy⟩
  · have hlm : len ≤ m := by rw [hmm]; split <;> omega
    have each : ∀ i, i < len → ∃ t : It × Option Addr × Nat × Nat, (∀ q, q < 8 → w.cell? (ad.add (i * 8 + q)) = ([.string ⟨t.1.name.toArray⟩, .string ⟨t.1.undo.toArray⟩, .bool t.1.sub, .bool t.1.vital, .int .i64 t.1.alts, .int .i64 t.1.inn, .int .i64 t.1.alt, .slice t.2.1 t.2.2.1 t.2.2.2] : List Value)[q]?) ∧ RdZ w (.slice t.2.1 t.2.2.1 t.2.2.2) t.1.after ∧ t.1.name.length ≤ maxLen ∧ t.1.undo.length ≤ maxLen ∧ t.1.after.length ≤ maxLen := by
      intro i hi
      obtain ⟨cs', h1, h2⟩ := hx i (by omega)
      rw [c43] at h1
      obtain ⟨_, hlen, hcell⟩ := World.cells?_some h1
      obtain ⟨y, a, n, c, rfl, q1, q2, q3, q4⟩ := open_item h2
      refine ⟨(y, a, n, c), fun q hq => ?_, q1, q2, q3, q4⟩
      have := hcell q (by omega)
      rwa [Go.Deep.add_add] at this
    obtain ⟨q, hq⟩ := Go.Deep.choose_lt each
    refine ⟨some ad, len, cap, (List.range len).map fun i => (q i).1, hcs, ⟨some ad, cap, by simp, by simpa using hl, fun i t hi => ?_⟩, by simp; omega, fun t ht => ?_⟩
    · have hil : i < len := by have := (List.getElem?_eq_some_iff.1 hi).1; simpa using this
      have ht : t = (q i).1 := by simp [hil] at hi; exact hi.symm
      subst ht
      obtain ⟨b, off, spot⟩ := ad
      have hspot : spot = none := by
        have := (hq 0 (by omega)).1 0 (by omega)
        simpa [Addr.add] using World.cell?_spot this
      subst hspot
      obtain ⟨k, r, _⟩ := hq i hil
      have k2 : ∀ j, j < 8 → w.cell? ⟨b, off + i * 8 + j, none⟩ = ([.string ⟨(q i).1.name.toArray⟩, .string ⟨(q i).1.undo.toArray⟩, .bool (q i).1.sub, .bool (q i).1.vital, .int .i64 (q i).1.alts, .int .i64 (q i).1.inn, .int .i64 (q i).1.alt, .slice (q i).2.1 (q i).2.2.1 (q i).2.2.2] : List Value)[j]? := fun j hj => by
        have := k j hj
        rwa [add_plain, ← Nat.add_assoc] at this
      exact ⟨b, off, _, _, _, rfl, k2 0 (by omega), k2 1 (by omega), k2 2 (by omega), k2 3 (by omega), k2 4 (by omega), k2 5 (by omega), k2 6 (by omega), k2 7 (by omega), r⟩
    · obtain ⟨i, hi, rfl⟩ := List.mem_map.1 ht
      exact (hq i (by simpa using hi)).2.2

set_option maxRecDepth 1000000 in
theorem open_plan {fuel : Nat} {cs : List Value} {x : DataW H × List MemPlace} (h : DataW.trod enc Tryd.prog w base spare held fuel 27 cs = some x) :
    ∃ a n c its, cs = [.slice a n c] ∧ RdIt w (.slice a n c) its ∧ its.length ≤ maxLen ∧ ∀ y ∈ its, y.name.length ≤ maxLen ∧ y.undo.length ≤ maxLen ∧ y.after.length ≤ maxLen := by
  obtain ⟨xs, n', _, _, hcl, hxl, hfs⟩ := DataW.trod_struct Tryd.underlying27 h
  rw [c27] at hcl
  have hx1 : xs.length = 1 := by simpa using hxl
  match cs, hcl with
  | [v0], _ =>
    have g0 := hfs 0 _ rfl
    simp [c25] at g0
    rw [List.getElem?_eq_getElem (by omega)] at g0
    exact open_items g0
end Go.Proofs.YtephkdocfhajiaaDoor

