/- Texts of the seat, packed: Bk Bl Co Ck. -/
import Derived.Test.YteghapmlnkhepaaDoorP02
import Derived.Test.YteghapmlnkhepaaDoorP07
import Derived.Test.YteghapmlnkhepaaDoorRows
import Derived.Deep.SlicePairs
import Derived.Deep.Strs
import Derived.OpenShut
import Derived.Test.YteghapmlnkhepaaDoorP27
import Derived.Test.YteghapmlnkhepaaDoorP29
import Derived.Test.YteghapmlnkhepaaDoorP28
import Derived.Test.YteghapmlnkhepaaDoorP16
import Derived.Test.YteghapmlnkhepaaDoorP38
import Derived.Test.YteghapmlnkhepaaDoorP33
/- A saga that came in is a finite tree, no greater than what was read. -/
namespace Go.Proofs.YteghapmlnkhepaaDoor.Sx

open Go.RowKit Go.ChangeShapes Go.WideShapes

theorem Tryd.cells71 : Tryd.prog.cellsOf 71 = 6 := by kernel_rfl

theorem Tryd.cells87 : Tryd.prog.cellsOf 87 = 1 := by kernel_rfl

theorem Tryd.cells24 : Tryd.prog.cellsOf 24 = 2 := by kernel_rfl

theorem Tryd.cells22 : Tryd.prog.cellsOf 22 = 1 := by kernel_rfl

theorem Tryd.cells85 : Tryd.prog.cellsOf 85 = 1 := by kernel_rfl

theorem Tryd.cells69 : Tryd.prog.cellsOf 69 = 1 := by kernel_rfl

theorem Tryd.cells9b : Tryd.prog.cellsOf 9 = 1 := by kernel_rfl

theorem Tryd.cells4b : Tryd.prog.cellsOf 4 = 1 := by kernel_rfl

/-- Letters and texts of a list. -/
def afB (l : List By) : Nat := (l.map fun y => y.length + 1).sum

/-- What a tree holds. -/
def bkT : Tr → Nat
  | .e => 0
  | .b x r => bkT x + bkT r + 1
  | .n l t r => l.name.length + l.undo.length + afB l.after + bkT t + bkT r + 7

theorem ba_list2 (s : ByteArray) : (⟨s.data.toList.toArray⟩ : ByteArray) = s := by cases s; simp

variable {H : Type} {enc : TypeId × Value → H} {w : World} {base : Nat} {spare : Nat → Bool} {held : Bool}

theorem bk_lit (s : List UInt8) : Rows.uptoBulk (.lit (.string s) : DataW H) = s.length + 1 := by simp [Rows.uptoBulk]

theorem bk_nil : Rows.uptoBulk (.nil : DataW H) = 1 := by simp [Rows.uptoBulk]

theorem bk_slice (a b : List (DataW H)) : Rows.uptoBulk (.slice a b : DataW H) = Rows.uptoBulkAll a + Rows.uptoBulkAll b + 1 := by simp [Rows.uptoBulk]

theorem bk_agg (a : List (DataW H)) : Rows.uptoBulk (.agg a : DataW H) = Rows.uptoBulkAll a + 1 := by simp [Rows.uptoBulk]

theorem bk_all0 : Rows.uptoBulkAll ([] : List (DataW H)) = 0 := by simp [Rows.uptoBulkAll]

theorem bk_all1 (d : DataW H) (r : List (DataW H)) : Rows.uptoBulkAll (d :: r) = Rows.uptoBulk d + Rows.uptoBulkAll r := by simp [Rows.uptoBulkAll]

theorem bk_pos (d : DataW H) : 1 ≤ Rows.uptoBulk d := by
  unfold Rows.uptoBulk
  split <;> omega

theorem bk_texts (f : Nat → ByteArray) : ∀ l : List Nat, Rows.uptoBulkAll (l.map fun i => (.lit (.string (f i).data.toList) : DataW H)) = afB (l.map fun i => (f i).data.toList)
  | [] => by simp [bk_all0, afB]
  | i :: l => by rw [List.map_cons, List.map_cons, bk_all1, bk_lit, bk_texts f l]; simp [afB]

theorem open_textsB {fuel : Nat} {cs : List Value} {x : DataW H × List MemPlace} (h : DataW.trod enc Tryd.prog w base spare held fuel 69 cs = some x) :
    ∃ a n c xs, cs = [.slice a n c] ∧ SAt (· < w.heap.size) w xs a n ∧ afB xs + 1 ≤ Rows.uptoBulk x.1 := by
  rcases Go.Deep.open_strs Tryd.underlying69 Tryd.underlying9 (by kernel_rfl) h with ⟨hcs, rfl⟩ | ⟨ad, l, c, m, Sx, hcs, _, hl, hm, hmm, rfl, hcell⟩
  · exact ⟨none, 0, 0, [], hcs, ⟨rfl, by simp⟩, by rw [bk_nil]; simp [afB]⟩
  · have hlm : l ≤ m := by rw [hmm]; split <;> omega
    refine ⟨some ad, l, c, (List.range l).map fun i => (Sx i).data.toList, hcs, ⟨by simp, fun i y hi => ?_⟩, ?_⟩
    · have hil : i < l := by have := (List.getElem?_eq_some_iff.1 hi).1; simpa using this
      have hy : y = (Sx i).data.toList := by simp [hil] at hi; exact hi.symm
      subst hy
      obtain ⟨b, off, spot⟩ := ad
      have hspot : spot = none := by simpa [Addr.add] using World.cell?_spot (hcell 0 (by omega)).1
      subst hspot
      have hc := (hcell i (by omega)).1
      rw [add_plain] at hc
      exact ⟨b, off, rfl, lt_of_cell? hc, by rw [ba_list2]; exact hc⟩
    · show _ ≤ Rows.uptoBulk (DataW.slice _ _)
      rw [bk_slice, bk_texts]
      omega

/-- What a body's cell says. -/
def BdB (w : World) (b off i k : Nat) : Prop := ∃ v m c x, w.cell? ⟨b, off + i, none⟩ = some (.slice v m c) ∧ TAt (· < w.heap.size) w false x v 0 m ∧ bkT x + 1 ≤ k

def NdB (w : World) (b off i k : Nat) : Prop := ∃ (l : Lab) (t : Tr) (sv : Option Addr) (sm sc : Nat) (av : Option Addr) (am ac : Nat), w.cell? ⟨b, off + i * 6, none⟩ = some (.string ⟨l.name.toArray⟩) ∧ w.cell? ⟨b, off + i * 6 + 1, none⟩ = some (.string ⟨l.undo.toArray⟩) ∧
  w.cell? ⟨b, off + i * 6 + 2, none⟩ = some (.slice sv sm sc) ∧ w.cell? ⟨b, off + i * 6 + 3, none⟩ = some (.bool l.sub) ∧ w.cell? ⟨b, off + i * 6 + 4, none⟩ = some (.bool l.vital) ∧ w.cell? ⟨b, off + i * 6 + 5, none⟩ = some (.slice av am ac) ∧
  SAt (· < w.heap.size) w l.after sv sm ∧ TAt (· < w.heap.size) w true t av 0 am ∧ l.name.length + l.undo.length + afB l.after + bkT t + 7 ≤ k

theorem build_bB (b off n : Nat) (es : List (DataW H × List MemPlace)) (hn : es.length = n) : ∀ k i, i + k = n → (∀ j y, i ≤ j → es[j]? = some y → BdB w b off j (Rows.uptoBulk y.1)) → ∃ t, TAt (· < w.heap.size) w true t (some ⟨b, off, none⟩) i n ∧ bkT t ≤ Rows.uptoBulkAll ((es.drop i).map (·.1)) := by
  intro k
  induction k with
  | zero => intro i hi _; exact ⟨.e, by show i = n; omega, Nat.zero_le _⟩
  | succ k ih =>
    intro i hi h
    obtain ⟨r, hr, hrb⟩ := ih (i + 1) (by omega) (fun j y h1 h2 => h j y (by omega) h2)
    have hl : i < es.length := by omega
    obtain ⟨v, m, c, x, h1, h2, h3⟩ := h i es[i] (Nat.le_refl _) (List.getElem?_eq_getElem hl)
    refine ⟨.b x r, ⟨rfl, by omega, ⟨b, off, v, m, c, rfl, lt_of_cell? h1, h1, h2⟩, hr⟩, ?_⟩
    rw [List.drop_eq_getElem_cons hl, List.map_cons, bk_all1]
    show bkT x + bkT r + 1 ≤ _
    omega

theorem build_nB (b off n : Nat) (es : List (DataW H × List MemPlace)) (hn : es.length = n) : ∀ k i, i + k = n → (∀ j y, i ≤ j → es[j]? = some y → NdB w b off j (Rows.uptoBulk y.1)) → ∃ t, TAt (· < w.heap.size) w false t (some ⟨b, off, none⟩) i n ∧ bkT t ≤ Rows.uptoBulkAll ((es.drop i).map (·.1)) := by
  intro k
  induction k with
  | zero => intro i hi _; exact ⟨.e, by show i = n; omega, Nat.zero_le _⟩
  | succ k ih =>
    intro i hi h
    obtain ⟨r, hr, hrb⟩ := ih (i + 1) (by omega) (fun j y h1 h2 => h j y (by omega) h2)
    have hl : i < es.length := by omega
    obtain ⟨l, t, sv, sm, sc, av, am, ac, c0, c1, c2, c3, c4, c5, h1, h2, b1⟩ := h i es[i] (Nat.le_refl _) (List.getElem?_eq_getElem hl)
    refine ⟨.n l t r, ⟨rfl, by omega, ⟨b, off, sv, sm, sc, av, am, ac, rfl, lt_of_cell? c0, c0, c1, c2, c3, c4, c5, h1, h2⟩, hr⟩, ?_⟩
    rw [List.drop_eq_getElem_cons hl, List.map_cons, bk_all1]
    show l.name.length + l.undo.length + afB l.after + bkT t + bkT r + 7 ≤ _
    omega

set_option maxRecDepth 1000000 in
theorem open_treeB : ∀ (fuel : Nat), (∀ cs (x : DataW H × List MemPlace), DataW.trod enc Tryd.prog w base spare held fuel 22 cs = some x → ∃ a n c t, cs = [.slice a n c] ∧ TAt (· < w.heap.size) w true t a 0 n ∧ bkT t + 1 ≤ Rows.uptoBulk x.1) ∧
    (∀ cs (x : DataW H × List MemPlace), DataW.trod enc Tryd.prog w base spare held fuel 85 cs = some x → ∃ a n c t, cs = [.slice a n c] ∧ TAt (· < w.heap.size) w false t a 0 n ∧ bkT t + 1 ≤ Rows.uptoBulk x.1) := by
  intro fuel
  induction fuel using Nat.strongRecOn with
  | ind fuel ih =>
  refine ⟨fun cs x h => ?_, fun cs x h => ?_⟩
  · rcases DataW.trod_slice Tryd.underlying22 h with ⟨rfl, rfl⟩ | ⟨ad, len, cap, elems, rest, n, hf, rfl, rfl, _, hl, hm, hel, hx, _, _⟩
    · exact ⟨none, 0, 0, .e, rfl, rfl, by rw [bk_nil]; exact Nat.le_refl _⟩
    · by_cases h0 : len = 0
      · subst h0
        exact ⟨_, _, _, .e, rfl, rfl, by show 0 + 1 ≤ Rows.uptoBulk (DataW.slice _ _); rw [bk_slice]; omega⟩
      obtain ⟨b, off, spot⟩ := ad
      have cellOf : ∀ i y, elems[i]? = some y → ∃ v, w.cell? ((⟨b, off, spot⟩ : Addr).add (i * 1)) = some v ∧ DataW.trod enc Tryd.prog w base spare held n 87 [v] = some y := by
        intro i y hy
        have hi : i < len := by rw [← hel]; exact (List.getElem?_eq_some_iff.1 hy).1
        have h1 := hx i hi
        rw [Tryd.cells87, hy, Option.bind_eq_some_iff] at h1
        obtain ⟨cs', h2, h3⟩ := h1
        obtain ⟨_, hlen, hcell⟩ := World.cells?_some h2
        match cs', hlen with
        | [v], _ =>
          have := hcell 0 (by omega)
          rw [Go.Deep.add_add] at this
          exact ⟨v, by simpa using this, h3⟩
      have hspot : spot = none := by
        obtain ⟨v, hv, _⟩ := cellOf 0 _ (List.getElem?_eq_getElem (by omega))
        simpa [Addr.add] using World.cell?_spot hv
      subst hspot
      have hall : ∀ j y, 0 ≤ j → elems[j]? = some y → BdB w b off j (Rows.uptoBulk y.1) := by
        intro j y _ hj
        obtain ⟨v, hv, hy⟩ := cellOf j y hj
        obtain ⟨xs, n', hn', rfl, _, hxl, hfs⟩ := DataW.trod_struct Tryd.underlying87 hy
        have g := hfs 0 _ rfl
        simp [Tryd.cells85] at g
        have hx1 : xs.length = 1 := by simpa using hxl
        match xs, hx1 with
        | [d0], _ =>
          simp only [List.getElem?_cons_zero] at g
          obtain ⟨a2, n2, c2, t2, e2, ht2, hb2⟩ := (ih n' (by omega)).2 _ _ g
          simp at e2
          subst e2
          rw [add_plain, Nat.mul_one] at hv
          refine ⟨a2, n2, c2, t2, hv, ht2, ?_⟩
          show _ ≤ Rows.uptoBulk (DataW.agg _)
          rw [bk_agg, List.map_cons, bk_all1]
          omega
      obtain ⟨t, ht, hb⟩ := build_bB b off len elems hel len 0 (by omega) hall
      refine ⟨_, _, _, t, rfl, ht, ?_⟩
      show _ ≤ Rows.uptoBulk (DataW.slice _ _)
      rw [bk_slice]
      rw [List.drop_zero] at hb
      omega
  · rcases DataW.trod_slice Tryd.underlying85 h with ⟨rfl, rfl⟩ | ⟨ad, len, cap, elems, rest, n, hf, rfl, rfl, _, hl, hm, hel, hx, _, _⟩
    · exact ⟨none, 0, 0, .e, rfl, rfl, by rw [bk_nil]; exact Nat.le_refl _⟩
    · by_cases h0 : len = 0
      · subst h0
        exact ⟨_, _, _, .e, rfl, rfl, by show 0 + 1 ≤ Rows.uptoBulk (DataW.slice _ _); rw [bk_slice]; omega⟩
      obtain ⟨b, off, spot⟩ := ad
      have cellOf : ∀ i y, elems[i]? = some y → ∃ v0 v1 v2 v3 v4 v5, (∀ j, j < 6 → w.cell? ((⟨b, off, spot⟩ : Addr).add (i * 6 + j)) = ([v0, v1, v2, v3, v4, v5] : List Value)[j]?) ∧ DataW.trod enc Tryd.prog w base spare held n 71 [v0, v1, v2, v3, v4, v5] = some y := by
        intro i y hy
        have hi : i < len := by rw [← hel]; exact (List.getElem?_eq_some_iff.1 hy).1
        have h1 := hx i hi
        rw [Tryd.cells71, hy, Option.bind_eq_some_iff] at h1
        obtain ⟨cs', h2, h3⟩ := h1
        obtain ⟨_, hlen, hcell⟩ := World.cells?_some h2
        match cs', hlen with
        | [v0, v1, v2, v3, v4, v5], _ =>
          refine ⟨v0, v1, v2, v3, v4, v5, fun j hj => ?_, h3⟩
          have := hcell j hj
          rwa [Go.Deep.add_add] at this
      have hspot : spot = none := by
        obtain ⟨v0, v1, v2, v3, v4, v5, hv, _⟩ := cellOf 0 _ (List.getElem?_eq_getElem (by omega))
        have := hv 0 (by omega)
        simpa [Addr.add] using World.cell?_spot this
      subst hspot
      have hall : ∀ j y, 0 ≤ j → elems[j]? = some y → NdB w b off j (Rows.uptoBulk y.1) := by
        intro j y _ hj
        obtain ⟨v0, v1, v2, v3, v4, v5, hv, hy⟩ := cellOf j y hj
        obtain ⟨xs, n', hn', rfl, _, hxl, hfs⟩ := DataW.trod_struct Tryd.underlying71 hy
        have hx6 : xs.length = 6 := by simpa using hxl
        have g0 := hfs 0 _ rfl
        have g1 := hfs 1 _ rfl
        have g2 := hfs 2 _ rfl
        have g3 := hfs 3 _ rfl
        have g4 := hfs 4 _ rfl
        have g5 := hfs 5 _ rfl
        match xs, hx6 with
        | [d0, d1, d2, d3, d4, d5], _ =>
        simp [Tryd.cells9b] at g0 g1
        simp [Tryd.cells69] at g2
        simp [Tryd.cells4b] at g3 g4
        simp [Tryd.cells22] at g5
        obtain ⟨s0, e0, y0, z0⟩ := DataW.trod_string Tryd.underlying9 g0
        obtain ⟨s1, e1, y1, z1⟩ := DataW.trod_string Tryd.underlying9 g1
        obtain ⟨a2, n2, c2, xs2, e2, hs2, y2⟩ := open_textsB g2
        obtain ⟨b3, e3, _⟩ := DataW.trod_bool Tryd.underlying4 g3
        obtain ⟨b4, e4, _⟩ := DataW.trod_bool Tryd.underlying4 g4
        obtain ⟨a5, n5, c5, t5, e5, ht5, hb5⟩ := (ih n' (by omega)).1 _ _ g5
        simp only [List.cons.injEq, and_true] at e0 e1 e2 e3 e4 e5
        subst e0 e1 e2 e3 e4 e5
        have k : ∀ q, q < 6 → w.cell? ⟨b, off + j * 6 + q, none⟩ = ([.string s0, .string s1, .slice a2 n2 c2, .bool b3, .bool b4, .slice a5 n5 c5] : List Value)[q]? := fun q hq => by
          have := hv q hq
          rwa [add_plain, ← Nat.add_assoc] at this
        refine ⟨⟨s0.data.toList, s1.data.toList, xs2, b3, b4⟩, t5, a2, n2, c2, a5, n5, c5, ?_, ?_, k 2 (by omega), k 3 (by omega), k 4 (by omega), k 5 (by omega), hs2, ht5, ?_⟩
        · rw [ba_list2]; exact k 0 (by omega)
        · rw [ba_list2]; exact k 1 (by omega)
        · show _ ≤ Rows.uptoBulk (DataW.agg _)
          have p3 := bk_pos d3.1
          have p4 := bk_pos d4.1
          rw [bk_agg]
          simp only [List.map_cons, List.map_nil, bk_all1, bk_all0]
          rw [y0, y1, bk_lit, bk_lit]
          show s0.data.toList.length + s1.data.toList.length + afB xs2 + bkT t5 + 7 ≤ _
          omega
      obtain ⟨t, ht, hb⟩ := build_nB b off len elems hel len 0 (by omega) hall
      refine ⟨_, _, _, t, rfl, ht, ?_⟩
      show _ ≤ Rows.uptoBulk (DataW.slice _ _)
      rw [bk_slice]
      rw [List.drop_zero] at hb
      omega

set_option maxRecDepth 1000000 in
/-- A saga that came in. -/
theorem open_sagaB {fuel : Nat} {cs : List Value} {x : DataW H × List MemPlace} (h : DataW.trod enc Tryd.prog w base spare held fuel 24 cs = some x) :
    ∃ (nm : By) (a : Option Addr) (n c : Nat) (t : Tr), cs = [.string ⟨nm.toArray⟩, .slice a n c] ∧ TAt (· < w.heap.size) w true t a 0 n ∧ nm.length + bkT t + 3 ≤ Rows.uptoBulk x.1 := by
  obtain ⟨xs, n', _, rfl, hcl, hxl, hfs⟩ := DataW.trod_struct Tryd.underlying24 h
  rw [Tryd.cells24] at hcl
  have hx2 : xs.length = 2 := by simpa using hxl
  match cs, hcl with
  | [v0, v1], _ =>
    have g0 := hfs 0 _ rfl
    have g1 := hfs 1 _ rfl
    match xs, hx2 with
    | [d0, d1], _ =>
      simp [Tryd.cells9b] at g0
      simp [Tryd.cells22] at g1
      obtain ⟨s0, e0, y0, z0⟩ := DataW.trod_string Tryd.underlying9 g0
      obtain ⟨a, n, c, t, e1, ht, hb⟩ := (open_treeB n').1 _ _ g1
      simp only [List.cons.injEq, and_true] at e0 e1
      subst e0 e1
      refine ⟨s0.data.toList, a, n, c, t, by rw [ba_list2], ht, ?_⟩
      show _ ≤ Rows.uptoBulk (DataW.agg _)
      rw [bk_agg]
      simp only [List.map_cons, List.map_nil, bk_all1, bk_all0]
      rw [y0, bk_lit]
      omega

end Go.Proofs.YteghapmlnkhepaaDoor.Sx

/- What was read of a saga bears it. -/
namespace Go.Proofs.YteghapmlnkhepaaDoor

open Go.RowKit Go.Shelf Go.Proofs.YteghapmlnkhepaaDoor.Sx

set_option linter.unusedVariables false

theorem bk_szA (t : Tr) : szA t ≤ bkT t := by
  induction t with
  | e => exact Nat.le_refl _
  | b x r h1 h2 => simp only [szA, bkT]; omega
  | n l t r h1 h2 => simp only [szA, bkT]; omega

theorem bk_tw (t : Tr) : 7 * tw t ≤ bkT t := by
  induction t with
  | e => exact Nat.le_refl _
  | b x r h1 h2 => simp only [tw, bkT]; omega
  | n l t r h1 h2 => simp only [tw, bkT]; split <;> omega

theorem afB_len (l : List By) : l.length ≤ afB l := by
  induction l with
  | nil => exact Nat.le_refl _
  | cons y l ih => simp only [afB, List.map_cons, List.sum_cons, List.length_cons] at *; omega

theorem afB_mem {l : List By} {z : By} (h : z ∈ l) : z.length ≤ afB l := by
  induction l with
  | nil => cases h
  | cons y l ih =>
    simp only [afB, List.map_cons, List.sum_cons] at *
    rcases List.mem_cons.1 h with rfl | h
    · omega
    · have := ih h; omega

theorem bk_lab {B : Nat} (t : Tr) (h : bkT t ≤ B) : AllL (fun l => l.name.length ≤ B ∧ l.after.length ≤ B ∧ ∀ z ∈ l.after, z.length ≤ B) t := by
  induction t with
  | e => trivial
  | b x r h1 h2 => simp only [bkT] at h; exact ⟨h1 (by omega), h2 (by omega)⟩
  | n l t r h1 h2 =>
    simp only [bkT] at h
    have := afB_len l.after
    exact ⟨⟨by omega, by omega, fun z hz => by have := afB_mem hz; omega⟩, h1 (by omega), h2 (by omega)⟩

theorem Fair.bk {t : Tr} (h : bkT t ≤ 1048576) : Fair t := by
  have h0 := bk_szA t
  have h1 := dep_le t
  have h2 := bk_tw t
  have h3 := cntA_le t
  have h4 := sz_le t
  have h5 := fltn_le t 1
  have hl := AllL_mono (Q' := fun l => l.name.length ≤ 1100000 ∧ l.after.length ≤ 1100000 ∧ ∀ z ∈ l.after, z.length ≤ 1100000) (fun l q => ⟨by have := q.1; omega, by have := q.2.1; omega, fun z hz => by have := q.2.2 z hz; omega⟩) t (bk_lab t h)
  exact ⟨⟨by omega, by omega, ⟨by omega, AllL_afs t (AllL_mono (fun l h => h.2.1) t hl)⟩, by omega⟩, by omega, by omega, xsT_lab t 0 0 0 hl⟩

theorem plan_fairI {x : By} {t : Tr} {its : List It} (h : planT x t = some its) (hF : Fair t) (hx : x.length ≤ 1100000) : FairI its := by
  obtain ⟨hfit, _, _, he⟩ := planT_parts h
  have hcnt := fit_cnt hfit
  refine ⟨fun z hz => ?_, fun z hz => ?_⟩
  · obtain ⟨j, hj⟩ := List.mem_iff_getElem?.1 hz
    cases j with
    | zero =>
      rw [he, its2_root] at hj
      cases hj
      exact hx
    | succ j =>
      have hjl : j < (xsT t 0 0 0).length := by
        have := (List.getElem?_eq_some_iff.1 hj).1
        rw [he, its2_len] at this
        omega
      obtain ⟨y, hy⟩ : ∃ y, (xsT t 0 0 0)[j]? = some y := ⟨_, List.getElem?_eq_getElem hjl⟩
      obtain ⟨z', hz', hb, _⟩ := its2_at x t.len _ j y hy
      rw [← he, hj] at hz'
      cases hz'
      have hname : z.name = y.lab.name := congrArg It.name hb
      rw [hname]
      exact (hF.lab y (List.mem_of_getElem? hy)).1
  · rw [he] at hz
    have := (its2_after x t.len (xsT t 0 0 0) _ z hz).1
    rw [xsT_len] at this
    omega

/-- What the laws ask of a saga of no great bulk. -/
theorem saga_bears (x : By) (t : Tr) (a : Option Addr) (ac : Nat) (w : World) (hT : Dg.Tab w) (ht : TAt (· < w.heap.size) w true t a 0 t.len) (hx : x.length + bkT t ≤ 1048576) :
    (∀ wx, Below w.heap.size w wx → Calls Tryd.prog 6 #[.agg #[.string ⟨x.toArray⟩, .slice a t.len ac]] wx fun e w' => MakeC x t wx e w') ∧ (∀ its, planT x t = some its → FairI its) :=
  have hF := Fair.bk (t := t) (by omega)
  ⟨fun wx hb => Make_any wx x t a ac (TAt.later ht hb) hF (hT.later hb), fun its h => plan_fairI h hF (by omega)⟩

end Go.Proofs.YteghapmlnkhepaaDoor

/- Numbers that came in. -/
namespace Go.Proofs.YteghapmlnkhepaaDoor.Tk
open Go.ChangeShapes Go.WideShapes Go.ChangeAt Go.RowKit
set_option linter.unusedVariables false

variable {H : Type} {enc : TypeId × Value → H} {w : World} {base : Nat} {spare : Nat → Bool} {held : Bool}

set_option maxRecDepth 1000000 in
theorem open_ints {fuel : Nat} {a : Option Addr} {len cap : Nat} {x : DataW H × List MemPlace}
    (h : DataW.trod enc Tryd.prog w base spare held fuel 25 [.slice a len cap] = some x) : ∃ L : List Int, RdZ w (.slice a len cap) L ∧ L.length ≤ maxLen := by
  rcases Go.Deep.open_slice Tryd.underlying25 h with ⟨hcs, _⟩ | ⟨ad, l2, c2, m, n, D, Pl, hcs, hb, hl, hm, hmm, rfl, hx⟩
  · simp at hcs
    obtain ⟨rfl, rfl, rfl⟩ := hcs
    exact ⟨[], ⟨none, 0, rfl, Nat.le_refl _, by simp⟩, by unfold maxLen; simp⟩
  · simp at hcs
    obtain ⟨rfl, rfl, rfl⟩ := hcs
    have hlm : len ≤ m := by rw [hmm]; split <;> omega
    have each : ∀ i, i < len → ∃ t : Int, w.cell? (ad.add i) = some (.int .i64 t) := by
      intro i hi
      obtain ⟨cs', h1, h2⟩ := hx i (by omega)
      rw [c3] at h1
      obtain ⟨_, hlen, hcell⟩ := World.cells?_some h1
      obtain ⟨n0, e0, _, z0⟩ := DataW.trod_int Tryd.underlying3 h2
      subst e0
      have k0 := hcell 0 (by simp)
      rw [Go.Deep.add_add] at k0
      exact ⟨n0, by simpa using k0⟩
    obtain ⟨q, hq⟩ := Go.Deep.choose_lt each
    refine ⟨(List.range len).map fun i => q i, ⟨some ad, cap, by simp, by simpa using hl, fun i t hi => ?_⟩, by simp; omega⟩
    have hil : i < len := by have := (List.getElem?_eq_some_iff.1 hi).1; simpa using this
    have ht : t = q i := by simp [hil] at hi; exact hi.symm
    subst ht
    obtain ⟨b, off, spot⟩ := ad
    have hspot : spot = none := by simpa [Addr.add] using World.cell?_spot (hq 0 (by omega))
    subst hspot
    have a0 := hq i hil
    rw [add_plain] at a0
    exact ⟨b, off, rfl, a0⟩
end Go.Proofs.YteghapmlnkhepaaDoor.Tk

/- The plain side of the laws of token: calling off in a row, and what is off then. It names no number of a program. -/
namespace Go.Proofs.YteghapmlnkhepaaDoor.Tk
open Go.Proofs.YteghapmlnkhepaaDoor.St Go.Proofs.YteghapmlnkhepaaDoor.Sx
set_option linter.unusedVariables false

/-- Tokens are called off one behind the other. -/
def cz (n : Nat) (C : Nat → Bool) (l : List Int) : Nat → Bool := l.foldl (putZ n) C

theorem cz_snoc (n : Nat) (C : Nat → Bool) (l : List Int) (k : Int) : cz n C (l ++ [k]) = putZ n (cz n C l) k := by
  unfold cz
  rw [List.foldl_append]
  rfl

theorem putZ_iff (n : Nat) (C : Nat → Bool) (k : Int) (x : Nat) : putZ n C k x = (C x || decide (1 ≤ x ∧ x ≤ n ∧ (x : Int) = k)) := by
  unfold putZ
  split
  · rename_i h
    unfold put
    congr 1
    by_cases hx : (x : Int) = k
    · have : x = k.toNat := by omega
      rw [decide_eq_true (by omega)]
      simpa using this
    · rw [decide_eq_false (by omega)]
      have : x ≠ k.toNat := by omega
      simpa using this
  · rename_i h
    rw [decide_eq_false (by omega), Bool.or_false]

theorem cz_iff (n : Nat) : ∀ (l : List Int) (C : Nat → Bool) (x : Nat), cz n C l x = (C x || decide (1 ≤ x ∧ x ≤ n ∧ (x : Int) ∈ l))
  | [], C, x => by
    have : decide (1 ≤ x ∧ x ≤ n ∧ (x : Int) ∈ ([] : List Int)) = false := decide_eq_false (by simp)
    rw [this, Bool.or_false]
    rfl
  | k :: l, C, x => by
    show cz n (putZ n C k) l x = _
    rw [cz_iff n l, putZ_iff, Bool.or_assoc]
    congr 1
    rw [Bool.eq_iff_iff]
    simp only [Bool.or_eq_true, decide_eq_true_eq, List.mem_cons]
    constructor
    · rintro (⟨h1, h2, h3⟩ | ⟨h1, h2, h3⟩)
      · exact ⟨h1, h2, .inl h3⟩
      · exact ⟨h1, h2, .inr h3⟩
    · rintro ⟨h1, h2, h3 | h3⟩
      · exact .inl ⟨h1, h2, h3⟩
      · exact .inr ⟨h1, h2, h3⟩

/-- In whatever order, the same are called off. -/
theorem cz_reverse (n : Nat) (C : Nat → Bool) (l : List Int) : cz n C l.reverse = cz n C l := by
  funext x
  rw [cz_iff, cz_iff]
  simp

theorem putZ_putZ (n : Nat) (C : Nat → Bool) (k : Int) : putZ n (putZ n C k) k = putZ n C k := by
  funext x
  rw [putZ_iff, putZ_iff, Bool.or_assoc, Bool.or_self]

/-- Does a token stand in that of a number, or is it that? -/
def inZ (p : Pl) (k : Int) (s a : Nat) : Bool := off p (fun x => decide ((x : Int) = k)) s a

theorem inZ_eq {p : Pl} (hp : p.Ok) (k : Int) {s : Nat} (hs : s < p.n) (a : Nat) : inZ p k s a = (decide ((tk p s a : Int) = k) || (decide (1 ≤ s) && inZ p k (p.inn s) (p.alt s))) := off_eq hp _ hs a

theorem toks_len (p : Pl) : (toks p).length = base p p.n := by
  rw [toks_eq, tkL_len]
  rfl

theorem off_none {p : Pl} (hp : p.Ok) : ∀ (s a : Nat), s < p.n → off p (fun _ => false) s a = false := by
  intro s
  induction s using Nat.strongRecOn with
  | _ s ih =>
    intro a hs
    rw [off_eq hp _ hs, Bool.false_or]
    by_cases h0 : 1 ≤ s
    · have h1 := (hp.inn s h0 hs).1
      rw [ih (p.inn s) h1 (p.alt s) (by omega), Bool.and_false]
    · rw [decide_eq_false h0]
      rfl

theorem off_putZ {p : Pl} (hp : p.Ok) (C : Nat → Bool) (k : Int) {s a : Nat} (hs : s < p.n) (ha : a < p.alts s) : off p (putZ (toks p).length C k) s a = (off p C s a || inZ p k s a) := by
  rw [toks_len]
  unfold putZ
  split
  · rename_i h
    rw [off_put hp C _ s a hs]
    congr 1
    refine off_congr hp (fun x h1 h2 => ?_) s a hs ha
    by_cases hx : (x : Int) = k
    · have : x = k.toNat := by omega
      rw [decide_eq_true hx]
      simpa using this
    · have : x ≠ k.toNat := by omega
      rw [decide_eq_false hx]
      simpa using this
  · rename_i h
    have : inZ p k s a = false := by
      have h1 : off p (fun x => decide ((x : Int) = k)) s a = off p (fun _ => false) s a := off_congr hp (fun x h1 h2 => decide_eq_false (by omega)) s a hs ha
      exact h1.trans (off_none hp s a hs)
    rw [this, Bool.or_false]

/-- What was called off is off. -/
theorem offZ_self {its : List It} {p : Pl} (hp : Itm its p) (C : Nat → Bool) (k : Int) : offZ p (putZ (toks p).length C k) (toks p) k = true := by
  unfold offZ
  split
  · rename_i h
    obtain ⟨x, hx⟩ : ∃ x, (toks p)[k.toNat - 1]? = some x := ⟨_, List.getElem?_eq_getElem (by omega)⟩
    rw [hx]
    have hx' := hx
    rw [toks_eq] at hx'
    obtain ⟨h1, h2⟩ := tkL_at p p.n 0 _ x hx'
    have hs : x.1 < p.n := by omega
    show off p _ x.1 x.2 = true
    unfold putZ
    rw [if_pos h, show k.toNat = tk p x.1 x.2 by omega]
    exact off_self hp.ok C hs
  · rfl

theorem mem_liveL {p : Pl} {C : Nat → Bool} {s a : Nat} (hs : s < p.n) (ha : a < p.alts s) : tk p s a ∈ liveL p C (toks p) ↔ off p C s a = false := live_iff hs ha

/-- TokenDown's test. -/
theorem down_eq {p : Pl} (hp : p.Ok) (C : Nat → Bool) (k : Int) {s a : Nat} (hs : s < p.n) (ha : a < p.alts s) : decide (tk p s a ∈ liveL p (putZ (toks p).length C k) (toks p)) = (decide (tk p s a ∈ liveL p C (toks p)) && !inZ p k s a) := by
  have h1 := mem_liveL (C := putZ (toks p).length C k) hs ha
  have h2 := mem_liveL (C := C) hs ha
  rw [off_putZ hp C k hs ha] at h1
  rw [Bool.eq_iff_iff, decide_eq_true_eq, h1, Bool.and_eq_true, decide_eq_true_eq, h2, Bool.or_eq_false_iff]
  simp

theorem inV_eq {its : List It} {p : Pl} (hI : Itm its p) {s a : Nat} (hs : s < p.n) (ha : a < p.alts s) : inV p (s : Int) (a : Int) = tk p s a := by
  unfold inV
  rw [if_pos ⟨by omega, by omega, by omega, by rw [Int.toNat_natCast]; omega⟩, Int.toNat_natCast, Int.toNat_natCast]
theorem ofV_eq {its : List It} {p : Pl} (hI : Itm its p) {s : Nat} (h1 : 1 ≤ s) (hs : s < p.n) : ofV p (s : Int) = tk p (p.inn s) (p.alt s) := by
  unfold ofV
  rw [if_pos ⟨by omega, by omega⟩, Int.toNat_natCast]
end Go.Proofs.YteghapmlnkhepaaDoor.Tk

