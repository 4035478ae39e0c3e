/- Tokens that came in: how they read, and how long their joined text may be. -/
import Derived.Test.YtchdecoceokcmaaRows
import Derived.Test.YtchdecoceokcmaaXF
import Derived.Deep.Strs
import Derived.Deep.SlicePairs
import Derived.OpenShut
namespace Go.Proofs.Ytchdecoceokcmaa
open Go.RowKit Go.ChangeShapes Go.WideShapes
set_option linter.unusedVariables false

theorem jn_len (l : List (List UInt8)) : (jn l).length ≤ (l.map fun x => x.length + 1).sum := by
  induction l with
  | nil => simp [jn]
  | cons x l ih =>
    cases l with
    | nil => simp [jn]
    | cons y r =>
      simp only [jn, List.length_append, List.length_cons, List.map_cons, List.sum_cons] at ih ⊢
      omega

theorem bulk_map {H : Type} (l : List Nat) (D : Nat → DataW H) (q : Nat → Int × ByteArray × Int) (h : ∀ i ∈ l, (q i).2.1.data.toList.length + 1 ≤ Rows.uptoBulk (D i)) : ((bys (mids (l.map q))).map fun x => x.length + 1).sum ≤ Rows.uptoBulkAll (l.map D) := by
  induction l with
  | nil => simp [bys, mids]
  | cons i l ih =>
    have h1 := h i (by simp)
    have h2 := ih (fun j hj => h j (by simp [hj]))
    simp only [bys, mids, List.map_cons, List.sum_cons, Rows.uptoBulkAll] at h2 ⊢
    omega

theorem Try.cells38 : Try.prog.cellsOf 38 = 3 := by kernel_rfl
theorem Try.cells36 : Try.prog.cellsOf 36 = 1 := by kernel_rfl
theorem Try.cells9 : Try.prog.cellsOf 9 = 1 := by kernel_rfl
theorem Try.cells3 : Try.prog.cellsOf 3 = 1 := by kernel_rfl

theorem open_toks {H : Type} {enc : TypeId × Value → H} {w : World} {base : Nat} {spare : Nat → Bool} {held : Bool} {fuel : Nat} {a : Option Addr} {len cap : Nat} {x : DataW H × List MemPlace}
    (h : DataW.trod enc Try.prog w base spare held fuel 23 [.slice a len cap] = some x) : ∃ l, ReadsL w (.slice a len cap) l ∧ (jn (bys (mids l))).length ≤ Rows.uptoBulk x.1 := by
  rcases Go.Deep.open_slice Try.underlying23 h with ⟨hcs, _⟩ | ⟨ad, l2, c2, m, n, D, Pl, hcs, hb, hl, hm, hmm, rfl, hx⟩
  · simp at hcs
    obtain ⟨rfl, rfl, rfl⟩ := hcs
    exact ⟨[], ⟨none, 0, rfl, fun _ => rfl, Nat.le_refl _, by simp⟩, by simp [bys, mids, jn]⟩
  · simp at hcs
    obtain ⟨rfl, rfl, rfl⟩ := hcs
    have hlm : len ≤ m := by rw [hmm]; split <;> omega
    have each : ∀ i, i < len → ∃ t : Int × ByteArray × Int, w.cell? (ad.add (i * 3)) = some (.int .i64 t.1) ∧ w.cell? (ad.add (i * 3 + 1)) = some (.string t.2.1) ∧ w.cell? (ad.add (i * 3 + 2)) = some (.int .i64 t.2.2) ∧ t.2.1.data.toList.length + 1 ≤ Rows.uptoBulk (D i) := by
      intro i hi
      obtain ⟨cs', h1, h2⟩ := hx i (by omega)
      rw [Try.cells38] at h1
      obtain ⟨_, hlen, hcell⟩ := World.cells?_some h1
      obtain ⟨y0, y1, y2, n', hxy, _, g0, g1, g2⟩ := Go.Deep.trod_struct3 Try.underlying38 h2
      match cs', hlen with
      | [v0, v1, v2], _ =>
        simp [Try.cells36, Try.cells9, Try.cells3] at g0 g1 g2
        obtain ⟨n0, e0, _, _⟩ := DataW.trod_int Try.underlying36 g0
        obtain ⟨s1, e1, f1, _⟩ := DataW.trod_string Try.underlying9 g1
        obtain ⟨n2, e2, _, _⟩ := DataW.trod_int Try.underlying3 g2
        simp at e0 e1 e2
        subst e0
        subst e1
        subst e2
        have k0 := hcell 0 (by omega)
        have k1 := hcell 1 (by omega)
        have k2 := hcell 2 (by omega)
        rw [Go.Deep.add_add] at k0 k1 k2
        simp only [Prod.mk.injEq] at hxy
        refine ⟨(n0, s1, n2), by simpa using k0, by simpa using k1, by simpa using k2, ?_⟩
        rw [hxy.1, f1]
        simp only [Rows.uptoBulk, Rows.uptoBulkAll]
        omega
    obtain ⟨q, hq⟩ := Go.Deep.choose_lt each
    refine ⟨(List.range len).map q, ⟨some ad, cap, by simp, (fun h => by cases h), by simpa using hl, fun i t hi => ?_⟩, ?_⟩
    · have hil : i < len := by have := (List.getElem?_eq_some_iff.1 hi).1; simpa using this
      have ht : t = q i := by simp [hil] at hi; exact hi.symm
      subst ht
      obtain ⟨b, off, spot⟩ := ad
      have hspot : spot = none := by simpa [Addr.add] using World.cell?_spot (hq 0 (by omega)).1
      subst hspot
      obtain ⟨a0, a1, a2, _⟩ := hq i hil
      rw [add_plain] at a0 a1 a2
      exact ⟨b, off, rfl, a0, by rw [Nat.add_assoc]; exact a1, by rw [Nat.add_assoc]; exact a2⟩
    · have h1 := jn_len (bys (mids ((List.range len).map q)))
      have h2 := bulk_map (List.range len) D q (fun i hi => (hq i (List.mem_range.1 hi)).2.2.2)
      simp only [Rows.uptoBulk]
      omega
end Go.Proofs.Ytchdecoceokcmaa
