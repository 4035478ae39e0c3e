/- Texts of the seat, packed: Zk. -/
import Derived.Test.YtgdnlceliiekkaaGreatDoorP24
import Derived.Deep.RegionHeld
import Derived.Maps.OwnIn
import Derived.Maps.OwnSet
/- Items in a slice; numbers of names in a map; the program's leanings. -/
namespace Go.Proofs.YtgdnlceliiekkaaGreatDoor

open Go.RowKit Go.Shelf Go.Proofs.YtgdnlceliiekkaaGreatDoor.Sx

/-- Items as they lie in a slice. -/
def RdIt (w : World) (v : Value) (its : List It) : Prop := ∃ a cap, v = .slice a its.length cap ∧ its.length ≤ cap ∧ ∀ (i : Nat) (x : It), its[i]? = some x → ∃ b off av am ac, a = some ⟨b, off, none⟩ ∧
  w.cell? ⟨b, off + i * 8, none⟩ = some (.string ⟨x.name.toArray⟩) ∧ w.cell? ⟨b, off + i * 8 + 1, none⟩ = some (.string ⟨x.undo.toArray⟩) ∧ w.cell? ⟨b, off + i * 8 + 2, none⟩ = some (.bool x.sub) ∧ w.cell? ⟨b, off + i * 8 + 3, none⟩ = some (.bool x.vital) ∧
  w.cell? ⟨b, off + i * 8 + 4, none⟩ = some (.int .i64 x.alts) ∧ w.cell? ⟨b, off + i * 8 + 5, none⟩ = some (.int .i64 x.inn) ∧ w.cell? ⟨b, off + i * 8 + 6, none⟩ = some (.int .i64 x.alt) ∧ w.cell? ⟨b, off + i * 8 + 7, none⟩ = some (.slice av am ac) ∧ RdZ w (.slice av am ac) x.after

theorem RdIt.later {w w' : World} {v : Value} {its : List It} (h : RdIt w v its) (hb : Below w.heap.size w w') : RdIt w' v its := by
  obtain ⟨a, cap, hv, hc, hr⟩ := h
  refine ⟨a, cap, hv, hc, fun i x hi => ?_⟩
  obtain ⟨b, off, av, am, ac, ha, c0, c1, c2, c3, c4, c5, c6, c7, hz⟩ := hr i x hi
  exact ⟨b, off, av, am, ac, ha, Dg.cell_later hb c0, Dg.cell_later hb c1, Dg.cell_later hb c2, Dg.cell_later hb c3, Dg.cell_later hb c4, Dg.cell_later hb c5, Dg.cell_later hb c6, Dg.cell_later hb c7, hz.later hb⟩

/-- The numbers of names. -/
def NumM (w : World) (mb n : Nat) (num : By → Option Nat) : Prop := ∃ D : DataW Unit, Maps.IsMap D ∧ w.ownsMap Tryz.prog 9 (plainElem Tryz.prog 3) mb n D ∧ ∀ nm, Maps.has D (.string nm) = (num nm).isSome ∧ ∀ c, num nm = some c → ∀ z, D.atKey (.string nm) z = .lit (.int .i64 (c : Int))

theorem zero3 (w : World) : (zeroValue 3).run Tryz.prog w = .ok (.int .i64 0) w := by kernel_rfl

theorem key_str (nm : By) (h : nm.length ≤ 1000000) : keyOf Tryz.prog 9 (.string ⟨nm.toArray⟩) = some (.string nm) := by
  have hs : (⟨nm.toArray⟩ : ByteArray).size ≤ maxLen := by show nm.toArray.size ≤ _; simp [maxLen]; omega
  simp [keyOf, Tryz.underlying9, mapKey, hs]

theorem NumM.put {w' : World} {mb n : Nat} {num : By → Option Nat} {D : DataW Unit} (hD : Maps.IsMap D) (h : ∀ nm, Maps.has D (.string nm) = (num nm).isSome ∧ ∀ c, num nm = some c → ∀ z, D.atKey (.string nm) z = .lit (.int .i64 (c : Int))) (nm : By) (k : Nat) (ho : w'.ownsMap Tryz.prog 9 (plainElem Tryz.prog 3) mb n (D.put (.string nm) (.lit (.int .i64 (k : Int))))) : NumM w' mb n (fun x => if x = nm then some k else num x) := by
  refine ⟨_, ?_, ho, fun x => ?_⟩
  · obtain ⟨es, rfl⟩ := hD
    exact ⟨_, rfl⟩
  · by_cases hx : x = nm
    · subst hx
      rw [Maps.has_put_same (k := .string x) hD trivial]
      refine ⟨by simp, fun c hc z => ?_⟩
      simp at hc
      subst hc
      exact Maps.atKey_put_same (k := .string x) hD trivial _ _
    · have hne : (Lit.string x) ≠ (Lit.string nm) := fun e => hx (by cases e; rfl)
      rw [Maps.has_put_other hne]
      simp only [if_neg hx]
      refine ⟨(h x).1, fun c hc z => ?_⟩
      rw [Maps.atKey_put_other hne]
      exact (h x).2 c hc z

/-- On which items a node leans. -/
def leanP (its : List It) (num : By → Option Nat) (inn alt : Int) : List By → List Nat → Option (List Nat)
  | [], acc => some acc
  | nm :: r, acc => match num nm with
    | none => none
    | some on => match its[on]? with
      | none => none
      | some x => if x.inn = inn ∧ x.alt = alt ∧ on ∉ acc then leanP its num inn alt r (acc ++ [on]) else none

/-- How leanings ends. -/
def LeanC (its : List It) (num : By → Option Nat) (x : Pd) (w : World) (e : Ending) (w' : World) : Prop := Below w.heap.size w w' ∧ match leanP its num x.inn x.alt x.lab.after [] with
  | none => e = .panicked (rej 11)
  | some r => ∃ v, e = .returned v ∧ w'.ownsRow w.heap.size 3 1 v r.length (Dg.ivs r)

end Go.Proofs.YtgdnlceliiekkaaGreatDoor

