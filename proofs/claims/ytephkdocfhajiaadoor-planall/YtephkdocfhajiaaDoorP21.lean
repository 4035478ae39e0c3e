/- Texts of the seat, packed: Zj Zk. -/
import Derived.Test.YtephkdocfhajiaaDoorP20
import Derived.Maps.OwnSet
import Derived.Maps.OwnIn
import Derived.Deep.RegionHeld
/- Whole numbers in a slice; slices.Index, slices.Contains. -/
namespace Go.Proofs.YtephkdocfhajiaaDoor
open Go.RowKit Go.Shelf Go.Proofs.YtephkdocfhajiaaDoor.Sx

/-- Whole numbers as they lie in a slice. -/
def RdZ (w : World) (v : Value) (l : List Int) : Prop := ∃ a cap, v = .slice a l.length cap ∧ l.length ≤ cap ∧ ∀ (i : Nat) (x : Int), l[i]? = some x → ∃ b off, a = some ⟨b, off, none⟩ ∧ w.cell? ⟨b, off + i, none⟩ = some (.int .i64 x)

theorem RdZ.later {w w' : World} {v : Value} {l : List Int} (h : RdZ w v l) (hb : Below w.heap.size w w') : RdZ w' v l := by
  obtain ⟨a, cap, hv, hc, hr⟩ := h
  refine ⟨a, cap, hv, hc, fun i x hi => ?_⟩
  obtain ⟨b, off, ha, c0⟩ := hr i x hi
  exact ⟨b, off, ha, Dg.cell_later hb c0⟩

set_option maxRecDepth 1000000 in
set_option maxHeartbeats 1000000 in
theorem Index_any (v : Value) (l : List Int) (y : Int) (w : World) (hl : RdZ w v l) (hn : l.length ≤ 1000000000) :
    Calls Tryd.prog 82 #[v, .int .i64 y] w fun e w' => (∃ q : Int, e = .returned (.int .i64 q) ∧ (decide (0 ≤ q) = decide (y ∈ l))) ∧ w' = w := by
  obtain ⟨a, cap, rfl, hc, hr⟩ := hl
  have HR : Hid _ := hr
  obtain ⟨n, HN⟩ : ∃ n, Hid (l.length = n) := ⟨_, rfl⟩
  rw [HN.out] at hn hc ⊢
  clear hr
  go_enter Tryd.func82, Tryd.ntmps82
  go_wp2_with fail
  go_loopw [8] (fun iv wr => ∃ (i : Nat), i ≤ n ∧ iv = .int .i64 i ∧ Hid (y ∉ l.take i) ∧ wr = w) (fun iv _ => n - (intOf iv).toNat)
  case atStart => exact ⟨0, Nat.zero_le _, rfl, by show _ ∉ _; simp, rfl⟩
  case round =>
    obtain ⟨i, hi, rfl, HY, rfl⟩ := hrel
    by_cases hlt : i < n
    · obtain ⟨z, hz⟩ : ∃ z, l[i]? = some z := ⟨_, List.getElem?_eq_getElem (by rw [HN.out]; exact hlt)⟩
      obtain ⟨b, off, rfl, c0⟩ := HR.out i z hz
      have hii : (i : Int) < (n : Int) := by omega
      by_cases hyz : y = z
      · subst hyz
        have HIn : Hid (y ∈ l) := List.mem_of_getElem? hz
        clear hz
        go_wp2_with fail
        go_ret
        exact ⟨⟨_, rfl, by rw [decide_eq_true HIn.out]; simp⟩, rfl⟩
      · have hb : (y == z) = false := by simpa using hyz
        have HNx : Hid (y ∉ l.take (i + 1)) := by
          show _ ∉ _
          rw [List.take_add_one, hz]
          intro hm
          rcases List.mem_append.1 hm with h | h
          · exact HY.out h
          · simp at h; exact hyz h
        clear hz
        go_wp2_with fail
        go_roundw
        case rel => exact ⟨i + 1, by omega, by go_num, HNx, trivial⟩
        case measure => simp [intOf]; omega
    · have hin : i = n := by omega
      subst hin
      have HNo : Hid (y ∉ l) := by
        show _ ∉ _
        have := HY.out
        rw [List.take_of_length_le (by rw [HN.out]; exact Nat.le_refl _)] at this
        exact this
      go_wp2_with fail
      go_ret
      exact ⟨⟨_, rfl, by rw [decide_eq_false HNo.out]; rfl⟩, rfl⟩

set_option maxRecDepth 1000000 in
theorem Contains_any (v : Value) (l : List Int) (y : Int) (w : World) (hl : RdZ w v l) (hn : l.length ≤ 1000000000) :
    Calls Tryd.prog 77 #[v, .int .i64 y] w fun e w' => e = .returned (.bool (decide (y ∈ l))) ∧ w' = w := by
  have M : Hid _ := Index_any v l y w hl hn
  obtain ⟨a, cap, rfl, hc, hr⟩ := hl
  clear hr
  go_enter Tryd.func77, Tryd.ntmps77
  go_wp2_with fail
  refine Calls.mono M.out ?_
  rintro e w1 ⟨⟨q, rfl, hq⟩, rfl⟩
  have HQ : Hid _ := hq
  clear hq M
  go_wp2_with fail
  go_ret
  refine ⟨?_, rfl⟩
  rw [← HQ.out]
  rfl
end Go.Proofs.YtephkdocfhajiaaDoor

/- Items in a slice; numbers of names in a map; the program's leanings. -/
namespace Go.Proofs.YtephkdocfhajiaaDoor
open Go.RowKit Go.Shelf Go.Proofs.YtephkdocfhajiaaDoor.Sx

/-- Items as they lie in a slice. -/
def RdIt (w : World) (v : Value) (its : List It) : Prop := ∃ a cap, v = .slice a its.length cap ∧ its.length ≤ cap ∧ ∀ (i : Nat) (x : It), its[i]? = some x → ∃ b off av am ac, a = some ⟨b, off, none⟩ ∧
  w.cell? ⟨b, off + i * 8, none⟩ = some (.string ⟨x.name.toArray⟩) ∧ w.cell? ⟨b, off + i * 8 + 1, none⟩ = some (.string ⟨x.undo.toArray⟩) ∧ w.cell? ⟨b, off + i * 8 + 2, none⟩ = some (.bool x.sub) ∧ w.cell? ⟨b, off + i * 8 + 3, none⟩ = some (.bool x.vital) ∧
  w.cell? ⟨b, off + i * 8 + 4, none⟩ = some (.int .i64 x.alts) ∧ w.cell? ⟨b, off + i * 8 + 5, none⟩ = some (.int .i64 x.inn) ∧ w.cell? ⟨b, off + i * 8 + 6, none⟩ = some (.int .i64 x.alt) ∧ w.cell? ⟨b, off + i * 8 + 7, none⟩ = some (.slice av am ac) ∧ RdZ w (.slice av am ac) x.after

theorem RdIt.later {w w' : World} {v : Value} {its : List It} (h : RdIt w v its) (hb : Below w.heap.size w w') : RdIt w' v its := by
  obtain ⟨a, cap, hv, hc, hr⟩ := h
  refine ⟨a, cap, hv, hc, fun i x hi => ?_⟩
  obtain ⟨b, off, av, am, ac, ha, c0, c1, c2, c3, c4, c5, c6, c7, hz⟩ := hr i x hi
  exact ⟨b, off, av, am, ac, ha, Dg.cell_later hb c0, Dg.cell_later hb c1, Dg.cell_later hb c2, Dg.cell_later hb c3, Dg.cell_later hb c4, Dg.cell_later hb c5, Dg.cell_later hb c6, Dg.cell_later hb c7, hz.later hb⟩

/-- The numbers of names. -/
def NumM (w : World) (mb n : Nat) (num : By → Option Nat) : Prop := ∃ D : DataW Unit, Maps.IsMap D ∧ w.ownsMap Tryd.prog 9 (plainElem Tryd.prog 3) mb n D ∧ ∀ nm, Maps.has D (.string nm) = (num nm).isSome ∧ ∀ c, num nm = some c → ∀ z, D.atKey (.string nm) z = .lit (.int .i64 (c : Int))

theorem zero3 (w : World) : (zeroValue 3).run Tryd.prog w = .ok (.int .i64 0) w := by kernel_rfl

theorem key_str (nm : By) (h : nm.length ≤ 1000000) : keyOf Tryd.prog 9 (.string ⟨nm.toArray⟩) = some (.string nm) := by
  have hs : (⟨nm.toArray⟩ : ByteArray).size ≤ maxLen := by show nm.toArray.size ≤ _; simp [maxLen]; omega
  simp [keyOf, Tryd.underlying9, mapKey, hs]

theorem NumM.put {w' : World} {mb n : Nat} {num : By → Option Nat} {D : DataW Unit} (hD : Maps.IsMap D) (h : ∀ nm, Maps.has D (.string nm) = (num nm).isSome ∧ ∀ c, num nm = some c → ∀ z, D.atKey (.string nm) z = .lit (.int .i64 (c : Int))) (nm : By) (k : Nat) (ho : w'.ownsMap Tryd.prog 9 (plainElem Tryd.prog 3) mb n (D.put (.string nm) (.lit (.int .i64 (k : Int))))) : NumM w' mb n (fun x => if x = nm then some k else num x) := by
  refine ⟨_, ?_, ho, fun x => ?_⟩
  · obtain ⟨es, rfl⟩ := hD
    exact ⟨_, rfl⟩
  · by_cases hx : x = nm
    · subst hx
      rw [Maps.has_put_same (k := .string x) hD trivial]
      refine ⟨by simp, fun c hc z => ?_⟩
      simp at hc
      subst hc
      exact Maps.atKey_put_same (k := .string x) hD trivial _ _
    · have hne : (Lit.string x) ≠ (Lit.string nm) := fun e => hx (by cases e; rfl)
      rw [Maps.has_put_other hne]
      simp only [if_neg hx]
      refine ⟨(h x).1, fun c hc z => ?_⟩
      rw [Maps.atKey_put_other hne]
      exact (h x).2 c hc z

/-- On which items a node leans. -/
def leanP (its : List It) (num : By → Option Nat) (inn alt : Int) : List By → List Nat → Option (List Nat)
  | [], acc => some acc
  | nm :: r, acc => match num nm with
    | none => none
    | some on => match its[on]? with
      | none => none
      | some x => if x.inn = inn ∧ x.alt = alt ∧ on ∉ acc then leanP its num inn alt r (acc ++ [on]) else none

/-- How leanings ends. -/
def LeanC (its : List It) (num : By → Option Nat) (x : Pd) (w : World) (e : Ending) (w' : World) : Prop := Below w.heap.size w w' ∧ match leanP its num x.inn x.alt x.lab.after [] with
  | none => e = .panicked (rej 11)
  | some r => ∃ v, e = .returned v ∧ w'.ownsRow w.heap.size 3 1 v r.length (Dg.ivs r)
end Go.Proofs.YtephkdocfhajiaaDoor

