/- Texts of the seat, packed: Zk Pb Pc Pd. -/
import Derived.Test.YtlegmmhacnbnlaaGreatDoorP32
import Derived.Deep.RegionHeld
import Derived.Maps.OwnIn
import Derived.Maps.OwnSet
import Derived.Test.YtlegmmhacnbnlaaGreatDoorP28
import Derived.Test.YtlegmmhacnbnlaaGreatDoorP29
/- Items in a slice; numbers of names in a map; the program's leanings. -/
namespace Go.Proofs.YtlegmmhacnbnlaaGreatDoor

open Go.RowKit Go.Shelf Go.Proofs.YtlegmmhacnbnlaaGreatDoor.Sx

/-- Items as they lie in a slice. -/
def RdIt (w : World) (v : Value) (its : List It) : Prop := ∃ a cap, v = .slice a its.length cap ∧ its.length ≤ cap ∧ ∀ (i : Nat) (x : It), its[i]? = some x → ∃ b off av am ac, a = some ⟨b, off, none⟩ ∧
  w.cell? ⟨b, off + i * 8, none⟩ = some (.string ⟨x.name.toArray⟩) ∧ w.cell? ⟨b, off + i * 8 + 1, none⟩ = some (.string ⟨x.undo.toArray⟩) ∧ w.cell? ⟨b, off + i * 8 + 2, none⟩ = some (.bool x.sub) ∧ w.cell? ⟨b, off + i * 8 + 3, none⟩ = some (.bool x.vital) ∧
  w.cell? ⟨b, off + i * 8 + 4, none⟩ = some (.int .i64 x.alts) ∧ w.cell? ⟨b, off + i * 8 + 5, none⟩ = some (.int .i64 x.inn) ∧ w.cell? ⟨b, off + i * 8 + 6, none⟩ = some (.int .i64 x.alt) ∧ w.cell? ⟨b, off + i * 8 + 7, none⟩ = some (.slice av am ac) ∧ RdZ w (.slice av am ac) x.after

theorem RdIt.later {w w' : World} {v : Value} {its : List It} (h : RdIt w v its) (hb : Below w.heap.size w w') : RdIt w' v its := by
  obtain ⟨a, cap, hv, hc, hr⟩ := h
  refine ⟨a, cap, hv, hc, fun i x hi => ?_⟩
  obtain ⟨b, off, av, am, ac, ha, c0, c1, c2, c3, c4, c5, c6, c7, hz⟩ := hr i x hi
  exact ⟨b, off, av, am, ac, ha, Dg.cell_later hb c0, Dg.cell_later hb c1, Dg.cell_later hb c2, Dg.cell_later hb c3, Dg.cell_later hb c4, Dg.cell_later hb c5, Dg.cell_later hb c6, Dg.cell_later hb c7, hz.later hb⟩

/-- The numbers of names. -/
def NumM (w : World) (mb n : Nat) (num : By → Option Nat) : Prop := ∃ D : DataW Unit, Maps.IsMap D ∧ w.ownsMap Tryz.prog 9 (plainElem Tryz.prog 3) mb n D ∧ ∀ nm, Maps.has D (.string nm) = (num nm).isSome ∧ ∀ c, num nm = some c → ∀ z, D.atKey (.string nm) z = .lit (.int .i64 (c : Int))

theorem zero3 (w : World) : (zeroValue 3).run Tryz.prog w = .ok (.int .i64 0) w := by kernel_rfl

theorem key_str (nm : By) (h : nm.length ≤ 1100000) : keyOf Tryz.prog 9 (.string ⟨nm.toArray⟩) = some (.string nm) := by
  have hs : (⟨nm.toArray⟩ : ByteArray).size ≤ maxLen := by show nm.toArray.size ≤ _; simp [maxLen]; omega
  simp [keyOf, Tryz.underlying9, mapKey, hs]

theorem NumM.put {w' : World} {mb n : Nat} {num : By → Option Nat} {D : DataW Unit} (hD : Maps.IsMap D) (h : ∀ nm, Maps.has D (.string nm) = (num nm).isSome ∧ ∀ c, num nm = some c → ∀ z, D.atKey (.string nm) z = .lit (.int .i64 (c : Int))) (nm : By) (k : Nat) (ho : w'.ownsMap Tryz.prog 9 (plainElem Tryz.prog 3) mb n (D.put (.string nm) (.lit (.int .i64 (k : Int))))) : NumM w' mb n (fun x => if x = nm then some k else num x) := by
  refine ⟨_, ?_, ho, fun x => ?_⟩
  · obtain ⟨es, rfl⟩ := hD
    exact ⟨_, rfl⟩
  · by_cases hx : x = nm
    · subst hx
      rw [Maps.has_put_same (k := .string x) hD trivial]
      refine ⟨by simp, fun c hc z => ?_⟩
      simp at hc
      subst hc
      exact Maps.atKey_put_same (k := .string x) hD trivial _ _
    · have hne : (Lit.string x) ≠ (Lit.string nm) := fun e => hx (by cases e; rfl)
      rw [Maps.has_put_other hne]
      simp only [if_neg hx]
      refine ⟨(h x).1, fun c hc z => ?_⟩
      rw [Maps.atKey_put_other hne]
      exact (h x).2 c hc z

/-- On which items a node leans. -/
def leanP (its : List It) (num : By → Option Nat) (inn alt : Int) : List By → List Nat → Option (List Nat)
  | [], acc => some acc
  | nm :: r, acc => match num nm with
    | none => none
    | some on => match its[on]? with
      | none => none
      | some x => if x.inn = inn ∧ x.alt = alt ∧ on ∉ acc then leanP its num inn alt r (acc ++ [on]) else none

/-- How leanings ends. -/
def LeanC (its : List It) (num : By → Option Nat) (x : Pd) (w : World) (e : Ending) (w' : World) : Prop := Below w.heap.size w w' ∧ match leanP its num x.inn x.alt x.lab.after [] with
  | none => e = .panicked (rej 11)
  | some r => ∃ v, e = .returned v ∧ w'.ownsRow w.heap.size 3 1 v r.length (Dg.ivs r)

end Go.Proofs.YtlegmmhacnbnlaaGreatDoor

/- isStep; whether an effect is of no step; whether one of a row is. -/
namespace Go.Proofs.YtlegmmhacnbnlaaGreatDoor.J.Tz
open Go.RowKit Go.Shelf Go.Proofs.YtlegmmhacnbnlaaGreatDoor.J
set_option maxRecDepth 1000000
set_option linter.unusedVariables false

/-- Is a number a step's? -/
def stepP (its : List It) (i : Int) : Bool := decide (0 ≤ i) && (match its[i.toNat]? with | some x => !x.sub | none => false)
theorem stepP_neg {its : List It} {i : Int} (h : ¬ 0 ≤ i) : stepP its i = false := by unfold stepP; simp [h]
theorem stepP_far {its : List It} {k : Nat} (h : its.length ≤ k) : stepP its (k : Int) = false := by unfold stepP; simp [List.getElem?_eq_none h]
theorem stepP_at {its : List It} {k : Nat} {x : It} (h : its[k]? = some x) : stepP its (k : Int) = !x.sub := by unfold stepP; simp [h]
theorem stepP_lt {its : List It} {i : Int} (h : stepP its i = true) : ∃ k x, i = ((k : Nat) : Int) ∧ its[k]? = some x ∧ x.sub = false := by
  by_cases h0 : 0 ≤ i
  · obtain ⟨k, rfl⟩ : ∃ k : Nat, i = (k : Int) := ⟨i.toNat, by omega⟩
    cases hx : its[k]? with
    | none => rw [stepP_far (by rw [List.getElem?_eq_none_iff] at hx; exact hx)] at h; cases h
    | some x => rw [stepP_at hx] at h; exact ⟨k, x, rfl, hx, by simpa using h⟩
  · rw [stepP_neg h0] at h; cases h

set_option maxHeartbeats 1000000 in
theorem isStep_any (its : List It) (v : Value) (i : Int) (w : World) (h : RdIt w v its) (hn : its.length ≤ 1000000) :
    Calls Tryz.prog 17 #[v, .int .i64 i] w fun e w' => e = .returned (.bool (stepP its i)) ∧ w' = w := by
  obtain ⟨a, cap, rfl, hc, hr⟩ := h
  have HR : Hid _ := hr
  obtain ⟨n, HN⟩ : ∃ n, Hid (its.length = n) := ⟨_, rfl⟩
  rw [HN.out] at hn hc ⊢
  clear hr
  by_cases h0 : 0 ≤ i
  · obtain ⟨k, rfl⟩ : ∃ k : Nat, i = (k : Int) := ⟨i.toNat, by omega⟩
    by_cases hk : k < n
    · obtain ⟨x, hx⟩ : ∃ x, its[k]? = some x := ⟨_, List.getElem?_eq_getElem (by rw [HN.out]; exact hk)⟩
      have HS : Hid (stepP its (k : Int) = !x.sub) := stepP_at hx
      obtain ⟨b, off, av, am, ac, rfl, c0, c1, c2, c3, c4, c5, c6, c7, hz⟩ := HR.out k x hx
      obtain ⟨q, hq⟩ : ∃ q, x.sub = q := ⟨_, rfl⟩
      rw [hq] at c2 HS
      clear hz c0 c1 c3 c4 c5 c6 c7 hx hq HR
      have hki : (k : Int) < (n : Int) := by omega
      go_enter Tryz.func17, Tryz.ntmps17
      go_wp2_with fail
      go_ret
      exact ⟨congrArg (fun z => Ending.returned (.bool z)) HS.out.symm, rfl⟩
    · have HS : Hid (stepP its (k : Int) = false) := stepP_far (by rw [HN.out]; omega)
      have hki : ¬ (k : Int) < (n : Int) := by omega
      go_enter Tryz.func17, Tryz.ntmps17
      go_wp2_with fail
      go_ret
      exact ⟨congrArg (fun z => Ending.returned (.bool z)) HS.out.symm, rfl⟩
  · have HS : Hid (stepP its i = false) := stepP_neg h0
    go_enter Tryz.func17, Tryz.ntmps17
    go_wp2_with fail
    go_ret
    exact ⟨congrArg (fun z => Ending.returned (.bool z)) HS.out.symm, rfl⟩

/-- A plan in a block. -/
def PlB (w : World) (bp : Nat) (its : List It) : Prop := ∃ v, w.heap[bp]? = some (.cells #[v] 24 (0, 0)) ∧ RdIt w v its
theorem PlB.later {w w' : World} {bp : Nat} {its : List It} (h : PlB w bp its) (hb : Below w.heap.size w w') : PlB w' bp its := by
  obtain ⟨v, h1, h2⟩ := h
  exact ⟨v, row_later h1 hb, h2.later hb⟩

set_option maxHeartbeats 1000000 in
theorem stray_any (its : List It) (e : Ef) (bp : Nat) (w : World) (h : PlB w bp its) (hn : its.length ≤ 1000000) :
    Calls Tryz.prog 16 #[EV e, .pointer (some ⟨bp, 0, none⟩)] w fun x w' => x = .returned (.bool (!stepP its e.i)) ∧ Below w.heap.size w w' := by
  obtain ⟨v, h1, h2⟩ := h.later (bl1 w (.cells #[.int .i64 e.i, .bool e.u, .int .i64 e.t, .bool e.ok] 38))
  have HC : Hid _ := isStep_any its v e.i _ h2 hn
  have c0 := (cell_row h1 0).trans rfl
  obtain ⟨a, cap, rfl, _⟩ := h2
  unfold EV
  obtain ⟨ei, eu, et, eb⟩ := e
  dsimp only at *
  obtain ⟨q, hq⟩ : ∃ q, stepP its ei = q := ⟨_, rfl⟩
  rw [hq] at HC ⊢
  clear h h1 hq hn
  go_enter Tryz.func16, Tryz.ntmps16
  go_wp2_with fail
  refine Calls.mono HC.out ?_
  rintro x w2 ⟨rfl, rfl⟩
  clear HC
  go_wp2_with fail
  go_ret
  exact ⟨rfl, bl1 _ _⟩

set_option maxHeartbeats 4000000 in
theorem indexE_any (its : List It) (l : List Ef) (v : Value) (bp : Nat) (w : World) (h : RE w v l) (hp : PlB w bp its) (hn : its.length ≤ 1000000) (hl : l.length ≤ 1000000) :
    Calls Tryz.prog 26 #[v, .func (.func 16) #[] #[.pointer (some ⟨bp, 0, none⟩)]] w fun x w' => (∃ q : Int, x = .returned (.int .i64 q) ∧ decide (0 ≤ q) = l.any (fun e => !stepP its e.i)) ∧ Below w.heap.size w w' := by
  obtain ⟨a, c, rfl, hc1⟩ := h.slice
  obtain ⟨n, HN⟩ : ∃ n, Hid (l.length = n) := ⟨_, rfl⟩
  have HK : Hid (∀ w1 e, Below w.heap.size w w1 → Calls Tryz.prog 16 #[EV e, .pointer (some ⟨bp, 0, none⟩)] w1 fun x w' => x = .returned (.bool (!stepP its e.i)) ∧ Below w1.heap.size w1 w') := fun w1 e hb => stray_any its e bp w1 (hp.later hb) hn
  have HV : Hid (RE w (.slice a n c) l) := by have h9 := h; rw [HN.out] at h9; exact h9
  rw [HN.out] at hl hc1 ⊢
  clear h hp hn
  go_enter Tryz.func26, Tryz.ntmps26
  go_wp2_with fail
  go_loopw [8, 5] (fun s8 s5 wr => ∃ (j : Nat), s8 = .int .i64 j ∧ j ≤ n ∧ Hid (Below w.heap.size w wr) ∧ Hid (∀ i, i < j → stepP its (l.getD i default).i = true)) (fun s8 _ _ => n - (intOf s8).toNat)
  case atStart => exact ⟨0, rfl, Nat.zero_le _, Below.refl _ _, fun i hi => by omega⟩
  case round =>
    obtain ⟨j, rfl, hj, HB, HX⟩ := hrel
    rename World => wr
    by_cases hlt : j < n
    · obtain ⟨hwf, b, off, ha, d0, d1, d2, d3⟩ := (HV.out.later HB.out).at' (i := j) (by rw [HN.out]; exact hlt)
      subst ha
      have hji : (j : Int) < (n : Int) := by omega
      obtain ⟨e, he⟩ : ∃ e, l.getD j default = e := ⟨_, rfl⟩
      have HE : Hid (l.getD j default = e) := he
      have HM : Hid (e ∈ l) := by
        have h1 : l[j]? = some (l.getD j default) := by simp [List.getD, (show j < l.length by rw [HN.out]; exact hlt)]
        rw [he] at h1
        exact List.mem_of_getElem? h1
      obtain ⟨q, hq⟩ : ∃ q, (!stepP its e.i) = q := ⟨_, rfl⟩
      have HQ : Hid _ := hq
      have HC : Hid _ := HK.out wr e HB.out
      rw [hq] at HC
      rw [he] at d0 d1 d2 d3
      unfold EV at HC
      clear hq he hwf
      cases q with
      | true =>
        go_wp2_with fail
        refine Calls.mono HC.out ?_
        rintro x w2 ⟨rfl, hb2⟩
        have HB2 : Hid _ := HB.out.trans (hb2.mono HB.out.size)
        have HF : Hid (l.any (fun e => !stepP its e.i) = true) := List.any_eq_true.2 ⟨e, HM.out, HQ.out⟩
        clear hb2 HC d0 d1 d2 d3
        go_wp2_with fail
        go_ret
        exact ⟨⟨_, rfl, by rw [HF.out]; simp⟩, HB2.out⟩
      | false =>
        go_wp2_with fail
        refine Calls.mono HC.out ?_
        rintro x w2 ⟨rfl, hb2⟩
        have HB2 : Hid _ := HB.out.trans (hb2.mono HB.out.size)
        have HX2 : Hid (∀ i, i < j + 1 → stepP its (l.getD i default).i = true) := by
          intro i hi
          by_cases e9 : i = j
          · rw [e9, HE.out]
            have := HQ.out
            simpa using this
          · exact HX.out i (by omega)
        clear hb2 HC HX d0 d1 d2 d3
        go_wp2_with fail
        go_roundw
        case rel => exact ⟨j + 1, by go_num, by omega, HB2, HX2⟩
        case measure => simp [intOf]; omega
    · have HF : Hid (l.any (fun e => !stepP its e.i) = false) := by
        show _ = _
        rw [List.any_eq_false]
        intro e he
        obtain ⟨i, hi⟩ := List.getElem?_of_mem he
        have hil := (List.getElem?_eq_some_iff.1 hi).1
        have h1 := HX.out i (by rw [HN.out] at hil; omega)
        have h2 : l.getD i default = e := by simp [List.getD, hi]
        rw [h2] at h1
        simp [h1]
      clear HX
      go_wp2_with fail
      go_ret
      exact ⟨⟨_, rfl, by rw [HF.out]; rfl⟩, HB.out⟩

set_option maxHeartbeats 1000000 in
theorem strays_any (its : List It) (l : List Ef) (v : Value) (bp : Nat) (w : World) (h : RE w v l) (hp : PlB w bp its) (hn : its.length ≤ 1000000) (hl : l.length ≤ 1000000) :
    Calls Tryz.prog 18 #[v, .func (.func 16) #[] #[.pointer (some ⟨bp, 0, none⟩)]] w fun x w' => x = .returned (.bool (l.any (fun e => !stepP its e.i))) ∧ Below w.heap.size w w' := by
  have HC : Hid _ := indexE_any its l v bp w h hp hn hl
  obtain ⟨a, c, rfl, hc1⟩ := h.slice
  obtain ⟨q0, hq0⟩ : ∃ q, l.any (fun e => !stepP its e.i) = q := ⟨_, rfl⟩
  rw [hq0] at HC ⊢
  obtain ⟨n, HN⟩ : ∃ n, Hid (l.length = n) := ⟨_, rfl⟩
  rw [HN.out] at HC ⊢
  clear h hp hn hl hq0 hc1
  go_enter Tryz.func18, Tryz.ntmps18
  go_wp2_with fail
  refine Calls.mono HC.out ?_
  rintro x w2 ⟨⟨q, rfl, hq⟩, hb⟩
  have HQ : Hid _ := hq
  have HB : Hid _ := hb
  clear hq hb HC
  go_wp2_with fail
  go_ret
  refine ⟨?_, HB.out⟩
  rw [← HQ.out]
  rfl
end Go.Proofs.YtlegmmhacnbnlaaGreatDoor.J.Tz

/- step; whether a step was undone amiss; what leans, by a row of numbers. -/
namespace Go.Proofs.YtlegmmhacnbnlaaGreatDoor.J.Tz
open Go.RowKit Go.Shelf Go.Proofs.YtlegmmhacnbnlaaGreatDoor.J
set_option maxRecDepth 1000000
set_option linter.unusedVariables false

set_option maxHeartbeats 4000000 in
theorem step_any {w : World} {b n : Nat} {f : Kx → Option Sp} (h : KM SV w b n f) {i : Int} (hk : (Lit.int .i64 i).wf = true) :
    Calls Tryz.prog 34 #[.map (some b), .int .i64 i] w fun e w' => e = .returned (SV (spD (f (i, false, 0)))) ∧ Below w.heap.size w w' := by
  have HC : Hid (Calls Tryz.prog 41 #[.map (some b), .agg #[.int .i64 i, .bool false, .int .i64 0]] (w.alloc (.cells #[.int .i64 0, .int .i64 0, .int .i64 0] 63)) fun e w' => e = .returned (SV (spD (f (i, false, 0)))) ∧ Below (w.alloc (.cells #[.int .i64 0, .int .i64 0, .int .i64 0] 63)).heap.size (w.alloc (.cells #[.int .i64 0, .int .i64 0, .int .i64 0] 63)) w') := of_any (h.later (bl1 _ _)) (k := (i, false, 0)) ⟨hk, show (Lit.int .i64 0).wf = true by decide⟩
  obtain ⟨s, hs⟩ : ∃ s, spD (f (i, false, 0)) = s := ⟨_, rfl⟩
  rw [hs] at HC ⊢
  unfold SV at *
  clear h hs
  go_enter Tryz.func34, Tryz.ntmps34
  go_wp2_with fail
  refine Calls.mono HC.out ?_
  rintro e w2 ⟨rfl, hb2⟩
  have hrow : w2.heap[w.heap.size]? = some (.cells #[.int .i64 0, .int .i64 0, .int .i64 0] 63 (0, 0)) := row_later (heap_alloc_new w _) hb2
  have HR : Hid _ := hrow
  have HB : Hid (Below w.heap.size w w2) := (bl1 w _).trans (hb2.mono (by simp))
  have c0 := (cell_row hrow 0).trans rfl
  have c1 := (cell_row hrow 1).trans rfl
  have c2 := (cell_row hrow 2).trans rfl
  have f0 := froz_row hrow
  clear HC hb2 hrow
  go_wp2_with fail
  refine bodyPost_ret (results_cell53 (s := s) rfl _ _ w.heap.size rfl ?_) rfl ⟨rfl, ?_⟩
  · have h1 := row_set (row_set (row_set HR.out 0 (.int .i64 s.first)) 1 (.int .i64 s.well)) 2 (.int .i64 s.last)
    exact h1
  · have hb := HB.out
    exact ⟨hb.os, hb.tape, hb.output, by have := hb.size; simpa using this, fun k hk => by
      rw [set_same _ _ _ _ _ (by omega), set_same _ _ _ _ _ (by omega), set_same _ _ _ _ _ (by omega)]
      exact hb.block k hk⟩

def SVd (s : Sp) : Value := .agg #[.int .i64 s.first, .int .i64 s.well, .int .i64 s.last]

set_option maxHeartbeats 8000000 in
theorem amiss_any {w : World} {b n : Nat} {f : Kx → Option Sp} (h : KM SV w b n f) {i : Int} (hk : (Lit.int .i64 i).wf = true) {u s : Sp} (hu : spD (f (i, true, 0)) = u) (hs : spD (f (i, false, 0)) = s) :
    Calls Tryz.prog 20 #[.map (some b), .int .i64 i] w fun e w' => e = .returned (.bool (decide (u.first < s.well ∨ u.well < u.last))) ∧ Below w.heap.size w w' := by
  have HU : Hid _ := undoing_any h hk
  have HS : Hid (∀ wx, Below w.heap.size w wx → Calls Tryz.prog 34 #[.map (some b), .int .i64 i] wx fun e w' => e = .returned (SV s) ∧ Below wx.heap.size wx w') := fun wx hb => by
    have := step_any (h.later hb) hk
    rw [hs] at this
    exact this
  rw [hu] at HU
  obtain ⟨uf, uw, ul⟩ := u
  obtain ⟨sf, sw, sl⟩ := s
  obtain ⟨q, hq⟩ : ∃ q, decide (uf < sw ∨ uw < ul) = q := ⟨_, rfl⟩
  have HQ : Hid _ := hq
  show Calls _ _ _ _ fun e w' => e = .returned (.bool (decide (uf < sw ∨ uw < ul))) ∧ _
  rw [hq]
  unfold SV at HU HS
  dsimp only at HU HS
  clear h hk hu hs hq
  go_enter Tryz.func20, Tryz.ntmps20
  go_wp2_with fail
  refine Calls.mono HU.out ?_
  rintro e w1 ⟨rfl, hb1⟩
  have HB1 : Hid _ := hb1
  clear hb1 HU
  go_wp2_with fail
  obtain ⟨wB, hwB⟩ : ∃ wB, w1.alloc (.cells #[.int .i64 uf, .int .i64 uw, .int .i64 ul] 63) = wB := ⟨_, rfl⟩
  have HWB : Hid (wB.heap[w1.heap.size]? = some (.cells #[.int .i64 uf, .int .i64 uw, .int .i64 ul] 63 (0, 0)) ∧ Below w.heap.size w wB) := by
    rw [← hwB]
    exact ⟨heap_alloc_new _ _, HB1.out.trans ((bl1 w1 _).mono HB1.out.size)⟩
  rw [hwB]
  generalize w1.heap.size = p at HWB ⊢
  clear hwB HB1
  have c0 : ∀ wx, Below wB.heap.size wB wx → wx.cell? ⟨p, 0, none⟩ = some (.int .i64 uf) := fun wx hb => (cell_row (row_later HWB.out.1 hb) 0).trans rfl
  have c1 : ∀ wx, Below wB.heap.size wB wx → wx.cell? ⟨p, 1, none⟩ = some (.int .i64 uw) := fun wx hb => (cell_row (row_later HWB.out.1 hb) 1).trans rfl
  have c2 : ∀ wx, Below wB.heap.size wB wx → wx.cell? ⟨p, 2, none⟩ = some (.int .i64 ul) := fun wx hb => (cell_row (row_later HWB.out.1 hb) 2).trans rfl
  have HST : Hid (∀ wx, Below wB.heap.size wB wx → Calls Tryz.prog 34 #[.map (some b), .int .i64 i] wx fun e w' => e = .returned (.agg #[.int .i64 sf, .int .i64 sw, .int .i64 sl]) ∧ Below wB.heap.size wB w') := fun wx hb => (HS.out wx (HWB.out.2.trans (hb.mono HWB.out.2.size))).mono fun e w' he => ⟨he.1, hb.trans (he.2.mono hb.size)⟩
  clear HS
  by_cases h1 : uf < sw
  · have hq1 : q = true := by rw [← HQ.out]; exact decide_eq_true (.inl h1)
    subst hq1
    refine region_thenF [(9, .pointer (some ⟨p, 0, none⟩)), (10, .int .i64 uf), (11, .map (some b)), (12, .int .i64 i), (13, .agg #[.int .i64 sf, .int .i64 sw, .int .i64 sl]), (14, .int .i64 sw), (15, .bool true), (16, .bool true), (22, .bool true), (4, .bool true)] (fun w' => Below wB.heap.size wB w') ?_ ?_
    · refine wp_region_held (S := fun wx => Below wB.heap.size wB wx) (by kernel_rfl) ?_
      have hS0 : Below wB.heap.size wB wB.drew := (Below.refl _ wB).drew
      simp only [List.size_toArray, List.length_cons, List.length_nil, Nat.reduceAdd, Array.replicate_succ, Array.replicate_zero, List.push_toArray, List.nil_append, List.cons_append]
      refine tG 0 9 (.pointer (some ⟨p, 0, none⟩)) 14 rfl hS0 ?_
      refine tV 1 10 (.int .i64 uf) 13 rfl hS0 ?_ (fun wx hx => by have d0 := c0 wx hx; go_simp)
      refine tG 2 11 (.map (some b)) 12 rfl hS0 ?_
      refine tG 3 12 (.int .i64 i) 11 rfl hS0 ?_
      refine oneC (i := 4) (d := 13) (f := 34) (args := #[.map (some b), .int .i64 i]) (v := .agg #[.int .i64 sf, .int .i64 sw, .int .i64 sl]) rfl rfl (by kernel_rfl) (by kernel_rfl) (fun wx => by kernel_rfl) hS0 (fun wx hx => HST.out wx hx) ?_
      intro wy hy0
      simp only [List.setIfInBounds_toArray, List.set_cons_succ, List.set_cons_zero]
      refine tV 5 14 (.int .i64 sw) 9 rfl hy0 ?_ (fun wx hx => by kernel_rfl)
      refine tV 6 15 (.bool true) 8 rfl hy0 ?_ (fun wx hx => by go_simp <;> simp [h1])
      refine tG 7 16 (.bool true) 7 rfl hy0 ?_
      refine tU 8 17 6 rfl hy0 ?_
      refine tU 9 18 5 rfl hy0 ?_
      refine tU 10 19 4 rfl hy0 ?_
      refine tU 11 20 3 rfl hy0 ?_
      refine tU 12 21 2 rfl hy0 ?_
      refine tG 13 22 (.bool true) 1 rfl hy0 ?_
      refine tG 14 4 (.bool true) 0 rfl hy0 ?_
      refine wpAnyH_done (by kernel_rfl) ?_ _
      exact ⟨rfl, by kernel_rfl, hy0⟩
    intro w9 h9
    have H9 : Hid _ := HWB.out.2.trans (h9.mono HWB.out.2.size)
    simp only [setAll, List.setIfInBounds_toArray, List.set_cons_succ, List.set_cons_zero]
    clear c0 c1 c2 HST h9
    go_wp2_with fail
    go_ret
    exact ⟨rfl, H9.out⟩
  · by_cases h2 : uw < ul
    · have hq1 : q = true := by rw [← HQ.out]; exact decide_eq_true (.inr h2)
      subst hq1
      refine region_thenF [(9, .pointer (some ⟨p, 0, none⟩)), (10, .int .i64 uf), (11, .map (some b)), (12, .int .i64 i), (13, .agg #[.int .i64 sf, .int .i64 sw, .int .i64 sl]), (14, .int .i64 sw), (15, .bool false), (16, .bool false), (17, .pointer (some ⟨p, 1, none⟩)), (18, .int .i64 uw), (19, .pointer (some ⟨p, 2, none⟩)), (20, .int .i64 ul), (21, .bool true), (22, .bool true), (4, .bool true)] (fun w' => Below wB.heap.size wB w') ?_ ?_
      · refine wp_region_held (S := fun wx => Below wB.heap.size wB wx) (by kernel_rfl) ?_
        have hS0 : Below wB.heap.size wB wB.drew := (Below.refl _ wB).drew
        simp only [List.size_toArray, List.length_cons, List.length_nil, Nat.reduceAdd, Array.replicate_succ, Array.replicate_zero, List.push_toArray, List.nil_append, List.cons_append]
        refine tG 0 9 (.pointer (some ⟨p, 0, none⟩)) 14 rfl hS0 ?_
        refine tV 1 10 (.int .i64 uf) 13 rfl hS0 ?_ (fun wx hx => by have d0 := c0 wx hx; go_simp)
        refine tG 2 11 (.map (some b)) 12 rfl hS0 ?_
        refine tG 3 12 (.int .i64 i) 11 rfl hS0 ?_
        refine oneC (i := 4) (d := 13) (f := 34) (args := #[.map (some b), .int .i64 i]) (v := .agg #[.int .i64 sf, .int .i64 sw, .int .i64 sl]) rfl rfl (by kernel_rfl) (by kernel_rfl) (fun wx => by kernel_rfl) hS0 (fun wx hx => HST.out wx hx) ?_
        intro wy hy0
        simp only [List.setIfInBounds_toArray, List.set_cons_succ, List.set_cons_zero]
        refine tV 5 14 (.int .i64 sw) 9 rfl hy0 ?_ (fun wx hx => by kernel_rfl)
        refine tV 6 15 (.bool false) 8 rfl hy0 ?_ (fun wx hx => by go_simp <;> simp [h1])
        refine tG 7 16 (.bool false) 7 rfl hy0 ?_
        refine tG 8 17 (.pointer (some ⟨p, 1, none⟩)) 6 rfl hy0 ?_
        refine tV 9 18 (.int .i64 uw) 5 rfl hy0 ?_ (fun wx hx => by have d0 := c1 wx hx; go_simp)
        refine tG 10 19 (.pointer (some ⟨p, 2, none⟩)) 4 rfl hy0 ?_
        refine tV 11 20 (.int .i64 ul) 3 rfl hy0 ?_ (fun wx hx => by have d0 := c2 wx hx; go_simp)
        refine tV 12 21 (.bool true) 2 rfl hy0 ?_ (fun wx hx => by go_simp <;> simp [h2])
        refine tG 13 22 (.bool true) 1 rfl hy0 ?_
        refine tG 14 4 (.bool true) 0 rfl hy0 ?_
        refine wpAnyH_done (by kernel_rfl) ?_ _
        exact ⟨rfl, by kernel_rfl, hy0⟩
      intro w9 h9
      have H9 : Hid _ := HWB.out.2.trans (h9.mono HWB.out.2.size)
      simp only [setAll, List.setIfInBounds_toArray, List.set_cons_succ, List.set_cons_zero]
      clear c0 c1 c2 HST h9
      go_wp2_with fail
      go_ret
      exact ⟨rfl, H9.out⟩
    · have hq1 : q = false := by rw [← HQ.out]; exact decide_eq_false (by omega)
      subst hq1
      refine region_thenF [(9, .pointer (some ⟨p, 0, none⟩)), (10, .int .i64 uf), (11, .map (some b)), (12, .int .i64 i), (13, .agg #[.int .i64 sf, .int .i64 sw, .int .i64 sl]), (14, .int .i64 sw), (15, .bool false), (16, .bool false), (17, .pointer (some ⟨p, 1, none⟩)), (18, .int .i64 uw), (19, .pointer (some ⟨p, 2, none⟩)), (20, .int .i64 ul), (21, .bool false), (22, .bool false), (4, .bool false)] (fun w' => Below wB.heap.size wB w') ?_ ?_
      · refine wp_region_held (S := fun wx => Below wB.heap.size wB wx) (by kernel_rfl) ?_
        have hS0 : Below wB.heap.size wB wB.drew := (Below.refl _ wB).drew
        simp only [List.size_toArray, List.length_cons, List.length_nil, Nat.reduceAdd, Array.replicate_succ, Array.replicate_zero, List.push_toArray, List.nil_append, List.cons_append]
        refine tG 0 9 (.pointer (some ⟨p, 0, none⟩)) 14 rfl hS0 ?_
        refine tV 1 10 (.int .i64 uf) 13 rfl hS0 ?_ (fun wx hx => by have d0 := c0 wx hx; go_simp)
        refine tG 2 11 (.map (some b)) 12 rfl hS0 ?_
        refine tG 3 12 (.int .i64 i) 11 rfl hS0 ?_
        refine oneC (i := 4) (d := 13) (f := 34) (args := #[.map (some b), .int .i64 i]) (v := .agg #[.int .i64 sf, .int .i64 sw, .int .i64 sl]) rfl rfl (by kernel_rfl) (by kernel_rfl) (fun wx => by kernel_rfl) hS0 (fun wx hx => HST.out wx hx) ?_
        intro wy hy0
        simp only [List.setIfInBounds_toArray, List.set_cons_succ, List.set_cons_zero]
        refine tV 5 14 (.int .i64 sw) 9 rfl hy0 ?_ (fun wx hx => by kernel_rfl)
        refine tV 6 15 (.bool false) 8 rfl hy0 ?_ (fun wx hx => by go_simp <;> simp [h1])
        refine tG 7 16 (.bool false) 7 rfl hy0 ?_
        refine tG 8 17 (.pointer (some ⟨p, 1, none⟩)) 6 rfl hy0 ?_
        refine tV 9 18 (.int .i64 uw) 5 rfl hy0 ?_ (fun wx hx => by have d0 := c1 wx hx; go_simp)
        refine tG 10 19 (.pointer (some ⟨p, 2, none⟩)) 4 rfl hy0 ?_
        refine tV 11 20 (.int .i64 ul) 3 rfl hy0 ?_ (fun wx hx => by have d0 := c2 wx hx; go_simp)
        refine tV 12 21 (.bool false) 2 rfl hy0 ?_ (fun wx hx => by go_simp <;> simp [h2])
        refine tG 13 22 (.bool false) 1 rfl hy0 ?_
        refine tG 14 4 (.bool false) 0 rfl hy0 ?_
        refine wpAnyH_done (by kernel_rfl) ?_ _
        exact ⟨rfl, by kernel_rfl, hy0⟩
      intro w9 h9
      have H9 : Hid _ := HWB.out.2.trans (h9.mono HWB.out.2.size)
      simp only [setAll, List.setIfInBounds_toArray, List.set_cons_succ, List.set_cons_zero]
      clear c0 c1 c2 HST h9
      go_wp2_with fail
      go_ret
      exact ⟨rfl, H9.out⟩
end Go.Proofs.YtlegmmhacnbnlaaGreatDoor.J.Tz

/- Whether what is over a step holds a number, or one of a row. -/
namespace Go.Proofs.YtlegmmhacnbnlaaGreatDoor.J.Tz
open Go.RowKit Go.Shelf Go.Proofs.YtlegmmhacnbnlaaGreatDoor.J
set_option maxRecDepth 1000000
set_option linter.unusedVariables false

/-- A row of numbers in a block. -/
def BoB (w : World) (bo : Nat) (l : List Int) : Prop := ∃ v, w.heap[bo]? = some (.cells #[v] 32 (0, 0)) ∧ RdZ w v l
theorem BoB.later {w w' : World} {bo : Nat} {l : List Int} (h : BoB w bo l) (hb : Below w.heap.size w w') : BoB w' bo l := by
  obtain ⟨v, h1, h2⟩ := h
  exact ⟨v, row_later h1 hb, h2.later hb⟩

set_option maxHeartbeats 1000000 in
theorem leans_any (l : List Int) (x : Int) (bo : Nat) (w : World) (h : BoB w bo l) (hn : l.length ≤ 1000000) :
    Calls Tryz.prog 36 #[.int .i64 x, .pointer (some ⟨bo, 0, none⟩)] w fun e w' => e = .returned (.bool (decide (x ∈ l))) ∧ w' = w := by
  obtain ⟨v, h1, h2⟩ := h
  have HC : Hid _ := Contains_any v l x w h2 (by omega)
  have c0 := (cell_row h1 0).trans rfl
  obtain ⟨a, cap, rfl, _⟩ := h2
  obtain ⟨q, hq⟩ : ∃ q, decide (x ∈ l) = q := ⟨_, rfl⟩
  rw [hq] at HC ⊢
  clear h1 hq hn
  go_enter Tryz.func36, Tryz.ntmps36
  go_wp2_with fail
  refine Calls.mono HC.out ?_
  rintro x w2 ⟨rfl, rfl⟩
  clear HC
  go_wp2_with fail
  go_ret
  exact ⟨rfl, rfl⟩

set_option maxHeartbeats 4000000 in
theorem indexZ_any (l m : List Int) (v : Value) (bo : Nat) (w : World) (h : RdZ w v m) (hp : BoB w bo l) (hn : l.length ≤ 1000000) (hl : m.length ≤ 1000000) :
    Calls Tryz.prog 52 #[v, .func (.func 36) #[] #[.pointer (some ⟨bo, 0, none⟩)]] w fun x w' => (∃ q : Int, x = .returned (.int .i64 q) ∧ decide (0 ≤ q) = m.any (fun y => decide (y ∈ l))) ∧ w' = w := by
  have HK : Hid (∀ y, Calls Tryz.prog 36 #[.int .i64 y, .pointer (some ⟨bo, 0, none⟩)] w fun e w' => e = .returned (.bool (decide (y ∈ l))) ∧ w' = w) := fun y => leans_any l y bo w hp hn
  obtain ⟨a, cap, rfl, hc, hr⟩ := h
  have HR : Hid _ := hr
  obtain ⟨n, HN⟩ : ∃ n, Hid (m.length = n) := ⟨_, rfl⟩
  rw [HN.out] at hl hc ⊢
  clear hr hp hn
  go_enter Tryz.func52, Tryz.ntmps52
  go_wp2_with fail
  go_loopw [8, 5] (fun s8 s5 wr => ∃ (j : Nat), s8 = .int .i64 j ∧ j ≤ n ∧ wr = w ∧ Hid (∀ i y, i < j → m[i]? = some y → y ∉ l)) (fun s8 _ _ => n - (intOf s8).toNat)
  case atStart => exact ⟨0, rfl, Nat.zero_le _, rfl, fun i y hi => by omega⟩
  case round =>
    obtain ⟨j, rfl, hj, rfl, HX⟩ := hrel
    by_cases hlt : j < n
    · obtain ⟨z, hz⟩ : ∃ z, m[j]? = some z := ⟨_, List.getElem?_eq_getElem (by rw [HN.out]; exact hlt)⟩
      obtain ⟨b, off, rfl, c0⟩ := HR.out j z hz
      have HZ : Hid (m[j]? = some z) := hz
      have hji : (j : Int) < (n : Int) := by omega
      obtain ⟨q, hq⟩ : ∃ q, decide (z ∈ l) = q := ⟨_, rfl⟩
      have HQ : Hid _ := hq
      have HC : Hid _ := HK.out z
      rw [hq] at HC
      clear hq hz
      cases q with
      | true =>
        go_wp2_with fail
        refine Calls.mono HC.out ?_
        rintro x w2 ⟨rfl, rfl⟩
        have HF : Hid (m.any (fun y => decide (y ∈ l)) = true) := List.any_eq_true.2 ⟨z, List.mem_of_getElem? HZ.out, HQ.out⟩
        clear HC
        go_wp2_with fail
        go_ret
        exact ⟨⟨_, rfl, by rw [HF.out]; simp⟩, rfl⟩
      | false =>
        go_wp2_with fail
        refine Calls.mono HC.out ?_
        rintro x w2 ⟨rfl, rfl⟩
        have HX2 : Hid (∀ i y, i < j + 1 → m[i]? = some y → y ∉ l) := by
          intro i y hi hy
          by_cases e9 : i = j
          · subst e9
            have e8 : z = y := Option.some.inj (HZ.out.symm.trans hy)
            subst e8
            exact of_decide_eq_false HQ.out
          · exact HX.out i y (by omega) hy
        clear HC HX
        go_wp2_with fail
        go_roundw
        case rel => exact ⟨j + 1, by go_num, by omega, trivial, HX2⟩
        case measure => simp [intOf]; omega
    · have HF : Hid (m.any (fun y => decide (y ∈ l)) = false) := by
        show _ = _
        rw [List.any_eq_false]
        intro y hy
        obtain ⟨i, hi⟩ := List.getElem?_of_mem hy
        have hil := (List.getElem?_eq_some_iff.1 hi).1
        have h1 := HX.out i y (by rw [HN.out] at hil; omega) hi
        simpa using h1
      clear HX
      go_wp2_with fail
      go_ret
      exact ⟨⟨_, rfl, by rw [HF.out]; rfl⟩, rfl⟩

set_option maxHeartbeats 1000000 in
theorem containsZ_any (l m : List Int) (v : Value) (bo : Nat) (w : World) (h : RdZ w v m) (hp : BoB w bo l) (hn : l.length ≤ 1000000) (hl : m.length ≤ 1000000) :
    Calls Tryz.prog 38 #[v, .func (.func 36) #[] #[.pointer (some ⟨bo, 0, none⟩)]] w fun x w' => x = .returned (.bool (m.any (fun y => decide (y ∈ l)))) ∧ w' = w := by
  have HC : Hid _ := indexZ_any l m v bo w h hp hn hl
  obtain ⟨a, c, rfl, hc1, _⟩ := h
  obtain ⟨q0, hq0⟩ : ∃ q, m.any (fun y => decide (y ∈ l)) = q := ⟨_, rfl⟩
  rw [hq0] at HC ⊢
  obtain ⟨n, HN⟩ : ∃ n, Hid (m.length = n) := ⟨_, rfl⟩
  rw [HN.out] at HC ⊢
  clear hp hn hl hq0 hc1
  go_enter Tryz.func38, Tryz.ntmps38
  go_wp2_with fail
  refine Calls.mono HC.out ?_
  rintro x w2 ⟨⟨q, rfl, hq⟩, rfl⟩
  have HQ : Hid _ := hq
  clear hq HC
  go_wp2_with fail
  go_ret
  refine ⟨?_, rfl⟩
  rw [← HQ.out]
  rfl
end Go.Proofs.YtlegmmhacnbnlaaGreatDoor.J.Tz

