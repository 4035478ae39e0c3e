/- Texts of the seat, packed: JEm. -/
import Derived.Maps.Keyed
import Derived.Maps.Range
import Derived.DeepKeys4
import Derived.WalkKit
import Derived.Carry
import Derived.Test.YtlegmmhacnbnlaaGreatDoorRows
/- Maps by a step's key in memory: made, asked, written, gone through. -/
namespace Go.Proofs.YtlegmmhacnbnlaaGreatDoor.J.Tz
open Go.RowKit Go.ChangeMaps Go.MapKept Go.Proofs.YtlegmmhacnbnlaaGreatDoor.J
set_option linter.unusedVariables false
set_option maxRecDepth 100000

abbrev Kx := Int × Bool × Int
def KV (k : Kx) : Value := .agg #[.int .i64 k.1, .bool k.2.1, .int .i64 k.2.2]
def wfK (k : Kx) : Prop := (Lit.int .i64 k.1).wf = true ∧ (Lit.int .i64 k.2.2).wf = true
theorem KV_inj {a b : Kx} (h : KV a = KV b) : a = b := by
  obtain ⟨a1, a2, a3⟩ := a
  obtain ⟨b1, b2, b3⟩ := b
  simp [KV] at h
  simp [h]

theorem laid24 : laidOutB Tryz.prog = true := by kernel_rfl
theorem type24 : Tryz.prog.keyTypeAt 3 36 = true := by kernel_rfl
theorem wide24 : (match Tryz.prog.underlying 36 with | some (.array _ _) | some (.struct _) => true | _ => false) = true := by kernel_rfl
theorem size24 : (36 < Tryz.prog.types.size) := of_decide_eq_true (by kernel_rfl)
theorem klaw : Maps.Keyed Tryz.prog 36 := Maps.Keyed.of_law (deep_law_laid laid24 (m := 3) (by omega) size24 type24 wide24)
theorem keyT24 : Tryz.prog.keyType 36 = true := by kernel_rfl
theorem cells24 : Tryz.prog.cellsOf 36 = 3 := by kernel_rfl
theorem under3 : Tryz.prog.underlying 3 = some (.int .i64) := by kernel_rfl
theorem under4 : Tryz.prog.underlying 4 = some .bool := by kernel_rfl
theorem cells3 : Tryz.prog.cellsOf 3 = 1 := by kernel_rfl
theorem cells4' : Tryz.prog.cellsOf 4 = 1 := by kernel_rfl
theorem isStruct {P : Program} {t : TypeId} (h : (match P.underlying t with | some (.struct _) => true | _ => false) = true) : ∃ fs, P.underlying t = some (.struct fs) := by
  cases hu : P.underlying t with
  | none => rw [hu] at h; cases h
  | some d => cases d <;> rw [hu] at h <;> first | exact ⟨_, rfl⟩ | cases h
theorem lits3 (d : Nat) {a : Int} (h : (Lit.int .i64 a).wf = true) : Tryz.prog.keyLits (d + 1) 3 [.int .i64 a] = some [.int .i64 a] := by
  simp [Program.keyLits, h]
theorem lits4 (d : Nat) (b : Bool) : Tryz.prog.keyLits (d + 1) 4 [.bool b] = some [.bool b] := by
  simp [Program.keyLits]
theorem lits24 (d : Nat) {a c : Int} (b : Bool) (h : (Lit.int .i64 a).wf = true) (h2 : (Lit.int .i64 c).wf = true) : Tryz.prog.keyLits (d + 1 + 1) 36 [.int .i64 a, .bool b, .int .i64 c] = some [.int .i64 a, .bool b, .int .i64 c] := by
  conv => lhs; unfold Program.keyLits
  simp only [Tryz.underlying36]
  simp [cells24, cells3, cells4', lits3, lits4, h, h2]
theorem keyOf_ex {k : Kx} (h : wfK k) : ∃ l, keyOf Tryz.prog 36 (KV k) = some l := by
  have hw : ∃ ls, Tryz.prog.keyLits (Tryz.prog.types.size + 1) 36 (KV k).cells.toList = some ls := by
    obtain ⟨d, hd⟩ : ∃ d, Tryz.prog.types.size = d + 1 := ⟨217, by kernel_rfl⟩
    rw [hd]
    obtain ⟨a, b, c⟩ := k
    exact ⟨_, lits24 d b h.1 h.2⟩
  obtain ⟨ls, hls⟩ := hw
  obtain ⟨fs, hs⟩ := isStruct (P := Tryz.prog) (t := 36) (by kernel_rfl)
  refine ⟨.string (keyBytes ls), ?_⟩
  unfold keyOf
  have hf : (KV k).formed Tryz.prog 36 = true := by
    simp [KV, Value.formed, hs, cells24]
  rw [hs]
  simp only [keyT24, hf, Bool.and_self, if_true, hls, Option.map_some]


theorem wfK_of {k : Kx} {w : World} {em : Bool} (h : wfK k) : (Instr.checkKey em 10000 36 (KV k)).run Tryz.prog w = .ok () w := by
  obtain ⟨l, hl⟩ := keyOf_ex h
  exact klaw.check w em hl

/-- A map by such keys in block b: at most n entries; f: what it holds; ev: how an element is laid. -/
def KM {α : Type} (ev : α → Value) (w : World) (b n : Nat) (f : Kx → Option α) : Prop :=
  ∃ es clock, w.heap[b]? = some (.map es clock) ∧ Stamped es clock ∧ es.size ≤ n ∧ (∀ e ∈ es.toList, ∃ k a, wfK k ∧ e.key = KV k ∧ e.val = ev a ∧ f k = some a) ∧ ∀ k a, f k = some a → ∃ e ∈ es.toList, e.key = KV k

section
variable {α : Type} {ev : α → Value} {w w' : World} {b n : Nat} {f : Kx → Option α}
theorem KM.made (w : World) : KM ev (w.alloc (.map #[] 0)) w.heap.size 0 (fun _ => none) :=
  ⟨#[], 0, (MapKept.heap_alloc w _).1, stamped_empty 0, Nat.le_refl _, by simp, fun _ _ h => by cases h⟩
theorem KM.lt (h : KM ev w b n f) : b < w.heap.size := by
  obtain ⟨es, clock, hb, _⟩ := h
  exact (Array.getElem?_eq_some_iff.1 hb).1
theorem KM.of_block (h : KM ev w b n f) (hb : w'.heap[b]? = w.heap[b]?) : KM ev w' b n f := by
  obtain ⟨es, clock, h1, h2⟩ := h
  exact ⟨es, clock, hb.trans h1, h2⟩
theorem KM.later (h : KM ev w b n f) (hb : Below w.heap.size w w') : KM ev w' b n f := h.of_block (hb.block b h.lt)
theorem KM.wf (h : KM ev w b n f) {k : Kx} {a : α} (hk : f k = some a) : wfK k := by
  obtain ⟨es, clock, h1, h2, h3, h4, h5⟩ := h
  obtain ⟨e, he, hek⟩ := h5 k a hk
  obtain ⟨k', a', q1, q2, _⟩ := h4 e he
  rw [KV_inj (hek.symm.trans q2)]
  exact q1
theorem KM.mono (h : KM ev w b n f) {m : Nat} (hm : n ≤ m) : KM ev w b m f := by
  obtain ⟨es, clock, h1, h2, h3, h4⟩ := h
  exact ⟨es, clock, h1, h2, Nat.le_trans h3 hm, h4⟩

theorem KM.find (h : KM ev w b n f) {k : Kx} (hk : wfK k) {es : Array MapEntry} {clock : Nat} (hb : w.heap[b]? = some (.map es clock)) :
    ((Instr.findKey 36 (KV k) es.toList).run Tryz.prog w = .ok none w ∧ f k = none ∧ ∀ e ∈ es.toList, e.key ≠ KV k) ∨ ∃ j e a, (Instr.findKey 36 (KV k) es.toList).run Tryz.prog w = .ok (some (j, e.val)) w ∧ es[j]? = some e ∧ e.key = KV k ∧ e.val = ev a ∧ f k = some a := by
  obtain ⟨es', clock', h1, h2, h3, h4, h5⟩ := h
  rw [hb] at h1
  cases h1
  obtain ⟨l, hl⟩ := keyOf_ex hk
  rcases klaw.find w hl es.toList (fun e he => by obtain ⟨k', a', q1, q2, _⟩ := h4 e he; rw [q2]; exact keyOf_ex q1) with ⟨q1, q2⟩ | ⟨j, e, q1, q2, q3⟩
  · refine .inl ⟨q1, ?_, q2⟩
    cases hf : f k with
    | none => rfl
    | some a =>
      obtain ⟨e, he, hek⟩ := h5 k a hf
      exact absurd hek (q2 e he)
  · have hm : e ∈ es.toList := List.mem_of_getElem? q2
    obtain ⟨k', a, r1, r2, r3, r4⟩ := h4 e hm
    have : k = k' := KV_inj (q3.symm.trans r2)
    subst this
    exact .inr ⟨j, e, a, q1, by simpa using q2, q3, r3, r4⟩

theorem KM.look_some {t e : TypeId} (h : KM ev w b n f) (ht : Tryz.prog.underlying t = some (.map 36 e)) {k : Kx} {a : α} (hf : f k = some a) : (Instr.lookup t (.map (some b)) (KV k) true).run Tryz.prog w = .ok (.tuple #[ev a, .bool true]) w := by
  have hk := h.wf hf
  obtain ⟨es, clock, hb, _⟩ := id h
  rcases h.find hk hb with ⟨_, h2, _⟩ | ⟨j, x, a', q1, q2, q3, q4, q5⟩
  · rw [hf] at h2; cases h2
  · rw [hf] at q5
    cases q5
    simp [Instr.lookup, run_underlying ht, MapKept.run_getObj_map hb, wfK_of hk, q1, q4, Result.andThen]
theorem KM.look_none {t e : TypeId} {z : Value} (h : KM ev w b n f) (ht : Tryz.prog.underlying t = some (.map 36 e)) (hz : (zeroValue e).run Tryz.prog w = .ok z w) {k : Kx} (hk : wfK k) (hf : f k = none) : (Instr.lookup t (.map (some b)) (KV k) true).run Tryz.prog w = .ok (.tuple #[z, .bool false]) w := by
  obtain ⟨es, clock, hb, _⟩ := id h
  rcases h.find hk hb with ⟨h1, h2, _⟩ | ⟨j, x, a', q1, q2, q3, q4, q5⟩
  · simp [Instr.lookup, run_underlying ht, MapKept.run_getObj_map hb, wfK_of hk, h1, hz, Result.andThen]
  · rw [hf] at q5; cases q5

theorem KM.store {t e : TypeId} (h : KM ev w b n f) (ht : Tryz.prog.underlying t = some (.map 36 e)) {k : Kx} (hk : wfK k) (a : α) :
    ∃ w', (Instr.mapUpdate t (.map (some b)) (KV k) (ev a)).run Tryz.prog w = .ok () w' ∧ KM ev w' b (n + 1) (fun x => if x = k then some a else f x) ∧ w.grownBy w' (some b) ∧ w'.heap.size = w.heap.size := by
  obtain ⟨es, clock, hb, hst, hsz, h4, h5⟩ := id h
  have hgr : ∀ o : Obj, w.grownBy (setBlock w b o) (some b) := fun o => ⟨rfl, rfl, rfl, by simp [setBlock], fun i _ hi => heap_setBlock_other hb _ (fun e => hi (by rw [e]))⟩
  rcases h.find hk hb with ⟨h1, h2, h3⟩ | ⟨j, x, a', q1, q2, q3, q4, q5⟩
  · refine ⟨setBlock w b (.map (es.push { key := KV k, val := ev a, born := clock }) (clock + 1)), ?_, ⟨_, _, heap_setBlock_same hb _, stamped_push hst h3, by simp; omega, fun y hy => ?_, fun k' a' hk' => ?_⟩, hgr _, by simp [setBlock]⟩
    · simp [Instr.mapUpdate, run_underlying ht, MapKept.run_getObj_map hb, wfK_of hk, h1, MapKept.run_setObj_map _ hb, Result.andThen, setBlock]
    · simp only [Array.toList_push, List.mem_append, List.mem_singleton] at hy
      rcases hy with hy | rfl
      · obtain ⟨k', a', r1, r2, r3, r4⟩ := h4 y hy
        have : k' ≠ k := fun e => by rw [e, h2] at r4; cases r4
        exact ⟨k', a', r1, r2, r3, (if_neg this).trans r4⟩
      · exact ⟨k, a, hk, rfl, rfl, if_pos rfl⟩
    · by_cases e1 : k' = k
      · subst e1
        exact ⟨⟨KV k', ev a, clock⟩, by simp, rfl⟩
      · replace hk' := (if_neg e1).symm.trans hk'
        obtain ⟨y, hy, hyk⟩ := h5 k' a' hk'
        exact ⟨y, by simp only [Array.toList_push, List.mem_append]; exact .inl hy, hyk⟩
  · obtain ⟨l, hl⟩ := keyOf_ex hk
    have hlist : (es.modify j (fun e' => { e' with key := KV k, val := ev a })).toList = es.toList.set j { x with key := KV k, val := ev a } := by rw [Array.toList_modify, modify_eq_set _ _ _ _ (by simpa using q2)]
    have hjl : j < es.toList.length := by simpa using (Array.getElem?_eq_some_iff.1 q2).1
    have hapart := ((stamped_iff es clock).1 hst).2.2
    refine ⟨setBlock w b (.map (es.modify j (fun e' => { e' with key := KV k, val := ev a })) clock), ?_, ⟨_, _, heap_setBlock_same hb _, stamped_modify hst _ _ (fun _ _ => rfl) (fun e' _ he' => by rw [q2] at he'; cases he'; exact q3.symm), by simp; omega, fun y hy => ?_, fun k' a'' hk' => ?_⟩, hgr _, by simp [setBlock]⟩
    · simp [Instr.mapUpdate, run_underlying ht, MapKept.run_getObj_map hb, wfK_of hk, q1, q2, q3, klaw.stays w hl, MapKept.run_setObj_map _ hb, Result.andThen, setBlock]
    · rw [hlist] at hy
      obtain ⟨i, hi, ey⟩ := List.getElem_of_mem hy
      rw [List.getElem_set] at ey
      split at ey
      · exact ⟨k, a, hk, by rw [← ey], by rw [← ey], if_pos rfl⟩
      · rename_i hne
        have hi' : i < es.toList.length := by simpa using hi
        have hym : y ∈ es.toList := ey ▸ List.getElem_mem hi'
        obtain ⟨k', a3, r1, r2, r3, r4⟩ := h4 y hym
        have hkk : k' ≠ k := fun e1 => by
          subst e1
          have hx : es.toList[j] = x := by have := q2; rw [← Array.getElem?_toList, List.getElem?_eq_getElem hjl] at this; exact Option.some.inj this
          rcases Nat.lt_or_gt_of_ne hne with hlt | hlt
          · exact List.pairwise_iff_getElem.1 hapart j i hjl hi' hlt (by rw [hx, ey, q3, r2])
          · exact List.pairwise_iff_getElem.1 hapart i j hi' hjl hlt (by rw [hx, ey, q3, r2])
        exact ⟨k', a3, r1, r2, r3, (if_neg hkk).trans r4⟩
    · by_cases e1 : k' = k
      · subst e1
        exact ⟨{ x with key := KV k', val := ev a }, by rw [hlist]; exact List.mem_iff_getElem.2 ⟨j, by simpa using hjl, by simp⟩, rfl⟩
      · replace hk' := (if_neg e1).symm.trans hk'
        obtain ⟨y, hy, hyk⟩ := h5 k' a'' hk'
        obtain ⟨i, hi, ey⟩ := List.getElem_of_mem hy
        have hne : j ≠ i := fun e2 => by
          subst e2
          have hx : es.toList[j] = x := by have := q2; rw [← Array.getElem?_toList, List.getElem?_eq_getElem hjl] at this; exact Option.some.inj this
          rw [hx] at ey
          rw [← ey, q3] at hyk
          exact e1 (KV_inj hyk).symm
        refine ⟨y, ?_, hyk⟩
        rw [hlist]
        exact List.mem_iff_getElem.2 ⟨i, by simpa using hi, by rw [List.getElem_set_ne hne]; exact ey⟩

/-- The map is gone through, by block r: D: the keys that have come. -/
def KR {α : Type} (ev : α → Value) (w : World) (b r n : Nat) (f : Kx → Option α) (D : Kx → Prop) : Prop :=
  ∃ es clock since seen c0, w.heap[b]? = some (.map es clock) ∧ Stamped es clock ∧ es.size ≤ n ∧ (∀ e ∈ es.toList, ∃ k a, wfK k ∧ e.key = KV k ∧ e.val = ev a ∧ f k = some a) ∧ (∀ k a, f k = some a → ∃ e ∈ es.toList, e.key = KV k) ∧
    w.heap[r]? = some (.mapIter (some b) since seen c0) ∧ (∀ x ∈ es.toList, x.born < since) ∧ since ≤ c0 ∧ since ≤ clock ∧ ∀ e ∈ es.toList, ∀ k, e.key = KV k → (seen.contains e.born = true ↔ D k)

theorem KR.km {r : Nat} {D : Kx → Prop} (h : KR ev w b r n f D) : KM ev w b n f := by
  obtain ⟨es, clock, since, seen, c0, h1, h2, h3, h4, h5, _⟩ := h
  exact ⟨es, clock, h1, h2, h3, h4, h5⟩
theorem KR.ne {r : Nat} {D : Kx → Prop} (h : KR ev w b r n f D) : b ≠ r := by
  obtain ⟨es, clock, since, seen, c0, h1, h2, h3, h4, h5, h6, _⟩ := h
  intro e
  subst e
  rw [h1] at h6
  cases h6
theorem KR.lt {r : Nat} {D : Kx → Prop} (h : KR ev w b r n f D) : r < w.heap.size := by
  obtain ⟨es, clock, since, seen, c0, h1, h2, h3, h4, h5, h6, _⟩ := h
  exact (Array.getElem?_eq_some_iff.1 h6).1
theorem KR.of_block {r : Nat} {D : Kx → Prop} (h : KR ev w b r n f D) (hb : w'.heap[b]? = w.heap[b]?) (hr : w'.heap[r]? = w.heap[r]?) : KR ev w' b r n f D := by
  obtain ⟨es, clock, since, seen, c0, h1, h2, h3, h4, h5, h6, h7⟩ := h
  exact ⟨es, clock, since, seen, c0, hb.trans h1, h2, h3, h4, h5, hr.trans h6, h7⟩
theorem KR.later {r : Nat} {D : Kx → Prop} (h : KR ev w b r n f D) (hb : Below w.heap.size w w') : KR ev w' b r n f D := h.of_block (hb.block b h.km.lt) (hb.block r h.lt)
theorem left_block {r : Nat} (hb : w'.heap[b]? = w.heap[b]?) (hr : w'.heap[r]? = w.heap[r]?) : w'.rangeLeft b r = w.rangeLeft b r := by
  unfold World.rangeLeft
  rw [hb, hr]

theorem KM.range {t e : TypeId} (h : KM ev w b n f) (ht : Tryz.prog.underlying t = some (.map 36 e)) : (Instr.range t (.map (some b))).run Tryz.prog w = .ok (.pointer (some ⟨w.heap.size, 0, none⟩)) (w.alloc (.mapIter (some b) (match w.heap[b]? with | some (.map _ c) => c | _ => 0) #[] (match w.heap[b]? with | some (.map _ c) => c | _ => 0))) ∧ KR ev (w.alloc (.mapIter (some b) (match w.heap[b]? with | some (.map _ c) => c | _ => 0) #[] (match w.heap[b]? with | some (.map _ c) => c | _ => 0))) b w.heap.size n f (fun _ => False) := by
  have hlt := h.lt
  obtain ⟨es, clock, hb, hst, hsz, h4, h5⟩ := h
  rw [hb]
  refine ⟨run_range_map w t 36 e b es clock ht hb, es, clock, clock, #[], clock, ((MapKept.heap_alloc w _).2 b hlt).trans hb, hst, hsz, h4, h5, (MapKept.heap_alloc w _).1, hst.1, Nat.le_refl _, Nat.le_refl _, fun e he k hk => by simp⟩

theorem KR.next {r : Nat} {D : Kx → Prop} (h : KR ev w b r n f D) (ty : TypeId) :
    ((∀ k a, f k = some a → D k) ∧ (Instr.next (.pointer (some ⟨r, 0, none⟩)) false ty).run Tryz.prog w = .ok (.tuple #[.bool false]) w) ∨
    ∃ k a w', f k = some a ∧ wfK k ∧ ¬ D k ∧ (Instr.next (.pointer (some ⟨r, 0, none⟩)) false ty).run Tryz.prog w = .ok (.tuple #[.bool true, KV k, ev a]) w' ∧ KR ev w' b r n f (fun x => D x ∨ x = k) ∧ w'.rangeLeft b r < w.rangeLeft b r ∧ w.grownBy w' (some r) ∧ w'.heap.size = w.heap.size ∧ (Instr.entry (.pointer (some ⟨r, 0, none⟩))).run Tryz.prog w' = .ok (.tuple #[KV k, ev a]) w' := by
  have hne := h.ne
  obtain ⟨es, clock, since, seen, c0, hb, hst, hsz, h4, h5, hr, hold, hsc, hsk, hD⟩ := h
  rcases run_next_at (P := Tryz.prog) w ty r b since c0 seen es clock hr hb hold hsc with ⟨h0, hrun⟩ | ⟨e, he, w1, hal, hrun⟩
  · refine .inl ⟨fun k a hk => ?_, hrun⟩
    obtain ⟨x, hx, hxk⟩ := h5 k a hk
    exact (hD x hx k hxk).1 (all_seen es seen h0 x hx)
  · obtain ⟨hem, hes⟩ := mem_left he
    obtain ⟨k, a, r1, r2, r3, r4⟩ := h4 e hem
    have hr1 : w1.heap[r]? = some (.mapIter (some b) since seen c0) := by rcases hal with rfl | rfl <;> exact hr
    have hb1 : w1.heap[b]? = some (.map es clock) := by rcases hal with rfl | rfl <;> exact hb
    have hset := heap_set (o' := .mapIter (some b) since (seen.push e.born) clock) hr1
    have hb' : (setBlock w1 r (.mapIter (some b) since (seen.push e.born) clock)).heap[b]? = some (.map es clock) := (hset.2 b (fun e1 => hne e1)).trans hb1
    refine .inr ⟨k, a, _, r4, r1, fun hd => ?_, by rw [r2, r3] at hrun; exact hrun, ⟨es, clock, since, seen.push e.born, clock, hb', hst, hsz, h4, h5, hset.1, hold, hsk, hsk, fun x hx k' hk' => ?_⟩, ?_, ?_, ?_, ?_⟩
    · rw [(hD e hem k r2).2 hd] at hes
      cases hes
    · rw [contains_push]
      have h1 := hD x hx k' hk'
      have h2 : (x.born == e.born) = true ↔ k' = k := by
        constructor
        · intro hbe
          have := born_inj hst.2.1 hx hem (by simpa using hbe)
          subst this
          exact KV_inj (hk'.symm.trans r2)
        · rintro rfl
          have := entry_eq_of_key ((stamped_iff es clock).1 hst).2.2 hx hem (by rw [hk', r2])
          simp [this]
      rw [Bool.or_eq_true, h1, h2]
    · have e1 : (setBlock w1 r (.mapIter (some b) since (seen.push e.born) clock)).rangeLeft b r = (leftOf es (seen.push e.born)).size := by
        unfold World.rangeLeft
        rw [hb', show (setBlock w1 r (.mapIter (some b) since (seen.push e.born) clock)).heap[r]? = _ from hset.1]
      have e2 : w.rangeLeft b r = (leftOf es seen).size := by
        unfold World.rangeLeft
        rw [hb, hr]
      rw [e1, e2]
      exact left_shrinks es seen e he
    · rcases hal with rfl | rfl <;> exact ⟨rfl, rfl, rfl, by simp [setBlock], fun i _ hi => hset.2 i (fun e1 => hi (by rw [e1]))⟩
    · rcases hal with rfl | rfl <;> simp [setBlock]
    · have := run_entry_at (P := Tryz.prog) _ r b since seen es clock e hset.1 hb' hem ((stamped_iff es clock).1 hst).2.1
      rw [r2, r3] at this
      exact this
end
end Go.Proofs.YtlegmmhacnbnlaaGreatDoor.J.Tz

