/- Texts of the seat, packed: Sa Sb Sc Sd. -/
import Derived.Test.YtlmfmgpamhhncaaP8
import Derived.Test.YtlmfmgpamhhncaaRows
import Derived.WalkLawsBesides
import Derived.WalkSpells
import Derived.Deep.QuietTactic
import Derived.BigQuiet
import Derived.Deep.RegionWith
import Derived.Maps.AppendAt
import Derived.Deep.RegionLaw
/- The program's reader: where it stands; now, name, word, mark, mayWord, mayMark. -/
namespace Go.Proofs.Ytlmfmgpamhhncaa
open Go.RowKit

/-- All blocks but one are as they were. -/
structure Ke (rb : Nat) (w w' : World) : Prop where
  os : w'.os = w.os
  tape : w'.tape = w.tape
  output : w'.output = w.output
  size : w.heap.size ≤ w'.heap.size
  block : ∀ k, k < w.heap.size → k ≠ rb → w'.heap[k]? = w.heap[k]?

theorem Ke.refl (rb : Nat) (w : World) : Ke rb w w := ⟨rfl, rfl, rfl, Nat.le_refl _, fun _ _ _ => rfl⟩
theorem Ke.trans {rb : Nat} {x y z : World} (h : Ke rb x y) (k : Ke rb y z) : Ke rb x z :=
  ⟨k.os.trans h.os, k.tape.trans h.tape, k.output.trans h.output, Nat.le_trans h.size k.size, fun i hi hn => (k.block i (Nat.lt_of_lt_of_le hi h.size) hn).trans (h.block i hi hn)⟩
theorem Ke.of_below {rb : Nat} {x y : World} (h : Below x.heap.size x y) : Ke rb x y := ⟨h.os, h.tape, h.output, h.size, fun i hi _ => h.block i hi⟩
theorem Ke.below {rb B : Nat} {x y : World} (h : Ke rb x y) (h1 : B ≤ rb) (h2 : B ≤ x.heap.size) : Below B x y :=
  ⟨h.os, h.tape, h.output, h.size, fun k hk => h.block k (by omega) (by omega)⟩
theorem Ke.setCell (rb : Nat) (w : World) (i : Nat) (v : Value) : Ke rb w (w.setCell ⟨rb, i, none⟩ v) :=
  ⟨rfl, rfl, rfl, by simp, fun k _ hn => Below.heap_setCell w ⟨rb, i, none⟩ v k hn⟩
theorem Ke.drewN {rb : Nat} {x y : World} (h : Ke rb x y) (n : Nat) : Ke rb x (y.drewN n) := ⟨h.os, h.tape, h.output, h.size, h.block⟩
theorem Ke.drew {rb : Nat} {x y : World} (h : Ke rb x y) : Ke rb x y.drew := ⟨h.os, h.tape, h.output, h.size, h.block⟩
theorem Ke.alloc {rb : Nat} {x y : World} (h : Ke rb x y) (o : Obj) : Ke rb x (y.alloc o) :=
  h.trans (Ke.of_below ((Below.refl _ _).alloc (Nat.le_refl _) o))

/-- A piece: what it is, its text, its place. -/
structure Pc where
  ty : Nat
  text : By
  at_ : Nat

def pcv (p : Pc) : Value := .iface p.ty (.agg #[Value.string ⟨p.text.toArray⟩, .int .i64 (p.at_ : Int)])

/-- The reader's block and its pieces; the i-th is next. -/
structure RD (w : World) (rb pb cap : Nat) (ps : List Pc) (i : Nat) : Prop where
  blk : w.heap[rb]? = some (.cells #[.slice (some ⟨pb, 0, none⟩) ps.length cap, .int .i64 (i : Int)] 53 (0, 0))
  pcs : ∀ j p, ps[j]? = some p → w.cell? ⟨pb, j, none⟩ = some (pcv p)
  ne : pb ≠ rb
  lt : pb < w.heap.size
  few : ps.length ≤ 100000
  cp : ps.length ≤ cap

theorem RD.keep {w w' : World} {rb pb cap i : Nat} {ps : List Pc} (h : RD w rb pb cap ps i) (hk : Ke rb w w') (hb : w'.heap[rb]? = w.heap[rb]?) : RD w' rb pb cap ps i :=
  ⟨hb.trans h.blk, fun j p hj => (World.cell?_of_block (a := ⟨pb, j, none⟩) (hk.block pb h.lt h.ne)).trans (h.pcs j p hj), h.ne, Nat.lt_of_lt_of_le h.lt hk.size, h.few, h.cp⟩

theorem RD.below {w w' : World} {rb pb cap i : Nat} {ps : List Pc} (h : RD w rb pb cap ps i) (hk : Below w.heap.size w w') : RD w' rb pb cap ps i :=
  h.keep (Ke.of_below hk) (hk.block rb (Array.getElem?_eq_some_iff.1 h.blk).1)

theorem RD.rlt {w : World} {rb pb cap i : Nat} {ps : List Pc} (h : RD w rb pb cap ps i) : rb < w.heap.size := (Array.getElem?_eq_some_iff.1 h.blk).1

theorem cell_row {w : World} {b : Nat} {cs : Array Value} {t : TypeId} (h : w.heap[b]? = some (.cells cs t (0, 0))) (i : Nat) : w.cell? ⟨b, i, none⟩ = cs[i]? := by
  simp [World.cell?, h]
theorem froz_row {w : World} {b : Nat} {cs : Array Value} {t : TypeId} (h : w.heap[b]? = some (.cells cs t (0, 0))) (i : Nat) : w.frozen? ⟨b, i, none⟩ = false := by
  simp [World.frozen?, h]

theorem RD.c0 {w : World} {rb pb cap i : Nat} {ps : List Pc} (h : RD w rb pb cap ps i) : w.cell? ⟨rb, 0, none⟩ = some (.slice (some ⟨pb, 0, none⟩) ps.length cap) := (cell_row h.blk 0).trans rfl
theorem RD.c1 {w : World} {rb pb cap i : Nat} {ps : List Pc} (h : RD w rb pb cap ps i) : w.cell? ⟨rb, 1, none⟩ = some (.int .i64 (i : Int)) := (cell_row h.blk 1).trans rfl
theorem RD.f1 {w : World} {rb pb cap i : Nat} {ps : List Pc} (h : RD w rb pb cap ps i) : w.frozen? ⟨rb, 1, none⟩ = false := froz_row h.blk 1

/-- The reader goes on by one. -/
theorem RD.on {w : World} {rb pb cap i : Nat} {ps : List Pc} (h : RD w rb pb cap ps i) : RD (w.setCell ⟨rb, 1, none⟩ (.int .i64 ((i + 1 : Nat) : Int))) rb pb cap ps (i + 1) := by
  refine ⟨?_, fun j p hj => ?_, h.ne, by simpa using h.lt, h.few, h.cp⟩
  · have hb := h.blk
    have hlt := h.rlt
    simp only [World.setCell]
    rw [Array.getElem?_eq_getElem (by rw [Array.size_modify]; exact hlt), Array.getElem_modify_self]
    obtain ⟨_, hk'⟩ := Array.getElem?_eq_some_iff.1 hb
    rw [hk']
    simp
  · rw [World.cell?_of_block (a := ⟨pb, j, none⟩) (w := w)]
    · exact h.pcs j p hj
    · exact Below.heap_setCell w ⟨rb, 1, none⟩ _ pb h.ne

theorem RD.on' {w : World} {rb pb cap i : Nat} {ps : List Pc} (h : RD w rb pb cap ps i) : RD (w.setCell ⟨rb, 1, none⟩ (.int .i64 ((i : Int) + 1))) rb pb cap ps (i + 1) := h.on

set_option maxRecDepth 1000000 in
set_option maxHeartbeats 1000000 in
theorem now_any (w : World) (rb pb cap i : Nat) (ps : List Pc) (p : Pc) (h : RD w rb pb cap ps i) (hp : ps[i]? = some p) :
    Calls Try.prog 26 #[.pointer (some ⟨rb, 0, none⟩)] w fun e w' => e = .returned (pcv p) ∧ RD w' rb pb cap ps i ∧ Below w.heap.size w w' := by
  have c0 := h.c0
  have c1 := h.c1
  have cp := h.pcs i p hp
  have hlt := (List.getElem?_eq_some_iff.1 hp).1
  have hli : (i : Int) < (ps.length : Int) := by omega
  go_enter Try.func26, Try.ntmps26
  go_wp2_with fail
  go_quiet (fail)
  go_wp2_with fail
  go_ret
  exact ⟨rfl, ⟨h.blk, h.pcs, h.ne, h.lt, h.few, h.cp⟩, ⟨rfl, rfl, rfl, Nat.le_refl _, fun _ _ => rfl⟩⟩

theorem as_yes100 (v : Value) (w : World) : (Instr.typeAssert (.iface 100 v) 57 100 false).run Try.prog w = .ok v w := by
  simp [Instr.typeAssert, run_underlying Try.underlying100, go_sem, Result.andThen]
theorem as_no100 (t : Nat) (ht : t ≠ 100) : ∃ o : Obj, ∀ (v : Value) (w : World), (Instr.typeAssert (.iface t v) 57 100 false).run Try.prog w = .halt (.panic (.iface 15 (.pointer (some ⟨w.heap.size, 0, none⟩)))) (w.alloc o) := by
  refine ⟨.cells #[typeHandle Try.prog 57, typeHandle Try.prog t, typeHandle Try.prog 100, strVal ""] 151, fun v w => ?_⟩
  simp [Instr.typeAssert, run_underlying Try.underlying100, go_sem, Result.andThen, ht, runtimePanic, elemOf, run_underlying Try.underlying15, goPanic]
theorem as_ok100 (v : Value) (w : World) : (Instr.typeAssert (.iface 100 v) 57 100 true).run Try.prog w = .ok (.tuple #[v, .bool true]) w := by
  simp [Instr.typeAssert, run_underlying Try.underlying100, go_sem, Result.andThen]
theorem as_not100 (t : Nat) (ht : t ≠ 100) (v : Value) (w : World) : (Instr.typeAssert (.iface t v) 57 100 true).run Try.prog w = .ok (.tuple #[.agg #[.string ⟨#[]⟩, .int .i64 0], .bool false]) w := by
  simp [Instr.typeAssert, run_underlying Try.underlying100, go_sem, Result.andThen, ht]

theorem as_yes101 (v : Value) (w : World) : (Instr.typeAssert (.iface 101 v) 57 101 false).run Try.prog w = .ok v w := by
  simp [Instr.typeAssert, run_underlying Try.underlying101, go_sem, Result.andThen]
theorem as_no101 (t : Nat) (ht : t ≠ 101) : ∃ o : Obj, ∀ (v : Value) (w : World), (Instr.typeAssert (.iface t v) 57 101 false).run Try.prog w = .halt (.panic (.iface 15 (.pointer (some ⟨w.heap.size, 0, none⟩)))) (w.alloc o) := by
  refine ⟨.cells #[typeHandle Try.prog 57, typeHandle Try.prog t, typeHandle Try.prog 101, strVal ""] 151, fun v w => ?_⟩
  simp [Instr.typeAssert, run_underlying Try.underlying101, go_sem, Result.andThen, ht, runtimePanic, elemOf, run_underlying Try.underlying15, goPanic]
theorem as_ok101 (v : Value) (w : World) : (Instr.typeAssert (.iface 101 v) 57 101 true).run Try.prog w = .ok (.tuple #[v, .bool true]) w := by
  simp [Instr.typeAssert, run_underlying Try.underlying101, go_sem, Result.andThen]
theorem as_not101 (t : Nat) (ht : t ≠ 101) (v : Value) (w : World) : (Instr.typeAssert (.iface t v) 57 101 true).run Try.prog w = .ok (.tuple #[.agg #[.string ⟨#[]⟩, .int .i64 0], .bool false]) w := by
  simp [Instr.typeAssert, run_underlying Try.underlying101, go_sem, Result.andThen, ht]

theorem as_yes102 (v : Value) (w : World) : (Instr.typeAssert (.iface 102 v) 57 102 false).run Try.prog w = .ok v w := by
  simp [Instr.typeAssert, run_underlying Try.underlying102, go_sem, Result.andThen]
theorem as_no102 (t : Nat) (ht : t ≠ 102) : ∃ o : Obj, ∀ (v : Value) (w : World), (Instr.typeAssert (.iface t v) 57 102 false).run Try.prog w = .halt (.panic (.iface 15 (.pointer (some ⟨w.heap.size, 0, none⟩)))) (w.alloc o) := by
  refine ⟨.cells #[typeHandle Try.prog 57, typeHandle Try.prog t, typeHandle Try.prog 102, strVal ""] 151, fun v w => ?_⟩
  simp [Instr.typeAssert, run_underlying Try.underlying102, go_sem, Result.andThen, ht, runtimePanic, elemOf, run_underlying Try.underlying15, goPanic]
theorem as_ok102 (v : Value) (w : World) : (Instr.typeAssert (.iface 102 v) 57 102 true).run Try.prog w = .ok (.tuple #[v, .bool true]) w := by
  simp [Instr.typeAssert, run_underlying Try.underlying102, go_sem, Result.andThen]
theorem as_not102 (t : Nat) (ht : t ≠ 102) (v : Value) (w : World) : (Instr.typeAssert (.iface t v) 57 102 true).run Try.prog w = .ok (.tuple #[.agg #[.string ⟨#[]⟩, .int .i64 0], .bool false]) w := by
  simp [Instr.typeAssert, run_underlying Try.underlying102, go_sem, Result.andThen, ht]

theorem as_yes103 (v : Value) (w : World) : (Instr.typeAssert (.iface 103 v) 57 103 false).run Try.prog w = .ok v w := by
  simp [Instr.typeAssert, run_underlying Try.underlying103, go_sem, Result.andThen]
theorem as_no103 (t : Nat) (ht : t ≠ 103) : ∃ o : Obj, ∀ (v : Value) (w : World), (Instr.typeAssert (.iface t v) 57 103 false).run Try.prog w = .halt (.panic (.iface 15 (.pointer (some ⟨w.heap.size, 0, none⟩)))) (w.alloc o) := by
  refine ⟨.cells #[typeHandle Try.prog 57, typeHandle Try.prog t, typeHandle Try.prog 103, strVal ""] 151, fun v w => ?_⟩
  simp [Instr.typeAssert, run_underlying Try.underlying103, go_sem, Result.andThen, ht, runtimePanic, elemOf, run_underlying Try.underlying15, goPanic]
theorem as_ok103 (v : Value) (w : World) : (Instr.typeAssert (.iface 103 v) 57 103 true).run Try.prog w = .ok (.tuple #[v, .bool true]) w := by
  simp [Instr.typeAssert, run_underlying Try.underlying103, go_sem, Result.andThen]
theorem as_not103 (t : Nat) (ht : t ≠ 103) (v : Value) (w : World) : (Instr.typeAssert (.iface t v) 57 103 true).run Try.prog w = .ok (.tuple #[.agg #[.string ⟨#[]⟩, .int .i64 0], .bool false]) w := by
  simp [Instr.typeAssert, run_underlying Try.underlying103, go_sem, Result.andThen, ht]

def isW (s : By) : Prop := s ∈ [wSaga, wStep, wSub, wUndo, wAfter, wVital, wLoose, wOr]
def isM (s : By) : Prop := s ∈ [mOpen, mShut, mIn, mOut, mEnd, mAnd]

/-- The pieces are what the tokens' texts say. -/
structure Cls (nm : By → Bool) (L : List By) (ps : List Pc) : Prop where
  len : ps.length = L.length + 1
  name : ∀ (i : Nat) (p : Pc), ps[i]? = some p → p.ty = 102 → L[i]? = some p.text ∧ nm p.text = true
  noname : ∀ (i : Nat) (p : Pc) (t : By), ps[i]? = some p → p.ty ≠ 102 → L[i]? = some t → nm t = false
  word : ∀ (i : Nat) (p : Pc) (s : By), ps[i]? = some p → isW s → ((p.ty = 101 ∧ p.text = s) ↔ L[i]? = some s)
  mark : ∀ (i : Nat) (p : Pc) (s : By), ps[i]? = some p → isM s → ((p.ty = 100 ∧ p.text = s) ↔ L[i]? = some s)
  past : ∀ (i : Nat) (p : Pc), ps[i]? = some p → (p.ty = 103 ↔ i = L.length)

/-- How a call of the reader's ends: with something, or by a panic; where the reader stands then. -/
def RdC {α : Type} (rb pb cap : Nat) (ps : List Pc) (w : World) (g : Got α) (V : α → Value → World → Prop) (e : Ending) (w' : World) : Prop :=
  Ke rb w w' ∧ ((∃ x j v, g = .ok x j ∧ RD w' rb pb cap ps j ∧ e = .returned v ∧ V x v w') ∨ (∃ j t u, g = .no j ∧ RD w' rb pb cap ps j ∧ e = .panicked [{ v := .iface t u, recovered := false }]))

theorem Ke.on (rb : Nat) (w : World) (v : Value) : Ke rb w (w.setCell ⟨rb, 1, none⟩ v) := Ke.setCell rb w 1 v

theorem RD.drewN {w : World} {rb pb cap i : Nat} {ps : List Pc} (h : RD w rb pb cap ps i) (n : Nat) : RD (w.drewN n) rb pb cap ps i := ⟨h.blk, h.pcs, h.ne, h.lt, h.few, h.cp⟩

theorem RD.alloc {w : World} {rb pb cap i : Nat} {ps : List Pc} (h : RD w rb pb cap ps i) (o : Obj) : RD (w.alloc o) rb pb cap ps i := h.below ((Below.refl _ _).alloc (Nat.le_refl _) o)

theorem RD.here {w : World} {rb pb cap i : Nat} {ps : List Pc} {nm : By → Bool} {L : List By} (_h : RD w rb pb cap ps i) (hc : Cls nm L ps) (hi : i ≤ L.length) : ∃ p, ps[i]? = some p :=
  ⟨_, List.getElem?_eq_getElem (by rw [hc.len]; omega)⟩

section
variable {nm : By → Bool} {L : List By} {ps : List Pc} (hc : Cls nm L ps)
include hc

set_option maxRecDepth 1000000 in
set_option maxHeartbeats 1000000 in
theorem name_rd (w : World) (rb pb cap i : Nat) (h : RD w rb pb cap ps i) (hi : i ≤ L.length) :
    Calls Try.prog 51 #[.pointer (some ⟨rb, 0, none⟩)] w fun e w' => RdC rb pb cap ps w (rName nm L i) (fun x v _ => v = Value.string ⟨x.toArray⟩) e w' := by
  obtain ⟨p, hp⟩ := h.here hc hi
  have HN : Hid _ := now_any w rb pb cap i ps p h hp
  have h1 := hc.name i p hp
  have h2 := hc.noname i p
  have hf := h.few
  have hlt := (List.getElem?_eq_some_iff.1 hp).1
  by_cases ht : p.ty = 102
  · obtain ⟨e1, e2⟩ := h1 ht
    have hr : rName nm L i = .ok p.text (i + 1) := by simp [rName, e1, e2]
    rw [hr]
    have hv : pcv p = .iface 102 (.agg #[.string ⟨p.text.toArray⟩, .int .i64 (p.at_ : Int)]) := by unfold pcv; rw [ht]
    rw [hv] at HN
    have ha := as_yes102
    clear h h1 h2 hc hv
    go_enter Try.func51, Try.ntmps51
    go_wp2_with fail
    refine Calls.mono HN.out ?_
    rintro e w1 ⟨rfl, h1, hb1⟩
    clear HN
    have HR : Hid _ := h1.alloc (.cells #[.string ⟨p.text.toArray⟩, .int .i64 (p.at_ : Int)] 102)
    have c1 := HR.out.c1
    have f1 := HR.out.f1
    clear h1
    go_wp2_with fail
    go_ret
    exact ⟨((Ke.of_below hb1).alloc _).trans (Ke.on rb _ _), .inl ⟨_, _, _, rfl, HR.out.on', rfl, rfl⟩⟩
  · have hr : rName nm L i = .no i := by
      unfold rName
      cases hl : L[i]? with
      | none => rfl
      | some t => simp [h2 t hp ht hl]
    rw [hr]
    obtain ⟨o, ho⟩ := as_no102 p.ty ht
    clear h h1 h2 hc
    unfold pcv at HN
    go_enter Try.func51, Try.ntmps51
    go_wp2_with fail
    refine Calls.mono HN.out ?_
    rintro e w1 ⟨rfl, h1, hb1⟩
    clear HN
    go_wp2_with fail
    exact ⟨rfl, (Ke.of_below hb1).alloc o, .inr ⟨i, _, _, rfl, h1.alloc o, rfl⟩⟩

set_option maxRecDepth 1000000 in
set_option maxHeartbeats 1000000 in
theorem word_rd (w : World) (rb pb cap i : Nat) (h : RD w rb pb cap ps i) (hi : i ≤ L.length) (s : By) (hs : isW s) :
    Calls Try.prog 50 #[.pointer (some ⟨rb, 0, none⟩), .string ⟨s.toArray⟩] w fun e w' => RdC rb pb cap ps w (if isT L i s then Got.ok () (i + 1) else .no i) (fun _ v _ => v = .tuple #[]) e w' := by
  obtain ⟨p, hp⟩ := h.here hc hi
  have HN : Hid _ := now_any w rb pb cap i ps p h hp
  have h1 := hc.word i p s hp hs
  have hf := h.few
  have hlt := (List.getElem?_eq_some_iff.1 hp).1
  by_cases ht : p.ty = 101
  · have hv : pcv p = .iface 101 (.agg #[.string ⟨p.text.toArray⟩, .int .i64 (p.at_ : Int)]) := by unfold pcv; rw [ht]
    rw [hv] at HN
    have ha := as_yes101
    by_cases hx : p.text = s
    · have hr : isT L i s = true := by simp [isT, h1.1 ⟨ht, hx⟩]
      rw [hr]
      clear h h1 hc hv hr hs
      subst hx
      go_enter Try.func50, Try.ntmps50
      go_wp2_with fail
      refine Calls.mono HN.out ?_
      rintro e w1 ⟨rfl, h1, hb1⟩
      clear HN
      have HR : Hid _ := h1.alloc (.cells #[.string ⟨p.text.toArray⟩, .int .i64 (p.at_ : Int)] 101)
      have c1 := HR.out.c1
      have f1 := HR.out.f1
      clear h1
      go_wp2_with fail
      first | go_end0 | refine bodyPost_ret (results_none rfl _ _ _) rfl ?_
      exact ⟨((Ke.of_below hb1).alloc _).trans (Ke.on rb _ _), .inl ⟨(), _, _, rfl, HR.out.on', rfl, rfl⟩⟩
    · have hr : isT L i s = false := by
        cases hb : isT L i s with
        | false => rfl
        | true => exact absurd (h1.2 (by simpa [isT] using hb)).2 hx
      rw [hr]
      have hq : (p.text == s) = false := by simp [hx]
      clear h h1 hc hv hr hs
      go_enter Try.func50, Try.ntmps50
      go_wp2_with fail
      refine Calls.mono HN.out ?_
      rintro e w1 ⟨rfl, h1, hb1⟩
      clear HN
      go_wp2_with fail
      exact ⟨rfl, (Ke.of_below hb1).alloc _, .inr ⟨i, _, _, rfl, h1.alloc _, rfl⟩⟩
  · have hr : isT L i s = false := by
      cases hb : isT L i s with
      | false => rfl
      | true => exact absurd (h1.2 (by simpa [isT] using hb)).1 ht
    rw [hr]
    obtain ⟨o, ho⟩ := as_no101 p.ty ht
    clear h h1 hc hr
    unfold pcv at HN
    go_enter Try.func50, Try.ntmps50
    go_wp2_with fail
    refine Calls.mono HN.out ?_
    rintro e w1 ⟨rfl, h1, hb1⟩
    clear HN
    go_wp2_with fail
    exact ⟨rfl, (Ke.of_below hb1).alloc o, .inr ⟨i, _, _, rfl, h1.alloc o, rfl⟩⟩

set_option maxRecDepth 1000000 in
set_option maxHeartbeats 1000000 in
theorem mark_rd (w : World) (rb pb cap i : Nat) (h : RD w rb pb cap ps i) (hi : i ≤ L.length) (s : By) (hs : isM s) :
    Calls Try.prog 74 #[.pointer (some ⟨rb, 0, none⟩), .string ⟨s.toArray⟩] w fun e w' => RdC rb pb cap ps w (if isT L i s then Got.ok () (i + 1) else .no i) (fun _ v _ => v = .tuple #[]) e w' := by
  obtain ⟨p, hp⟩ := h.here hc hi
  have HN : Hid _ := now_any w rb pb cap i ps p h hp
  have h1 := hc.mark i p s hp hs
  have hf := h.few
  have hlt := (List.getElem?_eq_some_iff.1 hp).1
  by_cases ht : p.ty = 100
  · have hv : pcv p = .iface 100 (.agg #[.string ⟨p.text.toArray⟩, .int .i64 (p.at_ : Int)]) := by unfold pcv; rw [ht]
    rw [hv] at HN
    have ha := as_yes100
    by_cases hx : p.text = s
    · have hr : isT L i s = true := by simp [isT, h1.1 ⟨ht, hx⟩]
      rw [hr]
      clear h h1 hc hv hr hs
      subst hx
      go_enter Try.func74, Try.ntmps74
      go_wp2_with fail
      refine Calls.mono HN.out ?_
      rintro e w1 ⟨rfl, h1, hb1⟩
      clear HN
      have HR : Hid _ := h1.alloc (.cells #[.string ⟨p.text.toArray⟩, .int .i64 (p.at_ : Int)] 100)
      have c1 := HR.out.c1
      have f1 := HR.out.f1
      clear h1
      go_wp2_with fail
      first | go_end0 | refine bodyPost_ret (results_none rfl _ _ _) rfl ?_
      exact ⟨((Ke.of_below hb1).alloc _).trans (Ke.on rb _ _), .inl ⟨(), _, _, rfl, HR.out.on', rfl, rfl⟩⟩
    · have hr : isT L i s = false := by
        cases hb : isT L i s with
        | false => rfl
        | true => exact absurd (h1.2 (by simpa [isT] using hb)).2 hx
      rw [hr]
      have hq : (p.text == s) = false := by simp [hx]
      clear h h1 hc hv hr hs
      go_enter Try.func74, Try.ntmps74
      go_wp2_with fail
      refine Calls.mono HN.out ?_
      rintro e w1 ⟨rfl, h1, hb1⟩
      clear HN
      go_wp2_with fail
      exact ⟨rfl, (Ke.of_below hb1).alloc _, .inr ⟨i, _, _, rfl, h1.alloc _, rfl⟩⟩
  · have hr : isT L i s = false := by
      cases hb : isT L i s with
      | false => rfl
      | true => exact absurd (h1.2 (by simpa [isT] using hb)).1 ht
    rw [hr]
    obtain ⟨o, ho⟩ := as_no100 p.ty ht
    clear h h1 hc hr
    unfold pcv at HN
    go_enter Try.func74, Try.ntmps74
    go_wp2_with fail
    refine Calls.mono HN.out ?_
    rintro e w1 ⟨rfl, h1, hb1⟩
    clear HN
    go_wp2_with fail
    exact ⟨rfl, (Ke.of_below hb1).alloc o, .inr ⟨i, _, _, rfl, h1.alloc o, rfl⟩⟩

set_option maxRecDepth 1000000 in
set_option maxHeartbeats 1000000 in
theorem mayWord_rd (w : World) (rb pb cap i : Nat) (h : RD w rb pb cap ps i) (hi : i ≤ L.length) (s : By) (hs : isW s) :
    Calls Try.prog 76 #[.pointer (some ⟨rb, 0, none⟩), .string ⟨s.toArray⟩] w fun e w' => e = .returned (.bool (isT L i s)) ∧ Ke rb w w' ∧ RD w' rb pb cap ps (if isT L i s then i + 1 else i) := by
  obtain ⟨p, hp⟩ := h.here hc hi
  have HN : Hid _ := now_any w rb pb cap i ps p h hp
  have h1 := hc.word i p s hp hs
  have hf := h.few
  have hlt := (List.getElem?_eq_some_iff.1 hp).1
  by_cases ht : p.ty = 101
  · have hv : pcv p = .iface 101 (.agg #[.string ⟨p.text.toArray⟩, .int .i64 (p.at_ : Int)]) := by unfold pcv; rw [ht]
    rw [hv] at HN
    have ha := as_ok101
    by_cases hx : p.text = s
    · have hr : isT L i s = true := by simp [isT, h1.1 ⟨ht, hx⟩]
      rw [hr]
      clear h h1 hc hv hr hs
      subst hx
      go_enter Try.func76, Try.ntmps76
      go_wp2_with fail
      refine Calls.mono HN.out ?_
      rintro e w1 ⟨rfl, h1, hb1⟩
      clear HN
      have HR : Hid _ := h1.alloc (.cells #[.string ⟨p.text.toArray⟩, .int .i64 (p.at_ : Int)] 101)
      have c1 := HR.out.c1
      have f1 := HR.out.f1
      clear h1
      go_wp2_with fail
      go_ret
      exact ⟨rfl, ((Ke.of_below hb1).alloc _).trans (Ke.on rb _ _), HR.out.on'⟩
    · have hr : isT L i s = false := by
        cases hb : isT L i s with
        | false => rfl
        | true => exact absurd (h1.2 (by simpa [isT] using hb)).2 hx
      rw [hr]
      have hq : (p.text == s) = false := by simp [hx]
      clear h h1 hc hv hr hs
      go_enter Try.func76, Try.ntmps76
      go_wp2_with fail
      refine Calls.mono HN.out ?_
      rintro e w1 ⟨rfl, h1, hb1⟩
      clear HN
      go_wp2_with fail
      go_ret
      exact ⟨rfl, (Ke.of_below hb1).alloc _, h1.alloc _⟩
  · have hr : isT L i s = false := by
      cases hb : isT L i s with
      | false => rfl
      | true => exact absurd (h1.2 (by simpa [isT] using hb)).1 ht
    rw [hr]
    have ho := as_not101 p.ty ht
    clear h h1 hc hr
    unfold pcv at HN
    go_enter Try.func76, Try.ntmps76
    go_wp2_with fail
    refine Calls.mono HN.out ?_
    rintro e w1 ⟨rfl, h1, hb1⟩
    clear HN
    go_wp2_with fail
    go_ret
    exact ⟨rfl, (Ke.of_below hb1).alloc _, h1.alloc _⟩

set_option maxRecDepth 1000000 in
set_option maxHeartbeats 1000000 in
theorem mayMark_rd (w : World) (rb pb cap i : Nat) (h : RD w rb pb cap ps i) (hi : i ≤ L.length) (s : By) (hs : isM s) :
    Calls Try.prog 88 #[.pointer (some ⟨rb, 0, none⟩), .string ⟨s.toArray⟩] w fun e w' => e = .returned (.bool (isT L i s)) ∧ Ke rb w w' ∧ RD w' rb pb cap ps (if isT L i s then i + 1 else i) := by
  obtain ⟨p, hp⟩ := h.here hc hi
  have HN : Hid _ := now_any w rb pb cap i ps p h hp
  have h1 := hc.mark i p s hp hs
  have hf := h.few
  have hlt := (List.getElem?_eq_some_iff.1 hp).1
  by_cases ht : p.ty = 100
  · have hv : pcv p = .iface 100 (.agg #[.string ⟨p.text.toArray⟩, .int .i64 (p.at_ : Int)]) := by unfold pcv; rw [ht]
    rw [hv] at HN
    have ha := as_ok100
    by_cases hx : p.text = s
    · have hr : isT L i s = true := by simp [isT, h1.1 ⟨ht, hx⟩]
      rw [hr]
      clear h h1 hc hv hr hs
      subst hx
      go_enter Try.func88, Try.ntmps88
      go_wp2_with fail
      refine Calls.mono HN.out ?_
      rintro e w1 ⟨rfl, h1, hb1⟩
      clear HN
      have HR : Hid _ := h1.alloc (.cells #[.string ⟨p.text.toArray⟩, .int .i64 (p.at_ : Int)] 100)
      have c1 := HR.out.c1
      have f1 := HR.out.f1
      clear h1
      go_wp2_with fail
      go_ret
      exact ⟨rfl, ((Ke.of_below hb1).alloc _).trans (Ke.on rb _ _), HR.out.on'⟩
    · have hr : isT L i s = false := by
        cases hb : isT L i s with
        | false => rfl
        | true => exact absurd (h1.2 (by simpa [isT] using hb)).2 hx
      rw [hr]
      have hq : (p.text == s) = false := by simp [hx]
      clear h h1 hc hv hr hs
      go_enter Try.func88, Try.ntmps88
      go_wp2_with fail
      refine Calls.mono HN.out ?_
      rintro e w1 ⟨rfl, h1, hb1⟩
      clear HN
      go_wp2_with fail
      go_ret
      exact ⟨rfl, (Ke.of_below hb1).alloc _, h1.alloc _⟩
  · have hr : isT L i s = false := by
      cases hb : isT L i s with
      | false => rfl
      | true => exact absurd (h1.2 (by simpa [isT] using hb)).1 ht
    rw [hr]
    have ho := as_not100 p.ty ht
    clear h h1 hc hr
    unfold pcv at HN
    go_enter Try.func88, Try.ntmps88
    go_wp2_with fail
    refine Calls.mono HN.out ?_
    rintro e w1 ⟨rfl, h1, hb1⟩
    clear HN
    go_wp2_with fail
    go_ret
    exact ⟨rfl, (Ke.of_below hb1).alloc _, h1.alloc _⟩
end
end Go.Proofs.Ytlmfmgpamhhncaa

/- The program's reader: leanings and steps. -/
namespace Go.Proofs.Ytlmfmgpamhhncaa
open Go.RowKit

def Got.map {α β : Type} (h : α → β) : Got α → Got β
  | .ok x i => .ok (h x) i
  | .no i => .no i

theorem Got.map_map {α β γ : Type} (f : α → β) (h : β → γ) (g : Got α) : (g.map f).map h = g.map (fun x => h (f x)) := by cases g <;> rfl

theorem rLean_eq {nm : By → Bool} {L : List By} {i j : Nat} {x : By} (ha : isT L i wAfter = true) (hg : rName nm L (i + 1) = .ok x j) : rLean nm L i = (rMore nm L (L.length + 1) j).map (x :: ·) := by
  unfold rLean
  rw [ha, hg]
  simp only [if_true]
  cases h : rMore nm L (L.length + 1) j <;> simp [Got.map]

theorem rMore_eq {nm : By → Bool} {L : List By} {f i j : Nat} {x : By} (ha : isT L i mAnd = true) (hg : rName nm L (i + 1) = .ok x j) : rMore nm L (f + 1) i = (rMore nm L f j).map (x :: ·) := by
  rw [rMore, ha, hg]
  simp only [if_true]
  cases h : rMore nm L f j <;> simp [Got.map]

theorem rMore_no {nm : By → Bool} {L : List By} {f i j : Nat} (ha : isT L i mAnd = true) (hg : rName nm L (i + 1) = .no j) : rMore nm L (f + 1) i = .no j := by
  rw [rMore, ha, hg]
  simp

theorem Ke.grown {rb : Nat} {w w' : World} (h : Ke rb w w') : w.grownBy w' (some rb) := ⟨h.os, h.tape, h.output, h.size, fun k hk hn => h.block k hk (fun e => hn (by rw [e]))⟩

/-- A row of the call's own is left alone by the reader. -/
theorem own_ke {w w' : World} {B rb n : Nat} {e : TypeId} {sz : Nat} {v : Value} {xs : List Value} (h : w.ownsRow B e sz v n xs) (hk : Ke rb w w') (hb : rb < B) : w'.ownsRow B e sz v n xs :=
  h.kept hk.grown (.inr (fun he => by have := (h.lt _ he).1; omega))

theorem Ke.push {rb : Nat} {w w4 w5 : World} {o : Obj} {row : Option Nat} (k : Ke rb w w4) (hg : (w4.alloc o).grownBy w5 row) (hrow : ∀ j, row = some j → w.heap.size ≤ j) : Ke rb w w5 := by
  have hz := k.size
  refine ⟨hg.os.trans k.os, hg.tape.trans k.tape, hg.output.trans k.output, by have := hg.size; simp at this; omega, fun i hi hn => ?_⟩
  rw [hg.block i (by simp; omega) (fun e => by have := hrow i e.symm; omega), Below.heap_alloc _ _ _ (by omega)]
  exact k.block i hi hn

theorem RD.push {w4 w5 : World} {rb pb cap i : Nat} {ps : List Pc} {o : Obj} {row : Option Nat} (h : RD w4 rb pb cap ps i) (hg : (w4.alloc o).grownBy w5 row) (hrow : ∀ j, row = some j → j ≠ rb ∧ j ≠ pb) : RD w5 rb pb cap ps i := by
  have h1 := h.alloc o
  have hz := hg.size
  refine ⟨(hg.block rb h1.rlt (fun e => (hrow rb e.symm).1 rfl)).trans h1.blk, fun j p hj => (World.cell?_of_block (a := ⟨pb, j, none⟩) (hg.block pb h1.lt (fun e => (hrow pb e.symm).2 rfl))).trans (h1.pcs j p hj), h.ne, by have := h1.lt; omega, h.few, h.cp⟩

/-- Where the reader stands, by its block. -/
def nx (w : World) (rb : Nat) : Nat := match w.cell? ⟨rb, 1, none⟩ with
  | some (.int _ i) => i.toNat
  | _ => 0

theorem nx_eq {w : World} {rb pb cap i : Nat} {ps : List Pc} (h : RD w rb pb cap ps i) : nx w rb = i := by
  unfold nx
  rw [h.c1]
  simp

def svs (xs : List By) : List Value := xs.map fun x => .string ⟨x.toArray⟩

theorem Try.info9 : (Try.prog.info? 9).map (fun i => (i.zero, i.size, i.bytes)) = some (some (.string ⟨#[]⟩), 1, 16) := by kernel_rfl

/-- 'append' of one text onto a slice of texts of the call's own. -/
theorem append_str {W : World} {ops : Array Oper} {rest : List Oper} {o : Oper} {a : Act} {Q : Exit → Act → World → Prop} (hgd : o.guard = none) (s x : Operand)
    (ho : o.op = .call { callee := .builtin .append, args := #[s, x], argTypes := #[78, 78] }) (B : Nat) (v : Value) (l : List By) (hs : a.eval s = v) (hown : W.ownsRow B 9 1 v l.length (svs l))
    (t : By) (A : Addr) (hx : a.eval x = .slice (some A) 1 1) (hcells : W.cell? A = some (.string ⟨t.toArray⟩)) (hl : l.length ≤ 100000) (hB : B ≤ W.heap.size)
    (h : ∀ g cap w', w'.ownsRow B 9 1 (.slice (some ⟨g, 0, none⟩) (l.length + 1) cap) (l ++ [t]).length (svs (l ++ [t])) → W.grownBy w' v.ownBlock → wpList Try.prog ops Q rest (a.put o.dst (.slice (some ⟨g, 0, none⟩) (l.length + 1) cap)) w') : wpList Try.prog ops Q (o :: rest) a W := by
  obtain ⟨i0, hi, hz0, hz1, hz2⟩ := info_parts Try.info9
  refine wpList_append_own _ hgd s x 78 ho B 9 i0 _ 1 16 Try.underlying78 hi hz0 hz1 hz2 rfl (by decide) v l.length (svs l) hs hown A 1 1 [.string ⟨t.toArray⟩] hx rfl ?_ (by simp [Value.oneCell']) (by unfold maxLen; omega) (by omega) hB ?_
  · intro j u hj
    cases j with
    | zero => simp at hj; subst hj; simpa [Addr.add] using hcells
    | succ j => simp at hj
  intro v' w' hown' hg _
  have ho' : w'.ownsRow B 9 1 v' (l ++ [t]).length (svs (l ++ [t])) := by simpa [svs] using hown'
  have h1 := ho'
  rw [show (l ++ [t]).length = l.length + 1 by simp] at h1
  rcases h1.2 with ⟨_, h0⟩ | ⟨g, cap, cur, rfl, _⟩
  · omega
  · exact h g cap w' ho' hg

theorem SAt.of_own {w : World} {B : Nat} {v : Value} {xs : List By} (h : w.ownsRow B 9 1 v xs.length (svs xs)) : ∃ a c, v = .slice a xs.length c ∧ SAt (fun b => B ≤ b) w xs a xs.length := by
  rcases h.2 with ⟨rfl, h0⟩ | ⟨g, cap, cur, rfl, hb, hg, hnc, hcm, _⟩
  · have h1 : xs = [] := List.eq_nil_of_length_eq_zero h0
    subst h1
    exact ⟨none, 0, rfl, rfl, by simp⟩
  · refine ⟨_, cap, rfl, rfl, fun i x hi => ⟨g, 0, rfl, hb, ?_⟩⟩
    have hil : i < xs.length := (List.getElem?_eq_some_iff.1 hi).1
    rw [Nat.zero_add, h.cellAt _ (by omega)]
    simp [svs, hi]

section
variable {nm : By → Bool} {L : List By} {ps : List Pc} (hc : Cls nm L ps)
include hc

set_option maxRecDepth 1000000 in
set_option maxHeartbeats 2000000 in
theorem leanings_rd (w : World) (rb pb cap i : Nat) (h : RD w rb pb cap ps i) (hi : i ≤ L.length) :
    Calls Try.prog 98 #[.pointer (some ⟨rb, 0, none⟩)] w fun e w' => RdC rb pb cap ps w (rLean nm L i) (fun xs v w' => ∃ a c, v = .slice a xs.length c ∧ SAt (fun b => w.heap.size ≤ b) w' xs a xs.length) e w' := by
  have hlen := hc.len
  have hrlt := h.rlt
  have hplt := h.lt
  have M1 : Hid _ := mayWord_rd hc w rb pb cap i h hi wAfter (by simp [isW])
  go_enter Try.func98, Try.ntmps98
  go_wp2_with fail
  refine Calls.mono M1.out ?_
  rintro e w1 ⟨rfl, k1, r1⟩
  clear M1
  cases ha : isT L i wAfter with
  | false =>
    have hG : rLean nm L i = .ok [] i := by simp [rLean, ha]
    rw [ha] at r1
    go_wp2_with fail
    go_ret
    exact ⟨k1, .inl ⟨[], i, _, hG, r1, rfl, none, 0, rfl, rfl, by simp⟩⟩
  | true =>
    rw [ha] at r1
    have hi1 := isT_lt L ha
    have M2 : Hid _ := name_rd hc w1 rb pb cap (i + 1) r1 (by omega)
    clear r1 h
    go_wp2_with fail
    refine Calls.mono M2.out ?_
    clear M2
    rintro e w2 ⟨k2, ⟨x, j, v, hg, hr, rfl, rfl⟩ | ⟨j, t, u, hg, hr, rfl⟩⟩
    · have HG : Hid (rLean nm L i = (rMore nm L (L.length + 1) j).map (x :: ·)) := rLean_eq ha hg
      have hf := rName_fit nm L (i + 1) (by omega)
      rw [hg] at hf
      have hj : i + 2 ≤ j ∧ j ≤ L.length := ⟨by have := hf.1; omega, hf.2⟩
      have k3 : Ke rb w w2 := k1.trans k2
      have hsz := k3.size
      have ho0 : (w2.alloc (.cells #[.string ⟨x.toArray⟩] 9)).ownsRow w.heap.size 9 1 (.slice (some ⟨w2.heap.size, 0, none⟩) 1 1) [x].length (svs [x]) :=
        World.ownsRow_lit w2 #[.string ⟨x.toArray⟩] 1 hsz (by decide) rfl
      have hr0 := hr.alloc (.cells #[.string ⟨x.toArray⟩] 9)
      have k0 := k3.alloc (.cells #[.string ⟨x.toArray⟩] 9)
      clear hf hg hr k1 k2 k3 ha
      go_wp2_with fail
      go_loopw [3] (fun lv wr => ∃ (acc : List By) (q f : Nat), Hid (acc.length ≤ q) ∧ q ≤ L.length ∧ L.length < q + f ∧ Hid (wr.ownsRow w.heap.size 9 1 lv acc.length (svs acc)) ∧ Hid (RD wr rb pb cap ps q) ∧ Hid (Ke rb w wr) ∧ Hid (rLean nm L i = (rMore nm L f q).map (acc ++ ·)))
        (fun _ wr => L.length + 1 - nx wr rb)
      case atStart => exact ⟨[x], j, L.length + 1, by show 1 ≤ j; omega, hj.2, by omega, ho0, hr0, k0, HG⟩
      case round =>
        obtain ⟨acc, q, f, HA, hq, hf, HO, HR, HK, HE⟩ := hrel
        clear ho0 hr0 k0 HG hj
        have HC : Hid _ := hc
        have M3 : Hid _ := mayMark_rd hc wr rb pb cap q HR.out hq mAnd (by simp [isM])
        clear hc
        go_wp2_with fail
        refine Calls.mono M3.out ?_
        clear M3
        rintro e w3 ⟨rfl, k3, r3⟩
        cases hm : isT L q mAnd with
        | false =>
          rw [hm] at r3
          have hG : rLean nm L i = .ok acc q := by
            rw [HE.out]
            obtain ⟨f', rfl⟩ : ∃ f', f = f' + 1 := ⟨f - 1, by omega⟩
            simp [rMore, hm, Got.map]
          have ho3 := own_ke HO.out k3 hrlt
          obtain ⟨a, c, rfl, hs⟩ := SAt.of_own ho3
          go_wp2_with fail
          go_ret
          exact ⟨HK.out.trans k3, .inl ⟨acc, q, _, hG, r3, rfl, a, c, rfl, hs⟩⟩
        | true =>
          rw [hm] at r3
          have hq1 := isT_lt L hm
          have M4 : Hid _ := name_rd HC.out w3 rb pb cap (q + 1) r3 (by omega)
          have ho3 := own_ke HO.out k3 hrlt
          have k4 := HK.out.trans k3
          obtain ⟨f', rfl⟩ : ∃ f', f = f' + 1 := ⟨f - 1, by omega⟩
          go_wp2_with fail
          refine Calls.mono M4.out ?_
          clear M4
          rintro e w4 ⟨k5, ⟨y, j4, v, hg, hr, rfl, rfl⟩ | ⟨j4, t, u, hg, hr, rfl⟩⟩
          · have HG : Hid (rLean nm L i = (rMore nm L f' j4).map ((acc ++ [y]) ++ ·)) := by
              show rLean nm L i = _
              rw [HE.out, rMore_eq hm hg, Got.map_map]
              simp
            have hf4 := rName_fit nm L (q + 1) (by omega)
            rw [hg] at hf4
            have hj4 : q + 2 ≤ j4 ∧ j4 ≤ L.length := ⟨by have := hf4.1; omega, hf4.2⟩
            have ho4 := own_ke ho3 k5 hrlt
            have k6 := k4.trans k5
            have hz6 := k6.size
            have hnx : nx wr rb = q := nx_eq HR.out
            have hal := HA.out
            have hfew := hr.few
            rw [hlen] at hfew
            have hla : acc.length ≤ 100000 := by omega
            have HR4 : Hid _ := hr
            clear hf4 hg hr HE ho3 k4 k5 k3 r3 hm HK HO HR HA
            go_wp2_with (at_builtin; refine append_str rfl _ _ rfl w.heap.size _ acc rfl (ho4.alloc _) y ⟨w4.heap.size, 0, none⟩ rfl ?_ hla (by simp; omega) ?_; exact World.cell?_alloc_new _ _ _ _; intro g cap5 w5 ho5 hg5)
            go_roundw
            case rel => exact ⟨acc ++ [y], j4, f', by show (acc ++ [y]).length ≤ j4; simp; omega, hj4.2, by omega, ho5, HR4.out.push hg5 (fun j hj => by have := (ho4.lt _ hj).1; omega), k6.push hg5 (fun j hj => (ho4.lt _ hj).1), HG⟩
            case measure =>
              rw [nx_eq (HR4.out.push hg5 (fun j hj => by have := (ho4.lt _ hj).1; omega)), hnx]
              omega
          · have hG : rLean nm L i = .no j4 := by rw [HE.out, rMore_no hm hg]; rfl
            go_wp2_with fail
            exact ⟨rfl, k4.trans k5, .inr ⟨j4, t, u, hG, hr, rfl⟩⟩
    · have hG : rLean nm L i = .no j := by simp [rLean, ha, hg]
      go_wp2_with fail
      exact ⟨rfl, k1.trans k2, .inr ⟨j, t, u, hG, hr, rfl⟩⟩
end
end Go.Proofs.Ytlmfmgpamhhncaa

/- The program's reader: steps. -/
namespace Go.Proofs.Ytlmfmgpamhhncaa
open Go.RowKit

theorem row_set {w : World} {b : Nat} {cs : Array Value} {t : TypeId} (h : w.heap[b]? = some (.cells cs t (0, 0))) (i : Nat) (v : Value) : (w.setCell ⟨b, i, none⟩ v).heap[b]? = some (.cells (cs.setIfInBounds i v) t (0, 0)) := by
  obtain ⟨hlt, hk'⟩ := Array.getElem?_eq_some_iff.1 h
  simp only [World.setCell]
  rw [Array.getElem?_eq_getElem (by rw [Array.size_modify]; exact hlt), Array.getElem_modify_self, hk']
  rfl

theorem row_new (w : World) (cs : Array Value) (t : TypeId) : (w.alloc (.cells cs t)).heap[w.heap.size]? = some (.cells cs t (0, 0)) := by
  show (w.heap.push _)[w.heap.size]? = _
  simp

theorem row_alloc {w : World} {b : Nat} {x : Obj} (h : w.heap[b]? = some x) (o : Obj) : (w.alloc o).heap[b]? = some x :=
  (Below.heap_alloc _ _ _ (Array.getElem?_eq_some_iff.1 h).1).trans h

theorem row_ke {w w' : World} {b rb : Nat} {x : Obj} (h : w.heap[b]? = some x) (k : Ke rb w w') (hn : b ≠ rb) : w'.heap[b]? = some x :=
  (k.block b (Array.getElem?_eq_some_iff.1 h).1 hn).trans h

theorem row_other {w : World} {b c i : Nat} {x : Obj} (h : w.heap[b]? = some x) (v : Value) (hn : b ≠ c) : (w.setCell ⟨c, i, none⟩ v).heap[b]? = some x :=
  (Below.heap_setCell w ⟨c, i, none⟩ v b hn).trans h

theorem Ke.setFar {rb : Nat} {w w' : World} (h : Ke rb w w') {c i : Nat} (v : Value) (hc : w.heap.size ≤ c) : Ke rb w (w'.setCell ⟨c, i, none⟩ v) :=
  ⟨h.os, h.tape, h.output, by simpa using h.size, fun k hk hn => (Below.heap_setCell w' ⟨c, i, none⟩ v k (by show k ≠ c; omega)).trans (h.block k hk hn)⟩

theorem RD.setFar {w : World} {rb pb cap i : Nat} {ps : List Pc} (h : RD w rb pb cap ps i) {c j : Nat} (v : Value) (h1 : c ≠ rb) (h2 : c ≠ pb) : RD (w.setCell ⟨c, j, none⟩ v) rb pb cap ps i :=
  ⟨row_other h.blk v (fun e => h1 e.symm), fun q p hq => (World.cell?_of_block (a := ⟨pb, q, none⟩) (Below.heap_setCell w ⟨c, j, none⟩ v pb (by show pb ≠ c; omega))).trans (h.pcs q p hq), h.ne, by simpa using h.lt, h.few, h.cp⟩

/-- A node as a value. -/
def NodeV (P : Nat → Prop) (w : World) (l : Lab) (t : Tr) (v : Value) : Prop :=
  ∃ sv sm sc av am ac, v = .agg #[.string ⟨l.name.toArray⟩, .string ⟨l.undo.toArray⟩, .slice sv sm sc, .bool l.sub, .bool l.vital, .slice av am ac] ∧ SAt P w l.after sv sm ∧ TAt P w true t av 0 am

theorem Keeps.setCell {P : Nat → Prop} (w : World) {c i : Nat} (v : Value) (hc : ¬ P c) : Keeps P w (w.setCell ⟨c, i, none⟩ v) := fun b hb _ => Below.heap_setCell w ⟨c, i, none⟩ v b (by rintro rfl; exact hc hb)
theorem Keeps.trans {P : Nat → Prop} {a b c : World} (h : Keeps P a b) (k : Keeps P b c) (hz : a.heap.size ≤ b.heap.size) : Keeps P a c := fun i hi hl => (k i hi (by omega)).trans (h i hi hl)
theorem Keeps.of_ke {P : Nat → Prop} {rb : Nat} {w w' : World} (k : Ke rb w w') (h : ¬ P rb) : Keeps P w w' := fun b hb hl => k.block b hl (by rintro rfl; exact h hb)

/-- Six cells of a block are written. -/
def put6 (w : World) (b : Nat) (v0 v1 v2 v3 v4 v5 : Value) : World := (((((w.setCell ⟨b, 0, none⟩ v0).setCell ⟨b, 1, none⟩ v1).setCell ⟨b, 2, none⟩ v2).setCell ⟨b, 3, none⟩ v3).setCell ⟨b, 4, none⟩ v4).setCell ⟨b, 5, none⟩ v5

theorem put6_row {w : World} {b : Nat} {u0 u1 u2 u3 u4 u5 : Value} (h : w.heap[b]? = some (.cells #[u0, u1, u2, u3, u4, u5] 80 (0, 0))) (v0 v1 v2 v3 v4 v5 : Value) : (put6 w b v0 v1 v2 v3 v4 v5).heap[b]? = some (.cells #[v0, v1, v2, v3, v4, v5] 80 (0, 0)) :=
  row_set (row_set (row_set (row_set (row_set (row_set h 0 v0) 1 v1) 2 v2) 3 v3) 4 v4) 5 v5

theorem put6_ke {rb b : Nat} {w w' : World} (h : Ke rb w w') (v0 v1 v2 v3 v4 v5 : Value) (hb : w.heap.size ≤ b) : Ke rb w (put6 w' b v0 v1 v2 v3 v4 v5) :=
  (((((h.setFar v0 hb).setFar v1 hb).setFar v2 hb).setFar v3 hb).setFar v4 hb).setFar v5 hb

theorem put6_rd {w : World} {rb pb cap i b : Nat} {ps : List Pc} (h : RD w rb pb cap ps i) (v0 v1 v2 v3 v4 v5 : Value) (h1 : b ≠ rb) (h2 : b ≠ pb) : RD (put6 w b v0 v1 v2 v3 v4 v5) rb pb cap ps i :=
  (((((h.setFar v0 h1 h2).setFar v1 h1 h2).setFar v2 h1 h2).setFar v3 h1 h2).setFar v4 h1 h2).setFar v5 h1 h2

theorem put6_keeps {P : Nat → Prop} (w : World) {b : Nat} (v0 v1 v2 v3 v4 v5 : Value) (hb : ¬ P b) : Keeps P w (put6 w b v0 v1 v2 v3 v4 v5) := fun k hk _ => by
  have hn : k ≠ b := by rintro rfl; exact hb hk
  unfold put6
  iterate 6 rw [Below.heap_setCell _ _ _ k hn]

/-- A result of six cells is read. -/
theorem ret6 {fn : Func} {p : Tmp} (h : fn.results = #[.cell p 80]) {a : Act} {w : World} {R : Ending → World → Prop} (b : Nat) (v0 v1 v2 v3 v4 v5 : Value) (hp : a.tmps.getD p undef = .pointer (some ⟨b, 0, none⟩)) (hd : a.defers = [])
    (hb : w.heap[b]? = some (.cells #[v0, v1, v2, v3, v4, v5] 80 (0, 0))) (hR : R (.returned (.agg #[v0, v1, v2, v3, v4, v5])) w) : bodyPost Try.prog fn R .ret a w :=
  bodyPost_ret_by (results_cell_row h _ _ b 80 _ (0, 0) _ hp hb Try.underlying80 rfl (by kernel_rfl)) hd hR

section
variable {nm : By → Bool} {L : List By} {ps : List Pc} (hc : Cls nm L ps)
include hc

set_option maxRecDepth 1000000 in
set_option maxHeartbeats 4000000 in
theorem step_rd (w : World) (rb pb cap i : Nat) (h : RD w rb pb cap ps i) (hi : i ≤ L.length) :
    Calls Try.prog 97 #[.pointer (some ⟨rb, 0, none⟩)] w fun e w' => RdC rb pb cap ps w (rStep nm L i) (fun l v w' => NodeV (fun b => w.heap.size ≤ b) w' l .e v) e w' := by
  have hrlt := h.rlt
  have hplt := h.lt
  have M1 : Hid _ := name_rd hc _ rb pb cap i (h.alloc (.cells #[.string ⟨#[]⟩, .string ⟨#[]⟩, .slice none 0 0, .bool false, .bool false, .slice none 0 0] 80)) hi
  have k0 : Ke rb w (w.alloc (.cells #[.string ⟨#[]⟩, .string ⟨#[]⟩, .slice none 0 0, .bool false, .bool false, .slice none 0 0] 80)) := (Ke.refl _ _).alloc _
  have b0 := row_new w #[.string ⟨#[]⟩, .string ⟨#[]⟩, .slice none 0 0, .bool false, .bool false, .slice none 0 0] 80
  go_enter Try.func97, Try.ntmps97
  go_wp2_with fail
  refine Calls.mono M1.out ?_
  clear M1
  rintro e w1 ⟨k1, ⟨x, j1, v, g1, r1, rfl, rfl⟩ | ⟨j1, t, u, g1, r1, rfl⟩⟩
  · have b1 := row_ke b0 k1 (by omega)
    have k1' := k0.trans k1
    have hz1 := k1.size
    simp at hz1
    have hf1 := rName_fit nm L i hi
    rw [g1] at hf1
    have hj1 : j1 ≤ L.length := hf1.2
    have n1 := row_new w1 #[.string ⟨x.toArray⟩, .string ⟨#[]⟩, .slice none 0 0, .bool false, .bool false, .slice none 0 0] 80
    have b2 := row_alloc b1 (.cells #[.string ⟨x.toArray⟩, .string ⟨#[]⟩, .slice none 0 0, .bool false, .bool false, .slice none 0 0] 80)
    have M2 : Hid _ := mayWord_rd hc _ rb pb cap j1 (r1.alloc (.cells #[.string ⟨x.toArray⟩, .string ⟨#[]⟩, .slice none 0 0, .bool false, .bool false, .slice none 0 0] 80)) hj1 wUndo (by simp [isW])
    have k2 := k1'.alloc (.cells #[.string ⟨x.toArray⟩, .string ⟨#[]⟩, .slice none 0 0, .bool false, .bool false, .slice none 0 0] 80)
    clear hf1 k0 k1 k1' b0 b1 r1 h
    go_wp2_with fail
    refine Calls.mono M2.out ?_
    clear M2
    rintro e w2 ⟨rfl, k2', r2⟩
    have b3 := row_ke b2 k2' (by omega)
    have n3 := row_ke n1 k2' (by omega)
    have k3 := k2.trans k2'
    clear b2 n1 k2 k2'
    cases hu : isT L j1 wUndo with
    | false =>
      rw [hu] at r2
      have gU : rUndo nm L j1 = .ok [] j1 := by simp [rUndo, hu]
      have HZ := (k3).size
      have M5 : Hid _ := leanings_rd hc w2 rb pb cap j1 r2 hj1
      have hf5 := rLean_fit nm L j1 hj1
      go_wp2_with fail
      refine Calls.mono M5.out ?_
      clear M5
      rintro e w6 ⟨k6, ⟨xs, j6, v, g6, r6, rfl, a, c, rfl, hs6⟩ | ⟨j6, t, z, g6, r6, rfl⟩⟩
      · rw [g6] at hf5
        have hj6 : j6 ≤ L.length := hf5.2
        have hz6 := k6.size
        have b6 := row_other (c := w1.heap.size) (i := 2) (row_ke b3 k6 (by omega)) (.slice a xs.length c) (by omega)
        have n6 := row_ke n3 k6 (by omega)
        have n6c := (cell_row n6 2).trans rfl
        have n6f := froz_row n6 2
        have hW1 : w1.heap.size < w2.heap.size := (Array.getElem?_eq_some_iff.1 n3).1
        have n7 : (w6.setCell ⟨w1.heap.size, 2, none⟩ (.slice a xs.length c)).heap[w1.heap.size]? = some (.cells #[.string ⟨x.toArray⟩, .string ⟨([] : By).toArray⟩, .slice a xs.length c, .bool false, .bool false, .slice none 0 0] 80 (0, 0)) := row_set n6 2 _
        have r7 := r6.setFar (c := w1.heap.size) (j := 2) (.slice a xs.length c) (by omega) (by omega)
        have k7 := ((k3).trans k6).setFar (c := w1.heap.size) (i := 2) (.slice a xs.length c) (by omega)
        have hs7 : SAt (fun b => w2.heap.size ≤ b) (w6.setCell ⟨w1.heap.size, 2, none⟩ (.slice a xs.length c)) xs a xs.length := hs6.keep (Keeps.setCell _ _ (by omega)) (fun _ h _ => h)
        have M7 : Hid _ := mark_rd hc _ rb pb cap j6 r7 hj6 mEnd (by simp [isM])
        clear hf5 r6 hs6 n6 k6
        go_wp2_with fail
        refine Calls.mono M7.out ?_
        clear M7 r7
        generalize w6.setCell ⟨w1.heap.size, 2, none⟩ (.slice a xs.length c) = W7 at *
        rintro e w8 ⟨k8, ⟨_, j8, v, g8, r8, rfl, rfl⟩ | ⟨j8, t, z, g8, r8, rfl⟩⟩
        · have hG : rStep nm L i = .ok ⟨x, [], xs, false, false⟩ j8 := by
            simp only [rStep, g1, gU, g6]
            cases hm : isT L j6 mEnd with
            | true => rw [hm] at g8; simp at g8; simp [g8]
            | false => rw [hm] at g8; simp at g8
          have b8 := row_ke b6 k8 (by omega)
          have n8 := row_ke n7 k8 (by omega)
          have hs8 : SAt (fun b => w2.heap.size ≤ b) w8 xs a xs.length := hs7.keep (Keeps.of_ke k8 (by omega)) (fun _ h _ => h)
          have k9 := k7.trans k8
          have d0 := (cell_row n8 0).trans rfl
          have d1 := (cell_row n8 1).trans rfl
          have d2 := (cell_row n8 2).trans rfl
          have d3 := (cell_row n8 3).trans rfl
          have d4 := (cell_row n8 4).trans rfl
          have d5 := (cell_row n8 5).trans rfl
          have e0 := (cell_row b8 0).trans rfl
          have e1 := (cell_row b8 1).trans rfl
          have e2 := (cell_row b8 2).trans rfl
          have e3 := (cell_row b8 3).trans rfl
          have e4 := (cell_row b8 4).trans rfl
          have e5 := (cell_row b8 5).trans rfl
          have ef := froz_row b8
          have hne : w1.heap.size ≠ w.heap.size := by omega
          go_wp2_with fail
          refine ret6 (p := 2) rfl w.heap.size _ _ _ _ _ _ rfl rfl (put6_row b8 _ _ _ _ _ _) ?_
          exact ⟨put6_ke k9 _ _ _ _ _ _ (Nat.le_refl _), .inl ⟨_, j8, _, hG, put6_rd r8 _ _ _ _ _ _ (by omega) (by omega), rfl, a, _, c, none, 0, 0, rfl, hs8.keep (put6_keeps _ _ _ _ _ _ _ (by omega)) (fun b h _ => by omega), rfl⟩⟩
        · have hG : rStep nm L i = .no j8 := by
            simp only [rStep, g1, gU, g6]
            cases hm : isT L j6 mEnd with
            | true => rw [hm] at g8; simp at g8
            | false => rw [hm] at g8; simp at g8; simp [g8]
          go_wp2_with fail
          exact ⟨rfl, k7.trans k8, .inr ⟨j8, t, z, hG, r8, rfl⟩⟩
      · have hG : rStep nm L i = .no j6 := by simp [rStep, g1, gU, g6]
        go_wp2_with fail
        exact ⟨rfl, (k3).trans k6, .inr ⟨j6, t, z, hG, r6, rfl⟩⟩
    | true =>
      rw [hu] at r2
      have hj2 := isT_lt L hu
      have M3 : Hid _ := name_rd hc w2 rb pb cap (j1 + 1) r2 (by omega)
      have hf2 := rName_fit nm L (j1 + 1) (by omega)
      clear r2
      go_wp2_with fail
      refine Calls.mono M3.out ?_
      clear M3
      rintro e w3 ⟨k4, ⟨u, j3, v, g3, r3, rfl, rfl⟩ | ⟨j3, t, u, g3, r3, rfl⟩⟩
      · have gU : rUndo nm L j1 = .ok u j3 := by simp [rUndo, hu, g3]
        rw [g3] at hf2
        have hj3 : j3 ≤ L.length := hf2.2
        have b4 := row_other (c := w1.heap.size) (i := 1) (row_ke b3 k4 (by omega)) (.string ⟨u.toArray⟩) (by omega)
        have n4 := row_ke n3 k4 (by omega)
        have n4c := (cell_row n4 1).trans rfl
        have n4f := froz_row n4 1
        have n5 : (w3.setCell ⟨w1.heap.size, 1, none⟩ (.string ⟨u.toArray⟩)).heap[w1.heap.size]? = some (.cells #[.string ⟨x.toArray⟩, .string ⟨u.toArray⟩, .slice none 0 0, .bool false, .bool false, .slice none 0 0] 80 (0, 0)) := row_set n4 1 _
        have r5 := r3.setFar (c := w1.heap.size) (j := 1) (.string ⟨u.toArray⟩) (by omega) (by omega)
        have k5 := (k3.trans k4).setFar (c := w1.heap.size) (i := 1) (.string ⟨u.toArray⟩) (by omega)
        clear b3 n3 k3 k4 r3 n4 hf2
        go_wp2_with fail
        generalize w3.setCell ⟨w1.heap.size, 1, none⟩ (.string ⟨u.toArray⟩) = W at *
        have HZ := (k5).size
        have M5 : Hid _ := leanings_rd hc W rb pb cap j3 r5 hj3
        have hf5 := rLean_fit nm L j3 hj3
        go_wp2_with fail
        refine Calls.mono M5.out ?_
        clear M5
        rintro e w6 ⟨k6, ⟨xs, j6, v, g6, r6, rfl, a, c, rfl, hs6⟩ | ⟨j6, t, z, g6, r6, rfl⟩⟩
        · rw [g6] at hf5
          have hj6 : j6 ≤ L.length := hf5.2
          have hz6 := k6.size
          have b6 := row_other (c := w1.heap.size) (i := 2) (row_ke b4 k6 (by omega)) (.slice a xs.length c) (by omega)
          have n6 := row_ke n5 k6 (by omega)
          have n6c := (cell_row n6 2).trans rfl
          have n6f := froz_row n6 2
          have hW1 : w1.heap.size < W.heap.size := (Array.getElem?_eq_some_iff.1 n5).1
          have n7 : (w6.setCell ⟨w1.heap.size, 2, none⟩ (.slice a xs.length c)).heap[w1.heap.size]? = some (.cells #[.string ⟨x.toArray⟩, .string ⟨(u : By).toArray⟩, .slice a xs.length c, .bool false, .bool false, .slice none 0 0] 80 (0, 0)) := row_set n6 2 _
          have r7 := r6.setFar (c := w1.heap.size) (j := 2) (.slice a xs.length c) (by omega) (by omega)
          have k7 := ((k5).trans k6).setFar (c := w1.heap.size) (i := 2) (.slice a xs.length c) (by omega)
          have hs7 : SAt (fun b => W.heap.size ≤ b) (w6.setCell ⟨w1.heap.size, 2, none⟩ (.slice a xs.length c)) xs a xs.length := hs6.keep (Keeps.setCell _ _ (by omega)) (fun _ h _ => h)
          have M7 : Hid _ := mark_rd hc _ rb pb cap j6 r7 hj6 mEnd (by simp [isM])
          clear hf5 r6 hs6 n6 k6
          go_wp2_with fail
          refine Calls.mono M7.out ?_
          clear M7 r7
          generalize w6.setCell ⟨w1.heap.size, 2, none⟩ (.slice a xs.length c) = W7 at *
          rintro e w8 ⟨k8, ⟨_, j8, v, g8, r8, rfl, rfl⟩ | ⟨j8, t, z, g8, r8, rfl⟩⟩
          · have hG : rStep nm L i = .ok ⟨x, u, xs, false, false⟩ j8 := by
              simp only [rStep, g1, gU, g6]
              cases hm : isT L j6 mEnd with
              | true => rw [hm] at g8; simp at g8; simp [g8]
              | false => rw [hm] at g8; simp at g8
            have b8 := row_ke b6 k8 (by omega)
            have n8 := row_ke n7 k8 (by omega)
            have hs8 : SAt (fun b => W.heap.size ≤ b) w8 xs a xs.length := hs7.keep (Keeps.of_ke k8 (by omega)) (fun _ h _ => h)
            have k9 := k7.trans k8
            have d0 := (cell_row n8 0).trans rfl
            have d1 := (cell_row n8 1).trans rfl
            have d2 := (cell_row n8 2).trans rfl
            have d3 := (cell_row n8 3).trans rfl
            have d4 := (cell_row n8 4).trans rfl
            have d5 := (cell_row n8 5).trans rfl
            have e0 := (cell_row b8 0).trans rfl
            have e1 := (cell_row b8 1).trans rfl
            have e2 := (cell_row b8 2).trans rfl
            have e3 := (cell_row b8 3).trans rfl
            have e4 := (cell_row b8 4).trans rfl
            have e5 := (cell_row b8 5).trans rfl
            have ef := froz_row b8
            have hne : w1.heap.size ≠ w.heap.size := by omega
            go_wp2_with fail
            refine ret6 (p := 2) rfl w.heap.size _ _ _ _ _ _ rfl rfl (put6_row b8 _ _ _ _ _ _) ?_
            exact ⟨put6_ke k9 _ _ _ _ _ _ (Nat.le_refl _), .inl ⟨_, j8, _, hG, put6_rd r8 _ _ _ _ _ _ (by omega) (by omega), rfl, a, _, c, none, 0, 0, rfl, hs8.keep (put6_keeps _ _ _ _ _ _ _ (by omega)) (fun b h _ => by omega), rfl⟩⟩
          · have hG : rStep nm L i = .no j8 := by
              simp only [rStep, g1, gU, g6]
              cases hm : isT L j6 mEnd with
              | true => rw [hm] at g8; simp at g8
              | false => rw [hm] at g8; simp at g8; simp [g8]
            go_wp2_with fail
            exact ⟨rfl, k7.trans k8, .inr ⟨j8, t, z, hG, r8, rfl⟩⟩
        · have hG : rStep nm L i = .no j6 := by simp [rStep, g1, gU, g6]
          go_wp2_with fail
          exact ⟨rfl, (k5).trans k6, .inr ⟨j6, t, z, hG, r6, rfl⟩⟩
      · have hG : rStep nm L i = .no j3 := by simp [rStep, g1, rUndo, hu, g3]
        go_wp2_with fail
        exact ⟨rfl, k3.trans k4, .inr ⟨j3, t, u, hG, r3, rfl⟩⟩
  · have hG : rStep nm L i = .no j1 := by simp [rStep, g1]
    go_wp2_with fail
    exact ⟨rfl, k0.trans k1, .inr ⟨j1, t, u, hG, r1, rfl⟩⟩
end
end Go.Proofs.Ytlmfmgpamhhncaa

/- The program's reader: nodes, a body. -/
namespace Go.Proofs.Ytlmfmgpamhhncaa
open Go.RowKit

/-- 'append' onto a row of the call's own, as one step of a region that draws its order. -/
theorem step_append_own {P : Program} {ops : Array Oper} {o : Oper} {a : Act} {w : World} {K : Act → World → Prop} {Q : Exit → Act → World → Prop} {E : Prop}
    (hg : o.guard = none) (s x : Operand) (t : TypeId) (hop : o.op = Op.call { callee := Callee.builtin Builtin.append, args := #[s, x], argTypes := #[t, t] })
    (base : Nat) (e : TypeId) (i : TypeInfo) (z : Value) (size bytes : Nat) (h1 : P.underlying t = some (.slice e)) (h2 : P.info? e = some i) (h3 : i.zero = some z) (h4 : i.size = size) (h5 : i.bytes = bytes) (h6 : z.cells.size = size) (h7 : 0 < size)
    (v : Value) (n : Nat) (xs : List Value) (hs : a.eval s = v) (hown : w.ownsRow base e size v n xs)
    (ad : Addr) (m c : Nat) (news : List Value) (hx : a.eval x = .slice (some ad) m c) (hl : news.length = m * size) (hnews : ∀ j u, news[j]? = some u → w.cell? (ad.add j) = some u) (h1c : ∀ u ∈ news, u.oneCell' = true)
    (b1 : n + m ≤ maxLen) (b2 : (n + m) * bytes ≤ 140737488355328) (b3 : base ≤ w.heap.size)
    (hK : ∀ v' w', w'.ownsRow base e size v' (n + m) (xs ++ news) → w.grownBy w' v.ownBlock → (v'.ownBlock = v.ownBlock ∨ v'.ownBlock = some w.heap.size) → K (a.put o.dst v') w') :
    if Region.wanted o (yielded ops a.tmps) = true then Oper.wp P o a w K Q else E := by
  have hw : Region.wanted o (yielded ops a.tmps) = true := by simp [Region.wanted, hg]
  rw [if_pos hw]
  obtain ⟨v', w', hrun, r1, r2, _, r4⟩ := run_append_own_at (P := P) w base t o.type e i z size bytes h1 h2 h3 h4 h5 h6 h7 v n xs hown ad m c news hl hnews h1c b1 b2 b3
  unfold Oper.wp
  simp [execOp, hop, resolve, invoke, builtin, hs, hx, hrun, Result.andThen]
  exact hK v' w' r1 r2 r4

/-- Bodies' and nodes' contracts. -/
def BsR (P : Nat → Prop) (w : World) (k : Bool) (t : Tr) (v : Value) : Prop := ∃ a c, v = .slice a t.len c ∧ TAt P w k t a 0 t.len

def BodiesOK (nm : By → Bool) (L : List By) (ps : List Pc) (rb pb cap f : Nat) : Prop := ∀ (w : World) (i : Nat), RD w rb pb cap ps i → i ≤ L.length → L.length ≤ i + f →
  Calls Try.prog 52 #[.pointer (some ⟨rb, 0, none⟩)] w fun e w' => RdC rb pb cap ps w (brace L (rd nm L f true) i) (fun t v w' => BsR (fun b => w.heap.size ≤ b) w' true t v) e w'

def NodeOK (nm : By → Bool) (L : List By) (ps : List Pc) (rb pb cap f : Nat) : Prop := ∀ (w : World) (i : Nat), RD w rb pb cap ps i → i ≤ L.length → L.length ≤ i + f →
  Calls Try.prog 89 #[.pointer (some ⟨rb, 0, none⟩)] w fun e w' => RdC rb pb cap ps w (rNode nm L (brace L (rd nm L f true)) i) (fun lt v w' => NodeV (fun b => w.heap.size ≤ b) w' lt.1 lt.2 v) e w'

def BodyOK (nm : By → Bool) (L : List By) (ps : List Pc) (rb pb cap f : Nat) : Prop := ∀ (w : World) (i : Nat), RD w rb pb cap ps i → i ≤ L.length → L.length ≤ i + f →
  Calls Try.prog 75 #[.pointer (some ⟨rb, 0, none⟩)] w fun e w' => RdC rb pb cap ps w (if isT L i mIn then rd nm L f false (i + 1) else .no i) (fun t v w' => ∃ u, v = .agg #[u] ∧ BsR (fun b => w.heap.size ≤ b) w' false t u) e w'

section
variable {nm : By → Bool} {L : List By} {ps : List Pc} (hc : Cls nm L ps)
include hc

set_option maxRecDepth 1000000 in
set_option maxHeartbeats 4000000 in
theorem node_rd (rb pb cap f : Nat) (HB : BodiesOK nm L ps rb pb cap f) : NodeOK nm L ps rb pb cap f := by
  intro w i h hi hfu
  have hrlt := h.rlt
  have hplt := h.lt
  have M1 : Hid _ := mayWord_rd hc _ rb pb cap i (h.alloc (.cells #[.string ⟨#[]⟩, .string ⟨#[]⟩, .slice none 0 0, .bool false, .bool false, .slice none 0 0] 80)) hi wStep (by simp [isW])
  have k0 : Ke rb w (w.alloc (.cells #[.string ⟨#[]⟩, .string ⟨#[]⟩, .slice none 0 0, .bool false, .bool false, .slice none 0 0] 80)) := (Ke.refl _ _).alloc _
  have b0 := row_new w #[.string ⟨#[]⟩, .string ⟨#[]⟩, .slice none 0 0, .bool false, .bool false, .slice none 0 0] 80
  go_enter Try.func89, Try.ntmps89
  go_wp2_with fail
  refine Calls.mono M1.out ?_
  clear M1
  rintro e w1 ⟨rfl, k1, r1⟩
  have b1 := row_ke b0 k1 (by omega)
  have k1' := k0.trans k1
  have hz1 := k1.size
  simp at hz1
  clear k0 k1 b0 h
  cases hst : isT L i wStep with
  | true =>
    rw [hst] at r1
    have hi1 := isT_lt L hst
    have M2 : Hid _ := step_rd hc w1 rb pb cap (i + 1) r1 (by omega)
    go_wp2_with fail
    refine Calls.mono M2.out ?_
    clear M2
    rintro e w2 ⟨k2, ⟨l, j2, v, g2, r2, rfl, sv, sm, sc, av, am, ac, rfl, hs2, ht2⟩ | ⟨j2, t, z, g2, r2, rfl⟩⟩
    · have hG : rNode nm L (brace L (rd nm L f true)) i = .ok (l, .e) j2 := by simp [rNode, hst, g2]
      have b2 := row_ke b1 k2 (by omega)
      have e0 := (cell_row b2 0).trans rfl
      have e1 := (cell_row b2 1).trans rfl
      have e2 := (cell_row b2 2).trans rfl
      have e3 := (cell_row b2 3).trans rfl
      have e4 := (cell_row b2 4).trans rfl
      have e5 := (cell_row b2 5).trans rfl
      have ef := froz_row b2
      go_wp2_with fail
      refine ret6 (p := 2) rfl w.heap.size _ _ _ _ _ _ rfl rfl (put6_row b2 _ _ _ _ _ _) ?_
      exact ⟨put6_ke (k1'.trans k2) _ _ _ _ _ _ (Nat.le_refl _), .inl ⟨_, j2, _, hG, put6_rd r2 _ _ _ _ _ _ (by omega) (by omega), rfl, sv, _, sc, av, am, ac, rfl, hs2.keep (put6_keeps _ _ _ _ _ _ _ (by omega)) (fun b h _ => by omega), ht2.keep (put6_keeps _ _ _ _ _ _ _ (by omega)) (fun b h _ => by omega) _ _ _ _ _⟩⟩
    · have hG : rNode nm L (brace L (rd nm L f true)) i = .no j2 := by simp [rNode, hst, g2]
      go_wp2_with fail
      exact ⟨rfl, k1'.trans k2, .inr ⟨j2, t, z, hG, r2, rfl⟩⟩
  | false =>
    rw [hst] at r1
    simp only [Bool.false_eq_true, if_false] at r1
    have n1 := row_new w1 #[.string ⟨#[]⟩, .string ⟨#[]⟩, .slice none 0 0, .bool true, .bool false, .slice none 0 0] 80
    have b2 := row_alloc b1 (.cells #[.string ⟨#[]⟩, .string ⟨#[]⟩, .slice none 0 0, .bool true, .bool false, .slice none 0 0] 80)
    have k2 := k1'.alloc (.cells #[.string ⟨#[]⟩, .string ⟨#[]⟩, .slice none 0 0, .bool true, .bool false, .slice none 0 0] 80)
    have M2 : Hid _ := mayWord_rd hc _ rb pb cap i (r1.alloc (.cells #[.string ⟨#[]⟩, .string ⟨#[]⟩, .slice none 0 0, .bool true, .bool false, .slice none 0 0] 80)) hi wVital (by simp [isW])
    clear r1 b1 k1'
    go_wp2_with fail
    refine Calls.mono M2.out ?_
    clear M2
    rintro e w2 ⟨rfl, k2', r2⟩
    have k3 := k2.trans k2'
    have hz3 := k2'.size
    simp at hz3
    have n2 := row_ke n1 k2' (by omega)
    have n2c := (cell_row n2 4).trans rfl
    have n2f := froz_row n2 4
    have b3 := row_other (c := w1.heap.size) (i := 4) (row_ke b2 k2' (by omega)) (.bool (isT L i wVital)) (by omega)
    have n3 : (w2.setCell ⟨w1.heap.size, 4, none⟩ (.bool (isT L i wVital))).heap[w1.heap.size]? = some (.cells #[.string ⟨#[]⟩, .string ⟨#[]⟩, .slice none 0 0, .bool true, .bool (isT L i wVital), .slice none 0 0] 80 (0, 0)) := row_set n2 4 _
    have r3 := r2.setFar (c := w1.heap.size) (j := 4) (.bool (isT L i wVital)) (by omega) (by omega)
    have k4 := k3.setFar (c := w1.heap.size) (i := 4) (.bool (isT L i wVital)) (by omega)
    clear k2 k2' k3 r2 b2 n1
    cases hvi : isT L i wVital with
    | true =>
      rw [hvi] at b3 n3 r3 k4
      have kS := k4
      clear k4
      simp only [if_true] at r3
      have hi1 := isT_lt L hvi
      go_wp2_with fail
      generalize w2.setCell ⟨w1.heap.size, 4, none⟩ (.bool true) = W3 at *
      clear n2 n2c n2f
      have hV : (isT L i wVital || isT L i wLoose) = true := by simp [hvi]
      have HZ := (kS).size
      have hWn : w1.heap.size < W3.heap.size := (Array.getElem?_eq_some_iff.1 n3).1
      have M4 : Hid _ := word_rd hc W3 rb pb cap (i + 1) r3 (by omega) wSub (by simp [isW])
      go_wp2_with fail
      refine Calls.mono M4.out ?_
      clear M4 r3
      rintro e w4 ⟨k4, ⟨_, j4, v, g4, r4, rfl, rfl⟩ | ⟨j4, t, z, g4, r4, rfl⟩⟩
      · have hsub : isT L (i + 1) wSub = true ∧ j4 = i + 2 := by
          cases hm : isT L (i + 1) wSub with
          | true => rw [hm] at g4; simp at g4; exact ⟨rfl, g4.symm⟩
          | false => rw [hm] at g4; simp at g4
        obtain ⟨hsb, rfl⟩ := hsub
        have hi2 := isT_lt L hsb
        have M5 : Hid _ := name_rd hc w4 rb pb cap (i + 2) r4 (by omega)
        have hf5 := rName_fit nm L (i + 2) (by omega)
        have hz4 := k4.size
        clear r4 g4
        go_wp2_with fail
        refine Calls.mono M5.out ?_
        clear M5
        rintro e w5 ⟨k5, ⟨x, j5, v, g5, r5, rfl, rfl⟩ | ⟨j5, t, z, g5, r5, rfl⟩⟩
        · rw [g5] at hf5
          have hj5 : i + 3 ≤ j5 ∧ j5 ≤ L.length := ⟨by have := hf5.1; omega, hf5.2⟩
          have hz5 := k5.size
          have n5 := row_ke (row_ke n3 k4 (by omega)) k5 (by omega)
          have n5c := (cell_row n5 0).trans rfl
          have n5f := froz_row n5 0
          have b6 := row_other (c := w1.heap.size) (i := 0) (row_ke (row_ke b3 k4 (by omega)) k5 (by omega)) (.string ⟨x.toArray⟩) (by omega)
          have n6 : (w5.setCell ⟨w1.heap.size, 0, none⟩ (.string ⟨x.toArray⟩)).heap[w1.heap.size]? = some (.cells #[.string ⟨x.toArray⟩, .string ⟨#[]⟩, .slice none 0 0, .bool true, .bool true, .slice none 0 0] 80 (0, 0)) := row_set n5 0 _
          have r6 := r5.setFar (c := w1.heap.size) (j := 0) (.string ⟨x.toArray⟩) (by omega) (by omega)
          have k6 := (((kS).trans k4).trans k5).setFar (c := w1.heap.size) (i := 0) (.string ⟨x.toArray⟩) (by omega)
          have M6 : Hid _ := leanings_rd hc _ rb pb cap j5 r6 hj5.2
          have hf6 := rLean_fit nm L j5 hj5.2
          have hz6 : w1.heap.size < (w5.setCell ⟨w1.heap.size, 0, none⟩ (.string ⟨x.toArray⟩)).heap.size := by simp; omega
          clear r5 n5 hf5 k4 k5
          go_wp2_with fail
          refine Calls.mono M6.out ?_
          clear M6 r6
          generalize w5.setCell ⟨w1.heap.size, 0, none⟩ (.string ⟨x.toArray⟩) = W6 at *
          rintro e w7 ⟨k7, ⟨xs, j7, v, g7, r7, rfl, a, c, rfl, hs7⟩ | ⟨j7, t, z, g7, r7, rfl⟩⟩
          · rw [g7] at hf6
            have hj7 : j5 ≤ j7 ∧ j7 ≤ L.length := ⟨by have := hf6.1; omega, hf6.2⟩
            have hz7 := k7.size
            have n7 := row_ke n6 k7 (by omega)
            have n7c := (cell_row n7 2).trans rfl
            have n7f := froz_row n7 2
            have b8 := row_other (c := w1.heap.size) (i := 2) (row_ke b6 k7 (by omega)) (.slice a xs.length c) (by omega)
            have n8 : (w7.setCell ⟨w1.heap.size, 2, none⟩ (.slice a xs.length c)).heap[w1.heap.size]? = some (.cells #[.string ⟨x.toArray⟩, .string ⟨#[]⟩, .slice a xs.length c, .bool true, .bool true, .slice none 0 0] 80 (0, 0)) := row_set n7 2 _
            have r8 := r7.setFar (c := w1.heap.size) (j := 2) (.slice a xs.length c) (by omega) (by omega)
            have k8 := (k6.trans k7).setFar (c := w1.heap.size) (i := 2) (.slice a xs.length c) (by omega)
            have hs8 : SAt (fun b => W6.heap.size ≤ b) (w7.setCell ⟨w1.heap.size, 2, none⟩ (.slice a xs.length c)) xs a xs.length := hs7.keep (Keeps.setCell _ _ (by omega)) (fun _ h _ => h)
            have M8 : Hid _ := HB _ j7 r8 hj7.2 (by omega)
            have hz8 : W6.heap.size ≤ (w7.setCell ⟨w1.heap.size, 2, none⟩ (.slice a xs.length c)).heap.size := by simp; omega
            clear hf6 r7 hs7 n7 k7
            go_wp2_with fail
            refine Calls.mono M8.out ?_
            clear M8 r8
            generalize w7.setCell ⟨w1.heap.size, 2, none⟩ (.slice a xs.length c) = W8 at *
            rintro e w9 ⟨k9, ⟨t, j9, v, g9, r9, rfl, a9, c9, rfl, ht9⟩ | ⟨j9, t, z, g9, r9, rfl⟩⟩
            · have hG : rNode nm L (brace L (rd nm L f true)) i = .ok (⟨x, [], xs, true, true⟩, t) j9 := by simp [rNode, hst, hvi, hsb, rSub, g5, g7, g9]
              have hz9 := k9.size
              have b9 := row_other (c := w1.heap.size) (i := 5) (row_ke b8 k9 (by omega)) (.slice a9 t.len c9) (by omega)
              have n9 := row_ke n8 k9 (by omega)
              have n9c := (cell_row n9 5).trans rfl
              have n9f := froz_row n9 5
              have hs9 : SAt (fun b => W6.heap.size ≤ b) w9 xs a xs.length := hs8.keep (Keeps.of_ke k9 (by omega)) (fun _ h _ => h)
              have n10 : (w9.setCell ⟨w1.heap.size, 5, none⟩ (.slice a9 t.len c9)).heap[w1.heap.size]? = some (.cells #[.string ⟨x.toArray⟩, .string ⟨#[]⟩, .slice a xs.length c, .bool true, .bool true, .slice a9 t.len c9] 80 (0, 0)) := row_set n9 5 _
              have r10 := r9.setFar (c := w1.heap.size) (j := 5) (.slice a9 t.len c9) (by omega) (by omega)
              have k10 := (k8.trans k9).setFar (c := w1.heap.size) (i := 5) (.slice a9 t.len c9) (by omega)
              have hs10 : SAt (fun b => W6.heap.size ≤ b) (w9.setCell ⟨w1.heap.size, 5, none⟩ (.slice a9 t.len c9)) xs a xs.length := hs9.keep (Keeps.setCell _ _ (by omega)) (fun _ h _ => h)
              have ht10 : TAt (fun b => W8.heap.size ≤ b) (w9.setCell ⟨w1.heap.size, 5, none⟩ (.slice a9 t.len c9)) true t a9 0 t.len := ht9.keep (Keeps.setCell _ _ (by omega)) (fun _ h _ => h) _ _ _ _ _
              obtain ⟨W10, hW10⟩ : ∃ W10, w9.setCell ⟨w1.heap.size, 5, none⟩ (.slice a9 t.len c9) = W10 := ⟨_, rfl⟩
              rw [hW10] at n10 r10 k10 hs10 ht10 b9
              have d0 := (cell_row n10 0).trans rfl
              have d1 := (cell_row n10 1).trans rfl
              have d2 := (cell_row n10 2).trans rfl
              have d3 := (cell_row n10 3).trans rfl
              have d4 := (cell_row n10 4).trans rfl
              have d5 := (cell_row n10 5).trans rfl
              have e0 := (cell_row b9 0).trans rfl
              have e1 := (cell_row b9 1).trans rfl
              have e2 := (cell_row b9 2).trans rfl
              have e3 := (cell_row b9 3).trans rfl
              have e4 := (cell_row b9 4).trans rfl
              have e5 := (cell_row b9 5).trans rfl
              have ef := froz_row b9
              have hne : w1.heap.size ≠ w.heap.size := by omega
              clear hs9 ht9 r9 k9 n9 b8 n8 k8 hs8 b6 n6 k6
              go_wp2_with fail
              refine ret6 (p := 2) rfl w.heap.size _ _ _ _ _ _ rfl rfl (put6_row b9 _ _ _ _ _ _) ?_
              exact ⟨put6_ke k10 _ _ _ _ _ _ (Nat.le_refl _), .inl ⟨_, j9, _, hG, put6_rd r10 _ _ _ _ _ _ (by omega) (by omega), rfl, a, _, c, a9, _, c9, rfl, hs10.keep (put6_keeps _ _ _ _ _ _ _ (by omega)) (fun b h _ => by omega), ht10.keep (put6_keeps _ _ _ _ _ _ _ (by omega)) (fun b h _ => by omega) _ _ _ _ _⟩⟩
            · have hG : rNode nm L (brace L (rd nm L f true)) i = .no j9 := by simp [rNode, hst, hvi, hsb, rSub, g5, g7, g9]
              go_wp2_with fail
              exact ⟨rfl, k8.trans k9, .inr ⟨j9, t, z, hG, r9, rfl⟩⟩
          · have hG : rNode nm L (brace L (rd nm L f true)) i = .no j7 := by simp [rNode, hst, hvi, hsb, rSub, g5, g7]
            go_wp2_with fail
            exact ⟨rfl, k6.trans k7, .inr ⟨j7, t, z, hG, r7, rfl⟩⟩
        · have hG : rNode nm L (brace L (rd nm L f true)) i = .no j5 := by simp [rNode, hst, hvi, hsb, rSub, g5]
          go_wp2_with fail
          exact ⟨rfl, ((kS).trans k4).trans k5, .inr ⟨j5, t, z, hG, r5, rfl⟩⟩
      · have hG : rNode nm L (brace L (rd nm L f true)) i = .no j4 := by
          cases hm : isT L (i + 1) wSub with
          | true => rw [hm] at g4; simp at g4
          | false => rw [hm] at g4; simp at g4; subst g4; simp [rNode, hst, hvi, hm]
        go_wp2_with fail
        exact ⟨rfl, (kS).trans k4, .inr ⟨j4, t, z, hG, r4, rfl⟩⟩
    | false =>
      rw [hvi] at b3 n3 r3 k4
      simp only [Bool.false_eq_true, if_false] at r3
      have M3 : Hid _ := word_rd hc _ rb pb cap i r3 hi wLoose (by simp [isW])
      clear r3
      go_wp2_with fail
      refine Calls.mono M3.out ?_
      clear M3
      generalize w2.setCell ⟨w1.heap.size, 4, none⟩ (.bool false) = W3 at *
      clear n2 n2c n2f
      rintro e w3 ⟨k5, ⟨_, j3, v, g3, r4, rfl, rfl⟩ | ⟨j3, t, z, g3, r4, rfl⟩⟩
      · have hloo : isT L i wLoose = true ∧ j3 = i + 1 := by
          cases hm : isT L i wLoose with
          | true => rw [hm] at g3; simp at g3; exact ⟨rfl, g3.symm⟩
          | false => rw [hm] at g3; simp at g3
        obtain ⟨hlo, rfl⟩ := hloo
        have hi1 := isT_lt L hlo
        have kk := k4.trans k5
        have bb := row_ke b3 k5 (by omega)
        have nn := row_ke n3 k5 (by omega)
        clear k4 k5 b3 n3 g3
        have hV : (isT L i wVital || isT L i wLoose) = true := by simp [hvi, hlo]
        have HZ := (kk).size
        have hWn : w1.heap.size < w3.heap.size := (Array.getElem?_eq_some_iff.1 nn).1
        have M4 : Hid _ := word_rd hc w3 rb pb cap (i + 1) r4 (by omega) wSub (by simp [isW])
        go_wp2_with fail
        refine Calls.mono M4.out ?_
        clear M4 r4
        rintro e w4 ⟨q4, ⟨_, j4, v, g4, s4, rfl, rfl⟩ | ⟨j4, t, z, g4, s4, rfl⟩⟩
        · have hsub : isT L (i + 1) wSub = true ∧ j4 = i + 2 := by
            cases hm : isT L (i + 1) wSub with
            | true => rw [hm] at g4; simp at g4; exact ⟨rfl, g4.symm⟩
            | false => rw [hm] at g4; simp at g4
          obtain ⟨hsb, rfl⟩ := hsub
          have hi2 := isT_lt L hsb
          have M5 : Hid _ := name_rd hc w4 rb pb cap (i + 2) s4 (by omega)
          have hf5 := rName_fit nm L (i + 2) (by omega)
          have hz4 := q4.size
          clear s4 g4
          go_wp2_with fail
          refine Calls.mono M5.out ?_
          clear M5
          rintro e w5 ⟨k5, ⟨x, j5, v, g5, r5, rfl, rfl⟩ | ⟨j5, t, z, g5, r5, rfl⟩⟩
          · rw [g5] at hf5
            have hj5 : i + 3 ≤ j5 ∧ j5 ≤ L.length := ⟨by have := hf5.1; omega, hf5.2⟩
            have hz5 := k5.size
            have n5 := row_ke (row_ke nn q4 (by omega)) k5 (by omega)
            have n5c := (cell_row n5 0).trans rfl
            have n5f := froz_row n5 0
            have b6 := row_other (c := w1.heap.size) (i := 0) (row_ke (row_ke bb q4 (by omega)) k5 (by omega)) (.string ⟨x.toArray⟩) (by omega)
            have n6 : (w5.setCell ⟨w1.heap.size, 0, none⟩ (.string ⟨x.toArray⟩)).heap[w1.heap.size]? = some (.cells #[.string ⟨x.toArray⟩, .string ⟨#[]⟩, .slice none 0 0, .bool true, .bool false, .slice none 0 0] 80 (0, 0)) := row_set n5 0 _
            have r6 := r5.setFar (c := w1.heap.size) (j := 0) (.string ⟨x.toArray⟩) (by omega) (by omega)
            have k6 := (((kk).trans q4).trans k5).setFar (c := w1.heap.size) (i := 0) (.string ⟨x.toArray⟩) (by omega)
            have M6 : Hid _ := leanings_rd hc _ rb pb cap j5 r6 hj5.2
            have hf6 := rLean_fit nm L j5 hj5.2
            have hz6 : w1.heap.size < (w5.setCell ⟨w1.heap.size, 0, none⟩ (.string ⟨x.toArray⟩)).heap.size := by simp; omega
            clear r5 n5 hf5 q4 k5
            go_wp2_with fail
            refine Calls.mono M6.out ?_
            clear M6 r6
            generalize w5.setCell ⟨w1.heap.size, 0, none⟩ (.string ⟨x.toArray⟩) = W6 at *
            rintro e w7 ⟨k7, ⟨xs, j7, v, g7, r7, rfl, a, c, rfl, hs7⟩ | ⟨j7, t, z, g7, r7, rfl⟩⟩
            · rw [g7] at hf6
              have hj7 : j5 ≤ j7 ∧ j7 ≤ L.length := ⟨by have := hf6.1; omega, hf6.2⟩
              have hz7 := k7.size
              have n7 := row_ke n6 k7 (by omega)
              have n7c := (cell_row n7 2).trans rfl
              have n7f := froz_row n7 2
              have b8 := row_other (c := w1.heap.size) (i := 2) (row_ke b6 k7 (by omega)) (.slice a xs.length c) (by omega)
              have n8 : (w7.setCell ⟨w1.heap.size, 2, none⟩ (.slice a xs.length c)).heap[w1.heap.size]? = some (.cells #[.string ⟨x.toArray⟩, .string ⟨#[]⟩, .slice a xs.length c, .bool true, .bool false, .slice none 0 0] 80 (0, 0)) := row_set n7 2 _
              have r8 := r7.setFar (c := w1.heap.size) (j := 2) (.slice a xs.length c) (by omega) (by omega)
              have k8 := (k6.trans k7).setFar (c := w1.heap.size) (i := 2) (.slice a xs.length c) (by omega)
              have hs8 : SAt (fun b => W6.heap.size ≤ b) (w7.setCell ⟨w1.heap.size, 2, none⟩ (.slice a xs.length c)) xs a xs.length := hs7.keep (Keeps.setCell _ _ (by omega)) (fun _ h _ => h)
              have M8 : Hid _ := HB _ j7 r8 hj7.2 (by omega)
              have hz8 : W6.heap.size ≤ (w7.setCell ⟨w1.heap.size, 2, none⟩ (.slice a xs.length c)).heap.size := by simp; omega
              clear hf6 r7 hs7 n7 k7
              go_wp2_with fail
              refine Calls.mono M8.out ?_
              clear M8 r8
              generalize w7.setCell ⟨w1.heap.size, 2, none⟩ (.slice a xs.length c) = W8 at *
              rintro e w9 ⟨k9, ⟨t, j9, v, g9, r9, rfl, a9, c9, rfl, ht9⟩ | ⟨j9, t, z, g9, r9, rfl⟩⟩
              · have hG : rNode nm L (brace L (rd nm L f true)) i = .ok (⟨x, [], xs, true, false⟩, t) j9 := by simp [rNode, hst, hvi, hlo, hsb, rSub, g5, g7, g9]
                have hz9 := k9.size
                have b9 := row_other (c := w1.heap.size) (i := 5) (row_ke b8 k9 (by omega)) (.slice a9 t.len c9) (by omega)
                have n9 := row_ke n8 k9 (by omega)
                have n9c := (cell_row n9 5).trans rfl
                have n9f := froz_row n9 5
                have hs9 : SAt (fun b => W6.heap.size ≤ b) w9 xs a xs.length := hs8.keep (Keeps.of_ke k9 (by omega)) (fun _ h _ => h)
                have n10 : (w9.setCell ⟨w1.heap.size, 5, none⟩ (.slice a9 t.len c9)).heap[w1.heap.size]? = some (.cells #[.string ⟨x.toArray⟩, .string ⟨#[]⟩, .slice a xs.length c, .bool true, .bool false, .slice a9 t.len c9] 80 (0, 0)) := row_set n9 5 _
                have r10 := r9.setFar (c := w1.heap.size) (j := 5) (.slice a9 t.len c9) (by omega) (by omega)
                have k10 := (k8.trans k9).setFar (c := w1.heap.size) (i := 5) (.slice a9 t.len c9) (by omega)
                have hs10 : SAt (fun b => W6.heap.size ≤ b) (w9.setCell ⟨w1.heap.size, 5, none⟩ (.slice a9 t.len c9)) xs a xs.length := hs9.keep (Keeps.setCell _ _ (by omega)) (fun _ h _ => h)
                have ht10 : TAt (fun b => W8.heap.size ≤ b) (w9.setCell ⟨w1.heap.size, 5, none⟩ (.slice a9 t.len c9)) true t a9 0 t.len := ht9.keep (Keeps.setCell _ _ (by omega)) (fun _ h _ => h) _ _ _ _ _
                obtain ⟨W10, hW10⟩ : ∃ W10, w9.setCell ⟨w1.heap.size, 5, none⟩ (.slice a9 t.len c9) = W10 := ⟨_, rfl⟩
                rw [hW10] at n10 r10 k10 hs10 ht10 b9
                have d0 := (cell_row n10 0).trans rfl
                have d1 := (cell_row n10 1).trans rfl
                have d2 := (cell_row n10 2).trans rfl
                have d3 := (cell_row n10 3).trans rfl
                have d4 := (cell_row n10 4).trans rfl
                have d5 := (cell_row n10 5).trans rfl
                have e0 := (cell_row b9 0).trans rfl
                have e1 := (cell_row b9 1).trans rfl
                have e2 := (cell_row b9 2).trans rfl
                have e3 := (cell_row b9 3).trans rfl
                have e4 := (cell_row b9 4).trans rfl
                have e5 := (cell_row b9 5).trans rfl
                have ef := froz_row b9
                have hne : w1.heap.size ≠ w.heap.size := by omega
                clear hs9 ht9 r9 k9 n9 b8 n8 k8 hs8 b6 n6 k6
                go_wp2_with fail
                refine ret6 (p := 2) rfl w.heap.size _ _ _ _ _ _ rfl rfl (put6_row b9 _ _ _ _ _ _) ?_
                exact ⟨put6_ke k10 _ _ _ _ _ _ (Nat.le_refl _), .inl ⟨_, j9, _, hG, put6_rd r10 _ _ _ _ _ _ (by omega) (by omega), rfl, a, _, c, a9, _, c9, rfl, hs10.keep (put6_keeps _ _ _ _ _ _ _ (by omega)) (fun b h _ => by omega), ht10.keep (put6_keeps _ _ _ _ _ _ _ (by omega)) (fun b h _ => by omega) _ _ _ _ _⟩⟩
              · have hG : rNode nm L (brace L (rd nm L f true)) i = .no j9 := by simp [rNode, hst, hvi, hlo, hsb, rSub, g5, g7, g9]
                go_wp2_with fail
                exact ⟨rfl, k8.trans k9, .inr ⟨j9, t, z, hG, r9, rfl⟩⟩
            · have hG : rNode nm L (brace L (rd nm L f true)) i = .no j7 := by simp [rNode, hst, hvi, hlo, hsb, rSub, g5, g7]
              go_wp2_with fail
              exact ⟨rfl, k6.trans k7, .inr ⟨j7, t, z, hG, r7, rfl⟩⟩
          · have hG : rNode nm L (brace L (rd nm L f true)) i = .no j5 := by simp [rNode, hst, hvi, hlo, hsb, rSub, g5]
            go_wp2_with fail
            exact ⟨rfl, ((kk).trans q4).trans k5, .inr ⟨j5, t, z, hG, r5, rfl⟩⟩
        · have hG : rNode nm L (brace L (rd nm L f true)) i = .no j4 := by
            cases hm : isT L (i + 1) wSub with
            | true => rw [hm] at g4; simp at g4
            | false => rw [hm] at g4; simp at g4; subst g4; simp [rNode, hst, hvi, hlo, hm]
          go_wp2_with fail
          exact ⟨rfl, (kk).trans q4, .inr ⟨j4, t, z, hG, s4, rfl⟩⟩
      · have hG : rNode nm L (brace L (rd nm L f true)) i = .no j3 := by
          cases hm : isT L i wLoose with
          | true => rw [hm] at g3; simp at g3
          | false => rw [hm] at g3; simp at g3; subst g3; simp [rNode, hst, hvi, hm]
        go_wp2_with fail
        exact ⟨rfl, k4.trans k5, .inr ⟨j3, t, z, hG, r4, rfl⟩⟩
end
end Go.Proofs.Ytlmfmgpamhhncaa

