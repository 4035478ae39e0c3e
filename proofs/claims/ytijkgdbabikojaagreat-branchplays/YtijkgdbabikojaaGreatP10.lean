/- Texts of the seat, packed: DXi DWu DXn. -/
import Derived.Test.YtijkgdbabikojaaGreatP09
import Derived.Test.YtijkgdbabikojaaGreatP08
import Derived.Test.YtijkgdbabikojaaGreatP07
/- A disk of the call's own, handed on; the laws' lives: the document's examples. -/
namespace Go.Proofs.YtijkgdbabikojaaGreat.Dk
set_option maxRecDepth 1000000
open Go.RowKit
set_option linter.unusedVariables false

theorem RB.newf (w : World) (l : List UInt8) (cs : Array Value) (t : TypeId) (fr : Nat × Nat) (k : Nat) (hk : k = w.heap.size) (h : cs.toList = bvs l) (hl : l.length ≤ 1000000) : RB (w.alloc (.cells cs t fr)) (.slice (some ⟨k, 0, none⟩) l.length l.length) l := by
  subst hk
  refine ⟨_, _, rfl, Nat.le_refl _, by unfold maxLen; omega, (fun h => by cases h), fun i hi => ⟨_, _, rfl, ?_⟩⟩
  rw [Nat.zero_add, cell_of_row _ _ _ cs t fr (heap_alloc_new _ _), ← Array.getElem?_toList, h]
  simp [bvs, hi]

/-- A disk whose blocks are the call's own. -/
structure LD (B : Nat) (w : World) (p : Nat) (S : DS) (L R : Nat) : Prop where
  dk : ∃ T, DK T w p S ∧ ∀ k, T k → B ≤ k
  ok : Okay S
  sm : Small L R S
  hB : B ≤ w.heap.size

theorem LD.later {B : Nat} {w w' : World} {p : Nat} {S : DS} {L R : Nat} (h : LD B w p S L R) (hb : Below w.heap.size w w') : LD B w' p S L R := by
  obtain ⟨⟨T, h1, h2⟩, h3, h4, h5⟩ := h
  exact ⟨⟨T, h1.later hb, h2⟩, h3, h4, Nat.le_trans h5 hb.size⟩

theorem WR.ld {T : Nat → Prop} {B : Nat} {w w' : World} {p : Nat} {res : Int × DS} {e : Ending} {L R : Nat} (h : WR T w p res e w') (hT : ∀ k, T k → B ≤ k) (hB : B ≤ w.heap.size) (ho : Okay res.2) (hs : Small L R res.2) : e = .returned (.int .i64 res.1) ∧ LD B w' p res.2 L R ∧ Below B w w' := by
  obtain ⟨h1, h2, h3⟩ := h
  refine ⟨h1, ⟨⟨_, h2, fun k hk => ?_⟩, ho, hs, Nat.le_trans hB h3.size⟩, h3.below hB hT⟩
  rcases hk with hk | hk
  · exact hT k hk
  · exact Nat.le_trans hB hk.1

theorem d_append {B : Nat} {wp : World} {p : Nat} {S : DS} {L R : Nat} (h : LD B wp p S L R) (i : Int) (l : List UInt8) (cs : Array Value) (fr : Nat × Nat) (hcs : cs.toList = bvs l) (hl : l.length ≤ 1000000) (hL : L ≤ 10000000) (hR : R ≤ 1000000000000) :
    Calls Tryz.prog 24 #[.pointer (some ⟨p, 0, none⟩), .int .i64 i, .slice (some ⟨wp.heap.size, 0, none⟩) l.length l.length] (wp.alloc (.cells cs 5 fr)) fun e w' => e = .returned (.int .i64 (appendP S i l).1) ∧ LD B w' p (appendP S i l).2 (L + l.length) R ∧ Below B wp w' := by
  obtain ⟨⟨T, h1, h2⟩, h3, h4, h5⟩ := h
  have hb : Below wp.heap.size wp (wp.alloc (.cells cs 5 fr)) := (Below.refl _ _).alloc (Nat.le_refl _) _
  have hT := h1.live
  refine Calls.mono (append_any T _ p S i _ l (h1.later hb) h3 (small_mono h4 hL hR) (RB.newf wp l cs 5 fr _ rfl hcs hl) (by omega) (fun a n c he hx => by cases he; exact Nat.lt_irrefl _ (hT _ hx))) ?_
  intro e w' hw
  obtain ⟨q1, q2, q3⟩ := hw.ld h2 (Nat.le_trans h5 hb.size) (okay_append h3 i l) (small_append h4 i l)
  exact ⟨q1, q2, (hb.mono h5).trans q3⟩

theorem d_sync {B : Nat} {w : World} {p : Nat} {S : DS} {L R : Nat} (h : LD B w p S L R) (i : Int) (hL : L ≤ 10000000) (hR : R ≤ 1000000000000) :
    Calls Tryz.prog 20 #[.pointer (some ⟨p, 0, none⟩), .int .i64 i] w fun e w' => e = .returned (.int .i64 (syncP S i).1) ∧ LD B w' p (syncP S i).2 L R ∧ Below B w w' := by
  obtain ⟨⟨T, h1, h2⟩, h3, h4, h5⟩ := h
  refine Calls.mono (sync_any T _ p S i h1 h3 (small_mono h4 hL hR)) ?_
  intro e w' hw
  exact hw.ld h2 h5 (okay_sync h3 i) (small_sync h4 i)

theorem d_cut {B : Nat} {w : World} {p : Nat} {S : DS} {L R : Nat} (h : LD B w p S L R) (i n : Int) (hL : L ≤ 10000000) (hR : R ≤ 1000000000000) :
    Calls Tryz.prog 86 #[.pointer (some ⟨p, 0, none⟩), .int .i64 i, .int .i64 n] w fun e w' => e = .returned (.int .i64 (cutP S i n).1) ∧ LD B w' p (cutP S i n).2 L (R + L) ∧ Below B w w' := by
  obtain ⟨⟨T, h1, h2⟩, h3, h4, h5⟩ := h
  refine Calls.mono (cut_any T _ p S i n h1 h3 (small_mono h4 hL hR)) ?_
  intro e w' hw
  exact hw.ld h2 h5 (okay_cut h3 i n) (small_cut h4 i n)

theorem d_arm {B : Nat} {w : World} {p : Nat} {S : DS} {L R : Nat} (h : LD B w p S L R) (n : Int) (hn : n ≤ 9223372036854775807) :
    Calls Tryz.prog 22 #[.pointer (some ⟨p, 0, none⟩), .int .i64 n] w fun e w' => e = .returned (.int .i64 (armP S n).1) ∧ LD B w' p (armP S n).2 L R ∧ Below B w w' := by
  obtain ⟨⟨T, h1, h2⟩, h3, h4, h5⟩ := h
  refine Calls.mono (arm_any T _ p S n h1 h3) ?_
  intro e w' hw
  exact hw.ld h2 h5 (okay_arm h3 n hn) (small_arm h4 n)

theorem d_crash {B : Nat} {w : World} {p : Nat} {S : DS} {L R : Nat} (h : LD B w p S L R) (kv : Value) (keep : List Int) (hr : RI w kv keep) (hk : 0 < keep.length → ∀ a n c, kv = .slice (some a) n c → a.block < B) (hl : keep.length ≤ 1000000) (hL : L ≤ 10000000) (hR : R ≤ 900000000000) :
    Calls Tryz.prog 19 #[.pointer (some ⟨p, 0, none⟩), kv] w fun e w' => e = .returned (.int .i64 0) ∧ LD B w' p (crashP S keep) L (R + 65 * L) ∧ Below B w w' := by
  obtain ⟨⟨T, h1, h2⟩, h3, h4, h5⟩ := h
  refine Calls.mono (crash_any T _ p S kv keep h1 h3 (small_mono h4 hL hR) hr (fun h0 a n c he hx => by have := hk h0 a n c he; have := h2 _ hx; omega) hl) ?_
  intro e w' hw
  exact hw.ld h2 h5 (h3.crash keep) (small_crash h4 h3 keep)

theorem d_crash1 {B : Nat} {wp : World} {p : Nat} {S : DS} {L R : Nat} (h : LD B wp p S L R) (x : Int) (hL : L ≤ 10000000) (hR : R ≤ 900000000000) :
    Calls Tryz.prog 19 #[.pointer (some ⟨p, 0, none⟩), .slice (some ⟨wp.heap.size, 0, none⟩) 1 1] (wp.alloc (.cells #[.int .i64 x] 3)) fun e w' => e = .returned (.int .i64 0) ∧ LD B w' p (crashP S [x]) L (R + 65 * L) ∧ Below B wp w' := by
  obtain ⟨⟨T, h1, h2⟩, h3, h4, h5⟩ := h
  have hb : Below wp.heap.size wp (wp.alloc (.cells #[.int .i64 x] 3)) := (Below.refl _ _).alloc (Nat.le_refl _) _
  have hT := h1.live
  have hri : RI (wp.alloc (.cells #[.int .i64 x] 3)) (.slice (some ⟨wp.heap.size, 0, none⟩) 1 1) [x] := by
    refine ⟨_, 1, rfl, Nat.le_refl _, by unfold maxLen; omega, fun i hi => ⟨_, _, rfl, ?_⟩⟩
    have : i = 0 := by simp at hi; omega
    subst this
    exact cell_alloc1 _ _ _ _ rfl
  refine Calls.mono (crash_any T _ p S _ [x] (h1.later hb) h3 (small_mono h4 hL hR) hri (fun _ a n c he hx => by cases he; exact Nat.lt_irrefl _ (hT _ hx)) (by simp)) ?_
  intro e w' hw
  obtain ⟨q1, q2, q3⟩ := hw.ld h2 (Nat.le_trans h5 hb.size) (h3.crash [x]) (small_crash h4 h3 [x])
  exact ⟨q1, q2, (hb.mono h5).trans q3⟩

theorem d_read {B : Nat} {w : World} {p : Nat} {S : DS} {L R : Nat} (h : LD B w p S L R) (i : Int) (hL : L ≤ 10000000) (hR : R ≤ 1000000000000) :
    Calls Tryz.prog 33 #[.pointer (some ⟨p, 0, none⟩), .int .i64 i] w fun e w' => (∃ v, e = .returned v ∧ RBf w.heap.size w' v (readP S i)) ∧ LD B w' p S L R ∧ Below w.heap.size w w' := by
  have h0 := h
  obtain ⟨⟨T, h1, h2⟩, h3, h4, h5⟩ := h
  refine Calls.mono (read_any T _ p S i h1 h3 (small_mono h4 hL hR)) ?_
  rintro e w' ⟨q1, q2⟩
  exact ⟨q1, h0.later q2, q2⟩

theorem d_room {B : Nat} {w : World} {p : Nat} {S : DS} {L R : Nat} (h : LD B w p S L R) :
    Calls Tryz.prog 34 #[.pointer (some ⟨p, 0, none⟩)] w fun e w' => e = .returned (.int .i64 S.room) ∧ LD B w' p S L R ∧ Below w.heap.size w w' := by
  have h0 := h
  obtain ⟨⟨T, ⟨V, h1⟩, h2⟩, h3, h4, h5⟩ := h
  have hpos := h3.pos
  refine Calls.mono (room_any p S.n S.room w h1.cnt (by omega) h1.rm) ?_
  rintro e w' ⟨q1, q2⟩
  exact ⟨q1, h0.later q2, q2⟩

theorem d_down {B : Nat} {w : World} {p : Nat} {S : DS} {L R : Nat} (h : LD B w p S L R) :
    Calls Tryz.prog 35 #[.pointer (some ⟨p, 0, none⟩)] w fun e w' => e = .returned (.bool S.down) ∧ LD B w' p S L R ∧ Below w.heap.size w w' := by
  have h0 := h
  obtain ⟨⟨T, ⟨V, h1⟩, h2⟩, h3, h4, h5⟩ := h
  have hpos := h3.pos
  refine Calls.mono (down_any p S.n S.down w h1.cnt (by omega) h1.dn) ?_
  rintro e w' ⟨q1, q2⟩
  exact ⟨q1, h0.later q2, q2⟩

theorem okay_new {n room : Nat} (h1 : 1 ≤ n) (h2 : n ≤ 65) : Okay (newP n room) :=
  ⟨h1, h2, fun i => Nat.le_refl _, fun i _ => rfl, by show -1 ≤ (-1 : Int); omega, by show (-1 : Int) ≤ _; omega⟩
theorem small_new (n room : Nat) : Small 0 room (newP n room) := ⟨fun i => Nat.le_refl _, Nat.le_refl _⟩

theorem d_new (files room : Nat) (w : World) (h1 : 1 ≤ files) (h2 : files ≤ 65) (h3 : room ≤ 1048576) :
    Calls Tryz.prog 13 #[.int .i64 files, .int .i64 room] w fun e w' => ∃ p, e = .returned (.tuple #[.pointer (some ⟨p, 0, none⟩), .int .i64 0]) ∧ LD w.heap.size w' p (newP files room) 0 room ∧ Below w.heap.size w w' := by
  refine Calls.mono (new_yes files room w h1 h2 h3) ?_
  rintro e w' ⟨q1, q2, q3⟩
  exact ⟨_, q1, ⟨⟨_, q2, fun k hk => by rw [hk]; exact Nat.le_refl _⟩, okay_new h1 h2, small_new _ _, q3.size⟩, q3⟩

def v0 : DS := newP 2 9
def v1 : DS := (appendP v0 0 [97, 98, 99]).2
def v2 : DS := (syncP v1 0).2
def v3 : DS := (appendP v2 0 [100, 101]).2
def v4 : DS := (appendP v3 1 [120]).2
def v5 : DS := crashP v4 [1]
def v6 : DS := (armP v5 1).2
def v7 : DS := (appendP v6 1 [121]).2
def v8 : DS := (syncP v7 1).2

theorem k1 : (appendP v0 0 [97, 98, 99]).1 = 0 := by decide +kernel
theorem k2 : (syncP v1 0).1 = 0 := by decide +kernel
theorem k3 : (appendP v2 0 [100, 101]).1 = 0 := by decide +kernel
theorem k4 : (appendP v3 1 [120]).1 = 0 := by decide +kernel
theorem k5a : readP v5 0 = [97, 98, 99, 100] := by decide +kernel
theorem k5b : readP v5 1 = [] := by decide +kernel
theorem k5c : v5.room = 5 := by decide +kernel
theorem k6 : (armP v5 1).1 = 0 := by decide +kernel
theorem k7 : (appendP v6 1 [121]).1 = 0 := by decide +kernel
theorem k8 : (syncP v7 1).1 = 9 := by decide +kernel
theorem k8d : v8.down = true := by decide +kernel

end Go.Proofs.YtijkgdbabikojaaGreat.Dk

/- All calls of no disk, and of one that nothing made. -/
namespace Go.Proofs.YtijkgdbabikojaaGreat.Dk
set_option maxRecDepth 1000000
open Go.RowKit
set_option linter.unusedVariables false

/-- A pointer whose calls all answer that nothing made it. -/
def Dead (pp : Option Addr) (w : World) : Prop := ∀ wx dv sl, Below w.heap.size w wx → Calls Tryz.prog 48 #[.pointer pp, dv, sl] wx fun e w' => e = .returned (.int .i64 1) ∧ w' = wx

theorem dead_nil (w : World) : Dead none w := fun wx dv sl _ => call_nil dv sl wx
theorem dead_unmade (q : Nat) (w : World) (h : w.cell? ⟨q, 130, none⟩ = some (.int .i64 0)) : Dead (some ⟨q, 0, none⟩) w := fun wx dv sl hb => call_unmade q dv sl wx (cell_later hb h)
theorem Dead.later {pp : Option Addr} {w w' : World} (h : Dead pp w) (hb : Below w.heap.size w w') : Dead pp w' := fun wx dv sl hx => h wx dv sl (hb.trans (hx.mono hb.size))

set_option maxRecDepth 1000000 in
set_option maxHeartbeats 1000000 in
theorem n_room (pp : Option Addr) (w : World) (hd : Dead pp w) : Calls Tryz.prog 34 #[.pointer pp] w fun e w' => e = .returned (.int .i64 0) ∧ Below w.heap.size w w' := by
  have HD : Hid (Dead pp w) := hd
  clear hd
  have hmf : ∀ (fn : Fn) (first cap : Array Value) (w : World), (Instr.makeFunc fn first cap).run Tryz.prog w = .ok (.func fn first cap) w := fun _ _ _ _ => rfl
  go_enter Tryz.func34, Tryz.ntmps34
  go_wp2_with fail
  refine Calls.mono (HD.out _ _ _ (alloc2 _ _ _)) ?_
  rintro e w2 ⟨rfl, rfl⟩
  go_wp2_with fail
  go_ret
  exact ⟨rfl, alloc2 _ _ _⟩

set_option maxRecDepth 1000000 in
set_option maxHeartbeats 1000000 in
theorem n_down (pp : Option Addr) (w : World) (hd : Dead pp w) : Calls Tryz.prog 35 #[.pointer pp] w fun e w' => e = .returned (.bool false) ∧ Below w.heap.size w w' := by
  have HD : Hid (Dead pp w) := hd
  clear hd
  have hmf : ∀ (fn : Fn) (first cap : Array Value) (w : World), (Instr.makeFunc fn first cap).run Tryz.prog w = .ok (.func fn first cap) w := fun _ _ _ _ => rfl
  go_enter Tryz.func35, Tryz.ntmps35
  go_wp2_with fail
  refine Calls.mono (HD.out _ _ _ (alloc2 _ _ _)) ?_
  rintro e w2 ⟨rfl, rfl⟩
  go_wp2_with fail
  go_ret
  exact ⟨rfl, alloc2 _ _ _⟩

set_option maxRecDepth 1000000 in
set_option maxHeartbeats 1000000 in
theorem n_files (pp : Option Addr) (w : World) (hd : Dead pp w) : Calls Tryz.prog 76 #[.pointer pp] w fun e w' => e = .returned (.int .i64 0) ∧ Below w.heap.size w w' := by
  have HD : Hid (Dead pp w) := hd
  clear hd
  have hmf : ∀ (fn : Fn) (first cap : Array Value) (w : World), (Instr.makeFunc fn first cap).run Tryz.prog w = .ok (.func fn first cap) w := fun _ _ _ _ => rfl
  go_enter Tryz.func76, Tryz.ntmps76
  go_wp2_with fail
  refine Calls.mono (HD.out _ _ _ (alloc2 _ _ _)) ?_
  rintro e w2 ⟨rfl, rfl⟩
  go_wp2_with fail
  go_ret
  exact ⟨rfl, alloc2 _ _ _⟩

set_option maxRecDepth 1000000 in
set_option maxHeartbeats 1000000 in
theorem n_arm (pp : Option Addr) (n : Int) (w : World) (hd : Dead pp w) : Calls Tryz.prog 22 #[.pointer pp, .int .i64 n] w fun e w' => e = .returned (.int .i64 1) ∧ Below w.heap.size w w' := by
  have HD : Hid (Dead pp w) := hd
  clear hd
  have hmf : ∀ (fn : Fn) (first cap : Array Value) (w : World), (Instr.makeFunc fn first cap).run Tryz.prog w = .ok (.func fn first cap) w := fun _ _ _ _ => rfl
  go_enter Tryz.func22, Tryz.ntmps22
  go_wp2_with fail
  refine Calls.mono (HD.out _ _ _ (alloc3 _ _ _ _)) ?_
  rintro e w2 ⟨rfl, rfl⟩
  go_wp2_with fail
  go_ret
  exact ⟨rfl, alloc3 _ _ _ _⟩

set_option maxRecDepth 1000000 in
set_option maxHeartbeats 1000000 in
theorem n_crash (pp : Option Addr) (a : Option Addr) (n c : Nat) (w : World) (hd : Dead pp w) : Calls Tryz.prog 19 #[.pointer pp, .slice a n c] w fun e w' => e = .returned (.int .i64 1) ∧ Below w.heap.size w w' := by
  have HD : Hid (Dead pp w) := hd
  clear hd
  have hmf : ∀ (fn : Fn) (first cap : Array Value) (w : World), (Instr.makeFunc fn first cap).run Tryz.prog w = .ok (.func fn first cap) w := fun _ _ _ _ => rfl
  go_enter Tryz.func19, Tryz.ntmps19
  go_wp2_with fail
  refine Calls.mono (HD.out _ _ _ (alloc2 _ _ _)) ?_
  rintro e w2 ⟨rfl, rfl⟩
  go_wp2_with fail
  go_ret
  exact ⟨rfl, alloc2 _ _ _⟩

set_option maxRecDepth 1000000 in
set_option maxHeartbeats 2000000 in
theorem n_read (pp : Option Addr) (i : Int) (w : World) (hd : Dead pp w) : Calls Tryz.prog 33 #[.pointer pp, .int .i64 i] w fun e w' => e = .returned (.slice none 0 0) ∧ Below w.heap.size w w' := by
  have HD : Hid (Dead pp w) := hd
  have HK : Hid (∀ w1 w2 : World, (w1.cell? ⟨w.heap.size, 0, none⟩ = some (.pointer pp) ∧ w1.cell? ⟨w.heap.size + 1, 0, none⟩ = some (.int .i64 i)) → Below w1.heap.size w1 w2 → (w2.cell? ⟨w.heap.size, 0, none⟩ = some (.pointer pp) ∧ w2.cell? ⟨w.heap.size + 1, 0, none⟩ = some (.int .i64 i))) := fun w1 w2 h hb => ⟨cell_later hb h.1, cell_later hb h.2⟩
  have HS0 : Hid ((((w.alloc (.cells #[.pointer pp] 25)).alloc (.cells #[.int .i64 i] 3)).alloc (.cells #[.slice none 0 0] 34)).drew.cell? ⟨w.heap.size, 0, none⟩ = some (.pointer pp) ∧ (((w.alloc (.cells #[.pointer pp] 25)).alloc (.cells #[.int .i64 i] 3)).alloc (.cells #[.slice none 0 0] 34)).drew.cell? ⟨w.heap.size + 1, 0, none⟩ = some (.int .i64 i)) := by
    refine ⟨?_, ?_⟩
    · show (World.alloc _ _).cell? _ = _
      rw [cell_past _ _ _ _ (by simp <;> omega), cell_past _ _ _ _ (by simp <;> omega), cell_alloc1 _ _ _ _ (by simp)]
    · show (World.alloc _ _).cell? _ = _
      rw [cell_past _ _ _ _ (by simp <;> omega), cell_alloc1 _ _ _ _ (by simp)]
  have hmf : ∀ (fn : Fn) (first cap : Array Value) (w : World), (Instr.makeFunc fn first cap).run Tryz.prog w = .ok (.func fn first cap) w := fun _ _ _ _ => rfl
  clear hd
  go_enter Tryz.func33, Tryz.ntmps33
  go_wp2_with fail
  go_region_held_law (fun w' => (w'.cell? ⟨w.heap.size, 0, none⟩ = some (.pointer pp) ∧ w'.cell? ⟨w.heap.size + 1, 0, none⟩ = some (.int .i64 i))) (first | assumption | exact HS0.out | exact HK.out _ _ ‹_› (alloc2 _ _ _) | exact HK.out _ _ ‹_› ((Below.refl _ _).alloc (Nat.le_refl _) _)) (first
    | (go_simp; go_at_call 73; refine Calls.mono (has_any _ _ _) ?_; rintro e w2 ⟨rfl, rfl⟩)
    | (go_simp; go_at_call 48; refine Calls.mono (HD.out _ _ _ ((((alloc5 _ _ _ _ _ _).alloc (by simp <;> omega) _).drew))) ?_; rintro e w2 ⟨rfl, rfl⟩))
  all_goals
    go_wp2_with fail
    go_ret
    exact ⟨rfl, (((alloc5 _ _ _ _ _ _).alloc (by simp <;> omega) _).drew)⟩

end Go.Proofs.YtijkgdbabikojaaGreat.Dk

/- Append of bytes that came in. -/
namespace Go.Proofs.YtijkgdbabikojaaGreat.Dk
set_option maxRecDepth 1000000
open Go.RowKit
set_option linter.unusedVariables false

theorem RB.kept0 {w w' : World} {T : Nat → Prop} {v : Value} {l : List UInt8} (h : RB w v l) (hk : Kp T w w') (hv : 0 < l.length → ∀ a n c, v = .slice (some a) n c → ¬ T a.block) : RB w' v l := by
  obtain ⟨a, cap, rfl, h1, h2, h3, hc⟩ := h
  refine ⟨a, cap, rfl, h1, h2, h3, fun i hi => ?_⟩
  obtain ⟨b, off, rfl, hcell⟩ := hc i hi
  exact ⟨b, off, rfl, hk.cell hcell (show ¬ T b from hv (by omega) ⟨b, off, none⟩ _ _ rfl)⟩

theorem RB.kept1 {w w' : World} {T : Nat → Prop} {v : Value} {l : List UInt8} (h : RB w v l) (hk : Kp T w w') (hv : 0 < l.length → ∀ a n c, v = .slice (some a) n c → ¬ T a.block) : RB w' v l := h.kept0 hk hv

theorem append_call0 (T : Nat → Prop) (w : World) (p : Nat) (S : DS) (i : Int) (xv : Value) (l : List UInt8) (hd : DK T w p S) (ho : Okay S) (hs : Small 10000000 1000000000000 S) (hx : RB w xv l) (hl : l.length ≤ 10000000) (hxT : 0 < l.length → ∀ a n c, xv = .slice (some a) n c → ¬ T a.block) :
    Calls Tryz.prog 53 #[.pointer (some ⟨p, 0, none⟩), .int .i64 i, .func (.func 60) #[] #[.pointer (some ⟨w.heap.size, 0, none⟩)], .slice (some ⟨w.heap.size + 1 + 1 + 1, 0, none⟩) 1 1]
      ((((w.alloc (.cells #[xv] 34)).alloc (.cells #[.pointer (some ⟨p, 0, none⟩)] 25)).alloc (.cells #[.int .i64 l.length] 3)).alloc (.cells #[.func (.func 90) #[] #[.pointer (some ⟨w.heap.size + 1 + 1, 0, none⟩), .pointer (some ⟨w.heap.size + 1, 0, none⟩)]] 105))
      (fun e w' => WR T w p (appendP S i l) e w') := by
  have hbel := alloc4 w (.cells #[xv] 34) (.cells #[.pointer (some ⟨p, 0, none⟩)] 25) (.cells #[.int .i64 l.length] 3) (.cells #[.func (.func 90) #[] #[.pointer (some ⟨w.heap.size + 1 + 1, 0, none⟩), .pointer (some ⟨w.heap.size + 1, 0, none⟩)]] 105)
  have hT := hd.live
  have hG : ∀ k, w.heap.size ≤ k → ¬ T k := fun k hk h => by have := hT k h; omega
  have c0 : ((((w.alloc (.cells #[xv] 34)).alloc (.cells #[.pointer (some ⟨p, 0, none⟩)] 25)).alloc (.cells #[.int .i64 l.length] 3)).alloc (.cells #[.func (.func 90) #[] #[.pointer (some ⟨w.heap.size + 1 + 1, 0, none⟩), .pointer (some ⟨w.heap.size + 1, 0, none⟩)]] 105)).cell? ⟨w.heap.size, 0, none⟩ = some xv := by
    rw [cell_past _ _ _ _ (by simp <;> omega), cell_past _ _ _ _ (by simp <;> omega), cell_past _ _ _ _ (by simp), cell_alloc1 _ _ _ _ (by simp)]
  have c1 : ((((w.alloc (.cells #[xv] 34)).alloc (.cells #[.pointer (some ⟨p, 0, none⟩)] 25)).alloc (.cells #[.int .i64 l.length] 3)).alloc (.cells #[.func (.func 90) #[] #[.pointer (some ⟨w.heap.size + 1 + 1, 0, none⟩), .pointer (some ⟨w.heap.size + 1, 0, none⟩)]] 105)).cell? ⟨w.heap.size + 1, 0, none⟩ = some (.pointer (some ⟨p, 0, none⟩)) := by
    rw [cell_past _ _ _ _ (by simp <;> omega), cell_past _ _ _ _ (by simp), cell_alloc1 _ _ _ _ (by simp)]
  have c2 : ((((w.alloc (.cells #[xv] 34)).alloc (.cells #[.pointer (some ⟨p, 0, none⟩)] 25)).alloc (.cells #[.int .i64 l.length] 3)).alloc (.cells #[.func (.func 90) #[] #[.pointer (some ⟨w.heap.size + 1 + 1, 0, none⟩), .pointer (some ⟨w.heap.size + 1, 0, none⟩)]] 105)).cell? ⟨w.heap.size + 1 + 1, 0, none⟩ = some (.int .i64 l.length) := by
    rw [cell_past _ _ _ _ (by simp), cell_alloc1 _ _ _ _ (by simp)]
  refine Calls.mono (write_any T _ p S i (fitsP S l.length) _ _ (withP l) [_] (hd.later hbel) ho hs (.inr ⟨_, _, rfl, rfl, cell_alloc1 _ _ _ _ (by simp), rfl⟩) (.inr ⟨_, rfl, fun _ wx hk hdk => ?_⟩) (fun _ hm k _ hkn => ⟨⟨60, _, rfl, ent51, fun wx v hk hown => ?_⟩, ?_, ?_⟩) ⟨_, _, rfl⟩) ?_
  · obtain ⟨V, hdk⟩ := hdk
    exact ⟨90, #[], #[.pointer (some ⟨w.heap.size + 1 + 1, 0, none⟩), .pointer (some ⟨w.heap.size + 1, 0, none⟩)], rfl, ent65, fits1_any p (w.heap.size + 1 + 1) (w.heap.size + 1) S.room l.length wx (hk.cell c2 (hG (w.heap.size + 1 + 1) (by omega))) (hk.cell c1 (hG (w.heap.size + 1) (by omega))) hdk.rm⟩
  · have hx2 : RB wx xv l := (hx.later hbel).kept1 hk hxT
    exact append1_any v _ _ wx hown xv l w.heap.size (hk.cell c0 (hG w.heap.size (by omega))) hx2 (hs.len k) hl
  · have := hs.len k
    show ((S.fs k).b ++ l).length ≤ _
    rw [List.length_append]
    omega
  · show ((S.fs k).b ++ l).length ≤ _
    unfold fitsP at hm
    rw [List.length_append]
    split at hm
    · omega
    · cases hm
  · rintro e w' ⟨k, rfl, hq⟩
    obtain ⟨h1, h2, h3⟩ := hq.back hbel hT
    exact ⟨by rw [h1]; rfl, h2, h3⟩

set_option maxRecDepth 1000000 in
set_option maxHeartbeats 1000000 in
theorem append_any0 (T : Nat → Prop) (w : World) (p : Nat) (S : DS) (i : Int) (xv : Value) (l : List UInt8) (hd : DK T w p S) (ho : Okay S) (hs : Small 10000000 1000000000000 S) (hx : RB w xv l) (hl : l.length ≤ 10000000) (hxT : 0 < l.length → ∀ a n c, xv = .slice (some a) n c → ¬ T a.block) :
    Calls Tryz.prog 24 #[.pointer (some ⟨p, 0, none⟩), .int .i64 i, xv] w (WR T w p (appendP S i l)) := by
  have HC : Hid _ := append_call0 T w p S i xv l hd ho hs hx hl hxT
  obtain ⟨xa, xc, rfl, _, _, _, _⟩ := hx
  have hmf : ∀ (fn : Fn) (first cap : Array Value) (w : World), (Instr.makeFunc fn first cap).run Tryz.prog w = .ok (.func fn first cap) w := fun _ _ _ _ => rfl
  generalize appendP S i l = res at *
  clear hxT hd
  go_enter Tryz.func24, Tryz.ntmps24
  go_wp2_with (first
    | (go_at_call 62; refine Calls.mono (fits_any _ _ _) ?_; rintro e w2 ⟨rfl, rfl⟩)
    | (go_at_call 53; refine Calls.mono HC.out ?_; rintro e w2 ⟨rfl, h1, h2⟩))
  go_ret
  exact ⟨rfl, h1, h2⟩


theorem d_append0 {B : Nat} {w : World} {p : Nat} {S : DS} {L R : Nat} (h : LD B w p S L R) (i : Int) (xv : Value) (l : List UInt8) (hx : RB w xv l) (hlow : 0 < l.length → ∀ a n c, xv = .slice (some a) n c → a.block < B) (hl : l.length ≤ 1000000) (hL : L ≤ 10000000) (hR : R ≤ 1000000000000) :
    Calls Tryz.prog 24 #[.pointer (some ⟨p, 0, none⟩), .int .i64 i, xv] w fun e w' => e = .returned (.int .i64 (appendP S i l).1) ∧ LD B w' p (appendP S i l).2 (L + l.length) R ∧ Below B w w' := by
  obtain ⟨⟨T, h1, h2⟩, h3, h4, h5⟩ := h
  refine Calls.mono (append_any0 T _ p S i _ l h1 h3 (small_mono h4 hL hR) hx (by omega) (fun h0 a n c he hT => by have := hlow h0 a n c he; have := h2 _ hT; omega)) ?_
  intro e w' hw
  exact hw.ld h2 h5 (okay_append h3 i l) (small_append h4 i l)
end Go.Proofs.YtijkgdbabikojaaGreat.Dk

