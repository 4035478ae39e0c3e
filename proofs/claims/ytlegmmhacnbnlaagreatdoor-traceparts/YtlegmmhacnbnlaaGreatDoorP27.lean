/- Texts of the seat, packed: JRj JSh JRk. -/
import Derived.Test.YtlegmmhacnbnlaaGreatDoorP25
import Derived.Test.YtlegmmhacnbnlaaGreatDoorP26
import Derived.Shelf.Abstract
import Derived.RangeFuncBox
import Derived.BigQuiet
import Derived.Test.YtlegmmhacnbnlaaGreatDoorP18
import Derived.Shelf.Small.Bits
import Derived.Shelf.Sort.Plain
import Derived.Sort.OwnSortedInts
import Derived.Test.YtlegmmhacnbnlaaGreatDoorP14
import Derived.Maps.RangeWalk
/- What was done of a step, or of its undoing. -/
namespace Go.Proofs.YtlegmmhacnbnlaaGreatDoor.J.Tz
open Go.RowKit Go.Shelf Go.Proofs.YtlegmmhacnbnlaaGreatDoor.J
set_option maxRecDepth 1000000
set_option linter.unusedVariables false

theorem results_cell53 {fn : Func} (h : fn.results = #[.cell 4 63]) (tmps : Array Value) (w : World) (b : Nat) {s : Sp} (hp : tmps.getD 4 undef = .pointer (some ⟨b, 0, none⟩)) (hb : w.heap[b]? = some (.cells #[.int .i64 s.first, .int .i64 s.well, .int .i64 s.last] 63 (0, 0))) :
    (results fn tmps).run Tryz.prog w = .ok (SV s) w := by
  have hp' : tmps[4]?.getD undef = .pointer (some ⟨b, 0, none⟩) := by simpa using hp
  simp [results, h, hp', asAddr, run_loadVar_row (P := Tryz.prog) w b 63 63 _ (0, 0) _ hb Tryz.underlying63 rfl (by kernel_rfl)]
  rfl



set_option maxHeartbeats 4000000 in
theorem of_any {w : World} {b n : Nat} {f : Kx → Option Sp} (h : KM SV w b n f) {k : Kx} (hk : wfK k) :
    Calls Tryz.prog 41 #[.map (some b), KV k] w fun e w' => e = .returned (SV (spD (f k))) ∧ Below w.heap.size w w' := by
  obtain ⟨ki, ku, kt⟩ := k
  have HM : Hid (KM SV ((w.alloc (.cells #[.int .i64 ki, .bool ku, .int .i64 kt] 36)).alloc (.cells #[.int .i64 0, .int .i64 0, .int .i64 0] 63)) b n f) := h.later (bl2 _ _ _)
  have HK : Hid (wfK (ki, ku, kt)) := hk
  have c0 : ((w.alloc (.cells #[.int .i64 ki, .bool ku, .int .i64 kt] 36)).alloc (.cells #[.int .i64 0, .int .i64 0, .int .i64 0] 63)).cell? ⟨w.heap.size, 0, none⟩ = some (.int .i64 ki) := (cell_row (row_later (heap_alloc_new w _) (bl1 _ _)) 0).trans rfl
  have c1 : ((w.alloc (.cells #[.int .i64 ki, .bool ku, .int .i64 kt] 36)).alloc (.cells #[.int .i64 0, .int .i64 0, .int .i64 0] 63)).cell? ⟨w.heap.size, 1, none⟩ = some (.bool ku) := (cell_row (row_later (heap_alloc_new w _) (bl1 _ _)) 1).trans rfl
  have c2 : ((w.alloc (.cells #[.int .i64 ki, .bool ku, .int .i64 kt] 36)).alloc (.cells #[.int .i64 0, .int .i64 0, .int .i64 0] 63)).cell? ⟨w.heap.size, 2, none⟩ = some (.int .i64 kt) := (cell_row (row_later (heap_alloc_new w _) (bl1 _ _)) 2).trans rfl
  unfold KV
  obtain ⟨mv, hmv⟩ : ∃ mv, f (ki, ku, kt) = mv := ⟨_, rfl⟩
  have HMV : Hid (f (ki, ku, kt) = mv) := hmv
  clear h hk
  cases mv with
  | none =>
    have hlk : (Instr.lookup 54 (.map (some b)) (.agg #[.int .i64 ki, .bool ku, .int .i64 kt]) true).run Tryz.prog ((w.alloc (.cells #[.int .i64 ki, .bool ku, .int .i64 kt] 36)).alloc (.cells #[.int .i64 0, .int .i64 0, .int .i64 0] 63)) = .ok (.tuple #[.agg #[.int .i64 0, .int .i64 0, .int .i64 0], .bool false]) ((w.alloc (.cells #[.int .i64 ki, .bool ku, .int .i64 kt] 36)).alloc (.cells #[.int .i64 0, .int .i64 0, .int .i64 0] 63)) := HM.out.look_none Tryz.underlying54 (Tryz.zero53 _) HK.out hmv
    clear hmv
    go_enter Tryz.func41, Tryz.ntmps41
    go_wp2_with fail
    refine bodyPost_ret (results_cell53 (s := ⟨9223372036854775807, 9223372036854775807, 9223372036854775807⟩) rfl _ _ (w.heap.size + 1) rfl ?_) rfl ⟨?_, bl3 _ _ _ _⟩
    · have h1 := row_later (heap_alloc_new (w.alloc (.cells #[.int .i64 ki, .bool ku, .int .i64 kt] 36)) (.cells #[.int .i64 9223372036854775807, .int .i64 9223372036854775807, .int .i64 9223372036854775807] 63)) (bl1 _ (.cells #[.int .i64 0, .int .i64 0, .int .i64 0] 63))
      rw [World.size_alloc] at h1
      exact h1
    · rw [HMV.out]; rfl
  | some s =>
    have hlk : (Instr.lookup 54 (.map (some b)) (.agg #[.int .i64 ki, .bool ku, .int .i64 kt]) true).run Tryz.prog ((w.alloc (.cells #[.int .i64 ki, .bool ku, .int .i64 kt] 36)).alloc (.cells #[.int .i64 0, .int .i64 0, .int .i64 0] 63)) = .ok (.tuple #[.agg #[.int .i64 s.first, .int .i64 s.well, .int .i64 s.last], .bool true]) ((w.alloc (.cells #[.int .i64 ki, .bool ku, .int .i64 kt] 36)).alloc (.cells #[.int .i64 0, .int .i64 0, .int .i64 0] 63)) := HM.out.look_some Tryz.underlying54 hmv
    clear hmv
    go_enter Tryz.func41, Tryz.ntmps41
    go_wp2_with fail
    refine bodyPost_ret (results_cell53 (s := s) rfl _ _ (w.heap.size + 1) rfl ?_) rfl ⟨?_, bl3 _ _ _ _⟩
    · have h1 := row_later (heap_alloc_new (w.alloc (.cells #[.int .i64 ki, .bool ku, .int .i64 kt] 36)) (.cells #[.int .i64 s.first, .int .i64 s.well, .int .i64 s.last] 63)) (bl1 _ (.cells #[.int .i64 s.first, .int .i64 s.well, .int .i64 s.last] 63))
      rw [World.size_alloc] at h1
      exact h1
    · rw [HMV.out]; rfl

theorem results_cell53' {fn : Func} (h : fn.results = #[.cell 4 63]) (tmps : Array Value) (w : World) (b : Nat) {s : Sp} (hp : tmps.getD 4 undef = .pointer (some ⟨b, 0, none⟩)) (hb : w.heap[b]? = some (.cells #[.int .i64 s.first, .int .i64 s.well, .int .i64 s.last] 63 (0, 0))) :
    (results fn tmps).run Tryz.prog w = .ok (.agg #[.int .i64 s.first, .int .i64 s.well, .int .i64 s.last]) w := results_cell53 h tmps w b hp hb

set_option maxHeartbeats 4000000 in
theorem undoing_any {w : World} {b n : Nat} {f : Kx → Option Sp} (h : KM SV w b n f) {i : Int} (hk : (Lit.int .i64 i).wf = true) :
    Calls Tryz.prog 24 #[.map (some b), .int .i64 i] w fun e w' => e = .returned (SV (spD (f (i, true, 0)))) ∧ Below w.heap.size w w' := by
  have HC : Hid (Calls Tryz.prog 41 #[.map (some b), .agg #[.int .i64 i, .bool true, .int .i64 0]] (w.alloc (.cells #[.int .i64 0, .int .i64 0, .int .i64 0] 63)) fun e w' => e = .returned (SV (spD (f (i, true, 0)))) ∧ Below (w.alloc (.cells #[.int .i64 0, .int .i64 0, .int .i64 0] 63)).heap.size (w.alloc (.cells #[.int .i64 0, .int .i64 0, .int .i64 0] 63)) w') := of_any (h.later (bl1 _ _)) (k := (i, true, 0)) ⟨hk, show (Lit.int .i64 0).wf = true by decide⟩
  obtain ⟨s, hs⟩ : ∃ s, spD (f (i, true, 0)) = s := ⟨_, rfl⟩
  rw [hs] at HC ⊢
  unfold SV at *
  clear h hs
  go_enter Tryz.func24, Tryz.ntmps24
  go_wp2_with fail
  refine Calls.mono HC.out ?_
  rintro e w2 ⟨rfl, hb2⟩
  have hrow : w2.heap[w.heap.size]? = some (.cells #[.int .i64 0, .int .i64 0, .int .i64 0] 63 (0, 0)) := row_later (heap_alloc_new w _) hb2
  have HR : Hid _ := hrow
  have HB : Hid (Below w.heap.size w w2) := (bl1 w _).trans (hb2.mono (by simp))
  have c0 := (cell_row hrow 0).trans rfl
  have c1 := (cell_row hrow 1).trans rfl
  have c2 := (cell_row hrow 2).trans rfl
  have f0 := froz_row hrow
  clear HC hb2 hrow
  go_wp2_with fail
  refine bodyPost_ret (results_cell53 (s := s) rfl _ _ w.heap.size rfl ?_) rfl ⟨rfl, ?_⟩
  · have h1 := row_set (row_set (row_set HR.out 0 (.int .i64 s.first)) 1 (.int .i64 s.well)) 2 (.int .i64 s.last)
    exact h1
  · have hb := HB.out
    exact ⟨hb.os, hb.tape, hb.output, by have := hb.size; simpa using this, fun k hk => by
      rw [set_same _ _ _ _ _ (by omega), set_same _ _ _ _ _ (by omega), set_same _ _ _ _ _ (by omega)]
      exact hb.block k hk⟩
end Go.Proofs.YtlegmmhacnbnlaaGreatDoor.J.Tz

/- The library's sort of ints at this program: its contract, proved once, laid at these numbers; at no slice. -/
namespace Go.Proofs.YtlegmmhacnbnlaaGreatDoor.J
open Go.Shelf Go.RowKit
def Tryz.lays125_ren : Go.Shelf.Ren := ⟨fun | 125 => 43 | 128 => 62 | 129 => 63 | n => n, fun | 46 => 30 | 3 => 3 | 51 => 119 | 53 => 102 | 4 => 4 | 5 => 5 | 9 => 9 | n => n, fun | n => n⟩
theorem Tryz.lays125 : Go.Proofs.Lays.n125 Tryz.prog Tryz.lays125_ren := {
  mixed := by kernel_rfl
  f125 := Tryz.func43.trans (congrArg some (by kernel_rfl))
  f128 := Tryz.func62.trans (congrArg some (by kernel_rfl))
  f129 := Tryz.func63.trans (congrArg some (by kernel_rfl))
  t3 := Tryz.underlying3
  a3 := Tryz.isAgg3
  z3 := Tryz.sizeOf3
  v3 := Tryz.zeroValue3
  t4 := Tryz.underlying4
  a4 := Tryz.isAgg4
  z4 := Tryz.sizeOf4
  v4 := Tryz.zeroValue4
  t5 := Tryz.underlying5
  a5 := Tryz.isAgg5
  z5 := Tryz.sizeOf5
  v5 := Tryz.zeroValue5
  t9 := Tryz.underlying9
  a9 := Tryz.isAgg9
  z9 := Tryz.sizeOf9
  v9 := Tryz.zeroValue9
  t46 := Tryz.underlying30
  a46 := Tryz.isAgg30
  z46 := Tryz.sizeOf30
  v46 := Tryz.zeroValue30
  t51 := Tryz.underlying119
  a51 := Tryz.isAgg119
  z51 := Tryz.sizeOf119
  v51 := Tryz.zeroValue119
  t53 := Tryz.underlying102
  a53 := Tryz.isAgg102
  z53 := Tryz.sizeOf102
  v53 := Tryz.zeroValue102 }
theorem Tryz.bits_Len (x : Int) (w : World) (h0 : 0 ≤ x) (h1 : x ≤ 18446744073709551615) :
    Calls Tryz.prog 43 #[.int .u64 x] w fun e w' => e = .returned (.int .i64 (Lib.bitLen x.toNat)) ∧ w' = w := Any.bits_Len Tryz.lays125 x w h0 h1
def Tryz.lays189_ren : Go.Shelf.Ren := ⟨fun | 189 => 25 | 125 => 43 | 257 => 42 | 128 => 62 | 129 => 63 | 294 => 53 | 295 => 54 | 296 => 55 | 297 => 56 | 298 => 57 | 299 => 58 | 216 => 59 | 300 => 60 | 301 => 61 | 328 => 72 | 329 => 73 | 330 => 74 | 331 => 75 | 332 => 76 | 215 => 77 | 343 => 86 | n => n, fun | 28 => 32 | 3 => 3 | 46 => 30 | 0 => 0 | 51 => 119 | 53 => 102 | 4 => 4 | 183 => 113 | 182 => 112 | 131 => 88 | 5 => 5 | 9 => 9 | 218 => 125 | 222 => 129 | 228 => 140 | 229 => 141 | n => n, fun | n => n⟩
theorem Tryz.lays189 : Go.Proofs.Lays.n189 Tryz.prog Tryz.lays189_ren := {
  mixed := by kernel_rfl
  f125 := Tryz.func43.trans (congrArg some (by kernel_rfl))
  f128 := Tryz.func62.trans (congrArg some (by kernel_rfl))
  f129 := Tryz.func63.trans (congrArg some (by kernel_rfl))
  f189 := Tryz.func25.trans (congrArg some (by kernel_rfl))
  f215 := Tryz.func77.trans (congrArg some (by kernel_rfl))
  f216 := Tryz.func59.trans (congrArg some (by kernel_rfl))
  f257 := Tryz.func42.trans (congrArg some (by kernel_rfl))
  f294 := Tryz.func53.trans (congrArg some (by kernel_rfl))
  f295 := Tryz.func54.trans (congrArg some (by kernel_rfl))
  f296 := Tryz.func55.trans (congrArg some (by kernel_rfl))
  f297 := Tryz.func56.trans (congrArg some (by kernel_rfl))
  f298 := Tryz.func57.trans (congrArg some (by kernel_rfl))
  f299 := Tryz.func58.trans (congrArg some (by kernel_rfl))
  f300 := Tryz.func60.trans (congrArg some (by kernel_rfl))
  f301 := Tryz.func61.trans (congrArg some (by kernel_rfl))
  f328 := Tryz.func72.trans (congrArg some (by kernel_rfl))
  f329 := Tryz.func73.trans (congrArg some (by kernel_rfl))
  f330 := Tryz.func74.trans (congrArg some (by kernel_rfl))
  f331 := Tryz.func75.trans (congrArg some (by kernel_rfl))
  f332 := Tryz.func76.trans (congrArg some (by kernel_rfl))
  f343 := Tryz.func86.trans (congrArg some (by kernel_rfl))
  t0 := Tryz.underlying0
  a0 := Tryz.isAgg0
  z0 := Tryz.sizeOf0
  v0 := Tryz.zeroValue0
  t3 := Tryz.underlying3
  a3 := Tryz.isAgg3
  z3 := Tryz.sizeOf3
  v3 := Tryz.zeroValue3
  t4 := Tryz.underlying4
  a4 := Tryz.isAgg4
  z4 := Tryz.sizeOf4
  v4 := Tryz.zeroValue4
  t5 := Tryz.underlying5
  a5 := Tryz.isAgg5
  z5 := Tryz.sizeOf5
  v5 := Tryz.zeroValue5
  t9 := Tryz.underlying9
  a9 := Tryz.isAgg9
  z9 := Tryz.sizeOf9
  v9 := Tryz.zeroValue9
  t28 := Tryz.underlying32
  a28 := Tryz.isAgg32
  z28 := Tryz.sizeOf32
  v28 := Tryz.zeroValue32
  t46 := Tryz.underlying30
  a46 := Tryz.isAgg30
  z46 := Tryz.sizeOf30
  v46 := Tryz.zeroValue30
  t51 := Tryz.underlying119
  a51 := Tryz.isAgg119
  z51 := Tryz.sizeOf119
  v51 := Tryz.zeroValue119
  t53 := Tryz.underlying102
  a53 := Tryz.isAgg102
  z53 := Tryz.sizeOf102
  v53 := Tryz.zeroValue102
  t131 := Tryz.underlying88
  a131 := Tryz.isAgg88
  z131 := Tryz.sizeOf88
  v131 := Tryz.zeroValue88
  t182 := Tryz.underlying112
  a182 := Tryz.isAgg112
  z182 := Tryz.sizeOf112
  v182 := Tryz.zeroValue112
  t183 := Tryz.underlying113
  a183 := Tryz.isAgg113
  z183 := Tryz.sizeOf113
  v183 := Tryz.zeroValue113
  t218 := Tryz.underlying125
  a218 := Tryz.isAgg125
  z218 := Tryz.sizeOf125
  v218 := Tryz.zeroValue125
  t222 := Tryz.underlying129
  a222 := Tryz.isAgg129
  z222 := Tryz.sizeOf129
  v222 := Tryz.zeroValue129
  t228 := Tryz.underlying140
  a228 := Tryz.isAgg140
  z228 := Tryz.sizeOf140
  v228 := Tryz.zeroValue140
  t229 := Tryz.underlying141
  a229 := Tryz.isAgg141
  z229 := Tryz.sizeOf141
  v229 := Tryz.zeroValue141 }
open Go.Sort Go.RowKit in
theorem Tryz.slices_Sort_int (blk off cap : Nat) (zs : List Int) (w : World) (hH : Holds (Value.int .i64) w blk off zs.toArray) (hblk : blk < w.heap.size) (hsz : zs.length < 4611686018427387904) :
    Calls Tryz.prog 25 #[.slice (some ⟨blk, off, none⟩) zs.length cap] w fun e w' =>
      e = .returned (.tuple #[]) ∧ ∃ n os, w' = grow (putRow (Value.int .i64) (Sort.ahead w n) blk off (zs.mergeSort fun x y => decide (x ≤ y)).toArray) os := Any.slices_Sort_int Tryz.lays189 blk off cap zs w hH hblk hsz

theorem bodyEnd {P : Program} {fn : Func} (h : fn.results = #[]) (tmps : Array Value) (w : World) : (results fn tmps).run P w = .ok (.tuple #[]) w := by
  simp [results, h, go_sem]

set_option maxRecDepth 1000000 in
set_option maxHeartbeats 4000000 in
theorem sort_none35 (w : World) : Calls Tryz.prog 53 #[.slice none 0 0, .int .i64 0, .int .i64 0] w fun e w' => e = .returned (.tuple #[]) ∧ w' = w := by
  go_enter Tryz.func53, Tryz.ntmps53
  go_wp2_with fail
  go_loopw [6] (fun s wr => s = .int .i64 1 ∧ wr = w) (fun _ _ => 0)
  case atStart => exact ⟨rfl, rfl⟩
  obtain ⟨rfl, rfl⟩ := hrel
  go_wp2_with fail
  refine bodyPost_end (bodyEnd rfl _ _) rfl ?_
  exact ⟨rfl, rfl⟩
set_option maxRecDepth 1000000 in
set_option maxHeartbeats 4000000 in
theorem sort_none32 (L : Int) (w : World) : Calls Tryz.prog 42 #[.slice none 0 0, .int .i64 0, .int .i64 0, .int .i64 L] w fun e w' => e = .returned (.tuple #[]) ∧ w' = w := by
  have HC : Hid _ := sort_none35 w
  go_enter Tryz.func42, Tryz.ntmps42
  go_wp2_with fail
  go_loopw [1, 2] (fun s1 s2 wr => s1 = .int .i64 0 ∧ s2 = .int .i64 0 ∧ wr = w) (fun _ _ _ => 0)
  case atStart => exact ⟨rfl, rfl, rfl⟩
  obtain ⟨rfl, rfl, rfl⟩ := hrel
  go_wp2_with fail
  refine Calls.mono HC.out ?_
  rintro e w2 ⟨rfl, rfl⟩
  go_wp2_with fail
  refine bodyPost_ret (bodyEnd rfl _ _) rfl ?_
  exact ⟨rfl, rfl⟩
set_option maxRecDepth 1000000 in
set_option maxHeartbeats 4000000 in
theorem sort_none (w : World) : Calls Tryz.prog 25 #[.slice none 0 0] w fun e w' => e = .returned (.tuple #[]) ∧ w' = w := by
  have HC : Hid _ := fun L => sort_none32 L w
  have HL : Hid _ := Tryz.bits_Len 0 w (by omega) (by omega)
  go_enter Tryz.func25, Tryz.ntmps25
  go_wp2_with fail
  refine Calls.mono HL.out ?_
  rintro e w2 ⟨rfl, rfl⟩
  go_wp2_with fail
  refine Calls.mono (HC.out _) ?_
  rintro e w3 ⟨rfl, rfl⟩
  go_wp2_with fail
  refine bodyPost_end (bodyEnd rfl _ _) rfl ?_
  exact ⟨rfl, rfl⟩

/-- Sorted, in its own row. -/
theorem sort_any {w : World} {base n cap g : Nat} {l : List Int} (h : w.ownsRow base 3 1 (.slice (some ⟨g, 0, none⟩) n cap) n (ivs l)) (hn : n = l.length) (hl : l.length ≤ 1000000) :
    Calls Tryz.prog 25 #[.slice (some ⟨g, 0, none⟩) n cap] w fun e w' => e = .returned (.tuple #[]) ∧ w'.ownsRow base 3 1 (.slice (some ⟨g, 0, none⟩) n cap) n (ivs (l.mergeSort fun x y => decide (x ≤ y))) ∧ w.grownBy w' (some g) := by
  subst hn
  rcases h.2 with ⟨h0, _⟩ | ⟨g', cap', cur, hv, hg, hb, hn, hcap, hsz, ht⟩
  · cases h0
  cases hv
  rw [Nat.mul_one] at ht
  have hH : Go.Sort.Holds (Value.int .i64) w g 0 l.toArray := Go.holds_of_blockI hb (by rw [ht]; rfl)
  refine (Tryz.slices_Sort_int g 0 cap l w hH (Array.getElem?_eq_some_iff.1 hb).1 (by omega)).mono ?_
  rintro e w' ⟨rfl, q, os, rfl⟩
  exact ⟨rfl, Go.ownsRow_sortedI (by simp) hg hb hn hcap hsz, Go.grownBy_sortedI _⟩
end Go.Proofs.YtlegmmhacnbnlaaGreatDoor.J

/- Left. -/
namespace Go.Proofs.YtlegmmhacnbnlaaGreatDoor.J.Tz
open Go.RowKit Go.Shelf Go.Proofs.YtlegmmhacnbnlaaGreatDoor.J
set_option maxRecDepth 1000000
set_option linter.unusedVariables false

theorem KM.range' {α : Type} {ev : α → Value} {w : World} {b n : Nat} {f : Kx → Option α} {t e : TypeId} (h : KM ev w b n f) (ht : Tryz.prog.underlying t = some (.map 36 e)) : ∃ w2, (Instr.range t (.map (some b))).run Tryz.prog w = .ok (.pointer (some ⟨w.heap.size, 0, none⟩)) w2 ∧ KR ev w2 b w.heap.size n f (fun _ => False) ∧ Below w.heap.size w w2 ∧ w2.heap.size = w.heap.size + 1 := by
  obtain ⟨h1, h2⟩ := h.range ht
  exact ⟨_, h1, h2, bl1 _ _, by simp⟩

/-- A row of ints and a map, or what goes through it, are two blocks. -/
theorem row_ne_block {w : World} {base : Nat} {v : Value} {n b : Nat} {xs : List Value} (h : w.ownsRow base 3 1 v n xs) {o : Obj} (hb : w.heap[b]? = some o) (hn : o.isCells = false) : some b ≠ v.ownBlock := by
  rcases h.2 with ⟨rfl, _⟩ | ⟨g, cap, cur, rfl, _, hg, _⟩
  · simp [Value.ownBlock]
  · intro e1
    have : b = g := by simpa [Value.ownBlock] using e1
    subst this
    rw [hb] at hg
    cases hg
    cases hn
theorem KR.grown {α : Type} {ev : α → Value} {w w' : World} {b r n m base : Nat} {f : Kx → Option α} {D : Kx → Prop} (h : KR ev w b r n f D) {v : Value} {xs : List Value} (hrow : w.ownsRow base 3 1 v m xs) (hg : w.grownBy w' v.ownBlock) : KR ev w' b r n f D ∧ w'.rangeLeft b r = w.rangeLeft b r := by
  obtain ⟨es, clock, since, seen, c0, h1, h2, h3, h4, h5, h6, h7⟩ := id h
  have e1 := hg.block b h.km.lt (row_ne_block hrow h1 rfl)
  have e2 := hg.block r h.lt (row_ne_block hrow h6 rfl)
  exact ⟨h.of_block e1 e2, left_block e1 e2⟩

theorem append_int9 {w : World} {ops : Array Oper} {rest : List Oper} {o : Oper} {a : Act} {Q : Exit → Act → World → Prop} (hgd : o.guard = none) (s x : Operand)
    (ho : o.op = .call { callee := .builtin .append, args := #[s, x], argTypes := #[32, 32] }) (base : Nat) (v : Value) (n : Nat) (l : List Int)
    (hs : a.eval s = v) (hown : w.ownsRow base 3 1 v n (ivs l)) (ad : Addr) (z : Int) (hx : a.eval x = .slice (some ad) 1 1) (hc : w.cell? ad = some (.int .i64 z))
    (hn : n ≤ 1000000) (hbase : base ≤ w.heap.size)
    (h : ∀ v' w', w'.ownsRow base 3 1 v' (n + 1) (ivs (l ++ [z])) → w.grownBy w' v.ownBlock → wpList Tryz.prog ops Q rest (a.put o.dst v') w') : wpList Tryz.prog ops Q (o :: rest) a w := by
  obtain ⟨i0, hi, hz0, hz1, hz2⟩ := info_parts Tryz.info3
  have hsp : ad.add 0 = ad := by cases ad; rfl
  refine wpList_append_own _ hgd s x 32 ho base 3 i0 (.int .i64 0) 1 8 Tryz.underlying32 hi hz0 hz1 hz2 rfl (by decide) v n (ivs l) hs hown ad 1 1 (ivs [z]) hx rfl ?_ ?_ (by unfold maxLen; omega) (by omega) hbase ?_
  · intro j u hj
    match j, hj with
    | 0, hj =>
      simp [ivs] at hj
      subst hj
      rw [hsp]
      exact hc
    | j + 1, hj => simp [ivs] at hj
  · intro u hu
    simp [ivs] at hu
    subst hu
    rfl
  · intro v' w' h1 h2 h3
    refine h v' w' ?_ h2
    have e : ivs (l ++ [z]) = ivs l ++ ivs [z] := by simp [ivs]
    rw [e]
    exact h1

/-- Between two entries. -/
structure LeS (w : World) (l : List Ef) (n b r : Nat) (D : Kx → Prop) (out : List Int) (v : Value) (wr : World) : Prop where
  kr : KR SV wr b r n (dd l 0) D
  row : wr.ownsRow w.heap.size 3 1 v out.length (ivs out)
  lf : LfI l D out
  bel : Below w.heap.size w wr
  rl : w.heap.size ≤ r
theorem LeS.later {w : World} {l : List Ef} {n b r : Nat} {D : Kx → Prop} {out : List Int} {v : Value} {wr wr' : World} (h : LeS w l n b r D out v wr) (hb : Below wr.heap.size wr wr') : LeS w l n b r D out v wr' ∧ wr'.rangeLeft b r = wr.rangeLeft b r :=
  ⟨⟨h.kr.later hb, owns_later h.row hb, h.lf, h.bel.trans (hb.mono h.bel.size), h.rl⟩, left_block (hb.block _ h.kr.km.lt) (hb.block _ h.kr.lt)⟩

set_option maxHeartbeats 16000000 in
theorem left_any (l : List Ef) (v : Value) (hl : l.length ≤ 1000000) (w : World) (hv : RE w v l) :
    Calls Tryz.prog 13 #[v] w fun e w' => ∃ rv out, e = .returned rv ∧ RI w' rv out ∧ out.Pairwise (· < ·) ∧ (∀ x, x ∈ out ↔ leftP l x) ∧ Below w.heap.size w w' := by
  obtain ⟨a, c, hvs, hlc⟩ := hv.slice
  subst hvs
  have HC : Hid _ := deeds_any l _ hl w hv
  obtain ⟨n, hn⟩ : ∃ n, l.length = n := ⟨_, rfl⟩
  have HN : Hid (l.length = n) := hn
  have HLN : Hid (l.length ≤ 1000000) := hl
  rw [hn] at HC ⊢
  clear hv hn hl hlc
  go_enter Tryz.func13, Tryz.ntmps13
  go_wp2_with fail
  refine Calls.mono HC.out ?_
  rintro e w1 ⟨rfl, hkm, hb1⟩
  obtain ⟨w2, hrg, hkr, hb2, hs2⟩ := hkm.range' Tryz.underlying54
  obtain ⟨r, hr⟩ : ∃ r, w1.heap.size = r := ⟨_, rfl⟩
  rw [hr] at hrg hkr
  have H0 : Hid (LeS w l n w.heap.size r (fun _ => False) [] (.slice none 0 0) w2) := ⟨hkr, ⟨rfl, .inl ⟨rfl, rfl⟩⟩, lf_start l, hb1.trans (hb2.mono hb1.size), by rw [← hr]; exact hb1.size⟩
  clear HC hkm hb1 hb2 hs2 hkr
  go_wp2_with fail
  clear hrg hr
  go_loopw [3] (fun v wr => ∃ D out vv, v = vv ∧ Hid (LeS w l n w.heap.size r D out vv wr)) (fun _ wr => wr.rangeLeft w.heap.size r)
  case atStart => exact ⟨_, _, _, rfl, H0⟩
  case round =>
    rename World => wr
    obtain ⟨D, out, v, hv, HS⟩ := hrel
    replace hv := hv.symm
    subst hv
    clear H0
    rcases HS.out.kr.next 0 with ⟨hall, hnx⟩ | ⟨k, s, w3, hf, hwf, hnd, hnx, hkr3, hlt, hgr, hsz, hent⟩
    · -- all have come
      obtain ⟨hso, hmem⟩ := HS.out.lf.sorted HLN.out hall
      have HSO : Hid _ := hso
      have HMM : Hid _ := hmem
      have hlen : out.length ≤ 1000000 := Nat.le_trans HS.out.lf.len HLN.out
      rcases id HS.out.row.2 with ⟨h0, hn0⟩ | ⟨g, cap, cur, h0, _⟩
      · subst h0
        have HST : Hid _ := sort_none wr
        have ho : out = [] := List.eq_nil_of_length_eq_zero hn0
        clear hso hmem
        go_wp2_with fail
        refine Calls.mono HST.out ?_
        rintro e w4 ⟨rfl, rfl⟩
        clear HST
        go_wp2_with fail
        go_ret
        exact ⟨.slice none 0 0, _, rfl, (show RI w4 (.slice none 0 0) (out.mergeSort fun x y => decide (x ≤ y)) by rw [ho, List.mergeSort_nil]; exact RI.nil _), HSO.out, HMM.out, HS.out.bel⟩
      · subst h0
        have HST : Hid _ := sort_any HS.out.row rfl hlen
        obtain ⟨m, hm⟩ : ∃ m, out.length = m := ⟨_, rfl⟩
        rw [hm] at HST ⊢
        have HGB : Hid (w.heap.size ≤ g) := (HS.out.row.lt g rfl).1
        clear hso hmem
        go_wp2_with fail
        refine Calls.mono HST.out ?_
        rintro e w4 ⟨rfl, hr4, hg4⟩
        have HR4 : Hid _ := hr4
        have HB4 : Hid (Below w.heap.size w w4) := HS.out.bel.grown hg4 HS.out.bel.size (fun k hk => by cases hk; exact HGB.out)
        clear HST hr4 hg4
        go_wp2_with fail
        go_ret
        exact ⟨_, _, rfl, RI.of_owns HR4.out (by rw [List.length_mergeSort]; exact hm.symm), HSO.out, HMM.out, HB4.out⟩
    · -- one entry
      have hk0 : k.2.2 = 0 := dd_try hf
      have hrow3 : w3.ownsRow w.heap.size 3 1 v out.length (ivs out) := by
        obtain ⟨_, _, _, _, _, _, _, _, _, _, h6, _⟩ := HS.out.kr
        refine HS.out.row.kept hgr (.inr (fun e => row_ne_block HS.out.row h6 rfl e.symm))
      have hbel3 : Below w.heap.size w w3 := HS.out.bel.grown hgr HS.out.bel.size (fun q hq => by cases hq; exact HS.out.rl)
      have HW3 : Hid (KR SV w3 w.heap.size r n (dd l 0) (fun x => D x ∨ x = k) ∧ w3.ownsRow w.heap.size 3 1 v out.length (ivs out) ∧ Below w.heap.size w w3) := ⟨hkr3, hrow3, hbel3⟩
      have HLT : Hid (w3.rangeLeft w.heap.size r < wr.rangeLeft w.heap.size r) := hlt
      have HND : Hid (¬ D k ∧ dd l 0 k = some s ∧ k.2.2 = 0) := ⟨hnd, hf, hk0⟩
      have HUN : Hid (Calls Tryz.prog 24 #[.map (some w.heap.size), .int .i64 k.1] ((w3.alloc (.cells #[.int .i64 k.1, .bool k.2.1, .int .i64 k.2.2] 36)).alloc (.cells #[.int .i64 s.first, .int .i64 s.well, .int .i64 s.last] 63)) fun e w' => e = .returned (SV (spD (dd l 0 (k.1, true, 0)))) ∧ Below ((w3.alloc (.cells #[.int .i64 k.1, .bool k.2.1, .int .i64 k.2.2] 36)).alloc (.cells #[.int .i64 s.first, .int .i64 s.well, .int .i64 s.last] 63)).heap.size ((w3.alloc (.cells #[.int .i64 k.1, .bool k.2.1, .int .i64 k.2.2] 36)).alloc (.cells #[.int .i64 s.first, .int .i64 s.well, .int .i64 s.last] 63)) w') := undoing_any ((hkr3.km).later (bl2 _ _ _)) hwf.1
      have HLS : Hid (∀ (D2 : Kx → Prop) (w9 : World), LfI l D2 out → D2 = (fun x => D x ∨ x = k) → Below w3.heap.size w3 w9 → LeS w l n w.heap.size r D2 out v w9 ∧ w9.rangeLeft w.heap.size r < wr.rangeLeft w.heap.size r) := fun D2 w9 h1 h2 h3 => by
        subst h2
        refine ⟨⟨hkr3.later h3, owns_later hrow3 h3, h1, hbel3.trans (h3.mono hbel3.size), HS.out.rl⟩, ?_⟩
        rw [left_block (h3.block _ hkr3.km.lt) (h3.block _ hkr3.lt)]
        exact hlt
      unfold KV SV at hnx hent
      obtain ⟨ki, ku, kt⟩ := k
      dsimp only at *
      clear hkr3 hrow3 hbel3 hlt hgr hsz hnd hf hwf
      have c0 : ((w3.alloc (.cells #[.int .i64 ki, .bool ku, .int .i64 kt] 36)).alloc (.cells #[.int .i64 s.first, .int .i64 s.well, .int .i64 s.last] 63)).cell? ⟨w3.heap.size, 0, none⟩ = some (.int .i64 ki) := (cell_row (row_later (heap_alloc_new w3 _) (bl1 _ _)) 0).trans rfl
      have c1 : ((w3.alloc (.cells #[.int .i64 ki, .bool ku, .int .i64 kt] 36)).alloc (.cells #[.int .i64 s.first, .int .i64 s.well, .int .i64 s.last] 63)).cell? ⟨w3.heap.size, 1, none⟩ = some (.bool ku) := (cell_row (row_later (heap_alloc_new w3 _) (bl1 _ _)) 1).trans rfl
      cases ku with
      | true =>
        have HF : Hid (LfI l (fun x => D x ∨ x = (ki, true, kt)) out) := HS.out.lf.skip (.inl rfl)
        obtain ⟨g1, g2⟩ := HLS.out _ ((w3.alloc (.cells #[.int .i64 ki, .bool true, .int .i64 kt] 36)).alloc (.cells #[.int .i64 s.first, .int .i64 s.well, .int .i64 s.last] 63)) HF.out rfl (bl2 _ _ _)
        have G1 : Hid _ := g1
        have G2 : Hid _ := g2
        clear g1 g2 hk0
        go_wp2_with fail
        go_roundw
        case rel => exact ⟨_, _, _, rfl, G1⟩
        case measure => exact G2.out
      | false =>
        have hkt : kt = 0 := hk0
        subst hkt
        obtain ⟨sf, sw, sl⟩ := s
        dsimp only at *
        have HSW : Hid ((spD (dd l 0 (ki, false, 0))).well = sw) := by show _ = _; rw [HND.out.2.1]; rfl
        by_cases hw : sw = 9223372036854775807
        · have HF : Hid (LfI l (fun x => D x ∨ x = (ki, false, 0)) out) := HS.out.lf.skip (.inr fun hp => ((left_deeds HLN.out ki).1 hp).1 (by rw [HSW.out]; exact hw))
          obtain ⟨g1, g2⟩ := HLS.out _ ((w3.alloc (.cells #[.int .i64 ki, .bool false, .int .i64 0] 36)).alloc (.cells #[.int .i64 sf, .int .i64 sw, .int .i64 sl] 63)) HF.out rfl (bl2 _ _ _)
          have G1 : Hid _ := g1
          have G2 : Hid _ := g2
          clear g1 g2 hk0
          subst hw
          go_wp2_with fail
          go_roundw
          case rel => exact ⟨_, _, _, rfl, G1⟩
          case measure => exact G2.out
        · obtain ⟨u, hu⟩ : ∃ u, spD (dd l 0 (ki, true, 0)) = u := ⟨_, rfl⟩
          have HU : Hid (spD (dd l 0 (ki, true, 0)) = u) := hu
          rw [hu] at HUN
          unfold SV at HUN
          obtain ⟨uf, uw, ul⟩ := u
          dsimp only at *
          clear hk0 hu
          have hfld : ∀ wx, (Instr.field 63 (.agg #[.int .i64 uf, .int .i64 uw, .int .i64 ul]) 1).run Tryz.prog wx = .ok (.int .i64 uw) wx := fun wx => by kernel_rfl
          have hwb : (sw != 9223372036854775807) = true := by simpa using hw
          by_cases huw : uw = 9223372036854775807
          · subst huw
            have HP : Hid (leftP l ki) := (left_deeds HLN.out ki).2 ⟨by rw [HSW.out]; exact hw, by rw [HU.out]; rfl⟩
            have HF : Hid (LfI l (fun x => D x ∨ x = (ki, false, 0)) (out ++ [ki])) := HS.out.lf.add HND.out.1 rfl rfl HP.out
            go_wp2_with fail
            refine Calls.mono HUN.out ?_
            rintro e w6 ⟨rfl, hb6⟩
            have hb36 : Below w3.heap.size w3 w6 := (bl2 w3 _ _).trans (hb6.mono (by simp; omega))
            have HB36 : Hid _ := hb36
            have d0 : w6.cell? ⟨w3.heap.size, 0, none⟩ = some (.int .i64 ki) := cell_later hb6 c0
            have hown : (w6.alloc (.cells #[.int .i64 ki] 3)).ownsRow w.heap.size 3 1 v out.length (ivs out) := owns_later (owns_later HW3.out.2.1 hb36) (bl1 _ _)
            have hlen : out.length ≤ 1000000 := Nat.le_trans HS.out.lf.len HLN.out
            have hle : w.heap.size ≤ (w6.alloc (.cells #[.int .i64 ki] 3)).heap.size := by have := HW3.out.2.2.size; have := hb36.size; simp; omega
            clear hb6 hb36 c0 c1 HUN
            go_wp2_with (first | (at_builtin; refine append_int9 rfl _ _ rfl w.heap.size v out.length out rfl hown ⟨w6.heap.size, 0, none⟩ ki rfl (cell_new w6 ki) hlen hle ?_; intro v7 w7 hr7 hg7))
            have hb8 : Below w3.heap.size w3 (w6.alloc (.cells #[.int .i64 ki] 3)) := HB36.out.trans ((bl1 w6 _).mono HB36.out.size)
            have hkr8 : KR SV (w6.alloc (.cells #[.int .i64 ki] 3)) w.heap.size r n (dd l 0) (fun x => D x ∨ x = (ki, false, 0)) := HW3.out.1.later hb8
            obtain ⟨hk7, hl7⟩ := hkr8.grown hown hg7
            refine ⟨⟨_, out ++ [ki], v7, rfl, ⟨hk7, ?_, HF.out, ?_, HS.out.rl⟩⟩, ?_⟩
            · rw [List.length_append]
              exact hr7
            · exact (HW3.out.2.2.trans (hb8.mono HW3.out.2.2.size)).grown hg7 hle (fun q hq => (hown.lt q hq).1)
            · rw [hl7, left_block (hb8.block _ HW3.out.1.km.lt) (hb8.block _ HW3.out.1.lt)]
              exact HLT.out
          · have HF : Hid (LfI l (fun x => D x ∨ x = (ki, false, 0)) out) := HS.out.lf.skip (.inr fun hp => huw (by have := ((left_deeds HLN.out ki).1 hp).2; rw [HU.out] at this; exact this))
            have hub : (uw == 9223372036854775807) = false := by simpa using huw
            go_wp2_with fail
            refine Calls.mono HUN.out ?_
            rintro e w6 ⟨rfl, hb6⟩
            obtain ⟨g1, g2⟩ := HLS.out _ w6 HF.out rfl ((bl2 w3 _ _).trans (hb6.mono (by simp; omega)))
            have G1 : Hid _ := g1
            have G2 : Hid _ := g2
            clear g1 g2 hb6 c0 c1 HUN
            go_wp2_with fail
            go_roundw
            case rel => exact ⟨_, _, _, rfl, G1⟩
            case measure => exact G2.out
end Go.Proofs.YtlegmmhacnbnlaaGreatDoor.J.Tz

