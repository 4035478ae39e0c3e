/- Texts of the seat, packed: DQf. -/
import Derived.Test.YtlegmmhacnbnlaaGreatDoorP10
import Derived.Deep.CutRange
import Derived.Deep.RegionHeld
/- The program's weave, walked: the arcs. -/
namespace Go.Proofs.YtlegmmhacnbnlaaGreatDoor.Dg

open Go.RowKit

/-- The web is being woven. -/
structure WvS (w wc : World) (m : Nat) (W : List Nat) : Prop where
  box : Box3 w wc (.slice (some ⟨w.heap.size + 1 + 1 + 1, 0, none⟩) m m) (.slice none 0 0) (.int .i64 0)
  web : wc.heap[w.heap.size + 1 + 1 + 1]? = some (.cells (uvs W).toArray 103 (0, 0))
  len : W.length = m
  lt : ∀ x ∈ W, x < 18446744073709551616

/-- No way out but the ordinary one. -/
def OnlyN (Q : Exit → Act → World → Prop) : Exit → Act → World → Prop := fun e a w => match e with
  | .normal => Q .normal a w
  | _ => False

theorem wp_onlyN {P : Program} {c : Code} {Q : Exit → Act → World → Prop} {a : Act} {w : World} (h : c.wp P (OnlyN Q) a w) : c.wp P Q a w :=
  wp_mono h (fun e a w hq => by cases e <;> first | exact hq | exact hq.elim)

set_option maxRecDepth 1000000 in
/-- A circle: what was panicked with is told. -/
theorem pan_end {a : Act} {w wc : World} {R : Ending → World → Prop} {c4 c5 c6 : Value} (h : Box3 w wc c4 c5 c6) (h4 : a.tmps.getD 4 undef = .pointer (some ⟨w.heap.size, 0, none⟩)) (h5 : a.tmps.getD 5 undef = .pointer (some ⟨w.heap.size + 1, 0, none⟩)) (h6 : a.tmps.getD 6 undef = .pointer (some ⟨w.heap.size + 1 + 1, 0, none⟩))
    (hd : a.defers = [{ target := Target.fn (Fn.func 69) #[.pointer (some ⟨w.heap.size, 0, none⟩), .pointer (some ⟨w.heap.size + 1, 0, none⟩), .pointer (some ⟨w.heap.size + 1 + 1, 0, none⟩)], args := #[] }])
    (hR : R (.returned (.tuple #[.slice none 0 0, .slice none 0 0, .int .i64 13])) (put3 wc w.heap.size (.slice none 0 0) (.slice none 0 0) (.int .i64 13)).drew) : bodyPostD Tryz.prog Tryz.f45 R (Exit.panic [{ v := .iface 28 (.int .i64 13), recovered := false }]) a wc := by
  have hB := h.put (.slice none 0 0) (.slice none 0 0) (.int .i64 13)
  have q4 : ((put3 wc w.heap.size (.slice none 0 0) (.slice none 0 0) (.int .i64 13)).drew).cell? ⟨w.heap.size, 0, none⟩ = _ := (cell_row hB.h4 0).trans rfl
  have q5 : ((put3 wc w.heap.size (.slice none 0 0) (.slice none 0 0) (.int .i64 13)).drew).cell? ⟨w.heap.size + 1, 0, none⟩ = _ := (cell_row hB.h5 0).trans rfl
  have q6 : ((put3 wc w.heap.size (.slice none 0 0) (.slice none 0 0) (.int .i64 13)).drew).cell? ⟨w.heap.size + 1 + 1, 0, none⟩ = _ := (cell_row hB.h6 0).trans rfl
  have h4' : a.tmps[4]?.getD undef = .pointer (some ⟨w.heap.size, 0, none⟩) := by simpa using h4
  have h5' : a.tmps[5]?.getD undef = .pointer (some ⟨w.heap.size + 1, 0, none⟩) := by simpa using h5
  have h6' : a.tmps[6]?.getD undef = .pointer (some ⟨w.heap.size + 1 + 1, 0, none⟩) := by simpa using h6
  simp only [bodyPostD, hd]
  refine leaves_cons (f := 69) (args := #[.pointer (some ⟨w.heap.size, 0, none⟩), .pointer (some ⟨w.heap.size + 1, 0, none⟩), .pointer (some ⟨w.heap.size + 1 + 1, 0, none⟩)]) (by simp) (by simp [go_sem]) ?_
  refine (catch_cycle w.heap.size (w.heap.size + 1) (w.heap.size + 1 + 1) c4 c5 c6 98 32 28 [] wc h.h4 h.h5 h.h6 (by omega) (by omega) (by omega)).mono ?_
  rintro e u' w'' ⟨rfl, rfl, rfl⟩
  change Leaves _ _ _ _ _ _ (put3 wc w.heap.size (.slice none 0 0) (.slice none 0 0) (.int .i64 13)).drew
  simp [Leaves, settle, results, Tryz.results45, go_sem, q4, q5, q6, h4', h5', h6']
  exact hR

set_option maxRecDepth 1000000 in
/-- A return behind the deferred call. -/
theorem ok_end {a : Act} {w wc : World} {R : Ending → World → Prop} {c4 c5 c6 : Value} (h : Box3 w wc c4 c5 c6) (h4 : a.tmps.getD 4 undef = .pointer (some ⟨w.heap.size, 0, none⟩)) (h5 : a.tmps.getD 5 undef = .pointer (some ⟨w.heap.size + 1, 0, none⟩)) (h6 : a.tmps.getD 6 undef = .pointer (some ⟨w.heap.size + 1 + 1, 0, none⟩))
    (hd : a.defers = [{ target := Target.fn (Fn.func 69) #[.pointer (some ⟨w.heap.size, 0, none⟩), .pointer (some ⟨w.heap.size + 1, 0, none⟩), .pointer (some ⟨w.heap.size + 1 + 1, 0, none⟩)], args := #[] }])
    (hR : R (.returned (.tuple #[c4, c5, c6])) wc) : bodyPostD Tryz.prog Tryz.f45 R Exit.ret a wc := by
  have q4 := (cell_row h.h4 0).trans rfl
  have q5 := (cell_row h.h5 0).trans rfl
  have q6 := (cell_row h.h6 0).trans rfl
  have h4' : a.tmps[4]?.getD undef = .pointer (some ⟨w.heap.size, 0, none⟩) := by simpa using h4
  have h5' : a.tmps[5]?.getD undef = .pointer (some ⟨w.heap.size + 1, 0, none⟩) := by simpa using h5
  have h6' : a.tmps[6]?.getD undef = .pointer (some ⟨w.heap.size + 1 + 1, 0, none⟩) := by simpa using h6
  simp only [bodyPostD, hd]
  refine leaves_cons (f := 69) (args := #[.pointer (some ⟨w.heap.size, 0, none⟩), .pointer (some ⟨w.heap.size + 1, 0, none⟩), .pointer (some ⟨w.heap.size + 1 + 1, 0, none⟩)]) (by simp) (by simp [go_sem]) ?_
  refine (catch_idle w.heap.size (w.heap.size + 1) (w.heap.size + 1 + 1) wc).mono ?_
  rintro e u' w'' ⟨rfl, rfl, rfl⟩
  simp [Leaves, settle, results, Tryz.results45, go_sem, q4, q5, q6, h4', h5', h6']
  exact hR

theorem cell_put3 {wc : World} {b c i : Nat} {v : Value} (v4 v5 v6 : Value) (h : wc.cell? ⟨c, i, none⟩ = some v) (h1 : c ≠ b) (h2 : c ≠ b + 1) (h3 : c ≠ b + 1 + 1) : (put3 wc b v4 v5 v6).cell? ⟨c, i, none⟩ = some v := by
  rw [World.cell?_of_block (a := ⟨c, i, none⟩) (w := wc)]
  · exact h
  · unfold put3
    rw [Below.heap_setCell _ _ _ c h3, Below.heap_setCell _ _ _ c h2, Below.heap_setCell _ _ _ c h1]

theorem made_zero (m : Nat) : madeCells #[Value.int .u64 0] m = (uvs (List.replicate m 0)).toArray := by
  apply Array.toList_inj.1
  rw [toList_madeCells_one]
  simp [uvs]

theorem WvS.new (w : World) (m : Nat) : WvS w ((((w.alloc (.cells #[.slice (some ⟨w.heap.size + 1 + 1 + 1, 0, none⟩) m m] 98)).alloc (.cells #[.slice none 0 0] 32)).alloc (.cells #[.int .i64 0] 28)).alloc (.cells (madeCells #[.int .u64 0] m) 103)) m (List.replicate m 0) := by
  refine ⟨⟨row_alloc (row_alloc (row_alloc (row_new w _ 98) _) _) _, ?_, ?_, ((((Below.refl _ w).alloc (Nat.le_refl _) _).alloc (by simp) _).alloc (by simp; omega) _).alloc (by simp; omega) _, by simp⟩, ?_, by simp, ?_⟩
  · have := row_alloc (row_alloc (row_new (w.alloc (.cells #[.slice (some ⟨w.heap.size + 1 + 1 + 1, 0, none⟩) m m] 98)) #[.slice none 0 0] 32) (.cells #[.int .i64 0] 28)) (.cells (madeCells #[.int .u64 0] m) 103)
    rwa [World.size_alloc] at this
  · have := row_alloc (row_new ((w.alloc (.cells #[.slice (some ⟨w.heap.size + 1 + 1 + 1, 0, none⟩) m m] 98)).alloc (.cells #[.slice none 0 0] 32)) #[.int .i64 0] 28) (.cells (madeCells #[.int .u64 0] m) 103)
    rwa [World.size_alloc, World.size_alloc] at this
  · have := row_new (((w.alloc (.cells #[.slice (some ⟨w.heap.size + 1 + 1 + 1, 0, none⟩) m m] 98)).alloc (.cells #[.slice none 0 0] 32)).alloc (.cells #[.int .i64 0] 28)) (madeCells #[.int .u64 0] m) 103
    rw [World.size_alloc, World.size_alloc, World.size_alloc] at this
    rw [← made_zero]
    exact this
  · intro x hx
    have := (List.mem_replicate.1 hx).2
    omega

theorem WvS.alloc {w wc : World} {m : Nat} {W : List Nat} (h : WvS w wc m W) (o : Obj) : WvS w (wc.alloc o) m W :=
  ⟨h.box.next ((Below.refl _ _).alloc (Nat.le_refl _) o), row_alloc h.web o, h.len, h.lt⟩

theorem WvS.put {w wc : World} {m : Nat} {W : List Nat} (h : WvS w wc m W) (t x : Nat) (hx : x < 18446744073709551616) : WvS w (wc.setCell ⟨w.heap.size + 1 + 1 + 1, t, none⟩ (.int .u64 (x : Int))).drew m (W.set t x) := by
  refine ⟨⟨?_, ?_, ?_, ?_, ?_⟩, ?_, by simpa using h.len, ?_⟩
  · exact row_other h.box.h4 _ (by omega)
  · exact row_other h.box.h5 _ (by omega)
  · exact row_other h.box.h6 _ (by omega)
  · exact bl_drawn1 (h.box.bel.setCell (p := ⟨w.heap.size + 1 + 1 + 1, t, none⟩) (by show w.heap.size ≤ w.heap.size + 1 + 1 + 1; omega) _)
  · show w.heap.size + 3 ≤ (wc.setCell _ _).heap.size
    simpa using h.box.sz
  · have := row_set h.web t (.int .u64 (x : Int))
    rw [show (uvs W).toArray.setIfInBounds t (.int .u64 (x : Int)) = (uvs (W.set t x)).toArray by simp [uvs, List.map_set]] at this
    exact this
  · intro y hy
    rcases List.mem_or_eq_of_mem_set hy with h1 | h1
    · exact h.lt y h1
    · rw [h1]; exact hx

theorem WvS.cell {w wc : World} {m : Nat} {W : List Nat} (h : WvS w wc m W) (t : Nat) (ht : t < m) : wc.cell? ⟨w.heap.size + 1 + 1 + 1, t, none⟩ = some (.int .u64 ((W.getD t 0 : Nat) : Int)) ∧ wc.frozen? ⟨w.heap.size + 1 + 1 + 1, t, none⟩ = false ∧ W.getD t 0 < 18446744073709551616 := by
  have hl := h.len
  have hg : W[t]? = some (W.getD t 0) := by rw [List.getD_eq_getElem?_getD, List.getElem?_eq_getElem (by omega)]; rfl
  refine ⟨?_, froz_row h.web t, h.lt _ (List.mem_of_getElem? hg)⟩
  rw [cell_row h.web t, List.getElem?_toArray, uvs, List.getElem?_map, hg]
  rfl

set_option maxRecDepth 1000000 in
set_option maxHeartbeats 2000000 in
theorem weave_main (m : Nat) (v : Value) (l : List (Int × Int)) (w : World) (hl : RdA w v l) (hm : m ≤ 64) (hlen : l.length ≤ 4096) (hT : Tab w) :
    Calls Tryz.prog 45 #[.int .i64 (m : Int), v] w fun e w' => WvC (m : Int) l w e w' := by
  obtain ⟨i0, hi0, hz0, hz1, hz2⟩ := info_parts Tryz.info103
  have HRA : Hid (RdA w v l) := hl
  obtain ⟨a, cap, rfl, hc, hi64, hr⟩ := hl
  have HR : Hid _ := hr
  have HI : Hid _ := hi64
  obtain ⟨n, HN⟩ : ∃ n, Hid (l.length = n) := ⟨_, rfl⟩
  rw [HN.out] at hc hlen ⊢
  have hmk := fun wx => run_make (P := Tryz.prog) wx 98 103 i0 _ Tryz.underlying98 hi0 hz0 .i64 .i64 (m : Int) (m : Int) (by omega) (by omega) (by rw [hz2]; omega) (by omega)
  simp only [hz1, Int.toNat_natCast, Nat.mul_one] at hmk
  have n1 : ¬ ((m : Int) < 0) := by omega
  have n1d : decide ((m : Int) < 0) = false := by simp
  have n2 : ¬ (64 < (m : Int)) := by omega
  have n2d : decide (64 < (m : Int)) = false := by simpa using n2
  have n3 : ¬ (4096 < (n : Int)) := by omega
  have n3d : decide (4096 < (n : Int)) = false := by simpa using n3
  have hmf : ∀ (fn : Fn) (first cap : Array Value) (w : World), (Instr.makeFunc fn first cap).run Tryz.prog w = .ok (.func fn first cap) w := fun _ _ _ _ => rfl
  have HTb : Hid (Tab w) := hT
  clear hr hi64 hT
  go_enter_defers Tryz.func45, Tryz.ntmps45
  go_upto_region 4 with fail
  have HS0 : Hid _ := WvS.new w m
  generalize ((((w.alloc (.cells #[.slice (some ⟨w.heap.size + 1 + 1 + 1, 0, none⟩) m m] 98)).alloc (.cells #[.slice none 0 0] 32)).alloc (.cells #[.int .i64 0] 28)).alloc (.cells (madeCells #[.int .u64 0] m) 103)) = w1 at *
  go_wp2_with fail
  go_loopw [8, 24] (fun _ iv wr => ∃ (k : Nat) (W : List Nat), k ≤ n ∧ iv = .int .i64 k ∧ Hid (WvS w wr m W) ∧ Hid ((l.take k).foldl putArc (List.replicate m 0) = W) ∧ Hid ((l.take k).all (endsOk m) = true)) (fun _ iv _ => n - (intOf iv).toNat)
  case atStart => exact ⟨0, List.replicate m 0, Nat.zero_le _, rfl, HS0, by show (l.take 0).foldl _ _ = _; rfl, by show (l.take 0).all _ = _; rfl⟩
  case round =>
    clear HS0
    obtain ⟨k, W, hk, rfl, HS, HW, HA⟩ := hrel
    rename World => w2
    by_cases hlt : k < n
    · have hki : (k : Int) < (n : Int) := by omega
      obtain ⟨p, hp⟩ : ∃ p, l[k]? = some p := ⟨_, List.getElem?_eq_getElem (by rw [HN.out]; exact hlt)⟩
      obtain ⟨b, off, rfl, c0, c1⟩ := HR.out k p hp
      have hpi := HI.out p (List.mem_of_getElem? hp)
      have d0 : w2.cell? ⟨b, off + k * 2, none⟩ = some (.int .i64 p.1) := (World.cell?_of_block (a := ⟨b, off + k * 2, none⟩) (HS.out.box.bel.block b (lt_of_cell? c0))).trans c0
      have d1 : w2.cell? ⟨b, off + k * 2 + 1, none⟩ = some (.int .i64 p.2) := (World.cell?_of_block (a := ⟨b, off + k * 2 + 1, none⟩) (HS.out.box.bel.block b (lt_of_cell? c1))).trans c1
      have HS2 : Hid _ := HS.out.alloc (.cells #[.int .i64 p.1, .int .i64 p.2] 106)
      have HAl : Hid (l.take (k + 1) = l.take k ++ [p]) := by show _ = _; rw [List.take_add_one, hp]; rfl
      have hz2 := HS.out.box.sz
      have M1 : Hid (∀ wx, Calls Tryz.prog 67 #[.int .i64 p.1, .int .i64 (m : Int)] wx fun e w' => e = .returned (.bool (decide (0 ≤ p.1 ∧ p.1 < (m : Int)))) ∧ w' = wx) := fun wx => isNode_any p.1 m wx
      have M2 : Hid (∀ wx, Calls Tryz.prog 67 #[.int .i64 p.2, .int .i64 (m : Int)] wx fun e w' => e = .returned (.bool (decide (0 ≤ p.2 ∧ p.2 < (m : Int)))) ∧ w' = wx) := fun wx => isNode_any p.2 m wx
      have HBad : Hid (endsOk m p = false → weaveP (m : Int) l = .bad 2) := by
        show _ → _
        intro h
        unfold weaveP
        rw [if_pos]
        refine .inr (.inr (.inr ?_))
        rw [List.all_eq_false]
        exact ⟨p, List.mem_of_getElem? hp, by rw [Int.toNat_natCast, h]; decide⟩
      have HWb : Hid (w.heap.size + 1 + 1 + 1 < w2.heap.size) := (Array.getElem?_eq_some_iff.1 HS.out.web).1
      clear hp c0 c1 HS
      have nb2 := row_new w2 #[.int .i64 p.1, .int .i64 p.2] 106
      have g0 := (cell_row nb2 0).trans rfl
      have g1 := (cell_row nb2 1).trans rfl
      have g4 := (cell_row HS2.out.box.h4 0).trans rfl
      have g5 := (cell_row HS2.out.box.h5 0).trans rfl
      have g6 := (cell_row HS2.out.box.h6 0).trans rfl
      have k4 := froz_row HS2.out.box.h4 0
      have k5 := froz_row HS2.out.box.h5 0
      have k6 := froz_row HS2.out.box.h6 0
      by_cases hf : 0 ≤ p.1 ∧ p.1 < (m : Int)
      · have hfd : decide (0 ≤ p.1 ∧ p.1 < (m : Int)) = true := by simpa using hf
        rw [hfd] at M1
        by_cases ht : 0 ≤ p.2 ∧ p.2 < (m : Int)
        · have htd : decide (0 ≤ p.2 ∧ p.2 < (m : Int)) = true := by simpa using ht
          rw [htd] at M2
          obtain ⟨f, hfe⟩ : ∃ f : Nat, p.1 = (f : Int) := ⟨p.1.toNat, by omega⟩
          obtain ⟨t, hte⟩ : ∃ t : Nat, p.2 = (t : Int) := ⟨p.2.toNat, by omega⟩
          have hfm : f < m := by omega
          have htm : t < m := by omega
          have HPA : Hid (putArc W p = W.set t (W.getD t 0 ||| 2 ^ f)) := by show _ = _; unfold putArc; rw [hfe, hte, Int.toNat_natCast, Int.toNat_natCast]
          have HEN : Hid (endsOk m p = true) := by show _ = _; simp [endsOk]; omega
          obtain ⟨x1, x2, x3⟩ := HS2.out.cell t htm
          have M3 : Hid (∀ wx, Calls Tryz.prog 68 #[.int .i64 (f : Int)] wx fun e w' => e = .returned (.int .u64 ((2 ^ f : Nat) : Int)) ∧ w' = wx) := fun wx => only_any f (by omega) wx
          have h2 := two_lt (show f < 64 by omega)
          have e1 := bits_or_u64_nat (W.getD t 0) (2 ^ f) x3 h2
          have hor := or_lt x3 h2
          rw [hfe] at d0 g0 M1 HS2 nb2 x1 x2
          rw [hte] at d1 g1 M2 HS2 nb2 x1 x2
          rw [hfe, hte] at g4 g5 g6 k4 k5 k6
          rw [hte] at g0
          rw [hfe] at g1
          have HS3 : Hid _ := HS2.out.put t (W.getD t 0 ||| 2 ^ f) hor
          have hti : (t : Int) < (m : Int) := by omega
          have HW2 : Hid ((l.take (k + 1)).foldl putArc (List.replicate m 0) = W.set t (W.getD t 0 ||| 2 ^ f)) := by
            show _ = _
            rw [HAl.out, List.foldl_append, HW.out]
            exact HPA.out
          have HA2 : Hid ((l.take (k + 1)).all (endsOk m) = true) := by
            show _ = _
            rw [HAl.out, List.all_append, HA.out]
            simp [HEN.out]
          clear HPA HEN HAl HW HA hfd htd hfe hte HBad hf ht hpi
          generalize W.getD t 0 = y at *
          generalize 2 ^ f = pf at *
          go_wp2_with fail
          refine Calls.mono (M1.out _) ?_
          rintro e w3 ⟨rfl, rfl⟩
          go_wp2_with fail
          refine Calls.mono (M2.out _) ?_
          rintro e w3 ⟨rfl, rfl⟩
          go_wp2_with fail
          have hne1 : w.heap.size ≠ w.heap.size + 1 + 1 + 1 := by omega
          have hne2 : w2.heap.size ≠ w.heap.size + 1 + 1 + 1 := by have := HWb.out; omega
          generalize w2.alloc (.cells #[.int .i64 (f : Int), .int .i64 (t : Int)] 106) = w3 at *
          generalize w2.heap.size = G2 at *
          clear nb2 d0 d1 HWb hz2
          refine wp_onlyN ?_
          go_region_law (go_simp; go_at_call 68; refine Calls.mono (M3.out _) ?_; rintro e w4 ⟨rfl, rfl⟩; dsimp only)
          all_goals
            dsimp only [OnlyN]
            go_wp2_with fail
            go_roundw
            case rel => exact ⟨k + 1, _, by omega, by go_num, HS3, HW2, HA2⟩
            case measure => simp [intOf]; omega
        · have htd : decide (0 ≤ p.2 ∧ p.2 < (m : Int)) = false := by simpa using ht
          rw [htd] at M2
          have hbad : weaveP (m : Int) l = .bad 2 := HBad.out (by simp [endsOk]; omega)
          have HBx : Hid _ := HS2.out.box.put (.slice none 0 0) (.slice none 0 0) (.int .i64 2)
          have HP : Hid _ := hbad
          clear hbad HBad
          go_wp2_with fail
          refine Calls.mono (M1.out _) ?_
          rintro e w3 ⟨rfl, rfl⟩
          go_wp2_with fail
          refine Calls.mono (M2.out _) ?_
          rintro e w3 ⟨rfl, rfl⟩
          go_wp2_with fail
          exact box_ret HBx.out rfl rfl rfl rfl ⟨HBx.out.bel, by rw [HP.out]⟩
      · have hfd : decide (0 ≤ p.1 ∧ p.1 < (m : Int)) = false := by simpa using hf
        rw [hfd] at M1
        have hbad : weaveP (m : Int) l = .bad 2 := HBad.out (by simp [endsOk]; omega)
        have HBx : Hid _ := HS2.out.box.put (.slice none 0 0) (.slice none 0 0) (.int .i64 2)
        have HP : Hid _ := hbad
        clear hbad HBad
        go_wp2_with fail
        refine Calls.mono (M1.out _) ?_
        rintro e w3 ⟨rfl, rfl⟩
        go_wp2_with fail
        exact box_ret HBx.out rfl rfl rfl rfl ⟨HBx.out.bel, by rw [HP.out]⟩
    · have hkn : k = n := by omega
      subst hkn
      have hWf : W = webOf m l := by
        have h1 := HW.out
        rw [List.take_of_length_le (by rw [HN.out]; exact Nat.le_refl _)] at h1
        exact h1.symm
      have hAf : l.all (endsOk m) = true := by
        have h1 := HA.out
        rwa [List.take_of_length_le (by rw [HN.out]; exact Nat.le_refl _)] at h1
      have hP : weaveP (m : Int) l = match ordW W with
          | none => .bad 13
          | some o => .ok W o := by
        unfold weaveP
        rw [Int.toNat_natCast, if_neg (by rw [hAf, HN.out]; simp; omega), hWf]
        cases ordW (webOf m l) <;> rfl
      have hWl := HS.out.len
      have hRd : RdU w2.drew (.slice (some ⟨w.heap.size + 1 + 1 + 1, 0, none⟩) m m) W := by
        refine ⟨_, m, by rw [hWl], by omega, HS.out.lt, fun i x hi => ⟨_, 0, rfl, ?_⟩⟩
        have hil : i < m := by have := (List.getElem?_eq_some_iff.1 hi).1; omega
        have := (HS.out.cell i hil).1
        rw [List.getD_eq_getElem?_getD, hi] at this
        rw [Nat.zero_add]
        exact this
      have HRd : Hid (RdU w2.drew (.slice (some ⟨w.heap.size + 1 + 1 + 1, 0, none⟩) m m) W) := hRd
      have M : Hid _ := order_any W _ w2.drew hRd (by omega) (HTb.out.later (bl_drawn1 HS.out.box.bel))
      have HBx : Hid (Box3 w w2.drew (.slice (some ⟨w.heap.size + 1 + 1 + 1, 0, none⟩) m m) (.slice none 0 0) (.int .i64 0)) := HS.out.box.next (bl_drawn1 (Below.refl _ _))
      have HP : Hid _ := hP
      have HWl : Hid _ := hWl
      have HWb : Hid (w.heap.size + 1 + 1 + 1 < w2.heap.size) := (Array.getElem?_eq_some_iff.1 HS.out.web).1
      have g4 := (cell_row HS.out.box.h4 0).trans rfl
      clear hRd hP HW HA hAf hWl HS hWf
      go_upto_region 12 with fail
      go_region_law (first
        | (go_simp
           go_at_call 70
           refine Calls.mono M.out ?_
           rintro e w4 ⟨hb4, ⟨o, v4, ho, rfl, hown, hlen⟩ | ⟨hno, rfl⟩⟩
           rotate_left
           exact pan_end (HBx.out.next hb4) rfl rfl rfl rfl ⟨bl_drawn1 ((HBx.out.next hb4).put _ _ _).bel, by rw [HP.out, hno]⟩
           have hbx4 := HBx.out.next hb4
           obtain ⟨oa, oc, rfl, hoc, hord⟩ := RdI.of_own hown
           have f4 := (cell_row hbx4.h4 0).trans rfl
           have f5 := (cell_row hbx4.h5 0).trans rfl
           have f6 := (cell_row hbx4.h6 0).trans rfl
           have z4 := froz_row hbx4.h4 0
           have z5 := froz_row hbx4.h5 0
           have z6 := froz_row hbx4.h6 0
           dsimp only))
      all_goals
        have hzd : w2.drew.heap.size = w2.heap.size := rfl
        have hwb := HWb.out
        have hU : RdU (put3 w4 w.heap.size (.slice (some ⟨w.heap.size + 1 + 1 + 1, 0, none⟩) m m) (.slice oa o.length oc) (.int .i64 0)) (.slice (some ⟨w.heap.size + 1 + 1 + 1, 0, none⟩) m m) W := by
          obtain ⟨a', cap', hv', hc', hl', hr'⟩ := HRd.out.later hb4
          refine ⟨a', cap', hv', hc', hl', fun i x hi => ?_⟩
          obtain ⟨b', off', ha', c0'⟩ := hr' i x hi
          have hb' : b' = w.heap.size + 1 + 1 + 1 := by
            simp only [Value.slice.injEq] at hv'
            rw [← hv'.1] at ha'
            simp only [Option.some.injEq, Addr.mk.injEq] at ha'
            exact ha'.1.symm
          exact ⟨b', off', ha', cell_put3 _ _ _ c0' (by omega) (by omega) (by omega)⟩
        have hI : RdI (put3 w4 w.heap.size (.slice (some ⟨w.heap.size + 1 + 1 + 1, 0, none⟩) m m) (.slice oa o.length oc) (.int .i64 0)) (.slice oa o.length oc) o := by
          refine ⟨oa, oc, rfl, hoc, fun i x hi => ?_⟩
          obtain ⟨b', off', ha', c0'⟩ := hord i x hi
          have hlt := (hown.lt b' (by rw [ha']; rfl)).1
          exact ⟨b', off', ha', cell_put3 _ _ _ c0' (by omega) (by omega) (by omega)⟩
        have HUI : Hid (WvC (m : Int) l w (.returned (.tuple #[.slice (some ⟨w.heap.size + 1 + 1 + 1, 0, none⟩) m m, .slice oa o.length oc, .int .i64 0])) (put3 w4 w.heap.size (.slice (some ⟨w.heap.size + 1 + 1 + 1, 0, none⟩) m m) (.slice oa o.length oc) (.int .i64 0))) := by
          refine ⟨(hbx4.put _ _ _).bel, ?_⟩
          rw [HP.out, ho]
          exact ⟨_, _, rfl, hU, hI, by rw [Int.toNat_natCast]; exact HWl.out, by rw [Int.toNat_natCast, hlen]; exact HWl.out⟩
        have HB4 : Hid _ := hbx4.put (.slice (some ⟨w.heap.size + 1 + 1 + 1, 0, none⟩) m m) (.slice oa o.length oc) (.int .i64 0)
        rw [hlen] at HUI HB4
        clear hU hI hord hown hbx4 hb4 HRd HP M
        go_wp2_with fail
        exact ok_end HB4.out rfl rfl rfl rfl HUI.out

end Go.Proofs.YtlegmmhacnbnlaaGreatDoor.Dg

