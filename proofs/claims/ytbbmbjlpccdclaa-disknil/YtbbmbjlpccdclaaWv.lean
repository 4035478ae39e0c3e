/- Writes of no disk, and of one that nothing made. -/
import Derived.Test.YtbbmbjlpccdclaaWu
namespace Go.Proofs.Ytbbmbjlpccdclaa
open Go.RowKit
set_option linter.unusedVariables false

def N3 (w : World) (pp : Option Addr) (i : Int) (hv : Value) (f45 f60 : Value) : World :=
  ((((((w.alloc (.cells #[.pointer pp] 25)).alloc (.cells #[.int .i64 i] 3)).alloc (.cells #[hv] 73)).alloc (.cells #[.pointer pp] 25)).alloc (.cells #[.int .i64 i] 3)).alloc (.cells #[f45, f60] 69)).drew

theorem N3_below (w : World) (pp : Option Addr) (i : Int) (hv f45 f60 : Value) : Below w.heap.size w (N3 w pp i hv f45 f60) :=
  (((((((Below.refl _ _).alloc (Nat.le_refl _) _).alloc (by simp) _).alloc (by simp; omega) _).alloc (by simp; omega) _).alloc (by simp; omega) _).alloc (by simp; omega) _).drew

theorem N3_size (w : World) (pp : Option Addr) (i : Int) (hv f45 f60 : Value) : (N3 w pp i hv f45 f60).heap.size = w.heap.size + 6 := by
  show (World.alloc _ _).heap.size = _
  simp

theorem N3_cells (w : World) (pp : Option Addr) (i : Int) (hv f45 f60 : Value) : (N3 w pp i hv f45 f60).cell? ⟨w.heap.size, 0, none⟩ = some (.pointer pp) ∧ (N3 w pp i hv f45 f60).cell? ⟨w.heap.size + 1, 0, none⟩ = some (.int .i64 i) := by
  refine ⟨?_, ?_⟩
  · show (World.alloc _ _).cell? _ = _
    rw [cell_past _ _ _ _ (by simp <;> omega), cell_past _ _ _ _ (by simp <;> omega), cell_past _ _ _ _ (by simp <;> omega), cell_past _ _ _ _ (by simp <;> omega), cell_past _ _ _ _ (by simp), cell_alloc1 _ _ _ _ (by simp)]
  · show (World.alloc _ _).cell? _ = _
    rw [cell_past _ _ _ _ (by simp <;> omega), cell_past _ _ _ _ (by simp <;> omega), cell_past _ _ _ _ (by simp <;> omega), cell_past _ _ _ _ (by simp), cell_alloc1 _ _ _ _ (by simp)]

theorem n_write_end {w w4 w6 : World} {pp : Option Addr} {i : Int} {hv f45 f60 dv sl : Value} {g4 : Nat} (hd : Dead pp w)
    (h4 : (N3 w pp i hv f45 f60).grownBy w4 (some (w.heap.size + 5))) (hg4 : g4 = w.heap.size + 5 ∨ g4 = w.heap.size + 6) (o : Obj) (h6 : (w4.alloc o).drew.grownBy w6 (some g4)) :
    Calls Try.prog 33 #[.pointer pp, dv, sl] w6 fun e w' => e = .returned (.int .i64 1) ∧ w' = w6 ∧ Below w.heap.size w w6 := by
  have hz3 := N3_size w pp i hv f45 f60
  have hb4 : Below w.heap.size w w4 := (N3_below w pp i hv f45 f60).grown h4 (by omega) (fun k hk => by cases hk; omega)
  have hb6 : Below w.heap.size w w6 := ((hb4.alloc hb4.size o).drew).grown h6 (by have := h4.size; have : (w4.alloc o).drew.heap.size = w4.heap.size + 1 := (by show (w4.alloc o).heap.size = _; simp); omega) (fun k hk => by cases hk; omega)
  refine Calls.mono (hd w6 dv sl hb6) ?_
  rintro e w' ⟨h1, h2⟩
  exact ⟨h1, h2, hb6⟩

set_option maxRecDepth 1000000 in
set_option maxHeartbeats 1000000 in
theorem n_write (pp : Option Addr) (w : World) (i : Int) (g0 : Nat) (lb0 : Array Value) (sl : Value) (vs : List Value) (hd : Dead pp w) (hsl : SF w sl vs) :
    Calls Try.prog 46 #[.pointer pp, .int .i64 i, .func (.func g0) #[] lb0, sl] w fun e w' => e = .returned (.int .i64 1) ∧ Below w.heap.size w w' := by
  have HD : Hid (Dead pp w) := hd
  have HSL : Hid (SF w sl vs) := hsl
  obtain ⟨sa, sn, sc, hsv⟩ : ∃ a n c, sl = .slice a n c := by
    rcases hsl with ⟨h, _⟩ | ⟨b, v, h, _⟩
    · exact ⟨_, _, _, h⟩
    · exact ⟨_, _, _, h⟩
  have hlv := hsl.len
  subst hsv
  clear hd hsl
  have hmf : ∀ (fn : Fn) (first cap : Array Value) (w : World), (Instr.makeFunc fn first cap).run Try.prog w = .ok (.func fn first cap) w := fun _ _ _ _ => rfl
  have HK : Hid (∀ w1 w2 : World, (w1.cell? ⟨w.heap.size, 0, none⟩ = some (.pointer pp) ∧ w1.cell? ⟨w.heap.size + 1, 0, none⟩ = some (.int .i64 i)) → Below w1.heap.size w1 w2 → (w2.cell? ⟨w.heap.size, 0, none⟩ = some (.pointer pp) ∧ w2.cell? ⟨w.heap.size + 1, 0, none⟩ = some (.int .i64 i))) := fun w1 w2 h hb => ⟨cell_later hb h.1, cell_later hb h.2⟩
  have HS0 : Hid ((((w.alloc (.cells #[.pointer pp] 25)).alloc (.cells #[.int .i64 i] 3)).alloc (.cells #[.func (.func g0) #[] lb0] 73)).drew.cell? ⟨w.heap.size, 0, none⟩ = some (.pointer pp) ∧ (((w.alloc (.cells #[.pointer pp] 25)).alloc (.cells #[.int .i64 i] 3)).alloc (.cells #[.func (.func g0) #[] lb0] 73)).drew.cell? ⟨w.heap.size + 1, 0, none⟩ = some (.int .i64 i)) := by
    refine ⟨?_, ?_⟩
    · show (World.alloc _ _).cell? _ = _
      rw [cell_past _ _ _ _ (by simp <;> omega), cell_past _ _ _ _ (by simp), cell_alloc1 _ _ _ _ (by simp)]
    · show (World.alloc _ _).cell? _ = _
      rw [cell_past _ _ _ _ (by simp), cell_alloc1 _ _ _ _ (by simp)]
  go_enter Try.func46, Try.ntmps46
  go_wp2_with fail
  go_region_held_law (fun w' => w'.cell? ⟨w.heap.size, 0, none⟩ = some (.pointer pp) ∧ w'.cell? ⟨w.heap.size + 1, 0, none⟩ = some (.int .i64 i)) (first | assumption | exact HS0.out | exact HBx.out | exact HK.out _ _ ‹_› (alloc2 _ _ _) | exact HK.out _ _ ‹_› ((Below.refl _ _).alloc (Nat.le_refl _) _)) (first
    | (refine step_append_f rfl (.tmp 15) (.tmp 16) rfl 17 rfl (w.heap.size + 1 + 1 + 1 + 1 + 1) 2 2 [.func (.func 45) #[.pointer pp] #[], .func (.func 60) #[] #[.pointer (some ⟨w.heap.size + 1 + 1 + 1 + 1, 0, none⟩), .pointer (some ⟨w.heap.size + 1 + 1 + 1, 0, none⟩)]] vs (.slice sa sn sc) rfl rfl ?_ ?_ (by omega) ?_
       exact owns_new _ #[_, _] _ 2 (by simp) rfl (by omega)
       exact HSL.out.later (N3_below w pp i _ _ _)
       intro g4 c4 w4 ho4 hg4 hat4
       have hW4 : (N3 w pp i (.func (.func g0) #[] lb0) (.func (.func 45) #[.pointer pp] #[]) (.func (.func 60) #[] #[.pointer (some ⟨w.heap.size + 1 + 1 + 1 + 1, 0, none⟩), .pointer (some ⟨w.heap.size + 1 + 1 + 1, 0, none⟩)])).grownBy w4 (some (w.heap.size + 5)) := hg4
       have hat4 : g4 = w.heap.size + 5 ∨ g4 = w.heap.size + 6 := (by rcases hat4 with h | h; exact .inl h; exact .inr (h.trans (N3_size w pp i _ _ _)))
       have HW4 : Hid _ := hW4
       have HO4 : Hid _ := ho4
       have HA4 : Hid _ := hat4
       have HBx : Hid (w4.cell? ⟨w.heap.size, 0, none⟩ = some (.pointer pp) ∧ w4.cell? ⟨w.heap.size + 1, 0, none⟩ = some (.int .i64 i)) := ⟨hW4.cell (N3_cells w pp i _ _ _).1 (by show some w.heap.size ≠ _; simp), hW4.cell (N3_cells w pp i _ _ _).2 (by show some (w.heap.size + 1) ≠ _; simp)⟩
       clear hg4 hat4 ho4 hW4)
    | (go_simp; go_at_call 36; refine Calls.mono (has_any _ _ _) ?_; rintro e w2 ⟨rfl, rfl⟩))
  all_goals
    have hc4 := HBx.out.1
    go_wp2_with fail
    go_region_held_law (fun w' => w'.cell? ⟨w.heap.size, 0, none⟩ = some (.pointer pp)) (first | assumption | exact hc4 | exact hc6 | exact cell_later ((Below.refl _ _).alloc (Nat.le_refl _) _) ‹_›) (first
      | (refine step_append_f rfl (.tmp 20) (.tmp 23) rfl 24 rfl g4 (2 + vs.length) c4 ([.func (.func 45) #[.pointer pp] #[], .func (.func 60) #[] #[.pointer (some ⟨w.heap.size + 1 + 1 + 1 + 1, 0, none⟩), .pointer (some ⟨w.heap.size + 1 + 1 + 1, 0, none⟩)]] ++ vs) [.func (.func 63) #[.pointer pp] #[]] (.slice (some ⟨w4.heap.size, 0, none⟩) 1 1) rfl rfl ?_ ?_ (by omega) ?_
         exact owns_later HO4.out (((Below.refl _ _).alloc (Nat.le_refl _) _).drew)
         exact .inr ⟨w4.heap.size, _, rfl, rfl, cell_alloc1 _ _ _ _ rfl, rfl⟩
         intro g6 c6 w6 ho6 hg6 hat6
         have HX : Hid _ := n_write_end (dv := .func (.func 62) #[] #[.pointer (some ⟨w.heap.size, 0, none⟩), .pointer (some ⟨w.heap.size + 1, 0, none⟩), .pointer (some ⟨w.heap.size + 1 + 1, 0, none⟩)]) (sl := .slice (some ⟨g6, 0, none⟩) (2 + vs.length + 1) c6) HD.out HW4.out HA4.out _ hg6
         have hc6 : w6.cell? ⟨w.heap.size, 0, none⟩ = some (.pointer pp) := (hg6.cell (cell_later (((Below.refl _ _).alloc (Nat.le_refl _) _).drew) hc4) (by have := HA4.out; show some w.heap.size ≠ _; simp; omega))
         clear ho6 hg6 hat6)
      | (go_simp; go_at_call 33; refine Calls.mono HX.out ?_; rintro e w7 ⟨rfl, rfl, hb6⟩))
    all_goals
      go_wp2_with fail
      go_ret
      exact ⟨rfl, hb6⟩

set_option maxRecDepth 1000000 in
set_option maxHeartbeats 1000000 in
theorem n_append (pp : Option Addr) (w : World) (i : Int) (xv : Value) (l : List UInt8) (hd : Dead pp w) (hx : RB w xv l) :
    Calls Try.prog 23 #[.pointer pp, .int .i64 i, xv] w fun e w' => e = .returned (.int .i64 1) ∧ Below w.heap.size w w' := by
  have hbel := alloc4 w (.cells #[xv] 33) (.cells #[.pointer pp] 25) (.cells #[.int .i64 l.length] 3) (.cells #[.func (.func 65) #[] #[.pointer (some ⟨w.heap.size + 1 + 1, 0, none⟩), .pointer (some ⟨w.heap.size + 1, 0, none⟩)]] 69)
  have HC : Hid _ := n_write pp ((((w.alloc (.cells #[xv] 33)).alloc (.cells #[.pointer pp] 25)).alloc (.cells #[.int .i64 l.length] 3)).alloc (.cells #[.func (.func 65) #[] #[.pointer (some ⟨w.heap.size + 1 + 1, 0, none⟩), .pointer (some ⟨w.heap.size + 1, 0, none⟩)]] 69)) i 51 #[.pointer (some ⟨w.heap.size, 0, none⟩)] (.slice (some ⟨w.heap.size + 1 + 1 + 1, 0, none⟩) 1 1) [_] (hd.later hbel) (.inr ⟨_, _, rfl, rfl, cell_alloc1 _ _ _ _ (by simp), rfl⟩)
  have HB : Hid _ := hbel
  obtain ⟨xa, xc, rfl, _, _, _, _⟩ := hx
  have hmf : ∀ (fn : Fn) (first cap : Array Value) (w : World), (Instr.makeFunc fn first cap).run Try.prog w = .ok (.func fn first cap) w := fun _ _ _ _ => rfl
  clear hbel hd
  go_enter Try.func23, Try.ntmps23
  go_wp2_with (first
    | (go_at_call 53; refine Calls.mono (fits_any _ _ _) ?_; rintro e w2 ⟨rfl, rfl⟩)
    | (go_at_call 46; refine Calls.mono HC.out ?_; rintro e w2 ⟨rfl, h1⟩))
  go_ret
  exact ⟨rfl, HB.out.trans (h1.mono HB.out.size)⟩

set_option maxRecDepth 1000000 in
set_option maxHeartbeats 1000000 in
theorem n_sync (pp : Option Addr) (w : World) (i : Int) (hd : Dead pp w) :
    Calls Try.prog 22 #[.pointer pp, .int .i64 i] w fun e w' => e = .returned (.int .i64 1) ∧ Below w.heap.size w w' := by
  have HC : Hid _ := n_write pp w i 50 #[] (.slice none 0 0) [] hd (.inl ⟨rfl, rfl⟩)
  clear hd
  go_enter Try.func22, Try.ntmps22
  go_wp2_with (first | (go_at_call 46; refine Calls.mono HC.out ?_; rintro e w2 ⟨rfl, h1⟩))
  go_ret
  exact ⟨rfl, h1⟩

set_option maxRecDepth 1000000 in
set_option maxHeartbeats 1000000 in
theorem n_cut (pp : Option Addr) (w : World) (i n : Int) (hd : Dead pp w) :
    Calls Try.prog 21 #[.pointer pp, .int .i64 i, .int .i64 n] w fun e w' => e = .returned (.int .i64 1) ∧ Below w.heap.size w w' := by
  have hbel := alloc5 w (.cells #[.int .i64 n] 3) (.cells #[.pointer pp] 25) (.cells #[.int .i64 i] 3) (.cells #[.int .i64 n] 3) (.cells #[.func (.func 64) #[] #[.pointer (some ⟨w.heap.size + 1 + 1 + 1, 0, none⟩), .pointer (some ⟨w.heap.size + 1, 0, none⟩), .pointer (some ⟨w.heap.size + 1 + 1, 0, none⟩)]] 69)
  have HC : Hid _ := n_write pp (((((w.alloc (.cells #[.int .i64 n] 3)).alloc (.cells #[.pointer pp] 25)).alloc (.cells #[.int .i64 i] 3)).alloc (.cells #[.int .i64 n] 3)).alloc (.cells #[.func (.func 64) #[] #[.pointer (some ⟨w.heap.size + 1 + 1 + 1, 0, none⟩), .pointer (some ⟨w.heap.size + 1, 0, none⟩), .pointer (some ⟨w.heap.size + 1 + 1, 0, none⟩)]] 69)) i 47 #[.pointer (some ⟨w.heap.size, 0, none⟩)] (.slice (some ⟨w.heap.size + 1 + 1 + 1 + 1, 0, none⟩) 1 1) [_] (hd.later hbel) (.inr ⟨_, _, rfl, rfl, cell_alloc1 _ _ _ _ (by simp), rfl⟩)
  have HB : Hid _ := hbel
  have hmf : ∀ (fn : Fn) (first cap : Array Value) (w : World), (Instr.makeFunc fn first cap).run Try.prog w = .ok (.func fn first cap) w := fun _ _ _ _ => rfl
  clear hbel hd
  go_enter Try.func21, Try.ntmps21
  go_wp2_with (first
    | (go_at_call 49; refine Calls.mono (reaches_any _ _ _ _) ?_; rintro e w2 ⟨rfl, rfl⟩)
    | (go_at_call 46; refine Calls.mono HC.out ?_; rintro e w2 ⟨rfl, h1⟩))
  go_ret
  exact ⟨rfl, HB.out.trans (h1.mono HB.out.size)⟩
end Go.Proofs.Ytbbmbjlpccdclaa
