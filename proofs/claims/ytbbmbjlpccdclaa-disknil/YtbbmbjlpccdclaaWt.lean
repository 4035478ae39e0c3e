/- The walk over disk.Copy; all calls of no disk, and of one that nothing made. -/
import Derived.Test.YtbbmbjlpccdclaaWq
import Derived.Test.YtbbmbjlpccdclaaWr
import Derived.Test.YtbbmbjlpccdclaaWs
namespace Go.Proofs.Ytbbmbjlpccdclaa
open Go.RowKit
set_option linter.unusedVariables false

theorem ent57 : Ent 57 := fun args w => by kernel_rfl

set_option maxRecDepth 1000000 in
set_option maxHeartbeats 1000000 in
theorem copy_any (T : Nat → Prop) (w : World) (p : Nat) (S : DS) (hd : DK T w p S) (ho : Okay S) (hs : Small 10000000 1000000000000 S) :
    Calls Try.prog 26 #[.pointer (some ⟨p, 0, none⟩)] w fun e w' => ∃ N, e = .returned (.pointer (some ⟨N, 0, none⟩)) ∧ DK (fun k => w.heap.size ≤ k ∧ k < w'.heap.size) w' N S ∧ Below w.heap.size w w' := by
  have hbel := alloc2 w (.cells #[.pointer (some ⟨p, 0, none⟩)] 25) (.cells #[.pointer none] 25)
  have c0 : ((w.alloc (.cells #[.pointer (some ⟨p, 0, none⟩)] 25)).alloc (.cells #[.pointer none] 25)).cell? ⟨w.heap.size, 0, none⟩ = some (.pointer (some ⟨p, 0, none⟩)) := by
    rw [cell_past _ _ _ _ (by simp), cell_alloc1 _ _ _ _ rfl]
  have c1 : ((w.alloc (.cells #[.pointer (some ⟨p, 0, none⟩)] 25)).alloc (.cells #[.pointer none] 25)).cell? ⟨w.heap.size + 1, 0, none⟩ = some (.pointer none) := cell_alloc1 _ _ _ _ (by simp)
  have f1 : ((w.alloc (.cells #[.pointer (some ⟨p, 0, none⟩)] 25)).alloc (.cells #[.pointer none] 25)).frozen? ⟨w.heap.size + 1, 0, none⟩ = false := froz1 _ _ _ _ _ (by simp)
  have hcnt : ((w.alloc (.cells #[.pointer (some ⟨p, 0, none⟩)] 25)).alloc (.cells #[.pointer none] 25)).cell? ⟨p, 130, none⟩ = some (.int .i64 S.n) := by obtain ⟨V, h⟩ := hd.later hbel; exact h.cnt
  have hpos := ho.pos
  have HC : Hid (Calls Try.prog 33 #[.pointer (some ⟨p, 0, none⟩), .func (.func 57) #[] #[.pointer (some ⟨w.heap.size, 0, none⟩), .pointer (some ⟨w.heap.size + 1, 0, none⟩)], .slice none 0 0] ((w.alloc (.cells #[.pointer (some ⟨p, 0, none⟩)] 25)).alloc (.cells #[.pointer none] 25)) (fun e w' => (∃ k : Int, e = .returned (.int .i64 k)) ∧ ∃ N, w'.cell? ⟨w.heap.size + 1, 0, none⟩ = some (.pointer (some ⟨N, 0, none⟩)) ∧ DK (fun k => w.heap.size ≤ k ∧ k < w'.heap.size) w' N S ∧ Below w.heap.size w w')) := by
    refine Calls.mono (call_any p S.n 0 _ _ [] _ (fun k w' => ∃ N, w'.cell? ⟨w.heap.size + 1, 0, none⟩ = some (.pointer (some ⟨N, 0, none⟩)) ∧ DK (fun k => w.heap.size ≤ k ∧ k < w'.heap.size) w' N S ∧ Below w.heap.size w w') hcnt (by omega) (RF.nil _ _)
      ⟨57, #[], #[.pointer (some ⟨w.heap.size, 0, none⟩), .pointer (some ⟨w.heap.size + 1, 0, none⟩)], rfl, ent57, Calls.mono (copy1_any T _ p _ _ S (hd.later hbel) ho hs c0 c1 f1) ?_⟩) (fun e w' ⟨k, h1, h2⟩ => ⟨⟨k, h1⟩, h2⟩)
    rintro e w' ⟨rfl, w1, hb1, rfl, hdk⟩
    have hz : ((w.alloc (.cells #[.pointer (some ⟨p, 0, none⟩)] 25)).alloc (.cells #[.pointer none] 25)).heap.size = w.heap.size + 2 := by simp
    rw [hz] at hdk hb1 ⊢
    refine ⟨rfl, w.heap.size + 2, set_same _ (cell_later (by rw [hz]; exact hb1) c1), ?_, (hbel.trans (hb1.mono (by omega))).setCell (by show _ ≤ w.heap.size + 1; omega) _⟩
    have h1 := hdk.kept (T' := fun k => k = w.heap.size + 1) ((Kp.refl _ _).set ⟨w.heap.size + 1, 0, none⟩ (.pointer (some ⟨w.heap.size + 2, 0, none⟩)) rfl) (fun k hk he => by omega)
    exact h1.wide (fun k hk => ⟨by omega, by rw [size_set]; exact hk.2⟩) (fun k hk => hk.2)
  have hmf : ∀ (fn : Fn) (first cap : Array Value) (w : World), (Instr.makeFunc fn first cap).run Try.prog w = .ok (.func fn first cap) w := fun _ _ _ _ => rfl
  clear hd hbel c0 f1 hcnt
  go_enter Try.func26, Try.ntmps26
  go_wp2_with (first | (go_at_call 33; refine Calls.mono HC.out ?_; rintro e w2 ⟨⟨k, rfl⟩, N, hc, h1, h2⟩))
  go_ret
  exact ⟨N, rfl, h1, h2⟩
end Go.Proofs.Ytbbmbjlpccdclaa
