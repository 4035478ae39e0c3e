/- Append of bytes that came in. -/
import Derived.Test.YtbbmbjlpccdclaaXi
namespace Go.Proofs.Ytbbmbjlpccdclaa
open Go.RowKit
set_option linter.unusedVariables false

theorem RB.kept1 {w w' : World} {T : Nat → Prop} {v : Value} {l : List UInt8} (h : RB w v l) (hk : Kp T w w') (hv : 0 < l.length → ∀ a n c, v = .slice (some a) n c → ¬ T a.block) : RB w' v l := h.kept0 hk hv

theorem append_call0 (T : Nat → Prop) (w : World) (p : Nat) (S : DS) (i : Int) (xv : Value) (l : List UInt8) (hd : DK T w p S) (ho : Okay S) (hs : Small 10000000 1000000000000 S) (hx : RB w xv l) (hl : l.length ≤ 10000000) (hxT : 0 < l.length → ∀ a n c, xv = .slice (some a) n c → ¬ T a.block) :
    Calls Try.prog 46 #[.pointer (some ⟨p, 0, none⟩), .int .i64 i, .func (.func 51) #[] #[.pointer (some ⟨w.heap.size, 0, none⟩)], .slice (some ⟨w.heap.size + 1 + 1 + 1, 0, none⟩) 1 1]
      ((((w.alloc (.cells #[xv] 33)).alloc (.cells #[.pointer (some ⟨p, 0, none⟩)] 25)).alloc (.cells #[.int .i64 l.length] 3)).alloc (.cells #[.func (.func 65) #[] #[.pointer (some ⟨w.heap.size + 1 + 1, 0, none⟩), .pointer (some ⟨w.heap.size + 1, 0, none⟩)]] 69))
      (fun e w' => WR T w p (appendP S i l) e w') := by
  have hbel := alloc4 w (.cells #[xv] 33) (.cells #[.pointer (some ⟨p, 0, none⟩)] 25) (.cells #[.int .i64 l.length] 3) (.cells #[.func (.func 65) #[] #[.pointer (some ⟨w.heap.size + 1 + 1, 0, none⟩), .pointer (some ⟨w.heap.size + 1, 0, none⟩)]] 69)
  have hT := hd.live
  have hG : ∀ k, w.heap.size ≤ k → ¬ T k := fun k hk h => by have := hT k h; omega
  have c0 : ((((w.alloc (.cells #[xv] 33)).alloc (.cells #[.pointer (some ⟨p, 0, none⟩)] 25)).alloc (.cells #[.int .i64 l.length] 3)).alloc (.cells #[.func (.func 65) #[] #[.pointer (some ⟨w.heap.size + 1 + 1, 0, none⟩), .pointer (some ⟨w.heap.size + 1, 0, none⟩)]] 69)).cell? ⟨w.heap.size, 0, none⟩ = some xv := by
    rw [cell_past _ _ _ _ (by simp <;> omega), cell_past _ _ _ _ (by simp <;> omega), cell_past _ _ _ _ (by simp), cell_alloc1 _ _ _ _ (by simp)]
  have c1 : ((((w.alloc (.cells #[xv] 33)).alloc (.cells #[.pointer (some ⟨p, 0, none⟩)] 25)).alloc (.cells #[.int .i64 l.length] 3)).alloc (.cells #[.func (.func 65) #[] #[.pointer (some ⟨w.heap.size + 1 + 1, 0, none⟩), .pointer (some ⟨w.heap.size + 1, 0, none⟩)]] 69)).cell? ⟨w.heap.size + 1, 0, none⟩ = some (.pointer (some ⟨p, 0, none⟩)) := by
    rw [cell_past _ _ _ _ (by simp <;> omega), cell_past _ _ _ _ (by simp), cell_alloc1 _ _ _ _ (by simp)]
  have c2 : ((((w.alloc (.cells #[xv] 33)).alloc (.cells #[.pointer (some ⟨p, 0, none⟩)] 25)).alloc (.cells #[.int .i64 l.length] 3)).alloc (.cells #[.func (.func 65) #[] #[.pointer (some ⟨w.heap.size + 1 + 1, 0, none⟩), .pointer (some ⟨w.heap.size + 1, 0, none⟩)]] 69)).cell? ⟨w.heap.size + 1 + 1, 0, none⟩ = some (.int .i64 l.length) := by
    rw [cell_past _ _ _ _ (by simp), cell_alloc1 _ _ _ _ (by simp)]
  refine Calls.mono (write_any T _ p S i (fitsP S l.length) _ _ (withP l) [_] (hd.later hbel) ho hs (.inr ⟨_, _, rfl, rfl, cell_alloc1 _ _ _ _ (by simp), rfl⟩) (.inr ⟨_, rfl, fun _ wx hk hdk => ?_⟩) (fun _ hm k _ hkn => ⟨⟨51, _, rfl, ent51, fun wx v hk hown => ?_⟩, ?_, ?_⟩) ⟨_, _, rfl⟩) ?_
  · obtain ⟨V, hdk⟩ := hdk
    exact ⟨65, #[], #[.pointer (some ⟨w.heap.size + 1 + 1, 0, none⟩), .pointer (some ⟨w.heap.size + 1, 0, none⟩)], rfl, ent65, fits1_any p (w.heap.size + 1 + 1) (w.heap.size + 1) S.room l.length wx (hk.cell c2 (hG (w.heap.size + 1 + 1) (by omega))) (hk.cell c1 (hG (w.heap.size + 1) (by omega))) hdk.rm⟩
  · have hx2 : RB wx xv l := (hx.later hbel).kept1 hk hxT
    exact append1_any v _ _ wx hown xv l w.heap.size (hk.cell c0 (hG w.heap.size (by omega))) hx2 (hs.len k) hl
  · have := hs.len k
    show ((S.fs k).b ++ l).length ≤ _
    rw [List.length_append]
    omega
  · show ((S.fs k).b ++ l).length ≤ _
    unfold fitsP at hm
    rw [List.length_append]
    split at hm
    · omega
    · cases hm
  · rintro e w' ⟨k, rfl, hq⟩
    obtain ⟨h1, h2, h3⟩ := hq.back hbel hT
    exact ⟨by rw [h1]; rfl, h2, h3⟩

set_option maxRecDepth 1000000 in
set_option maxHeartbeats 1000000 in
theorem append_any0 (T : Nat → Prop) (w : World) (p : Nat) (S : DS) (i : Int) (xv : Value) (l : List UInt8) (hd : DK T w p S) (ho : Okay S) (hs : Small 10000000 1000000000000 S) (hx : RB w xv l) (hl : l.length ≤ 10000000) (hxT : 0 < l.length → ∀ a n c, xv = .slice (some a) n c → ¬ T a.block) :
    Calls Try.prog 23 #[.pointer (some ⟨p, 0, none⟩), .int .i64 i, xv] w (WR T w p (appendP S i l)) := by
  have HC : Hid _ := append_call0 T w p S i xv l hd ho hs hx hl hxT
  obtain ⟨xa, xc, rfl, _, _, _, _⟩ := hx
  have hmf : ∀ (fn : Fn) (first cap : Array Value) (w : World), (Instr.makeFunc fn first cap).run Try.prog w = .ok (.func fn first cap) w := fun _ _ _ _ => rfl
  generalize appendP S i l = res at *
  clear hxT hd
  go_enter Try.func23, Try.ntmps23
  go_wp2_with (first
    | (go_at_call 53; refine Calls.mono (fits_any _ _ _) ?_; rintro e w2 ⟨rfl, rfl⟩)
    | (go_at_call 46; refine Calls.mono HC.out ?_; rintro e w2 ⟨rfl, h1, h2⟩))
  go_ret
  exact ⟨rfl, h1, h2⟩


theorem d_append0 {B : Nat} {w : World} {p : Nat} {S : DS} {L R : Nat} (h : LD B w p S L R) (i : Int) (xv : Value) (l : List UInt8) (hx : RB w xv l) (hlow : 0 < l.length → ∀ a n c, xv = .slice (some a) n c → a.block < B) (hl : l.length ≤ 1000000) (hL : L ≤ 10000000) (hR : R ≤ 1000000000000) :
    Calls Try.prog 23 #[.pointer (some ⟨p, 0, none⟩), .int .i64 i, xv] w fun e w' => e = .returned (.int .i64 (appendP S i l).1) ∧ LD B w' p (appendP S i l).2 (L + l.length) R ∧ Below B w w' := by
  obtain ⟨⟨T, h1, h2⟩, h3, h4, h5⟩ := h
  refine Calls.mono (append_any0 T _ p S i _ l h1 h3 (small_mono h4 hL hR) hx (by omega) (fun h0 a n c he hT => by have := hlow h0 a n c he; have := h2 _ hT; omega)) ?_
  intro e w' hw
  exact hw.ld h2 h5 (okay_append h3 i l) (small_append h4 i l)
end Go.Proofs.Ytbbmbjlpccdclaa
