/- The walk over the laws' begun. -/
import Derived.Test.YtbbmbjlpccdclaaXk
namespace Go.Proofs.Ytbbmbjlpccdclaa
open Go.RowKit
set_option linter.unusedVariables false

theorem new_lp (files room : Nat) (w : World) (h1 : 1 ≤ files) (h2 : files ≤ 65) (h3 : room ≤ 1048576) :
    Calls Try.prog 10 #[.int .i64 files, .int .i64 room] w fun e w1 => e = .returned (.tuple #[.pointer (some ⟨w.heap.size, 0, none⟩), .int .i64 0]) ∧ DK (fun k => k = w.heap.size) w1 w.heap.size (newP files room) ∧ Below w.heap.size w w1 := new_yes files room w h1 h2 h3

theorem rnew_lp (files room : Nat) (w w1 : World) (h1 : 1 ≤ files) (h2 : files ≤ 65) (h3 : room ≤ 1048576) (hd : DK (fun k => k = w.heap.size) w1 w.heap.size (newP files room)) (hb : Below w.heap.size w w1) :
    Calls Try.prog 11 #[.int .i64 files, .int .i64 room] w1 fun e w2 => ∃ r g, e = .returned (.tuple #[.pointer (some ⟨r, 0, none⟩), .int .i64 0]) ∧ LP w.heap.size w2 w.heap.size r g (newP files room) 0 ∧ Below w.heap.size w w2 := by
  refine Calls.mono (rnew_yes files room w1 h1 h2 h3) ?_
  rintro e w2 ⟨q1, q2, q3⟩
  have hl : w.heap.size < w1.heap.size := hd.live _ rfl
  exact ⟨_, _, q1, lp_new h1 h2 h3 w.heap.size (Nat.le_refl _) hd hb (.inr hl) q2 q3, hb.trans (q3.mono hb.size)⟩

set_option maxRecDepth 1000000 in
set_option maxHeartbeats 2000000 in
theorem begun_any (a : Option Addr) (n c : Nat) (L : List Ac) (w : World) (hx : RAs w (.slice a n c) L) (hf : fewP L = true) (hn : FitN L) :
    Calls Try.prog 14 #[.slice a n c] w fun e w' => ∃ p, e = .returned (.pointer (some ⟨p, 0, none⟩)) ∧ LD w.heap.size w' p (playP (newP 3 4000) L) (Lk L.length) (Rk L.length) ∧ Below w.heap.size w w' := by
  have HI : Hid (Ins w.heap.size w L a) := hx.ins
  obtain ⟨hl, ho⟩ := few_len hf
  have HO : Hid (∀ x ∈ L, okA x = true) := ho
  have HF : Hid (FitN L) := hn
  obtain ⟨a', cap, he, _, _, _⟩ := hx
  cases he
  have HN : Hid _ := new_lp 3 4000 w (by omega) (by omega) (by omega)
  clear ho hn hf
  go_enter Try.func14, Try.ntmps14
  go_wp2_with fail
  refine Calls.mono HN.out ?_
  rintro e w1 ⟨rfl, hd1, hb1⟩
  have HR : Hid _ := rnew_lp 3 4000 w w1 (by omega) (by omega) (by omega) hd1 hb1
  clear hd1 hb1 HN
  go_wp2_with fail
  refine Calls.mono HR.out ?_
  rintro e w2 ⟨r, g, rfl, hlp, hb2⟩
  have HLP : Hid _ := hlp
  have HB2 : Hid _ := hb2
  clear hlp hb2 HR
  go_wp2_with fail
  go_loopw [7] (fun i wr => ∃ k : Nat, k ≤ L.length ∧ i = .int .i64 k ∧ Hid (LP w.heap.size wr w.heap.size r g (playP (newP 3 4000) (L.take k)) k) ∧ Hid (Below w.heap.size w wr)) (fun i _ => L.length - (intOf i).toNat)
  case atStart => exact ⟨0, Nat.zero_le _, rfl, HLP, HB2⟩
  case round =>
    obtain ⟨k, hk, rfl, HP, HB⟩ := hrel
    by_cases hlt : k < L.length
    · obtain ⟨blk, off, bv, kv, rfl, ⟨c0, c1, c2, c3, c4, hbb, hkk⟩, lb, lk⟩ := HI.out wr HB.out k L[k] (List.getElem?_eq_getElem hlt)
      have HS : Hid _ := lp_step HP.out (by omega) L[k] bv kv hbb hkk (HO.out _ (List.getElem_mem hlt)) (HF.out _ (List.getElem_mem hlt)) lb lk
      rw [← play_take _ _ _ hlt] at HS
      obtain ⟨ba, bc, rfl, _, _, _, _⟩ := hbb
      obtain ⟨ka, kc, rfl, _, _, _⟩ := hkk
      generalize L[k] = x at *
      clear HI HO HF lb lk
      go_wp2_with fail
      refine Calls.mono HS.out ?_
      rintro e w3 ⟨rfl, hp3, hb3⟩
      have HP3 : Hid _ := hp3
      have HB3 : Hid _ := hb3
      clear hp3 hb3 HS c0 c1 c2 c3 c4
      go_wp2_with fail
      go_roundw
      case rel => exact ⟨k + 1, by omega, by go_num, HP3, HB.out.trans HB3.out⟩
      case measure => simp [intOf]; omega
    · have hkk : k = L.length := by omega
      have HP2 : Hid (LP w.heap.size wr w.heap.size r g (playP (newP 3 4000) L) L.length) := by have := HP.out; rw [hkk, List.take_length] at this; exact this
      clear hkk HP HI HO HF
      go_wp2_with fail
      go_ret
      exact ⟨_, rfl, HP2.out.ld, HB.out⟩
end Go.Proofs.Ytbbmbjlpccdclaa
