/- The walks over disk.Append, Sync, Cut. -/
import Derived.Test.YtbbmbjlpccdclaaWk
namespace Go.Proofs.Ytbbmbjlpccdclaa
open Go.RowKit
set_option linter.unusedVariables false

/-- A call's answer, and what it made of the disk. -/
def WR (T : Nat → Prop) (w : World) (p : Nat) (r : Int × DS) (e : Ending) (w' : World) : Prop := e = .returned (.int .i64 r.1) ∧ DK (Wid T w w') w' p r.2 ∧ Kp T w w'

theorem DK.live {T : Nat → Prop} {w : World} {p : Nat} {S : DS} (h : DK T w p S) : ∀ k, T k → k < w.heap.size := by obtain ⟨V, h⟩ := h; exact h.live

theorem alloc3 (w : World) (o o' o'' : Obj) : Below w.heap.size w (((w.alloc o).alloc o').alloc o'') := (alloc2 w o o').alloc (by simp; omega) _
theorem alloc4 (w : World) (o o' o'' o3 : Obj) : Below w.heap.size w ((((w.alloc o).alloc o').alloc o'').alloc o3) := (alloc3 w o o' o'').alloc (by simp; omega) _
theorem alloc5 (w : World) (o o' o'' o3 o4 : Obj) : Below w.heap.size w (((((w.alloc o).alloc o').alloc o'').alloc o3).alloc o4) := (alloc4 w o o' o'' o3).alloc (by simp; omega) _

theorem append_call (T : Nat → Prop) (w : World) (p : Nat) (S : DS) (i : Int) (xv : Value) (l : List UInt8) (hd : DK T w p S) (ho : Okay S) (hs : Small 10000000 1000000000000 S) (hx : RB w xv l) (hl : l.length ≤ 10000000) (hxT : ∀ a n c, xv = .slice (some a) n c → ¬ T a.block) :
    Calls Try.prog 46 #[.pointer (some ⟨p, 0, none⟩), .int .i64 i, .func (.func 51) #[] #[.pointer (some ⟨w.heap.size, 0, none⟩)], .slice (some ⟨w.heap.size + 1 + 1 + 1, 0, none⟩) 1 1]
      ((((w.alloc (.cells #[xv] 33)).alloc (.cells #[.pointer (some ⟨p, 0, none⟩)] 25)).alloc (.cells #[.int .i64 l.length] 3)).alloc (.cells #[.func (.func 65) #[] #[.pointer (some ⟨w.heap.size + 1 + 1, 0, none⟩), .pointer (some ⟨w.heap.size + 1, 0, none⟩)]] 69))
      (fun e w' => WR T w p (appendP S i l) e w') := by
  have hbel := alloc4 w (.cells #[xv] 33) (.cells #[.pointer (some ⟨p, 0, none⟩)] 25) (.cells #[.int .i64 l.length] 3) (.cells #[.func (.func 65) #[] #[.pointer (some ⟨w.heap.size + 1 + 1, 0, none⟩), .pointer (some ⟨w.heap.size + 1, 0, none⟩)]] 69)
  have hT := hd.live
  have hG : ∀ k, w.heap.size ≤ k → ¬ T k := fun k hk h => by have := hT k h; omega
  have c0 : ((((w.alloc (.cells #[xv] 33)).alloc (.cells #[.pointer (some ⟨p, 0, none⟩)] 25)).alloc (.cells #[.int .i64 l.length] 3)).alloc (.cells #[.func (.func 65) #[] #[.pointer (some ⟨w.heap.size + 1 + 1, 0, none⟩), .pointer (some ⟨w.heap.size + 1, 0, none⟩)]] 69)).cell? ⟨w.heap.size, 0, none⟩ = some xv := by
    rw [cell_past _ _ _ _ (by simp <;> omega), cell_past _ _ _ _ (by simp <;> omega), cell_past _ _ _ _ (by simp), cell_alloc1 _ _ _ _ (by simp)]
  have c1 : ((((w.alloc (.cells #[xv] 33)).alloc (.cells #[.pointer (some ⟨p, 0, none⟩)] 25)).alloc (.cells #[.int .i64 l.length] 3)).alloc (.cells #[.func (.func 65) #[] #[.pointer (some ⟨w.heap.size + 1 + 1, 0, none⟩), .pointer (some ⟨w.heap.size + 1, 0, none⟩)]] 69)).cell? ⟨w.heap.size + 1, 0, none⟩ = some (.pointer (some ⟨p, 0, none⟩)) := by
    rw [cell_past _ _ _ _ (by simp <;> omega), cell_past _ _ _ _ (by simp), cell_alloc1 _ _ _ _ (by simp)]
  have c2 : ((((w.alloc (.cells #[xv] 33)).alloc (.cells #[.pointer (some ⟨p, 0, none⟩)] 25)).alloc (.cells #[.int .i64 l.length] 3)).alloc (.cells #[.func (.func 65) #[] #[.pointer (some ⟨w.heap.size + 1 + 1, 0, none⟩), .pointer (some ⟨w.heap.size + 1, 0, none⟩)]] 69)).cell? ⟨w.heap.size + 1 + 1, 0, none⟩ = some (.int .i64 l.length) := by
    rw [cell_past _ _ _ _ (by simp), cell_alloc1 _ _ _ _ (by simp)]
  refine Calls.mono (write_any T _ p S i (fitsP S l.length) _ _ (withP l) [_] (hd.later hbel) ho hs (.inr ⟨_, _, rfl, rfl, cell_alloc1 _ _ _ _ (by simp), rfl⟩) (.inr ⟨_, rfl, fun _ wx hk hdk => ?_⟩) (fun _ hm k _ hkn => ⟨⟨51, _, rfl, ent51, fun wx v hk hown => ?_⟩, ?_, ?_⟩) ⟨_, _, rfl⟩) ?_
  · obtain ⟨V, hdk⟩ := hdk
    exact ⟨65, #[], #[.pointer (some ⟨w.heap.size + 1 + 1, 0, none⟩), .pointer (some ⟨w.heap.size + 1, 0, none⟩)], rfl, ent65, fits1_any p (w.heap.size + 1 + 1) (w.heap.size + 1) S.room l.length wx (hk.cell c2 (hG (w.heap.size + 1 + 1) (by omega))) (hk.cell c1 (hG (w.heap.size + 1) (by omega))) hdk.rm⟩
  · have hx2 : RB wx xv l := (hx.later hbel).kept hk hxT
    exact append1_any v _ _ wx hown xv l w.heap.size (hk.cell c0 (hG w.heap.size (by omega))) hx2 (hs.len k) hl
  · have := hs.len k
    show ((S.fs k).b ++ l).length ≤ _
    rw [List.length_append]
    omega
  · show ((S.fs k).b ++ l).length ≤ _
    unfold fitsP at hm
    rw [List.length_append]
    split at hm
    · omega
    · cases hm
  · rintro e w' ⟨k, rfl, hq⟩
    obtain ⟨h1, h2, h3⟩ := hq.back hbel hT
    exact ⟨by rw [h1]; rfl, h2, h3⟩

set_option maxRecDepth 1000000 in
set_option maxHeartbeats 1000000 in
theorem append_any (T : Nat → Prop) (w : World) (p : Nat) (S : DS) (i : Int) (xv : Value) (l : List UInt8) (hd : DK T w p S) (ho : Okay S) (hs : Small 10000000 1000000000000 S) (hx : RB w xv l) (hl : l.length ≤ 10000000) (hxT : ∀ a n c, xv = .slice (some a) n c → ¬ T a.block) :
    Calls Try.prog 23 #[.pointer (some ⟨p, 0, none⟩), .int .i64 i, xv] w (WR T w p (appendP S i l)) := by
  have HC : Hid _ := append_call T w p S i xv l hd ho hs hx hl hxT
  obtain ⟨xa, xc, rfl, _, _, _, _⟩ := hx
  have hmf : ∀ (fn : Fn) (first cap : Array Value) (w : World), (Instr.makeFunc fn first cap).run Try.prog w = .ok (.func fn first cap) w := fun _ _ _ _ => rfl
  generalize appendP S i l = res at *
  clear hxT hd
  go_enter Try.func23, Try.ntmps23
  go_wp2_with (first
    | (go_at_call 53; refine Calls.mono (fits_any _ _ _) ?_; rintro e w2 ⟨rfl, rfl⟩)
    | (go_at_call 46; refine Calls.mono HC.out ?_; rintro e w2 ⟨rfl, h1, h2⟩))
  go_ret
  exact ⟨rfl, h1, h2⟩

set_option maxRecDepth 1000000 in
set_option maxHeartbeats 1000000 in
theorem sync_any (T : Nat → Prop) (w : World) (p : Nat) (S : DS) (i : Int) (hd : DK T w p S) (ho : Okay S) (hs : Small 10000000 1000000000000 S) :
    Calls Try.prog 22 #[.pointer (some ⟨p, 0, none⟩), .int .i64 i] w (WR T w p (syncP S i)) := by
  have HC : Hid (Calls Try.prog 46 #[.pointer (some ⟨p, 0, none⟩), .int .i64 i, .func (.func 50) #[] #[], .slice none 0 0] w (WR T w p (syncP S i))) := by
    refine Calls.mono (write_any T w p S i 0 _ _ (fun f => firstP f.b.length f) [] hd ho hs (.inl ⟨rfl, rfl⟩) (.inl ⟨rfl, rfl⟩) (fun _ hm k _ hkn => ⟨⟨50, _, rfl, ent50, fun wx v hk hown => ?_⟩, ?_, ?_⟩) ⟨_, _, rfl⟩) ?_
    · exact sync1_any v _ _ wx hown (hs.len k)
    · have := hs.len k
      show ((S.fs k).b.take _).length ≤ _
      rw [List.length_take]
      omega
    · show ((S.fs k).b.take _).length ≤ _
      rw [List.length_take]
      omega
    · rintro e w' ⟨k, rfl, h1, h2, h3⟩
      exact ⟨by rw [h1]; rfl, h2, h3⟩
  generalize syncP S i = res at *
  clear hd
  go_enter Try.func22, Try.ntmps22
  go_wp2_with (first | (go_at_call 46; refine Calls.mono HC.out ?_; rintro e w2 ⟨rfl, h1, h2⟩))
  go_ret
  exact ⟨rfl, h1, h2⟩

theorem cut_call (T : Nat → Prop) (w : World) (p : Nat) (S : DS) (i n : Int) (hd : DK T w p S) (ho : Okay S) (hs : Small 10000000 1000000000000 S) :
    Calls Try.prog 46 #[.pointer (some ⟨p, 0, none⟩), .int .i64 i, .func (.func 47) #[] #[.pointer (some ⟨w.heap.size, 0, none⟩)], .slice (some ⟨w.heap.size + 1 + 1 + 1 + 1, 0, none⟩) 1 1]
      (((((w.alloc (.cells #[.int .i64 n] 3)).alloc (.cells #[.pointer (some ⟨p, 0, none⟩)] 25)).alloc (.cells #[.int .i64 i] 3)).alloc (.cells #[.int .i64 n] 3)).alloc (.cells #[.func (.func 64) #[] #[.pointer (some ⟨w.heap.size + 1 + 1 + 1, 0, none⟩), .pointer (some ⟨w.heap.size + 1, 0, none⟩), .pointer (some ⟨w.heap.size + 1 + 1, 0, none⟩)]] 69))
      (fun e w' => WR T w p (cutP S i n) e w') := by
  have hbel := alloc5 w (.cells #[.int .i64 n] 3) (.cells #[.pointer (some ⟨p, 0, none⟩)] 25) (.cells #[.int .i64 i] 3) (.cells #[.int .i64 n] 3) (.cells #[.func (.func 64) #[] #[.pointer (some ⟨w.heap.size + 1 + 1 + 1, 0, none⟩), .pointer (some ⟨w.heap.size + 1, 0, none⟩), .pointer (some ⟨w.heap.size + 1 + 1, 0, none⟩)]] 69)
  have hT := hd.live
  have hG : ∀ k, w.heap.size ≤ k → ¬ T k := fun k hk h => by have := hT k h; omega
  obtain ⟨f64, hf64⟩ : ∃ f, f = Value.func (.func 64) #[] #[.pointer (some ⟨w.heap.size + 1 + 1 + 1, 0, none⟩), .pointer (some ⟨w.heap.size + 1, 0, none⟩), .pointer (some ⟨w.heap.size + 1 + 1, 0, none⟩)] := ⟨_, rfl⟩
  rw [← hf64] at hbel ⊢
  have c0 : (((((w.alloc (.cells #[.int .i64 n] 3)).alloc (.cells #[.pointer (some ⟨p, 0, none⟩)] 25)).alloc (.cells #[.int .i64 i] 3)).alloc (.cells #[.int .i64 n] 3)).alloc (.cells #[f64] 69)).cell? ⟨w.heap.size, 0, none⟩ = some (.int .i64 n) := by
    rw [cell_past _ _ _ _ (by simp <;> omega), cell_past _ _ _ _ (by simp <;> omega), cell_past _ _ _ _ (by simp <;> omega), cell_past _ _ _ _ (by simp), cell_alloc1 _ _ _ _ (by simp)]
  have c1 : (((((w.alloc (.cells #[.int .i64 n] 3)).alloc (.cells #[.pointer (some ⟨p, 0, none⟩)] 25)).alloc (.cells #[.int .i64 i] 3)).alloc (.cells #[.int .i64 n] 3)).alloc (.cells #[f64] 69)).cell? ⟨w.heap.size + 1, 0, none⟩ = some (.pointer (some ⟨p, 0, none⟩)) := by
    rw [cell_past _ _ _ _ (by simp <;> omega), cell_past _ _ _ _ (by simp <;> omega), cell_past _ _ _ _ (by simp), cell_alloc1 _ _ _ _ (by simp)]
  have c2 : (((((w.alloc (.cells #[.int .i64 n] 3)).alloc (.cells #[.pointer (some ⟨p, 0, none⟩)] 25)).alloc (.cells #[.int .i64 i] 3)).alloc (.cells #[.int .i64 n] 3)).alloc (.cells #[f64] 69)).cell? ⟨w.heap.size + 1 + 1, 0, none⟩ = some (.int .i64 i) := by
    rw [cell_past _ _ _ _ (by simp <;> omega), cell_past _ _ _ _ (by simp), cell_alloc1 _ _ _ _ (by simp)]
  have c3 : (((((w.alloc (.cells #[.int .i64 n] 3)).alloc (.cells #[.pointer (some ⟨p, 0, none⟩)] 25)).alloc (.cells #[.int .i64 i] 3)).alloc (.cells #[.int .i64 n] 3)).alloc (.cells #[f64] 69)).cell? ⟨w.heap.size + 1 + 1 + 1, 0, none⟩ = some (.int .i64 n) := by
    rw [cell_past _ _ _ _ (by simp), cell_alloc1 _ _ _ _ (by simp)]
  refine Calls.mono (write_any T _ p S i (reachP S i n) _ _ (firstP n.toNat) [f64] (hd.later hbel) ho hs (.inr ⟨_, _, rfl, rfl, cell_alloc1 _ _ _ _ (by simp), by rw [hf64]; rfl⟩) (.inr ⟨_, rfl, fun hh wx hk hdk => ?_⟩) (fun _ hm k hik hkn => ⟨⟨47, _, rfl, ent47, fun wx v hk hown => ?_⟩, ?_, ?_⟩) ⟨_, _, rfl⟩) ?_
  · obtain ⟨V, hdk⟩ := hdk
    obtain ⟨k, rfl, hkn⟩ := hasB_true hh
    have hfew := ho.few
    have hf := hdk.file k (by omega)
    obtain ⟨a, c, hV, _, _, _⟩ := owns_slice hf.2.2
    rw [hV] at hf
    refine ⟨64, #[], #[.pointer (some ⟨w.heap.size + 1 + 1 + 1, 0, none⟩), .pointer (some ⟨w.heap.size + 1, 0, none⟩), .pointer (some ⟨w.heap.size + 1 + 1, 0, none⟩)], hf64, ent64, ?_⟩
    exact reaches1_any p (w.heap.size + 1 + 1 + 1) (w.heap.size + 1) (w.heap.size + 1 + 1) k (S.fs k).b.length a c n wx (by omega) (hs.len k) (hk.cell c3 (hG (w.heap.size + 1 + 1 + 1) (by omega))) (hk.cell c2 (hG (w.heap.size + 1 + 1) (by omega))) (hk.cell c1 (hG (w.heap.size + 1) (by omega))) hf.1
  · subst hik
    unfold reachP at hm
    split at hm
    · rename_i hr
      obtain ⟨m, rfl⟩ : ∃ m : Nat, n = m := ⟨n.toNat, by omega⟩
      exact cut1_any v _ _ wx hown m (by have := hr.2; simp only [Int.toNat_natCast] at this; omega) w.heap.size (hk.cell c0 (hG w.heap.size (by omega)))
    · cases hm
  · have := hs.len k
    show ((S.fs k).b.take _).length ≤ _
    rw [List.length_take]
    omega
  · show ((S.fs k).b.take _).length ≤ _
    rw [List.length_take]
    omega
  · rintro e w' ⟨k, rfl, hq⟩
    obtain ⟨h1, h2, h3⟩ := hq.back hbel hT
    exact ⟨by rw [h1]; rfl, h2, h3⟩

set_option maxRecDepth 1000000 in
set_option maxHeartbeats 1000000 in
theorem cut_any (T : Nat → Prop) (w : World) (p : Nat) (S : DS) (i n : Int) (hd : DK T w p S) (ho : Okay S) (hs : Small 10000000 1000000000000 S) :
    Calls Try.prog 21 #[.pointer (some ⟨p, 0, none⟩), .int .i64 i, .int .i64 n] w (WR T w p (cutP S i n)) := by
  have HC : Hid _ := cut_call T w p S i n hd ho hs
  have hmf : ∀ (fn : Fn) (first cap : Array Value) (w : World), (Instr.makeFunc fn first cap).run Try.prog w = .ok (.func fn first cap) w := fun _ _ _ _ => rfl
  generalize cutP S i n = res at *
  clear hd
  go_enter Try.func21, Try.ntmps21
  go_wp2_with (first
    | (go_at_call 49; refine Calls.mono (reaches_any _ _ _ _) ?_; rintro e w2 ⟨rfl, rfl⟩)
    | (go_at_call 46; refine Calls.mono HC.out ?_; rintro e w2 ⟨rfl, h1, h2⟩))
  go_ret
  exact ⟨rfl, h1, h2⟩
end Go.Proofs.Ytbbmbjlpccdclaa
