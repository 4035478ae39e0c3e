/- The walk over Drop. -/
import Derived.Test.YtfhmmiilenonkaaRh
namespace Go.Proofs.Ytfhmmiilenonkaa

open Go.RowKit

set_option maxRecDepth 1000000

set_option linter.unusedVariables false

/-- What Drop makes of a deque. -/
def dropP (k : Ky) (L : List Jb) : List Jb := L.filter (fun x => !isK k x)

theorem drop_end {T : Nat → Prop} {w w1 w2 : World} {p : Nat} {v : Value} {M M' : List JbP} {a : Option Addr} {n c : Nat} (h : DV T w p v M) (hb : Below w.heap.size w w1) (ho : OwR w2 (.slice a n c) M') (hown : (Value.slice a n c).ownBlock = v.ownBlock) (hk : Kp (fun b => v.ownBlock = some b) w1 w2) (hM : ∀ y ∈ M', y ∈ M) :
    DV T (w2.setCell ⟨p, 1, none⟩ (.slice a n c)) p (.slice a n c) M' ∧ Kp T w1 (w2.setCell ⟨p, 1, none⟩ (.slice a n c)) := by
  have hk4 : Kp (fun k => k = p) w2 (w2.setCell ⟨p, 1, none⟩ (.slice a n c)) := (Kp.refl _ _).set _ _ rfl
  have hp2 : w2.heap[p]? = some (.cells #[.bool true, v] 93 (0, 0)) := hk.row (row_later h.blk hb) (fun e => (h.mine p e).2 rfl)
  have hpl := h.live p h.own
  have hsz := hb.size
  have hkk : Kp T w1 (w2.setCell ⟨p, 1, none⟩ (.slice a n c)) := (hk.mono (fun b hb9 => (h.mine b hb9).1)).trans hk4 (fun x hx _ => by rw [hx]; exact h.own)
  refine ⟨⟨row_set hp2 1 _, ho.kept hk4 (fun g hg e => (h.mine g (by rw [← hown]; exact hg)).2 e), h.own, fun g hg => h.mine g (by rw [← hown]; exact hg), fun k hk9 => by have := h.live k hk9; have := hkk.size; omega, fun x hx => ?_⟩, hkk⟩
  have h1 := (((h.st x (hM x hx)).later hb).kept hk (fun k hk9 => hk9.2.2)).kept hk4 (fun k hk9 => hk9.2.1)
  rw [hown]
  exact h1

set_option maxHeartbeats 4000000 in
theorem drop1_any (T : Nat → Prop) (w w1 : World) (p bd bk bn : Nat) (k : Ky) (v : Value) (M : List JbP) (h : DV T w p v M) (hb : Below w.heap.size w w1) (hbd : w1.heap[bd]? = some (.cells #[.pointer (some ⟨p, 0, none⟩)] 53 (0, 0))) (hbk : w1.heap[bk]? = some (.cells (kcs k) 34 (0, 0)))
    (hbn : w1.heap[bn]? = some (.cells #[.int .i64 0] 3 (0, 0))) (hld : w.heap.size ≤ bd) (hlk : w.heap.size ≤ bk) (hln : w.heap.size ≤ bn) (hM : M.length ≤ 1000000) :
    Calls Try.prog 60 #[.pointer (some ⟨bd, 0, none⟩), .pointer (some ⟨bk, 0, none⟩), .pointer (some ⟨bn, 0, none⟩)] w1 fun x w' => ∃ q : Int, x = .returned (.int .i64 q) ∧ w'.heap[bn]? = some (.cells #[.int .i64 ((M.length : Int) - ((M.filter (fun x => !isK k x.1)).length : Int))] 3 (0, 0)) ∧ WS T w p ((M.filter (fun x => !isK k x.1)).map Prod.fst) w' := by
  obtain ⟨ra, rc, rfl, hrc1, hrc2⟩ := h.row.slice
  have hpl := h.live p h.own
  have nbt : ∀ b, w.heap.size ≤ b → ¬ T b := fun b hb9 e => by have := h.live b e; omega
  have nbr : ∀ b, w.heap.size ≤ b → ¬ (Value.slice ra M.length rc).ownBlock = some b := fun b hb9 e => nbt b hb9 (h.mine b e).1
  have hcd : w1.cell? ⟨bd, 0, none⟩ = some (.pointer (some ⟨p, 0, none⟩)) := (cell_row hbd 0).trans rfl
  have hc10 : w1.cell? ⟨p, 1, none⟩ = some (.slice ra M.length rc) := (cell_row (row_later h.blk hb) 1).trans rfl
  have HML : Hid ((M.filter (fun x => !isK k x.1)).length ≤ M.length) := List.length_filter_le _ _
  have hsl : SlV M := fun x hx => by
    obtain ⟨⟨a, c, e, _⟩, _⟩ := h.st x hx
    exact ⟨_, _, _, e⟩
  have HDEL : Hid _ := delete_any k M _ bk w1.drew (h.row.later (hb.trans ((Below.refl _ _).drew.mono hb.size))) hbk (nbr bk hlk) hM hsl
  have HT : Hid (∀ {w2 : World}, Kp (fun b => (Value.slice ra M.length rc).ownBlock = some b) w1.drew w2 → w2.cell? ⟨bd, 0, none⟩ = some (.pointer (some ⟨p, 0, none⟩)) ∧ w2.cell? ⟨p, 1, none⟩ = some (.slice ra M.length rc) ∧ w2.frozen? ⟨p, 1, none⟩ = false) := by
    show ∀ {w2 : World}, _
    intro w2 hk2
    have hr := hk2.row (row_later h.blk (hb.trans ((Below.refl _ _).drew.mono hb.size))) (fun e => (h.mine p e).2 rfl)
    exact ⟨hk2.cell hcd (nbr bd hld), (cell_row hr 1).trans rfl, froz_row hr 1⟩
  have HS2 : Hid (∀ {W : World} {u : Value}, W.cell? ⟨bd, 0, none⟩ = some (.pointer (some ⟨p, 0, none⟩)) → (W.setCell ⟨p, 1, none⟩ u).cell? ⟨bd, 0, none⟩ = some (.pointer (some ⟨p, 0, none⟩))) := by
    show ∀ {W : World} {u : Value}, _
    intro W u hS
    have k9 : Kp (fun k => k = p) W (W.setCell ⟨p, 1, none⟩ u) := (Kp.refl _ _).set _ _ rfl
    exact k9.cell hS (show ¬ bd = p by omega)
  have HE : Hid (∀ {w2 : World} {na : Option Addr} {nn nc : Nat}, OwR w2 (.slice na nn nc) (M.filter (fun x => !isK k x.1)) → (Value.slice na nn nc).ownBlock = (Value.slice ra M.length rc).ownBlock → Kp (fun b => (Value.slice ra M.length rc).ownBlock = some b) w1.drew w2 → DV T (w2.setCell ⟨p, 1, none⟩ (.slice na nn nc)) p (.slice na nn nc) (M.filter (fun x => !isK k x.1)) ∧ Kp T w1.drew (w2.setCell ⟨p, 1, none⟩ (.slice na nn nc))) := by
    show ∀ {w2 : World} {na : Option Addr} {nn nc : Nat}, _
    intro w2 na nn nc h1 h2 h3
    exact drop_end h (hb.trans ((Below.refl _ _).drew.mono hb.size)) h1 h2 h3 (fun y hy => (List.mem_filter.1 hy).1)
  have hS0 : w1.drew.cell? ⟨bd, 0, none⟩ = some (.pointer (some ⟨p, 0, none⟩)) := hcd
  have HX : Hid (∀ (z : Option Addr × Nat × Nat) (W : World), DV T W p (.slice z.1 z.2.1 z.2.2) (M.filter (fun x => !isK k x.1)) ∧ Kp T w1.drew W → W.cell? ⟨bd, 0, none⟩ = some (.pointer (some ⟨p, 0, none⟩)) ∧ W.cell? ⟨p, 1, none⟩ = some (.slice z.1 (M.filter (fun x => !isK k x.1)).length z.2.2) ∧ W.heap[bn]? = some (.cells #[.int .i64 0] 3 (0, 0)) ∧ z.2.1 = (M.filter (fun x => !isK k x.1)).length) := by
    show ∀ (z : Option Addr × Nat × Nat) (W : World), _
    intro z W hzW
    obtain ⟨hd, hkk⟩ := hzW
    obtain ⟨a9, c9, he, _⟩ := hd.row.slice
    have e2 : z.2.1 = _ := (Value.slice.inj he).2.1
    refine ⟨hkk.cell hcd (nbt bd hld), ?_, hkk.row hbn (nbt bn hln), e2⟩
    rw [← e2]
    exact (cell_row hd.blk 1).trans rfl
  have HB : Hid (Kp T w w1.drew) := Kp.of_below T (hb.trans ((Below.refl _ _).drew.mono hb.size))
  have HZ : Hid (∀ (W : World) (u : Value), DQ T W p ((M.filter (fun x => !isK k x.1)).map Prod.fst) → DQ T (W.setCell ⟨bn, 0, none⟩ u) p ((M.filter (fun x => !isK k x.1)).map Prod.fst) ∧ Kp (fun b => b = bn) W (W.setCell ⟨bn, 0, none⟩ u)) := by
    show ∀ (W : World) (u : Value), _
    intro W u hd
    have k9 : Kp (fun k => k = bn) W (W.setCell ⟨bn, 0, none⟩ u) := (Kp.refl _ _).set _ _ rfl
    exact ⟨hd.kept k9 (fun b hb9 e => nbt bn hln (by rw [← e]; exact hb9)), k9⟩
  obtain ⟨fl, HFL⟩ : ∃ n, Hid ((M.filter (fun x => !isK k x.1)).length = n) := ⟨_, rfl⟩
  rw [HFL.out] at HX HML ⊢
  have hnb : ¬ w.heap.size ≤ bn → False := fun h9 => h9 hln
  obtain ⟨ml, hml⟩ : ∃ n, M.length = n := ⟨_, rfl⟩
  rw [hml] at hM hrc1 hc10 HDEL HT HE HML ⊢
  have hmf : ∀ (fn : Fn) (first cap : Array Value) (w : World), (Instr.makeFunc fn first cap).run Try.prog w = .ok (.func fn first cap) w := fun _ _ _ _ => rfl
  have HLN : Hid (w.heap.size ≤ bn) := hln
  have hfl : fl ≤ ml := HML.out
  clear h hb hbd hbk hbn hsl nbt nbr hml hnb
  go_enter Try.func60, Try.ntmps60
  go_wp2_with fail
  refine region_thenG (β := Option Addr × Nat × Nat) (fun z => [(10, .pointer (some ⟨p, 0, none⟩)), (11, .pointer (some ⟨p, 0, none⟩)), (12, .pointer (some ⟨p, 0, none⟩)), (13, .pointer (some ⟨p, 1, none⟩)), (14, .slice ra ml rc), (15, .func (.func 62) #[] #[.pointer (some ⟨bk, 0, none⟩)]), (16, .slice z.1 z.2.1 z.2.2), (17, .pointer (some ⟨p, 0, none⟩)), (18, .pointer (some ⟨p, 1, none⟩))]) (fun z W => DV T W p (.slice z.1 z.2.1 z.2.2) (M.filter (fun x => !isK k x.1)) ∧ Kp T w1.drew W) ?_ ?_
  · refine wp_region_held (S := fun W => W.cell? ⟨bd, 0, none⟩ = some (.pointer (some ⟨p, 0, none⟩))) (by kernel_rfl) ?_
    simp only [List.size_toArray, List.length_cons, List.length_nil, Nat.reduceAdd, Array.replicate_succ, Array.replicate_zero, List.push_toArray, List.nil_append, List.cons_append]
    refine takeD (i := 0) (d := 10) (v := .pointer (some ⟨p, 0, none⟩)) (fuel := 9) rfl rfl (by kernel_rfl) (by kernel_rfl) (by kernel_rfl) (fun _ _ _ h => by cases h.1) (.inl ⟨by kernel_rfl, fun wx h => by have y0 := h; go_simp⟩) hS0 ?_
    simp only [List.setIfInBounds_toArray, List.set_cons_succ, List.set_cons_zero]
    refine takeD (i := 1) (d := 11) (v := .pointer (some ⟨p, 0, none⟩)) (fuel := 8) rfl rfl (by kernel_rfl) (by kernel_rfl) (by kernel_rfl) (fun _ _ _ h => by cases h.1) (.inl ⟨by kernel_rfl, fun wx h => by have y0 := h; go_simp⟩) hS0 ?_
    simp only [List.setIfInBounds_toArray, List.set_cons_succ, List.set_cons_zero]
    refine takeD (i := 2) (d := 12) (v := .pointer (some ⟨p, 0, none⟩)) (fuel := 7) rfl rfl (by kernel_rfl) (by kernel_rfl) (by kernel_rfl) (fun _ _ _ h => by cases h.1) (.inl ⟨by kernel_rfl, fun _ _ => by go_simp⟩) hS0 ?_
    simp only [List.setIfInBounds_toArray, List.set_cons_succ, List.set_cons_zero]
    refine takeD (i := 3) (d := 13) (v := .pointer (some ⟨p, 1, none⟩)) (fuel := 6) rfl rfl (by kernel_rfl) (by kernel_rfl) (by kernel_rfl) (fun _ _ _ h => by cases h.1) (.inl ⟨by kernel_rfl, fun _ _ => by go_simp⟩) hS0 ?_
    simp only [List.setIfInBounds_toArray, List.set_cons_succ, List.set_cons_zero]
    refine takeD (i := 5) (d := 15) (v := .func (.func 62) #[] #[.pointer (some ⟨bk, 0, none⟩)]) (fuel := 5) rfl rfl (by kernel_rfl) (by kernel_rfl) (by kernel_rfl) (fun _ _ _ h => by cases h.1) (.inl ⟨by kernel_rfl, fun _ _ => by go_simp⟩) hS0 ?_
    simp only [List.setIfInBounds_toArray, List.set_cons_succ, List.set_cons_zero]
    refine wpAnyH_all (fuel := 4) (rs := [4]) (by kernel_rfl) (by decide) ?_
    refine List.forall_mem_singleton.2 ?_
    refine wpOp_value (i := 4) (d := 14) (v := .slice ra ml rc) rfl rfl (by kernel_rfl) (by have y0 := hc10; go_simp) ⟨hS0, ?_⟩
    simp only [List.setIfInBounds_toArray, List.set_cons_succ, List.set_cons_zero]
    refine wpAnyH_all (fuel := 3) (rs := [6]) (by kernel_rfl) (by decide) ?_
    refine List.forall_mem_singleton.2 ?_
    refine wpOp_calls (i := 6) (d := 16) (f := 61) (args := #[.slice ra ml rc, .func (.func 62) #[] #[.pointer (some ⟨bk, 0, none⟩)]]) rfl rfl (by kernel_rfl) (by kernel_rfl) _ HDEL.out ?_ (fun _ _ h => by obtain ⟨_, _, _, h1, _⟩ := h; cases h1) (fun _ h => by obtain ⟨_, _, _, h1, _⟩ := h; cases h1)
    rintro _ w2 ⟨na, nc, nn, h1, ho2, hown2, hk2⟩
    cases h1
    obtain ⟨q0, q1, q2⟩ := HT.out hk2
    refine ⟨q0, ?_⟩
    simp only [List.setIfInBounds_toArray, List.set_cons_succ, List.set_cons_zero]
    refine takeD (i := 7) (d := 17) (v := .pointer (some ⟨p, 0, none⟩)) (fuel := 2) rfl rfl (by kernel_rfl) (by kernel_rfl) (by kernel_rfl) (fun _ _ _ h => by cases h.1) (.inl ⟨by kernel_rfl, fun _ _ => by go_simp⟩) q0 ?_
    simp only [List.setIfInBounds_toArray, List.set_cons_succ, List.set_cons_zero]
    refine takeD (i := 8) (d := 18) (v := .pointer (some ⟨p, 1, none⟩)) (fuel := 1) rfl rfl (by kernel_rfl) (by kernel_rfl) (by kernel_rfl) (fun _ _ _ h => by cases h.1) (.inl ⟨by kernel_rfl, fun _ _ => by go_simp⟩) q0 ?_
    simp only [List.setIfInBounds_toArray, List.set_cons_succ, List.set_cons_zero]
    refine wpAnyH_all (fuel := 0) (rs := [9]) (by kernel_rfl) (by decide) ?_
    refine List.forall_mem_singleton.2 ?_
    refine wpOp_skip (i := 9) rfl rfl (by kernel_rfl) (w' := w2.setCell ⟨p, 1, none⟩ (.slice na nn nc)) (by go_simp) ⟨HS2.out q0, ?_⟩
    simp only [List.setIfInBounds_toArray, List.set_cons_succ, List.set_cons_zero]
    refine wpAnyH_done (by kernel_rfl) ?_ _
    exact ⟨rfl, (na, nn, nc), by kernel_rfl, HE.out ho2 hown2 hk2⟩
  · rintro ⟨za, zn, zc⟩ w9 hF
    obtain ⟨e0, e1, e2, e3⟩ := HX.out _ _ hF
    have HF : Hid (DV T w9 p (.slice za zn zc) (M.filter (fun x => !isK k x.1)) ∧ Kp T w1.drew w9) := hF
    have e4 : w9.cell? ⟨bn, 0, none⟩ = some (.int .i64 0) := (cell_row e2 0).trans rfl
    have e5 := froz_row e2 0
    have E2 : Hid _ := e2
    dsimp only at e1 e3
    clear hF HE HS2 HT HDEL HX e2 hc10 hcd hS0 e3
    simp only [setAll, List.setIfInBounds_toArray, List.set_cons_succ, List.set_cons_zero]
    go_wp2_with fail
    go_ret
    obtain ⟨z1, z2⟩ := HZ.out w9 (.int .i64 ((ml : Int) - fl)) ⟨_, _, HF.out.1, rfl⟩
    refine ⟨0, rfl, row_set E2.out 0 _, z1, (HB.out.trans HF.out.2 (fun _ h _ => h)).trans z2 (fun x hx hx2 => by have := HLN.out; omega)⟩

theorem map_drop (k : Ky) (M : List JbP) : (M.filter (fun x => !isK k x.1)).map Prod.fst = dropP k (M.map Prod.fst) := by
  unfold dropP
  rw [List.filter_map]
  rfl

set_option maxHeartbeats 2000000 in
theorem drop_any (T : Nat → Prop) (w : World) (p : Nat) (k : Ky) (L : List Jb) (h : DQ T w p L) (hl : L.length ≤ 1000000) :
    Calls Try.prog 43 #[.pointer (some ⟨p, 0, none⟩), KV k] w fun e w' => e = .returned (.int .i64 ((L.length : Int) - ((dropP k L).length : Int))) ∧ WS T w p (dropP k L) w' := by
  have hT := h.live
  obtain ⟨v, M, hv, rfl⟩ := h
  rw [List.length_map] at hl
  have hmf : ∀ (fn : Fn) (first cap : Array Value) (w : World), (Instr.makeFunc fn first cap).run Try.prog w = .ok (.func fn first cap) w := fun _ _ _ _ => rfl
  obtain ⟨ki, ku, kt⟩ := k
  have HB3 : Hid _ := bl3 w (.cells #[.pointer (some ⟨p, 0, none⟩)] 53) (.cells #[.int .i64 ki, .bool ku, .int .i64 kt] 34) (.cells #[.int .i64 0] 3)
  have R0 : Hid (((((w.alloc (.cells #[.pointer (some ⟨p, 0, none⟩)] 53)).alloc (.cells #[.int .i64 ki, .bool ku, .int .i64 kt] 34)).alloc (.cells #[.int .i64 0] 3))).heap[w.heap.size]? = _) := row_later (row_new1 w _ _) (bl1 _ _)
  have R1 : Hid (((((w.alloc (.cells #[.pointer (some ⟨p, 0, none⟩)] 53)).alloc (.cells #[.int .i64 ki, .bool ku, .int .i64 kt] 34)).alloc (.cells #[.int .i64 0] 3))).heap[w.heap.size + 1]? = _) := row_later (row_new2 w _ _) (bl1 _ _)
  have R2 : Hid (((((w.alloc (.cells #[.pointer (some ⟨p, 0, none⟩)] 53)).alloc (.cells #[.int .i64 ki, .bool ku, .int .i64 kt] 34)).alloc (.cells #[.int .i64 0] 3))).heap[w.heap.size + 1 + 1]? = some (.cells #[.int .i64 0] 3 (0, 0))) := by
    have := row_new2 (w.alloc (.cells #[.pointer (some ⟨p, 0, none⟩)] 53)) (.cells #[.int .i64 ki, .bool ku, .int .i64 kt] 34) (.cells #[.int .i64 0] 3)
    rw [World.size_alloc] at this
    exact this
  have hmade := DQ.made (DQ.later ⟨v, M, hv, rfl⟩ HB3.out : DQ T _ p (M.map Prod.fst))
  have HC : Hid _ := call_any p 60 #[] #[.pointer (some ⟨w.heap.size, 0, none⟩), .pointer (some ⟨w.heap.size + 1, 0, none⟩), .pointer (some ⟨w.heap.size + 1 + 1, 0, none⟩)] _ _ hmade ent60 (drop1_any T w _ p w.heap.size (w.heap.size + 1) (w.heap.size + 1 + 1) ⟨ki, ku, kt⟩ v M hv HB3.out R0.out R1.out R2.out (Nat.le_refl _) (by omega) (by omega) hl)
  have HL : Hid (((M.filter (fun x => !isK ⟨ki, ku, kt⟩ x.1)).length : Int) = ((dropP ⟨ki, ku, kt⟩ (M.map Prod.fst)).length : Int)) := by
    show _ = _
    rw [← map_drop, List.length_map]
  rw [map_drop, HL.out] at HC
  rw [List.length_map]
  generalize (M.length : Int) - ((dropP ⟨ki, ku, kt⟩ (M.map Prod.fst)).length : Int) = z at *
  generalize dropP ⟨ki, ku, kt⟩ (M.map Prod.fst) = D at *
  unfold KV
  dsimp only
  clear hv HL hmade
  go_enter Try.func43, Try.ntmps43
  go_wp2_with fail
  refine Calls.mono HC.out ?_
  rintro e w2 ⟨q, rfl, hr, hw⟩
  have c2 : w2.cell? ⟨w.heap.size + 1 + 1, 0, none⟩ = some (.int .i64 z) := (cell_row hr 0).trans rfl
  have HW : Hid _ := hw
  clear hr hw HC R0 R1 R2 HB3
  go_wp2_with fail
  go_ret
  exact ⟨rfl, HW.out⟩

end Go.Proofs.Ytfhmmiilenonkaa
