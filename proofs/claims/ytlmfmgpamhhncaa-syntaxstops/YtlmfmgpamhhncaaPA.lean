/- Texts of the seat, packed: Se Sf Sg Sh. -/
import Derived.Test.YtlmfmgpamhhncaaP9
import Derived.Defers
import Derived.Recover
import Derived.Test.YtlmfmgpamhhncaaP6
/- The program's reader: a body. -/
namespace Go.Proofs.Ytlmfmgpamhhncaa
open Go.RowKit

theorem Try.info80 : (Try.prog.info? 80).map (fun i => (i.zero, i.size, i.bytes)) = some (some (.agg #[.string ⟨#[]⟩, .string ⟨#[]⟩, .slice none 0 0, .bool false, .bool false, .slice none 0 0]), 6, 88) := by kernel_rfl
theorem Try.info112 : (Try.prog.info? 112).map (fun i => (i.zero, i.size, i.bytes)) = some (some (.agg #[.slice none 0 0]), 1, 24) := by kernel_rfl

theorem add_zero' (g j : Nat) : (⟨g, 0, none⟩ : Addr).add j = ⟨g, j, none⟩ := by unfold Addr.add; split <;> simp_all

theorem new_cells (w : World) (l : List Value) (t : TypeId) : ∀ j u, l[j]? = some u → (w.alloc (.cells l.toArray t)).cell? ((⟨w.heap.size, 0, none⟩ : Addr).add j) = some u := fun j u h => by
  rw [add_zero', World.cell?_alloc_new]
  simpa using h

theorem RD.drew {w : World} {rb pb cap i : Nat} {ps : List Pc} (h : RD w rb pb cap ps i) : RD w.drew rb pb cap ps i := ⟨h.blk, h.pcs, h.ne, h.lt, h.few, h.cp⟩

/-- A result of one cell is read. -/
theorem ret1 {fn : Func} {p : Tmp} (h : fn.results = #[.cell p 112]) {a : Act} {w : World} {R : Ending → World → Prop} (b : Nat) (v0 : Value) (hp : a.tmps.getD p undef = .pointer (some ⟨b, 0, none⟩)) (hd : a.defers = [])
    (hb : w.heap[b]? = some (.cells #[v0] 112 (0, 0))) (hR : R (.returned (.agg #[v0])) w) : bodyPost Try.prog fn R .ret a w :=
  bodyPost_ret_by (results_cell_row h _ _ b 112 _ (0, 0) _ hp hb Try.underlying112 rfl (by kernel_rfl)) hd hR

theorem rd_out {nm : By → Bool} {L : List By} {f q : Nat} (h : isT L q mOut = true) : rd nm L (f + 1) false q = .ok .e (q + 1) := by rw [rd, h]; rfl
theorem rd_more {nm : By → Bool} {L : List By} {f q j : Nat} {l : Lab} {t : Tr} (h : isT L q mOut = false) (hn : rNode nm L (brace L (rd nm L f true)) q = .ok (l, t) j) : rd nm L (f + 1) false q = (rd nm L f false j).map (.n l t ·) := by
  rw [rd, h, hn]
  simp only [Bool.false_eq_true, if_false]
  cases h : rd nm L f false j <;> simp [Got.map]
theorem rd_halt {nm : By → Bool} {L : List By} {f q j : Nat} (h : isT L q mOut = false) (hn : rNode nm L (brace L (rd nm L f true)) q = .no j) : rd nm L (f + 1) false q = .no j := by
  rw [rd, h, hn]
  simp

theorem ownsRow_succ' {W : World} {base : Nat} {e : TypeId} {size : Nat} {v : Value} {k : Nat} {xs : List Value} (h : W.ownsRow base e size v (k + 1) xs) : ∃ g cap, v = .slice (some ⟨g, 0, none⟩) (k + 1) cap := by
  rcases h.2 with ⟨_, h0⟩ | ⟨g, cap, cur, rfl, _⟩
  · omega
  · exact ⟨g, cap, rfl⟩

theorem Ke.undrew {rb : Nat} {w w' : World} (h : Ke rb w.drew w') : Ke rb w w' := ⟨h.os, h.tape, h.output, h.size, h.block⟩

/-- The blocks beyond a row that the call fills. -/
def Aside (B : Nat) (v : Value) (b : Nat) : Prop := B ≤ b ∧ some b ≠ v.ownBlock

/-- Something more is put behind a row: all is read as before, and that. -/
theorem vrd_push {B rb : Nat} {w3 w4 w5 : World} {v v5 : Value} {k : Bool} {acc s : Tr} {vals us : List (List Value)} {o : Obj} {e : TypeId} {sz : Nat} (hv3 : VRd (Aside B v) w3 k acc vals) (hown : w3.ownsRow B e sz v vals.length vals.flatten)
    (k4 : Ke rb w3 w4) (hrb : rb < B) (hx : VRd (fun b => w3.heap.size ≤ b) w4 k s us) (hB : B ≤ w3.heap.size) (hg5 : (w4.alloc o).grownBy w5 v.ownBlock) (hat : v5.ownBlock = v.ownBlock ∨ v5.ownBlock = some (w4.alloc o).heap.size) : VRd (Aside B v5) w5 k (acc.app s) (vals ++ us) := by
  have hz4 := k4.size
  have hrow : ∀ b, b < w4.heap.size → some b ≠ v.ownBlock → w5.heap[b]? = w4.heap[b]? := fun b hb hn => by
    rw [hg5.block b (by simp; omega) hn, Below.heap_alloc _ _ _ hb]
  have hne : ∀ b, b < w4.heap.size → some b ≠ v.ownBlock → some b ≠ v5.ownBlock := fun b hb hn => by
    rcases hat with h | h
    · rw [h]; exact hn
    · rw [h]; simp; omega
  refine VRd.app _ _ _ _ _ ?_ ?_
  · refine hv3.keep (fun b hb hl => ?_) (fun b hb hl => ⟨hb.1, hne b (by omega) hb.2⟩) _ _ _
    rw [hrow b (by omega) hb.2]
    exact k4.block b hl (by have := hb.1; omega)
  · have hsep : ∀ b, w3.heap.size ≤ b → some b ≠ v.ownBlock := fun b hb he => by have := (hown.lt b he.symm).2; omega
    exact hx.keep (fun b hb hl => hrow b hl (hsep b hb)) (fun b hb hl => ⟨by omega, hne b hl (hsep b hb)⟩) _ _ _

section
variable {nm : By → Bool} {L : List By} {ps : List Pc} (hc : Cls nm L ps)
include hc

set_option maxRecDepth 1000000 in
set_option maxHeartbeats 4000000 in
theorem body_rd (rb pb cap f : Nat) (HN0 : ∀ f', f' < f → NodeOK nm L ps rb pb cap f') : BodyOK nm L ps rb pb cap f := by
  intro w i h hi hfu
  have hrlt := h.rlt
  have hplt := h.lt
  have hfew := h.few
  have hlen := hc.len
  have h2 := (h.alloc (.cells #[.slice none 0 0] 112)).alloc (.cells #[.slice none 0 0] 112)
  have k2 := ((Ke.refl rb w).alloc (.cells #[.slice none 0 0] 112)).alloc (.cells #[.slice none 0 0] 112)
  have b2 := row_alloc (row_new w #[.slice none 0 0] 112) (.cells #[.slice none 0 0] 112)
  have n2 : ((w.alloc (.cells #[.slice none 0 0] 112)).alloc (.cells #[.slice none 0 0] 112)).heap[w.heap.size + 1]? = some (.cells #[.slice none 0 0] 112 (0, 0)) := by
    have := row_new (w.alloc (.cells #[.slice none 0 0] 112)) #[.slice none 0 0] 112
    rwa [World.size_alloc] at this
  have M1 : Hid _ := mark_rd hc _ rb pb cap i h2 hi mIn (by simp [isM])
  obtain ⟨i0, hi0, hz0, hz1, hz2⟩ := info_parts Try.info80
  obtain ⟨G, HGe⟩ : ∃ G, Hid (G = (if isT L i mIn then rd nm L f false (i + 1) else .no i)) := ⟨_, rfl⟩
  rw [← HGe.out]
  go_enter Try.func75, Try.ntmps75
  go_wp2_with fail
  refine Calls.mono M1.out ?_
  clear M1 h2
  rintro e w1 ⟨k1, ⟨_, j1, v, g1, r1, rfl, rfl⟩ | ⟨j1, t, u, g1, r1, rfl⟩⟩
  · have hin : isT L i mIn = true ∧ j1 = i + 1 := by
      cases hm : isT L i mIn with
      | true => rw [hm] at g1; simp at g1; exact ⟨rfl, g1.symm⟩
      | false => rw [hm] at g1; simp at g1
    obtain ⟨hin, rfl⟩ := hin
    have hi1 := isT_lt L hin
    have b1 := row_ke b2 k1 (by omega)
    have n1 := row_ke n2 k1 (by omega)
    have hz1' := k1.size
    simp at hz1'
    have kk1 := k2.trans k1
    clear k2 k1 b2 n2 g1 h
    have HGo : Hid (G = rd nm L f false (i + 1)) := by rw [hin] at HGe; exact HGe
    clear HGe
    go_wp2_with fail
    go_loopw [] (fun wr => ∃ (acc : Tr) (vals : List (List Value)) (v : Value) (q f' : Nat), q ≤ L.length ∧ L.length < q + f' ∧ f' ≤ f ∧ Hid (acc.len ≤ q) ∧ Hid (wr.heap[w.heap.size + 1]? = some (.cells #[v] 112 (0, 0))) ∧ Hid (wr.heap[w.heap.size]? = some (.cells #[.slice none 0 0] 112 (0, 0))) ∧
        Hid (wr.ownsRow (w.heap.size + 2) 80 6 v vals.length vals.flatten) ∧ Hid (VRd (Aside (w.heap.size + 2) v) wr false acc vals) ∧ Hid (RD wr rb pb cap ps q) ∧ Hid (Ke rb w wr) ∧ w.heap.size + 2 ≤ wr.heap.size ∧ Hid (rd nm L f false (i + 1) = (rd nm L f' false q).map (acc.app ·)))
      (fun wr => L.length + 1 - nx wr rb)
    case atStart => exact ⟨.e, [], .slice none 0 0, i + 1, f, by omega, by omega, by omega, Nat.zero_le _, n1, b1, World.ownsRow_nil _ _ _ _, rfl, r1, kk1, by omega, by show rd nm L f false (i + 1) = _; cases rd nm L f false (i + 1) <;> rfl⟩
    case round =>
      obtain ⟨acc, vals, v, q, f', hq, hqf, hff, HA, HNb, HRb, HO, HV, HR, HK, hBz, HE⟩ := hrel
      clear kk1 b1 n1 r1
      have M2 : Hid _ := mayMark_rd hc wr rb pb cap q HR.out hq mOut (by simp [isM])
      obtain ⟨f'', rfl⟩ : ∃ f'', f' = f'' + 1 := ⟨f' - 1, by omega⟩
      go_wp2_with fail
      refine Calls.mono M2.out ?_
      clear M2
      rintro e w3 ⟨rfl, k3, r3⟩
      have hz3 := k3.size
      have nb3 := row_ke HNb.out k3 (by omega)
      have rb3 := row_ke HRb.out k3 (by omega)
      have ho3 := own_ke HO.out k3 (by omega)
      have hv3 : VRd (Aside (w.heap.size + 2) v) w3 false acc vals := HV.out.keep (Keeps.of_ke k3 (fun h => by have := h.1; omega)) (fun _ h _ => h) _ _ _
      have kk3 := HK.out.trans k3
      have hnx : nx wr rb = q := nx_eq HR.out
      cases hm : isT L q mOut with
      | true =>
        rw [hm] at r3
        have hG : G = .ok acc (q + 1) := by rw [HGo.out, HE.out, rd_out hm]; simp [Got.map, Tr.app_e]
        have c0 := (cell_row nb3 0).trans rfl
        have e0 := (cell_row rb3 0).trans rfl
        have ef := froz_row rb3 0
        have hv4 : VRd (fun b => w.heap.size ≤ b) (w3.setCell ⟨w.heap.size, 0, none⟩ v) false acc vals := hv3.keep (Keeps.setCell _ _ (fun h => by have := h.1; omega)) (fun _ h _ => by have := h.1; omega) _ _ _
        have ho4 : (w3.setCell ⟨w.heap.size, 0, none⟩ v).ownsRow (w.heap.size + 2) 80 (wide false) v vals.length vals.flatten := ownsRow_setCell_below ho3 (by show w.heap.size < _; omega) v
        have hB := hv4.own ho4 (fun g hg => by have := (ho3.lt _ hg).1; omega)
        obtain ⟨a, c, hva, hta⟩ := hB
        clear HA HNb HRb HO HV HR HK HE hv3 ho3 ho4 hv4
        subst hva
        go_wp2_with fail
        refine ret1 (p := 2) rfl w.heap.size _ rfl rfl (row_set rb3 0 _) ?_
        exact ⟨kk3.setFar _ (Nat.le_refl _), .inl ⟨acc, q + 1, _, hG, r3.setFar _ (by omega) (by omega), rfl, _, rfl, a, c, rfl, hta⟩⟩
      | false =>
        rw [hm] at r3
        have HN : Hid _ := HN0 f'' (by omega) w3.drew q r3.drew hq (by omega)
        clear HN0
        have c0 := (cell_row nb3 0).trans rfl
        have hfv : vals.length ≤ 100000 := by have := hv3.len; have := HA.out; omega
        go_wp2_with fail
        go_region_law (first
          | (refine step_append_own rfl (.tmp 10) (.tmp 13) 110 rfl (w.heap.size + 2) 80 i0 _ 6 88 Try.underlying110 hi0 hz0 hz1 hz2 rfl (by decide) v vals.length vals.flatten rfl (ho4.alloc _) ⟨w4.heap.size, 0, none⟩ 1 1 [.string ⟨l4.name.toArray⟩, .string ⟨l4.undo.toArray⟩, .slice sv sm sc, .bool l4.sub, .bool l4.vital, .slice av am ac] rfl rfl (new_cells w4 [.string ⟨l4.name.toArray⟩, .string ⟨l4.undo.toArray⟩, .slice sv sm sc, .bool l4.sub, .bool l4.vital, .slice av am ac] 80) (by simp [Value.oneCell']) (by unfold maxLen; omega) (by omega) (by simp; omega) ?_
             intro v5 w5 ho5 hg5 hat5
             have nb5 : w5.heap[w.heap.size + 1]? = some (.cells #[v] 112 (0, 0)) := (hg5.block _ (by simp; omega) (fun he => by have := (ho4.lt _ he.symm).1; omega)).trans (row_alloc nb4 _)
             have c5 := (cell_row nb5 0).trans rfl
             have f5 := froz_row nb5 0
             obtain ⟨g5, cap5, rfl⟩ := ownsRow_succ' ho5)
          | (go_simp
             go_at_call 89
             refine Calls.mono HN.out ?_
             rintro e w4 ⟨k4, ⟨⟨l4, t4⟩, j4, v4, g4, r4, rfl, sv, sm, sc, av, am, ac, rfl, hs4, ht4⟩ | ⟨j4, t4, u4, g4, r4, rfl⟩⟩
             rotate_left
             exact ⟨rfl, kk3.trans k4.undrew, .inr ⟨j4, t4, u4, by rw [HGo.out, HE.out, rd_halt hm g4]; rfl, r4, rfl⟩⟩
             have k4' := k4.undrew
             have hz4 := k4'.size
             have nb4 := row_ke nb3 k4' (by omega)
             have c4 := (cell_row nb4 0).trans rfl
             have ho4 := own_ke ho3 k4' (by omega)
             have ca4 : ∀ o, (w4.alloc o).cell? ⟨w.heap.size + 1, 0, none⟩ = some v := fun o => (cell_row (row_alloc nb4 o) 0).trans rfl
             dsimp only))
        all_goals
          have hvp := vrd_push (v5 := .slice (some ⟨g5, 0, none⟩) (vals.length + 1) cap5) hv3 ho3 k4' (by omega) (show VRd (fun b => w3.heap.size ≤ b) w4 false (.n l4 t4 .e) [[.string ⟨l4.name.toArray⟩, .string ⟨l4.undo.toArray⟩, .slice sv sm sc, .bool l4.sub, .bool l4.vital, .slice av am ac]] from ⟨rfl, sv, sm, sc, av, am, ac, [], rfl, hs4, ht4, rfl⟩) (by omega) hg5 hat5
          have hfit := rNode_fit nm L (brace L (rd nm L f'' true)) (fun k hk => (brace_fit L _ (rd_fit nm L f'' true) k hk).zero) q hq
          rw [g4] at hfit
          have hj4 : q + 1 ≤ j4 ∧ j4 ≤ L.length := hfit
          have r5 := r4.push hg5 (fun j hj => by have := (ho4.lt _ hj).1; omega)
          have hz5 : w4.heap.size ≤ w5.heap.size := by have := hg5.size; simp at this; omega
          have k5 := (kk3.trans k4').push hg5 (fun j hj => by have := (ho4.lt _ hj).1; omega)
          have rb5 : w5.heap[w.heap.size]? = some (.cells #[.slice none 0 0] 112 (0, 0)) := (hg5.block _ (by simp; omega) (fun he => by have := (ho4.lt _ he.symm).1; omega)).trans (row_alloc (row_ke rb3 k4' (by omega)) _)
          have HVQ : Hid _ := hvp.keep (Q := Aside (w.heap.size + 2) (.slice (some ⟨g5, 0, none⟩) (vals.length + 1) cap5)) (Keeps.setCell (c := w.heap.size + 1) (i := 0) w5 (.slice (some ⟨g5, 0, none⟩) (vals.length + 1) cap5) (fun h => by have := h.1; omega)) (fun _ h _ => h) _ _ _
          have HRN : Hid _ := r5.setFar (c := w.heap.size + 1) (j := 0) (.slice (some ⟨g5, 0, none⟩) (vals.length + 1) cap5) (by omega) (by omega)
          go_wp2_with fail
          go_roundw
          case rel =>
            refine ⟨acc.app (.n l4 t4 .e), vals ++ [[.string ⟨l4.name.toArray⟩, .string ⟨l4.undo.toArray⟩, .slice sv sm sc, .bool l4.sub, .bool l4.vital, .slice av am ac]], .slice (some ⟨g5, 0, none⟩) (vals.length + 1) cap5, j4, f'', hj4.2, by omega, by omega, ?_, row_set nb5 0 _, row_other rb5 _ (by omega), ?_, HVQ, HRN.out, k5.setFar _ (by omega), by simp; omega, ?_⟩
            · show (acc.app (.n l4 t4 .e)).len ≤ j4
              rw [Tr.len_app]
              have := HA.out
              simp [Tr.len]
              omega
            · show World.ownsRow _ _ _ _ _ _ _
              have := ownsRow_setCell_below (a := ⟨w.heap.size + 1, 0, none⟩) ho5 (by show w.heap.size + 1 < _; omega) (.slice (some ⟨g5, 0, none⟩) (vals.length + 1) cap5)
              simpa using this
            · show rd nm L f false (i + 1) = _
              rw [HE.out, rd_more hm g4, Got.map_map]
              congr 1
              funext x
              rw [Tr.app_assoc]
              rfl
          case measure =>
            rw [nx_eq HRN.out, hnx]
            omega
  · have hG : G = .no j1 := by
      rw [HGe.out]
      cases hm : isT L i mIn with
      | true => rw [hm] at g1; simp at g1
      | false => rw [hm] at g1; simp at g1; subst g1; simp
    go_wp2_with fail
    exact ⟨rfl, k2.trans k1, .inr ⟨j1, t, u, hG, r1, rfl⟩⟩
end
end Go.Proofs.Ytlmfmgpamhhncaa

/- The program's reader: bodies; and all of them together. -/
namespace Go.Proofs.Ytlmfmgpamhhncaa
open Go.RowKit

/-- Behind a body. -/
def rTail (nm : By → Bool) (L : List By) (f q : Nat) : Got Tr := if isT L q wOr then rd nm L f true (q + 1) else if isT L q mShut then .ok .e (q + 1) else .no q

theorem rd_alts {nm : By → Bool} {L : List By} {f i j : Nat} {x : Tr} (h : (if isT L i mIn then rd nm L f false (i + 1) else .no i) = .ok x j) : rd nm L (f + 1) true i = (rTail nm L f j).map (.b x ·) := by
  cases hm : isT L i mIn with
  | false => rw [hm] at h; simp at h
  | true =>
    rw [hm] at h
    simp only [if_true] at h
    rw [rd, hm, h]
    simp only [if_true]
    unfold rTail
    cases ho : isT L j wOr with
    | true =>
      simp only [if_true]
      cases hr : rd nm L f true (j + 1) <;> simp [Got.map]
    | false =>
      simp only [Bool.false_eq_true, if_false]
      cases hs : isT L j mShut <;> simp [Got.map]

theorem rd_alts_no {nm : By → Bool} {L : List By} {f i j : Nat} (h : (if isT L i mIn then rd nm L f false (i + 1) else .no i) = .no j) : rd nm L (f + 1) true i = .no j := by
  cases hm : isT L i mIn with
  | false => rw [hm] at h; simp at h; rw [rd, hm]; simp [h]
  | true =>
    rw [hm] at h
    simp only [if_true] at h
    rw [rd, hm, h]
    simp

theorem body_fit {nm : By → Bool} {L : List By} {f i : Nat} (hi : i ≤ L.length) : Fit L 1 i (if isT L i mIn then rd nm L f false (i + 1) else .no i) := by
  cases hm : isT L i mIn with
  | false => exact ⟨Nat.le_refl _, hi⟩
  | true =>
    have := isT_lt L hm
    have h2 := rd_fit nm L f false (i + 1) (by omega)
    simp only [if_true]
    cases hs : rd nm L f false (i + 1) with
    | no j => rw [hs] at h2; exact ⟨by have := h2.1; omega, h2.2⟩
    | ok x j => rw [hs] at h2; exact ⟨by have := h2.1; omega, h2.2⟩

section
variable {nm : By → Bool} {L : List By} {ps : List Pc} (hc : Cls nm L ps)
include hc

set_option maxRecDepth 1000000 in
set_option maxHeartbeats 4000000 in
theorem bodies_rd (rb pb cap f : Nat) (HB0 : ∀ f', f' < f → BodyOK nm L ps rb pb cap f') : BodiesOK nm L ps rb pb cap f := by
  intro w i h hi hfu
  have hrlt := h.rlt
  have hplt := h.lt
  have hfew := h.few
  have hlen := hc.len
  have M1 : Hid _ := mark_rd hc _ rb pb cap i h hi mOpen (by simp [isM])
  obtain ⟨i0, hi0, hz0, hz1, hz2⟩ := info_parts Try.info112
  obtain ⟨G, HGe⟩ : ∃ G, Hid (G = brace L (rd nm L f true) i) := ⟨_, rfl⟩
  rw [← HGe.out]
  go_enter Try.func52, Try.ntmps52
  go_wp2_with fail
  refine Calls.mono M1.out ?_
  clear M1
  rintro e w1 ⟨k1, ⟨_, j1, v, g1, r1, rfl, rfl⟩ | ⟨j1, t, u, g1, r1, rfl⟩⟩
  · have hin : isT L i mOpen = true ∧ j1 = i + 1 := by
      cases hm : isT L i mOpen with
      | true => rw [hm] at g1; simp at g1; exact ⟨rfl, g1.symm⟩
      | false => rw [hm] at g1; simp at g1
    obtain ⟨hin, rfl⟩ := hin
    have hi1 := isT_lt L hin
    obtain ⟨f1, rfl⟩ : ∃ f1, f = f1 + 1 := ⟨f - 1, by omega⟩
    have HGo : Hid (G = rd nm L (f1 + 1) true (i + 1)) := by
      have := HGe.out
      unfold brace at this
      rw [hin] at this
      exact this
    clear HGe g1 h
    have hz1' := k1.size
    have M2 : Hid _ := HB0 f1 (by omega) w1 (i + 1) r1 (by omega) (by omega)
    have hft := @body_fit nm L f1 (i + 1) (by omega)
    go_wp2_with fail
    refine Calls.mono M2.out ?_
    clear M2 r1
    rintro e w2 ⟨k2, ⟨x, j2, v, g2, r2, rfl, u, rfl, a2, c2, rfl, ht2⟩ | ⟨j2, t, u, g2, r2, rfl⟩⟩
    · rw [g2] at hft
      have hj2 : i + 2 ≤ j2 ∧ j2 ≤ L.length := ⟨by have := hft.1; omega, hft.2⟩
      have HG2 : Hid (G = (rTail nm L f1 j2).map (.b x ·)) := by
        show G = _
        rw [HGo.out, rd_alts g2]
      have k3 := k1.trans k2
      have hz2' := k2.size
      have hv0 : VRd (Aside w.heap.size (.slice (some ⟨w2.heap.size, 0, none⟩) 1 1)) (w2.alloc (.cells #[.slice a2 x.len c2] 112)) true (.b x .e) [[.slice a2 x.len c2]] := by
        refine ⟨rfl, a2, x.len, c2, [], rfl, ?_, rfl⟩
        refine ht2.keep (fun b hb hl => Below.heap_alloc _ _ _ hl) (fun b hb hl => ⟨by omega, ?_⟩) _ _ _ _ _
        simp [Value.ownBlock]; omega
      have ho0 : (w2.alloc (.cells #[.slice a2 x.len c2] 112)).ownsRow w.heap.size 112 1 (.slice (some ⟨w2.heap.size, 0, none⟩) 1 1) 1 [.slice a2 x.len c2] :=
        World.ownsRow_lit w2 #[.slice a2 x.len c2] 1 (by omega) (by decide) rfl
      have hr0 := r2.alloc (.cells #[.slice a2 x.len c2] 112)
      have k0 := k3.alloc (.cells #[.slice a2 x.len c2] 112)
      have HB : Hid _ := HB0
      clear hft g2 r2 k1 k2 k3 ht2 HB0 HGo
      go_wp2_with fail
      go_loopw [3] (fun lv wr => ∃ (acc : Tr) (vals : List (List Value)) (q f' : Nat), q ≤ L.length ∧ L.length ≤ q + f' ∧ f' ≤ f1 ∧ Hid (acc.len ≤ q) ∧ Hid (0 < acc.len) ∧
          Hid (wr.ownsRow w.heap.size 112 1 lv vals.length vals.flatten) ∧ Hid (VRd (Aside w.heap.size lv) wr true acc vals) ∧ Hid (RD wr rb pb cap ps q) ∧ Hid (Ke rb w wr) ∧ Hid (G = (rTail nm L f' q).map (acc.app ·)))
        (fun _ wr => L.length + 1 - nx wr rb)
      case atStart => exact ⟨.b x .e, [[.slice a2 x.len c2]], j2, f1, hj2.2, by omega, by omega, by show 0 + 1 ≤ j2; omega, Nat.zero_lt_one, ho0, hv0, hr0, k0, HG2⟩
      case round =>
        obtain ⟨acc, vals, q, f', hq, hqf, hff, HA, HP, HO, HV, HR, HK, HE⟩ := hrel
        clear ho0 hv0 hr0 k0 HG2 hj2
        have M3 : Hid _ := mayWord_rd hc wr rb pb cap q HR.out hq wOr (by simp [isW])
        have HLV : Hid (vals.length = acc.len) := HV.out.len
        obtain ⟨n0, hn0⟩ : ∃ n0, vals.length = n0 + 1 := ⟨vals.length - 1, by have := HP.out; have := HLV.out; omega⟩
        obtain ⟨g0, cap0, hv0⟩ := ownsRow_succ' (by have := HO.out; rwa [hn0] at this)
        rw [← hn0] at hv0
        subst hv0
        clear hn0
        go_wp2_with fail
        refine Calls.mono M3.out ?_
        clear M3
        rintro e w3 ⟨rfl, k3, r3⟩
        have hz3 := k3.size
        have hzr := HK.out.size
        have ho3 := own_ke HO.out k3 hrlt
        have hv3 := HV.out.keep (Keeps.of_ke (rb := rb) k3 (fun h => by have := h.1; omega)) (fun _ h _ => h) _ _ _
        have kk3 := HK.out.trans k3
        have hnx : nx wr rb = q := nx_eq HR.out
        clear HR HK HO HV
        cases hm : isT L q wOr with
        | true =>
          rw [hm] at r3
          have hq1 := isT_lt L hm
          obtain ⟨f'', rfl⟩ : ∃ f'', f' = f'' + 1 := ⟨f' - 1, by omega⟩
          have M4 : Hid _ := HB.out f'' (by omega) w3 (q + 1) r3 (by omega) (by omega)
          have hft := @body_fit nm L f'' (q + 1) (by omega)
          clear HB
          go_wp2_with fail
          refine Calls.mono M4.out ?_
          clear M4 r3
          rintro e w4 ⟨k4, ⟨y, j4, v, g4, r4, rfl, u, rfl, a4, c4, rfl, ht4⟩ | ⟨j4, t, u, g4, r4, rfl⟩⟩
          · rw [g4] at hft
            have hj4 : q + 2 ≤ j4 ∧ j4 ≤ L.length := ⟨by have := hft.1; omega, hft.2⟩
            have HG4 : Hid (G = (rTail nm L f'' j4).map ((acc.app (.b y .e)).app ·)) := by
              show G = _
              rw [HE.out]
              unfold rTail
              rw [hm]
              simp only [if_true]
              rw [rd_alts g4, Got.map_map]
              show Got.map _ _ = Got.map _ (rTail nm L f'' j4)
              congr 1
              funext z
              rw [Tr.app_assoc]
              rfl
            have hal : vals.length ≤ 100000 := by have := HA.out; have := HLV.out; omega
            have ho4 := own_ke ho3 k4 hrlt
            have hz4 := k4.size
            go_wp2_with (at_builtin; refine wpList_append_own_at _ rfl _ _ 23 rfl w.heap.size 112 i0 _ 1 24 Try.underlying23 hi0 hz0 hz1 hz2 rfl (by decide) _ vals.length vals.flatten rfl (ho4.alloc _) ⟨w4.heap.size, 0, none⟩ 1 1 [.slice a4 y.len c4] rfl rfl (new_cells w4 [.slice a4 y.len c4] 112) (by simp [Value.oneCell']) (by unfold maxLen; omega) (by omega) (by simp; omega) ?_; intro v5 w5 ho5 hg5 _ hat5; obtain ⟨g5, cap5, rfl⟩ := ownsRow_succ' ho5)
            have HVP : Hid _ := vrd_push hv3 ho3 k4 hrlt (show VRd (fun b => w3.heap.size ≤ b) w4 true (.b y .e) [[.slice a4 y.len c4]] from ⟨rfl, a4, y.len, c4, [], rfl, ht4, rfl⟩) (by omega) hg5 hat5
            have HR5 : Hid _ := r4.push hg5 (fun j hj => by have := (ho4.lt _ hj).1; omega)
            have k5 := (kk3.trans k4).push hg5 (fun j hj => by have := (ho4.lt _ hj).1; omega)
            go_roundw
            case rel =>
              refine ⟨acc.app (.b y .e), vals ++ [[.slice a4 y.len c4]], j4, f'', hj4.2, by omega, by omega, ?_, ?_, ?_, HVP, HR5.out, k5, HG4⟩
              · show (acc.app (.b y .e)).len ≤ j4
                rw [Tr.len_app]
                have := HA.out
                simp [Tr.len]
                omega
              · show 0 < (acc.app (.b y .e)).len
                rw [Tr.len_app]
                simp [Tr.len]
              · show World.ownsRow _ _ _ _ _ _ _
                simpa using ho5
            case measure =>
              rw [nx_eq HR5.out, hnx]
              omega
          · have hG : G = .no j4 := by
              rw [HE.out]
              unfold rTail
              rw [hm]
              simp only [if_true]
              rw [rd_alts_no g4]
              rfl
            go_wp2_with fail
            exact ⟨rfl, kk3.trans k4, .inr ⟨j4, t, u, hG, r4, rfl⟩⟩
        | false =>
          rw [hm] at r3
          have M4 : Hid _ := mark_rd hc w3 rb pb cap q r3 hq mShut (by simp [isM])
          go_wp2_with fail
          refine Calls.mono M4.out ?_
          clear M4 r3
          rintro e w4 ⟨k4, ⟨_, j4, v, g4, r4, rfl, rfl⟩ | ⟨j4, t, u, g4, r4, rfl⟩⟩
          · have hG : G = .ok acc j4 := by
              rw [HE.out]
              unfold rTail
              rw [hm]
              cases hs : isT L q mShut with
              | true => rw [hs] at g4; simp at g4; subst g4; simp [Got.map, Tr.app_e]
              | false => rw [hs] at g4; simp at g4
            have ho4 : w4.ownsRow w.heap.size 112 (wide true) _ vals.length vals.flatten := own_ke ho3 k4 hrlt
            have hv4 := hv3.keep (Q := fun b => w.heap.size ≤ b) (Keeps.of_ke (rb := rb) k4 (fun h => by have := h.1; omega)) (fun _ h _ => h.1) _ _ _
            have hB := hv4.own ho4 (fun g hg => (ho3.lt _ hg).1)
            go_wp2_with fail
            go_ret
            exact ⟨kk3.trans k4, .inl ⟨acc, j4, _, hG, r4, rfl, hB⟩⟩
          · have hG : G = .no j4 := by
              rw [HE.out]
              unfold rTail
              rw [hm]
              cases hs : isT L q mShut with
              | true => rw [hs] at g4; simp at g4
              | false => rw [hs] at g4; simp at g4; subst g4; simp [Got.map]
            go_wp2_with fail
            exact ⟨rfl, kk3.trans k4, .inr ⟨j4, t, u, hG, r4, rfl⟩⟩
    · have hG : G = .no j2 := by rw [HGo.out, rd_alts_no g2]
      go_wp2_with fail
      exact ⟨rfl, k1.trans k2, .inr ⟨j2, t, u, hG, r2, rfl⟩⟩
  · have hG : G = .no j1 := by
      rw [HGe.out]
      unfold brace
      cases hm : isT L i mOpen with
      | true => rw [hm] at g1; simp at g1
      | false => rw [hm] at g1; simp at g1; subst g1; simp
    go_wp2_with fail
    exact ⟨rfl, k1, .inr ⟨j1, t, u, hG, r1, rfl⟩⟩

theorem all_rd (rb pb cap : Nat) : ∀ f, BodiesOK nm L ps rb pb cap f ∧ BodyOK nm L ps rb pb cap f ∧ NodeOK nm L ps rb pb cap f := by
  intro f
  induction f using Nat.strongRecOn with
  | _ f ih =>
    have h1 := bodies_rd hc rb pb cap f (fun f' hf => (ih f' hf).2.1)
    exact ⟨h1, body_rd hc rb pb cap f (fun f' hf => (ih f' hf).2.2), node_rd hc rb pb cap f h1⟩
end
end Go.Proofs.Ytlmfmgpamhhncaa

/- The program's reader: a whole saga, what can't follow being recovered. -/
namespace Go.Proofs.Ytlmfmgpamhhncaa
open Go.RowKit

set_option maxRecDepth 1000000 in
theorem catch_panicking (gb ob : Nat) (c0 c1 c2 : Value) (u : TypeId) (pv : Value) (older : List PanicEntry) (w : World) (hg : w.heap[gb]? = some (.cells #[c0, c1] 25 (0, 0))) (ho : w.heap[ob]? = some (.cells #[c2] 4 (0, 0))) (hne : gb ≠ ob) :
    CallsD Try.prog 49 #[.pointer (some ⟨gb, 0, none⟩), .pointer (some ⟨ob, 0, none⟩)] (.panicking ({ v := .iface u pv, recovered := false } :: older)) w fun e u' w' =>
      e = .returned (.tuple #[]) ∧ u' = .panicking ({ v := .iface u pv, recovered := true } :: older) ∧ w' = ((w.setCell ⟨gb, 0, none⟩ (.string ⟨#[]⟩)).setCell ⟨gb, 1, none⟩ (.slice none 0 0)).setCell ⟨ob, 0, none⟩ (.bool false) := by
  have g0 := (cell_row hg 0).trans rfl
  have g1 := (cell_row hg 1).trans rfl
  have gf := froz_row hg
  have o0 := (cell_row ho 0).trans rfl
  have oF := froz_row ho
  have o1 : ∀ (u1 u2 : Value), ((w.setCell ⟨gb, 0, none⟩ u1).setCell ⟨gb, 1, none⟩ u2).cell? ⟨ob, 0, none⟩ = some c2 := fun u1 u2 => (cell_row (row_other (row_other ho u1 (fun h => hne h.symm)) u2 (fun h => hne h.symm)) 0).trans rfl
  have o2 : ∀ (u1 u2 : Value), ((w.setCell ⟨gb, 0, none⟩ u1).setCell ⟨gb, 1, none⟩ u2).frozen? ⟨ob, 0, none⟩ = false := fun u1 u2 => froz_row (row_other (row_other ho u1 (fun h => hne h.symm)) u2 (fun h => hne h.symm)) 0
  refine callsD_of_wpS Try.func49 rfl fun c₀ cs hu => ?_
  apply wpS_seq
  apply wpS_region
  simp [wpOpsS, go_sem, recoverD, hu, Try.ntmps49, Exit.thenS]
  refine wpS_cond (t := true) (by simp [Act.eval, Array.replicate]) ?_
  simp only [if_true]
  apply wpS_region
  simp [wpOpsS, go_sem, g0, g1, gf, o1, oF, bodyPostS, results, Try.results49]

set_option maxRecDepth 1000000 in
theorem catch_idle (gb ob : Nat) (w : World) :
    CallsD Try.prog 49 #[.pointer (some ⟨gb, 0, none⟩), .pointer (some ⟨ob, 0, none⟩)] .returning w fun e u' w' => e = .returned (.tuple #[]) ∧ u' = .returning ∧ w' = w := by
  refine callsD_of_wpS Try.func49 rfl fun c₀ cs hu => ?_
  apply wpS_seq
  apply wpS_region
  simp [wpOpsS, go_sem, recoverD, hu, Try.ntmps49, Exit.thenS]
  refine wpS_cond (t := false) (by simp [Act.eval, Array.replicate]) ?_
  simp only [Bool.false_eq_true, if_false]
  refine wpS_of_wp (wp_skip ?_)
  cases c₀
  simp_all [bodyPostS, results, Try.results49]

/-- How 'saga' ends. -/
def SagaC (rb pb cap : Nat) (ps : List Pc) (w : World) (g : Got (By × Tr)) (e : Ending) (w' : World) : Prop :=
  Ke rb w w' ∧ ((∃ x t j v, g = .ok (x, t) j ∧ e = .returned (.tuple #[.agg #[.string ⟨x.toArray⟩, v], .bool true]) ∧ BsR (fun b => w.heap.size ≤ b) w' true t v) ∨
    (∃ j, g = .no j ∧ RD w' rb pb cap ps j ∧ e = .returned (.tuple #[.agg #[.string ⟨#[]⟩, .slice none 0 0], .bool false])))

section
variable {nm : By → Bool} {L : List By} {ps : List Pc} (hc : Cls nm L ps)
include hc

set_option maxRecDepth 1000000 in
set_option maxHeartbeats 4000000 in
theorem saga_rd (w : World) (rb pb cap : Nat) (h : RD w rb pb cap ps 0) :
    Calls Try.prog 25 #[.pointer (some ⟨rb, 0, none⟩)] w fun e w' => SagaC rb pb cap ps w (rSaga nm L L.length) e w' := by
  have hrlt := h.rlt
  have hplt := h.lt
  have hmf : ∀ (fn : Fn) (first cap : Array Value) (w : World), (Instr.makeFunc fn first cap).run Try.prog w = .ok (.func fn first cap) w := fun _ _ _ _ => rfl
  have h2 := (h.alloc (.cells #[.string ⟨#[]⟩, .slice none 0 0] 25)).alloc (.cells #[.bool false] 4)
  have k2 := ((Ke.refl rb w).alloc (.cells #[.string ⟨#[]⟩, .slice none 0 0] 25)).alloc (.cells #[.bool false] 4)
  have b2 := row_alloc (row_new w #[.string ⟨#[]⟩, .slice none 0 0] 25) (.cells #[.bool false] 4)
  have n2 : ((w.alloc (.cells #[.string ⟨#[]⟩, .slice none 0 0] 25)).alloc (.cells #[.bool false] 4)).heap[w.heap.size + 1]? = some (.cells #[.bool false] 4 (0, 0)) := by
    have := row_new (w.alloc (.cells #[.string ⟨#[]⟩, .slice none 0 0] 25)) #[.bool false] 4
    rwa [World.size_alloc] at this
  have M1 : Hid _ := word_rd hc _ rb pb cap 0 h2 (Nat.zero_le _) wSaga (by simp [isW])
  obtain ⟨G, HGe⟩ : ∃ G, Hid (G = rSaga nm L L.length) := ⟨_, rfl⟩
  rw [← HGe.out]
  -- what is left to do where something panics
  have fin : ∀ (j : Nat) (wp : World) (c0 c1 c2 : Value), G = .no j → RD wp rb pb cap ps j → Ke rb w wp → wp.heap[w.heap.size]? = some (.cells #[c0, c1] 25 (0, 0)) → wp.heap[w.heap.size + 1]? = some (.cells #[c2] 4 (0, 0)) →
      SagaC rb pb cap ps w G (.returned (.tuple #[.agg #[.string ⟨#[]⟩, .slice none 0 0], .bool false])) (((wp.setCell ⟨w.heap.size, 0, none⟩ (.string ⟨#[]⟩)).setCell ⟨w.heap.size, 1, none⟩ (.slice none 0 0)).setCell ⟨w.heap.size + 1, 0, none⟩ (.bool false)) := by
    intro j wp c0 c1 c2 hG hr hk _ _
    exact ⟨((hk.setFar _ (Nat.le_refl _)).setFar _ (Nat.le_refl _)).setFar _ (by omega), .inr ⟨j, hG, ((hr.setFar _ (by omega) (by omega)).setFar _ (by omega) (by omega)).setFar _ (by omega) (by omega), rfl⟩⟩
  go_enter_defers Try.func25, Try.ntmps25
  go_wp2_with fail
  refine Calls.mono M1.out ?_
  clear M1 h2
  rintro e w1 ⟨k1, ⟨_, j1, v, g1, r1, rfl, rfl⟩ | ⟨j1, t, u, g1, r1, rfl⟩⟩
  · have hin : isT L 0 wSaga = true ∧ j1 = 1 := by
      cases hm : isT L 0 wSaga with
      | true => rw [hm] at g1; simp at g1; exact ⟨rfl, g1.symm⟩
      | false => rw [hm] at g1; simp at g1
    obtain ⟨hin, rfl⟩ := hin
    have hi1 := isT_lt L hin
    have b3 := row_ke b2 k1 (by omega)
    have n3 := row_ke n2 k1 (by omega)
    have k3 := k2.trans k1
    have M2 : Hid _ := name_rd hc w1 rb pb cap 1 r1 (by omega)
    have hf2 := rName_fit nm L 1 (by omega)
    clear b2 n2 k2 k1 r1 h g1
    go_wp2_with fail
    refine Calls.mono M2.out ?_
    clear M2
    rintro e w2 ⟨k4, ⟨x, j2, v, g2, r2, rfl, rfl⟩ | ⟨j2, t, u, g2, r2, rfl⟩⟩
    · rw [g2] at hf2
      have hj2 : j2 ≤ L.length := hf2.2
      have b4 := row_ke b3 k4 (by omega)
      have b4c := (cell_row b4 0).trans rfl
      have b4f := froz_row b4 0
      have n5 := row_other (c := w.heap.size) (i := 0) (row_ke n3 k4 (by omega)) (.string ⟨x.toArray⟩) (by omega)
      have b5 : (w2.setCell ⟨w.heap.size, 0, none⟩ (.string ⟨x.toArray⟩)).heap[w.heap.size]? = some (.cells #[.string ⟨x.toArray⟩, .slice none 0 0] 25 (0, 0)) := row_set b4 0 _
      have r5 := r2.setFar (c := w.heap.size) (j := 0) (.string ⟨x.toArray⟩) (by omega) (by omega)
      have k5 := (k3.trans k4).setFar (c := w.heap.size) (i := 0) (.string ⟨x.toArray⟩) (Nat.le_refl _)
      have M3 : Hid _ := (all_rd hc rb pb cap L.length).1 _ j2 r5 hj2 (by omega)
      have hf3 := (brace_fit L _ (rd_fit nm L L.length true) j2 hj2)
      clear b3 n3 k3 k4 r2 b4 hf2
      go_wp2_with fail
      refine Calls.mono M3.out ?_
      clear M3 r5
      generalize w2.setCell ⟨w.heap.size, 0, none⟩ (.string ⟨x.toArray⟩) = W5 at *
      rintro e w6 ⟨k6, ⟨t, j6, v, g6, r6, rfl, a, c, rfl, ht6⟩ | ⟨j6, t, u, g6, r6, rfl⟩⟩
      · rw [g6] at hf3
        have hj6 : j6 ≤ L.length := hf3.2
        have hz5 : w.heap.size + 2 ≤ W5.heap.size := (Array.getElem?_eq_some_iff.1 n5).1
        have b6 := row_ke b5 k6 (by omega)
        have b6c := (cell_row b6 1).trans rfl
        have b6f := froz_row b6 1
        have n7 := row_other (c := w.heap.size) (i := 1) (row_ke n5 k6 (by omega)) (.slice a t.len c) (by omega)
        have b7 : (w6.setCell ⟨w.heap.size, 1, none⟩ (.slice a t.len c)).heap[w.heap.size]? = some (.cells #[.string ⟨x.toArray⟩, .slice a t.len c] 25 (0, 0)) := row_set b6 1 _
        have r7 := r6.setFar (c := w.heap.size) (j := 1) (.slice a t.len c) (by omega) (by omega)
        have k7 := (k5.trans k6).setFar (c := w.heap.size) (i := 1) (.slice a t.len c) (Nat.le_refl _)
        have ht7 : TAt (fun b => W5.heap.size ≤ b) (w6.setCell ⟨w.heap.size, 1, none⟩ (.slice a t.len c)) true t a 0 t.len := ht6.keep (Keeps.setCell _ _ (by omega)) (fun _ h _ => h) _ _ _ _ _
        obtain ⟨p, hp⟩ := r7.here hc hj6
        have hpt := hc.past j6 p hp
        have M4 : Hid _ := now_any _ rb pb cap j6 ps p r7 hp
        clear r6 k5 k6 b5 b6 n5 ht6 hf3 r7
        go_wp2_with fail
        refine Calls.mono M4.out ?_
        clear M4
        generalize w6.setCell ⟨w.heap.size, 1, none⟩ (.slice a t.len c) = W7 at *
        rintro e w8 ⟨rfl, r8, hb8⟩
        have b8 := row_ke b7 (Ke.of_below (rb := rb) hb8) (by omega)
        have n8 := row_ke n7 (Ke.of_below (rb := rb) hb8) (by omega)
        have k8 := k7.trans (Ke.of_below hb8)
        have ht8 : TAt (fun b => W5.heap.size ≤ b) w8 true t a 0 t.len := ht7.keep (fun b _ hl => hb8.block b hl) (fun _ h _ => h) _ _ _ _ _
        clear ht7 k7 b7 n7
        by_cases he : p.ty = 103
        · have hG : G = .ok (x, t) j6 := by
            rw [HGe.out]
            simp [rSaga, hin, g2, g6, hpt.1 he]
          have ha := as_yes103
          have hv : pcv p = .iface 103 (.agg #[.string ⟨p.text.toArray⟩, .int .i64 (p.at_ : Int)]) := by unfold pcv; rw [he]
          rw [hv]
          have d0 := (cell_row b8 0).trans rfl
          have d1 := (cell_row b8 1).trans rfl
          have df := froz_row b8
          have o0 := (cell_row n8 0).trans rfl
          have oF := froz_row n8 0
          have hne : w.heap.size ≠ w.heap.size + 1 := by omega
          have o1 : ∀ (u1 u2 : Value), ((w8.setCell ⟨w.heap.size, 0, none⟩ u1).setCell ⟨w.heap.size, 1, none⟩ u2).cell? ⟨w.heap.size + 1, 0, none⟩ = some (.bool false) := fun u1 u2 => (cell_row (row_other (row_other n8 u1 (fun h => hne h.symm)) u2 (fun h => hne h.symm)) 0).trans rfl
          go_wp2_with fail
          refine leaves_cons (f := 49) (args := #[.pointer (some ⟨w.heap.size, 0, none⟩), .pointer (some ⟨w.heap.size + 1, 0, none⟩)]) (by simp) (by simp [go_sem]) ?_
          refine (catch_idle w.heap.size (w.heap.size + 1) _).mono ?_
          rintro e u' w'' ⟨rfl, rfl, rfl⟩
          have q0 := (cell_row (row_other (c := w.heap.size + 1) (i := 0) (row_set (row_set b8 0 (.string ⟨x.toArray⟩)) 1 (.slice a t.len c)) (.bool true) (by omega)) 0).trans rfl
          have q1 := (cell_row (row_other (c := w.heap.size + 1) (i := 0) (row_set (row_set b8 0 (.string ⟨x.toArray⟩)) 1 (.slice a t.len c)) (.bool true) (by omega)) 1).trans rfl
          have q2 := (cell_row (row_set (row_other (c := w.heap.size) (i := 1) (row_other (c := w.heap.size) (i := 0) n8 (.string ⟨x.toArray⟩) (by omega)) (.slice a t.len c) (by omega)) 0 (.bool true)) 0).trans rfl
          have hfin : SagaC rb pb cap ps w G (.returned (.tuple #[.agg #[.string ⟨x.toArray⟩, .slice a t.len c], .bool true])) (((w8.setCell ⟨w.heap.size, 0, none⟩ (.string ⟨x.toArray⟩)).setCell ⟨w.heap.size, 1, none⟩ (.slice a t.len c)).setCell ⟨w.heap.size + 1, 0, none⟩ (.bool true)) := by
            refine ⟨((k8.setFar _ (Nat.le_refl _)).setFar _ (Nat.le_refl _)).setFar _ (by omega), .inl ⟨x, t, j6, _, hG, rfl, a, c, rfl, ?_⟩⟩
            exact ((ht8.keep (Q := fun b => W5.heap.size ≤ b) (Keeps.setCell _ _ (by omega)) (fun _ h _ => h) _ _ _ _ _).keep (Q := fun b => W5.heap.size ≤ b) (Keeps.setCell _ _ (by omega)) (fun _ h _ => h) _ _ _ _ _).keep (Keeps.setCell _ _ (by omega)) (fun _ h _ => by omega) _ _ _ _ _
          simp [Leaves, settle, results, Try.results25, go_sem, q0, q1, q2]
          exact hfin
        · have hG : G = .no j6 := by
            rw [HGe.out]
            have : ¬ j6 = L.length := fun h => he (hpt.2 h)
            simp [rSaga, hin, g2, g6, this]
          obtain ⟨o, hoo⟩ := as_no103 p.ty he
          unfold pcv
          have b9 := row_alloc b8 o
          have n9 := row_alloc n8 o
          have r9 := r8.alloc o
          have k9 := k8.alloc o
          go_wp2_with fail
          refine leaves_cons (f := 49) (args := #[.pointer (some ⟨w.heap.size, 0, none⟩), .pointer (some ⟨w.heap.size + 1, 0, none⟩)]) (by simp) (by simp [go_sem]) ?_
          refine (catch_panicking w.heap.size (w.heap.size + 1) _ _ _ 15 _ [] _ b9 n9 (by omega)).mono ?_
          rintro e u' w'' ⟨rfl, rfl, rfl⟩
          have hf := fin j6 _ _ _ _ hG r9 k9 b9 n9
          have d0 := (cell_row (row_other (c := w.heap.size + 1) (i := 0) (row_set (row_set b9 0 (.string ⟨#[]⟩)) 1 (.slice none 0 0)) (.bool false) (by omega)) 0).trans rfl
          have d1 := (cell_row (row_other (c := w.heap.size + 1) (i := 0) (row_set (row_set b9 0 (.string ⟨#[]⟩)) 1 (.slice none 0 0)) (.bool false) (by omega)) 1).trans rfl
          have d2 := (cell_row (row_set (row_other (c := w.heap.size) (i := 1) (row_other (c := w.heap.size) (i := 0) n9 (.string ⟨#[]⟩) (by omega)) (.slice none 0 0) (by omega)) 0 (.bool false)) 0).trans rfl
          simp [Leaves, settle, results, Try.results25, go_sem, d0, d1, d2]
          exact hf
      · have hG : G = .no j6 := by rw [HGe.out]; simp [rSaga, hin, g2, g6]
        have b6 := row_ke b5 k6 (by omega)
        have n6 := row_ke n5 k6 (by omega)
        have k7 := k5.trans k6
        go_wp2_with fail
        refine leaves_cons (f := 49) (args := #[.pointer (some ⟨w.heap.size, 0, none⟩), .pointer (some ⟨w.heap.size + 1, 0, none⟩)]) (by simp) (by simp [go_sem]) ?_
        refine (catch_panicking w.heap.size (w.heap.size + 1) _ _ _ t u [] _ b6 n6 (by omega)).mono ?_
        rintro e u' w'' ⟨rfl, rfl, rfl⟩
        have hf := fin j6 _ _ _ _ hG r6 k7 b6 n6
        have d0 := (cell_row (row_other (c := w.heap.size + 1) (i := 0) (row_set (row_set b6 0 (.string ⟨#[]⟩)) 1 (.slice none 0 0)) (.bool false) (by omega)) 0).trans rfl
        have d1 := (cell_row (row_other (c := w.heap.size + 1) (i := 0) (row_set (row_set b6 0 (.string ⟨#[]⟩)) 1 (.slice none 0 0)) (.bool false) (by omega)) 1).trans rfl
        have d2 := (cell_row (row_set (row_other (c := w.heap.size) (i := 1) (row_other (c := w.heap.size) (i := 0) n6 (.string ⟨#[]⟩) (by omega)) (.slice none 0 0) (by omega)) 0 (.bool false)) 0).trans rfl
        simp [Leaves, settle, results, Try.results25, go_sem, d0, d1, d2]
        exact hf
    · have hG : G = .no j2 := by rw [HGe.out]; simp [rSaga, hin, g2]
      have b4 := row_ke b3 k4 (by omega)
      have n4 := row_ke n3 k4 (by omega)
      have k5 := k3.trans k4
      go_wp2_with fail
      refine leaves_cons (f := 49) (args := #[.pointer (some ⟨w.heap.size, 0, none⟩), .pointer (some ⟨w.heap.size + 1, 0, none⟩)]) (by simp) (by simp [go_sem]) ?_
      refine (catch_panicking w.heap.size (w.heap.size + 1) _ _ _ t u [] _ b4 n4 (by omega)).mono ?_
      rintro e u' w'' ⟨rfl, rfl, rfl⟩
      have hf := fin j2 _ _ _ _ hG r2 k5 b4 n4
      have d0 := (cell_row (row_other (c := w.heap.size + 1) (i := 0) (row_set (row_set b4 0 (.string ⟨#[]⟩)) 1 (.slice none 0 0)) (.bool false) (by omega)) 0).trans rfl
      have d1 := (cell_row (row_other (c := w.heap.size + 1) (i := 0) (row_set (row_set b4 0 (.string ⟨#[]⟩)) 1 (.slice none 0 0)) (.bool false) (by omega)) 1).trans rfl
      have d2 := (cell_row (row_set (row_other (c := w.heap.size) (i := 1) (row_other (c := w.heap.size) (i := 0) n4 (.string ⟨#[]⟩) (by omega)) (.slice none 0 0) (by omega)) 0 (.bool false)) 0).trans rfl
      simp [Leaves, settle, results, Try.results25, go_sem, d0, d1, d2]
      exact hf
  · have hG : G = .no j1 := by
      rw [HGe.out]
      unfold rSaga
      cases hm : isT L 0 wSaga with
      | true => rw [hm] at g1; simp at g1
      | false => rw [hm] at g1; simp at g1; subst g1; simp
    have b3 := row_ke b2 k1 (by omega)
    have n3 := row_ke n2 k1 (by omega)
    go_wp2_with fail
    refine leaves_cons (f := 49) (args := #[.pointer (some ⟨w.heap.size, 0, none⟩), .pointer (some ⟨w.heap.size + 1, 0, none⟩)]) (by simp) (by simp [go_sem]) ?_
    refine (catch_panicking w.heap.size (w.heap.size + 1) _ _ _ t u [] _ b3 n3 (by omega)).mono ?_
    rintro e u' w'' ⟨rfl, rfl, rfl⟩
    have hf := fin j1 w1 _ _ _ hG r1 (k2.trans k1) b3 n3
    have d0 := (cell_row (row_other (c := w.heap.size + 1) (i := 0) (row_set (row_set b3 0 (.string ⟨#[]⟩)) 1 (.slice none 0 0)) (.bool false) (by omega)) 0).trans rfl
    have d1 := (cell_row (row_other (c := w.heap.size + 1) (i := 0) (row_set (row_set b3 0 (.string ⟨#[]⟩)) 1 (.slice none 0 0)) (.bool false) (by omega)) 1).trans rfl
    have d2 := (cell_row (row_set (row_other (c := w.heap.size) (i := 1) (row_other (c := w.heap.size) (i := 0) n3 (.string ⟨#[]⟩) (by omega)) (.slice none 0 0) (by omega)) 0 (.bool false)) 0).trans rfl
    simp [Leaves, settle, results, Try.results25, go_sem, d0, d1, d2]
    exact hf
end
end Go.Proofs.Ytlmfmgpamhhncaa

/- The program's pieces of tokens. -/
namespace Go.Proofs.Ytlmfmgpamhhncaa
open Go.RowKit

def pcOf (t : Tok) : Pc := ⟨if t.kind = 2 then 100 else if isWord t.text then 101 else 102, t.text, t.at_⟩
def pcsOf (l : List Tok) (sz : Nat) : List Pc := l.map pcOf ++ [⟨103, [], sz⟩]
def pvs (l : List Pc) : List Value := l.map pcv

theorem Try.info57 : (Try.prog.info? 57).map (fun i => (i.zero, i.size, i.bytes)) = some (some .nilIface, 1, 16) := by kernel_rfl

/-- 'append' of one piece onto the pieces. -/
theorem append_pc {W : World} {ops : Array Oper} {rest : List Oper} {o : Oper} {a : Act} {Q : Exit → Act → World → Prop} (hgd : o.guard = none) (s x : Operand)
    (ho : o.op = .call { callee := .builtin .append, args := #[s, x], argTypes := #[50, 50] }) (B : Nat) (v : Value) (l : List Pc) (hs : a.eval s = v) (hown : W.ownsRow B 57 1 v l.length (pvs l))
    (t : Pc) (u : Value) (hu : u = pcv t) (A : Addr) (hx : a.eval x = .slice (some A) 1 1) (hcells : W.cell? A = some u) (hl : l.length ≤ 100000) (hB : B ≤ W.heap.size)
    (h : ∀ g cap w', w'.ownsRow B 57 1 (.slice (some ⟨g, 0, none⟩) (l.length + 1) cap) (l ++ [t]).length (pvs (l ++ [t])) → W.grownBy w' v.ownBlock → wpList Try.prog ops Q rest (a.put o.dst (.slice (some ⟨g, 0, none⟩) (l.length + 1) cap)) w') : wpList Try.prog ops Q (o :: rest) a W := by
  obtain ⟨i0, hi, hz0, hz1, hz2⟩ := info_parts Try.info57
  refine wpList_append_own _ hgd s x 50 ho B 57 i0 _ 1 16 Try.underlying50 hi hz0 hz1 hz2 rfl (by decide) v l.length (pvs l) hs hown A 1 1 [pcv t] hx rfl ?_ (by simp [pcv, Value.oneCell']) (by unfold maxLen; omega) (by omega) hB ?_
  · intro j u' hj
    cases j with
    | zero => simp at hj; subst hj; rw [hu] at hcells; simpa [Addr.add] using hcells
    | succ j => simp at hj
  intro v' w' hown' hg _
  have ho' : w'.ownsRow B 57 1 v' (l ++ [t]).length (pvs (l ++ [t])) := by simpa [pvs] using hown'
  have h1 := ho'
  rw [show (l ++ [t]).length = l.length + 1 by simp] at h1
  rcases h1.2 with ⟨_, h0⟩ | ⟨g, cap, cur, rfl, _⟩
  · omega
  · exact h g cap w' ho' hg

set_option maxRecDepth 1000000 in
set_option maxHeartbeats 4000000 in
theorem pieces_any (x : Value) (l : List Tok) (sz : Nat) (w : World) (hx : ReadsT w x l) (hl : l.length ≤ 70000) :
    Calls Try.prog 24 #[x, .int .i64 (sz : Int)] w fun e w' => ∃ g cap, e = .returned (.slice (some ⟨g, 0, none⟩) (l.length + 1) cap) ∧ w'.ownsRow w.heap.size 57 1 (.slice (some ⟨g, 0, none⟩) (l.length + 1) cap) (pcsOf l sz).length (pvs (pcsOf l sz)) ∧ Below w.heap.size w w' := by
  obtain ⟨a, ca, rfl, _, hna, hca⟩ := hx
  have hbl := Below.refl w.heap.size w
  go_enter Try.func24, Try.ntmps24
  go_wp2
  go_loopw [5, 11] (fun lv iv wr => ∃ (k : Nat), k ≤ l.length ∧ iv = .int .i64 k ∧ Hid (wr.ownsRow w.heap.size 57 1 lv ((l.take k).map pcOf).length (pvs ((l.take k).map pcOf))) ∧ Hid (Below w.heap.size w wr)) (fun _ iv _ => l.length - (intOf iv).toNat)
  case atStart => exact ⟨0, Nat.zero_le _, rfl, World.ownsRow_nil _ _ _ _, hbl⟩
  case round =>
    obtain ⟨k, hk, rfl, HO, HB⟩ := hrel
    have hzr := HB.out.size
    by_cases hlt : k < l.length
    · obtain ⟨t, ht⟩ : ∃ t, l[k]? = some t := ⟨_, List.getElem?_eq_getElem hlt⟩
      obtain ⟨b, off, rfl, c0, c1, c2⟩ := hca k t ht
      obtain ⟨kd, tx, ta⟩ := t
      have d0 := cell_later HB.out c0
      have d1 := cell_later HB.out c1
      have d2 := cell_later HB.out c2
      dsimp only at d0 d1 d2
      have hle : ((l.take k).map pcOf).length ≤ 100000 := by simp; omega
      have HLK : Hid (((l.take k).map pcOf).length = k) := by show _ = _; simp; omega
      have hlt' : (k : Int) < (l.length : Int) := by omega
      clear c0 c1 c2 hca
      by_cases h2 : kd = 2
      · subst h2
        have HPC : Hid (Value.iface 100 (.agg #[.string ⟨tx.toArray⟩, .int .i64 (ta : Int)]) = pcv (pcOf ⟨2, tx, ta⟩)) := by show _ = _; simp [pcv, pcOf]
        have HTK : Hid ((l.take (k + 1)).map pcOf = (l.take k).map pcOf ++ [pcOf ⟨2, tx, ta⟩]) := by
          show _ = _
          rw [List.take_add_one, ht]; simp
        go_wp2_with (first
          | (at_builtin
             refine append_pc rfl _ _ rfl w.heap.size _ _ rfl (((HO.out.alloc _).alloc _).alloc _) _ _ HPC.out ⟨wr.heap.size + 1 + 1, 0, none⟩ rfl ?_ hle (by simp; omega) ?_
             simp [go_sem]
             intro g5 cap5 w5 ho5 hg5)
          | (go_at_call 48; refine (word_any _ _).mono ?_; rintro e w' ⟨rfl, rfl⟩))
        have hb5 : Below w.heap.size w w5 := Below.grown (((HB.out.alloc hzr _).alloc (by simp; omega) _).alloc (by simp; omega) _) hg5 (by simp; omega) (fun j hj => (HO.out.lt _ hj).1)
        go_roundw
        case rel => exact ⟨k + 1, by omega, by go_num, by show World.ownsRow _ _ _ _ _ _ _; rw [HTK.out]; rw [HLK.out] at ho5; exact ho5, hb5⟩
        case measure => simp [intOf]; omega
      · cases hw : isWord tx with
        | true =>
          have hw2 := hw
          have HPC : Hid (Value.iface 101 (.agg #[.string ⟨tx.toArray⟩, .int .i64 (ta : Int)]) = pcv (pcOf ⟨kd, tx, ta⟩)) := by show _ = _; simp [pcv, pcOf, h2, hw]
          have HTK : Hid ((l.take (k + 1)).map pcOf = (l.take k).map pcOf ++ [pcOf ⟨kd, tx, ta⟩]) := by
            show _ = _
            rw [List.take_add_one, ht]; simp
          go_wp2_with (first
            | (at_builtin
               refine append_pc rfl _ _ rfl w.heap.size _ _ rfl (((HO.out.alloc _).alloc _).alloc _) _ _ HPC.out ⟨wr.heap.size + 1 + 1, 0, none⟩ rfl ?_ hle (by simp; omega) ?_
               simp [go_sem]
               intro g5 cap5 w5 ho5 hg5)
            | (go_at_call 48; refine (word_any _ _).mono ?_; rintro e w' ⟨rfl, rfl⟩))
          have hb5 : Below w.heap.size w w5 := Below.grown (((HB.out.alloc hzr _).alloc (by simp; omega) _).alloc (by simp; omega) _) hg5 (by simp; omega) (fun j hj => (HO.out.lt _ hj).1)
          go_roundw
          case rel => exact ⟨k + 1, by omega, by go_num, by show World.ownsRow _ _ _ _ _ _ _; rw [HTK.out]; rw [HLK.out] at ho5; exact ho5, hb5⟩
          case measure => simp [intOf]; omega
        | false =>
          have hw2 := hw
          have HPC : Hid (Value.iface 102 (.agg #[.string ⟨tx.toArray⟩, .int .i64 (ta : Int)]) = pcv (pcOf ⟨kd, tx, ta⟩)) := by show _ = _; simp [pcv, pcOf, h2, hw]
          have HTK : Hid ((l.take (k + 1)).map pcOf = (l.take k).map pcOf ++ [pcOf ⟨kd, tx, ta⟩]) := by
            show _ = _
            rw [List.take_add_one, ht]; simp
          go_wp2_with (first
            | (at_builtin
               refine append_pc rfl _ _ rfl w.heap.size _ _ rfl (((HO.out.alloc _).alloc _).alloc _) _ _ HPC.out ⟨wr.heap.size + 1 + 1, 0, none⟩ rfl ?_ hle (by simp; omega) ?_
               simp [go_sem]
               intro g5 cap5 w5 ho5 hg5)
            | (go_at_call 48; refine (word_any _ _).mono ?_; rintro e w' ⟨rfl, rfl⟩))
          have hb5 : Below w.heap.size w w5 := Below.grown (((HB.out.alloc hzr _).alloc (by simp; omega) _).alloc (by simp; omega) _) hg5 (by simp; omega) (fun j hj => (HO.out.lt _ hj).1)
          go_roundw
          case rel => exact ⟨k + 1, by omega, by go_num, by show World.ownsRow _ _ _ _ _ _ _; rw [HTK.out]; rw [HLK.out] at ho5; exact ho5, hb5⟩
          case measure => simp [intOf]; omega
    · have hkl : k = l.length := by omega
      subst hkl
      have ho := HO.out
      rw [List.take_length] at ho
      have hle : (l.map pcOf).length ≤ 100000 := by simp; omega
      clear HO hca
      go_wp2_with (at_builtin; refine append_pc rfl _ _ rfl w.heap.size _ _ rfl (ho.alloc _) ⟨103, [], sz⟩ _ rfl ⟨wr.heap.size, 0, none⟩ rfl ?_ hle (by simp; omega) ?_; simp [go_sem, pcv]; intro g5 cap5 w5 ho5 hg5)
      have hb5 : Below w.heap.size w w5 := Below.grown (HB.out.alloc hzr _) hg5 (by simp; omega) (fun j hj => (ho.lt _ hj).1)
      go_ret
      simp only [List.length_map] at ho5 ⊢
      exact ⟨g5, cap5, rfl, ho5, hb5⟩
end Go.Proofs.Ytlmfmgpamhhncaa

