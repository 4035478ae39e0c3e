/- Texts of the seat, packed: Ko. -/
import Derived.Test.YtkndchbpbaecbaaGreatDoorP40
/- The walk over FactOpens. -/
namespace Go.Proofs.YtkndchbpbaecbaaGreatDoor.Fc
open Go.RowKit Go.Shelf
set_option maxRecDepth 1000000
set_option linter.unusedVariables false

theorem its2_root (x : Sx.By) (am : Nat) (xs : List Pd) : ∀ k, (its2 x am xs k)[0]? = some (rootI x am)
  | 0 => rfl
  | k + 1 => by
    unfold its2
    split
    · rw [List.getElem?_set_ne (by omega)]
      exact its2_root x am xs k
    · exact its2_root x am xs k

theorem root_sub {its : List It} (h : (sagaP its).isSome = true) : (subs its).getD 0 true = true := by
  obtain ⟨p, hp⟩ := Option.isSome_iff_exists.1 h
  unfold sagaP at hp
  split at hp
  · rename_i hc
    have h2 := hc.2
    unfold planT planP at h2
    split at h2
    · have h3 := Option.some.inj h2
      have h4 := its2_root (nameI its 0) (bodS its).len (xsT (bodS its) 0 0 0) (xsT (bodS its) 0 0 0).length
      rw [h3] at h4
      rw [subs_getD h4]
      rfl
    · cases h2
  · cases hp

/-- The ends of what is open. -/
def end1 (u : Bool) : Int := if u then 5 else 2
def end2 (u : Bool) : Int := if u then 6 else 3

theorem open_app {its : List It} {l : List Fa} {i : Nat} {u : Bool} {t k : Int} (hx : (i, u, t) ∈ openP its l) (hk : k = end1 u ∨ k = end2 u) :
    (k = 6 ∧ t = 3 ∧ appP its l ⟨k, (i : Int), t, [1]⟩ = .inl 14) ∨ ∃ m, appP its l ⟨k, (i : Int), t, [1]⟩ = .inr m ∧ m.length = l.length ∧ (openP its m).length + 1 = (openP its l).length := by
  unfold openP at hx
  split at hx
  rotate_left
  · cases hx
  rename_i hc
  obtain ⟨h1, h2⟩ := chkF_iff.1 hc
  obtain ⟨⟨a1, a2⟩, a3, a4, a5, a6⟩ := open_ends h2 (root_sub h1) hx (k := k) hk
  have hlen : l.length ≤ 64 := by
    have := (root_len h1).2
    have h3 := h2.1
    unfold subs at h3
    rw [List.length_map] at h3
    omega
  have hok : Ek.okE ⟨k, (i : Int), t, [1]⟩ = true := by
    unfold Ek.okE Ek.okH
    rw [Bool.and_eq_true]
    refine ⟨decide_eq_true ?_, by show Ek.okS [1] = true; decide⟩
    unfold end1 end2 at hk
    cases u with
    | false => have := a5 rfl; rcases hk with rfl | rfl <;> simp <;> omega
    | true => rcases hk with rfl | rfl <;> simp <;> omega
  have htn : ((i : Int)).toNat = i := by omega
  rcases a6 with ⟨b1, b2, b3⟩ | ⟨b1, m, b2, b3, b4⟩
  · left
    refine ⟨b1, b2, ?_⟩
    unfold appP
    rw [if_pos hc, if_pos hok]
    simp only
    rw [htn, b3]
  · right
    have hm := chkF_ok h1 b3
    refine ⟨m, ?_, (does_right h2 b2).2.2.1, ?_⟩
    · unfold appP
      rw [if_pos hc, if_pos hok]
      simp only
      rw [htn, b2]
    · unfold openP
      rw [if_pos hc, if_pos hm]
      exact b4

/-- What FactOpens knows. -/
structure FoS (w : World) (v lv ov : Value) (l : List Fa) (O : List (Nat × Bool × Int)) (W : World) : Prop where
  bel : Below w.heap.size w W
  bp : W.heap[w.heap.size]? = some (.cells #[v] 24 (0, 0))
  rl : RF W lv l
  rk : RK W ov O

theorem FoS.later {w : World} {v lv ov : Value} {l : List Fa} {O : List (Nat × Bool × Int)} {W W' : World} (h : FoS w v lv ov l O W) (hb : Below W.heap.size W W') : FoS w v lv ov l O W' :=
  ⟨h.bel.trans (hb.mono h.bel.size), (hb.block _ (Array.getElem?_eq_some_iff.1 h.bp).1).trans h.bp, h.rl.later hb, h.rk.later hb⟩

/-- .. and in a round. -/
structure FoR (w : World) (v lv ov : Value) (l : List Fa) (O : List (Nat × Bool × Int)) (x : Nat × Bool × Int) (kb eb : Nat) (W : World) : Prop where
  fo : FoS w v lv ov l O W
  key : W.heap[kb]? = some (.cells #[.int .i64 (x.1 : Int), .bool x.2.1, .int .i64 x.2.2] 45 (0, 0))
  ends : W.heap[eb]? = some (.cells #[.int .i64 (end1 x.2.1), .int .i64 (end2 x.2.1)] 26 (0, 0))

theorem FoR.later {w : World} {v lv ov : Value} {l : List Fa} {O : List (Nat × Bool × Int)} {x : Nat × Bool × Int} {kb eb : Nat} {W W' : World} (h : FoR w v lv ov l O x kb eb W) (hb : Below W.heap.size W W') : FoR w v lv ov l O x kb eb W' :=
  ⟨h.fo.later hb, (hb.block _ (Array.getElem?_eq_some_iff.1 h.key).1).trans h.key, (hb.block _ (Array.getElem?_eq_some_iff.1 h.ends).1).trans h.ends⟩

theorem FoR.cells {w : World} {v lv ov : Value} {l : List Fa} {O : List (Nat × Bool × Int)} {x : Nat × Bool × Int} {kb eb : Nat} {W : World} (h : FoR w v lv ov l O x kb eb W) : W.cell? ⟨kb, 0, none⟩ = some (.int .i64 (x.1 : Int)) ∧ W.cell? ⟨kb, 1, none⟩ = some (.bool x.2.1) ∧ W.cell? ⟨kb, 2, none⟩ = some (.int .i64 x.2.2) ∧ W.cell? ⟨w.heap.size, 0, none⟩ = some v :=
  ⟨Dg.cell_row h.key 0, Dg.cell_row h.key 1, Dg.cell_row h.key 2, Dg.cell_row h.fo.bp 0⟩

def endK (u : Bool) (j : Nat) : Int := if j = 0 then end1 u else end2 u

theorem FoR.kind {w : World} {v lv ov : Value} {l : List Fa} {O : List (Nat × Bool × Int)} {x : Nat × Bool × Int} {kb eb : Nat} {W : World} (h : FoR w v lv ov l O x kb eb W) {j : Nat} (hj : j < 2) : W.cell? ⟨eb, j, none⟩ = some (.int .i64 (endK x.2.1 j)) := by
  have : j = 0 ∨ j = 1 := by omega
  rcases this with rfl | rfl
  · exact Dg.cell_row h.ends 0
  · exact Dg.cell_row h.ends 1

theorem endK_or (u : Bool) (j : Nat) : endK u j = end1 u ∨ endK u j = end2 u := by
  unfold endK
  split
  · exact .inl rfl
  · exact .inr rfl

set_option maxHeartbeats 8000000 in
theorem opens_walk (its : List It) (v lv : Value) (l : List Fa) (w : World) (hT : Dg.Tab w) (hIt : RdIt w v its) (hil : its.length ≤ maxLen) (hnm : ∀ x ∈ its, x.name.length ≤ maxLen ∧ x.undo.length ≤ maxLen ∧ x.after.length ≤ maxLen) (hl : RF w lv l) :
    Calls Tryz.prog 5 #[.agg #[v], lv] w fun x w' => x = .returned (.bool true) ∧ Below w.heap.size w w' := by
  have h0 : ChS w v (w.alloc (.cells #[v] 24)) := ⟨bl1 _ _, Dg.row_new w _ 24⟩
  have MS0 := small_any its v _ (hIt.later h0.bel) hil hnm
  have HIt : Hid (∀ W, Below w.heap.size w W → RdIt W v its) := fun W hb => hIt.later hb
  have HL : Hid (∀ W, Below w.heap.size w W → RF W lv l) := fun W hb => hl.later hb
  have HLV : Hid (∀ W, Below w.heap.size w W → Calls Tryz.prog 7 #[] W fun x w' => x = .returned (.bool true) ∧ Below W.heap.size W w') := fun W hb => lives_any W (hT.later hb)
  have HT : Hid (∀ W, Below w.heap.size w W → Dg.Tab W) := fun W hb => hT.later hb
  obtain ⟨ia, icap, rfl, _, _⟩ := hIt
  obtain ⟨la, lcap, rfl, hl1, hl2, _⟩ := hl
  have hlm : l.length ≤ maxLen := by omega
  clear hl1 hl2 hnm
  obtain ⟨q, HQ⟩ : ∃ q, Hid (smallI its = q) := ⟨_, rfl⟩
  rw [HQ.out] at MS0
  have MS : Hid (Calls Tryz.prog 6 #[.agg #[.slice ia its.length icap]] _ fun x w' => x = .returned (.bool q) ∧ Below _ _ w') := MS0
  have H0 : Hid (ChS w (.slice ia its.length icap) _) := h0
  obtain ⟨n, HN⟩ : ∃ n, Hid (its.length = n) := ⟨_, rfl⟩
  obtain ⟨ml, HML⟩ : ∃ n, Hid (l.length = n) := ⟨_, rfl⟩
  clear h0 MS0
  unfold maxLen at hlm
  rw [HML.out] at hlm
  replace MS : Hid (Calls Tryz.prog 6 #[.agg #[.slice ia n icap]] (w.alloc (.cells #[.slice ia n icap] 24)) fun x w' => x = .returned (.bool q) ∧ Below (w.alloc (.cells #[.slice ia n icap] 24)).heap.size (w.alloc (.cells #[.slice ia n icap] 24)) w') := by
    have h1 := HN.out
    subst h1
    exact MS.out
  rw [HN.out] at H0
  rw [HN.out] at HIt
  rw [HML.out] at HL
  rw [HN.out, HML.out]
  go_enter Tryz.func5, Tryz.ntmps5
  go_wp2_with fail
  generalize w.alloc (.cells #[.slice ia n icap] 24) = w0 at *
  refine Calls.mono MS.out ?_
  rintro x w1 ⟨rfl, hb1⟩
  have H1 : Hid _ := H0.out.later hb1
  clear MS hb1 H0
  have z0 := (Dg.cell_row H1.out.box 0).trans rfl
  by_cases hg : q = true ∧ ml ≤ 100
  rotate_left
  · have hcs : q = false ∨ (q = true ∧ (100 : Int) < (ml : Int)) := by
      cases q with
      | false => exact .inl rfl
      | true => exact .inr ⟨rfl, by apply Classical.byContradiction; intro h9; exact hg ⟨rfl, by omega⟩⟩
    clear hg
    rcases hcs with rfl | ⟨rfl, c1⟩
    all_goals
      go_wp2_with fail
      refine Calls.mono (HLV.out w1 H1.out.bel) ?_
      rintro x w2 ⟨rfl, hb2⟩
      have HB2 : Hid (Below w.heap.size w w2) := H1.out.bel.trans (hb2.mono H1.out.bel.size)
      clear hb2
      go_wp2_with fail
      go_ret
      exact ⟨rfl, HB2.out⟩
  obtain ⟨rfl, hm1⟩ := hg
  obtain ⟨hfair, hn70⟩ := small_fair HQ.out
  have HOP : Hid (∀ (W : World) (mv : Value) (m : List Fa), Below w.heap.size w W → RF W mv m → m.length = ml → Calls Tryz.prog 11 #[.agg #[.slice ia n icap], mv] W fun x w' => OpnC (openP its m) W x w') := fun W mv m h hr hml => open_any its _ mv m W (HIt.out W h) hfair (HT.out W h) hr (by omega) (by omega)
  have HAP : Hid (∀ (W : World) (mv : Value) (g : Nat) (k i t : Int), Below w.heap.size w W → RF W mv l → Ek.RI W (.slice (some ⟨g, 0, none⟩) 1 1) [1] → Calls Tryz.prog 8 #[.agg #[.slice ia n icap], mv, .agg #[.int .i64 k, .int .i64 i, .int .i64 t, .slice (some ⟨g, 0, none⟩) 1 1]] W fun x w' => AppC (appP its l ⟨k, i, t, [1]⟩) W x w') := fun W mv g k i t h hr hs => apply_any its _ mv (.slice (some ⟨g, 0, none⟩) 1 1) l ⟨k, i, t, [1]⟩ W (HIt.out W h) hfair (HT.out W h) hr hs (by simp) (by omega) (by rw [HML.out]; omega)
  have c1 : ¬ (100 : Int) < (ml : Int) := by omega
  have HOL : Hid ((openP its l).length ≤ 1000) := by
    show _ ≤ _
    unfold openP
    split
    · have := opG_few l 0
      rw [HML.out] at this
      omega
    · simp
  clear HQ hfair hn70
  go_wp2_with fail
  refine Calls.mono (HOP.out w1 _ l H1.out.bel (HL.out w1 H1.out.bel) HML.out) ?_
  rintro x w2 ⟨hb2, o, rfl, ho⟩
  obtain ⟨oa, oc, rfl⟩ := ho.slice
  have H2 : Hid _ := H1.out.later hb2
  obtain ⟨on, HON⟩ : ∃ n, Hid ((openP its l).length = n) := ⟨_, rfl⟩
  have hrk := ho.rk
  rw [HON.out] at hrk
  have hol := HOL.out
  rw [HON.out] at hol ⊢
  have HF2 : Hid (FoS w (.slice ia n icap) (.slice la ml lcap) (.slice oa on oc) l (openP its l) w2) := ⟨H2.out.bel, H2.out.box, HL.out w2 H2.out.bel, hrk⟩
  clear hb2 ho hrk H1 H2 z0 c1 HOL
  go_wp2_with fail
  go_loopw [6] (fun iv wr => ∃ (k : Nat), k ≤ on ∧ iv = .int .i64 k ∧ Hid (FoS w (.slice ia n icap) (.slice la ml lcap) (.slice oa on oc) l (openP its l) wr)) (fun iv _ => on - (intOf iv).toNat)
  case atStart => exact ⟨0, Nat.zero_le _, rfl, HF2⟩
  case round =>
    obtain ⟨k, hk, rfl, HFr⟩ := hrel
    rename World => wr
    by_cases hlt : k < on
    rotate_left
    · clear HF2
      go_wp2_with fail
      refine Calls.mono (HLV.out wr HFr.out.bel) ?_
      rintro x w5 ⟨rfl, hb5⟩
      have HB5 : Hid (Below w.heap.size w w5) := HFr.out.bel.trans (hb5.mono HFr.out.bel.size)
      clear hb5
      go_wp2_with fail
      go_ret
      exact ⟨rfl, HB5.out⟩
    obtain ⟨x, hx⟩ : ∃ x, (openP its l)[k]? = some x := ⟨_, List.getElem?_eq_getElem (by rw [HON.out]; exact hlt)⟩
    have HXM : Hid (x ∈ openP its l) := List.mem_of_getElem? hx
    obtain ⟨ob, oo, rfl, q0, q1, q2⟩ : ∃ b off, oa = some ⟨b, off, none⟩ ∧ wr.cell? ⟨b, off + k * 3, none⟩ = some (.int .i64 (x.1 : Int)) ∧ wr.cell? ⟨b, off + k * 3 + 1, none⟩ = some (.bool x.2.1) ∧ wr.cell? ⟨b, off + k * 3 + 2, none⟩ = some (.int .i64 x.2.2) := by
      obtain ⟨a', c', e, _, _, hr⟩ := HFr.out.rk
      obtain ⟨b', off', e', h4⟩ := hr k x hx
      subst e'
      simp only [Value.slice.injEq] at e
      exact ⟨_, _, e.1, h4⟩
    have hii : (k : Int) < (on : Int) := by omega
    obtain ⟨xi, xu, xt⟩ := x
    dsimp only at q0 q1 q2
    have HPL : Hid (∀ j, j < 2 → (endK xu j = 6 ∧ xt = 3 ∧ appP its l ⟨endK xu j, (xi : Int), xt, [1]⟩ = .inl 14) ∨ ∃ m, appP its l ⟨endK xu j, (xi : Int), xt, [1]⟩ = .inr m ∧ m.length = l.length ∧ (openP its m).length + 1 = (openP its l).length) := fun j _ => open_app HXM.out (endK_or xu j)
    clear hx HXM HF2
    cases xu with
    | false =>
      go_wp2_with fail
      have HFS : Hid (FoR w (.slice ia n icap) (.slice la ml lcap) (.slice (some ⟨ob, oo, none⟩) on oc) l (openP its l) (xi, false, xt) wr.heap.size (wr.heap.size + 1) ((wr.alloc (.cells #[.int .i64 (xi : Int), .bool false, .int .i64 xt] 45)).alloc (.cells #[.int .i64 2, .int .i64 3] 26))) := by
        have r2 := Dg.row_new (wr.alloc (.cells #[.int .i64 (xi : Int), .bool false, .int .i64 xt] 45)) #[.int .i64 2, .int .i64 3] 26
        rw [World.size_alloc] at r2
        exact ⟨(HFr.out.later (bl1 _ _)).later (bl1 _ _), Dg.row_alloc (Dg.row_new wr _ 45) _, r2⟩
      generalize (wr.alloc (.cells #[.int .i64 (xi : Int), .bool false, .int .i64 xt] 45)).alloc (.cells #[.int .i64 2, .int .i64 3] 26) = ws at *
      generalize wr.heap.size + 1 = eb at *
      generalize wr.heap.size = kb at *
      clear q0 q1 q2 HFr
      go_loopw [9] (fun jv wj => ∃ (j : Nat), j ≤ 2 ∧ jv = .int .i64 j ∧ Hid (FoR w (.slice ia n icap) (.slice la ml lcap) (.slice (some ⟨ob, oo, none⟩) on oc) l (openP its l) (xi, false, xt) kb eb wj)) (fun jv _ => 2 - (intOf jv).toNat)
      case atStart => exact ⟨0, by omega, rfl, HFS⟩
      case round =>
        obtain ⟨j, hj, rfl, HFj⟩ := hrel
        rename World => wj
        by_cases hj2 : j < 2
        rotate_left
        · go_wp2_with fail
          go_roundw
          case rel => exact ⟨k + 1, by omega, by go_num, HFj.out.fo⟩
          case measure => simp [intOf]; omega
        have hjj : (j : Int) < 2 := by omega
        rcases HPL.out j hj2 with ⟨pa1, pa2, pa3⟩ | ⟨m, pb1, pb2, pb3⟩
        · have PA1 : Hid _ := pa1
          have PA2 : Hid _ := pa2
          have PA3 : Hid _ := pa3
          clear pa1 pa2 pa3
          go_wp2_with fail
          have hS0 : FoR w (.slice ia n icap) (.slice la ml lcap) (.slice (some ⟨ob, oo, none⟩) on oc) l (openP its l) (xi, false, xt) kb eb wj.drew := HFj.out.later (Below.refl _ _).drew
          have hCUR := hS0
          clear HFj
          refine region_thenG (β := Nat) (fun n9 => [(43, .agg #[.slice ia n icap]), (44, .slice la ml lcap), (45, .slice (some ⟨eb, 0, none⟩) 2 2), (46, .int .i64 (j : Int)), (47, .pointer (some ⟨eb, j, none⟩)), (48, .int .i64 (endK false j)), (49, .pointer (some ⟨kb, 0, none⟩)), (50, .int .i64 (xi : Int)), (51, .pointer (some ⟨kb, 2, none⟩)), (52, .int .i64 xt), (53, .slice (some ⟨n9, 0, none⟩) 1 1), (54, .agg #[.int .i64 (endK false j), .int .i64 (xi : Int), .int .i64 xt, .slice (some ⟨n9, 0, none⟩) 1 1]), (55, .tuple #[.slice none 0 0, .int .i64 14]), (42, .tuple #[.slice none 0 0, .int .i64 14]), (56, .slice none 0 0), (57, .int .i64 14), (10, .slice none 0 0), (11, .int .i64 14)]) (fun n9 w' => FoR w (.slice ia n icap) (.slice la ml lcap) (.slice (some ⟨ob, oo, none⟩) on oc) l (openP its l) (xi, false, xt) kb eb w') ?_ ?_
          · refine wp_region_held (S := fun w' => FoR w (.slice ia n icap) (.slice la ml lcap) (.slice (some ⟨ob, oo, none⟩) on oc) l (openP its l) (xi, false, xt) kb eb w') (by kernel_rfl) ?_
            simp only [List.size_toArray, List.length_cons, List.length_nil, Nat.reduceAdd, Array.replicate_succ, Array.replicate_zero, List.push_toArray, List.nil_append, List.cons_append]
            refine takeD (i := 0) (d := 43) (v := .agg #[.slice ia n icap]) (fuel := 17) rfl rfl (by kernel_rfl) (by kernel_rfl) (by kernel_rfl) (fun _ _ _ h => by cases h.1) (.inl ⟨by kernel_rfl, fun wx h => by obtain ⟨y0, y1, y2, y3⟩ := h.cells; go_simp⟩) hS0 ?_
            simp only [List.setIfInBounds_toArray, List.set_cons_succ, List.set_cons_zero]
            refine takeD (i := 1) (d := 44) (v := .slice la ml lcap) (fuel := 16) rfl rfl (by kernel_rfl) (by kernel_rfl) (by kernel_rfl) (fun _ _ _ h => by cases h.1) (.inl ⟨by kernel_rfl, fun _ _ => by kernel_rfl⟩) hS0 ?_
            simp only [List.setIfInBounds_toArray, List.set_cons_succ, List.set_cons_zero]
            refine takeD (i := 2) (d := 45) (v := .slice (some ⟨eb, 0, none⟩) 2 2) (fuel := 15) rfl rfl (by kernel_rfl) (by kernel_rfl) (by kernel_rfl) (fun _ _ _ h => by cases h.1) (.inl ⟨by kernel_rfl, fun _ _ => by kernel_rfl⟩) hS0 ?_
            simp only [List.setIfInBounds_toArray, List.set_cons_succ, List.set_cons_zero]
            refine takeD (i := 3) (d := 46) (v := .int .i64 (j : Int)) (fuel := 14) rfl rfl (by kernel_rfl) (by kernel_rfl) (by kernel_rfl) (fun _ _ _ h => by cases h.1) (.inl ⟨by kernel_rfl, fun _ _ => by kernel_rfl⟩) hS0 ?_
            simp only [List.setIfInBounds_toArray, List.set_cons_succ, List.set_cons_zero]
            refine takeD (i := 4) (d := 47) (v := .pointer (some ⟨eb, j, none⟩)) (fuel := 13) rfl rfl (by kernel_rfl) (by kernel_rfl) (by kernel_rfl) (fun _ _ _ h => by cases h.1) (.inl ⟨by kernel_rfl, fun _ _ => by go_simp⟩) hS0 ?_
            simp only [List.setIfInBounds_toArray, List.set_cons_succ, List.set_cons_zero]
            refine takeD (i := 5) (d := 48) (v := .int .i64 (endK false j)) (fuel := 12) rfl rfl (by kernel_rfl) (by kernel_rfl) (by kernel_rfl) (fun _ _ _ h => by cases h.1) (.inl ⟨by kernel_rfl, fun wx h => by have y9 := h.kind hj2; go_simp⟩) hS0 ?_
            simp only [List.setIfInBounds_toArray, List.set_cons_succ, List.set_cons_zero]
            refine takeD (i := 6) (d := 49) (v := .pointer (some ⟨kb, 0, none⟩)) (fuel := 11) rfl rfl (by kernel_rfl) (by kernel_rfl) (by kernel_rfl) (fun _ _ _ h => by cases h.1) (.inl ⟨by kernel_rfl, fun _ _ => by go_simp⟩) hS0 ?_
            simp only [List.setIfInBounds_toArray, List.set_cons_succ, List.set_cons_zero]
            refine takeD (i := 7) (d := 50) (v := .int .i64 (xi : Int)) (fuel := 10) rfl rfl (by kernel_rfl) (by kernel_rfl) (by kernel_rfl) (fun _ _ _ h => by cases h.1) (.inl ⟨by kernel_rfl, fun wx h => by obtain ⟨y0, y1, y2, y3⟩ := h.cells; go_simp⟩) hS0 ?_
            simp only [List.setIfInBounds_toArray, List.set_cons_succ, List.set_cons_zero]
            refine takeD (i := 8) (d := 51) (v := .pointer (some ⟨kb, 2, none⟩)) (fuel := 9) rfl rfl (by kernel_rfl) (by kernel_rfl) (by kernel_rfl) (fun _ _ _ h => by cases h.1) (.inl ⟨by kernel_rfl, fun _ _ => by go_simp⟩) hS0 ?_
            simp only [List.setIfInBounds_toArray, List.set_cons_succ, List.set_cons_zero]
            refine takeD (i := 9) (d := 52) (v := .int .i64 xt) (fuel := 8) rfl rfl (by kernel_rfl) (by kernel_rfl) (by kernel_rfl) (fun _ _ _ h => by cases h.1) (.inl ⟨by kernel_rfl, fun wx h => by obtain ⟨y0, y1, y2, y3⟩ := h.cells; go_simp⟩) hS0 ?_
            simp only [List.setIfInBounds_toArray, List.set_cons_succ, List.set_cons_zero]
            refine wpAnyH_all (fuel := 7) (rs := [10]) (by kernel_rfl) (by decide) (List.forall_mem_singleton.2 ?_)
            refine wpOp_value (i := 10) (d := 53) (v := .slice (some ⟨wj.heap.size, 0, none⟩) 1 1) (w' := wj.drew.alloc (.cells #[.int .i64 1] 3)) rfl rfl (by kernel_rfl) (by go_simp) ⟨(hS0).later (bl1 _ _), ?_⟩
            simp only [List.setIfInBounds_toArray, List.set_cons_succ, List.set_cons_zero]
            have hSm10 : FoR w (.slice ia n icap) (.slice la ml lcap) (.slice (some ⟨ob, oo, none⟩) on oc) l (openP its l) (xi, false, xt) kb eb (wj.drew.alloc (.cells #[.int .i64 1] 3)) := (hS0).later (bl1 _ _)
            have hCm10 : Ek.RI (wj.drew.alloc (.cells #[.int .i64 1] 3)) (.slice (some ⟨wj.heap.size, 0, none⟩) 1 1) [1] := RI.one (Dg.row_new wj.drew _ 3)
            refine takeD (i := 11) (d := 54) (v := .agg #[.int .i64 (endK false j), .int .i64 (xi : Int), .int .i64 xt, .slice (some ⟨wj.heap.size, 0, none⟩) 1 1]) (fuel := 6) rfl rfl (by kernel_rfl) (by kernel_rfl) (by kernel_rfl) (fun _ _ _ h => by cases h.1) (.inl ⟨by kernel_rfl, fun wx h => by go_simp⟩) hSm10 ?_
            simp only [List.setIfInBounds_toArray, List.set_cons_succ, List.set_cons_zero]
            refine oneW (R := fun w' => FoR w (.slice ia n icap) (.slice la ml lcap) (.slice (some ⟨ob, oo, none⟩) on oc) l (openP its l) (xi, false, xt) kb eb w') (i := 12) (d := 55) (f := 8) (args := #[.agg #[.slice ia n icap], .slice la ml lcap, .agg #[.int .i64 (endK false j), .int .i64 (xi : Int), .int .i64 xt, .slice (some ⟨wj.heap.size, 0, none⟩) 1 1]]) (v := .tuple #[.slice none 0 0, .int .i64 14]) (fuel := 5) rfl rfl (by kernel_rfl) (by kernel_rfl) (fun _ => by kernel_rfl) (Calls.mono (HAP.out _ _ wj.heap.size (endK false j) (xi : Int) xt hSm10.fo.bel hSm10.fo.rl hCm10) (by rintro e w' ⟨hb, he⟩; rw [PA3.out] at he; exact ⟨he, hSm10.later hb⟩)) (fun w' h => h) (fun wz hR12 => ?_)
            simp only [List.setIfInBounds_toArray, List.set_cons_succ, List.set_cons_zero]
            refine takeD (i := 13) (d := 42) (v := .tuple #[.slice none 0 0, .int .i64 14]) (fuel := 4) rfl rfl (by kernel_rfl) (by kernel_rfl) (by kernel_rfl) (fun _ _ _ h => by cases h.1) (.inl ⟨by kernel_rfl, fun _ _ => by kernel_rfl⟩) (hR12) ?_
            simp only [List.setIfInBounds_toArray, List.set_cons_succ, List.set_cons_zero]
            refine takeD (i := 14) (d := 56) (v := .slice none 0 0) (fuel := 3) rfl rfl (by kernel_rfl) (by kernel_rfl) (by kernel_rfl) (fun _ _ _ h => by cases h.1) (.inl ⟨by kernel_rfl, fun _ _ => by kernel_rfl⟩) (hR12) ?_
            simp only [List.setIfInBounds_toArray, List.set_cons_succ, List.set_cons_zero]
            refine takeD (i := 15) (d := 57) (v := .int .i64 14) (fuel := 2) rfl rfl (by kernel_rfl) (by kernel_rfl) (by kernel_rfl) (fun _ _ _ h => by cases h.1) (.inl ⟨by kernel_rfl, fun _ _ => by kernel_rfl⟩) (hR12) ?_
            simp only [List.setIfInBounds_toArray, List.set_cons_succ, List.set_cons_zero]
            refine takeD (i := 16) (d := 10) (v := .slice none 0 0) (fuel := 1) rfl rfl (by kernel_rfl) (by kernel_rfl) (by kernel_rfl) (fun _ _ _ h => by cases h.1) (.inl ⟨by kernel_rfl, fun _ _ => by kernel_rfl⟩) (hR12) ?_
            simp only [List.setIfInBounds_toArray, List.set_cons_succ, List.set_cons_zero]
            refine takeD (i := 17) (d := 11) (v := .int .i64 14) (fuel := 0) rfl rfl (by kernel_rfl) (by kernel_rfl) (by kernel_rfl) (fun _ _ _ h => by cases h.1) (.inl ⟨by kernel_rfl, fun _ _ => by kernel_rfl⟩) (hR12) ?_
            simp only [List.setIfInBounds_toArray, List.set_cons_succ, List.set_cons_zero]
            refine wpAnyH_done (by kernel_rfl) ?_ _
            exact ⟨rfl, wj.heap.size, by kernel_rfl, hR12⟩
          · rintro n9 w9 hF
            simp only [setAll, List.setIfInBounds_toArray, List.set_cons_succ, List.set_cons_zero]
            obtain ⟨y0, y1, y2, y3⟩ := hF.cells
            have y9 := hF.kind hj2
            have HF9 : Hid _ := hF
            clear hF
            rw [PA1.out] at y9
            rw [PA2.out] at y2
            go_wp2_with fail
            go_roundw
            case rel => exact ⟨j + 1, by omega, by go_num, HF9⟩
            case measure => simp [intOf]; omega
        · have PB1 : Hid _ := pb1
          have PB2 : Hid (m.length = ml) := pb2.trans HML.out
          have PB3 : Hid _ := pb3
          clear pb1 pb2 pb3
          go_wp2_with fail
          have hS0 : FoR w (.slice ia n icap) (.slice la ml lcap) (.slice (some ⟨ob, oo, none⟩) on oc) l (openP its l) (xi, false, xt) kb eb wj.drew := HFj.out.later (Below.refl _ _).drew
          have hCUR := hS0
          clear HFj
          refine region_thenG (β := Nat × (Option Addr × Nat)) (fun ⟨n9, z⟩ => [(43, .agg #[.slice ia n icap]), (44, .slice la ml lcap), (45, .slice (some ⟨eb, 0, none⟩) 2 2), (46, .int .i64 (j : Int)), (47, .pointer (some ⟨eb, j, none⟩)), (48, .int .i64 (endK false j)), (49, .pointer (some ⟨kb, 0, none⟩)), (50, .int .i64 (xi : Int)), (51, .pointer (some ⟨kb, 2, none⟩)), (52, .int .i64 xt), (53, .slice (some ⟨n9, 0, none⟩) 1 1), (54, .agg #[.int .i64 (endK false j), .int .i64 (xi : Int), .int .i64 xt, .slice (some ⟨n9, 0, none⟩) 1 1]), (55, .tuple #[.slice z.1 ml z.2, .int .i64 0]), (42, .tuple #[.slice z.1 ml z.2, .int .i64 0]), (56, .slice z.1 ml z.2), (57, .int .i64 0), (10, .slice z.1 ml z.2), (11, .int .i64 0)]) (fun ⟨n9, z⟩ w' => (FoR w (.slice ia n icap) (.slice la ml lcap) (.slice (some ⟨ob, oo, none⟩) on oc) l (openP its l) (xi, false, xt) kb eb w') ∧ RF w' (.slice z.1 ml z.2) m) ?_ ?_
          · refine wp_region_held (S := fun w' => FoR w (.slice ia n icap) (.slice la ml lcap) (.slice (some ⟨ob, oo, none⟩) on oc) l (openP its l) (xi, false, xt) kb eb w') (by kernel_rfl) ?_
            simp only [List.size_toArray, List.length_cons, List.length_nil, Nat.reduceAdd, Array.replicate_succ, Array.replicate_zero, List.push_toArray, List.nil_append, List.cons_append]
            refine takeD (i := 0) (d := 43) (v := .agg #[.slice ia n icap]) (fuel := 17) rfl rfl (by kernel_rfl) (by kernel_rfl) (by kernel_rfl) (fun _ _ _ h => by cases h.1) (.inl ⟨by kernel_rfl, fun wx h => by obtain ⟨y0, y1, y2, y3⟩ := h.cells; go_simp⟩) hS0 ?_
            simp only [List.setIfInBounds_toArray, List.set_cons_succ, List.set_cons_zero]
            refine takeD (i := 1) (d := 44) (v := .slice la ml lcap) (fuel := 16) rfl rfl (by kernel_rfl) (by kernel_rfl) (by kernel_rfl) (fun _ _ _ h => by cases h.1) (.inl ⟨by kernel_rfl, fun _ _ => by kernel_rfl⟩) hS0 ?_
            simp only [List.setIfInBounds_toArray, List.set_cons_succ, List.set_cons_zero]
            refine takeD (i := 2) (d := 45) (v := .slice (some ⟨eb, 0, none⟩) 2 2) (fuel := 15) rfl rfl (by kernel_rfl) (by kernel_rfl) (by kernel_rfl) (fun _ _ _ h => by cases h.1) (.inl ⟨by kernel_rfl, fun _ _ => by kernel_rfl⟩) hS0 ?_
            simp only [List.setIfInBounds_toArray, List.set_cons_succ, List.set_cons_zero]
            refine takeD (i := 3) (d := 46) (v := .int .i64 (j : Int)) (fuel := 14) rfl rfl (by kernel_rfl) (by kernel_rfl) (by kernel_rfl) (fun _ _ _ h => by cases h.1) (.inl ⟨by kernel_rfl, fun _ _ => by kernel_rfl⟩) hS0 ?_
            simp only [List.setIfInBounds_toArray, List.set_cons_succ, List.set_cons_zero]
            refine takeD (i := 4) (d := 47) (v := .pointer (some ⟨eb, j, none⟩)) (fuel := 13) rfl rfl (by kernel_rfl) (by kernel_rfl) (by kernel_rfl) (fun _ _ _ h => by cases h.1) (.inl ⟨by kernel_rfl, fun _ _ => by go_simp⟩) hS0 ?_
            simp only [List.setIfInBounds_toArray, List.set_cons_succ, List.set_cons_zero]
            refine takeD (i := 5) (d := 48) (v := .int .i64 (endK false j)) (fuel := 12) rfl rfl (by kernel_rfl) (by kernel_rfl) (by kernel_rfl) (fun _ _ _ h => by cases h.1) (.inl ⟨by kernel_rfl, fun wx h => by have y9 := h.kind hj2; go_simp⟩) hS0 ?_
            simp only [List.setIfInBounds_toArray, List.set_cons_succ, List.set_cons_zero]
            refine takeD (i := 6) (d := 49) (v := .pointer (some ⟨kb, 0, none⟩)) (fuel := 11) rfl rfl (by kernel_rfl) (by kernel_rfl) (by kernel_rfl) (fun _ _ _ h => by cases h.1) (.inl ⟨by kernel_rfl, fun _ _ => by go_simp⟩) hS0 ?_
            simp only [List.setIfInBounds_toArray, List.set_cons_succ, List.set_cons_zero]
            refine takeD (i := 7) (d := 50) (v := .int .i64 (xi : Int)) (fuel := 10) rfl rfl (by kernel_rfl) (by kernel_rfl) (by kernel_rfl) (fun _ _ _ h => by cases h.1) (.inl ⟨by kernel_rfl, fun wx h => by obtain ⟨y0, y1, y2, y3⟩ := h.cells; go_simp⟩) hS0 ?_
            simp only [List.setIfInBounds_toArray, List.set_cons_succ, List.set_cons_zero]
            refine takeD (i := 8) (d := 51) (v := .pointer (some ⟨kb, 2, none⟩)) (fuel := 9) rfl rfl (by kernel_rfl) (by kernel_rfl) (by kernel_rfl) (fun _ _ _ h => by cases h.1) (.inl ⟨by kernel_rfl, fun _ _ => by go_simp⟩) hS0 ?_
            simp only [List.setIfInBounds_toArray, List.set_cons_succ, List.set_cons_zero]
            refine takeD (i := 9) (d := 52) (v := .int .i64 xt) (fuel := 8) rfl rfl (by kernel_rfl) (by kernel_rfl) (by kernel_rfl) (fun _ _ _ h => by cases h.1) (.inl ⟨by kernel_rfl, fun wx h => by obtain ⟨y0, y1, y2, y3⟩ := h.cells; go_simp⟩) hS0 ?_
            simp only [List.setIfInBounds_toArray, List.set_cons_succ, List.set_cons_zero]
            refine wpAnyH_all (fuel := 7) (rs := [10]) (by kernel_rfl) (by decide) (List.forall_mem_singleton.2 ?_)
            refine wpOp_value (i := 10) (d := 53) (v := .slice (some ⟨wj.heap.size, 0, none⟩) 1 1) (w' := wj.drew.alloc (.cells #[.int .i64 1] 3)) rfl rfl (by kernel_rfl) (by go_simp) ⟨(hS0).later (bl1 _ _), ?_⟩
            simp only [List.setIfInBounds_toArray, List.set_cons_succ, List.set_cons_zero]
            have hSm10 : FoR w (.slice ia n icap) (.slice la ml lcap) (.slice (some ⟨ob, oo, none⟩) on oc) l (openP its l) (xi, false, xt) kb eb (wj.drew.alloc (.cells #[.int .i64 1] 3)) := (hS0).later (bl1 _ _)
            have hCm10 : Ek.RI (wj.drew.alloc (.cells #[.int .i64 1] 3)) (.slice (some ⟨wj.heap.size, 0, none⟩) 1 1) [1] := RI.one (Dg.row_new wj.drew _ 3)
            refine takeD (i := 11) (d := 54) (v := .agg #[.int .i64 (endK false j), .int .i64 (xi : Int), .int .i64 xt, .slice (some ⟨wj.heap.size, 0, none⟩) 1 1]) (fuel := 6) rfl rfl (by kernel_rfl) (by kernel_rfl) (by kernel_rfl) (fun _ _ _ h => by cases h.1) (.inl ⟨by kernel_rfl, fun wx h => by go_simp⟩) hSm10 ?_
            simp only [List.setIfInBounds_toArray, List.set_cons_succ, List.set_cons_zero]
            refine oneX (β := Option Addr × Nat) (V := fun z => .tuple #[.slice z.1 ml z.2, .int .i64 0]) (R := fun z w' => (FoR w (.slice ia n icap) (.slice la ml lcap) (.slice (some ⟨ob, oo, none⟩) on oc) l (openP its l) (xi, false, xt) kb eb w') ∧ RF w' (.slice z.1 ml z.2) m) (i := 12) (d := 55) (f := 8) (args := #[.agg #[.slice ia n icap], .slice la ml lcap, .agg #[.int .i64 (endK false j), .int .i64 (xi : Int), .int .i64 xt, .slice (some ⟨wj.heap.size, 0, none⟩) 1 1]]) (fuel := 5) rfl rfl (by kernel_rfl) (by kernel_rfl) (fun _ => by kernel_rfl) (Calls.mono (HAP.out _ _ wj.heap.size (endK false j) (xi : Int) xt hSm10.fo.bel hSm10.fo.rl hCm10) (by rintro e w' ⟨hb, he⟩; rw [PB1.out] at he; obtain ⟨u9, rfl, ho9⟩ := he; obtain ⟨a9, c9, rfl, _⟩ := id ho9.rf; have hr9 := ho9.rf; rw [PB2.out] at hr9 ⊢; exact ⟨(a9, c9), rfl, hSm10.later hb, hr9⟩)) (fun z w' h => h.1) (fun z wz12 hR12 => ?_)
            simp only [List.setIfInBounds_toArray, List.set_cons_succ, List.set_cons_zero]
            refine takeD (i := 13) (d := 42) (v := .tuple #[.slice z.1 ml z.2, .int .i64 0]) (fuel := 4) rfl rfl (by kernel_rfl) (by kernel_rfl) (by kernel_rfl) (fun _ _ _ h => by cases h.1) (.inl ⟨by kernel_rfl, fun _ _ => by kernel_rfl⟩) (hR12.1) ?_
            simp only [List.setIfInBounds_toArray, List.set_cons_succ, List.set_cons_zero]
            refine takeD (i := 14) (d := 56) (v := .slice z.1 ml z.2) (fuel := 3) rfl rfl (by kernel_rfl) (by kernel_rfl) (by kernel_rfl) (fun _ _ _ h => by cases h.1) (.inl ⟨by kernel_rfl, fun _ _ => by kernel_rfl⟩) (hR12.1) ?_
            simp only [List.setIfInBounds_toArray, List.set_cons_succ, List.set_cons_zero]
            refine takeD (i := 15) (d := 57) (v := .int .i64 0) (fuel := 2) rfl rfl (by kernel_rfl) (by kernel_rfl) (by kernel_rfl) (fun _ _ _ h => by cases h.1) (.inl ⟨by kernel_rfl, fun _ _ => by kernel_rfl⟩) (hR12.1) ?_
            simp only [List.setIfInBounds_toArray, List.set_cons_succ, List.set_cons_zero]
            refine takeD (i := 16) (d := 10) (v := .slice z.1 ml z.2) (fuel := 1) rfl rfl (by kernel_rfl) (by kernel_rfl) (by kernel_rfl) (fun _ _ _ h => by cases h.1) (.inl ⟨by kernel_rfl, fun _ _ => by kernel_rfl⟩) (hR12.1) ?_
            simp only [List.setIfInBounds_toArray, List.set_cons_succ, List.set_cons_zero]
            refine takeD (i := 17) (d := 11) (v := .int .i64 0) (fuel := 0) rfl rfl (by kernel_rfl) (by kernel_rfl) (by kernel_rfl) (fun _ _ _ h => by cases h.1) (.inl ⟨by kernel_rfl, fun _ _ => by kernel_rfl⟩) (hR12.1) ?_
            simp only [List.setIfInBounds_toArray, List.set_cons_succ, List.set_cons_zero]
            refine wpAnyH_done (by kernel_rfl) ?_ _
            exact ⟨rfl, (wj.heap.size, z), by kernel_rfl, hR12⟩
          · rintro ⟨n9, z⟩ w9 hF
            simp only [setAll, List.setIfInBounds_toArray, List.set_cons_succ, List.set_cons_zero]
            obtain ⟨za, zc⟩ := z
            dsimp only at hF ⊢
            obtain ⟨y0, y1, y2, y3⟩ := hF.1.cells
            have HF9 : Hid _ := hF.1
            have HM9 : Hid (RF w9 (.slice za ml zc) m) := hF.2
            clear hF
            go_wp2_with fail
            refine Calls.mono (HOP.out w9 _ m HF9.out.fo.bel HM9.out PB2.out) ?_
            rintro x w5 ⟨hb5, o5, rfl, ho5⟩
            obtain ⟨o5a, o5c, rfl⟩ := ho5.slice
            have HF10 : Hid _ := HF9.out.later hb5
            clear hb5 ho5 y0 y1 y2 y3
            obtain ⟨p, HP⟩ : ∃ p, Hid ((openP its m).length = p) := ⟨_, rfl⟩
            have hpe : on = p + 1 := by have h1 := PB3.out; have h2 := HON.out; have h3 := HP.out; omega
            rw [HP.out]
            have hw1 : IntKind.i64.wrap ((on : Int) - 1) = (p : Int) := by rw [IntKind.wrap_i64]; omega
            have hpn : ((p : Int) != (p : Int)) = false := by simp
            clear hpe
            go_wp2_with fail
            go_roundw
            case rel => exact ⟨j + 1, by omega, by go_num, HF10⟩
            case measure => simp [intOf]; omega
    | true =>
      go_wp2_with fail
      have HFS : Hid (FoR w (.slice ia n icap) (.slice la ml lcap) (.slice (some ⟨ob, oo, none⟩) on oc) l (openP its l) (xi, true, xt) wr.heap.size (wr.heap.size + 1 + 1) (((wr.alloc (.cells #[.int .i64 (xi : Int), .bool true, .int .i64 xt] 45)).alloc (.cells #[.int .i64 2, .int .i64 3] 26)).alloc (.cells #[.int .i64 5, .int .i64 6] 26))) := by
        obtain ⟨p0, p1, p2, pb⟩ := three wr (.cells #[.int .i64 (xi : Int), .bool true, .int .i64 xt] 45) (.cells #[.int .i64 2, .int .i64 3] 26) (.cells #[.int .i64 5, .int .i64 6] 26)
        exact ⟨HFr.out.later pb, p0, p2⟩
      generalize ((wr.alloc (.cells #[.int .i64 (xi : Int), .bool true, .int .i64 xt] 45)).alloc (.cells #[.int .i64 2, .int .i64 3] 26)).alloc (.cells #[.int .i64 5, .int .i64 6] 26) = ws at *
      generalize wr.heap.size + 1 + 1 = eb at *
      generalize wr.heap.size + 1 = eb0 at *
      generalize wr.heap.size = kb at *
      clear q0 q1 q2 HFr
      go_loopw [9] (fun jv wj => ∃ (j : Nat), j ≤ 2 ∧ jv = .int .i64 j ∧ Hid (FoR w (.slice ia n icap) (.slice la ml lcap) (.slice (some ⟨ob, oo, none⟩) on oc) l (openP its l) (xi, true, xt) kb eb wj)) (fun jv _ => 2 - (intOf jv).toNat)
      case atStart => exact ⟨0, by omega, rfl, HFS⟩
      case round =>
        obtain ⟨j, hj, rfl, HFj⟩ := hrel
        rename World => wj
        by_cases hj2 : j < 2
        rotate_left
        · go_wp2_with fail
          go_roundw
          case rel => exact ⟨k + 1, by omega, by go_num, HFj.out.fo⟩
          case measure => simp [intOf]; omega
        have hjj : (j : Int) < 2 := by omega
        rcases HPL.out j hj2 with ⟨pa1, pa2, pa3⟩ | ⟨m, pb1, pb2, pb3⟩
        · have PA1 : Hid _ := pa1
          have PA2 : Hid _ := pa2
          have PA3 : Hid _ := pa3
          clear pa1 pa2 pa3
          go_wp2_with fail
          have hS0 : FoR w (.slice ia n icap) (.slice la ml lcap) (.slice (some ⟨ob, oo, none⟩) on oc) l (openP its l) (xi, true, xt) kb eb wj.drew := HFj.out.later (Below.refl _ _).drew
          have hCUR := hS0
          clear HFj
          refine region_thenG (β := Nat) (fun n9 => [(43, .agg #[.slice ia n icap]), (44, .slice la ml lcap), (45, .slice (some ⟨eb, 0, none⟩) 2 2), (46, .int .i64 (j : Int)), (47, .pointer (some ⟨eb, j, none⟩)), (48, .int .i64 (endK true j)), (49, .pointer (some ⟨kb, 0, none⟩)), (50, .int .i64 (xi : Int)), (51, .pointer (some ⟨kb, 2, none⟩)), (52, .int .i64 xt), (53, .slice (some ⟨n9, 0, none⟩) 1 1), (54, .agg #[.int .i64 (endK true j), .int .i64 (xi : Int), .int .i64 xt, .slice (some ⟨n9, 0, none⟩) 1 1]), (55, .tuple #[.slice none 0 0, .int .i64 14]), (42, .tuple #[.slice none 0 0, .int .i64 14]), (56, .slice none 0 0), (57, .int .i64 14), (10, .slice none 0 0), (11, .int .i64 14)]) (fun n9 w' => FoR w (.slice ia n icap) (.slice la ml lcap) (.slice (some ⟨ob, oo, none⟩) on oc) l (openP its l) (xi, true, xt) kb eb w') ?_ ?_
          · refine wp_region_held (S := fun w' => FoR w (.slice ia n icap) (.slice la ml lcap) (.slice (some ⟨ob, oo, none⟩) on oc) l (openP its l) (xi, true, xt) kb eb w') (by kernel_rfl) ?_
            simp only [List.size_toArray, List.length_cons, List.length_nil, Nat.reduceAdd, Array.replicate_succ, Array.replicate_zero, List.push_toArray, List.nil_append, List.cons_append]
            refine takeD (i := 0) (d := 43) (v := .agg #[.slice ia n icap]) (fuel := 17) rfl rfl (by kernel_rfl) (by kernel_rfl) (by kernel_rfl) (fun _ _ _ h => by cases h.1) (.inl ⟨by kernel_rfl, fun wx h => by obtain ⟨y0, y1, y2, y3⟩ := h.cells; go_simp⟩) hS0 ?_
            simp only [List.setIfInBounds_toArray, List.set_cons_succ, List.set_cons_zero]
            refine takeD (i := 1) (d := 44) (v := .slice la ml lcap) (fuel := 16) rfl rfl (by kernel_rfl) (by kernel_rfl) (by kernel_rfl) (fun _ _ _ h => by cases h.1) (.inl ⟨by kernel_rfl, fun _ _ => by kernel_rfl⟩) hS0 ?_
            simp only [List.setIfInBounds_toArray, List.set_cons_succ, List.set_cons_zero]
            refine takeD (i := 2) (d := 45) (v := .slice (some ⟨eb, 0, none⟩) 2 2) (fuel := 15) rfl rfl (by kernel_rfl) (by kernel_rfl) (by kernel_rfl) (fun _ _ _ h => by cases h.1) (.inl ⟨by kernel_rfl, fun _ _ => by kernel_rfl⟩) hS0 ?_
            simp only [List.setIfInBounds_toArray, List.set_cons_succ, List.set_cons_zero]
            refine takeD (i := 3) (d := 46) (v := .int .i64 (j : Int)) (fuel := 14) rfl rfl (by kernel_rfl) (by kernel_rfl) (by kernel_rfl) (fun _ _ _ h => by cases h.1) (.inl ⟨by kernel_rfl, fun _ _ => by kernel_rfl⟩) hS0 ?_
            simp only [List.setIfInBounds_toArray, List.set_cons_succ, List.set_cons_zero]
            refine takeD (i := 4) (d := 47) (v := .pointer (some ⟨eb, j, none⟩)) (fuel := 13) rfl rfl (by kernel_rfl) (by kernel_rfl) (by kernel_rfl) (fun _ _ _ h => by cases h.1) (.inl ⟨by kernel_rfl, fun _ _ => by go_simp⟩) hS0 ?_
            simp only [List.setIfInBounds_toArray, List.set_cons_succ, List.set_cons_zero]
            refine takeD (i := 5) (d := 48) (v := .int .i64 (endK true j)) (fuel := 12) rfl rfl (by kernel_rfl) (by kernel_rfl) (by kernel_rfl) (fun _ _ _ h => by cases h.1) (.inl ⟨by kernel_rfl, fun wx h => by have y9 := h.kind hj2; go_simp⟩) hS0 ?_
            simp only [List.setIfInBounds_toArray, List.set_cons_succ, List.set_cons_zero]
            refine takeD (i := 6) (d := 49) (v := .pointer (some ⟨kb, 0, none⟩)) (fuel := 11) rfl rfl (by kernel_rfl) (by kernel_rfl) (by kernel_rfl) (fun _ _ _ h => by cases h.1) (.inl ⟨by kernel_rfl, fun _ _ => by go_simp⟩) hS0 ?_
            simp only [List.setIfInBounds_toArray, List.set_cons_succ, List.set_cons_zero]
            refine takeD (i := 7) (d := 50) (v := .int .i64 (xi : Int)) (fuel := 10) rfl rfl (by kernel_rfl) (by kernel_rfl) (by kernel_rfl) (fun _ _ _ h => by cases h.1) (.inl ⟨by kernel_rfl, fun wx h => by obtain ⟨y0, y1, y2, y3⟩ := h.cells; go_simp⟩) hS0 ?_
            simp only [List.setIfInBounds_toArray, List.set_cons_succ, List.set_cons_zero]
            refine takeD (i := 8) (d := 51) (v := .pointer (some ⟨kb, 2, none⟩)) (fuel := 9) rfl rfl (by kernel_rfl) (by kernel_rfl) (by kernel_rfl) (fun _ _ _ h => by cases h.1) (.inl ⟨by kernel_rfl, fun _ _ => by go_simp⟩) hS0 ?_
            simp only [List.setIfInBounds_toArray, List.set_cons_succ, List.set_cons_zero]
            refine takeD (i := 9) (d := 52) (v := .int .i64 xt) (fuel := 8) rfl rfl (by kernel_rfl) (by kernel_rfl) (by kernel_rfl) (fun _ _ _ h => by cases h.1) (.inl ⟨by kernel_rfl, fun wx h => by obtain ⟨y0, y1, y2, y3⟩ := h.cells; go_simp⟩) hS0 ?_
            simp only [List.setIfInBounds_toArray, List.set_cons_succ, List.set_cons_zero]
            refine wpAnyH_all (fuel := 7) (rs := [10]) (by kernel_rfl) (by decide) (List.forall_mem_singleton.2 ?_)
            refine wpOp_value (i := 10) (d := 53) (v := .slice (some ⟨wj.heap.size, 0, none⟩) 1 1) (w' := wj.drew.alloc (.cells #[.int .i64 1] 3)) rfl rfl (by kernel_rfl) (by go_simp) ⟨(hS0).later (bl1 _ _), ?_⟩
            simp only [List.setIfInBounds_toArray, List.set_cons_succ, List.set_cons_zero]
            have hSm10 : FoR w (.slice ia n icap) (.slice la ml lcap) (.slice (some ⟨ob, oo, none⟩) on oc) l (openP its l) (xi, true, xt) kb eb (wj.drew.alloc (.cells #[.int .i64 1] 3)) := (hS0).later (bl1 _ _)
            have hCm10 : Ek.RI (wj.drew.alloc (.cells #[.int .i64 1] 3)) (.slice (some ⟨wj.heap.size, 0, none⟩) 1 1) [1] := RI.one (Dg.row_new wj.drew _ 3)
            refine takeD (i := 11) (d := 54) (v := .agg #[.int .i64 (endK true j), .int .i64 (xi : Int), .int .i64 xt, .slice (some ⟨wj.heap.size, 0, none⟩) 1 1]) (fuel := 6) rfl rfl (by kernel_rfl) (by kernel_rfl) (by kernel_rfl) (fun _ _ _ h => by cases h.1) (.inl ⟨by kernel_rfl, fun wx h => by go_simp⟩) hSm10 ?_
            simp only [List.setIfInBounds_toArray, List.set_cons_succ, List.set_cons_zero]
            refine oneW (R := fun w' => FoR w (.slice ia n icap) (.slice la ml lcap) (.slice (some ⟨ob, oo, none⟩) on oc) l (openP its l) (xi, true, xt) kb eb w') (i := 12) (d := 55) (f := 8) (args := #[.agg #[.slice ia n icap], .slice la ml lcap, .agg #[.int .i64 (endK true j), .int .i64 (xi : Int), .int .i64 xt, .slice (some ⟨wj.heap.size, 0, none⟩) 1 1]]) (v := .tuple #[.slice none 0 0, .int .i64 14]) (fuel := 5) rfl rfl (by kernel_rfl) (by kernel_rfl) (fun _ => by kernel_rfl) (Calls.mono (HAP.out _ _ wj.heap.size (endK true j) (xi : Int) xt hSm10.fo.bel hSm10.fo.rl hCm10) (by rintro e w' ⟨hb, he⟩; rw [PA3.out] at he; exact ⟨he, hSm10.later hb⟩)) (fun w' h => h) (fun wz hR12 => ?_)
            simp only [List.setIfInBounds_toArray, List.set_cons_succ, List.set_cons_zero]
            refine takeD (i := 13) (d := 42) (v := .tuple #[.slice none 0 0, .int .i64 14]) (fuel := 4) rfl rfl (by kernel_rfl) (by kernel_rfl) (by kernel_rfl) (fun _ _ _ h => by cases h.1) (.inl ⟨by kernel_rfl, fun _ _ => by kernel_rfl⟩) (hR12) ?_
            simp only [List.setIfInBounds_toArray, List.set_cons_succ, List.set_cons_zero]
            refine takeD (i := 14) (d := 56) (v := .slice none 0 0) (fuel := 3) rfl rfl (by kernel_rfl) (by kernel_rfl) (by kernel_rfl) (fun _ _ _ h => by cases h.1) (.inl ⟨by kernel_rfl, fun _ _ => by kernel_rfl⟩) (hR12) ?_
            simp only [List.setIfInBounds_toArray, List.set_cons_succ, List.set_cons_zero]
            refine takeD (i := 15) (d := 57) (v := .int .i64 14) (fuel := 2) rfl rfl (by kernel_rfl) (by kernel_rfl) (by kernel_rfl) (fun _ _ _ h => by cases h.1) (.inl ⟨by kernel_rfl, fun _ _ => by kernel_rfl⟩) (hR12) ?_
            simp only [List.setIfInBounds_toArray, List.set_cons_succ, List.set_cons_zero]
            refine takeD (i := 16) (d := 10) (v := .slice none 0 0) (fuel := 1) rfl rfl (by kernel_rfl) (by kernel_rfl) (by kernel_rfl) (fun _ _ _ h => by cases h.1) (.inl ⟨by kernel_rfl, fun _ _ => by kernel_rfl⟩) (hR12) ?_
            simp only [List.setIfInBounds_toArray, List.set_cons_succ, List.set_cons_zero]
            refine takeD (i := 17) (d := 11) (v := .int .i64 14) (fuel := 0) rfl rfl (by kernel_rfl) (by kernel_rfl) (by kernel_rfl) (fun _ _ _ h => by cases h.1) (.inl ⟨by kernel_rfl, fun _ _ => by kernel_rfl⟩) (hR12) ?_
            simp only [List.setIfInBounds_toArray, List.set_cons_succ, List.set_cons_zero]
            refine wpAnyH_done (by kernel_rfl) ?_ _
            exact ⟨rfl, wj.heap.size, by kernel_rfl, hR12⟩
          · rintro n9 w9 hF
            simp only [setAll, List.setIfInBounds_toArray, List.set_cons_succ, List.set_cons_zero]
            obtain ⟨y0, y1, y2, y3⟩ := hF.cells
            have y9 := hF.kind hj2
            have HF9 : Hid _ := hF
            clear hF
            rw [PA1.out] at y9
            rw [PA2.out] at y2
            go_wp2_with fail
            go_roundw
            case rel => exact ⟨j + 1, by omega, by go_num, HF9⟩
            case measure => simp [intOf]; omega
        · have PB1 : Hid _ := pb1
          have PB2 : Hid (m.length = ml) := pb2.trans HML.out
          have PB3 : Hid _ := pb3
          clear pb1 pb2 pb3
          go_wp2_with fail
          have hS0 : FoR w (.slice ia n icap) (.slice la ml lcap) (.slice (some ⟨ob, oo, none⟩) on oc) l (openP its l) (xi, true, xt) kb eb wj.drew := HFj.out.later (Below.refl _ _).drew
          have hCUR := hS0
          clear HFj
          refine region_thenG (β := Nat × (Option Addr × Nat)) (fun ⟨n9, z⟩ => [(43, .agg #[.slice ia n icap]), (44, .slice la ml lcap), (45, .slice (some ⟨eb, 0, none⟩) 2 2), (46, .int .i64 (j : Int)), (47, .pointer (some ⟨eb, j, none⟩)), (48, .int .i64 (endK true j)), (49, .pointer (some ⟨kb, 0, none⟩)), (50, .int .i64 (xi : Int)), (51, .pointer (some ⟨kb, 2, none⟩)), (52, .int .i64 xt), (53, .slice (some ⟨n9, 0, none⟩) 1 1), (54, .agg #[.int .i64 (endK true j), .int .i64 (xi : Int), .int .i64 xt, .slice (some ⟨n9, 0, none⟩) 1 1]), (55, .tuple #[.slice z.1 ml z.2, .int .i64 0]), (42, .tuple #[.slice z.1 ml z.2, .int .i64 0]), (56, .slice z.1 ml z.2), (57, .int .i64 0), (10, .slice z.1 ml z.2), (11, .int .i64 0)]) (fun ⟨n9, z⟩ w' => (FoR w (.slice ia n icap) (.slice la ml lcap) (.slice (some ⟨ob, oo, none⟩) on oc) l (openP its l) (xi, true, xt) kb eb w') ∧ RF w' (.slice z.1 ml z.2) m) ?_ ?_
          · refine wp_region_held (S := fun w' => FoR w (.slice ia n icap) (.slice la ml lcap) (.slice (some ⟨ob, oo, none⟩) on oc) l (openP its l) (xi, true, xt) kb eb w') (by kernel_rfl) ?_
            simp only [List.size_toArray, List.length_cons, List.length_nil, Nat.reduceAdd, Array.replicate_succ, Array.replicate_zero, List.push_toArray, List.nil_append, List.cons_append]
            refine takeD (i := 0) (d := 43) (v := .agg #[.slice ia n icap]) (fuel := 17) rfl rfl (by kernel_rfl) (by kernel_rfl) (by kernel_rfl) (fun _ _ _ h => by cases h.1) (.inl ⟨by kernel_rfl, fun wx h => by obtain ⟨y0, y1, y2, y3⟩ := h.cells; go_simp⟩) hS0 ?_
            simp only [List.setIfInBounds_toArray, List.set_cons_succ, List.set_cons_zero]
            refine takeD (i := 1) (d := 44) (v := .slice la ml lcap) (fuel := 16) rfl rfl (by kernel_rfl) (by kernel_rfl) (by kernel_rfl) (fun _ _ _ h => by cases h.1) (.inl ⟨by kernel_rfl, fun _ _ => by kernel_rfl⟩) hS0 ?_
            simp only [List.setIfInBounds_toArray, List.set_cons_succ, List.set_cons_zero]
            refine takeD (i := 2) (d := 45) (v := .slice (some ⟨eb, 0, none⟩) 2 2) (fuel := 15) rfl rfl (by kernel_rfl) (by kernel_rfl) (by kernel_rfl) (fun _ _ _ h => by cases h.1) (.inl ⟨by kernel_rfl, fun _ _ => by kernel_rfl⟩) hS0 ?_
            simp only [List.setIfInBounds_toArray, List.set_cons_succ, List.set_cons_zero]
            refine takeD (i := 3) (d := 46) (v := .int .i64 (j : Int)) (fuel := 14) rfl rfl (by kernel_rfl) (by kernel_rfl) (by kernel_rfl) (fun _ _ _ h => by cases h.1) (.inl ⟨by kernel_rfl, fun _ _ => by kernel_rfl⟩) hS0 ?_
            simp only [List.setIfInBounds_toArray, List.set_cons_succ, List.set_cons_zero]
            refine takeD (i := 4) (d := 47) (v := .pointer (some ⟨eb, j, none⟩)) (fuel := 13) rfl rfl (by kernel_rfl) (by kernel_rfl) (by kernel_rfl) (fun _ _ _ h => by cases h.1) (.inl ⟨by kernel_rfl, fun _ _ => by go_simp⟩) hS0 ?_
            simp only [List.setIfInBounds_toArray, List.set_cons_succ, List.set_cons_zero]
            refine takeD (i := 5) (d := 48) (v := .int .i64 (endK true j)) (fuel := 12) rfl rfl (by kernel_rfl) (by kernel_rfl) (by kernel_rfl) (fun _ _ _ h => by cases h.1) (.inl ⟨by kernel_rfl, fun wx h => by have y9 := h.kind hj2; go_simp⟩) hS0 ?_
            simp only [List.setIfInBounds_toArray, List.set_cons_succ, List.set_cons_zero]
            refine takeD (i := 6) (d := 49) (v := .pointer (some ⟨kb, 0, none⟩)) (fuel := 11) rfl rfl (by kernel_rfl) (by kernel_rfl) (by kernel_rfl) (fun _ _ _ h => by cases h.1) (.inl ⟨by kernel_rfl, fun _ _ => by go_simp⟩) hS0 ?_
            simp only [List.setIfInBounds_toArray, List.set_cons_succ, List.set_cons_zero]
            refine takeD (i := 7) (d := 50) (v := .int .i64 (xi : Int)) (fuel := 10) rfl rfl (by kernel_rfl) (by kernel_rfl) (by kernel_rfl) (fun _ _ _ h => by cases h.1) (.inl ⟨by kernel_rfl, fun wx h => by obtain ⟨y0, y1, y2, y3⟩ := h.cells; go_simp⟩) hS0 ?_
            simp only [List.setIfInBounds_toArray, List.set_cons_succ, List.set_cons_zero]
            refine takeD (i := 8) (d := 51) (v := .pointer (some ⟨kb, 2, none⟩)) (fuel := 9) rfl rfl (by kernel_rfl) (by kernel_rfl) (by kernel_rfl) (fun _ _ _ h => by cases h.1) (.inl ⟨by kernel_rfl, fun _ _ => by go_simp⟩) hS0 ?_
            simp only [List.setIfInBounds_toArray, List.set_cons_succ, List.set_cons_zero]
            refine takeD (i := 9) (d := 52) (v := .int .i64 xt) (fuel := 8) rfl rfl (by kernel_rfl) (by kernel_rfl) (by kernel_rfl) (fun _ _ _ h => by cases h.1) (.inl ⟨by kernel_rfl, fun wx h => by obtain ⟨y0, y1, y2, y3⟩ := h.cells; go_simp⟩) hS0 ?_
            simp only [List.setIfInBounds_toArray, List.set_cons_succ, List.set_cons_zero]
            refine wpAnyH_all (fuel := 7) (rs := [10]) (by kernel_rfl) (by decide) (List.forall_mem_singleton.2 ?_)
            refine wpOp_value (i := 10) (d := 53) (v := .slice (some ⟨wj.heap.size, 0, none⟩) 1 1) (w' := wj.drew.alloc (.cells #[.int .i64 1] 3)) rfl rfl (by kernel_rfl) (by go_simp) ⟨(hS0).later (bl1 _ _), ?_⟩
            simp only [List.setIfInBounds_toArray, List.set_cons_succ, List.set_cons_zero]
            have hSm10 : FoR w (.slice ia n icap) (.slice la ml lcap) (.slice (some ⟨ob, oo, none⟩) on oc) l (openP its l) (xi, true, xt) kb eb (wj.drew.alloc (.cells #[.int .i64 1] 3)) := (hS0).later (bl1 _ _)
            have hCm10 : Ek.RI (wj.drew.alloc (.cells #[.int .i64 1] 3)) (.slice (some ⟨wj.heap.size, 0, none⟩) 1 1) [1] := RI.one (Dg.row_new wj.drew _ 3)
            refine takeD (i := 11) (d := 54) (v := .agg #[.int .i64 (endK true j), .int .i64 (xi : Int), .int .i64 xt, .slice (some ⟨wj.heap.size, 0, none⟩) 1 1]) (fuel := 6) rfl rfl (by kernel_rfl) (by kernel_rfl) (by kernel_rfl) (fun _ _ _ h => by cases h.1) (.inl ⟨by kernel_rfl, fun wx h => by go_simp⟩) hSm10 ?_
            simp only [List.setIfInBounds_toArray, List.set_cons_succ, List.set_cons_zero]
            refine oneX (β := Option Addr × Nat) (V := fun z => .tuple #[.slice z.1 ml z.2, .int .i64 0]) (R := fun z w' => (FoR w (.slice ia n icap) (.slice la ml lcap) (.slice (some ⟨ob, oo, none⟩) on oc) l (openP its l) (xi, true, xt) kb eb w') ∧ RF w' (.slice z.1 ml z.2) m) (i := 12) (d := 55) (f := 8) (args := #[.agg #[.slice ia n icap], .slice la ml lcap, .agg #[.int .i64 (endK true j), .int .i64 (xi : Int), .int .i64 xt, .slice (some ⟨wj.heap.size, 0, none⟩) 1 1]]) (fuel := 5) rfl rfl (by kernel_rfl) (by kernel_rfl) (fun _ => by kernel_rfl) (Calls.mono (HAP.out _ _ wj.heap.size (endK true j) (xi : Int) xt hSm10.fo.bel hSm10.fo.rl hCm10) (by rintro e w' ⟨hb, he⟩; rw [PB1.out] at he; obtain ⟨u9, rfl, ho9⟩ := he; obtain ⟨a9, c9, rfl, _⟩ := id ho9.rf; have hr9 := ho9.rf; rw [PB2.out] at hr9 ⊢; exact ⟨(a9, c9), rfl, hSm10.later hb, hr9⟩)) (fun z w' h => h.1) (fun z wz12 hR12 => ?_)
            simp only [List.setIfInBounds_toArray, List.set_cons_succ, List.set_cons_zero]
            refine takeD (i := 13) (d := 42) (v := .tuple #[.slice z.1 ml z.2, .int .i64 0]) (fuel := 4) rfl rfl (by kernel_rfl) (by kernel_rfl) (by kernel_rfl) (fun _ _ _ h => by cases h.1) (.inl ⟨by kernel_rfl, fun _ _ => by kernel_rfl⟩) (hR12.1) ?_
            simp only [List.setIfInBounds_toArray, List.set_cons_succ, List.set_cons_zero]
            refine takeD (i := 14) (d := 56) (v := .slice z.1 ml z.2) (fuel := 3) rfl rfl (by kernel_rfl) (by kernel_rfl) (by kernel_rfl) (fun _ _ _ h => by cases h.1) (.inl ⟨by kernel_rfl, fun _ _ => by kernel_rfl⟩) (hR12.1) ?_
            simp only [List.setIfInBounds_toArray, List.set_cons_succ, List.set_cons_zero]
            refine takeD (i := 15) (d := 57) (v := .int .i64 0) (fuel := 2) rfl rfl (by kernel_rfl) (by kernel_rfl) (by kernel_rfl) (fun _ _ _ h => by cases h.1) (.inl ⟨by kernel_rfl, fun _ _ => by kernel_rfl⟩) (hR12.1) ?_
            simp only [List.setIfInBounds_toArray, List.set_cons_succ, List.set_cons_zero]
            refine takeD (i := 16) (d := 10) (v := .slice z.1 ml z.2) (fuel := 1) rfl rfl (by kernel_rfl) (by kernel_rfl) (by kernel_rfl) (fun _ _ _ h => by cases h.1) (.inl ⟨by kernel_rfl, fun _ _ => by kernel_rfl⟩) (hR12.1) ?_
            simp only [List.setIfInBounds_toArray, List.set_cons_succ, List.set_cons_zero]
            refine takeD (i := 17) (d := 11) (v := .int .i64 0) (fuel := 0) rfl rfl (by kernel_rfl) (by kernel_rfl) (by kernel_rfl) (fun _ _ _ h => by cases h.1) (.inl ⟨by kernel_rfl, fun _ _ => by kernel_rfl⟩) (hR12.1) ?_
            simp only [List.setIfInBounds_toArray, List.set_cons_succ, List.set_cons_zero]
            refine wpAnyH_done (by kernel_rfl) ?_ _
            exact ⟨rfl, (wj.heap.size, z), by kernel_rfl, hR12⟩
          · rintro ⟨n9, z⟩ w9 hF
            simp only [setAll, List.setIfInBounds_toArray, List.set_cons_succ, List.set_cons_zero]
            obtain ⟨za, zc⟩ := z
            dsimp only at hF ⊢
            obtain ⟨y0, y1, y2, y3⟩ := hF.1.cells
            have HF9 : Hid _ := hF.1
            have HM9 : Hid (RF w9 (.slice za ml zc) m) := hF.2
            clear hF
            go_wp2_with fail
            refine Calls.mono (HOP.out w9 _ m HF9.out.fo.bel HM9.out PB2.out) ?_
            rintro x w5 ⟨hb5, o5, rfl, ho5⟩
            obtain ⟨o5a, o5c, rfl⟩ := ho5.slice
            have HF10 : Hid _ := HF9.out.later hb5
            clear hb5 ho5 y0 y1 y2 y3
            obtain ⟨p, HP⟩ : ∃ p, Hid ((openP its m).length = p) := ⟨_, rfl⟩
            have hpe : on = p + 1 := by have h1 := PB3.out; have h2 := HON.out; have h3 := HP.out; omega
            rw [HP.out]
            have hw1 : IntKind.i64.wrap ((on : Int) - 1) = (p : Int) := by rw [IntKind.wrap_i64]; omega
            have hpn : ((p : Int) != (p : Int)) = false := by simp
            clear hpe
            go_wp2_with fail
            go_roundw
            case rel => exact ⟨j + 1, by omega, by go_num, HF10⟩
            case measure => simp [intOf]; omega
end Go.Proofs.YtkndchbpbaecbaaGreatDoor.Fc

