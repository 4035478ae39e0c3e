/- Texts of the seat, packed: Ln Lo Ys Yt. -/
import Derived.Test.YtgdnlceliiekkaaGreatDoorP40
import Derived.Test.YtgdnlceliiekkaaGreatDoorP42
import Derived.Laws.Rows
/- Statuses in memory; Board.All, See. -/
namespace Go.Proofs.YtgdnlceliiekkaaGreatDoor.Sa
open Go.RowKit Go.Shelf Go.Proofs.YtgdnlceliiekkaaGreatDoor.Fc Go.Proofs.YtgdnlceliiekkaaGreatDoor.St Go.Proofs.YtgdnlceliiekkaaGreatDoor.Sx
set_option maxRecDepth 1000000
set_option linter.unusedVariables false

/-- Statuses in memory. -/
def RS (w : World) (v : Value) (l : List Int) : Prop := ∃ a cap, v = .slice a l.length cap ∧ l.length ≤ cap ∧ ∀ (i : Nat) (z : Int), l[i]? = some z → ∃ b off, a = some ⟨b, off, none⟩ ∧ w.cell? ⟨b, off + i, none⟩ = some (.int .i64 z)

theorem RS.later {w w' : World} {v : Value} {l : List Int} (h : RS w v l) (hb : Below w.heap.size w w') : RS w' v l := by
  obtain ⟨a, cap, hv, hc, hr⟩ := h
  refine ⟨a, cap, hv, hc, fun i z hi => ?_⟩
  obtain ⟨b, off, ha, c0⟩ := hr i z hi
  exact ⟨b, off, ha, Dg.cell_later hb c0⟩

def rowS (l : List Int) : List Value := l.map (.int .i64 ·)
theorem rowS_len (l : List Int) : (rowS l).length = l.length := List.length_map _
theorem rowS_one (l : List Int) : ∀ u ∈ rowS l, u.oneCell' = true := by
  intro u hu
  obtain ⟨z, _, rfl⟩ := List.mem_map.1 hu
  rfl
theorem rowS_get {l : List Int} {i : Nat} {z : Int} (h : l[i]? = some z) : (rowS l)[i]? = some (.int .i64 z) := by
  unfold rowS
  rw [List.getElem?_map, h]
  rfl

theorem info32 : (Tryz.prog.info? 32).map (fun i => (i.zero, i.size, i.bytes)) = some (some (.int .i64 0), 1, 8) := by kernel_rfl

set_option maxHeartbeats 1000000 in
theorem cloneS_any (l : List Int) (w : World) (d off n cap : Nat) (hN : l.length = n) (h0 : 0 < n) (hn : n ≤ 1000000) (hc : n ≤ cap) (hcap : cap ≤ 1000000) (hl : ∀ (i : Nat) (z : Int), l[i]? = some z → w.cell? ⟨d, off + i, none⟩ = some (.int .i64 z)) :
    Calls Tryz.prog 28 #[.slice (some ⟨d, off, none⟩) n cap] w fun e w' => Below w.heap.size w w' ∧ ∃ a c, e = .returned (.slice a n c) ∧ RS w' (.slice a n c) l := by
  obtain ⟨i0, hi0, hz0, hz1, hz2⟩ := info_parts info32
  have HNews : Hid (∀ j u, (rowS l)[j]? = some u → (w.alloc (.cells #[] 32)).cell? ((⟨d, off, none⟩ : Addr).add j) = some u) := fun j u hu => by
    have hj : j < l.length := by rw [← rowS_len]; exact (List.getElem?_eq_some_iff.1 hu).1
    obtain ⟨z, hz⟩ : ∃ z, l[j]? = some z := ⟨_, List.getElem?_eq_getElem hj⟩
    rw [rowS_get hz] at hu
    cases hu
    have h7 : (⟨d, off, none⟩ : Addr).add j = ⟨d, off + j, none⟩ := by unfold Addr.add; split <;> simp_all
    rw [h7]
    exact Dg.cell_later (bl1 _ _) (hl j z hz)
  have HOwn : Hid ((w.alloc (.cells #[] 32)).ownsRow w.heap.size 32 1 (.slice (some ⟨w.heap.size, 0, none⟩) 0 0) 0 []) :=
    ⟨rfl, .inr ⟨w.heap.size, 0, #[], rfl, Nat.le_refl _, Dg.row_new _ _ _, Nat.le_refl _, Nat.zero_le _, rfl, rfl⟩⟩
  have HLn : Hid ((rowS l).length = n * 1) := by show _ = _; rw [rowS_len, hN, Nat.mul_one]
  have HOne : Hid (∀ u ∈ rowS l, u.oneCell' = true) := rowS_one l
  have HN : Hid _ := hN
  clear hl hN
  have hE : ∀ w, (binOp .eql 28 (.slice (some ⟨d, off, none⟩) n cap) (.slice none 0 0)).run Tryz.prog w = .ok (.bool false) w := fun w => Lib.run_eql_slice_nil w 28 32 (some ⟨d, off, none⟩) n cap 0 0 Tryz.underlying28
  go_enter Tryz.func28, Tryz.ntmps28
  go_wp2_with (at_builtin; refine wpList_append_own_at _ rfl _ _ 28 rfl w.heap.size 32 i0 _ 1 8 Tryz.underlying28 hi0 hz0 hz1 hz2 rfl (by decide) _ 0 [] rfl HOwn.out ⟨d, off, none⟩ n cap (rowS l) rfl HLn.out HNews.out HOne.out (by unfold maxLen; omega) (by omega) (by simp) ?_; intro v7 w7 ho7 hg7 _ hat7)
  have HB7 : Hid (Below w.heap.size w w7) := Below.grown ((Below.refl _ _).alloc (Nat.le_refl _) _) hg7 (by simp) (fun k hk => (HOwn.out.lt _ hk).1)
  have HF : Hid (w7.ownsRow w.heap.size 32 1 v7 n (rowS l)) := by
    have h := ho7
    rw [Nat.zero_add, List.nil_append] at h
    exact h
  clear ho7 hg7 hat7
  go_wp2_with fail
  go_ret
  have hl := HF.out
  rcases HF.out.2 with ⟨_, h9⟩ | ⟨g, cap', cur, rfl, _, _, q1, q2, _⟩
  · omega
  · refine ⟨HB7.out, _, cap', rfl, _, cap', by rw [HN.out], by rw [HN.out]; exact q1, fun i z hz => ⟨g, 0, rfl, ?_⟩⟩
    have hi : i < l.length := (List.getElem?_eq_some_iff.1 hz).1
    have := hl.cellAt i (by rw [HN.out] at hi; omega)
    rw [Nat.zero_add, this, rowS_get hz]

theorem slice47 (wx : World) (d c : Nat) (hc : c ≤ 64) : (Instr.sliceAt 47 (.pointer (some ⟨d, 1, none⟩)) none (some (.int .i64 (c : Int))) none).run Tryz.prog wx = .ok (.slice (some ⟨d, 1, none⟩) c 64) wx := by
  have h1 : (Instr.sliceBounds false 64 64 none (some (.int .i64 (c : Int))) none).run Tryz.prog wx = .ok (0, c, 64) wx := by
    unfold Instr.sliceBounds
    go_simp
    intro h
    omega
  have hu := run_underlying Tryz.underlying47 wx
  have hs : (sizeOf 32).run Tryz.prog wx = .ok 1 wx := by kernel_rfl
  unfold Instr.sliceAt
  rw [Sem.run_bind, hu]
  simp only [Result.andThen_ok, Sem.run_bind, h1, hs, Instr.sureAddr, Sem.run_pure]
  rfl

set_option maxHeartbeats 2000000 in
theorem bAll_any {w : World} {v : Value} {o : Option Bo} (h : RB w v o) : Calls Tryz.prog 15 #[v] w fun e w' => Below w.heap.size w w' ∧ ∃ a c, e = .returned (.slice a (o.getD Bo.z).c c) ∧ RS w' (.slice a (o.getD Bo.z).c c) (o.getD Bo.z).all := by
  have HM : Hid _ := made_any h
  by_cases hc : (o.getD Bo.z).c = 0
  · have hd : decide (0 < (o.getD Bo.z).c) = false := decide_eq_false (by omega)
    rw [hd] at HM
    have HE : Hid (∀ w', RS w' (.slice none (o.getD Bo.z).c 0) (o.getD Bo.z).all) := fun w' => by
      have : (o.getD Bo.z).all = [] := by unfold Bo.all; rw [hc]; rfl
      rw [this, hc]
      exact ⟨none, 0, rfl, by simp, fun i z hz => by cases hz⟩
    have HC : Hid _ := hc
    clear hd hc h
    go_enter Tryz.func15, Tryz.ntmps15
    go_wp2_with fail
    refine Calls.mono HM.out ?_
    rintro e w2 ⟨rfl, hb2⟩
    have HB2 : Hid _ := hb2
    clear HM hb2
    go_wp2_with fail
    go_ret
    exact ⟨HB2.out, none, 0, by rw [HC.out]; rfl, HE.out w2⟩
  · have hd : decide (0 < (o.getD Bo.z).c) = true := decide_eq_true (by omega)
    rw [hd] at HM
    cases o with
    | none => exact absurd rfl hc
    | some B =>
      obtain ⟨d, rfl, h1, h2⟩ := h
      show Calls _ _ _ _ fun e w' => Below w.heap.size w w' ∧ ∃ a c, e = .returned (.slice a B.c c) ∧ RS w' (.slice a B.c c) B.all
      have hpos : 0 < B.c := by have : ¬ B.c = 0 := hc; omega
      have HCL : Hid (∀ wx, Below w.heap.size w wx → Calls Tryz.prog 28 #[.slice (some ⟨d, 1, none⟩) B.c 64] wx fun e w' => ∃ z : Option Addr × Nat, e = .returned (.slice z.1 B.c z.2) ∧ Below w.heap.size w w' ∧ RS w' (.slice z.1 B.c z.2) B.all) := fun wx hb => by
        have hl : B.all.length = B.c := by unfold Bo.all; rw [List.length_map, List.length_range]
        refine Calls.mono (cloneS_any B.all wx d 1 B.c 64 hl hpos (by omega) h1 (by omega) (fun i z hz => ?_)) (by rintro e w' ⟨hb', a, c, rfl, hr⟩; exact ⟨(a, c), rfl, hb.trans (hb'.mono hb.size), hr⟩)
        unfold Bo.all at hz
        rw [List.getElem?_map] at hz
        have hi : i < B.c := by
          apply Classical.byContradiction
          intro h9
          rw [List.getElem?_eq_none (by simp; omega)] at hz
          cases hz
        rw [List.getElem?_range hi] at hz
        cases hz
        exact Dg.cell_later hb (brd_cellS h2 (by omega))
      have HC0 : Hid _ := brd_cell0 h2
      clear h2 hc hd
      generalize B.all = L at *
      generalize B.c = c at *
      go_enter Tryz.func15, Tryz.ntmps15
      go_wp2_with fail
      refine Calls.mono HM.out ?_
      rintro e w2 ⟨rfl, hb2⟩
      have HB2 : Hid _ := hb2
      clear HM hb2
      go_wp2_with fail
      have hCUR : Below w.heap.size w w2.drew := HB2.out.trans ((Below.refl _ _).drew.mono HB2.out.size)
      have hS0 := hCUR
      refine region_thenG (β := Option Addr × Nat) (fun z => [(6, .pointer (some ⟨d, 0, none⟩)), (7, .pointer (some ⟨d, 0, none⟩)), (8, .pointer (some ⟨d, 1, none⟩)), (9, .pointer (some ⟨d, 0, none⟩)), (10, .pointer (some ⟨d, 0, none⟩)), (11, .pointer (some ⟨d, 0, none⟩)), (12, .int .i64 (c : Int)), (13, .slice (some ⟨d, 1, none⟩) c 64), (14, .slice z.1 c z.2), (2, .slice z.1 c z.2)]) (fun z w' => Below w.heap.size w w' ∧ RS w' (.slice z.1 c z.2) L) ?_ ?_
      · refine wp_region_held (S := fun w' => Below w.heap.size w w') (by kernel_rfl) ?_
        simp only [List.size_toArray, List.length_cons, List.length_nil, Nat.reduceAdd, Array.replicate_succ, Array.replicate_zero, List.push_toArray, List.nil_append, List.cons_append]
        refine takeD (i := 0) (d := 6) (v := .pointer (some ⟨d, 0, none⟩)) (fuel := 9) rfl rfl (by kernel_rfl) (by kernel_rfl) (by kernel_rfl) (fun _ _ _ h => by cases h.1) (.inl ⟨by kernel_rfl, fun _ _ => by kernel_rfl⟩) hS0 ?_
        simp only [List.setIfInBounds_toArray, List.set_cons_succ, List.set_cons_zero]
        refine takeD (i := 1) (d := 7) (v := .pointer (some ⟨d, 0, none⟩)) (fuel := 8) rfl rfl (by kernel_rfl) (by kernel_rfl) (by kernel_rfl) (fun _ _ _ h => by cases h.1) (.inl ⟨by kernel_rfl, fun _ _ => by go_simp⟩) hS0 ?_
        simp only [List.setIfInBounds_toArray, List.set_cons_succ, List.set_cons_zero]
        refine takeD (i := 2) (d := 8) (v := .pointer (some ⟨d, 1, none⟩)) (fuel := 7) rfl rfl (by kernel_rfl) (by kernel_rfl) (by kernel_rfl) (fun _ _ _ h => by cases h.1) (.inl ⟨by kernel_rfl, fun _ _ => by go_simp⟩) hS0 ?_
        simp only [List.setIfInBounds_toArray, List.set_cons_succ, List.set_cons_zero]
        refine takeD (i := 3) (d := 9) (v := .pointer (some ⟨d, 0, none⟩)) (fuel := 6) rfl rfl (by kernel_rfl) (by kernel_rfl) (by kernel_rfl) (fun _ _ _ h => by cases h.1) (.inl ⟨by kernel_rfl, fun _ _ => by kernel_rfl⟩) hS0 ?_
        simp only [List.setIfInBounds_toArray, List.set_cons_succ, List.set_cons_zero]
        refine takeD (i := 4) (d := 10) (v := .pointer (some ⟨d, 0, none⟩)) (fuel := 5) rfl rfl (by kernel_rfl) (by kernel_rfl) (by kernel_rfl) (fun _ _ _ h => by cases h.1) (.inl ⟨by kernel_rfl, fun _ _ => by go_simp⟩) hS0 ?_
        simp only [List.setIfInBounds_toArray, List.set_cons_succ, List.set_cons_zero]
        refine takeD (i := 5) (d := 11) (v := .pointer (some ⟨d, 0, none⟩)) (fuel := 4) rfl rfl (by kernel_rfl) (by kernel_rfl) (by kernel_rfl) (fun _ _ _ h => by cases h.1) (.inl ⟨by kernel_rfl, fun _ _ => by go_simp⟩) hS0 ?_
        simp only [List.setIfInBounds_toArray, List.set_cons_succ, List.set_cons_zero]
        refine takeD (i := 6) (d := 12) (v := .int .i64 (c : Int)) (fuel := 3) rfl rfl (by kernel_rfl) (by kernel_rfl) (by kernel_rfl) (fun _ _ _ h => by cases h.1) (.inl ⟨by kernel_rfl, fun wx h => by have z0 := Dg.cell_later h HC0.out; go_simp⟩) hS0 ?_
        simp only [List.setIfInBounds_toArray, List.set_cons_succ, List.set_cons_zero]
        refine takeD (i := 7) (d := 13) (v := .slice (some ⟨d, 1, none⟩) c 64) (fuel := 2) rfl rfl (by kernel_rfl) (by kernel_rfl) (by kernel_rfl) (fun _ _ _ h => by cases h.1) (.inl ⟨by kernel_rfl, fun wx h => by have h9 := slice47 wx d c h1; go_simp⟩) hS0 ?_
        simp only [List.setIfInBounds_toArray, List.set_cons_succ, List.set_cons_zero]
        refine oneX (β := Option Addr × Nat) (V := fun z => .slice z.1 c z.2) (R := fun z w' => Below w.heap.size w w' ∧ RS w' (.slice z.1 c z.2) L) (i := 8) (d := 14) (f := 28) (args := #[.slice (some ⟨d, 1, none⟩) c 64]) (fuel := 1) rfl rfl (by kernel_rfl) (by kernel_rfl) (fun _ => by kernel_rfl) (HCL.out _ hCUR) (fun z w' h => h.1) (fun z wz hR8 => ?_)
        simp only [List.setIfInBounds_toArray, List.set_cons_succ, List.set_cons_zero]
        refine takeD (i := 9) (d := 2) (v := .slice z.1 c z.2) (fuel := 0) rfl rfl (by kernel_rfl) (by kernel_rfl) (by kernel_rfl) (fun _ _ _ h => by cases h.1) (.inl ⟨by kernel_rfl, fun _ _ => by kernel_rfl⟩) (hR8.1) ?_
        simp only [List.setIfInBounds_toArray, List.set_cons_succ, List.set_cons_zero]
        refine wpAnyH_done (by kernel_rfl) ?_ _
        exact ⟨rfl, z, by kernel_rfl, hR8⟩
      · rintro z w9 hF
        simp only [setAll, List.setIfInBounds_toArray, List.set_cons_succ, List.set_cons_zero]
        obtain ⟨za, zc⟩ := z
        dsimp only at hF ⊢
        have HF9 : Hid _ := hF
        clear hF
        go_wp2_with fail
        go_ret
        exact ⟨HF9.out.1, _, _, rfl, HF9.out.2⟩
end Go.Proofs.YtgdnlceliiekkaaGreatDoor.Sa

/- See, and the package's calls. -/
namespace Go.Proofs.YtgdnlceliiekkaaGreatDoor.Sa
open Go.RowKit Go.Shelf Go.Proofs.YtgdnlceliiekkaaGreatDoor.Fc Go.Proofs.YtgdnlceliiekkaaGreatDoor.St Go.Proofs.YtgdnlceliiekkaaGreatDoor.Sx
set_option maxRecDepth 1000000
set_option linter.unusedVariables false

/-- The facts, by numbers. -/
def fOf (l : List Fa) : Nat → Fa := fun i => l.getD i Fa.z

theorem fOf_at {l : List Fa} {i : Nat} {x : Fa} (h : l[i]? = some x) : fOf l i = x := by
  unfold fOf
  rw [List.getD_eq_getElem?_getD, h]
  rfl

/-- Right facts of a right plan, as they lie. -/
theorem bs_of {its : List It} {l : List Fa} {v lv : Value} {w : World} (hIt : RdIt w v its) (hl : RF w lv l) (hc : chkF its l = 0) :
    ∃ xb xo icap fb fo lcap, v = .slice (some ⟨xb, xo, none⟩) its.length icap ∧ lv = .slice (some ⟨fb, fo, none⟩) its.length lcap ∧ Bs (plOf its) (fOf l) xb xo icap fb fo lcap w := by
  obtain ⟨hsome, hok⟩ := chkF_iff.1 hc
  obtain ⟨q, hq⟩ := Option.isSome_iff_exists.1 hsome
  obtain ⟨hpos, h64⟩ := root_len hsome
  have hlen : l.length = its.length := by have := hok.1; unfold subs at this; rw [List.length_map] at this; exact this
  obtain ⟨ia, icap, rfl, hic, hir⟩ := hIt
  obtain ⟨la, lcap, rfl, hlc, _, hlr⟩ := hl
  obtain ⟨x0, hx0⟩ : ∃ x, its[0]? = some x := ⟨_, List.getElem?_eq_getElem (by omega)⟩
  obtain ⟨f0, hf0⟩ : ∃ x, l[0]? = some x := ⟨_, List.getElem?_eq_getElem (by omega)⟩
  obtain ⟨xb, xo, _, _, _, rfl, _⟩ := hir 0 x0 hx0
  obtain ⟨fb, fo, rfl, _⟩ := hlr 0 f0 hf0
  obtain ⟨⟨r, r0, r1, r2, r3, r4, r5⟩, hi⟩ := plan_items hq
  have hal : ∀ (i : Nat) (x : It), its[i]? = some x → (if x.sub then 1 ≤ x.alts ∧ x.alts ≤ 4 else x.alts = 0 ∧ x.vital = false) := fun i x hx => by
    by_cases h0 : i = 0
    · subst h0
      rw [r0] at hx
      cases hx
      rw [r1, if_pos rfl]
      exact ⟨r4, r5⟩
    · exact (hi i x hx (by omega)).2
  refine ⟨xb, xo, icap, fb, fo, lcap, rfl, by rw [hlen], plan_ok hq, h64, hic, by show its.length ≤ lcap; omega, fun i hi' => ?_, fun i hi' hs => ?_, fun i hi' => ?_, fun i hi' => ?_, fun i hi' => ?_⟩
  · obtain ⟨x, hx⟩ : ∃ x, its[i]? = some x := ⟨_, List.getElem?_eq_getElem hi'⟩
    show (its.getD i It.z).alts.toNat ≤ 4
    rw [getD_it hx]
    have := hal i x hx
    split at this <;> omega
  · obtain ⟨x, hx⟩ : ∃ x, its[i]? = some x := ⟨_, List.getElem?_eq_getElem hi'⟩
    have hs' : (its.getD i It.z).sub = false := hs
    show (its.getD i It.z).alts.toNat = 0 ∧ (its.getD i It.z).vital = false
    rw [getD_it hx] at hs' ⊢
    have := hal i x hx
    rw [hs', if_neg (by decide)] at this
    exact ⟨by omega, this.2⟩
  · have h9 : i < l.length := by rw [hlen]; exact hi'
    exact (hok.2 i h9).1
  · obtain ⟨x, hx⟩ : ∃ x, its[i]? = some x := ⟨_, List.getElem?_eq_getElem hi'⟩
    obtain ⟨b', o', av, am, ac, e', k0, k1, k2, k3, k4, k5, k6, k7, _⟩ := hir i x hx
    cases e'
    have ha : ((its.getD i It.z).alts.toNat : Int) = x.alts := by
      rw [getD_it hx]
      have := hal i x hx
      split at this <;> omega
    have hs : (plOf its).sub i = x.sub := by show (its.getD i It.z).sub = _; rw [getD_it hx]
    have hv : (plOf its).vital i = x.vital := by show (its.getD i It.z).vital = _; rw [getD_it hx]
    refine ⟨_, _, x.inn, x.alt, av, am, ac, k0, k1, by rw [hs]; exact k2, by rw [hv]; exact k3, ?_, k5, k6, k7, fun h1 => ?_⟩
    · show w.cell? _ = some (.int .i64 ((its.getD i It.z).alts.toNat : Int))
      rw [ha]
      exact k4
    · obtain ⟨⟨j, a, y, e1, e2, _⟩, _⟩ := hi i x hx h1
      refine ⟨?_, ?_⟩
      · show x.inn = ((its.getD i It.z).inn.toNat : Int)
        rw [getD_it hx, e1]
        rfl
      · show x.alt = ((its.getD i It.z).alt.toNat : Int)
        rw [getD_it hx, e2]
        rfl
  · obtain ⟨x, hx⟩ : ∃ x, l[i]? = some x := ⟨_, List.getElem?_eq_getElem (by rw [hlen]; exact hi')⟩
    obtain ⟨b', o', e', k0, k1, k2, k3⟩ := hlr i x hx
    cases e'
    rw [fOf_at hx]
    exact ⟨k0, k1, k2, k3⟩

/-- A board of a plan and facts. -/
structure BoOf (p : Pl) (f : Nat → Fa) (B : Bo) : Prop where
  c : B.c = p.n
  s : ∀ i, i < p.n → B.S i = St.S p f i
  a : ∀ i, i < p.n → B.A i = atP p f i
  m : B.M = Mf p f
  cl : ∀ i, i < p.n → B.C i = (W p f i).clean

/-- What See leads to. -/
def SeeO (its : List It) (l : List Fa) (o : Option Bo) : Prop := if chkF its l = 0 then ∃ B, o = some B ∧ BoOf (plOf its) (fOf l) B else o = none

/-- A plan and facts in memory. -/
structure PF (its : List It) (l : List Fa) (v lv : Value) (w : World) : Prop where
  it : RdIt w v its
  fair : FairI its
  tab : Dg.Tab w
  fa : RF w lv l
  il : its.length ≤ 1000000000
  ll : l.length ≤ 1000000000

theorem PF.later {its : List It} {l : List Fa} {v lv : Value} {w w' : World} (h : PF its l v lv w) (hb : Below w.heap.size w w') : PF its l v lv w' :=
  ⟨h.it.later hb, h.fair, h.tab.later hb, h.fa.later hb, h.il, h.ll⟩

set_option maxHeartbeats 2000000 in
theorem see_any {its : List It} {l : List Fa} {v lv : Value} {w : World} (h : PF its l v lv w) :
    Calls Tryz.prog 20 #[.agg #[v], lv] w fun e w' => Below w.heap.size w w' ∧ ∃ bv o, e = .returned (.tuple #[bv, .int .i64 (chkF its l)]) ∧ RB w' bv o ∧ SeeO its l o := by
  have hb1 := bl1 w (.cells #[v] 24)
  have r1 := Dg.row_new w #[v] 24
  have h1 := h.later hb1
  have HC : Hid _ := checkF_any its v lv l _ h1.it h1.fair h1.tab h1.fa h1.il h1.ll
  have c0 := (Dg.cell_row r1 0).trans rfl
  have HB1 : Hid _ := hb1
  have HR1 : Hid _ := r1
  have hc2 : chkF its l = 0 ∨ chkF its l = 2 := by unfold chkF; split <;> simp
  by_cases hc : chkF its l = 0
  · obtain ⟨xb, xo, icap, fb, fo, lcap, rfl, rfl, hBs⟩ := bs_of h1.it h1.fa hc
    have HBO : Hid (∀ wx, Below (w.alloc (.cells #[.slice (some ⟨xb, xo, none⟩) its.length icap] 24)).heap.size (w.alloc (.cells #[.slice (some ⟨xb, xo, none⟩) its.length icap] 24)) wx → Calls Tryz.prog 30 #[.agg #[.slice (some ⟨xb, xo, none⟩) its.length icap], .slice (some ⟨fb, fo, none⟩) its.length lcap] wx fun e w' => ∃ d, e = .returned (.pointer (some ⟨d, 0, none⟩)) ∧ BdIs (plOf its) (fOf l) wx d w') := fun wx hb => boardOf_any (hBs.later hb) rfl
    have HN : Hid (its.length ≤ 64) := hBs.le
    rw [hc] at HC ⊢
    have HCC : Hid _ := hc
    clear hBs h h1 hb1 r1 hc hc2
    go_enter Tryz.func20, Tryz.ntmps20
    go_wp2_with fail
    refine Calls.mono HC.out ?_
    rintro e w2 ⟨rfl, hb2⟩
    have HB2 : Hid _ := HB1.out.trans (hb2.mono HB1.out.size)
    have HBO2 : Hid _ := HBO.out w2 hb2
    have c2 := Dg.cell_later hb2 c0
    clear HC hb2 c0 HBO HB1
    go_wp2_with fail
    refine Calls.mono HBO2.out ?_
    rintro e w3 ⟨d, rfl, hbd⟩
    have HB3 : Hid _ := HB2.out.trans (hbd.bel.mono HB2.out.size)
    have HBD : Hid _ := hbd
    clear HBO2 hbd c2
    go_wp2_with fail
    go_ret2
    obtain ⟨S, A, C, q1, q2, q3⟩ := HBD.out.ex
    refine ⟨HB3.out, _, some ⟨its.length, S, A, Mf (plOf its) (fOf l), C⟩, rfl, ⟨d, rfl, HN.out, q1⟩, ?_⟩
    unfold SeeO
    rw [if_pos HCC.out]
    exact ⟨_, rfl, rfl, q2.s, q2.a, rfl, q3⟩
  · have hc9 : chkF its l = 2 := by omega
    have HCC : Hid _ := hc
    rw [hc9] at HC ⊢
    clear h h1 hb1 r1 hc hc2 hc9
    go_enter Tryz.func20, Tryz.ntmps20
    go_wp2_with fail
    refine Calls.mono HC.out ?_
    rintro e w2 ⟨rfl, hb2⟩
    have HB2 : Hid _ := HB1.out.trans (hb2.mono HB1.out.size)
    clear HC hb2 c0 HB1
    go_wp2_with fail
    go_ret2
    refine ⟨HB2.out, _, none, rfl, rfl, ?_⟩
    unfold SeeO
    rw [if_neg HCC.out]

/-- What the package's calls tell. -/
noncomputable def allS (its : List It) (l : List Fa) : List Int := if chkF its l = 0 then (List.range its.length).map (St.S (plOf its) (fOf l)) else []
noncomputable def verS (its : List It) (l : List Fa) : Int := if chkF its l = 0 then (if St.S (plOf its) (fOf l) 0 = 0 then 1 else St.S (plOf its) (fOf l) 0) else 0
noncomputable def atS (its : List It) (l : List Fa) (i : Int) : Int := if chkF its l = 0 then (if 0 ≤ i ∧ i < (its.length : Int) then atP (plOf its) (fOf l) i.toNat else -1) else 0
noncomputable def falS (its : List It) (l : List Fa) (s a : Int) : Bool := if chkF its l = 0 then decide (0 ≤ s ∧ s < (its.length : Int)) && decide (0 ≤ a ∧ a < 4) && Mf (plOf its) (fOf l) s.toNat a.toNat else false
noncomputable def cleS (its : List It) (l : List Fa) (i : Int) : Bool := if chkF its l = 0 then decide (0 ≤ i ∧ i < (its.length : Int)) && (W (plOf its) (fOf l) i.toNat).clean else false

theorem seeO_cases {its : List It} {l : List Fa} {o : Option Bo} (h : SeeO its l o) : (chkF its l = 0 ∧ ∃ B, o = some B ∧ BoOf (plOf its) (fOf l) B ∧ 1 ≤ its.length) ∨ (¬ chkF its l = 0 ∧ o = none) := by
  unfold SeeO at h
  by_cases hc : chkF its l = 0
  · rw [if_pos hc] at h
    obtain ⟨B, h1, h2⟩ := h
    exact .inl ⟨hc, B, h1, h2, (root_len (chkF_iff.1 hc).1).1⟩
  · rw [if_neg hc] at h
    exact .inr ⟨hc, h⟩

theorem see_all {its : List It} {l : List Fa} {o : Option Bo} (h : SeeO its l o) : (o.getD Bo.z).all = allS its l := by
  unfold allS
  rcases seeO_cases h with ⟨hc, B, rfl, hB, hp⟩ | ⟨hc, rfl⟩
  · rw [if_pos hc]
    show (List.range B.c).map B.S = _
    have : B.c = its.length := hB.c
    rw [this]
    refine List.map_congr_left fun i hi => ?_
    exact hB.s i (List.mem_range.1 hi)
  · rw [if_neg hc]
    rfl
theorem see_ver {its : List It} {l : List Fa} {o : Option Bo} (h : SeeO its l o) : (o.getD Bo.z).ver = verS its l := by
  unfold verS
  rcases seeO_cases h with ⟨hc, B, rfl, hB, hp⟩ | ⟨hc, rfl⟩
  · rw [if_pos hc]
    show B.ver = _
    unfold Bo.ver
    have : B.c = its.length := hB.c
    rw [if_neg (by omega), hB.s 0 (by show 0 < its.length; omega)]
  · rw [if_neg hc]
    rfl
theorem see_at {its : List It} {l : List Fa} {o : Option Bo} (h : SeeO its l o) (i : Int) : (o.getD Bo.z).at_ i = atS its l i := by
  unfold atS
  rcases seeO_cases h with ⟨hc, B, rfl, hB, hp⟩ | ⟨hc, rfl⟩
  · rw [if_pos hc]
    show B.at_ i = _
    unfold Bo.at_ Bo.has
    have hcc : B.c = its.length := hB.c
    rw [if_neg (by omega), hcc]
    by_cases hi : 0 ≤ i ∧ i < (its.length : Int)
    · rw [if_pos hi, decide_eq_true hi, if_pos rfl]
      exact hB.a i.toNat (by show i.toNat < its.length; omega)
    · rw [if_neg hi, decide_eq_false hi, if_neg (by decide)]
  · rw [if_neg hc]
    rfl
theorem see_fal {its : List It} {l : List Fa} {o : Option Bo} (h : SeeO its l o) (s a : Int) : (o.getD Bo.z).fal s a = falS its l s a := by
  unfold falS
  rcases seeO_cases h with ⟨hc, B, rfl, hB, hp⟩ | ⟨hc, rfl⟩
  · rw [if_pos hc]
    show B.fal s a = _
    unfold Bo.fal Bo.has
    have hcc : B.c = its.length := hB.c
    rw [hcc, hB.m]
  · rw [if_neg hc]
    show Bo.z.fal s a = _
    unfold Bo.fal
    show (_ && false) = false
    rw [Bool.and_false]
theorem see_cle {its : List It} {l : List Fa} {o : Option Bo} (h : SeeO its l o) (i : Int) : (o.getD Bo.z).cle i = cleS its l i := by
  unfold cleS
  rcases seeO_cases h with ⟨hc, B, rfl, hB, hp⟩ | ⟨hc, rfl⟩
  · rw [if_pos hc]
    show B.cle i = _
    unfold Bo.cle Bo.has
    have hcc : B.c = its.length := hB.c
    rw [hcc]
    by_cases hi : 0 ≤ i ∧ i < (its.length : Int)
    · rw [hB.cl i.toNat (by show i.toNat < its.length; omega)]
    · rw [decide_eq_false hi]
      rfl
  · rw [if_neg hc]
    show Bo.z.cle i = _
    unfold Bo.cle
    show (_ && false) = false
    rw [Bool.and_false]

set_option maxHeartbeats 2000000 in
theorem All_any {its : List It} {l : List Fa} {v lv : Value} {w : World} (h : PF its l v lv w) :
    Calls Tryz.prog 9 #[.agg #[v], lv] w fun e w' => Below w.heap.size w w' ∧ ∃ a c, e = .returned (.tuple #[.slice a (allS its l).length c, .int .i64 (chkF its l)]) ∧ RS w' (.slice a (allS its l).length c) (allS its l) := by
  have hb1 := bl1 w (.cells #[v] 24)
  have HSE : Hid _ := see_any (h.later hb1)
  have c0 := (Dg.cell_row (Dg.row_new w #[v] 24) 0).trans rfl
  have HB1 : Hid _ := hb1
  clear h hb1
  go_enter Tryz.func9, Tryz.ntmps9
  go_wp2_with fail
  refine Calls.mono HSE.out ?_
  rintro e w2 ⟨hb2, bv, o, rfl, hrb, hso⟩
  have HB2 : Hid _ := HB1.out.trans (hb2.mono HB1.out.size)
  have HA : Hid _ := bAll_any hrb
  have HSO : Hid _ := hso
  clear HSE hb2 c0 hrb hso HB1
  go_wp2_with fail
  refine Calls.mono HA.out ?_
  rintro e w3 ⟨hb3, a, c, rfl, hr⟩
  have HB3 : Hid _ := HB2.out.trans (hb3.mono HB2.out.size)
  have HR : Hid _ := hr
  clear HA hb3 hr HB2
  go_wp2_with fail
  go_ret2
  have e1 := see_all HSO.out
  have e2 : (o.getD Bo.z).c = (allS its l).length := by rw [← e1]; unfold Bo.all; rw [List.length_map, List.length_range]
  refine ⟨HB3.out, a, c, by rw [← e2]; rfl, ?_⟩
  have h9 := HR.out
  rw [e1, e2] at h9
  exact h9

set_option maxHeartbeats 2000000 in
theorem Verdict_any {its : List It} {l : List Fa} {v lv : Value} {w : World} (h : PF its l v lv w) :
    Calls Tryz.prog 10 #[.agg #[v], lv] w fun e w' => e = .returned (.int .i64 (verS its l)) ∧ Below w.heap.size w w' := by
  have hb1 := bl1 w (.cells #[v] 24)
  have HSE : Hid _ := see_any (h.later hb1)
  have c0 := (Dg.cell_row (Dg.row_new w #[v] 24) 0).trans rfl
  have HB1 : Hid _ := hb1
  clear h hb1
  go_enter Tryz.func10, Tryz.ntmps10
  go_wp2_with fail
  refine Calls.mono HSE.out ?_
  rintro e w2 ⟨hb2, bv, o, rfl, hrb, hso⟩
  have HB2 : Hid _ := HB1.out.trans (hb2.mono HB1.out.size)
  have HA : Hid _ := bVerdict_any hrb
  rw [see_ver hso] at HA
  clear HSE hb2 c0 hrb hso HB1
  go_wp2_with fail
  refine Calls.mono HA.out ?_
  rintro e w3 ⟨rfl, hb3⟩
  have HB3 : Hid _ := HB2.out.trans (hb3.mono HB2.out.size)
  clear HA hb3 HB2
  go_wp2_with fail
  go_ret
  exact ⟨rfl, HB3.out⟩

set_option maxHeartbeats 2000000 in
theorem Clean_any {its : List It} {l : List Fa} {v lv : Value} {w : World} (h : PF its l v lv w) (i : Int) :
    Calls Tryz.prog 11 #[.agg #[v], lv, .int .i64 i] w fun e w' => e = .returned (.bool (cleS its l i)) ∧ Below w.heap.size w w' := by
  have hb1 := bl1 w (.cells #[v] 24)
  have HSE : Hid _ := see_any (h.later hb1)
  have c0 := (Dg.cell_row (Dg.row_new w #[v] 24) 0).trans rfl
  have HB1 : Hid _ := hb1
  clear h hb1
  go_enter Tryz.func11, Tryz.ntmps11
  go_wp2_with fail
  refine Calls.mono HSE.out ?_
  rintro e w2 ⟨hb2, bv, o, rfl, hrb, hso⟩
  have HB2 : Hid _ := HB1.out.trans (hb2.mono HB1.out.size)
  have HA : Hid _ := bClean_any hrb i
  rw [see_cle hso i] at HA
  clear HSE hb2 c0 hrb hso HB1
  go_wp2_with fail
  refine Calls.mono HA.out ?_
  rintro e w3 ⟨rfl, hb3⟩
  have HB3 : Hid _ := HB2.out.trans (hb3.mono HB2.out.size)
  clear HA hb3 HB2
  go_wp2_with fail
  go_ret
  exact ⟨rfl, HB3.out⟩

set_option maxHeartbeats 2000000 in
theorem At_any {its : List It} {l : List Fa} {v lv : Value} {w : World} (h : PF its l v lv w) (i : Int) :
    Calls Tryz.prog 12 #[.agg #[v], lv, .int .i64 i] w fun e w' => e = .returned (.int .i64 (atS its l i)) ∧ Below w.heap.size w w' := by
  have hb1 := bl1 w (.cells #[v] 24)
  have HSE : Hid _ := see_any (h.later hb1)
  have c0 := (Dg.cell_row (Dg.row_new w #[v] 24) 0).trans rfl
  have HB1 : Hid _ := hb1
  clear h hb1
  go_enter Tryz.func12, Tryz.ntmps12
  go_wp2_with fail
  refine Calls.mono HSE.out ?_
  rintro e w2 ⟨hb2, bv, o, rfl, hrb, hso⟩
  have HB2 : Hid _ := HB1.out.trans (hb2.mono HB1.out.size)
  have HA : Hid _ := bAt_any hrb i
  rw [see_at hso i] at HA
  clear HSE hb2 c0 hrb hso HB1
  go_wp2_with fail
  refine Calls.mono HA.out ?_
  rintro e w3 ⟨rfl, hb3⟩
  have HB3 : Hid _ := HB2.out.trans (hb3.mono HB2.out.size)
  clear HA hb3 HB2
  go_wp2_with fail
  go_ret
  exact ⟨rfl, HB3.out⟩

set_option maxHeartbeats 2000000 in
theorem Falling_any {its : List It} {l : List Fa} {v lv : Value} {w : World} (h : PF its l v lv w) (i a : Int) :
    Calls Tryz.prog 14 #[.agg #[v], lv, .int .i64 i, .int .i64 a] w fun e w' => e = .returned (.bool (falS its l i a)) ∧ Below w.heap.size w w' := by
  have hb1 := bl1 w (.cells #[v] 24)
  have HSE : Hid _ := see_any (h.later hb1)
  have c0 := (Dg.cell_row (Dg.row_new w #[v] 24) 0).trans rfl
  have HB1 : Hid _ := hb1
  clear h hb1
  go_enter Tryz.func14, Tryz.ntmps14
  go_wp2_with fail
  refine Calls.mono HSE.out ?_
  rintro e w2 ⟨hb2, bv, o, rfl, hrb, hso⟩
  have HB2 : Hid _ := HB1.out.trans (hb2.mono HB1.out.size)
  have HA : Hid _ := bFalling_any hrb i a
  rw [see_fal hso i a] at HA
  clear HSE hb2 c0 hrb hso HB1
  go_wp2_with fail
  refine Calls.mono HA.out ?_
  rintro e w3 ⟨rfl, hb3⟩
  have HB3 : Hid _ := HB2.out.trans (hb3.mono HB2.out.size)
  clear HA hb3 HB2
  go_wp2_with fail
  go_ret
  exact ⟨rfl, HB3.out⟩
end Go.Proofs.YtgdnlceliiekkaaGreatDoor.Sa

/- The laws' example: its plan, its saga, and what is told of it. -/
namespace Go.Proofs.YtgdnlceliiekkaaGreatDoor

open Go.RowKit Go.Shelf Go.Proofs.YtgdnlceliiekkaaGreatDoor.Sx

theorem name1 (c : UInt8) (n : Int) (h1 : enc n = [c]) (h2 : kl n = 1) (h3 : isCp n = true) : nameP [c] :=
  ⟨[n], by simp [encAll, h1], n, [], rfl, h2, by simp, by simp [h3], by simp [encAll, h1]⟩

theorem nm_t : nmP [116] = true := by
  rw [nmP, (isName_iff _).2 (name1 116 116 (by decide +kernel) (by decide +kernel) (by decide +kernel))]; rfl

theorem nm_a : nmP [97] = true := by
  rw [nmP, (isName_iff _).2 (name1 97 97 (by decide +kernel) (by decide +kernel) (by decide +kernel))]; rfl

theorem nm_b : nmP [98] = true := by
  rw [nmP, (isName_iff _).2 (name1 98 98 (by decide +kernel) (by decide +kernel) (by decide +kernel))]; rfl

theorem nm_c : nmP [99] = true := by
  rw [nmP, (isName_iff _).2 (name1 99 99 (by decide +kernel) (by decide +kernel) (by decide +kernel))]; rfl

theorem nm_d : nmP [100] = true := by
  rw [nmP, (isName_iff _).2 (name1 100 100 (by decide +kernel) (by decide +kernel) (by decide +kernel))]; rfl

theorem nm_e : nmP [101] = true := by
  rw [nmP, (isName_iff _).2 (name1 101 101 (by decide +kernel) (by decide +kernel) (by decide +kernel))]; rfl

/-- The example's bodies. -/
def tEx : Tr := .b (.n ⟨[97], [98], [], false, false⟩ .e (.n ⟨[99], [], [[97]], true, false⟩ (.b (.n ⟨[100], [101], [], false, false⟩ .e .e) .e) .e)) .e

/-- Its items. -/
def iEx : List It := [⟨[116], [], true, true, 1, -1, 0, []⟩, ⟨[97], [98], false, false, 0, 0, 0, []⟩, ⟨[99], [], true, false, 1, 0, 0, [1]⟩, ⟨[100], [101], false, false, 0, 2, 0, []⟩]

theorem right_ex : rightS [116] tEx = true := by
  unfold rightS okL
  rw [nm_t]
  have hb : bigL (fltn 1 tEx) = false := by decide +kernel
  rw [hb]
  simp [tEx, fltn, nodeOk, nm_a, nm_b, nm_c, nm_d, nm_e, Tr.len]

theorem fit_ex : fitS [116] tEx = true := by
  unfold fitS codeS
  rw [right_ex]
  decide +kernel

theorem plan_ex : planT [116] tEx = some iEx := by
  unfold planT planP
  rw [if_pos ⟨fit_ex, by decide +kernel, by decide +kernel, by kernel_rfl⟩]
  kernel_rfl

theorem saga_ex : sagaP iEx = some ([116], tEx) := by
  have h1 : nameI iEx 0 = [116] := by kernel_rfl
  have h2 : bodS iEx = tEx := by kernel_rfl
  unfold sagaP
  rw [h1, h2, if_pos ⟨by decide +kernel, plan_ex⟩]

end Go.Proofs.YtgdnlceliiekkaaGreatDoor

/- The laws' example, in memory. -/
namespace Go.Proofs.YtgdnlceliiekkaaGreatDoor

open Go.RowKit Go.Shelf Go.Proofs.YtgdnlceliiekkaaGreatDoor.Sx

theorem old1 {W : World} {k : Nat} {x : Obj} (h : W.heap[k]? = some x) (o : Obj) : (W.alloc o).heap[k]? = some x := (Below.heap_alloc _ _ _ (Array.getElem?_eq_some_iff.1 h).1).trans h

theorem new1 (W : World) (o : Obj) (k : Nat) (h : k = W.heap.size) : (W.alloc o).heap[k]? = some o := by subst h; exact World.alloc_heap_new W o

end Go.Proofs.YtgdnlceliiekkaaGreatDoor

