/- Texts of the seat, packed: Ye. -/
import Derived.Test.YtlegmmhacnbnlaaGreatDoorP42
/- The program's bodiesOf. -/
namespace Go.Proofs.YtlegmmhacnbnlaaGreatDoor

open Go.RowKit Go.Shelf Go.Proofs.YtlegmmhacnbnlaaGreatDoor.Sx

theorem inf71 : (Tryz.prog.info? 145).map (fun i => (i.zero, i.size, i.bytes)) = some (some (.agg #[.slice none 0 0]), 1, 24) := by kernel_rfl

theorem nodesL_len : ∀ l : List (Lab × Tr), (nodesL l).len = l.length
  | [] => rfl
  | (l, t) :: r => by simp [nodesL, Tr.len, nodesL_len r]

theorem kidsT_len (its : List It) (rec : Nat → Tr) (i alt : Nat) : ∀ k, (kidsT its rec i alt k).length ≤ k
  | 0 => Nat.le_refl _
  | k + 1 => by
    have := kidsT_len its rec i alt k
    rw [kidsT, List.length_append]
    cases its[k]? with
    | none => simp; omega
    | some x =>
      simp only
      split <;> simp <;> omega

theorem BdS.short {w : World} {its : List It} {rec : Nat → Tr} {i n k : Nat} {A : World} {P : Nat → Prop} {vs : List Value} {ws : Nat → List (List Value)} (h : BdS w its rec i n k A P vs ws) (alt : Nat) (ha : alt < n) : (ws alt).length ≤ k := by
  rw [(h.rd alt ha).len, nodesL_len]
  exact kidsT_len its rec i alt k

theorem BdS.new (w : World) (its : List It) (rec : Nat → Tr) (i n : Nat) : BdS w its rec i n 0 (w.alloc (.cells (madeCells #[Value.slice none 0 0] n) 145)) (fun _ => False) (List.replicate n (.slice none 0 0)) (fun _ => []) := by
  have hget : ∀ (alt : Nat) (v : Value), (List.replicate n (Value.slice none 0 0))[alt]? = some v → v = .slice none 0 0 := by
    intro alt v hv
    exact (List.mem_replicate.1 (List.mem_of_getElem? hv)).2
  refine ⟨(Below.refl _ _).alloc (Nat.le_refl _) _, by rw [← Dg.made_nil]; exact Dg.row_new w _ 145, List.length_replicate, ?_, fun alt _ => rfl, ?_, ?_, fun b hb => hb.elim⟩
  · intro alt v hv
    rw [hget alt v hv]
    exact World.ownsRow_nil _ _ _ _
  · intro alt v b hv hb
    rw [hget alt v hv] at hb
    cases hb
  · intro alt alt' v v' b hv _ hb _
    rw [hget alt v hv] at hb
    cases hb

/-- All bodies, as they lie. -/
theorem BdS.bodies {w : World} {its : List It} {rec : Nat → Tr} {i n : Nat} {A : World} {P : Nat → Prop} {vs : List Value} {ws : Nat → List (List Value)} (h : BdS w its rec i n its.length A P vs ws) :
    TAt (Since w A) A true (bodiesL ((List.range n).map fun alt => nodesL (kidsT its rec i alt its.length))) (some ⟨w.heap.size, 0, none⟩) 0 n := by
  have hwA : w.heap.size < A.heap.size := (Array.getElem?_eq_some_iff.1 h.row).1
  have key : ∀ (d k : Nat), k + d = n → TAt (Since w A) A true (bodiesL ((List.range' k d).map fun alt => nodesL (kidsT its rec i alt its.length))) (some ⟨w.heap.size, 0, none⟩) k n := by
    intro d
    induction d with
    | zero =>
      intro k hk
      show k = n
      omega
    | succ d ih =>
      intro k hk
      rw [List.range'_succ, List.map_cons]
      obtain ⟨v, hv⟩ : ∃ v, vs[k]? = some v := ⟨_, List.getElem?_eq_getElem (by rw [h.len]; omega)⟩
      have hr : VRd (Since w A) A false (nodesL (kidsT its rec i k its.length)) (ws k) := VRd.keep (fun b _ _ => rfl) (fun b hb _ => ⟨Nat.le_of_lt (h.pg b hb).1, (h.pg b hb).2⟩) _ _ _ (h.rd k (by omega))
      obtain ⟨a, c, rfl, ht⟩ := hr.own (h.own k v hv) (fun b hb => ⟨(own_exists (h.own k v hv) b hb).1, (own_exists (h.own k v hv) b hb).2⟩)
      refine ⟨rfl, by omega, ⟨w.heap.size, 0, a, _, c, rfl, ⟨Nat.le_refl _, hwA⟩, ?_, ht⟩, ih (k + 1) (by omega)⟩
      rw [Nat.zero_add, Dg.cell_row h.row, List.getElem?_toArray]
      exact hv
  have := key n 0 (by omega)
  rwa [← List.range_eq_range'] at this

set_option maxRecDepth 1000000 in
set_option maxHeartbeats 4000000 in
theorem bodiesOf_any (its : List It) (v : Value) (w : World) (i n : Nat) (x : It) (hx : its[i]? = some x) (hIt : RdIt w v its) (hil : its.length ≤ 100000) (hn : x.alts = (n : Int)) (hn4 : n ≤ 100000) (rec : Nat → Tr)
    (hN : ∀ (k : Nat) (y : It), its[k]? = some y → y.inn = (i : Int) → ∀ w1, RdIt w1 v its → Calls Tryz.prog 87 #[v, .int .i64 (k : Int)] w1 fun e w' => NodC its y (rec k) w1 e w') :
    Calls Tryz.prog 80 #[v, .int .i64 (i : Int)] w fun e w' => BodC (bodiesL ((List.range n).map fun alt => nodesL (kidsT its rec i alt its.length))) w e w' := by
  have HNo : Hid _ := hN
  have HIt : Hid (RdIt w v its) := hIt
  clear hN
  obtain ⟨ia, icap, rfl, hic, hir⟩ := hIt
  obtain ⟨b1, off1, yav, yam, yac, rfl, k0, k1, k2, k3, k4, k5, k6, k7, hz⟩ := hir i x hx
  have hii : (i : Int) < (its.length : Int) := by have := (List.getElem?_eq_some_iff.1 hx).1; omega
  obtain ⟨il, HIL⟩ : ∃ il, Hid (its.length = il) := ⟨_, rfl⟩
  rw [HIL.out] at hii hil hic
  rw [hn] at k4
  have HIR : Hid _ := hir
  clear hir hx k0 k1 k2 k3 k5 k6 k7 hz
  obtain ⟨i0, hi0, hz0, hz1, hz2⟩ := info_parts inf71
  have hmk := fun wx => run_make (P := Tryz.prog) wx 92 145 i0 _ Tryz.underlying92 hi0 hz0 .i64 .i64 (n : Int) (n : Int) (by omega) (by omega) (by rw [hz2]; omega) (by omega)
  simp only [hz1, Int.toNat_natCast, Nat.mul_one] at hmk
  have HS0 : Hid _ := BdS.new w its rec i n
  rw [show ((its.length : Nat)) = il from HIL.out]
  go_enter Tryz.func80, Tryz.ntmps80
  go_wp2_with fail
  clear hmk k4
  have HB0 : Hid (Below w.heap.size w (w.alloc (.cells (madeCells #[Value.slice none 0 0] n) 145))) := (Below.refl _ _).alloc (Nat.le_refl _) _
  go_loopw [16] (fun kv wr => ∃ (k : Nat) (P : Nat → Prop) (vs : List Value) (ws : Nat → List (List Value)), k ≤ il ∧ kv = .int .i64 k ∧ Hid (BdS w its rec i n k wr P vs ws)) (fun kv _ => il - (intOf kv).toNat)
  case atStart => exact ⟨0, _, _, _, Nat.zero_le _, rfl, HS0⟩
  case round =>
    obtain ⟨k, P, vs, ws, hk, rfl, HS⟩ := hrel
    rename World => w4
    clear HS0 HB0
    by_cases hlt : k < il
    rotate_left
    · have hke : k = il := by omega
      subst hke
      clear HIR HNo
      go_wp2_with fail
      go_ret
      refine ⟨HS.out.bel, _, _, _, rfl, ?_⟩
      have h9 := HS.out
      rw [← HIL.out] at h9 ⊢
      exact h9.bodies
    · obtain ⟨y, hy⟩ : ∃ y, its[k]? = some y := ⟨_, List.getElem?_eq_getElem (by rw [HIL.out]; exact hlt)⟩
      obtain ⟨b2, off2, zav, zam, zac, he, k0, k1, k2, k3, k4, k5, k6, k7, _⟩ := HIR.out k y hy
      cases he
      have j0 := Dg.cell_later HS.out.bel k0
      have j1 := Dg.cell_later HS.out.bel k1
      have j2 := Dg.cell_later HS.out.bel k2
      have j3 := Dg.cell_later HS.out.bel k3
      have j4 := Dg.cell_later HS.out.bel k4
      have j5 := Dg.cell_later HS.out.bel k5
      have j6 := Dg.cell_later HS.out.bel k6
      have j7 := Dg.cell_later HS.out.bel k7
      clear k0 k1 k2 k3 k4 k5 k6 k7
      have hkk : (k : Int) < (il : Int) := by omega
      have rn := Dg.row_new w4 #[.string ⟨y.name.toArray⟩, .string ⟨y.undo.toArray⟩, .bool y.sub, .bool y.vital, .int .i64 y.alts, .int .i64 y.inn, .int .i64 y.alt, .slice zav zam zac] 34
      have g5 := (Dg.cell_row rn 5).trans rfl
      have g6 := (Dg.cell_row rn 6).trans rfl
      have HS5 : Hid _ := HS.out.later ((Below.refl w4.heap.size w4).alloc (Nat.le_refl _) (.cells #[.string ⟨y.name.toArray⟩, .string ⟨y.undo.toArray⟩, .bool y.sub, .bool y.vital, .int .i64 y.alts, .int .i64 y.inn, .int .i64 y.alt, .slice zav zam zac] 34))
      have HY : Hid _ := hy
      clear hy
      by_cases hin : y.inn = (i : Int)
      rotate_left
      · have hne : (y.inn == (i : Int)) = false := by simpa using hin
        have HSk : Hid _ := HS5.out.skip y HY.out (fun hc => hin hc.1)
        clear HS HS5 rn HNo HIR
        go_wp2_with fail
        go_roundw
        case rel => exact ⟨k + 1, P, vs, ws, by omega, by go_num, HSk⟩
        case measure => simp [intOf]; omega
      · by_cases h0 : 0 ≤ y.alt
        rotate_left
        · have HSk : Hid _ := HS5.out.skip y HY.out (fun hc => h0 hc.2.1)
          rw [hin] at HSk
          have hd0 : decide (0 ≤ y.alt) = false := by simpa using h0
          have hq : (y.inn == (i : Int)) = true := by simpa using hin
          clear HS HS5 rn HNo HIR
          go_wp2_with fail
          go_roundw
          case rel => exact ⟨k + 1, P, vs, ws, by omega, by go_num, HSk⟩
          case measure => simp [intOf]; omega
        · by_cases h1 : y.alt < (n : Int)
          rotate_left
          · have HSk : Hid _ := HS5.out.skip y HY.out (fun hc => h1 hc.2.2)
            rw [hin] at HSk
            have hd0 : decide (0 ≤ y.alt) = true := by simpa using h0
            have hd1 : decide (y.alt < (n : Int)) = false := by simpa using h1
            have hq : (y.inn == (i : Int)) = true := by simpa using hin
            clear HS HS5 rn HNo HIR
            go_wp2_with fail
            go_roundw
            case rel => exact ⟨k + 1, P, vs, ws, by omega, by go_num, HSk⟩
            case measure => simp [intOf]; omega
          · obtain ⟨al, hal⟩ : ∃ al : Nat, y.alt = (al : Int) := ⟨y.alt.toNat, by omega⟩
            have hal2 : al < n := by omega
            have HCa : Hid _ := HNo.out k y HY.out hin
            have hd0 : decide (0 ≤ (al : Int)) = true := by simp
            have hd1 : decide ((al : Int) < (n : Int)) = true := by simp; omega
            have hd1' : (al : Int) < (n : Int) := by omega
            rw [hal] at j6 g6 rn HS5
            rw [hin] at j5 g5 rn HS5
            have HIn : Hid _ := hin
            have HAl : Hid _ := hal
            clear HNo HIR h0 h1 hin hal
            go_wp2_with fail
            generalize w4.alloc (.cells #[.string ⟨y.name.toArray⟩, .string ⟨y.undo.toArray⟩, .bool y.sub, .bool y.vital, .int .i64 y.alts, .int .i64 (i : Int), .int .i64 (al : Int), .slice zav zam zac] 34) = w5 at *
            clear j0 j1 j2 j3 j4 j5 j6 j7 g5 g6
            have hz4 : w4.heap.size < w5.heap.size := (Array.getElem?_eq_some_iff.1 rn).1
            have hz0 : w.heap.size < w4.heap.size := (Array.getElem?_eq_some_iff.1 HS.out.row).1
            have hSd := HS5.out.later ((Below.refl w5.heap.size w5).drew)
            obtain ⟨v0, hv0⟩ : ∃ v0, vs[al]? = some v0 := ⟨_, List.getElem?_eq_getElem (by rw [HS5.out.len]; exact hal2)⟩
            obtain ⟨va, vc, rfl⟩ := own_slice (HS5.out.own al v0 hv0)
            obtain ⟨vm, HVM⟩ : ∃ vm, Hid ((ws al).length = vm) := ⟨_, rfl⟩
            rw [HVM.out] at hv0
            have hcg : w5.drew.cell? ⟨w.heap.size, al, none⟩ = some (.slice va vm vc) := (Dg.cell_row hSd.row al).trans (by rw [List.getElem?_toArray]; exact hv0)
            have MC := HCa.out w5.drew (HIt.out.later hSd.bel)
            rw [HIL.out] at MC
            have hS0 : w5.drew.heap[w4.heap.size]? = some (.cells #[.string ⟨y.name.toArray⟩, .string ⟨y.undo.toArray⟩, .bool y.sub, .bool y.vital, .int .i64 y.alts, .int .i64 (i : Int), .int .i64 (al : Int), .slice zav zam zac] 34 (0, 0)) := rn
            have HPush : Hid (∀ W1 sv sm sc av am ac, Below w5.drew.heap.size w5.drew W1 → SAt (Since w5.drew W1) W1 (y.after.map (nameI its)) sv sm → TAt (Since w5.drew W1) W1 true (rec k) av 0 am →
                ∃ ua um uc W3, (Builtin.append_ #[143, 143] 143 #[.slice va vm vc, .slice (some ⟨W1.heap.size, 0, none⟩) 1 1]).run Tryz.prog (W1.alloc (.cells #[.string ⟨y.name.toArray⟩, .string ⟨y.undo.toArray⟩, .slice sv sm sc, .bool y.sub, .bool y.vital, .slice av am ac] 148)) = .ok (.slice ua um uc) W3 ∧ W3.heap[w4.heap.size]? = some (.cells #[.string ⟨y.name.toArray⟩, .string ⟨y.undo.toArray⟩, .bool y.sub, .bool y.vital, .int .i64 y.alts, .int .i64 (i : Int), .int .i64 (al : Int), .slice zav zam zac] 34 (0, 0)) ∧ W3.cell? ⟨w.heap.size, al, none⟩ = some (.slice va vm vc) ∧ W3.frozen? ⟨w.heap.size, al, none⟩ = false ∧
                  ∃ P' vs' ws', Hid (BdS w its rec i n (k + 1) (W3.setCell ⟨w.heap.size, al, none⟩ (.slice ua um uc)) P' vs' ws')) := by
              show ∀ _, _
              intro W1 sv sm sc av am ac hb1 hs1 ht1
              obtain ⟨u', W3, hr3, ⟨ua, um, uc, rfl⟩, hg3, hrow3, P', ws', hB3⟩ := hSd.push y HY.out HIn.out al HAl.out hal2 hb1 sv sm sc av am ac hs1 ht1 _ hv0 (by have := HS5.out.short al hal2; omega)
              have hq1 : W1.heap[w4.heap.size]? = some (.cells #[.string ⟨y.name.toArray⟩, .string ⟨y.undo.toArray⟩, .bool y.sub, .bool y.vital, .int .i64 y.alts, .int .i64 (i : Int), .int .i64 (al : Int), .slice zav zam zac] 34 (0, 0)) := (hb1.block _ hz4).trans rn
              have hq2 := Dg.row_alloc hq1 (.cells (ndV (labI its y) sv sm sc av am ac).toArray 148)
              have hown := own_below (hSd.own al _ hv0) (hb1.alloc hb1.size (.cells (ndV (labI its y) sv sm sc av am ac).toArray 148))
              refine ⟨ua, um, uc, W3, hr3, (hg3.block _ (Array.getElem?_eq_some_iff.1 hq2).1 (own_other hown hq2 (by decide))).trans hq2, (Dg.cell_row hrow3 al).trans (by rw [List.getElem?_toArray]; exact hv0), Dg.froz_row hrow3 al, P', _, ws', hB3⟩
            clear HS HCa HY HIn HAl HIt HS5 hSd hv0
            refine wp_region_held (S := fun w' => w'.heap[w4.heap.size]? = some (.cells #[.string ⟨y.name.toArray⟩, .string ⟨y.undo.toArray⟩, .bool y.sub, .bool y.vital, .int .i64 y.alts, .int .i64 (i : Int), .int .i64 (al : Int), .slice zav zam zac] 34 (0, 0))) (by kernel_rfl) ?_
            simp only [List.size_toArray, List.length_cons, List.length_nil, Nat.reduceAdd, Array.replicate_succ, Array.replicate_zero, List.push_toArray, List.nil_append, List.cons_append]
            refine tK 0 37 ((.slice (some ⟨w.heap.size, 0, none⟩) n n)) 16 rfl hS0 ?_
            refine tG 1 38 (.pointer (some ⟨w4.heap.size, 6, none⟩)) 15 rfl hS0 ?_
            refine tV 2 39 (.int .i64 (al : Int)) 14 rfl hS0 ?_ (fun w9 hw9 => by have z0 := (Dg.cell_row hw9 6).trans rfl; go_simp)
            refine tK 3 40 ((.slice (some ⟨w.heap.size, 0, none⟩) n n)) 13 rfl hS0 ?_
            refine tG 4 41 (.pointer (some ⟨w4.heap.size, 6, none⟩)) 12 rfl hS0 ?_
            refine tV 5 42 (.int .i64 (al : Int)) 11 rfl hS0 ?_ (fun w9 hw9 => by have z0 := (Dg.cell_row hw9 6).trans rfl; go_simp)
            refine tG 6 43 (.pointer (some ⟨w.heap.size, al, none⟩)) 10 rfl hS0 ?_
            refine tG 7 44 (.pointer (some ⟨w.heap.size, al, none⟩)) 9 rfl hS0 ?_
            refine tK 9 46 ((.slice (some ⟨b1, off1, none⟩) il icap)) 8 rfl hS0 ?_
            refine tK 10 47 (.int .i64 (k : Int)) 7 rfl hS0 ?_
            refine wpAnyH_all (fuel := 6) (rs := [8, 11]) (by kernel_rfl) (by decide) ?_
            refine List.forall_mem_cons.2 ⟨?_, List.forall_mem_singleton.2 ?_⟩
            · refine wpOp_value (i := 8) (d := 45) (v := .slice va vm vc) (w' := w5.drew) rfl rfl (by kernel_rfl) (by go_simp) ?_
              refine ⟨hS0, ?_⟩
              simp only [List.setIfInBounds_toArray, List.set_cons_succ, List.set_cons_zero]
              refine wpAnyH_all (fuel := 5) (rs := [11]) (by kernel_rfl) (by decide) ?_
              refine List.forall_mem_singleton.2 ?_
              refine wpOp_calls (i := 11) (d := 48) rfl rfl (by kernel_rfl) (f := 87) (args := #[(.slice (some ⟨b1, off1, none⟩) il icap), .int .i64 (k : Int)]) (by kernel_rfl) _ MC ?_ ?_ ?_
              · rintro vA W1 ⟨hb1, sv, sm, sc, av, am, ac, hvA, hs1, ht1⟩
                cases hvA
                obtain ⟨ua, um, uc, W3, hr3, hq3, hc3, hf3, P', vs', ws', HB3⟩ := HPush.out W1 sv sm sc av am ac hb1 hs1 ht1
                have hq1 : W1.heap[w4.heap.size]? = some (.cells #[.string ⟨y.name.toArray⟩, .string ⟨y.undo.toArray⟩, .bool y.sub, .bool y.vital, .int .i64 y.alts, .int .i64 (i : Int), .int .i64 (al : Int), .slice zav zam zac] 34 (0, 0)) := (hb1.block _ hz4).trans rn
                refine ⟨hq1, ?_⟩
                simp only [List.setIfInBounds_toArray, List.set_cons_succ, List.set_cons_zero]
                refine wpAnyH_all (fuel := 4) (rs := [12]) (by kernel_rfl) (by decide) ?_
                refine List.forall_mem_singleton.2 ?_
                refine wpOp_value (i := 12) (d := 49) (v := .slice (some ⟨W1.heap.size, 0, none⟩) 1 1) (w' := W1.alloc (.cells #[.string ⟨y.name.toArray⟩, .string ⟨y.undo.toArray⟩, .slice sv sm sc, .bool y.sub, .bool y.vital, .slice av am ac] 148)) rfl rfl (by kernel_rfl) (by go_simp) ?_
                refine ⟨Dg.row_alloc hq1 _, ?_⟩
                simp only [List.setIfInBounds_toArray, List.set_cons_succ, List.set_cons_zero]
                refine wpAnyH_all (fuel := 3) (rs := [13]) (by kernel_rfl) (by decide) ?_
                refine List.forall_mem_singleton.2 ?_
                refine wpOp_value (i := 13) (d := 50) (v := .slice ua um uc) (w' := W3) rfl rfl (by kernel_rfl) (by simp [execOp, resolve, invoke, builtin, hr3, Result.andThen, Act.eval]) ?_
                refine ⟨hq3, ?_⟩
                simp only [List.setIfInBounds_toArray, List.set_cons_succ, List.set_cons_zero]
                refine wpAnyH_all (fuel := 2) (rs := [14]) (by kernel_rfl) (by decide) ?_
                refine List.forall_mem_singleton.2 ?_
                refine wpOp_value (i := 14) (d := 51) (v := .pointer (some ⟨w.heap.size, al, none⟩)) (w' := W3) rfl rfl (by kernel_rfl) (by go_simp) ?_
                refine ⟨hq3, ?_⟩
                simp only [List.setIfInBounds_toArray, List.set_cons_succ, List.set_cons_zero]
                refine wpAnyH_all (fuel := 1) (rs := [15]) (by kernel_rfl) (by decide) ?_
                refine List.forall_mem_singleton.2 ?_
                refine wpOp_value (i := 15) (d := 52) (v := .pointer (some ⟨w.heap.size, al, none⟩)) (w' := W3) rfl rfl (by kernel_rfl) (by go_simp) ?_
                refine ⟨hq3, ?_⟩
                simp only [List.setIfInBounds_toArray, List.set_cons_succ, List.set_cons_zero]
                refine wpAnyH_all (fuel := 0) (rs := [16]) (by kernel_rfl) (by decide) ?_
                refine List.forall_mem_singleton.2 ?_
                refine wpOp_skip (i := 16) (w' := W3.setCell ⟨w.heap.size, al, none⟩ (.slice ua um uc)) rfl rfl (by kernel_rfl) (by go_simp) ?_
                refine ⟨Dg.row_other hq3 _ (by omega), by kernel_rfl, ?_⟩
                clear hr3 hq3 hc3 hf3 hq1 MC HPush hcg hS0 rn
                go_wp2_with fail
                go_roundw
                case rel => exact ⟨k + 1, P', vs', ws', by omega, by go_num, HB3⟩
                case measure => simp [intOf]; omega
              · rintro ch w'' ⟨_, _, _, _, _, _, _, h9, _⟩
                cases h9
              · rintro w'' ⟨_, _, _, _, _, _, _, h9, _⟩
                cases h9
            · refine wpOp_calls (i := 11) (d := 48) rfl rfl (by kernel_rfl) (f := 87) (args := #[(.slice (some ⟨b1, off1, none⟩) il icap), .int .i64 (k : Int)]) (by kernel_rfl) _ MC ?_ ?_ ?_
              · rintro vA W1 ⟨hb1, sv, sm, sc, av, am, ac, hvA, hs1, ht1⟩
                cases hvA
                obtain ⟨ua, um, uc, W3, hr3, hq3, hc3, hf3, P', vs', ws', HB3⟩ := HPush.out W1 sv sm sc av am ac hb1 hs1 ht1
                have hq1 : W1.heap[w4.heap.size]? = some (.cells #[.string ⟨y.name.toArray⟩, .string ⟨y.undo.toArray⟩, .bool y.sub, .bool y.vital, .int .i64 y.alts, .int .i64 (i : Int), .int .i64 (al : Int), .slice zav zam zac] 34 (0, 0)) := (hb1.block _ hz4).trans rn
                have hcg1 := Dg.cell_later hb1 hcg
                refine ⟨hq1, ?_⟩
                simp only [List.setIfInBounds_toArray, List.set_cons_succ, List.set_cons_zero]
                refine wpAnyH_all (fuel := 5) (rs := [8, 12]) (by kernel_rfl) (by decide) ?_
                refine List.forall_mem_cons.2 ⟨?_, List.forall_mem_singleton.2 ?_⟩
                · refine wpOp_value (i := 8) (d := 45) (v := .slice va vm vc) (w' := W1) rfl rfl (by kernel_rfl) (by go_simp) ?_
                  refine ⟨hq1, ?_⟩
                  simp only [List.setIfInBounds_toArray, List.set_cons_succ, List.set_cons_zero]
                  refine wpAnyH_all (fuel := 4) (rs := [12]) (by kernel_rfl) (by decide) ?_
                  refine List.forall_mem_singleton.2 ?_
                  refine wpOp_value (i := 12) (d := 49) (v := .slice (some ⟨W1.heap.size, 0, none⟩) 1 1) (w' := W1.alloc (.cells #[.string ⟨y.name.toArray⟩, .string ⟨y.undo.toArray⟩, .slice sv sm sc, .bool y.sub, .bool y.vital, .slice av am ac] 148)) rfl rfl (by kernel_rfl) (by go_simp) ?_
                  refine ⟨Dg.row_alloc hq1 _, ?_⟩
                  simp only [List.setIfInBounds_toArray, List.set_cons_succ, List.set_cons_zero]
                  refine wpAnyH_all (fuel := 3) (rs := [13]) (by kernel_rfl) (by decide) ?_
                  refine List.forall_mem_singleton.2 ?_
                  refine wpOp_value (i := 13) (d := 50) (v := .slice ua um uc) (w' := W3) rfl rfl (by kernel_rfl) (by simp [execOp, resolve, invoke, builtin, hr3, Result.andThen, Act.eval]) ?_
                  refine ⟨hq3, ?_⟩
                  simp only [List.setIfInBounds_toArray, List.set_cons_succ, List.set_cons_zero]
                  refine wpAnyH_all (fuel := 2) (rs := [14]) (by kernel_rfl) (by decide) ?_
                  refine List.forall_mem_singleton.2 ?_
                  refine wpOp_value (i := 14) (d := 51) (v := .pointer (some ⟨w.heap.size, al, none⟩)) (w' := W3) rfl rfl (by kernel_rfl) (by go_simp) ?_
                  refine ⟨hq3, ?_⟩
                  simp only [List.setIfInBounds_toArray, List.set_cons_succ, List.set_cons_zero]
                  refine wpAnyH_all (fuel := 1) (rs := [15]) (by kernel_rfl) (by decide) ?_
                  refine List.forall_mem_singleton.2 ?_
                  refine wpOp_value (i := 15) (d := 52) (v := .pointer (some ⟨w.heap.size, al, none⟩)) (w' := W3) rfl rfl (by kernel_rfl) (by go_simp) ?_
                  refine ⟨hq3, ?_⟩
                  simp only [List.setIfInBounds_toArray, List.set_cons_succ, List.set_cons_zero]
                  refine wpAnyH_all (fuel := 0) (rs := [16]) (by kernel_rfl) (by decide) ?_
                  refine List.forall_mem_singleton.2 ?_
                  refine wpOp_skip (i := 16) (w' := W3.setCell ⟨w.heap.size, al, none⟩ (.slice ua um uc)) rfl rfl (by kernel_rfl) (by go_simp) ?_
                  refine ⟨Dg.row_other hq3 _ (by omega), by kernel_rfl, ?_⟩
                  clear hr3 hq3 hc3 hf3 hq1 MC HPush hcg hS0 rn
                  go_wp2_with fail
                  go_roundw
                  case rel => exact ⟨k + 1, P', vs', ws', by omega, by go_num, HB3⟩
                  case measure => simp [intOf]; omega
                · refine wpOp_value (i := 12) (d := 49) (v := .slice (some ⟨W1.heap.size, 0, none⟩) 1 1) (w' := W1.alloc (.cells #[.string ⟨y.name.toArray⟩, .string ⟨y.undo.toArray⟩, .slice sv sm sc, .bool y.sub, .bool y.vital, .slice av am ac] 148)) rfl rfl (by kernel_rfl) (by go_simp) ?_
                  refine ⟨Dg.row_alloc hq1 _, ?_⟩
                  simp only [List.setIfInBounds_toArray, List.set_cons_succ, List.set_cons_zero]
                  refine wpAnyH_all (fuel := 4) (rs := [8]) (by kernel_rfl) (by decide) ?_
                  refine List.forall_mem_singleton.2 ?_
                  have hcg2 := Dg.cell_later ((Below.refl W1.heap.size W1).alloc (Nat.le_refl _) (.cells #[.string ⟨y.name.toArray⟩, .string ⟨y.undo.toArray⟩, .slice sv sm sc, .bool y.sub, .bool y.vital, .slice av am ac] 148)) hcg1
                  refine wpOp_value (i := 8) (d := 45) (v := .slice va vm vc) (w' := W1.alloc (.cells #[.string ⟨y.name.toArray⟩, .string ⟨y.undo.toArray⟩, .slice sv sm sc, .bool y.sub, .bool y.vital, .slice av am ac] 148)) rfl rfl (by kernel_rfl) (by go_simp) ?_
                  refine ⟨Dg.row_alloc hq1 _, ?_⟩
                  simp only [List.setIfInBounds_toArray, List.set_cons_succ, List.set_cons_zero]
                  refine wpAnyH_all (fuel := 3) (rs := [13]) (by kernel_rfl) (by decide) ?_
                  refine List.forall_mem_singleton.2 ?_
                  refine wpOp_value (i := 13) (d := 50) (v := .slice ua um uc) (w' := W3) rfl rfl (by kernel_rfl) (by simp [execOp, resolve, invoke, builtin, hr3, Result.andThen, Act.eval]) ?_
                  refine ⟨hq3, ?_⟩
                  simp only [List.setIfInBounds_toArray, List.set_cons_succ, List.set_cons_zero]
                  refine wpAnyH_all (fuel := 2) (rs := [14]) (by kernel_rfl) (by decide) ?_
                  refine List.forall_mem_singleton.2 ?_
                  refine wpOp_value (i := 14) (d := 51) (v := .pointer (some ⟨w.heap.size, al, none⟩)) (w' := W3) rfl rfl (by kernel_rfl) (by go_simp) ?_
                  refine ⟨hq3, ?_⟩
                  simp only [List.setIfInBounds_toArray, List.set_cons_succ, List.set_cons_zero]
                  refine wpAnyH_all (fuel := 1) (rs := [15]) (by kernel_rfl) (by decide) ?_
                  refine List.forall_mem_singleton.2 ?_
                  refine wpOp_value (i := 15) (d := 52) (v := .pointer (some ⟨w.heap.size, al, none⟩)) (w' := W3) rfl rfl (by kernel_rfl) (by go_simp) ?_
                  refine ⟨hq3, ?_⟩
                  simp only [List.setIfInBounds_toArray, List.set_cons_succ, List.set_cons_zero]
                  refine wpAnyH_all (fuel := 0) (rs := [16]) (by kernel_rfl) (by decide) ?_
                  refine List.forall_mem_singleton.2 ?_
                  refine wpOp_skip (i := 16) (w' := W3.setCell ⟨w.heap.size, al, none⟩ (.slice ua um uc)) rfl rfl (by kernel_rfl) (by go_simp) ?_
                  refine ⟨Dg.row_other hq3 _ (by omega), by kernel_rfl, ?_⟩
                  clear hr3 hq3 hc3 hf3 hq1 MC HPush hcg hS0 rn
                  go_wp2_with fail
                  go_roundw
                  case rel => exact ⟨k + 1, P', vs', ws', by omega, by go_num, HB3⟩
                  case measure => simp [intOf]; omega
              · rintro ch w'' ⟨_, _, _, _, _, _, _, h9, _⟩
                cases h9
              · rintro w'' ⟨_, _, _, _, _, _, _, h9, _⟩
                cases h9

end Go.Proofs.YtlegmmhacnbnlaaGreatDoor

