/- Texts of the seat, packed: Tk. -/
import Derived.Test.YtephkdocfhajiaaDoorP50
import Derived.Test.YtephkdocfhajiaaDoorP49
import Derived.Deep.RegionHeldLaw
/- The walk over PlanAll. -/
namespace Go.Proofs.YtephkdocfhajiaaDoor
open Go.RowKit Go.Shelf Go.Proofs.YtephkdocfhajiaaDoor.Sx
set_option linter.unusedVariables false

theorem below_ad (w : World) (o : Obj) : Below w.drew.heap.size w.drew (w.alloc o).drew := (Below.refl _ w.drew).alloc (Nat.le_refl _) o

/-- All that PlanAll asks, with letters for what is told. -/
structure AllL2 (its : List It) (il : Nat) (kd : Nat → Nat → List Nat) (ab ovf : Nat → List Nat) (c2 : Nat → Nat → Nat) : Prop where
  len : il ≤ 64
  pos : 0 < il
  alts : ∀ (i : Nat) (z : It), its[i]? = some z → 0 ≤ z.alts ∧ z.alts ≤ 4
  some_ : ∀ (i a : Nat) (z : It), its[i]? = some z → (a : Int) < z.alts → 0 < (kd i a).length
  above : ∀ (i a j : Nat), i < il → j ∈ kd i a → i < j ∧ j < il ∧ ab j = i :: ab i
  over : ∀ (i a j : Nat), i < il → j ∈ kd i a → ∀ m ∈ ovf j, m ∈ kd i a ∧ j ∉ ovf m
  c0 : c2 0 0 = 0
  cs : ∀ i a, i < il → c2 i (a + 1) = c2 i a + (kd i a).length
  cn : ∀ (i a : Nat) (z : It), its[i]? = some z → z.alts = (a : Int) → c2 i a = c2 (i + 1) 0
  ca : c2 il 0 + 1 = il
  cb : ∀ i a, c2 i a ≤ 64
  lk : ∀ i a, (kd i a).length ≤ 1000
  la : ∀ i, (ab i).length ≤ 1000
  lo : ∀ i, (ovf i).length ≤ 1000

set_option maxRecDepth 1000000 in
set_option maxHeartbeats 200000000 in
theorem all_walk (hLv : ∀ wx : World, Dg.Tab wx → Calls Tryd.prog 9 #[] wx fun e w' => e = .returned (.bool true) ∧ Below wx.heap.size wx w') (x : By) (t : Tr) (a : Option Addr) (ca : Nat) (w : World) (hT : Dg.Tab w)
    (ht : TAt (· < w.heap.size) w true t a 0 t.len) (hm : t.len ≤ maxLen) (hb : t.bnd) (hx : x.length ≤ maxLen) :
    Calls Tryd.prog 4 #[.agg #[.string ⟨x.toArray⟩, .slice a t.len ca]] w fun e w' => e = .returned (.bool true) ∧ Below w.heap.size w w' := by
  have HLv : Hid _ := hLv
  have HT : Hid (Dg.Tab w) := hT
  have HTt : Hid (TAt (· < w.heap.size) w true t a 0 t.len) := ht
  have HKd : Hid (Kd true t) := TAt.kd t ht
  obtain ⟨W1, HW1⟩ : ∃ W1, W1 = w.alloc (.cells #[.string ⟨x.toArray⟩, .slice a t.len ca] 24) := ⟨_, rfl⟩
  have hb1 : Below w.heap.size w W1 := by rw [HW1]; exact (Below.refl _ w).alloc (Nat.le_refl _) _
  have r2 : W1.heap[w.heap.size]? = some (.cells #[.string ⟨x.toArray⟩, .slice a t.len ca] 24 (0, 0)) := by rw [HW1]; exact Dg.row_new w _ 24
  have g20 := (Dg.cell_row r2 0).trans rfl
  have g21 := (Dg.cell_row r2 1).trans rfl
  have MF : Hid _ := few_any x t _ W1 a ca (ht.below hb1) hm hb hx
  have HB1 : Hid _ := hb1
  clear hLv hT ht hm hb hx hb1 r2
  obtain ⟨tl, HTL⟩ : ∃ tl, Hid (t.len = tl) := ⟨_, rfl⟩
  rw [HTL.out] at MF HW1 g21 ⊢
  go_enter Tryd.func4, Tryd.ntmps4
  go_wp2_with fail
  rw [← HW1]
  clear HW1
  refine Calls.mono MF.out ?_
  rintro e w2 ⟨q, rfl, hb2, hq⟩
  have HB2 : Hid (Below w.heap.size w w2) := HB1.out.trans (hb2.mono HB1.out.size)
  have i20 := Dg.cell_later hb2 g20
  have i21 := Dg.cell_later hb2 g21
  clear hb2 MF g20 g21
  cases q with
  | false =>
    clear hq i20 i21
    go_wp2_with fail
    refine Calls.mono (HLv.out w2 (HT.out.later HB2.out)) ?_
    rintro e w3 ⟨rfl, hb3⟩
    have HB3 : Hid (Below w.heap.size w w3) := HB2.out.trans (hb3.mono HB2.out.size)
    clear hb3
    go_wp2_with fail
    go_ret
    exact ⟨rfl, HB3.out⟩
  | true =>
    obtain ⟨hx200, hpc, hsh⟩ := hq rfl
    have HFt : Hid (Fair t) := few_fair hpc hsh
    have HXl : Hid (x.length ≤ 1000000) := by show _ ≤ _; omega
    clear hq hpc hsh hx200
    have MM : Hid _ := Make_any w2 x t a ca (TAt.later HTt.out HB2.out) HFt.out (HT.out.later HB2.out)
    rw [HTL.out] at MM
    go_wp2_with fail
    refine Calls.mono MM.out ?_
    rintro e w4 ⟨hb4, h4⟩
    have HB4 : Hid (Below w.heap.size w w4) := HB2.out.trans (hb4.mono HB2.out.size)
    clear hb4 MM i20 i21
    cases hP : planT x t with
    | none =>
      rw [hP] at h4
      obtain rfl : e = .returned (.tuple #[.agg #[.slice none 0 0], .int .i64 11]) := h4
      have hbA : Below w4.heap.size w4 (w4.alloc (.cells #[.slice none 0 0] 27)) := (Below.refl _ _).alloc (Nat.le_refl _) _
      have HBz : Hid (Below w.heap.size w (w4.alloc (.cells #[.slice none 0 0] 27))) := HB4.out.trans (hbA.mono HB4.out.size)
      clear hP hbA
      go_wp2_with fail
      refine Calls.mono (HLv.out _ (HT.out.later HBz.out)) ?_
      rintro e w5 ⟨rfl, hb5⟩
      have HB5 : Hid (Below w.heap.size w w5) := HBz.out.trans (hb5.mono HBz.out.size)
      clear hb5
      go_wp2_with fail
      go_ret
      exact ⟨rfl, HB5.out⟩
    | some its =>
      rw [hP] at h4
      obtain ⟨v4, rfl, hs4⟩ := h4
      have hr4 := hs4.rd
      obtain ⟨ia, icap, rfl, _, hrr0⟩ := id hr4
      obtain ⟨z0, hz0⟩ : ∃ z0, its[0]? = some z0 := ⟨_, List.getElem?_eq_getElem (allF hP HKd.out (right_facts (saga_of_plan hP HKd.out)).2.2.2.2.choose_spec.choose_spec).pos⟩
      obtain ⟨b1, off1, _, _, _, rfl, _⟩ := hrr0 0 z0 hz0
      clear hz0 hrr0
      have hsg := saga_of_plan hP HKd.out
      obtain ⟨hr64, _, _, _, Wv, ov, hwv⟩ := right_facts hsg
      have hAF := allF hP HKd.out hwv
      have hovT : ovT its = Dg.reachL Wv ov := by unfold ovT; rw [hwv]
      obtain ⟨il, HIL⟩ : ∃ il, Hid (its.length = il) := ⟨_, rfl⟩
      obtain ⟨kd, hkd⟩ : ∃ kd : Nat → Nat → List Nat, ∀ i a, kd i a = kidsL its (i : Int) (a : Int) := ⟨_, fun _ _ => rfl⟩
      obtain ⟨ab, hab⟩ : ∃ ab : Nat → List Nat, ∀ i, ab i = aboveL its (i : Int) := ⟨_, fun _ => rfl⟩
      obtain ⟨ovf, hov⟩ : ∃ ovf : Nat → List Nat, ∀ i, ovf i = overL (ovT its) (i : Int) := ⟨_, fun _ => rfl⟩
      obtain ⟨c2, hc2⟩ : ∃ c2 : Nat → Nat → Nat, ∀ i a, c2 i a = ct its i a := ⟨_, fun _ _ => rfl⟩
      have HF : Hid (AllL2 its il kd ab ovf c2) := by
        have hI := HIL.out
        refine ⟨by rw [← hI]; exact hAF.len, by rw [← hI]; exact hAF.pos, hAF.alts, fun i a z h1 h2 => by rw [hkd]; exact hAF.some_ i a z h1 h2, fun i a j h1 h2 => by rw [hkd] at h2; rw [hab, hab]; rw [← hI] at h1 ⊢; exact hAF.above i a j h1 h2, fun i a j h1 h2 m h3 => ?_, by rw [hc2]; exact hAF.c0, fun i a h1 => by rw [hc2, hc2, hkd]; rw [← hI] at h1; exact hAF.cs i a h1, fun i a z h1 h2 => by rw [hc2, hc2]; exact hAF.cn i a z h1 h2, by rw [hc2, ← hI]; exact hAF.ca, fun i a => ?_, fun i a => ?_, fun i => ?_, fun i => ?_⟩
        · rw [hkd] at h2
          rw [hov, hovT] at h3
          rw [hkd, hov, hovT]
          rw [← hI] at h1
          exact hAF.over i a j h1 h2 m h3
        · rw [hc2]
          have := List.countP_le_length (l := its) (p := fun x => decide (0 ≤ x.inn ∧ (x.inn < (i : Int) ∨ (x.inn = (i : Int) ∧ x.alt < (a : Int)))))
          have := hAF.len
          unfold ct
          omega
        · rw [hkd]
          unfold kidsL
          split
          · have := kids_len (i : Int) (a : Int) its 0; have := hAF.len; omega
          · simp
        · rw [hab]
          unfold aboveL
          split
          · have := ups_len its its.length (i : Int).toNat; have := hAF.len; omega
          · simp
        · rw [hov, hovT]
          unfold overL
          split
          · rename_i h
            have hlt : (i : Int).toNat < (Dg.reachL Wv ov).length := by omega
            rw [List.getD_eq_getElem?_getD, List.getElem?_eq_getElem hlt]
            have hm := List.getElem_mem hlt
            obtain ⟨u, _, hu⟩ := List.mem_map.1 (show (Dg.reachL Wv ov)[(i : Int).toNat] ∈ (Dg.reachP Wv ov).map Dg.bitsOf from hm)
            show ((Dg.reachL Wv ov)[(i : Int).toNat]).length ≤ 1000
            rw [← hu]
            have := bits_64 u
            omega
          · simp
      have hbA : Below w4.heap.size w4 (w4.alloc (.cells #[.slice (some ⟨b1, off1, none⟩) its.length icap] 27)) := (Below.refl _ _).alloc (Nat.le_refl _) _
      have m5 := (Dg.cell_row (Dg.row_new w4 #[.slice (some ⟨b1, off1, none⟩) its.length icap] 27) 0).trans rfl
      have HB5 : Hid (Below w.heap.size w (w4.alloc (.cells #[.slice (some ⟨b1, off1, none⟩) its.length icap] 27))) := HB4.out.trans (hbA.mono HB4.out.size)
      have hr5 := hr4.later hbA
      have hin := all_in _ w4.heap.size (some ⟨b1, off1, none⟩) its.length icap its (x, t) HLv.out (HT.out.later HB5.out) hr5 (plan_fairI hP HFt.out HXl.out) hr64 hsg kd ab ovf hkd hab hov
      rw [HIL.out] at hin m5 HB5 hr5 ⊢
      clear hP hs4 hr4 hsg hwv hAF hovT hkd hab hov hc2 hbA hr64
      obtain ⟨W0, HW0⟩ : ∃ W0, W0 = w4.alloc (.cells #[.slice (some ⟨b1, off1, none⟩) il icap] 27) := ⟨_, rfl⟩
      obtain ⟨B, HBe⟩ : ∃ B, B = w4.heap.size := ⟨_, rfl⟩
      rw [← HW0] at hin m5 hr5 HB5
      rw [← HBe] at hin m5
      obtain ⟨K, C17, C19, C20, C18, C9⟩ := hin
      have HK : Hid _ := K
      have H17 : Hid _ := C17
      have H19 : Hid _ := C19
      have H20 : Hid _ := C20
      have H18 : Hid _ := C18
      have H9 : Hid _ := C9
      have HIn : Hid (∀ (wx : World) (l : List Nat) (v : Value) (y : Nat), Dg.RdI wx v l → l.length ≤ 1000 → Calls Tryd.prog 21 #[v, .int .i64 (y : Int)] wx fun e w' => e = .returned (.bool (decide (y ∈ l))) ∧ wx = w') := fun wx l v y h1 h2 => Calls.mono (Dg.In_any l v y wx h1 (by omega)) (fun e w' h => ⟨h.1, h.2.symm⟩)
      have HRd : Hid (∀ (i : Nat) (z : It), its[i]? = some z → W0.cell? ⟨b1, off1 + i * 8 + 4, none⟩ = some (.int .i64 z.alts)) := by
        show ∀ (i : Nat) (z : It), _
        intro i z hz
        obtain ⟨ra, rc, he, _, hrr⟩ := hr5
        obtain ⟨hra, _, _⟩ := Value.slice.inj he
        obtain ⟨b', off', _, _, _, hb', _, _, _, _, k4, _⟩ := hrr i z hz
        rw [← hra] at hb'
        cases hb'
        exact k4
      have HM5 : Hid _ := m5
      have hil64 := HF.out.len
      clear K C17 C19 C20 C18 C9 hr5 m5
      go_wp2_with fail
      rw [← HW0]
      rw [← HBe]
      clear HW0 HBe
      go_loopw [5, 6] (fun nv iv wr => ∃ (i : Nat), i ≤ il ∧ iv = .int .i64 i ∧ nv = .int .i64 (c2 i 0 : Nat) ∧ Hid (Below W0.heap.size W0 wr)) (fun _ iv _ => il - (intOf iv).toNat)
      case atStart => exact ⟨0, Nat.zero_le _, rfl, by rw [HF.out.c0]; rfl, Below.refl _ _⟩
      case round =>
        obtain ⟨i, hi, rfl, rfl, HB⟩ := hrel
        rename World => wr
        have g3 := Dg.cell_later HB.out HM5.out
        by_cases hlt : i < il
        · obtain ⟨z, hz⟩ : ∃ z, its[i]? = some z := ⟨_, List.getElem?_eq_getElem (by rw [HIL.out]; exact hlt)⟩
          have hza := HF.out.alts i z hz
          obtain ⟨al, hal⟩ : ∃ al : Nat, z.alts = (al : Int) := ⟨z.alts.toNat, by omega⟩
          have HZ : Hid (its[i]? = some z) := hz
          have hal4 : al ≤ 4 := by omega
          have HAl : Hid (z.alts = (al : Int)) := hal
          have k4 := HRd.out i z hz
          rw [hal] at k4
          have HK4 : Hid (W0.cell? ⟨b1, off1 + i * 8 + 4, none⟩ = some (.int .i64 (al : Int))) := k4
          clear hza hal k4 hz
          have hd64 : decide ((i : Int) < 64) = true := decide_eq_true (by omega)
          have hn64 : decide (i < 64) = true := decide_eq_true (by omega)
          go_wp2_with fail
          clear hd64 hn64
          go_loopw [5, 7] (fun nv av wx => ∃ (p : Nat), p ≤ al ∧ av = .int .i64 p ∧ nv = .int .i64 (c2 i p : Nat) ∧ Hid (Below W0.heap.size W0 wx)) (fun _ av _ => al - (intOf av).toNat)
          case atStart => exact ⟨0, Nat.zero_le _, rfl, rfl, HB⟩
          case round =>
            obtain ⟨p, hp, rfl, rfl, HBx⟩ := hrel
            rename World => wx
            have g3x := Dg.cell_later HBx.out HM5.out
            have k4x := Dg.cell_later HBx.out HK4.out
            clear g3
            by_cases hpl : p < al
            · have HCs : Hid (c2 i (p + 1) = c2 i p + (kd i p).length) := HF.out.cs i p hlt
              have hcb := HF.out.cb i (p + 1)
              have hsm := HF.out.some_ i p z HZ.out (by rw [HAl.out]; omega)
              rw [HCs.out] at hcb
              have HAbv : Hid (∀ j ∈ kd i p, i < j ∧ j < il ∧ ab j = i :: ab i) := fun j hj => HF.out.above i p j hlt hj
              have HOvr : Hid (∀ j ∈ kd i p, ∀ m ∈ ovf j, m ∈ kd i p ∧ j ∉ ovf m) := fun j hj => HF.out.over i p j hlt hj
              have hlk := HF.out.lk i p
              have hlab := HF.out.la i
              go_wp2_with fail
              refine Calls.mono (H17.out wx i p ⟨HBx.out, g3x⟩) ?_
              rintro e w17 ⟨s17, c17, rfl, hi17, hb17, hS17⟩
              have HB17 : Hid (Below W0.heap.size W0 w17) := hS17.1
              have HI17 : Hid (Dg.RdI w17 (.slice s17 (kd i p).length c17) (kd i p)) := hi17
              clear hi17 hb17 hS17 g3x k4x
              obtain ⟨L, HLe⟩ : ∃ L, Hid (L = kd i p) := ⟨_, rfl⟩
              rw [← HLe.out] at HI17 HAbv HOvr hlk hsm hcb HCs ⊢
              clear HLe
              have hL0 : ((L.length : Int) == 0) = false := beq_eq_false_iff_ne.2 (by omega)
              go_wp2_with fail
              clear hL0
              go_loopw [9] (fun kv wy => ∃ (k : Nat), k ≤ L.length ∧ kv = .int .i64 k ∧ Hid (Below W0.heap.size W0 wy) ∧ Hid (Dg.RdI wy (.slice s17 L.length c17) L)) (fun kv _ => L.length - (intOf kv).toNat)
              case atStart => exact ⟨0, Nat.zero_le _, rfl, HB17, HI17⟩
              case round =>
                obtain ⟨k, hk, rfl, HBy, HIy⟩ := hrel
                rename World => wy
                clear HB17 HI17
                by_cases hkl : k < L.length
                · obtain ⟨j, hj⟩ : ∃ j, L[k]? = some j := ⟨_, List.getElem?_eq_getElem hkl⟩
                  obtain ⟨hAb1, hAb2, hAb3⟩ := HAbv.out j (List.mem_of_getElem? hj)
                  have HAbE : Hid (ab j = i :: ab i) := hAb3
                  clear hAb3
                  have HOj : Hid (∀ m ∈ ovf j, m ∈ L ∧ j ∉ ovf m) := HOvr.out j (List.mem_of_getElem? hj)
                  have hljb := HF.out.la j
                  have hljo := HF.out.lo j
                  obtain ⟨ra, rc, he, _, hrr⟩ := HIy.out
                  cases he
                  obtain ⟨b2, off2, rfl, hcj⟩ := hrr k j hj
                  have g3y := Dg.cell_later HBy.out HM5.out
                  have hik := HIy.out.later ((Below.refl _ _).drew)
                  have HS0 : Hid (Below W0.heap.size W0 wy.drew ∧ wy.drew.cell? ⟨B, 0, none⟩ = some (.slice (some ⟨b1, off1, none⟩) il icap)) := ⟨HBy.out.drew, g3y⟩
                  have hd1 : decide ((j : Int) ≤ (i : Int)) = false := decide_eq_false (by omega)
                  have hd2 : decide (j ≤ i) = false := decide_eq_false (by omega)
                  have hd3 : decide ((il : Int) ≤ (j : Int)) = false := decide_eq_false (by omega)
                  have hd4 : decide (il ≤ j) = false := decide_eq_false (by omega)
                  clear hrr hj
                  go_wp2_with fail
                  go_region_held_law (fun w' => (Below W0.heap.size W0 w' ∧ w'.cell? ⟨B, 0, none⟩ = some (.slice (some ⟨b1, off1, none⟩) il icap))) (first | assumption | exact HS0.out | exact HK.out _ _ (by assumption) ((Below.refl _ _).alloc (Nat.le_refl _) _) | exact HK.out _ _ HS0.out (below_ad _ _))
                    (first
                      | (refine step_app (by kernel_rfl) (.tmp 86) (.tmp 89) rfl 90 rfl _ i (ab i) _ rfl rfl (by first | exact hii | exact hii.later ((Below.refl _ _).alloc (Nat.le_refl _) _) | exact hii.later (below_ad _ _)) (by first | exact hrow | exact Dg.row_new _ _ 3 | exact row_newd _ _ 3) hlab ?_; intro a90 c90 w90 hip hb90; have hS90 := HK.out _ _ (by assumption) hb90; (first | (replace hij := hij.later hb90) | (replace hij := (hij.later ((Below.refl _ _).alloc (Nat.le_refl _) _)).later hb90) | (replace hij := (hij.later (below_ad _ _)).later hb90) | skip); (first | (replace hik := hik.later hb90) | (replace hik := (hik.later ((Below.refl _ _).alloc (Nat.le_refl _) _)).later hb90) | (replace hik := (hik.later (below_ad _ _)).later hb90) | skip))
                      | (go_simp; go_at_call 19; refine Calls.mono (H19.out _ _ (by assumption)) ?_; rintro e w19 ⟨s19, c19, rfl, hi19, hb19, hS19⟩; (first | (replace hij := hij.later hb19) | (replace hij := (hij.later ((Below.refl _ _).alloc (Nat.le_refl _) _)).later hb19) | (replace hij := (hij.later (below_ad _ _)).later hb19) | skip); (first | (replace hii := hii.later hb19) | (replace hii := (hii.later ((Below.refl _ _).alloc (Nat.le_refl _) _)).later hb19) | (replace hii := (hii.later (below_ad _ _)).later hb19) | skip); (first | (replace hip := hip.later hb19) | (replace hip := (hip.later ((Below.refl _ _).alloc (Nat.le_refl _) _)).later hb19) | (replace hip := (hip.later (below_ad _ _)).later hb19) | skip); (first | (replace hik := hik.later hb19) | (replace hik := (hik.later ((Below.refl _ _).alloc (Nat.le_refl _) _)).later hb19) | (replace hik := (hik.later (below_ad _ _)).later hb19) | skip); (first | (replace hrow := (hb19.block _ (Array.getElem?_eq_some_iff.1 hrow).1).trans hrow) | (have hrow := (hb19.block _ (by simp)).trans (Dg.row_new _ #[.int .i64 (i : Int)] 3)) | (have hrow := (hb19.block _ (by simp [World.drew])).trans (row_newd _ #[.int .i64 (i : Int)] 3)) | skip); (first | (have hij : Dg.RdI w19 (.slice s19 (ab j).length c19) (ab j) := hi19) | (have hii : Dg.RdI w19 (.slice s19 (ab i).length c19) (ab i) := hi19)))
                      | (go_simp; go_at_call 18; refine Calls.mono (H18.out (ab j) (i :: ab i) _ _ _ hij hip HAbE.out hljb (by assumption)) ?_; rintro e w18 ⟨rfl, hb18, hS18⟩; (first | (replace hik := hik.later hb18) | (replace hik := (hik.later ((Below.refl _ _).alloc (Nat.le_refl _) _)).later hb18) | (replace hik := (hik.later (below_ad _ _)).later hb18) | skip)))
                  all_goals
                    have g18 := hS18.2
                    have HB18 : Hid (Below W0.heap.size W0 w18) := hS18.1
                    have HI18 : Hid (Dg.RdI w18 (.slice (some ⟨b2, off2, none⟩) L.length c17) L) := hik
                    clear hik hS18 hb18 HS0 hd1 hd2 hd3 hd4 hij hip
                    go_wp2_with fail
                    refine Calls.mono (H20.out w18 j ⟨HB18.out, g18⟩) ?_
                    rintro e w20 ⟨s20, c20, rfl, hi20, hb20, hS20⟩
                    have HB20 : Hid (Below W0.heap.size W0 w20) := hS20.1
                    have HK20 : Hid (Dg.RdI w20 (.slice (some ⟨b2, off2, none⟩) L.length c17) L) := HI18.out.later hb20
                    have HO20 : Hid (Dg.RdI w20 (.slice s20 (ovf j).length c20) (ovf j)) := hi20
                    obtain ⟨O, HOe⟩ : ∃ O, Hid (O = ovf j) := ⟨_, rfl⟩
                    rw [← HOe.out] at HO20 HOj hljo ⊢
                    clear hi20 hb20 hS20 g18 HI18 HOe
                    go_wp2_with fail
                    go_loopw [12] (fun mv wz => ∃ (m : Nat), m ≤ O.length ∧ mv = .int .i64 m ∧ Hid (Below W0.heap.size W0 wz) ∧ Hid (Dg.RdI wz (.slice (some ⟨b2, off2, none⟩) L.length c17) L) ∧ Hid (Dg.RdI wz (.slice s20 O.length c20) O)) (fun mv _ => O.length - (intOf mv).toNat)
                    case atStart => exact ⟨0, Nat.zero_le _, rfl, HB20, HK20, HO20⟩
                    case round =>
                      obtain ⟨m, hm, rfl, HBz, HKz, HOz⟩ := hrel
                      rename World => wz
                      clear HB20 HK20 HO20
                      by_cases hml : m < O.length
                      · obtain ⟨y, hy⟩ : ∃ y, O[m]? = some y := ⟨_, List.getElem?_eq_getElem hml⟩
                        obtain ⟨hyL, hjy⟩ := HOj.out y (List.mem_of_getElem? hy)
                        have hly := HF.out.lo y
                        obtain ⟨ra, rc, he, _, hrr⟩ := HOz.out
                        cases he
                        obtain ⟨b3, off3, rfl, hcy⟩ := hrr m y hy
                        have g3z := Dg.cell_later HBz.out HM5.out
                        have hik := HKz.out.later ((Below.refl _ _).drew)
                        have hio := HOz.out.later ((Below.refl _ _).drew)
                        have HS3 : Hid (Below W0.heap.size W0 wz.drew ∧ wz.drew.cell? ⟨B, 0, none⟩ = some (.slice (some ⟨b1, off1, none⟩) il icap) ∧ wz.drew.cell? ⟨b3, off3 + m, none⟩ = some (.int .i64 (y : Int))) := ⟨HBz.out.drew, g3z, hcy⟩
                        have H20b : Hid (∀ (wx : World) (j : Nat), (Below W0.heap.size W0 wx ∧ wx.cell? ⟨B, 0, none⟩ = some (.slice (some ⟨b1, off1, none⟩) il icap) ∧ wx.cell? ⟨b3, off3 + m, none⟩ = some (.int .i64 (y : Int))) → Calls Tryd.prog 20 #[.agg #[.slice (some ⟨b1, off1, none⟩) il icap], .int .i64 (j : Int)] wx fun e w' => ∃ s c, e = .returned (.slice s (ovf j).length c) ∧ Dg.RdI w' (.slice s (ovf j).length c) (ovf j) ∧ Below wx.heap.size wx w' ∧ (Below W0.heap.size W0 w' ∧ w'.cell? ⟨B, 0, none⟩ = some (.slice (some ⟨b1, off1, none⟩) il icap) ∧ w'.cell? ⟨b3, off3 + m, none⟩ = some (.int .i64 (y : Int)))) := by
                          show ∀ (wx : World) (j : Nat), _
                          intro wx j hS
                          refine Calls.mono (H20.out wx j ⟨hS.1, hS.2.1⟩) ?_
                          rintro e w' ⟨s, c, h1, h2, h3, h4⟩
                          exact ⟨s, c, h1, h2, h3, h4.1, h4.2, Dg.cell_later h3 hS.2.2⟩
                        have hdm : decide (y ∈ L) = true := decide_eq_true hyL
                        have hdj : decide (j ∈ ovf y) = false := decide_eq_false hjy
                        clear hrr hy hyL hjy
                        go_wp2_with fail
                        go_region_held (fun w' => (Below W0.heap.size W0 w' ∧ w'.cell? ⟨B, 0, none⟩ = some (.slice (some ⟨b1, off1, none⟩) il icap) ∧ w'.cell? ⟨b3, off3 + m, none⟩ = some (.int .i64 (y : Int)))) (first | assumption | exact HS3.out)
                          (first
                            | (go_at_call 21; refine Calls.mono (HIn.out _ _ _ _ (by first | exact hi20b | exact hik) (by first | exact hlk | exact hly)) ?_; rintro e w21 ⟨rfl, rfl⟩)
                            | (go_at_call 20; refine Calls.mono (H20b.out _ _ (by assumption)) ?_; rintro e w20b ⟨s20b, c20b, rfl, hi20b, hb20b, hS20b⟩))
                        all_goals
                          have HB20b : Hid (Below W0.heap.size W0 w20b) := hS20b.1
                          have HK20b : Hid (Dg.RdI w20b (.slice (some ⟨b2, off2, none⟩) L.length c17) L) := hik.later hb20b
                          have HO20b : Hid (Dg.RdI w20b (.slice (some ⟨b3, off3, none⟩) O.length c20) O) := hio.later hb20b
                          clear hik hio hS20b hb20b hi20b hdm hdj HS3 H20b
                          go_wp2_with fail
                          go_roundw
                          case rel => exact ⟨m + 1, by omega, by go_num, HB20b, HK20b, HO20b⟩
                          case measure => simp [intOf]; omega
                      · go_wp2_with fail
                        go_roundw
                        case rel => exact ⟨k + 1, by omega, by go_num, HBz, HKz⟩
                        case measure => simp [intOf]; omega
                · go_wp2_with fail
                  go_roundw
                  case rel => exact ⟨p + 1, by omega, by go_num, by rw [HCs.out]; rfl, HBy⟩
                  case measure => simp [intOf]; omega
            · have hpe : p = al := by omega
              have HCn : Hid (c2 i p = c2 (i + 1) 0) := HF.out.cn i p z HZ.out (by rw [HAl.out, hpe])
              subst hpe
              go_wp2_with fail
              go_roundw
              case rel => exact ⟨i + 1, by omega, by go_num, by rw [HCn.out], HBx⟩
              case measure => simp [intOf]; omega
        · have hie : i = il := by omega
          subst hie
          have hca := HF.out.ca
          have hcb := HF.out.cb i 0
          go_wp2_with fail
          refine Calls.mono (H9.out wr ⟨HB.out, g3⟩) ?_
          rintro e w9 ⟨rfl, hS9⟩
          have HB9 : Hid (Below w.heap.size w w9) := HB5.out.trans (hS9.1.mono HB5.out.size)
          clear hS9
          go_wp2_with fail
          go_ret
          exact ⟨rfl, HB9.out⟩
end Go.Proofs.YtephkdocfhajiaaDoor

