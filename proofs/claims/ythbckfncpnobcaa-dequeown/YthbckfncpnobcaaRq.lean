/- The laws' step: a push; few. -/
import Derived.Test.YthbckfncpnobcaaRp
namespace Go.Proofs.Ythbckfncpnobcaa
open Go.RowKit
set_option maxRecDepth 1000000
set_option linter.unusedVariables false

theorem OwI.row {B : Nat} {w : World} {g c : Nat} {l : List Int} (h : OI B w g l.length c l) : ∃ cur, w.heap[g]? = some (.cells cur 3 (0, 0)) ∧ l.length ≤ cur.size := by
  rcases h.2 with ⟨e, _⟩ | ⟨g', cap, cur, e, hb, hg, h1, h2, h3, h4⟩
  · cases e
  · simp only [Value.slice.injEq, Option.some.injEq, Addr.mk.injEq] at e
    obtain ⟨⟨rfl, _, _⟩, _, rfl⟩ := e
    exact ⟨cur, hg, by omega⟩

/-- Whole numbers behind those of a row of one's own; the latter may be none. -/
theorem run_append_is {w : World} {B g n cap : Nat} {l0 l : List Int} {xv : Value} (h : OI B w g n cap l0) (hr : RI w xv l) (hn : n ≤ 1000000) (hl : l.length ≤ 1000000) (hB : B ≤ w.heap.size) :
    ∃ g' c' w', (Builtin.append_ #[33, 33] 33 #[.slice (some ⟨g, 0, none⟩) n cap, xv]).run Try.prog w = .ok (.slice (some ⟨g', 0, none⟩) (n + l.length) c') w' ∧ OI B w' g' (n + l.length) c' (l0 ++ l) ∧ w.grownBy w' (some g) := by
  obtain ⟨i0, hi, hz0, hz1, hz2⟩ := info_parts Try.info3
  obtain ⟨ad, cp, rfl, _, _, hc⟩ := hr
  cases ad with
  | none =>
    have hl0 : l = [] := by
      cases l with
      | nil => rfl
      | cons y l =>
        obtain ⟨b, off, hb, _⟩ := hc 0 (by simp)
        cases hb
    subst hl0
    have hle : n ≤ cap := by
      rcases h.2 with ⟨e, _⟩ | ⟨g', cap', cur, e, hb, hg, h1, _⟩
      · cases e
      · have := (Value.slice.inj e).2.2; omega
    have hst := run_append_room_src (P := Try.prog) w 33 33 33 3 i0 Try.underlying33 hi g 0 n cap (.slice none 0 cp) 0 [] (Src.ofNil w Try.underlying33 cp) (by omega) (fun j hj => by simp at hj) (fun j hj => by simp at hj)
    exact ⟨g, cap, w, hst, by rw [List.append_nil]; exact h, ⟨rfl, rfl, rfl, Nat.le_refl _, fun _ _ _ => rfl⟩⟩
  | some ad =>
    obtain ⟨v', w', r1, r2, r3, r4⟩ := run_append_own (P := Try.prog) w B 33 33 3 i0 (.int .i64 0) 1 8 Try.underlying33 hi hz0 hz1 hz2 rfl (by decide) _ n _ h ad l.length cp (ivs l) (by rw [ivs_len]; omega) (fun j u hj => by
      simp only [ivs, List.getElem?_map, Option.map_eq_some_iff] at hj
      obtain ⟨z, hz, rfl⟩ := hj
      obtain ⟨hjl, hz2⟩ := List.getElem?_eq_some_iff.1 hz
      obtain ⟨b, off, hb, hcell⟩ := hc j hjl
      simp only [Option.some.injEq] at hb
      subst hb
      rw [Go.WideShapes.add_plain, hcell]
      simp [hjl, hz2]) (fun u hu => by
      obtain ⟨z, _, rfl⟩ := List.mem_map.1 hu
      rfl) (by unfold maxLen; omega) (by omega) hB
    rcases r2.2 with ⟨rfl, h5⟩ | ⟨g', cap', cur, rfl, hrest⟩
    · have h6 := r4.1 rfl
      simp at h6
    · refine ⟨g', cap', w', r1, ?_, r3⟩
      have e : ivs (l0 ++ l) = ivs l0 ++ ivs l := by simp [ivs]
      unfold OI
      rw [e]
      exact r2

set_option maxHeartbeats 8000000 in
theorem step_push {N : Nat} {F : Nat → Prop} (w : World) (p : Nat) (rv sv0 : Value) (M : List JbP) (k : Int) (e0 : Jb) (hk1 : k ≠ 1) (hk2 : k ≠ 2) (hk3 : k ≠ 3) (hd : LD N F w p (M.map Prod.fst)) (hr : RJ (Gd N F) w rv M) (hl : M.length ≤ 128) (hs : RS (fun b => b < N) w sv0 e0.s) (hes : e0.s.length ≤ 1000) :
    Calls Try.prog 10 #[.pointer (some ⟨p, 0, none⟩), rv, AV k e0 sv0] w fun e w' => StC N w p (pushP (M.map Prod.fst) e0).2 e w' := by
  obtain ⟨a0, c0, hsv, _, _, hrr0⟩ := id hs.1
  have HNIL : Hid (∀ k c, sv0 = .slice none k c → True) := fun _ _ _ => trivial
  have HSE : Hid (RS (fun b => b < N) w sv0 e0.s) := hs
  have HNN : Hid (N ≤ w.heap.size) := hd.le
  have HD : Hid _ := hd
  have HR : Hid (RJ (Gd N F) w rv M) := hr
  have q1 : (k == 1) = false := beq_eq_false_iff_ne.2 hk1
  have q2 : (k == 2) = false := beq_eq_false_iff_ne.2 hk2
  have q3 : (k == 3) = false := beq_eq_false_iff_ne.2 hk3
  have HLM : Hid (M.length ≤ 128) := hl
  obtain ⟨ra_1, rc, hrv, _⟩ := id hr
  obtain ⟨ei, eu, et, eb, ek, es⟩ := e0
  dsimp only at *
  subst hsv hrv
  have HW3 : Hid (∃ g c w3, (Builtin.append_ #[33, 33] 33 #[.slice (some ⟨w.heap.size + 1 + 1, 0, none⟩) 0 0, .slice a0 es.length c0]).run Try.prog (((w.alloc (.cells #[.int .i64 k, .int .i64 ei, .bool eu, .int .i64 et, .bool eb, .int .i64 ek, .slice a0 es.length c0] 37)).alloc (.cells #[.int .i64 ei, .bool eu, .int .i64 et, .bool eb, .int .i64 ek, .slice a0 es.length c0] 35)).alloc (.cells #[] 3)) = .ok (.slice (some ⟨g, 0, none⟩) es.length c) w3 ∧ OI (w.heap.size + 1 + 1) w3 g es.length c es ∧ Below (w.heap.size + 1 + 1) ((w.alloc (.cells #[.int .i64 k, .int .i64 ei, .bool eu, .int .i64 et, .bool eb, .int .i64 ek, .slice a0 es.length c0] 37)).alloc (.cells #[.int .i64 ei, .bool eu, .int .i64 et, .bool eb, .int .i64 ek, .slice a0 es.length c0] 35)) w3) := by
    have hb3 := bl3 w (.cells #[.int .i64 k, .int .i64 ei, .bool eu, .int .i64 et, .bool eb, .int .i64 ek, .slice a0 es.length c0] 37) (.cells #[.int .i64 ei, .bool eu, .int .i64 et, .bool eb, .int .i64 ek, .slice a0 es.length c0] 35) (.cells #[] 3)
    have hm := OI.made ((w.alloc (.cells #[.int .i64 k, .int .i64 ei, .bool eu, .int .i64 et, .bool eb, .int .i64 ek, .slice a0 es.length c0] 37)).alloc (.cells #[.int .i64 ei, .bool eu, .int .i64 et, .bool eb, .int .i64 ek, .slice a0 es.length c0] 35))
    have hz : ((w.alloc (.cells #[.int .i64 k, .int .i64 ei, .bool eu, .int .i64 et, .bool eb, .int .i64 ek, .slice a0 es.length c0] 37)).alloc (.cells #[.int .i64 ei, .bool eu, .int .i64 et, .bool eb, .int .i64 ek, .slice a0 es.length c0] 35)).heap.size = w.heap.size + 1 + 1 := by simp
    rw [hz] at hm
    obtain ⟨g, c, w3, r1, r2, r3⟩ := run_append_is hm (hs.1.later hb3) (by omega) (by omega) (by simp)
    rw [Nat.zero_add] at r1 r2
    rw [List.nil_append] at r2
    refine ⟨g, c, w3, r1, r2, ?_⟩
    have hb1 := bl1 ((w.alloc (.cells #[.int .i64 k, .int .i64 ei, .bool eu, .int .i64 et, .bool eb, .int .i64 ek, .slice a0 es.length c0] 37)).alloc (.cells #[.int .i64 ei, .bool eu, .int .i64 et, .bool eb, .int .i64 ek, .slice a0 es.length c0] 35)) (.cells #[] 3)
    rw [hz] at hb1
    exact Below.grown hb1 r3 (by simp) (fun q hq => by cases hq; exact Nat.le_refl _)
  obtain ⟨sg, sc, w3, hrun, ho3, hb3⟩ := HW3.out
  have HO3 : Hid _ := ho3
  have hbw2 := bl2 w (.cells #[.int .i64 k, .int .i64 ei, .bool eu, .int .i64 et, .bool eb, .int .i64 ek, .slice a0 es.length c0] 37) (.cells #[.int .i64 ei, .bool eu, .int .i64 et, .bool eb, .int .i64 ek, .slice a0 es.length c0] 35)
  have ra := row_new1 w (.cells #[.int .i64 k, .int .i64 ei, .bool eu, .int .i64 et, .bool eb, .int .i64 ek, .slice a0 es.length c0] 37) (.cells #[.int .i64 ei, .bool eu, .int .i64 et, .bool eb, .int .i64 ek, .slice a0 es.length c0] 35)
  have rb := row_new2 w (.cells #[.int .i64 k, .int .i64 ei, .bool eu, .int .i64 et, .bool eb, .int .i64 ek, .slice a0 es.length c0] 37) (.cells #[.int .i64 ei, .bool eu, .int .i64 et, .bool eb, .int .i64 ek, .slice a0 es.length c0] 35)
  have ra3 := (hb3.block w.heap.size (by omega)).trans ra
  have rb3 := (hb3.block (w.heap.size + 1) (by omega)).trans rb
  have HBW3 : Hid (Below w.heap.size w w3) := hbw2.trans (hb3.mono (by omega))
  have RA3 : Hid _ := ra3
  have RB3 : Hid _ := rb3
  have sglt := ho3.lt
  have x0 : w3.cell? ⟨w.heap.size + 1, 0, none⟩ = some (.int .i64 ei) := (cell_row rb3 0).trans rfl
  have x1 : w3.cell? ⟨w.heap.size + 1, 1, none⟩ = some (.bool eu) := (cell_row rb3 1).trans rfl
  have x2 : w3.cell? ⟨w.heap.size + 1, 2, none⟩ = some (.int .i64 et) := (cell_row rb3 2).trans rfl
  have x3 : w3.cell? ⟨w.heap.size + 1, 3, none⟩ = some (.bool eb) := (cell_row rb3 3).trans rfl
  have x4 : w3.cell? ⟨w.heap.size + 1, 4, none⟩ = some (.int .i64 ek) := (cell_row rb3 4).trans rfl
  have x5 : w3.cell? ⟨w.heap.size + 1, 5, none⟩ = some (.slice a0 es.length c0) := (cell_row rb3 5).trans rfl
  have xf := froz_row rb3
  have k34 : Kp (fun b => b = w.heap.size + 1) w3 (w3.setCell ⟨w.heap.size + 1, 5, none⟩ (.slice (some ⟨sg, 0, none⟩) es.length sc)) := (Kp.refl _ _).set _ _ rfl
  have HB4 : Hid (Below w.heap.size w (w3.setCell ⟨w.heap.size + 1, 5, none⟩ (.slice (some ⟨sg, 0, none⟩) es.length sc))) := HBW3.out.trans (k34.below HBW3.out.size (fun b hb => by omega))
  have RA4 : Hid _ := k34.row ra3 (show ¬ w.heap.size = w.heap.size + 1 by omega)
  have RB4 : Hid ((w3.setCell ⟨w.heap.size + 1, 5, none⟩ (.slice (some ⟨sg, 0, none⟩) es.length sc)).heap[w.heap.size + 1]? = some (.cells #[.int .i64 ei, .bool eu, .int .i64 et, .bool eb, .int .i64 ek, .slice (some ⟨sg, 0, none⟩) es.length sc] 35 (0, 0))) := row_set rb3 5 _
  have RI4 : Hid (RI (w3.setCell ⟨w.heap.size + 1, 5, none⟩ (.slice (some ⟨sg, 0, none⟩) es.length sc)) (.slice (some ⟨sg, 0, none⟩) es.length sc) es) := (ho3.ri.2).kept k34 (fun _ a n c he => by cases he; show ¬ sg = _; omega)
  have HD1 : Hid _ := HD.out.guard HB4.out
  have HPU : Hid _ := l_push HD1.out ⟨ei, eu, et, eb, ek, es⟩ (.slice (some ⟨sg, 0, none⟩) es.length sc) (by rw [List.length_map]; omega) RI4.out (by show es.length ≤ _; omega)
  obtain ⟨cur, hcur, hcl⟩ := OwI.row ho3
  have RC4 : Hid _ := k34.row hcur (show ¬ sg = w.heap.size + 1 by omega)
  have HCL : Hid (es.length ≤ cur.size) := hcl
  have HSZ4 : Hid (w3.heap.size ≤ (w3.setCell ⟨w.heap.size + 1, 5, none⟩ (.slice (some ⟨sg, 0, none⟩) es.length sc)).heap.size) := k34.size
  unfold JV at HPU
  dsimp only at HPU
  unfold AV
  dsimp only
  have HSG : Hid (w.heap.size + 1 + 1 ≤ sg ∧ sg < w3.heap.size) := sglt
  clear HW3 hs hrr0 hd hr hl ho3 hb3 hbw2 ra rb ra3 rb3 hk1 hk2 hk3 k34 hcur hcl sglt
  go_enter Try.func10, Try.ntmps10
  go_wp2_with (at_builtin; refine Lib.wpList_append_run _ rfl _ _ _ _ rfl _ _ rfl rfl _ _ hrun ?_)
  clear x0 x1 x2 x3 x4 x5 xf hrun
  refine Calls.mono HPU.out ?_
  rintro e w5 ⟨rfl, hd5, hk5⟩
  generalize w3.setCell ⟨w.heap.size + 1, 5, none⟩ (.slice (some ⟨sg, 0, none⟩) es.length sc) = w4 at *
  have hfl : ∀ b, w.heap.size ≤ b → b < w3.heap.size → ¬ Mv N (fun b => F b ∨ w.heap.size ≤ b ∧ b < w4.heap.size) b := fun b h1 h2 hm => hm.2 (.inr ⟨h1, by have := HSZ4.out; omega⟩)
  have hsg := HSG.out
  have hwa := row_lt RA4.out
  have RA5 : Hid _ := hk5.row RA4.out (hfl _ (Nat.le_refl _) (by omega))
  have RB5 : Hid _ := hk5.row RB4.out (hfl _ (by omega) (by omega))
  have RC5 : Hid _ := hk5.row RC4.out (hfl _ (by omega) hsg.2)
  have HD5 : Hid _ := hd5
  have HK5 : Hid _ := hk5
  clear hd5 hk5 HPU hfl hwa
  obtain ⟨n, hn⟩ : ∃ n, es.length = n := ⟨_, rfl⟩
  have HES : Hid (es.length = n) := hn
  have hn2 : n ≤ 1000 := by omega
  rw [hn] at RB5 HCL
  clear hn
  go_wp2_with fail
  go_loopw [22] (fun s22 wr => ∃ j : Nat, s22 = .int .i64 j ∧ j ≤ n ∧ Hid (Kp (fun b => b = sg) w5 wr) ∧ Hid (∃ cur', wr.heap[sg]? = some (.cells cur' 3 (0, 0)) ∧ n ≤ cur'.size)) (fun s22 _ => n - (intOf s22).toNat)
  case atStart => exact ⟨0, rfl, Nat.zero_le _, Kp.refl _ _, _, RC5.out, HCL.out⟩
  case round =>
    obtain ⟨j, rfl, hj, HKw, HCw⟩ := hrel
    rename World => wr
    by_cases hlt : j < n
    · obtain ⟨cur', hc', hcl'⟩ := HCw.out
      have cB : wr.cell? ⟨w.heap.size + 1, 5, none⟩ = some (.slice (some ⟨sg, 0, none⟩) n sc) := (cell_row (HKw.out.row RB5.out (show ¬ w.heap.size + 1 = sg by omega)) 5).trans rfl
      obtain ⟨u, hu⟩ : ∃ u, cur'[j]? = some u := ⟨_, Array.getElem?_eq_getElem (by omega)⟩
      have cS : wr.cell? ⟨sg, j, none⟩ = some u := (cell_row hc' j).trans hu
      have cF := froz_row hc' j
      have hji : (j : Int) < (n : Int) := by omega
      have HC2 : Hid (∃ cur', (wr.setCell ⟨sg, j, none⟩ (.int .i64 (-5))).heap[sg]? = some (.cells cur' 3 (0, 0)) ∧ n ≤ cur'.size) := ⟨_, row_set hc' j _, by simpa using hcl'⟩
      have HK2 : Hid (Kp (fun b => b = sg) w5 (wr.setCell ⟨sg, j, none⟩ (.int .i64 (-5)))) := HKw.out.set _ _ rfl
      clear hc' hcl' hu HCw HKw
      go_wp2_with fail
      go_roundw
      case rel => exact ⟨j + 1, by go_num, by omega, HK2, HC2⟩
      case measure => simp [intOf]; omega
    · have hjn : j = n := by omega
      subst hjn
      have cB : wr.cell? ⟨w.heap.size + 1, 5, none⟩ = some (.slice (some ⟨sg, 0, none⟩) j sc) := (cell_row (HKw.out.row RB5.out (show ¬ w.heap.size + 1 = sg by omega)) 5).trans rfl
      have ra := HKw.out.row RA5.out (show ¬ w.heap.size = sg by omega)
      have a1 : wr.cell? ⟨w.heap.size, 1, none⟩ = some (.int .i64 ei) := (cell_row ra 1).trans rfl
      have a2 : wr.cell? ⟨w.heap.size, 2, none⟩ = some (.bool eu) := (cell_row ra 2).trans rfl
      have a3 : wr.cell? ⟨w.heap.size, 3, none⟩ = some (.int .i64 et) := (cell_row ra 3).trans rfl
      have a4 : wr.cell? ⟨w.heap.size, 4, none⟩ = some (.bool eb) := (cell_row ra 4).trans rfl
      have a5 : wr.cell? ⟨w.heap.size, 5, none⟩ = some (.int .i64 ek) := (cell_row ra 5).trans rfl
      have a6 : wr.cell? ⟨w.heap.size, 6, none⟩ = some (.slice a0 es.length c0) := (cell_row ra 6).trans rfl
      have hN := HNN.out
      have hfl := HD.out.fl
      have HRw : RJ (Gd N F) wr (.slice ra_1 M.length rc) M := ((HR.out.later HB4.out).kept HK5.out (fun b hb hm => by
        rcases hb with hb | hb
        · have := hm.1; omega
        · exact hm.2 (.inl hb))).kept HKw.out (fun b hb hm => by
        have hm2 : b = sg := hm
        rcases hb with hb | hb
        · omega
        · have := hfl b hb; omega)
      have HSw : RS (fun b => b < N) wr (.slice a0 es.length c0) es := ((HSE.out.later HB4.out).kept HK5.out (fun b hb hm => by have := hm.1; omega)).kept HKw.out (fun b hb hm => by have hm2 : b = sg := hm; omega)
      have HDw : Hid _ := HD5.out.kept HKw.out (fun b hb hb2 => .inr (by have hb3 : b = sg := hb; have := HSZ4.out; omega))
      have HRP : Hid _ := rpush_any (fun b => Gd N F b ∨ wr.heap.size ≤ b) wr (.slice ra_1 M.length rc) M ⟨ei, eu, et, eb, ek, es⟩ (.slice a0 es.length c0) (HRw.mono (fun b _ hb => .inl hb)) (HSw.mono (fun b _ hb => .inl (.inl hb))) (fun b hb => .inr hb) (by have := HLM.out; omega)
      unfold JV at HRP
      dsimp only at HRP
      have HBw : Hid (Below N w wr) := (HB4.out.mono HNN.out).trans ((Mv.below HK5.out (Nat.le_trans HNN.out HB4.out.size)).trans (HKw.out.below (Nat.le_trans HNN.out (Nat.le_trans HB4.out.size HK5.out.size)) (fun b hb => by have hb3 : b = sg := hb; omega)))
      have HWS : Hid (w.heap.size ≤ wr.heap.size) := HBw.out.size
      obtain ⟨zi, hzi⟩ : ∃ z, (pushP (M.map Prod.fst) ⟨ei, eu, et, eb, ek, es⟩).1 = z := ⟨_, rfl⟩
      have HZI : Hid _ := hzi
      rw [hzi] at HRP
      simp only [hzi]
      clear ra HRw HSw hN hfl HCw hzi
      go_wp2_with fail
      refine Calls.mono HRP.out ?_
      rintro e w7 ⟨rv', L', rfl, z1, z2, z3⟩
      obtain ⟨qa, qc, rfl, _⟩ := id z1
      have HZ1 : Hid (RJ (fun b => Gd N F b ∨ wr.heap.size ≤ b) w7 (.slice qa L'.length qc) L') := z1
      have HZ2 : Hid _ := z2
      have HZ3 : Hid (Below wr.heap.size wr w7) := z3
      have HD7 : Hid _ := HDw.out.guard z3
      clear z1 z2 z3 HRP
      go_wp2_with fail
      go_ret2
      refine ⟨_, qa, _, qc, L', rfl, HD7.out, HZ1.out.mono (fun b hb hb1 => ?_), HZ2.out, HBw.out.trans (HZ3.out.mono (Nat.le_trans HNN.out HWS.out))⟩
      rcases hb1 with (hb1 | hb1) | hb1
      · exact .inl hb1
      · exact .inr (.inl (.inl hb1))
      · exact .inr (.inr ⟨hb1, hb⟩)
end Go.Proofs.Ythbckfncpnobcaa
