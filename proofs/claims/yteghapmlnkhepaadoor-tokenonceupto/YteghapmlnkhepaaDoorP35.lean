/- Texts of the seat, packed: Cg Ys Yt Yw. -/
import Derived.Test.YteghapmlnkhepaaDoorP34
import Derived.Test.YteghapmlnkhepaaDoorP30
import Derived.Test.YteghapmlnkhepaaDoorP32
import Derived.Test.YteghapmlnkhepaaDoorP31
import Derived.Laws.Rows
import Derived.Test.YteghapmlnkhepaaDoorP07
import Derived.Deep.RegionHeldLaw
/- The program's New. -/
namespace Go.Proofs.YteghapmlnkhepaaDoor.Tk
open Go.RowKit Go.Shelf Go.Proofs.YteghapmlnkhepaaDoor.St Go.Proofs.YteghapmlnkhepaaDoor.Sx
set_option maxRecDepth 1000000
set_option linter.unusedVariables false

theorem base_few {its : List It} {p : Pl} (hI : Itm its p) : ∀ k, base p k ≤ 4 * k
  | 0 => Nat.le_refl _
  | k + 1 => by
    have h1 := base_few hI k
    have h2 := hI.few k
    show base p k + p.alts k ≤ _
    omega

theorem tkL_few {its : List It} {p : Pl} (hI : Itm its p) {k a : Nat} (hk : k ≤ 64) (ha : a ≤ 4) : (tkL p k a).length ≤ 1000 := by
  have := base_few hI k
  rw [tkL_len]
  omega

theorem ptrZ_wi {p : Pl} {bs : List Nat} {k : Nat} (hp : p.Ok) (hlen : bs.length = (tkL p k 0).length) (hk : k < p.n) : ptrZ bs (ofV p (k : Int) : Int) = wiV p bs k := by
  unfold ptrZ wiV ofV
  by_cases h0 : k = 0
  · subst h0
    rw [if_pos rfl]
    rw [if_neg (by intro h; simp at h)]
  · have h1 := tk_ahead hp (a := 0) (Nat.le_refl k) hk h0
    have h2 : 1 ≤ tk p (p.inn k) (p.alt k) := by unfold tk; omega
    rw [if_neg h0, if_pos (show 1 ≤ (k : Int) ∧ (k : Int) < (p.n : Int) by omega), Int.toNat_natCast, if_pos (by omega)]
    congr 1

theorem wi_ptr (p : Pl) (bs : List Nat) (k : Nat) : ∃ z, wiV p bs k = .pointer z := by
  unfold wiV
  split
  · exact ⟨_, rfl⟩
  · exact ⟨_, rfl⟩

/-- What New answers. -/
def NewC (its : List It) (w : World) (e : Ending) (w' : World) : Prop := Below w.heap.size w w' ∧ match sagaP its with
  | none => e = .returned (.tuple #[.pointer none, .int .i64 2])
  | some _ => ∃ (n0 tb : Nat) (sv : Value) (bs : List Nat) (S : Nat → Prop), e = .returned (.tuple #[.pointer (some ⟨tb, 0, none⟩), .int .i64 0]) ∧ w.heap.size ≤ n0 ∧ TT n0 w' tb sv bs its (plOf its) (toks (plOf its)) (fun _ => false) S ∧ ∀ k, S k → n0 ≤ k

theorem NewC.bad {its : List It} {w w' : World} (h : sagaP its = none) (hb : Below w.heap.size w w') : NewC its w (.returned (.tuple #[.pointer none, .int .i64 2])) w' := by
  unfold NewC
  rw [h]
  exact ⟨hb, rfl⟩

theorem NewC.ok {its : List It} {w w' : World} {q : By × Tr} {n0 tb : Nat} {sv : Value} {bs : List Nat} {S : Nat → Prop} (h : sagaP its = some q) (hb : Below w.heap.size w w') (h0 : w.heap.size ≤ n0) (hT : TT n0 w' tb sv bs its (plOf its) (toks (plOf its)) (fun _ => false) S) (hS : ∀ k, S k → n0 ≤ k) : NewC its w (.returned (.tuple #[.pointer (some ⟨tb, 0, none⟩), .int .i64 0])) w' := by
  unfold NewC
  rw [h]
  exact ⟨hb, n0, tb, sv, bs, S, rfl, h0, hT, hS⟩

/-- What is known in the loops. -/
structure NwS (its : List It) (p : Pl) (n0 : Nat) (w2 W : World) (tb k a : Nat) (sv : Value) (bs : List Nat) (S : Nat → Prop) : Prop where
  t : TT n0 W tb sv bs its p (tkL p k a) (fun _ => false) S
  s : ∀ g, S g → n0 ≤ g
  b : Below n0 w2 W

theorem NwS.later {its : List It} {p : Pl} {n0 : Nat} {w2 W W' : World} {tb k a : Nat} {sv : Value} {bs : List Nat} {S : Nat → Prop} (h : NwS its p n0 w2 W tb k a sv bs S) (hn : n0 ≤ w2.heap.size) (hb : Below W.heap.size W W') : NwS its p n0 w2 W' tb k a sv bs S :=
  ⟨h.t.later hb, h.s, h.b.trans (hb.mono (Nat.le_trans hn h.b.size))⟩

set_option maxHeartbeats 8000000 in
theorem New_any (its : List It) (v : Value) (w : World) (hIt : RdIt w v its) (hF : FairI its) (hT : Dg.Tab w) :
    Calls Tryd.prog 8 #[.agg #[v]] w fun e w' => NewC its w e w' := by
  have HIt : Hid (RdIt w v its) := hIt
  have hb1 : Below w.heap.size w (w.alloc (.cells #[v] 28)) := (Below.refl _ w).alloc (Nat.le_refl _) _
  have r1 := Dg.row_new w #[v] 28
  have M : Hid _ := See_any its v _ (hIt.later hb1) hF (hT.later hb1)
  clear hT
  obtain ⟨ia, icap, rfl, hic, hir⟩ := hIt
  have g0 := (Dg.cell_row r1 0).trans rfl
  go_enter Tryd.func8, Tryd.ntmps8
  go_wp2_with fail
  generalize w.alloc (.cells #[.slice ia its.length icap] 28) = w1 at *
  have hz1 : w.heap.size < w1.heap.size := (Array.getElem?_eq_some_iff.1 r1).1
  refine Calls.mono M.out ?_
  rintro e w2 ⟨hb2, he⟩
  clear M g0
  have hbl2 := hb1.trans (hb2.mono hb1.size)
  have s1 := (hb2.block _ hz1).trans r1
  have hz2 := Nat.lt_of_lt_of_le hz1 hb2.size
  clear r1 hz1 hb1 hb2
  cases hP : sagaP its with
  | none =>
    rw [hP] at he
    have he2 : e = .returned (.tuple #[.pointer none, .int .i64 2]) := he
    subst he2
    have HP : Hid _ := hP
    clear hP he
    go_wp2_with fail
    go_ret2
    exact NewC.bad HP.out hbl2
  | some q =>
    rw [hP] at he
    obtain ⟨vb, W, o, rfl, hvb, hW, hVw⟩ := he
    have HP : Hid _ := hP
    have HI : Hid _ := itm_of hP
    have h64 := (right_facts hP).1
    have HVW : Hid _ := hVw
    clear hP hW hVw hvb
    obtain ⟨il, HIL⟩ : ∃ il, Hid (its.length = il) := ⟨_, rfl⟩
    have HPN : Hid ((plOf its).n = il) := HI.out.n.trans HIL.out
    have HIR : Hid _ := hir
    have hil : il ≤ 64 := by rw [← HIL.out]; exact h64
    have g0 := (Dg.cell_row (Dg.row_alloc s1 (.cells #[.slice none 0 0] 47)) 0).trans rfl
    obtain ⟨p, HPL⟩ : ∃ p, Hid (plOf its = p) := ⟨_, rfl⟩
    rw [HPL.out] at HI HPN
    have HB2 : Hid _ := hbl2
    obtain ⟨tb, htb⟩ : ∃ tb, w2.heap.size = tb := ⟨_, rfl⟩
    have HN0 : Hid (w2.heap.size = tb) := htb
    have hwn : w.heap.size < tb := by rw [← htb]; exact hz2
    have HS0 : Hid (NwS its p tb w2 (w2.alloc (.cells #[.slice none 0 0] 47)) tb 0 0 (.slice none 0 0) [] (fun _ => False)) := by
      subst htb
      exact ⟨⟨Dg.row_new w2 _ 47, World.ownsRow_nil _ _ _ _, rfl, fun i x b h => by simp [tkL_zero] at h, fun i j b h => by simp at h, fun k h => h.elim, Nat.le_refl _, fun b h => by simp at h⟩, fun g h => h.elim, (Below.refl _ w2).alloc (Nat.le_refl _) _⟩
    rw [HIL.out] at hic g0 s1
    rw [HIL.out]
    clear hir h64 hbl2
    go_wp2_with fail
    generalize w2.alloc (.cells #[.slice none 0 0] 47) = w3 at *
    clear g0 htb hz2 s1
    go_loopw [25] (fun kv wr => ∃ (k : Nat) (sv : Value) (bs : List Nat) (S : Nat → Prop), k ≤ il ∧ kv = .int .i64 k ∧ Hid (NwS its p tb w2 wr tb k 0 sv bs S)) (fun kv _ => il - (intOf kv).toNat)
    case atStart => exact ⟨0, _, _, _, Nat.zero_le _, rfl, HS0⟩
    case round =>
      obtain ⟨k, sv, bs, S, hk, rfl, HS⟩ := hrel
      rename World => w4
      clear HS0
      by_cases hlt : k < il
      rotate_left
      · have hke : k = il := by omega
        have hlt1 : ¬ (k : Int) < (il : Int) := by omega
        go_wp2_with fail
        go_ret2
        have ht := HS.out.t
        rw [show tkL p k 0 = toks (plOf its) by rw [HPL.out, toks_eq, HPN.out, hke], ← HPL.out] at ht
        exact NewC.ok HP.out (HB2.out.trans (HS.out.b.mono (by omega))) (by omega) ht HS.out.s
      · obtain ⟨y, hy⟩ : ∃ y, its[k]? = some y := ⟨_, List.getElem?_eq_getElem (by rw [HIL.out]; exact hlt)⟩
        obtain ⟨b1, off1, zav, zam, zac, rfl, k0, k1, k2, k3, k4, k5, k6, k7, _⟩ := HIR.out k y hy
        have hbw : Below w.heap.size w w4 := HB2.out.trans (HS.out.b.mono (by omega))
        have j0 := Dg.cell_later hbw k0
        have j1 := Dg.cell_later hbw k1
        have j2 := Dg.cell_later hbw k2
        have j3 := Dg.cell_later hbw k3
        have j4 := Dg.cell_later hbw k4
        have j5 := Dg.cell_later hbw k5
        have j6 := Dg.cell_later hbw k6
        have j7 := Dg.cell_later hbw k7
        have hkk : (k : Int) < (il : Int) := by omega
        have HAL : Hid (y.alts = (p.alts k : Int)) := HI.out.alts k y hy
        clear k0 k1 k2 k3 k4 k5 k6 k7 hbw hy
        go_wp2_with fail
        have rn := Dg.row_new w4 #[.string ⟨y.name.toArray⟩, .string ⟨y.undo.toArray⟩, .bool y.sub, .bool y.vital, .int .i64 y.alts, .int .i64 y.inn, .int .i64 y.alt, .slice zav zam zac] 40
        have HS5 : Hid _ := HS.out.later (Nat.le_of_eq HN0.out.symm) ((Below.refl w4.heap.size w4).alloc (Nat.le_refl _) (.cells #[.string ⟨y.name.toArray⟩, .string ⟨y.undo.toArray⟩, .bool y.sub, .bool y.vital, .int .i64 y.alts, .int .i64 y.inn, .int .i64 y.alt, .slice zav zam zac] 40))
        generalize w4.alloc (.cells #[.string ⟨y.name.toArray⟩, .string ⟨y.undo.toArray⟩, .bool y.sub, .bool y.vital, .int .i64 y.alts, .int .i64 y.inn, .int .i64 y.alt, .slice zav zam zac] 40) = w5 at *
        clear j0 j1 j2 j3 j4 j5 j6 j7 HS
        obtain ⟨xi, hxi⟩ : ∃ xi, w4.heap.size = xi := ⟨_, rfl⟩
        rw [hxi] at rn ⊢
        clear hxi
        have HRN : Hid _ := rn
        have HOF : Hid _ := Of_any HS5.out.t (tkL_few HI.out (by omega) (by omega)) (by rw [HIL.out]; exact hil) (k : Int)
        rw [of_find HI.out k 0 (by have := HPN.out; omega) (fun _ => rfl) (k : Int) (.inl (Int.le_refl _))] at HOF
        clear rn
        refine Calls.mono HOF.out ?_
        rintro e w6 ⟨rfl, hb6⟩
        have HS6 : Hid _ := HS5.out.later (Nat.le_of_eq HN0.out.symm) hb6
        have HRN6 : Hid _ := (hb6.block _ (row_lt HRN.out)).trans HRN.out
        have HAT : Hid _ := at_any HS6.out.t (ofV p (k : Int) : Int) (tkL_few HI.out (by omega) (by omega))
        rw [ptrZ_wi HI.out.ok HS6.out.t.len (by rw [HPN.out]; exact hlt)] at HAT
        obtain ⟨z, hz⟩ := wi_ptr p bs k
        have HZ : Hid _ := hz
        rw [hz] at HAT
        clear HOF hb6 HS5 HRN hz
        go_wp2_with fail
        refine Calls.mono HAT.out ?_
        rintro e w7 ⟨rfl, rfl⟩
        have c4 := (Dg.cell_row HRN6.out 4).trans rfl
        rw [HAL.out] at c4
        obtain ⟨al, HAL2⟩ : ∃ al, Hid (p.alts k = al) := ⟨_, rfl⟩
        have hal : al ≤ 4 := by rw [← HAL2.out]; exact HI.out.few k
        rw [HAL2.out] at c4
        clear HAT HRN6 HAL
        go_wp2_with fail
        clear c4
        go_loopw [37] (fun jv wj => ∃ (a : Nat) (sv : Value) (bs : List Nat) (S : Nat → Prop), a ≤ al ∧ jv = .int .i64 a ∧ Hid (NwS its p tb w2 wj tb k a sv bs S) ∧ Hid (wiV p bs k = .pointer z)) (fun jv _ => al - (intOf jv).toNat)
        case atStart => exact ⟨0, _, _, _, Nat.zero_le _, rfl, HS6, HZ⟩
        case round =>
          obtain ⟨a, sv, bs, S, ha, rfl, HS, HZ2⟩ := hrel
          rename World => w8
          clear HS6 HZ
          by_cases hat : a < al
          rotate_left
          · have hae : a = al := by omega
            have hlt2 : ¬ (a : Int) < (al : Int) := by omega
            have HS9 : Hid (NwS its p tb w2 w8 tb (k + 1) 0 sv bs S) := by
              have h9 := HS.out.t
              rw [show tkL p k a = tkL p (k + 1) 0 by rw [tkL_next, HAL2.out, hae]] at h9
              exact ⟨h9, HS.out.s, HS.out.b⟩
            go_wp2_with fail
            go_roundw
            case rel => exact ⟨k + 1, _, _, _, by omega, by go_num, HS9⟩
            case measure => simp [intOf] <;> omega
          · have haa : (a : Int) < (al : Int) := by omega
            have HKD : Hid _ := Kids_all vb (k : Int) (a : Int) its (Dg.reachL W o) w8 (VwAt.later HVW.out (by rw [HN0.out]; exact HS.out.b)) (by rw [HIL.out]; omega)
            go_wp2_with fail
            refine Calls.mono HKD.out ?_
            rintro e w9 ⟨hb9, u, rfl, hu, hug⟩
            have HS9 : Hid _ := HS.out.later (Nat.le_of_eq HN0.out.symm) hb9
            have hug2 : ∀ g, u.ownBlock = some g → g < w9.heap.size ∧ g ∉ bs ∧ g ≠ tb ∧ sv.ownBlock ≠ some g := fun g hg => by
              have h1 := hug g hg
              refine ⟨h1.2, fun hm => ?_, fun e => ?_, fun e => ?_⟩
              · have := HS.out.t.lt hm; omega
              · have := row_lt HS.out.t.box; omega
              · have := (own_exists HS.out.t.own g e).2; omega
            have hug3 : ∀ g, u.ownBlock = some g → tb ≤ g := fun g hg => by have h1 := hug g hg; have h2 := row_lt HS.out.t.box; omega
            obtain ⟨ua, uc, rfl, _⟩ := id hu
            obtain ⟨um, HUM⟩ : ∃ um, Hid (((kidsL its (k : Int) (a : Int)).map fun (x : Nat) => (x : Int)).length = um) := ⟨_, rfl⟩
            rw [HUM.out] at hu hug2 hug3
            rw [HUM.out]
            have HU : Hid (RdZ w9 (.slice ua um uc) (kidV its (k, a))) := hu
            have HUG2 : Hid _ := hug2
            have HUG3 : Hid _ := hug3
            clear hu hug hug2 hug3 hb9 HKD HS
            go_wp2_with fail
            have hbA : Below w9.heap.size w9 (w9.alloc (.cells #[.int .i64 (k : Int), .int .i64 (a : Int), .slice ua um uc] 59)) := (Below.refl _ w9).alloc (Nat.le_refl _) _
            have rx := Dg.row_new w9 #[.int .i64 (k : Int), .int .i64 (a : Int), .slice ua um uc] 59
            have HSA : Hid _ := HS9.out.later (Nat.le_of_eq HN0.out.symm) hbA.drew
            have HUA : Hid _ := RdZ.later HU.out hbA.drew
            have HUG4 : Hid (∀ g, (Value.slice ua um uc).ownBlock = some g → g < (w9.alloc (.cells #[.int .i64 (k : Int), .int .i64 (a : Int), .slice ua um uc] 59)).drew.heap.size ∧ g ∉ bs ∧ g ≠ tb ∧ sv.ownBlock ≠ some g) := fun g hg => by
              obtain ⟨h1, h2⟩ := HUG2.out g hg
              exact ⟨Nat.lt_of_lt_of_le h1 hbA.drew.size, h2⟩
            obtain ⟨xb, hxb⟩ : ∃ xb, w9.heap.size = xb := ⟨_, rfl⟩
            rw [hxb] at rx ⊢
            generalize w9.alloc (.cells #[.int .i64 (k : Int), .int .i64 (a : Int), .slice ua um uc] 59) = w10 at *
            clear hxb hbA HUG2 HS9
            have hS0 : w10.drew.heap[xb]? = some (.cells #[.int .i64 (k : Int), .int .i64 (a : Int), .slice ua um uc] 59 (0, 0)) := rx
            have c0 := HSA.out.t.c0
            obtain ⟨sa, sm, sc, rfl⟩ : ∃ sa sm sc, sv = .slice sa sm sc := by obtain ⟨sa, sc, h9⟩ := HSA.out.t.sl; exact ⟨sa, _, sc, h9⟩
            have hn2 : tb ≤ w10.drew.heap.size := by have := row_lt HSA.out.t.box; omega
            obtain ⟨pa, pm, pc, W5, hr5, htb5, hx5, hx6, hb6, hT6⟩ := HSA.out.t.push HI.out.ok (by rw [HPN.out]; exact hlt) hn2 (tkL_few HI.out (by omega) (by omega)) HUA.out HUG4.out rfl hS0
            rw [HZ2.out] at hr5
            have HZ3 : Hid (wiV p (bs ++ [w10.drew.heap.size]) k = .pointer z) := (wi_snoc (fun h0 => by rw [HSA.out.t.len]; exact tk_ahead HI.out.ok (Nat.le_refl k) (by rw [HPN.out]; exact hlt) h0)).trans HZ2.out
            have HSE : Hid (NwS its p tb w2 (W5.setCell ⟨tb, 0, none⟩ (.slice pa pm pc)) tb k (a + 1) (.slice pa pm pc) (bs ++ [w10.drew.heap.size]) (fun g => S g ∨ (Value.slice ua um uc).ownBlock = some g)) := ⟨hT6, fun g h9 => by rcases h9 with h9 | h9; exact HSA.out.s g h9; exact HUG3.out g h9, HSA.out.b.trans hb6⟩
            have f5 := Dg.froz_row htb5 0
            have d5 := (Dg.cell_row htb5 0).trans rfl
            have t1 := Dg.cell_later ((Below.refl w10.drew.heap.size w10.drew).alloc (Nat.le_refl _) (.cells #[.int .i64 (k : Int), .int .i64 (a : Int), .slice ua um uc, .pointer z, .bool false] 61)) c0
            have t2 := Dg.cell_later ((Below.refl _ (w10.drew.alloc (.cells #[.int .i64 (k : Int), .int .i64 (a : Int), .slice ua um uc, .pointer z, .bool false] 61))).alloc (Nat.le_refl _) (.cells #[.pointer (some ⟨w10.drew.heap.size, 0, none⟩)] 55)) t1
            have hr5' : (Builtin.append_ #[45, 45] 45 #[.slice sa sm sc, .slice (some ⟨w10.drew.heap.size + 1, 0, none⟩) 1 1]).run Tryd.prog ((w10.drew.alloc (.cells #[.int .i64 (k : Int), .int .i64 (a : Int), .slice ua um uc, .pointer z, .bool false] 61)).alloc (.cells #[.pointer (some ⟨w10.drew.heap.size, 0, none⟩)] 55)) = .ok (.slice pa pm pc) W5 := hr5
            clear hr5 hT6 hb6 HSA HUA HUG4 HUG3 HU hn2 htb5 rx
            refine wp_region_held (S := fun w' => w'.heap[xb]? = some (.cells #[.int .i64 (k : Int), .int .i64 (a : Int), .slice ua um uc] 59 (0, 0))) (by kernel_rfl) ?_
            simp only [List.size_toArray, List.length_cons, List.length_nil, Nat.reduceAdd, Array.replicate_succ, Array.replicate_zero, List.push_toArray, List.nil_append, List.cons_append]
            show wpAnyH Tryd.prog _ _ _ _ _ _ _ w10.drew
            generalize w10.drew = wd at *
            refine tK 0 47 (.pointer (some ⟨tb, 0, none⟩)) 13 rfl hS0 ?_
            refine tK 1 48 (.pointer (some ⟨tb, 0, none⟩)) 12 rfl hS0 ?_
            refine tG 2 49 (.pointer (some ⟨tb, 0, none⟩)) 11 rfl hS0 ?_
            refine tG 3 50 (.pointer (some ⟨tb, 0, none⟩)) 10 rfl hS0 ?_
            refine tV 5 52 (.agg #[.int .i64 (k : Int), .int .i64 (a : Int), .slice ua um uc]) 9 rfl hS0 ?_ (fun w9 hw9 => by have z0 := (Dg.cell_row hw9 0).trans rfl; have z1 := (Dg.cell_row hw9 1).trans rfl; have z2 := (Dg.cell_row hw9 2).trans rfl; go_simp)
            refine tK 6 53 (.pointer z) 8 rfl hS0 ?_
            refine tG 7 54 (.agg #[.int .i64 (k : Int), .int .i64 (a : Int), .slice ua um uc, .pointer z, .bool false]) 7 rfl hS0 ?_
            refine wpAnyH_all (fuel := 6) (rs := [4, 8]) (by kernel_rfl) (by decide) ?_
            refine List.forall_mem_cons.2 ⟨?_, List.forall_mem_singleton.2 ?_⟩
            · refine wpOp_value (i := 4) (d := 51) (v := .slice sa sm sc) (w' := wd) rfl rfl (by kernel_rfl) (by go_simp) ?_
              refine ⟨hS0, ?_⟩
              simp only [List.setIfInBounds_toArray, List.set_cons_succ, List.set_cons_zero]
              refine wpAnyH_all (fuel := 5) (rs := [8]) (by kernel_rfl) (by decide) ?_
              refine List.forall_mem_singleton.2 ?_
              refine wpOp_value (i := 8) (d := 55) (v := .pointer (some ⟨wd.heap.size, 0, none⟩)) (w' := (wd.alloc (.cells #[.int .i64 (k : Int), .int .i64 (a : Int), .slice ua um uc, .pointer z, .bool false] 61))) rfl rfl (by kernel_rfl) (by go_simp) ?_
              refine ⟨Dg.row_alloc hS0 _, ?_⟩
              simp only [List.setIfInBounds_toArray, List.set_cons_succ, List.set_cons_zero]
              refine wpAnyH_all (fuel := 4) (rs := [9]) (by kernel_rfl) (by decide) ?_
              refine List.forall_mem_singleton.2 ?_
              refine wpOp_value (i := 9) (d := 56) (v := .slice (some ⟨wd.heap.size + 1, 0, none⟩) 1 1) (w' := ((wd.alloc (.cells #[.int .i64 (k : Int), .int .i64 (a : Int), .slice ua um uc, .pointer z, .bool false] 61)).alloc (.cells #[.pointer (some ⟨wd.heap.size, 0, none⟩)] 55))) rfl rfl (by kernel_rfl) (by go_simp) ?_
              refine ⟨Dg.row_alloc (Dg.row_alloc hS0 _) _, ?_⟩
              simp only [List.setIfInBounds_toArray, List.set_cons_succ, List.set_cons_zero]
              refine wpAnyH_all (fuel := 3) (rs := [10]) (by kernel_rfl) (by decide) ?_
              refine List.forall_mem_singleton.2 ?_
              refine wpOp_value (i := 10) (d := 57) (v := .slice pa pm pc) (w' := W5) rfl rfl (by kernel_rfl) (by simp [execOp, resolve, invoke, builtin, hr5', Result.andThen, Act.eval]) ?_
              refine ⟨hx5, ?_⟩
              simp only [List.setIfInBounds_toArray, List.set_cons_succ, List.set_cons_zero]
              refine wpAnyH_all (fuel := 2) (rs := [11]) (by kernel_rfl) (by decide) ?_
              refine List.forall_mem_singleton.2 ?_
              refine wpOp_value (i := 11) (d := 58) (v := .pointer (some ⟨tb, 0, none⟩)) (w' := W5) rfl rfl (by kernel_rfl) (by go_simp) ?_
              refine ⟨hx5, ?_⟩
              simp only [List.setIfInBounds_toArray, List.set_cons_succ, List.set_cons_zero]
              refine wpAnyH_all (fuel := 1) (rs := [12]) (by kernel_rfl) (by decide) ?_
              refine List.forall_mem_singleton.2 ?_
              refine wpOp_value (i := 12) (d := 59) (v := .pointer (some ⟨tb, 0, none⟩)) (w' := W5) rfl rfl (by kernel_rfl) (by go_simp) ?_
              refine ⟨hx5, ?_⟩
              simp only [List.setIfInBounds_toArray, List.set_cons_succ, List.set_cons_zero]
              refine wpAnyH_all (fuel := 0) (rs := [13]) (by kernel_rfl) (by decide) ?_
              refine List.forall_mem_singleton.2 ?_
              refine wpOp_skip (i := 13) (w' := W5.setCell ⟨tb, 0, none⟩ (.slice pa pm pc)) rfl rfl (by kernel_rfl) (by go_simp) ?_
              refine ⟨hx6, by kernel_rfl, ?_⟩
              clear hr5' hx5 hx6 hS0 t1 t2 c0 d5 f5
              go_wp2_with fail
              go_roundw
              case rel => exact ⟨a + 1, _, _, _, by omega, by go_num, HSE, HZ3⟩
              case measure => simp [intOf] <;> omega
            · refine wpOp_value (i := 8) (d := 55) (v := .pointer (some ⟨wd.heap.size, 0, none⟩)) (w' := (wd.alloc (.cells #[.int .i64 (k : Int), .int .i64 (a : Int), .slice ua um uc, .pointer z, .bool false] 61))) rfl rfl (by kernel_rfl) (by go_simp) ?_
              refine ⟨Dg.row_alloc hS0 _, ?_⟩
              simp only [List.setIfInBounds_toArray, List.set_cons_succ, List.set_cons_zero]
              refine wpAnyH_all (fuel := 5) (rs := [4, 9]) (by kernel_rfl) (by decide) ?_
              refine List.forall_mem_cons.2 ⟨?_, List.forall_mem_singleton.2 ?_⟩
              · refine wpOp_value (i := 4) (d := 51) (v := .slice sa sm sc) (w' := (wd.alloc (.cells #[.int .i64 (k : Int), .int .i64 (a : Int), .slice ua um uc, .pointer z, .bool false] 61))) rfl rfl (by kernel_rfl) (by go_simp) ?_
                refine ⟨Dg.row_alloc hS0 _, ?_⟩
                simp only [List.setIfInBounds_toArray, List.set_cons_succ, List.set_cons_zero]
                refine wpAnyH_all (fuel := 4) (rs := [9]) (by kernel_rfl) (by decide) ?_
                refine List.forall_mem_singleton.2 ?_
                refine wpOp_value (i := 9) (d := 56) (v := .slice (some ⟨wd.heap.size + 1, 0, none⟩) 1 1) (w' := ((wd.alloc (.cells #[.int .i64 (k : Int), .int .i64 (a : Int), .slice ua um uc, .pointer z, .bool false] 61)).alloc (.cells #[.pointer (some ⟨wd.heap.size, 0, none⟩)] 55))) rfl rfl (by kernel_rfl) (by go_simp) ?_
                refine ⟨Dg.row_alloc (Dg.row_alloc hS0 _) _, ?_⟩
                simp only [List.setIfInBounds_toArray, List.set_cons_succ, List.set_cons_zero]
                refine wpAnyH_all (fuel := 3) (rs := [10]) (by kernel_rfl) (by decide) ?_
                refine List.forall_mem_singleton.2 ?_
                refine wpOp_value (i := 10) (d := 57) (v := .slice pa pm pc) (w' := W5) rfl rfl (by kernel_rfl) (by simp [execOp, resolve, invoke, builtin, hr5', Result.andThen, Act.eval]) ?_
                refine ⟨hx5, ?_⟩
                simp only [List.setIfInBounds_toArray, List.set_cons_succ, List.set_cons_zero]
                refine wpAnyH_all (fuel := 2) (rs := [11]) (by kernel_rfl) (by decide) ?_
                refine List.forall_mem_singleton.2 ?_
                refine wpOp_value (i := 11) (d := 58) (v := .pointer (some ⟨tb, 0, none⟩)) (w' := W5) rfl rfl (by kernel_rfl) (by go_simp) ?_
                refine ⟨hx5, ?_⟩
                simp only [List.setIfInBounds_toArray, List.set_cons_succ, List.set_cons_zero]
                refine wpAnyH_all (fuel := 1) (rs := [12]) (by kernel_rfl) (by decide) ?_
                refine List.forall_mem_singleton.2 ?_
                refine wpOp_value (i := 12) (d := 59) (v := .pointer (some ⟨tb, 0, none⟩)) (w' := W5) rfl rfl (by kernel_rfl) (by go_simp) ?_
                refine ⟨hx5, ?_⟩
                simp only [List.setIfInBounds_toArray, List.set_cons_succ, List.set_cons_zero]
                refine wpAnyH_all (fuel := 0) (rs := [13]) (by kernel_rfl) (by decide) ?_
                refine List.forall_mem_singleton.2 ?_
                refine wpOp_skip (i := 13) (w' := W5.setCell ⟨tb, 0, none⟩ (.slice pa pm pc)) rfl rfl (by kernel_rfl) (by go_simp) ?_
                refine ⟨hx6, by kernel_rfl, ?_⟩
                clear hr5' hx5 hx6 hS0 t1 t2 c0 d5 f5
                go_wp2_with fail
                go_roundw
                case rel => exact ⟨a + 1, _, _, _, by omega, by go_num, HSE, HZ3⟩
                case measure => simp [intOf] <;> omega
              · refine wpOp_value (i := 9) (d := 56) (v := .slice (some ⟨wd.heap.size + 1, 0, none⟩) 1 1) (w' := ((wd.alloc (.cells #[.int .i64 (k : Int), .int .i64 (a : Int), .slice ua um uc, .pointer z, .bool false] 61)).alloc (.cells #[.pointer (some ⟨wd.heap.size, 0, none⟩)] 55))) rfl rfl (by kernel_rfl) (by go_simp) ?_
                refine ⟨Dg.row_alloc (Dg.row_alloc hS0 _) _, ?_⟩
                simp only [List.setIfInBounds_toArray, List.set_cons_succ, List.set_cons_zero]
                refine wpAnyH_all (fuel := 4) (rs := [4]) (by kernel_rfl) (by decide) ?_
                refine List.forall_mem_singleton.2 ?_
                refine wpOp_value (i := 4) (d := 51) (v := .slice sa sm sc) (w' := ((wd.alloc (.cells #[.int .i64 (k : Int), .int .i64 (a : Int), .slice ua um uc, .pointer z, .bool false] 61)).alloc (.cells #[.pointer (some ⟨wd.heap.size, 0, none⟩)] 55))) rfl rfl (by kernel_rfl) (by go_simp) ?_
                refine ⟨Dg.row_alloc (Dg.row_alloc hS0 _) _, ?_⟩
                simp only [List.setIfInBounds_toArray, List.set_cons_succ, List.set_cons_zero]
                refine wpAnyH_all (fuel := 3) (rs := [10]) (by kernel_rfl) (by decide) ?_
                refine List.forall_mem_singleton.2 ?_
                refine wpOp_value (i := 10) (d := 57) (v := .slice pa pm pc) (w' := W5) rfl rfl (by kernel_rfl) (by simp [execOp, resolve, invoke, builtin, hr5', Result.andThen, Act.eval]) ?_
                refine ⟨hx5, ?_⟩
                simp only [List.setIfInBounds_toArray, List.set_cons_succ, List.set_cons_zero]
                refine wpAnyH_all (fuel := 2) (rs := [11]) (by kernel_rfl) (by decide) ?_
                refine List.forall_mem_singleton.2 ?_
                refine wpOp_value (i := 11) (d := 58) (v := .pointer (some ⟨tb, 0, none⟩)) (w' := W5) rfl rfl (by kernel_rfl) (by go_simp) ?_
                refine ⟨hx5, ?_⟩
                simp only [List.setIfInBounds_toArray, List.set_cons_succ, List.set_cons_zero]
                refine wpAnyH_all (fuel := 1) (rs := [12]) (by kernel_rfl) (by decide) ?_
                refine List.forall_mem_singleton.2 ?_
                refine wpOp_value (i := 12) (d := 59) (v := .pointer (some ⟨tb, 0, none⟩)) (w' := W5) rfl rfl (by kernel_rfl) (by go_simp) ?_
                refine ⟨hx5, ?_⟩
                simp only [List.setIfInBounds_toArray, List.set_cons_succ, List.set_cons_zero]
                refine wpAnyH_all (fuel := 0) (rs := [13]) (by kernel_rfl) (by decide) ?_
                refine List.forall_mem_singleton.2 ?_
                refine wpOp_skip (i := 13) (w' := W5.setCell ⟨tb, 0, none⟩ (.slice pa pm pc)) rfl rfl (by kernel_rfl) (by go_simp) ?_
                refine ⟨hx6, by kernel_rfl, ?_⟩
                clear hr5' hx5 hx6 hS0 t1 t2 c0 d5 f5
                go_wp2_with fail
                go_roundw
                case rel => exact ⟨a + 1, _, _, _, by omega, by go_num, HSE, HZ3⟩
                case measure => simp [intOf] <;> omega
end Go.Proofs.YteghapmlnkhepaaDoor.Tk

/- The laws' example: its plan, its saga, and what is told of it. -/
namespace Go.Proofs.YteghapmlnkhepaaDoor

open Go.RowKit Go.Shelf Go.Proofs.YteghapmlnkhepaaDoor.Sx

theorem name1 (c : UInt8) (n : Int) (h1 : enc n = [c]) (h2 : kl n = 1) (h3 : isCp n = true) : nameP [c] :=
  ⟨[n], by simp [encAll, h1], n, [], rfl, h2, by simp, by simp [h3], by simp [encAll, h1]⟩

theorem nm_t : nmP [116] = true := by
  rw [nmP, (isName_iff _).2 (name1 116 116 (by decide +kernel) (by decide +kernel) (by decide +kernel))]; rfl

theorem nm_a : nmP [97] = true := by
  rw [nmP, (isName_iff _).2 (name1 97 97 (by decide +kernel) (by decide +kernel) (by decide +kernel))]; rfl

theorem nm_b : nmP [98] = true := by
  rw [nmP, (isName_iff _).2 (name1 98 98 (by decide +kernel) (by decide +kernel) (by decide +kernel))]; rfl

theorem nm_c : nmP [99] = true := by
  rw [nmP, (isName_iff _).2 (name1 99 99 (by decide +kernel) (by decide +kernel) (by decide +kernel))]; rfl

theorem nm_d : nmP [100] = true := by
  rw [nmP, (isName_iff _).2 (name1 100 100 (by decide +kernel) (by decide +kernel) (by decide +kernel))]; rfl

theorem nm_e : nmP [101] = true := by
  rw [nmP, (isName_iff _).2 (name1 101 101 (by decide +kernel) (by decide +kernel) (by decide +kernel))]; rfl

/-- The example's bodies. -/
def tEx : Tr := .b (.n ⟨[97], [98], [], false, false⟩ .e (.n ⟨[99], [], [[97]], true, false⟩ (.b (.n ⟨[100], [101], [], false, false⟩ .e .e) .e) .e)) .e

/-- Its items. -/
def iEx : List It := [⟨[116], [], true, true, 1, -1, 0, []⟩, ⟨[97], [98], false, false, 0, 0, 0, []⟩, ⟨[99], [], true, false, 1, 0, 0, [1]⟩, ⟨[100], [101], false, false, 0, 2, 0, []⟩]

theorem right_ex : rightS [116] tEx = true := by
  unfold rightS okL
  rw [nm_t]
  have hb : bigL (fltn 1 tEx) = false := by decide +kernel
  rw [hb]
  simp [tEx, fltn, nodeOk, nm_a, nm_b, nm_c, nm_d, nm_e, Tr.len]

theorem fit_ex : fitS [116] tEx = true := by
  unfold fitS codeS
  rw [right_ex]
  decide +kernel

theorem plan_ex : planT [116] tEx = some iEx := by
  unfold planT planP
  rw [if_pos ⟨fit_ex, by decide +kernel, by decide +kernel, by kernel_rfl⟩]
  kernel_rfl

theorem saga_ex : sagaP iEx = some ([116], tEx) := by
  have h1 : nameI iEx 0 = [116] := by kernel_rfl
  have h2 : bodS iEx = tEx := by kernel_rfl
  unfold sagaP
  rw [h1, h2, if_pos ⟨by decide +kernel, plan_ex⟩]

end Go.Proofs.YteghapmlnkhepaaDoor

/- The laws' example, in memory. -/
namespace Go.Proofs.YteghapmlnkhepaaDoor

open Go.RowKit Go.Shelf Go.Proofs.YteghapmlnkhepaaDoor.Sx

theorem old1 {W : World} {k : Nat} {x : Obj} (h : W.heap[k]? = some x) (o : Obj) : (W.alloc o).heap[k]? = some x := (Below.heap_alloc _ _ _ (Array.getElem?_eq_some_iff.1 h).1).trans h

theorem new1 (W : World) (o : Obj) (k : Nat) (h : k = W.heap.size) : (W.alloc o).heap[k]? = some o := by subst h; exact World.alloc_heap_new W o

end Go.Proofs.YteghapmlnkhepaaDoor

/- What the laws' lives wants: the example in memory, and what is told of it. -/
namespace Go.Proofs.YteghapmlnkhepaaDoor

open Go.RowKit Go.Shelf Go.Proofs.YteghapmlnkhepaaDoor.Sx

set_option linter.unusedVariables false

theorem RdI.new (w : World) (l : List Nat) (vs : Array Value) (h : vs.toList = Dg.ivs l) : Dg.RdI (w.alloc (.cells vs 3)) (.slice (some ⟨w.heap.size, 0, none⟩) l.length l.length) l := by
  refine ⟨_, _, rfl, Nat.le_refl _, fun i x hi => ⟨_, _, rfl, ?_⟩⟩
  rw [Dg.cell_row (Dg.row_new w vs 3), Nat.zero_add, ← Array.getElem?_toList, h, Dg.ivs, List.getElem?_map, hi]
  rfl

end Go.Proofs.YteghapmlnkhepaaDoor

