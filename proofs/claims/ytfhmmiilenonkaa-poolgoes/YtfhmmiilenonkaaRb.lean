/- The walks over slices.Clone, apart, and the document's Same and SameAll. -/
import Derived.Test.YtfhmmiilenonkaaRa
import Derived.Deep.RegionHeld
namespace Go.Proofs.Ytfhmmiilenonkaa

open Go.RowKit

set_option maxRecDepth 1000000

set_option linter.unusedVariables false

/-- Whole numbers in a row of one's own. -/
def OwI (B : Nat) (w : World) (v : Value) (l : List Int) : Prop := w.ownsRow B 3 1 v l.length (ivs l)

theorem OwI.ri {B : Nat} {w : World} {v : Value} {l : List Int} (h : OwI B w v l) : RI w v l := RI.of_owns h rfl

theorem OwI.rs {B : Nat} {w : World} {v : Value} {l : List Int} (h : OwI B w v l) : RS (fun k => B ≤ k ∧ k < w.heap.size) w v l :=
  ⟨h.ri, fun _ a n c he => World.ownsRow.lt h a.block (by rw [he]; rfl)⟩

theorem OwI.later {B : Nat} {w w' : World} {v : Value} {l : List Int} (h : OwI B w v l) (hb : Below w.heap.size w w') : OwI B w' v l := owns_later h hb

theorem OwI.slice {B : Nat} {w : World} {v : Value} {l : List Int} (h : OwI B w v l) : ∃ a c, v = .slice a l.length c := by
  obtain ⟨a, c, e, _⟩ := h.ri
  exact ⟨a, c, e⟩

set_option maxHeartbeats 1000000 in
theorem clone_all (v : Value) (l : List Int) (w : World) (hv : RI w v l) (hn : l.length ≤ 1000000) :
    Calls Try.prog 55 #[v] w fun e w' => ∃ v', e = .returned v' ∧ OwI w.heap.size w' v' l ∧ Below w.heap.size w w' := by
  have HV : Hid (RI w v l) := hv
  obtain ⟨a, cap, rfl, hc, _, hr⟩ := hv
  have hE : ∀ w, (binOp .eql 35 (.slice a l.length cap) (.slice none 0 0)).run Try.prog w = .ok (.bool a.isNone) w := fun w => Lib.run_eql_slice_nil w 35 3 a l.length cap 0 0 Try.underlying35
  cases a with
  | none =>
    have hl0 : l = [] := by
      cases l with
      | nil => rfl
      | cons y l =>
        obtain ⟨b, off, hb, _⟩ := hr 0 (by simp)
        cases hb
    subst hl0
    clear hr
    simp only [Option.isNone_none, List.length_nil] at hE
    go_enter Try.func55, Try.ntmps55
    go_wp2_with fail
    go_ret
    exact ⟨_, rfl, World.ownsRow_nil w w.heap.size 3 1, Below.refl _ _⟩
  | some ad =>
    have HB1 : Hid (Below w.heap.size w (w.alloc (.cells #[] 3))) := (Below.refl _ _).alloc (Nat.le_refl _) _
    have HO1 : Hid (OI w.heap.size (w.alloc (.cells #[] 3)) w.heap.size 0 0 []) := OI.made w
    clear hr
    simp only [Option.isNone_some] at hE
    go_enter Try.func55, Try.ntmps55
    go_wp2_with (first
      | (at_builtin; refine append_ints rfl _ _ rfl w.heap.size w.heap.size 0 0 [] rfl HO1.out _ l rfl (HV.out.later HB1.out) (by intro k c h; cases h) (by omega) (by omega) (by simp) l.length l (by omega) rfl ?_; intro g2 c2 w2 ho2 hg2; have HO2 : Hid _ := ho2; have HB2 : Hid _ := HB1.out.trans (HO1.out.below (by simp) hg2); clear ho2 hg2))
    go_ret
    exact ⟨_, rfl, HO2.out, HB2.out⟩

theorem owns_kept {w w' : World} {T : Nat → Prop} (h : Kp T w w') {B : Nat} {e : TypeId} {size : Nat} {v : Value} {n : Nat} {xs : List Value} (ho : w.ownsRow B e size v n xs) (hv : ∀ g, v.ownBlock = some g → ¬ T g) : w'.ownsRow B e size v n xs := by
  refine ⟨ho.1, ?_⟩
  rcases ho.2 with hn | ⟨g, cap, cur, rfl, hb, hg, rest⟩
  · exact .inl hn
  · refine .inr ⟨g, cap, cur, rfl, hb, ?_, rest⟩
    exact h.row hg (hv g rfl)

theorem World.ownsRow.mono_base {w : World} {B B' : Nat} {e : TypeId} {size : Nat} {v : Value} {n : Nat} {xs : List Value} (h : w.ownsRow B e size v n xs) (hB : B' ≤ B) : w.ownsRow B' e size v n xs := by
  refine ⟨h.1, ?_⟩
  rcases h.2 with hn | ⟨g, cap, cur, rfl, hb, rest⟩
  · exact .inl hn
  · exact .inr ⟨g, cap, cur, rfl, Nat.le_trans hB hb, rest⟩

/-- A job as a result is read. -/
theorem retJ {fn : Func} {p : Tmp} (h : fn.results = #[.cell p 37]) {a : Act} {w : World} {R : Ending → World → Prop} (b : Nat) (e : Jb) (v : Value) (hp : a.tmps.getD p undef = .pointer (some ⟨b, 0, none⟩)) (hd : a.defers = [])
    (hb : w.heap[b]? = some (.cells (jrow (e, v)).toArray 37 (0, 0))) (hR : R (.returned (JV e v)) w) : bodyPost Try.prog fn R .ret a w :=
  bodyPost_ret_by (results_cell_row h _ _ b 37 _ (0, 0) _ hp hb Try.underlying37 rfl (by kernel_rfl)) hd hR

theorem JC.of_row {w : World} {b : Nat} {e : Jb} {v : Value} (h : w.heap[b]? = some (.cells (jrow (e, v)).toArray 37 (0, 0))) : JC w b 0 (e, v) := JC.of fun j hj => by rw [Nat.zero_add, cell_row h]; simp

def set6 (w : World) (b o : Nat) (p : JbP) : World := (((((w.setCell ⟨b, o, none⟩ (.int .i64 p.1.i)).setCell ⟨b, o + 1, none⟩ (.bool p.1.u)).setCell ⟨b, o + 2, none⟩ (.int .i64 p.1.t)).setCell ⟨b, o + 3, none⟩ (.bool p.1.b)).setCell ⟨b, o + 4, none⟩ (.int .i64 p.1.k)).setCell ⟨b, o + 5, none⟩ p.2

theorem set6_row {w : World} {b o : Nat} {cs : Array Value} {t : TypeId} (h : w.heap[b]? = some (.cells cs t (0, 0))) (p : JbP) :
    ∃ cs', (set6 w b o p).heap[b]? = some (.cells cs' t (0, 0)) ∧ cs'.size = cs.size ∧ (o + 6 ≤ cs.size → ∀ j, j < 6 → cs'[o + j]? = (jrow p)[j]?) ∧ ∀ k, (k < o ∨ o + 6 ≤ k) → cs'[k]? = cs[k]? := by
  refine ⟨_, row_set (row_set (row_set (row_set (row_set (row_set h _ _) _ _) _ _) _ _) _ _) _ _, by simp, fun hs j hj => ?_, fun k hk => ?_⟩
  · match j, hj with
    | 0, _ => simp [Array.getElem?_setIfInBounds, jrow]; omega
    | 1, _ => simp [Array.getElem?_setIfInBounds, jrow]; omega
    | 2, _ => simp [Array.getElem?_setIfInBounds, jrow]; omega
    | 3, _ => simp [Array.getElem?_setIfInBounds, jrow]; omega
    | 4, _ => simp [Array.getElem?_setIfInBounds, jrow]; omega
    | 5, _ => simp [Array.getElem?_setIfInBounds, jrow]; omega
    | j + 6, hj => omega
  · simp only [Array.getElem?_setIfInBounds]
    repeat rw [if_neg (by omega)]

theorem set6_kept (T : Nat → Prop) (w : World) (b o : Nat) (p : JbP) (h : T b) : Kp T w (set6 w b o p) :=
  ((((((Kp.refl T w).set _ _ h).set _ _ h).set _ _ h).set _ _ h).set _ _ h).set _ _ h

theorem set6_whole {w : World} {b : Nat} {cs : Array Value} {t : TypeId} (h : w.heap[b]? = some (.cells cs t (0, 0))) (hs : cs.size = 6) (p : JbP) : (set6 w b 0 p).heap[b]? = some (.cells (jrow p).toArray t (0, 0)) := by
  obtain ⟨cs', h1, h2, h3, _⟩ := set6_row (o := 0) h p
  rw [h1]
  have : cs' = (jrow p).toArray := by
    refine Array.ext_getElem? fun i => ?_
    by_cases hi : i < 6
    · have := h3 (by omega) i hi
      rw [Nat.zero_add] at this
      rw [this]
      simp
    · rw [Array.getElem?_eq_none (by omega), Array.getElem?_eq_none (by simp [jrow]; omega)]
  rw [this]

theorem bl1 (w : World) (o : Obj) : Below w.heap.size w (w.alloc o) := (Below.refl _ _).alloc (Nat.le_refl _) o

theorem bl2 (w : World) (o o' : Obj) : Below w.heap.size w ((w.alloc o).alloc o') := (bl1 w o).alloc (by simp) o'

theorem bl3 (w : World) (o o' o3 : Obj) : Below w.heap.size w (((w.alloc o).alloc o').alloc o3) := (bl2 w o o').alloc (by simp; omega) o3

theorem row_new1 (w : World) (o o' : Obj) : ((w.alloc o).alloc o').heap[w.heap.size]? = some o := by
  rw [heap_alloc_old (w.alloc o) o' (by simp)]
  exact heap_alloc_new w o

theorem row_new2 (w : World) (o o' : Obj) : ((w.alloc o).alloc o').heap[w.heap.size + 1]? = some o' := by
  have := heap_alloc_new (w.alloc o) o'
  rw [World.size_alloc] at this
  exact this

set_option maxHeartbeats 1000000 in
theorem apart_any (e : Jb) (v : Value) (w : World) (hv : RI w v e.s) (hn : e.s.length ≤ 1000000) :
    Calls Try.prog 58 #[JV e v] w fun x w' => ∃ v', x = .returned (JV e v') ∧ OwI w.heap.size w' v' e.s ∧ Below w.heap.size w w' := by
  obtain ⟨a, c, hve, _⟩ := id hv
  have HC : Hid (∀ w1, Below w.heap.size w w1 → Calls Try.prog 55 #[v] w1 fun x w' => ∃ v', x = .returned v' ∧ OwI w1.heap.size w' v' e.s ∧ Below w1.heap.size w1 w') := fun w1 hb => clone_all v e.s w1 (hv.later hb) hn
  obtain ⟨ei, eu, et, eb, ek, es⟩ := e
  subst hve
  unfold JV
  dsimp only at *
  generalize es.length = n at *
  clear hv
  go_enter Try.func58, Try.ntmps58
  go_wp2_with fail
  refine Calls.mono (HC.out _ (bl2 _ _ _)) ?_
  rintro x w2 ⟨v', rfl, ho, hb⟩
  have r0 := row_later (row_new1 w (.cells #[.int .i64 ei, .bool eu, .int .i64 et, .bool eb, .int .i64 ek, .slice a n c] 37) (.cells #[.int .i64 0, .bool false, .int .i64 0, .bool false, .int .i64 0, .slice none 0 0] 37)) hb
  have r1 := row_later (row_new2 w (.cells #[.int .i64 ei, .bool eu, .int .i64 et, .bool eb, .int .i64 ek, .slice a n c] 37) (.cells #[.int .i64 0, .bool false, .int .i64 0, .bool false, .int .i64 0, .slice none 0 0] 37)) hb
  obtain ⟨a', c', hv'⟩ := ho.slice
  have HO : Hid _ := ho
  have HB : Hid (Below w.heap.size w w2) := (bl2 _ _ _).trans (hb.mono (by simp; omega))
  subst hv'
  have c0 := cell_row r0 0
  have c1 := cell_row r0 1
  have c2 := cell_row r0 2
  have c3 := cell_row r0 3
  have c4 := cell_row r0 4
  have c5 := cell_row r0 5
  have d0 := cell_row r1 0
  have d1 := cell_row r1 1
  have d2 := cell_row r1 2
  have d3 := cell_row r1 3
  have d4 := cell_row r1 4
  have d5 := cell_row r1 5
  have f0 := froz_row r0
  have f1 := froz_row r1
  simp at c0 c1 c2 c3 c4 c5 d0 d1 d2 d3 d4 d5
  have R0 : Hid _ := r0
  have R1 : Hid _ := r1
  clear ho hb HC r0 r1
  go_wp2_with fail
  have hr0 := row_set R0.out 5 (.slice a' es.length c')
  have k1 : Kp (fun k => k = w.heap.size ∨ k = w.heap.size + 1) w2 (w2.setCell ⟨w.heap.size, 5, none⟩ (.slice a' es.length c')) := (Kp.refl _ _).set _ _ (.inl rfl)
  have k0 : Kp (fun k => k = w.heap.size) w2 (w2.setCell ⟨w.heap.size, 5, none⟩ (.slice a' es.length c')) := (Kp.refl _ _).set _ _ rfl
  have hr1 := k0.row R1.out (by simp)
  have hr2 := set6_whole hr1 rfl (⟨ei, eu, et, eb, ek, es⟩, .slice a' es.length c')
  have k2 := k1.trans (set6_kept (fun k => k = w.heap.size ∨ k = w.heap.size + 1) _ _ 0 (⟨ei, eu, et, eb, ek, es⟩, .slice a' es.length c') (.inr rfl)) (fun _ h _ => h)
  refine retJ rfl (w.heap.size + 1) ⟨ei, eu, et, eb, ek, es⟩ (.slice a' es.length c') rfl rfl hr2 ?_
  have hl := HO.out
  refine ⟨_, rfl, ?_, ?_⟩
  · have hlt := fun g hg => (World.ownsRow.lt hl g hg).1
    simp only [World.size_alloc] at hlt
    exact World.ownsRow.mono_base (owns_kept k2 hl (fun g hg hx => by have := hlt g hg; rcases hx with rfl | rfl <;> omega)) (by simp; omega)
  · exact HB.out.trans (k2.below (B := w.heap.size) HB.out.size (fun k hk => by rcases hk with rfl | rfl <;> omega))

set_option maxHeartbeats 4000000 in
theorem same_job (x y : Jb) (v u : Value) (w : World) (hv : RI w v x.s) (hu : RI w u y.s) (hx : x.s.length ≤ 1000000) (hy : y.s.length ≤ 1000000) :
    Calls Try.prog 17 #[JV x v, JV y u] w fun e w' => e = .returned (.bool (decide (x = y))) ∧ Below w.heap.size w w' := by
  have HS : Hid (∀ wx, Below w.heap.size w wx → Calls Try.prog 40 #[v, u] wx fun e w' => e = .returned (.bool (decide (x.s = y.s))) ∧ Below wx.heap.size wx w') := fun wx hb => same_any x.s y.s v u wx (hv.later hb) (hu.later hb) hx hy
  obtain ⟨a, c, hve, hv0⟩ := hv
  obtain ⟨a', c', hue, hu0⟩ := hu
  clear hv0 hu0
  subst hve hue
  obtain ⟨xi, xu, xt, xb, xk, xs⟩ := x
  obtain ⟨yi, yu, yt, yb, yk, ys⟩ := y
  unfold JV
  dsimp only at *
  simp only [Jb.mk.injEq]
  generalize xs.length = n at *
  generalize ys.length = m at *
  go_enter Try.func17, Try.ntmps17
  go_wp2_with (first | (go_at_call 40; refine Calls.mono (HS.out _ (bl2 _ _ _)) ?_; rintro e w2 ⟨rfl, hb2⟩; have HB2 : Hid (Below w.heap.size w w2) := (bl2 _ _ _).trans (hb2.mono (by simp; omega)); clear hb2))
  all_goals
    go_ret
    first
    | exact ⟨ret_b (by simp_all), HB2.out⟩
    | exact ⟨ret_b (by simp_all), bl2 _ _ _⟩

theorem getD_jb {L : List JbP} {k : Nat} (h : k < L.length) : L[k]? = some (L.getD k (⟨0, false, 0, false, 0, []⟩, .bool false)) := by
  rw [List.getElem?_eq_getElem h, List.getD_eq_getElem?_getD, List.getElem?_eq_getElem h]
  rfl

/-- Stamps that are not too long. -/
def FewS (L : List JbP) : Prop := ∀ x ∈ L, x.1.s.length ≤ 1000000

set_option maxHeartbeats 4000000 in
theorem sameAll_any (S S' : Nat → Prop) (l m : List JbP) (v u : Value) (w : World) (hl : RJ S w v l) (hm : RJ S' w u m) (hsl : FewS l) (hsm : FewS m) (hn : l.length ≤ 1000000) (hn' : m.length ≤ 1000000) :
    Calls Try.prog 32 #[v, u] w fun e w' => e = .returned (.bool (decide (l.map Prod.fst = m.map Prod.fst))) ∧ Below w.heap.size w w' := by
  obtain ⟨a, cap, rfl, hc, _, hr⟩ := hl
  obtain ⟨a', cap', rfl, hc', _, hr'⟩ := hm
  have HR : Hid _ := hr
  have HR' : Hid _ := hr'
  have HSL : Hid _ := hsl
  have HSM : Hid _ := hsm
  obtain ⟨n, HN⟩ : ∃ n, Hid (l.length = n) := ⟨_, rfl⟩
  obtain ⟨n', HN'⟩ : ∃ n, Hid (m.length = n) := ⟨_, rfl⟩
  rw [HN.out] at hn hc ⊢
  rw [HN'.out] at hn' hc' ⊢
  clear hr hr' hsl hsm
  by_cases hnn : n = n'
  · subst hnn
    go_enter Try.func32, Try.ntmps32
    go_wp2_with fail
    go_loopw [5] (fun iv wr => ∃ (k : Nat), k ≤ n ∧ iv = .int .i64 k ∧ Hid (∀ i : Nat, i < k → (l[i]?).map Prod.fst = (m[i]?).map Prod.fst) ∧ Hid (Below w.heap.size w wr)) (fun iv _ => n - (intOf iv).toNat)
    case atStart => exact ⟨0, Nat.zero_le _, rfl, fun i hi => by omega, Below.refl _ _⟩
    case round =>
      obtain ⟨k, hk, rfl, HX, HB⟩ := hrel
      rename World => w1
      by_cases hlt : k < n
      · have g1 := getD_jb (L := l) (k := k) (by rw [HN.out]; exact hlt)
        have g2 := getD_jb (L := m) (k := k) (by rw [HN'.out]; exact hlt)
        generalize l.getD k (⟨0, false, 0, false, 0, []⟩, .bool false) = y at *
        generalize m.getD k (⟨0, false, 0, false, 0, []⟩, .bool false) = z at *
        obtain ⟨b, off, rfl, _, hJ, hRS⟩ := HR.out k y g1
        obtain ⟨b', off', rfl, _, hJ', hRS'⟩ := HR'.out k z g2
        have HSE : Hid (∀ wx, Below w.heap.size w wx → Calls Try.prog 17 #[JV y.1 y.2, JV z.1 z.2] wx fun x w' => x = .returned (.bool (decide (y.1 = z.1))) ∧ Below wx.heap.size wx w') := fun wx hb => same_job y.1 z.1 y.2 z.2 wx (hRS.1.later hb) (hRS'.1.later hb) (HSL.out y (List.mem_of_getElem? g1)) (HSM.out z (List.mem_of_getElem? g2))
        obtain ⟨d0, d1, d2, d3, d4, d5⟩ := hJ.later HB.out
        obtain ⟨f0, f1, f2, f3, f4, f5⟩ := hJ'.later HB.out
        obtain ⟨⟨ya, yc, hy2, _⟩, _⟩ := hRS
        obtain ⟨⟨za, zc, hz2, _⟩, _⟩ := hRS'
        have hki : (k : Int) < (n : Int) := by omega
        have HB2 : Hid (Below w.heap.size w w1.drew) := HB.out.drew
        have HQ : Hid (∀ i, i < k + 1 → i ≠ k ∨ y.1 = z.1 → (l[i]?).map Prod.fst = (m[i]?).map Prod.fst) := by
          show ∀ i, _
          intro i hi ho
          by_cases hik : i = k
          · subst hik; rw [g1, g2]; simp; rcases ho with h | h; exact absurd rfl h; exact h
          · exact HX.out i (by omega)
        have HQ2 : Hid (¬ y.1 = z.1 → ¬ l.map Prod.fst = m.map Prod.fst) := by
          show _ → _
          intro h1 h2
          have := congrArg (fun q => q[k]?) h2
          simp only [List.getElem?_map, g1, g2] at this
          simp at this
          exact h1 this
        obtain ⟨q, hq⟩ : ∃ q, decide (y.1 = z.1) = q := ⟨_, rfl⟩
        have HD : Hid (decide (y.1 = z.1) = q) := hq
        rw [hq] at HSE
        obtain ⟨⟨yi, yu, yt, yb, yk, ys⟩, yv⟩ := y
        obtain ⟨⟨zi, zu, zt, zb, zk, zs⟩, zv⟩ := z
        unfold JV at HSE
        dsimp only at *
        subst hy2 hz2
        generalize ys.length = n1 at *
        generalize zs.length = n2 at *
        clear hq hJ hJ' g1 g2 HX
        cases q with
        | true =>
          go_wp2_with fail
          go_region_with (go_at_call 17; refine Calls.mono (HSE.out _ HB2.out) ?_; rintro e w2 ⟨rfl, hb2⟩)
          all_goals
            have HB3 : Hid (Below w.heap.size w w2) := HB2.out.trans (hb2.mono HB2.out.size)
            clear hb2
            go_wp2_with fail
            go_roundw
            case rel => exact ⟨k + 1, by omega, by go_num, (fun i hi => HQ.out i hi (.inr (of_decide_eq_true HD.out)) : ∀ i : Nat, _), HB3⟩
            case measure => simp [intOf]; omega
        | false =>
          go_wp2_with fail
          go_region_with (go_at_call 17; refine Calls.mono (HSE.out _ HB2.out) ?_; rintro e w2 ⟨rfl, hb2⟩)
          all_goals
            have HB3 : Hid (Below w.heap.size w w2) := HB2.out.trans (hb2.mono HB2.out.size)
            clear hb2
            go_wp2_with fail
            go_ret
            exact ⟨ret_b (decide_eq_false (HQ2.out (of_decide_eq_false HD.out))).symm, HB3.out⟩
      · have hkn : k = n := by omega
        subst hkn
        have HE : Hid (l.map Prod.fst = m.map Prod.fst) := by
          show _ = _
          refine List.ext_getElem? fun i => ?_
          rw [List.getElem?_map, List.getElem?_map]
          by_cases hi : i < k
          · exact HX.out i hi
          · rw [List.getElem?_eq_none (by rw [HN.out]; omega), List.getElem?_eq_none (by rw [HN'.out]; omega)]
        go_wp2_with fail
        go_ret
        exact ⟨ret_b (decide_eq_true HE.out).symm, HB.out⟩
  · have HE : Hid (¬ l.map Prod.fst = m.map Prod.fst) := fun h => hnn (by have := congrArg List.length h; rw [List.length_map, List.length_map, HN.out, HN'.out] at this; exact this)
    have hne : ¬ (n : Int) = (n' : Int) := by omega
    go_enter Try.func32, Try.ntmps32
    go_wp2_with fail
    go_ret
    exact ⟨ret_b (decide_eq_false HE.out).symm, Below.refl _ _⟩

end Go.Proofs.Ytfhmmiilenonkaa
