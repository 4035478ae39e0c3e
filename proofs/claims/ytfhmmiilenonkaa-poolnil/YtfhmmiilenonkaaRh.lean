/- The walks over slices.IndexFunc, slices.DeleteFunc, Drop. -/
import Derived.Test.YtfhmmiilenonkaaRg
namespace Go.Proofs.Ytfhmmiilenonkaa

open Go.RowKit

set_option maxRecDepth 1000000

set_option linter.unusedVariables false

/-- A key. -/
structure Ky where
  i : Int
  u : Bool
  t : Int
deriving DecidableEq

def isK (k : Ky) (e : Jb) : Bool := decide ((⟨e.i, e.u, e.t⟩ : Ky) = k)

def KV (k : Ky) : Value := .agg #[.int .i64 k.i, .bool k.u, .int .i64 k.t]

def kcs (k : Ky) : Array Value := #[.int .i64 k.i, .bool k.u, .int .i64 k.t]

set_option maxHeartbeats 1000000 in
theorem isK_any (k : Ky) (e : Jb) (sv : Value) (bk : Nat) (w : World) (hk : w.heap[bk]? = some (.cells (kcs k) 34 (0, 0))) (h1 : sv.oneCell' = true) (hsl : ∃ a n c, sv = .slice a n c) :
    Calls Try.prog 62 #[JV e sv, .pointer (some ⟨bk, 0, none⟩)] w fun x w' => x = .returned (.bool (isK k e)) ∧ Below w.heap.size w w' := by
  obtain ⟨a, n, c, rfl⟩ := hsl
  have c0 : w.cell? ⟨bk, 0, none⟩ = some (.int .i64 k.i) := (cell_row hk 0).trans rfl
  have c1 : w.cell? ⟨bk, 1, none⟩ = some (.bool k.u) := (cell_row hk 1).trans rfl
  have c2 : w.cell? ⟨bk, 2, none⟩ = some (.int .i64 k.t) := (cell_row hk 2).trans rfl
  unfold isK JV
  obtain ⟨ki, ku, kt⟩ := k
  obtain ⟨ei, eu, et, eb, ek, es⟩ := e
  dsimp only at *
  have d0 : ∀ o : Obj, (w.alloc o).cell? ⟨bk, 0, none⟩ = some (.int .i64 ki) := fun o => cell_later (bl1 w o) c0
  have d1 : ∀ o : Obj, (w.alloc o).cell? ⟨bk, 1, none⟩ = some (.bool ku) := fun o => cell_later (bl1 w o) c1
  have d2 : ∀ o : Obj, (w.alloc o).cell? ⟨bk, 2, none⟩ = some (.int .i64 kt) := fun o => cell_later (bl1 w o) c2
  clear hk h1 c0 c1 c2
  go_enter Try.func62, Try.ntmps62
  go_wp2_with fail
  all_goals
    go_ret
    exact ⟨ret_b (by simp_all), bl1 _ _⟩

/-- Where the first job of a key stands. -/
def IdxR (k : Ky) (L : List JbP) (r : Int) : Prop := (r = -1 ∧ ∀ x ∈ L, isK k x.1 = false) ∨ ∃ j : Nat, r = j ∧ j < L.length ∧ (∀ x ∈ L.take j, isK k x.1 = false) ∧ ∃ y, L[j]? = some y ∧ isK k y.1 = true

/-- Slices' values of the stamps. -/
def SlV (L : List JbP) : Prop := ∀ x ∈ L, ∃ a n c, x.2 = .slice a n c

set_option maxHeartbeats 4000000 in
theorem index_any (k : Ky) (L : List JbP) (v : Value) (bk : Nat) (w : World) (h : OwR w v L) (hk : w.heap[bk]? = some (.cells (kcs k) 34 (0, 0))) (hl : L.length ≤ 1000000) (hs : SlV L) :
    Calls Try.prog 68 #[v, .func (.func 62) #[] #[.pointer (some ⟨bk, 0, none⟩)]] w fun x w' => ∃ r, x = .returned (.int .i64 r) ∧ IdxR k L r ∧ Below w.heap.size w w' := by
  obtain ⟨a, c, rfl, hc1, hc2⟩ := h.slice
  obtain ⟨n, HN⟩ : ∃ n, Hid (L.length = n) := ⟨_, rfl⟩
  have HK : Hid (∀ w1 e sv, Below w.heap.size w w1 → (∃ a n c, sv = .slice a n c) → Calls Try.prog 62 #[JV e sv, .pointer (some ⟨bk, 0, none⟩)] w1 fun x w' => x = .returned (.bool (isK k e)) ∧ Below w1.heap.size w1 w') := fun w1 e sv hb hsl => isK_any k e sv bk w1 (row_later hk hb) (by obtain ⟨a, n, c, rfl⟩ := hsl; rfl) hsl
  have HS : Hid _ := hs
  have HV : Hid (OwR w (.slice a n c) L) := by have h9 := h; rw [HN.out] at h9; exact h9
  rw [HN.out] at hl hc1 ⊢
  clear h hk hs
  go_enter Try.func68, Try.ntmps68
  go_wp2_with fail
  go_loopw [8, 5] (fun s8 s5 wr => ∃ (j : Nat), s8 = .int .i64 j ∧ j ≤ n ∧ Hid (Below w.heap.size w wr) ∧ Hid (∀ x ∈ L.take j, isK k x.1 = false)) (fun s8 _ _ => n - (intOf s8).toNat)
  case atStart => exact ⟨0, rfl, Nat.zero_le _, Below.refl _ _, by show ∀ x ∈ L.take 0, _; simp⟩
  case round =>
    obtain ⟨j, rfl, hj, HB, HX⟩ := hrel
    rename World => wr
    by_cases hlt : j < n
    · obtain ⟨y, hy⟩ : ∃ y, L[j]? = some y := ⟨_, List.getElem?_eq_getElem (by rw [HN.out]; exact hlt)⟩
      obtain ⟨g, o, cap, he⟩ := HV.out.at' hy
      have he1 := (Value.slice.inj he).1
      clear he
      subst he1
      obtain ⟨d0, d1, d2, d3, d4, d5⟩ := (HV.out.later HB.out).jc hy
      obtain ⟨sa, sn, sc, hsv⟩ := HS.out y (List.mem_of_getElem? hy)
      obtain ⟨⟨yi, yu, yt, yb, yk, ys⟩, yv⟩ := y
      dsimp only at *
      subst hsv
      have hji : (j : Int) < (n : Int) := by omega
      obtain ⟨q, hq⟩ : ∃ q, isK k ⟨yi, yu, yt, yb, yk, ys⟩ = q := ⟨_, rfl⟩
      have HQ : Hid _ := hq
      have HC : Hid _ := HK.out wr ⟨yi, yu, yt, yb, yk, ys⟩ (.slice sa sn sc) HB.out ⟨_, _, _, rfl⟩
      rw [hq] at HC
      unfold JV at HC
      have HY : Hid _ := hy
      clear hq hy
      cases q with
      | true =>
        go_wp2_with fail
        refine Calls.mono HC.out ?_
        rintro x w2 ⟨rfl, hb2⟩
        have HB2 : Hid _ := HB.out.trans (hb2.mono HB.out.size)
        clear hb2 HC
        go_wp2_with fail
        go_ret
        exact ⟨_, rfl, .inr ⟨j, rfl, by rw [HN.out]; exact hlt, HX.out, _, HY.out, HQ.out⟩, HB2.out⟩
      | false =>
        go_wp2_with fail
        refine Calls.mono HC.out ?_
        rintro x w2 ⟨rfl, hb2⟩
        have HB2 : Hid _ := HB.out.trans (hb2.mono HB.out.size)
        have HX2 : Hid (∀ x ∈ L.take (j + 1), isK k x.1 = false) := by
          show ∀ x ∈ _, _
          intro x hx
          rw [List.take_add_one, HY.out] at hx
          rcases List.mem_append.1 hx with hx | hx
          · exact HX.out x hx
          · simp at hx; subst hx; exact HQ.out
        clear hb2 HC HX
        go_wp2_with fail
        go_roundw
        case rel => exact ⟨j + 1, by go_num, by omega, HB2, HX2⟩
        case measure => simp [intOf]; omega
    · have HX2 : Hid (∀ x ∈ L, isK k x.1 = false) := by
        have := HX.out
        rw [List.take_of_length_le (by rw [HN.out]; omega)] at this
        exact this
      clear HX
      go_wp2_with fail
      go_ret
      exact ⟨_, rfl, .inl ⟨rfl, HX2.out⟩, HB.out⟩

theorem OwR.set {w : World} {g o n c : Nat} {C : List JbP} (h : OwR w (.slice (some ⟨g, o, none⟩) n c) C) {i : Nat} (hi : i < C.length) (p : JbP) : OwR (set6 w g (o + i * 6) p) (.slice (some ⟨g, o, none⟩) n c) (C.set i p) := by
  rcases h with ⟨e, _⟩ | ⟨g', o', cap', cur, e, h1, h2, h3, h4, h5⟩
  · cases e
  · simp only [Value.slice.injEq, Option.some.injEq, Addr.mk.injEq] at e
    obtain ⟨⟨rfl, rfl, _⟩, rfl, rfl⟩ := e
    obtain ⟨cur', k1, k2, k3, k4⟩ := set6_row (o := o + i * 6) h3 p
    refine .inr ⟨g, o, c, cur', by rw [List.length_set], by rw [List.length_set]; exact h1, h2, k1, by rw [k2]; exact h4, fun j q hq jj hjj => ?_⟩
    have hj := (List.getElem?_eq_some_iff.1 hq).1
    rw [List.length_set] at hj
    by_cases hij : i = j
    · subst hij
      rw [List.getElem?_set_self hi] at hq
      cases hq
      exact k3 (by omega) jj hjj
    · rw [List.getElem?_set_ne hij] at hq
      rw [k4 _ (by omega)]
      exact h5 j q hq jj hjj

theorem OwR.frozen {w : World} {g o n c : Nat} {C : List JbP} (h : OwR w (.slice (some ⟨g, o, none⟩) n c) C) (k : Nat) : w.frozen? ⟨g, k, none⟩ = false := by
  rcases h with ⟨e, _⟩ | ⟨g', o', cap', cur, e, h1, h2, h3, h4, h5⟩
  · cases e
  · simp only [Value.slice.injEq, Option.some.injEq, Addr.mk.injEq] at e
    obtain ⟨⟨rfl, rfl, _⟩, rfl, rfl⟩ := e
    exact froz_row h3 k

/-- The end of a row is cleared, and cut off. -/
theorem OwR.clear {w : World} {g o n c : Nat} {C : List JbP} (h : OwR w (.slice (some ⟨g, o, none⟩) n c) C) {i : Nat} (hi : i ≤ C.length) (ty : TypeId) :
    ∃ w', (Builtin.clear_ #[91] ty #[.slice (some ⟨g, lowA o c i, none⟩) (n - i) (c - i)]).run Try.prog w = .ok (.tuple #[]) w' ∧ OwR w' (.slice (some ⟨g, o, none⟩) i c) (C.take i) ∧ Kp (fun k => k = g) w w' := by
  rcases h with ⟨e, _⟩ | ⟨g', o', cap', cur, e, h1, h2, h3, h4, h5⟩
  · cases e
  · simp only [Value.slice.injEq, Option.some.injEq, Addr.mk.injEq] at e
    obtain ⟨⟨rfl, rfl, _⟩, e2, rfl⟩ := e
    subst e2
    have hlo : lowA o c i + (C.length - i) * 6 ≤ cur.size ∧ (C.length = i ∨ lowA o c i = o + i * 6) := by unfold lowA; split <;> constructor <;> omega
    obtain ⟨vs, hv, hr⟩ := run_clear_j 91 ty Try.underlying91 (n := C.length - i) (c := c - i) h3 hlo.1
    obtain ⟨cur', r1, r2, r3⟩ := setCells_row vs (lowA o c i) h3
    have hl : (C.take i).length = i := by rw [List.length_take]; omega
    refine ⟨_, hr, .inr ⟨g, o, c, cur', by rw [hl], by rw [hl]; omega, h2, r1, by rw [r2]; exact h4, fun j q hq jj hjj => ?_⟩, setCells_kept (fun k => k = g) rfl _ _ _⟩
    have hj := (List.getElem?_eq_some_iff.1 hq).1
    rw [hl] at hj
    rw [List.getElem?_take_of_lt hj] at hq
    rw [r3 _ (by rw [hv]; rcases hlo.2 with h9 | h9 <;> omega)]
    exact h5 j q hq jj hjj

/-- What DeleteFunc has done when i jobs are kept of j. -/
structure DelI (k : Ky) (L C : List JbP) (i j : Nat) : Prop where
  len : C.length = L.length
  lt : i < j
  le : j ≤ L.length
  low : C.take i = (L.take j).filter (fun x => !isK k x.1)
  high : C.drop j = L.drop j

theorem DelI.get {k : Ky} {L C : List JbP} {i j : Nat} (h : DelI k L C i j) : C[j]? = L[j]? := by
  have := congrArg (fun q => q[0]?) h.high
  simpa [List.getElem?_drop] using this

theorem DelI.keep {k : Ky} {L C : List JbP} {i j : Nat} (h : DelI k L C i j) {y : JbP} (hy : L[j]? = some y) (hk : isK k y.1 = false) : DelI k L (C.set i y) (i + 1) (j + 1) := by
  have hj := (List.getElem?_eq_some_iff.1 hy).1
  have hl := h.len
  have hlt := h.lt
  refine ⟨by rw [List.length_set]; exact hl, by omega, by omega, ?_, ?_⟩
  · rw [List.take_add_one, List.take_set_of_le (Nat.le_refl _), h.low, List.getElem?_set_self (by omega), List.take_add_one, hy, List.filter_append]
    simp [hk]
  · rw [List.drop_set_of_lt (by omega)]
    have := congrArg (List.drop 1) h.high
    rwa [List.drop_drop, List.drop_drop] at this

theorem DelI.skip {k : Ky} {L C : List JbP} {i j : Nat} (h : DelI k L C i j) {y : JbP} (hy : L[j]? = some y) (hk : isK k y.1 = true) : DelI k L C i (j + 1) := by
  have hj := (List.getElem?_eq_some_iff.1 hy).1
  have hlt := h.lt
  refine ⟨h.len, by omega, by omega, ?_, ?_⟩
  · rw [h.low, List.take_add_one, hy, List.filter_append]
    simp [hk]
  · have := congrArg (List.drop 1) h.high
    rwa [List.drop_drop, List.drop_drop] at this

theorem DelI.start {k : Ky} {L : List JbP} {j : Nat} (h1 : ∀ x ∈ L.take j, isK k x.1 = false) {y : JbP} (hy : L[j]? = some y) (hk : isK k y.1 = true) : DelI k L L j (j + 1) := by
  have hj := (List.getElem?_eq_some_iff.1 hy).1
  refine ⟨rfl, by omega, by omega, ?_, rfl⟩
  rw [List.take_add_one, hy, List.filter_append]
  have : (L.take j).filter (fun x => !isK k x.1) = L.take j := List.filter_eq_self.2 (fun x hx => by rw [h1 x hx]; rfl)
  rw [this]
  simp [hk]

set_option maxHeartbeats 8000000 in
theorem delete_any (k : Ky) (L : List JbP) (v : Value) (bk : Nat) (w : World) (h : OwR w v L) (hk : w.heap[bk]? = some (.cells (kcs k) 34 (0, 0))) (hkv : v.ownBlock ≠ some bk) (hl : L.length ≤ 1000000) (hs : SlV L) :
    Calls Try.prog 61 #[v, .func (.func 62) #[] #[.pointer (some ⟨bk, 0, none⟩)]] w fun x w' => ∃ a c n, x = .returned (.slice a n c) ∧ OwR w' (.slice a n c) (L.filter (fun x => !isK k x.1)) ∧ (Value.slice a n c).ownBlock = v.ownBlock ∧ Kp (fun b => v.ownBlock = some b) w w' := by
  have HIX : Hid _ := index_any k L v bk w h hk hl hs
  obtain ⟨a, c, rfl, hc1, hc2⟩ := h.slice
  obtain ⟨n, HN⟩ : ∃ n, Hid (L.length = n) := ⟨_, rfl⟩
  have HV : Hid (OwR w (.slice a n c) L) := by have h9 := h; rw [HN.out] at h9; exact h9
  have HKR : Hid _ := hk
  have HS : Hid _ := hs
  rw [HN.out] at hl hc1 HIX hkv ⊢
  have HKV : Hid _ := hkv
  clear h hk hs hkv
  go_enter Try.func61, Try.ntmps61
  go_wp2_with fail
  refine Calls.mono HIX.out ?_
  rintro x w1 ⟨r, rfl, hr, hb1⟩
  have HB1 : Hid _ := hb1
  clear hb1 HIX
  rcases hr with ⟨rfl, hall⟩ | ⟨j0, rfl, hj0, hlow, y0, hy0, hky0⟩
  · have HE : Hid (L.filter (fun x => !isK k x.1) = L) := List.filter_eq_self.2 (fun x hx => by rw [hall x hx]; rfl)
    clear hall
    go_wp2_with fail
    go_ret
    exact ⟨a, c, n, rfl, by rw [HE.out]; exact HV.out.later HB1.out, rfl, Kp.of_below _ HB1.out⟩
  · have HI0 : Hid _ := DelI.start hlow hy0 hky0
    obtain ⟨g, o, cap, he⟩ := HV.out.at' hy0
    have he1 := (Value.slice.inj he).1
    clear he
    subst he1
    have HKV2 : Hid (¬ bk = g) := fun e => HKV.out (by rw [e]; rfl)
    rw [HN.out] at hj0
    have hne : ((j0 : Int) == -1) = false := beq_eq_false_iff_ne.2 (by omega)
    clear hlow hy0 hky0 HKV
    go_wp2_with fail
    go_loopw [5, 6, 7] (fun s5 s6 s7 wr => ∃ (i j : Nat) (C : List JbP), s5 = .int .i64 i ∧ s6 = .int .i64 j ∧ j ≤ n ∧ Hid (DelI k L C i j) ∧ Hid (OwR wr (.slice (some ⟨g, o, none⟩) n c) C) ∧ Hid (Kp (fun b => b = g) w wr)) (fun _ s6 _ _ => n - (intOf s6).toNat)
    case atStart => exact ⟨j0, j0 + 1, L, rfl, by go_num, by omega, HI0, HV.out.later HB1.out, Kp.of_below _ HB1.out⟩
    case round =>
      obtain ⟨i, j, C, rfl, rfl, hj, HI, HO, HKp⟩ := hrel
      rename World => wr
      by_cases hlt : j < n
      · obtain ⟨y, hy⟩ : ∃ y, L[j]? = some y := ⟨_, List.getElem?_eq_getElem (by rw [HN.out]; exact hlt)⟩
        have hyC : C[j]? = some y := HI.out.get.trans hy
        have hij := HI.out.lt
        have hCl := HI.out.len
        rw [HN.out] at hCl
        obtain ⟨z, hz⟩ : ∃ z, C[i]? = some z := ⟨_, List.getElem?_eq_getElem (by omega)⟩
        obtain ⟨d0, d1, d2, d3, d4, d5⟩ := HO.out.jc hyC
        have HZ : Hid (∀ wx, Below wr.heap.size wr wx → JC wx g (o + i * 6) z ∧ ∀ m, wx.frozen? ⟨g, m, none⟩ = false) := fun wx hb => ⟨(HO.out.later hb).jc hz, fun m => (HO.out.later hb).frozen m⟩
        obtain ⟨sa, sn, sc, hsv⟩ := HS.out y (List.mem_of_getElem? hy)
        have HY : Hid _ := hy
        obtain ⟨⟨yi, yu, yt, yb, yk, ys⟩, yv⟩ := y
        dsimp only at *
        subst hsv
        have hji : (j : Int) < (n : Int) := by omega
        obtain ⟨q, hq⟩ : ∃ q, isK k ⟨yi, yu, yt, yb, yk, ys⟩ = q := ⟨_, rfl⟩
        have HQ : Hid _ := hq
        have HC : Hid (∀ w1, Below wr.heap.size wr w1 → Calls Try.prog 62 #[JV ⟨yi, yu, yt, yb, yk, ys⟩ (.slice sa sn sc), .pointer (some ⟨bk, 0, none⟩)] w1 fun x w' => x = .returned (.bool q) ∧ Below w1.heap.size w1 w') := fun w1 hb => by
          have := isK_any k ⟨yi, yu, yt, yb, yk, ys⟩ (.slice sa sn sc) bk w1 (row_later (HKp.out.row HKR.out HKV2.out) hb) rfl ⟨_, _, _, rfl⟩
          rw [hq] at this
          exact this
        unfold JV at HC
        clear hq hy hyC hz hCl
        cases q with
        | true =>
          go_wp2_with fail
          refine Calls.mono (HC.out _ (bl1 _ _)) ?_
          rintro x w2 ⟨rfl, hb2⟩
          have HB2 : Hid (Below wr.heap.size wr w2) := (bl1 _ _).trans (hb2.mono (by simp))
          have HI2 : Hid _ := HI.out.skip HY.out HQ.out
          clear hb2 HC HI
          go_wp2_with fail
          go_roundw
          case rel => exact ⟨i, j + 1, C, rfl, by go_num, by omega, HI2, HO.out.later HB2.out, HKp.out.later HB2.out⟩
          case measure => simp [intOf]; omega
        | false =>
          go_wp2_with fail
          refine Calls.mono (HC.out _ (bl1 _ _)) ?_
          rintro x w2 ⟨rfl, hb2⟩
          have HB2 : Hid (Below wr.heap.size wr w2) := (bl1 _ _).trans (hb2.mono (by simp))
          have HI2 : Hid _ := HI.out.keep HY.out HQ.out
          have r7 := row_later (row_new wr #[.int .i64 yi, .bool yu, .int .i64 yt, .bool yb, .int .i64 yk, .slice sa sn sc] 37) hb2
          obtain ⟨e0, e1, e2, e3, e4, e5⟩ := JC.of_row (e := ⟨yi, yu, yt, yb, yk, ys⟩) (v := .slice sa sn sc) r7
          obtain ⟨⟨z0, z1, z2, z3, z4, z5⟩, zf⟩ := HZ.out w2 HB2.out
          have hCi : i < C.length := by have := HI.out.len; have := HI.out.le; omega
          have HOs : Hid _ := (HO.out.later HB2.out).set hCi (⟨yi, yu, yt, yb, yk, ys⟩, .slice sa sn sc)
          have HKs : Hid _ := (HKp.out.later HB2.out).trans (set6_kept (fun b => b = g) w2 g (o + i * 6) (⟨yi, yu, yt, yb, yk, ys⟩, .slice sa sn sc) rfl) (fun _ h _ => h)
          have hin : (i : Int) < (n : Int) := by omega
          simp only [Nat.zero_add] at e0 e1 e2 e3 e4 e5
          clear hb2 HC HI HZ r7 hCi
          go_wp2_with fail
          go_roundw
          case rel => exact ⟨i + 1, j + 1, C.set i (⟨yi, yu, yt, yb, yk, ys⟩, .slice sa sn sc), by go_num, by go_num, by omega, HI2, HOs, HKs⟩
          case measure => simp [intOf]; omega
      · have hjn : j = n := by omega
        subst hjn
        have hCl := HI.out.len
        have hlt2 := HI.out.lt
        have hle2 := HI.out.le
        rw [HN.out] at hCl hle2
        have HF : Hid (C.take i = L.filter (fun x => !isK k x.1)) := by
          have := HI.out.low
          have e9 : L.take j = L := List.take_of_length_le (by rw [HN.out]; exact Nat.le_refl _)
          rw [e9] at this
          exact this
        have h1 : ∀ wx, (Instr.sliceAt 91 (.slice (some ⟨g, o, none⟩) j c) (some (.int .i64 (i : Nat))) none none).run Try.prog wx = .ok (.slice (some ⟨g, lowA o c i, none⟩) (j - i) (c - i)) wx := fun wx => by
          rw [run_sliceAt_slice wx 91 _ _ _ _ Try.underlying91, run_slice_l wx 91 _ j c Try.underlying91 .i64 (i : Nat) (by omega) (by omega), elem48]
          simp only [Result.andThen_ok, sliced, Int.toNat_natCast]
          unfold lowA
          split
          · rfl
          · rw [Option.map_some, add_at]
        have h2 : ∀ wx, (Instr.sliceAt 91 (.slice (some ⟨g, o, none⟩) j c) none (some (.int .i64 (i : Nat))) none).run Try.prog wx = .ok (.slice (some ⟨g, o, none⟩) i c) wx := fun wx => by
          rw [run_sliceAt_slice wx 91 _ _ _ _ Try.underlying91, run_slice_h wx 91 _ j c Try.underlying91 .i64 (i : Nat) (by omega) (by omega), elem48]
          simp only [Result.andThen_ok, sliced, Int.toNat_natCast, Nat.sub_zero, Nat.zero_mul]
          split
          · rfl
          · rw [Option.map_some, add_at]; rfl
        obtain ⟨w9, hcl, ho9, hk9⟩ := HO.out.clear (i := i) (by omega) 0
        have hcl2 : ∀ ty, (Builtin.clear_ #[91] ty #[.slice (some ⟨g, lowA o c i, none⟩) (j - i) (c - i)]).run Try.prog wr = .ok (.tuple #[]) w9 := fun ty => hcl
        have HO9 : Hid _ := ho9
        have HK9 : Hid _ := HKp.out.trans hk9 (fun _ h _ => h)
        clear HI HO HKp hcl ho9 hk9 hCl hlt2 hle2
        generalize lowA o c i = lo at *
        generalize j - i = d1 at *
        generalize c - i = d2 at *
        go_wp2_with fail
        go_ret
        exact ⟨_, c, i, rfl, by rw [← HF.out]; exact HO9.out, rfl, HK9.out.mono (fun b hb => by rw [hb]; rfl)⟩

end Go.Proofs.Ytfhmmiilenonkaa
