/- The program's Levels. -/
import Derived.Test.YtdbohfpkhidfiaaDoorRRQi
import Derived.Laws.Small
namespace Go.Proofs.YtdbohfpkhidfiaaDoorRR
open Go.RowKit

/-- A row of numbers of the call's own, in a block. -/
structure RowI (wc : World) (b : Nat) (R : List Nat) : Prop where
  row : wc.heap[b]? = some (.cells (ivs R).toArray 3 (0, 0))

theorem RowI.get {wc : World} {b : Nat} {R : List Nat} (h : RowI wc b R) (t : Nat) (ht : t < R.length) : wc.cell? ⟨b, t, none⟩ = some (.int .i64 ((R.getD t 0 : Nat) : Int)) ∧ wc.frozen? ⟨b, t, none⟩ = false := by
  have hg : R[t]? = some (R.getD t 0) := by rw [List.getD_eq_getElem?_getD, List.getElem?_eq_getElem ht]; rfl
  refine ⟨?_, froz_row h.row t⟩
  rw [cell_row h.row t, List.getElem?_toArray, ivs, List.getElem?_map, hg]
  rfl

theorem RowI.set {wc : World} {b : Nat} {R : List Nat} (h : RowI wc b R) (t x : Nat) : RowI (wc.setCell ⟨b, t, none⟩ (.int .i64 (x : Int))) b (R.set t x) := by
  refine ⟨?_⟩
  have := row_set h.row t (.int .i64 (x : Int))
  rw [show (ivs R).toArray.setIfInBounds t (.int .i64 (x : Int)) = (ivs (R.set t x)).toArray by simp [ivs, List.map_set]] at this
  exact this

theorem RowI.below {wc wd : World} {b : Nat} {R : List Nat} (h : RowI wc b R) (hb : Below wc.heap.size wc wd) : RowI wd b R := ⟨(hb.block b (Array.getElem?_eq_some_iff.1 h.row).1).trans h.row⟩
theorem RowI.drew {wc : World} {b : Nat} {R : List Nat} (h : RowI wc b R) : RowI wc.drew b R := ⟨h.row⟩

theorem RowI.rd {wc : World} {b : Nat} {R : List Nat} (h : RowI wc b R) : RdI wc (.slice (some ⟨b, 0, none⟩) R.length R.length) R := by
  refine ⟨_, _, rfl, Nat.le_refl _, fun i x hi => ⟨b, 0, rfl, ?_⟩⟩
  have hil := (List.getElem?_eq_some_iff.1 hi).1
  have := (h.get i hil).1
  rw [List.getD_eq_getElem?_getD, hi] at this
  rw [Nat.zero_add]
  exact this

theorem made_zeroI (m : Nat) : madeCells #[Value.int .i64 0] m = (ivs (List.replicate m 0)).toArray := by
  apply Array.toList_inj.1
  rw [toList_madeCells_one]
  simp [ivs]

/-- A node's level is above that of one on which it leans. -/
def levIn (v : Nat) (H : List Nat) (f : Nat) : List Nat := H.set v (max (H.getD v 0) (H.getD f 0 + 1))
def levOne (W : List Nat) (H : List Nat) (v : Nat) : List Nat := (bitsOf (W.getD v 0)).foldl (levIn v) H
def levP (W o : List Nat) : List Nat := o.foldl (levOne W) (List.replicate W.length 0)

theorem levIn_len (v : Nat) (l : List Nat) : ∀ H, (l.foldl (levIn v) H).length = H.length := by
  induction l with
  | nil => intro R; rfl
  | cons x l ih => intro R; rw [List.foldl_cons, ih]; simp [levIn]

theorem getD_le {H : List Nat} {B : Nat} (h : ∀ x ∈ H, x ≤ B) (t : Nat) : H.getD t 0 ≤ B := by
  rw [List.getD_eq_getElem?_getD]
  cases ht : H[t]? with
  | none => simp
  | some x => exact h x (List.mem_of_getElem? ht)

theorem levIn_le {H : List Nat} {B : Nat} (h : ∀ x ∈ H, x ≤ B) (v f : Nat) : ∀ x ∈ levIn v H f, x ≤ B + 1 := by
  intro x hx
  rcases List.mem_or_eq_of_mem_set hx with h1 | h1
  · have := h x h1; omega
  · have h2 := getD_le h v
    have h3 := getD_le h f
    omega

/-- How Levels ends. -/
def LevC (n : Int) (l : List (Int × Int)) (w : World) (e : Ending) (w' : World) : Prop := Below w.heap.size w w' ∧ match weaveP n l with
  | .bad c => e = .returned (.tuple #[.slice none 0 0, .int .i64 c])
  | .ok W o => ∃ v, e = .returned (.tuple #[v, .int .i64 0]) ∧ RdI w' v (levP W o) ∧ (levP W o).length = n.toNat

theorem max_int (x y : Nat) (m : Nat) (h : max x (y + 1) = m) : ∀ (ts : Array TypeId) (t : TypeId) (w : World), (Builtin.max_ ts t #[.int .i64 (x : Int), .int .i64 ((y : Int) + 1)]).run Tryd.prog w = .ok (.int .i64 (m : Int)) w := by
  intro ts t w
  rw [run_max_int2]
  congr 2
  subst h
  split <;> omega

set_option maxRecDepth 1000000 in
set_option maxHeartbeats 4000000 in
theorem Levels_any (n : Int) (v : Value) (l : List (Int × Int)) (w : World) (hl : RdA w v l) (hT : Tab w) :
    Calls Tryd.prog 11 #[.int .i64 n, v] w fun e w' => LevC n l w e w' := by
  have M : Hid (Calls Tryd.prog 19 #[.int .i64 n, v] w fun e w' => WvC n l w e w') := weave_any n v l w hl hT
  have HT : Hid (Tab w) := hT
  obtain ⟨a, cap, rfl, _⟩ := hl
  clear hT
  unfold WvC at M
  unfold LevC
  cases hP : weaveP n l with
  | bad c =>
    rw [hP] at M
    have hc : ((c == 0)) = false := by rcases weaveP_code hP with rfl | rfl <;> rfl
    go_enter Tryd.func11, Tryd.ntmps11
    go_wp2_with fail
    refine Calls.mono M.out ?_
    rintro e w1 ⟨hb, rfl⟩
    go_wp2_with fail
    go_ret2
    exact ⟨hb, rfl⟩
  | ok W o =>
    rw [hP] at M
    obtain ⟨⟨hn0, hn64⟩, _, _, hWok, hWl, hOk, hol⟩ := weave_facts hP
    obtain ⟨n, rfl⟩ : ∃ m : Nat, n = (m : Int) := ⟨n.toNat, by omega⟩
    simp only [Int.toNat_natCast] at hWl hol M ⊢
    have hn : n ≤ 64 := by omega
    obtain ⟨i0, hi0, hz0, hz1, hz2⟩ := info_parts Tryd.info3
    have HN : Hid (W.length = n) := hWl
    have HM : Hid (o.length = n) := hol
    have HOk : Hid (WebOk W) := hWok
    have HOl : Hid (∀ x ∈ o, x < n) := by show ∀ x ∈ o, _; intro x hx; rw [← hWl]; exact hOk.lt x hx
    clear hn0 hn64 hWok hOk hWl hol
    go_enter Tryd.func11, Tryd.ntmps11
    go_wp2_with fail
    refine Calls.mono M.out ?_
    rintro e w1 ⟨hb, v1, v2, rfl, hU, hI, h1, h2⟩
    have hmk := run_make (P := Tryd.prog) w1 25 3 i0 _ Tryd.underlying25 hi0 hz0 .i64 .i64 (n : Int) (n : Int) (by omega) (by omega) (by rw [hz2]; omega) (by omega)
    simp only [hz1, Int.toNat_natCast, Nat.mul_one] at hmk
    have HB1 : Hid (Below w.heap.size w w1) := hb
    have HB0 : Hid (Below w1.heap.size w1 (w1.alloc (.cells (madeCells #[Value.int .i64 0] n) 3))) := (Below.refl _ _).alloc (Nat.le_refl _) _
    have HRow0 : Hid (RowI (w1.alloc (.cells (madeCells #[Value.int .i64 0] n) 3)) w1.heap.size (List.replicate n 0)) := ⟨by rw [← made_zeroI]; exact row_new w1 _ 3⟩
    have HZ0 : Hid (w1.heap.size < (w1.alloc (.cells (madeCells #[Value.int .i64 0] n) 3)).heap.size) := by show _ < _; simp
    have HT1 : Hid (Tab w1) := HT.out.later hb
    have HE0 : Hid (levP W o = o.foldl (levOne W) (List.replicate n 0)) := by show _ = _; unfold levP; rw [HN.out]
    obtain ⟨a1, cap1, rfl, hc1, hl1, hr1⟩ := hU
    obtain ⟨a2, cap2, rfl, hc2, hr2⟩ := hI
    have HR1 : Hid _ := hr1
    have HR2 : Hid _ := hr2
    have HL1 : Hid _ := hl1
    rw [HN.out] at hc1 ⊢
    rw [HM.out] at hc2 ⊢
    clear hr1 hr2 hl1 hb h1 h2 M HT
    go_wp2_with fail
    generalize w1.alloc (.cells (madeCells #[Value.int .i64 0] n) 3) = w2 at *
    go_loopw [11, 13, 28, 38] (fun _ _ iv _ wr => ∃ (k : Nat) (R : List Nat), k ≤ n ∧ iv = .int .i64 k ∧ Hid (RowI wr w1.heap.size R) ∧ Hid (R.length = n) ∧ Hid ((o.take k).foldl (levOne W) (List.replicate n 0) = R) ∧ Hid (∀ x ∈ R, x ≤ k * 64) ∧ Hid (Below w1.heap.size w1 wr) ∧ Hid (w1.heap.size < wr.heap.size)) (fun _ _ iv _ _ => n - (intOf iv).toNat)
    case atStart => exact ⟨0, List.replicate n 0, Nat.zero_le _, rfl, HRow0, by show _ = _; simp, by show (o.take 0).foldl _ _ = _; rfl, fun x hx => by have := (List.mem_replicate.1 hx).2; omega, HB0, HZ0⟩
    case round =>
      obtain ⟨k, R, hk, rfl, HRow, HRl, HE, HLe, HB, HZ⟩ := hrel
      rename World => w3
      clear HRow0 HB0 HZ0 hmk
      by_cases hlt : k < n
      · obtain ⟨x, hx⟩ : ∃ x, o[k]? = some x := ⟨_, List.getElem?_eq_getElem (by rw [HM.out]; exact hlt)⟩
        have hxn : x < n := HOl.out x (List.mem_of_getElem? hx)
        obtain ⟨b2, o2, rfl, c2⟩ := HR2.out k x hx
        have d2 := (World.cell?_of_block (a := ⟨b2, o2 + k, none⟩) (HB.out.block b2 (lt_of_cell? c2))).trans c2
        obtain ⟨y, hy⟩ : ∃ y, W[x]? = some y := ⟨_, List.getElem?_eq_getElem (by rw [HN.out]; exact hxn)⟩
        have hyW : W.getD x 0 = y := by rw [List.getD_eq_getElem?_getD, hy]; rfl
        have hy64 := HL1.out y (List.mem_of_getElem? hy)
        obtain ⟨b1, o1, rfl, c1⟩ := HR1.out x y hy
        have d1 := (World.cell?_of_block (a := ⟨b1, o1 + x, none⟩) (HB.out.block b1 (lt_of_cell? c1))).trans c1
        have M2 : Hid _ := nodes_any y hy64 w3 (HT1.out.later HB.out)
        have HE2 : Hid ((o.take (k + 1)).foldl (levOne W) (List.replicate n 0) = (bitsOf y).foldl (levIn x) R) := by
          show _ = _
          rw [List.take_add_one, hx]
          simp only [Option.toList_some, List.foldl_append, HE.out, List.foldl_cons, List.foldl_nil, levOne, hyW]
        have HBn : Hid (∀ f ∈ bitsOf y, f < n) := by
          show ∀ f ∈ bitsOf y, _
          intro f hf
          rw [← HN.out]
          exact HOk.out y (List.mem_of_getElem? hy) f ((mem_bitsOf hy64).1 hf)
        have hbl := bitsOf_len y
        have hki : (k : Int) < (n : Int) := by omega
        have hxi : (x : Int) < (n : Int) := by omega
        clear hx hy hyW c1 c2 HE HOl
        go_wp2_with fail
        refine Calls.mono M2.out ?_
        rintro e w4 ⟨nv, rfl, hb4, hown⟩
        have hRI := RdF.of_own HZ.out hown
        obtain ⟨na, nc, rfl, hnc, hnr⟩ := hRI
        have HNR : Hid _ := hnr
        have HRow4 : Hid _ := HRow.out.below hb4
        have HB4 : Hid (Below w1.heap.size w1 w4) := HB.out.trans (hb4.mono HB.out.size)
        have HZ4 : Hid (w1.heap.size < w4.heap.size) := by have := hb4.size; have := HZ.out; show _ < _; omega
        obtain ⟨q, HQ⟩ : ∃ q, Hid ((bitsOf y).length = q) := ⟨_, rfl⟩
        rw [HQ.out] at hbl hnc ⊢
        clear hnr hown hb4 HRow M2 d1 d2 HB HZ
        go_wp2_with fail
        go_loopw [13, 38] (fun _ jv wr => ∃ (j : Nat) (R2 : List Nat), j ≤ q ∧ jv = .int .i64 j ∧ Hid (RowI wr w1.heap.size R2) ∧ Hid (R2.length = n) ∧ Hid (((bitsOf y).take j).foldl (levIn x) R = R2) ∧ Hid (∀ z ∈ R2, z ≤ k * 64 + j) ∧ Hid (Below w1.heap.size w1 wr) ∧ Hid (w1.heap.size < wr.heap.size) ∧ Hid (∀ b, w1.heap.size < b → b < w4.heap.size → wr.heap[b]? = w4.heap[b]?)) (fun _ jv _ => q - (intOf jv).toNat)
        case atStart => exact ⟨0, R, Nat.zero_le _, rfl, HRow4, HRl, by show ((bitsOf y).take 0).foldl _ _ = _; rfl, HLe, HB4, HZ4, fun _ _ _ => rfl⟩
        case round =>
          obtain ⟨j, R2, hj, rfl, HRw, HRn, HEj, HLj, HBj, HZj, HKj⟩ := hrel
          rename World => w5
          clear HRow4 HB4 HRl HLe
          by_cases hjl : j < q
          · obtain ⟨f, hf⟩ : ∃ f, (bitsOf y)[j]? = some f := ⟨_, List.getElem?_eq_getElem (by rw [HQ.out]; exact hjl)⟩
            have hfn := HBn.out f (List.mem_of_getElem? hf)
            obtain ⟨b5, o5, rfl, hb5, c5⟩ := HNR.out j f hf
            have d5 : w5.cell? ⟨b5, o5 + j, none⟩ = some (.int .i64 (f : Int)) := (World.cell?_of_block (a := ⟨b5, o5 + j, none⟩) (HKj.out b5 hb5 (lt_of_cell? c5))).trans c5
            obtain ⟨t1, t2⟩ := HRw.out.get x (by rw [HRn.out]; exact hxn)
            obtain ⟨s1, s2⟩ := HRw.out.get f (by rw [HRn.out]; exact hfn)
            have l1 := getD_le HLj.out x
            have l2 := getD_le HLj.out f
            have hL2 : ∀ z ∈ R2.set x (max (R2.getD x 0) (R2.getD f 0 + 1)), z ≤ k * 64 + (j + 1) := levIn_le HLj.out x f
            obtain ⟨mx, hmx⟩ : ∃ mx, max (R2.getD x 0) (R2.getD f 0 + 1) = mx := ⟨_, rfl⟩
            have hmax := max_int _ _ _ hmx
            rw [hmx] at hL2
            have HLj2 : Hid (∀ z ∈ R2.set x mx, z ≤ k * 64 + (j + 1)) := hL2
            have HRw2 : Hid (RowI (w5.setCell ⟨w1.heap.size, x, none⟩ (.int .i64 (mx : Int))).drew w1.heap.size (R2.set x mx)) := (HRw.out.set x mx).drew
            have HBj2 : Hid (Below w1.heap.size w1 (w5.setCell ⟨w1.heap.size, x, none⟩ (.int .i64 (mx : Int))).drew) := bl_drawn1 (HBj.out.setCell (p := ⟨w1.heap.size, x, none⟩) (Nat.le_refl _) _)
            have HZj2 : Hid (w1.heap.size < (w5.setCell ⟨w1.heap.size, x, none⟩ (.int .i64 (mx : Int))).drew.heap.size) := by show _ < (w5.setCell _ _).heap.size; have := HZj.out; simpa using this
            have HKj2 : Hid (∀ b, w1.heap.size < b → b < w4.heap.size → (w5.setCell ⟨w1.heap.size, x, none⟩ (.int .i64 (mx : Int))).drew.heap[b]? = w4.heap[b]?) := fun b h1 h2 => (Below.heap_setCell w5 ⟨w1.heap.size, x, none⟩ _ b (by show b ≠ w1.heap.size; omega)).trans (HKj.out b h1 h2)
            have HEj2 : Hid (((bitsOf y).take (j + 1)).foldl (levIn x) R = R2.set x mx) := by
              show _ = _
              rw [List.take_add_one, hf]
              simp only [Option.toList_some, List.foldl_append, HEj.out, List.foldl_cons, List.foldl_nil, levIn, hmx]
            have HRn2 : Hid ((R2.set x mx).length = n) := by show _ = _; rw [List.length_set]; exact HRn.out
            have hji : (j : Int) < (q : Int) := by omega
            have hfi : (f : Int) < (n : Int) := by omega
            clear hf c5 HRw HEj HBj HZj HKj HRn HLj hL2 hmx
            generalize R2.getD x 0 = rx at *
            generalize R2.getD f 0 = rf at *
            go_wp2_with fail
            go_region
            all_goals
              go_wp2_with (simp only [hmax])
              go_roundw
              case rel => exact ⟨j + 1, _, by omega, by go_num, HRw2, HRn2, HEj2, HLj2, HBj2, HZj2, HKj2⟩
              case measure => simp [intOf]; omega
          · have hjq : j = q := by omega
            subst hjq
            have HE3 : Hid ((o.take (k + 1)).foldl (levOne W) (List.replicate n 0) = R2) := by
              have h1 := HEj.out
              rw [List.take_of_length_le (by rw [HQ.out]; exact Nat.le_refl _)] at h1
              show _ = _
              rw [HE2.out, h1]
            have HL3 : Hid (∀ z ∈ R2, z ≤ (k + 1) * 64) := fun z hz => by have := HLj.out z hz; omega
            go_wp2_with fail
            go_roundw
            case rel => exact ⟨k + 1, R2, by omega, by go_num, HRw, HRn, HE3, HL3, HBj, HZj⟩
            case measure => simp [intOf]; omega
      · have hkm : k = n := by omega
        subst hkm
        have HF : Hid (levP W o = R) := by
          have h1 := HE.out
          rw [List.take_of_length_le (by rw [HM.out]; exact Nat.le_refl _)] at h1
          show _ = _
          rw [HE0.out, h1]
        go_wp2_with fail
        go_ret2
        refine ⟨HB1.out.trans (HB.out.mono HB1.out.size), _, rfl, ?_, by rw [HF.out]; exact HRl.out⟩
        rw [HF.out]
        have h9 := HRow.out.rd
        rw [HRl.out] at h9
        exact h9
end Go.Proofs.YtdbohfpkhidfiaaDoorRR
