/- Texts of the seat, packed: DQg DPb DQi DPk DPc. -/
import Derived.Test.YtlegmmhacnbnlaaGreatDoorP11
/- The program's weave at any arcs; Order; reach. -/
namespace Go.Proofs.YtlegmmhacnbnlaaGreatDoor.Dg

open Go.RowKit

theorem weave_any (n : Int) (v : Value) (l : List (Int × Int)) (w : World) (hl : RdA w v l) (hT : Tab w) :
    Calls Tryz.prog 45 #[.int .i64 n, v] w fun e w' => WvC n l w e w' := by
  by_cases h : n < 0 ∨ 64 < n ∨ 4096 < l.length
  · exact weave_early n v l w hl h
  · obtain ⟨m, rfl⟩ : ∃ m : Nat, n = (m : Int) := ⟨n.toNat, by omega⟩
    exact weave_main m v l w hl (by omega) (by omega) hT

/-- A row of sets of the call's own, in a block. -/
structure RowU (wc : World) (b : Nat) (R : List Nat) : Prop where
  row : wc.heap[b]? = some (.cells (uvs R).toArray 103 (0, 0))
  lt : ∀ x ∈ R, x < 18446744073709551616

theorem RowU.get {wc : World} {b : Nat} {R : List Nat} (h : RowU wc b R) (t : Nat) (ht : t < R.length) : wc.cell? ⟨b, t, none⟩ = some (.int .u64 ((R.getD t 0 : Nat) : Int)) ∧ wc.frozen? ⟨b, t, none⟩ = false ∧ R.getD t 0 < 18446744073709551616 := by
  have hg : R[t]? = some (R.getD t 0) := by rw [List.getD_eq_getElem?_getD, List.getElem?_eq_getElem ht]; rfl
  refine ⟨?_, froz_row h.row t, h.lt _ (List.mem_of_getElem? hg)⟩
  rw [cell_row h.row t, List.getElem?_toArray, uvs, List.getElem?_map, hg]
  rfl

theorem RowU.set {wc : World} {b : Nat} {R : List Nat} (h : RowU wc b R) (t x : Nat) (hx : x < 18446744073709551616) : RowU (wc.setCell ⟨b, t, none⟩ (.int .u64 (x : Int))) b (R.set t x) := by
  refine ⟨?_, ?_⟩
  · have := row_set h.row t (.int .u64 (x : Int))
    rw [show (uvs R).toArray.setIfInBounds t (.int .u64 (x : Int)) = (uvs (R.set t x)).toArray by simp [uvs, List.map_set]] at this
    exact this
  · intro y hy
    rcases List.mem_or_eq_of_mem_set hy with h1 | h1
    · exact h.lt y h1
    · rw [h1]; exact hx

theorem RowU.below {wc wd : World} {b : Nat} {R : List Nat} (h : RowU wc b R) (hb : Below wc.heap.size wc wd) : RowU wd b R := ⟨(hb.block b (Array.getElem?_eq_some_iff.1 h.row).1).trans h.row, h.lt⟩

theorem RowU.drew {wc : World} {b : Nat} {R : List Nat} (h : RowU wc b R) : RowU wc.drew b R := ⟨h.row, h.lt⟩

theorem RowU.rd {wc : World} {b : Nat} {R : List Nat} (h : RowU wc b R) : RdU wc (.slice (some ⟨b, 0, none⟩) R.length R.length) R := by
  refine ⟨_, _, rfl, Nat.le_refl _, h.lt, fun i x hi => ⟨b, 0, rfl, ?_⟩⟩
  have hil := (List.getElem?_eq_some_iff.1 hi).1
  have := (h.get i hil).1
  rw [List.getD_eq_getElem?_getD, hi] at this
  rw [Nat.zero_add]
  exact this

/-- How Order ends. -/
def OrderC (n : Int) (l : List (Int × Int)) (w : World) (e : Ending) (w' : World) : Prop := Below w.heap.size w w' ∧ match weaveP n l with
  | .bad c => e = .returned (.tuple #[.slice none 0 0, .int .i64 c])
  | .ok _ o => ∃ v, e = .returned (.tuple #[v, .int .i64 0]) ∧ RdI w' v o ∧ o.length = n.toNat

set_option maxRecDepth 1000000 in
theorem Order_any (n : Int) (v : Value) (l : List (Int × Int)) (w : World) (hl : RdA w v l) (hT : Tab w) :
    Calls Tryz.prog 97 #[.int .i64 n, v] w fun e w' => OrderC n l w e w' := by
  have M : Hid (Calls Tryz.prog 45 #[.int .i64 n, v] w fun e w' => WvC n l w e w') := weave_any n v l w hl hT
  obtain ⟨a, cap, rfl, _⟩ := hl
  unfold WvC at M
  unfold OrderC
  cases hP : weaveP n l with
  | bad c =>
    rw [hP] at M
    go_enter Tryz.func97, Tryz.ntmps97
    go_wp2_with fail
    refine Calls.mono M.out ?_
    rintro e w1 ⟨hb, rfl⟩
    go_wp2_with fail
    go_ret2
    exact ⟨hb, rfl⟩
  | ok W o =>
    rw [hP] at M
    go_enter Tryz.func97, Tryz.ntmps97
    go_wp2_with fail
    refine Calls.mono M.out ?_
    rintro e w1 ⟨hb, v1, v2, rfl, hU, hI, h1, h2⟩
    go_wp2_with fail
    go_ret2
    exact ⟨hb, v2, rfl, hI, h2⟩

/-- One node's: those from which a chain leads to it over one on which it leans. -/
def orIn (v : Nat) (R : List Nat) (f : Nat) : List Nat := R.set v (R.getD v 0 ||| R.getD f 0)

def reachOne (W : List Nat) (R : List Nat) (v : Nat) : List Nat := (bitsOf (W.getD v 0)).foldl (orIn v) (R.set v (W.getD v 0))

def reachP (W o : List Nat) : List Nat := o.foldl (reachOne W) (List.replicate W.length 0)

/-- A web's sets hold nodes alone. -/
def WebOk (W : List Nat) : Prop := ∀ x ∈ W, ∀ i, x.testBit i = true → i < W.length

set_option maxRecDepth 1000000 in
set_option maxHeartbeats 2000000 in
theorem reach_any (W o : List Nat) (v1 v2 : Value) (w : World) (hW : RdU w v1 W) (hO : RdI w v2 o) (hn : W.length ≤ 64) (hol : o.length ≤ 64) (hok : WebOk W) (ho : ∀ x ∈ o, x < W.length) (hT : Tab w) :
    Calls Tryz.prog 46 #[v1, v2] w fun e w' => Below w.heap.size w w' ∧ ∃ b, w.heap.size ≤ b ∧ e = .returned (.slice (some ⟨b, 0, none⟩) W.length W.length) ∧ RowU w' b (reachP W o) ∧ (reachP W o).length = W.length := by
  obtain ⟨i0, hi0, hz0, hz1, hz2⟩ := info_parts Tryz.info103
  have HW : Hid (RdU w v1 W) := hW
  have HO : Hid (RdI w v2 o) := hO
  have HT : Hid (Tab w) := hT
  have HOk : Hid (WebOk W) := hok
  have HOl : Hid (∀ x ∈ o, x < W.length) := ho
  obtain ⟨a1, cap1, rfl, hc1, hl1, hr1⟩ := hW
  obtain ⟨a2, cap2, rfl, hc2, hr2⟩ := hO
  have HR1 : Hid _ := hr1
  have HR2 : Hid _ := hr2
  have HL1 : Hid _ := hl1
  obtain ⟨n, HN⟩ : ∃ n, Hid (W.length = n) := ⟨_, rfl⟩
  obtain ⟨m, HM⟩ : ∃ m, Hid (o.length = m) := ⟨_, rfl⟩
  rw [HN.out] at hn hc1 HOl ⊢
  rw [HM.out] at hol hc2 ⊢
  have hmk := run_make (P := Tryz.prog) w 97 103 i0 _ Tryz.underlying97 hi0 hz0 .i64 .i64 (n : Int) (n : Int) (by omega) (by omega) (by rw [hz2]; omega) (by omega)
  simp only [hz1, Int.toNat_natCast, Nat.mul_one] at hmk
  have HRow0 : Hid (RowU (w.alloc (.cells (madeCells #[Value.int .u64 0] n) 103)) w.heap.size (List.replicate n 0)) := ⟨by rw [← made_zero]; exact row_new w _ 103, fun x hx => by have := (List.mem_replicate.1 hx).2; omega⟩
  have HB0 : Hid (Below w.heap.size w (w.alloc (.cells (madeCells #[Value.int .u64 0] n) 103))) := (Below.refl _ _).alloc (Nat.le_refl _) _
  have HE0 : Hid (reachP W o = o.foldl (reachOne W) (List.replicate n 0)) := by show _ = _; unfold reachP; rw [HN.out]
  have HZ0 : Hid (w.heap.size < (w.alloc (.cells (madeCells #[Value.int .u64 0] n) 103)).heap.size) := by show _ < _; simp
  clear hr1 hr2 hl1 hok ho hT
  go_enter Tryz.func46, Tryz.ntmps46
  go_wp2_with fail
  go_loopw [7, 9, 15, 30, 31, 32] (fun _ _ iv _ _ _ wr => ∃ (k : Nat) (R : List Nat), k ≤ m ∧ iv = .int .i64 k ∧ Hid (RowU wr w.heap.size R) ∧ Hid (R.length = n) ∧ Hid ((o.take k).foldl (reachOne W) (List.replicate n 0) = R) ∧ Hid (Below w.heap.size w wr) ∧ Hid (w.heap.size < wr.heap.size)) (fun _ _ iv _ _ _ _ => m - (intOf iv).toNat)
  case atStart => exact ⟨0, List.replicate n 0, Nat.zero_le _, rfl, HRow0, by show _ = _; simp, by show (o.take 0).foldl _ _ = _; rfl, HB0, HZ0⟩
  case round =>
    obtain ⟨k, R, hk, rfl, HRow, HRl, HE, HB, HZ⟩ := hrel
    rename World => w1
    clear HRow0 HB0 HZ0 hmk
    by_cases hlt : k < m
    · obtain ⟨x, hx⟩ : ∃ x, o[k]? = some x := ⟨_, List.getElem?_eq_getElem (by rw [HM.out]; exact hlt)⟩
      have hxn : x < n := HOl.out x (List.mem_of_getElem? hx)
      obtain ⟨b2, o2, rfl, c2⟩ := HR2.out k x hx
      have d2 := (World.cell?_of_block (a := ⟨b2, o2 + k, none⟩) (HB.out.block b2 (lt_of_cell? c2))).trans c2
      obtain ⟨y, hy⟩ : ∃ y, W[x]? = some y := ⟨_, List.getElem?_eq_getElem (by rw [HN.out]; exact hxn)⟩
      have hyW : W.getD x 0 = y := by rw [List.getD_eq_getElem?_getD, hy]; rfl
      have hy64 := HL1.out y (List.mem_of_getElem? hy)
      obtain ⟨b1, o1, rfl, c1⟩ := HR1.out x y hy
      have hb1 : b1 < w.heap.size := lt_of_cell? c1
      have d1 := (World.cell?_of_block (a := ⟨b1, o1 + x, none⟩) (HB.out.block b1 hb1)).trans c1
      obtain ⟨r1, r2, r3⟩ := HRow.out.get x (by rw [HRl.out]; exact hxn)
      have HRow2 : Hid (RowU (w1.setCell ⟨w.heap.size, x, none⟩ (.int .u64 (y : Int))) w.heap.size (R.set x y)) := HRow.out.set x y hy64
      have HB2 : Hid (Below w.heap.size w (w1.setCell ⟨w.heap.size, x, none⟩ (.int .u64 (y : Int)))) := HB.out.setCell (p := ⟨w.heap.size, x, none⟩) (Nat.le_refl _) _
      have hne : b1 ≠ w.heap.size := by omega
      have d1' : (w1.setCell ⟨w.heap.size, x, none⟩ (.int .u64 (y : Int))).cell? ⟨b1, o1 + x, none⟩ = some (.int .u64 (y : Int)) := (World.cell?_of_block (a := ⟨b1, o1 + x, none⟩) (Below.heap_setCell w1 ⟨w.heap.size, x, none⟩ _ b1 hne)).trans d1
      have hz2 : w.heap.size < (w1.setCell ⟨w.heap.size, x, none⟩ (.int .u64 (y : Int))).heap.size := by have := HZ.out; simpa using this
      have M2 : Hid _ := nodes_any y hy64 (w1.setCell ⟨w.heap.size, x, none⟩ (.int .u64 (y : Int))) (HT.out.later HB2.out)
      have HE2 : Hid ((o.take (k + 1)).foldl (reachOne W) (List.replicate n 0) = (bitsOf y).foldl (orIn x) (R.set x y)) := by
        show _ = _
        rw [List.take_add_one, hx]
        simp only [Option.toList_some, List.foldl_append, HE.out, List.foldl_cons, List.foldl_nil, reachOne, hyW]
      have HBn : Hid (∀ f ∈ bitsOf y, f < n) := by
        show ∀ f ∈ bitsOf y, _
        intro f hf
        rw [← HN.out]
        exact HOk.out y (List.mem_of_getElem? hy) f ((mem_bitsOf hy64).1 hf)
      have hbl := bitsOf_len y
      have hki : (k : Int) < (m : Int) := by omega
      have hxi : (x : Int) < (n : Int) := by omega
      have HRl2 : Hid ((R.set x y).length = n) := by show _ = _; rw [List.length_set]; exact HRl.out
      clear hx hy hyW c1 c2 HRow HE HRl HOl
      go_wp2_with fail
      refine Calls.mono M2.out ?_
      generalize w1.setCell ⟨w.heap.size, x, none⟩ (.int .u64 (y : Int)) = w2 at *
      rintro e w3 ⟨nv, rfl, hb3, hown⟩
      have hRI := RdI.of_own hown
      obtain ⟨na, nc, rfl, hnc, hnr⟩ := hRI
      have HNR : Hid _ := hnr
      have HRow3 : Hid _ := HRow2.out.below hb3
      have HB3 : Hid (Below w.heap.size w w3) := HB2.out.trans (hb3.mono HB2.out.size)
      have HZ3 : Hid (w.heap.size < w3.heap.size) := by have := hb3.size; show _ < _; omega
      obtain ⟨q, HQ⟩ : ∃ q, Hid ((bitsOf y).length = q) := ⟨_, rfl⟩
      have HNW : Hid (∀ (j f : Nat), (bitsOf y)[j]? = some f → ∀ b off, na = some ⟨b, off, none⟩ → w.heap.size < b) := by
        show ∀ (j f : Nat), _
        intro j f hj b off hab
        have := (hown.lt b (by rw [hab]; rfl)).1
        omega
      rw [HQ.out] at hbl hnc ⊢
      clear hnr hown hb3 HRow2 HB2 M2 r1 r2 r3 d1 d1' d2 hz2 HB HZ
      go_wp2_with fail
      go_loopw [9, 32] (fun _ jv wr => ∃ (j : Nat) (R2 : List Nat), j ≤ q ∧ jv = .int .i64 j ∧ Hid (RowU wr w.heap.size R2) ∧ Hid (R2.length = n) ∧ Hid (((bitsOf y).take j).foldl (orIn x) (R.set x y) = R2) ∧ Hid (Below w.heap.size w wr) ∧ Hid (w.heap.size < wr.heap.size) ∧ Hid (∀ b, w.heap.size < b → b < w3.heap.size → wr.heap[b]? = w3.heap[b]?)) (fun _ jv _ => q - (intOf jv).toNat)
      case atStart => exact ⟨0, R.set x y, Nat.zero_le _, rfl, HRow3, HRl2, by show ((bitsOf y).take 0).foldl _ _ = _; rfl, HB3, HZ3, fun _ _ _ => rfl⟩
      case round =>
        obtain ⟨j, R2, hj, rfl, HRw, HRn, HEj, HBj, HZj, HKj⟩ := hrel
        rename World => w4
        clear HRow3 HB3 HRl2
        by_cases hjl : j < q
        · obtain ⟨f, hf⟩ : ∃ f, (bitsOf y)[j]? = some f := ⟨_, List.getElem?_eq_getElem (by rw [HQ.out]; exact hjl)⟩
          have hfn := HBn.out f (List.mem_of_getElem? hf)
          obtain ⟨b5, o5, rfl, c5⟩ := HNR.out j f hf
          have hb5 := HNW.out j f hf b5 o5 rfl
          have d5 : w4.cell? ⟨b5, o5 + j, none⟩ = some (.int .i64 (f : Int)) := (World.cell?_of_block (a := ⟨b5, o5 + j, none⟩) (HKj.out b5 hb5 (lt_of_cell? c5))).trans c5
          obtain ⟨t1, t2, t3⟩ := HRw.out.get x (by rw [HRn.out]; exact hxn)
          obtain ⟨s1, s2, s3⟩ := HRw.out.get f (by rw [HRn.out]; exact hfn)
          have e1 := bits_or_u64_nat (R2.getD x 0) (R2.getD f 0) t3 s3
          have hor := or_lt t3 s3
          have HRw2 : Hid (RowU (w4.setCell ⟨w.heap.size, x, none⟩ (.int .u64 ((R2.getD x 0 ||| R2.getD f 0 : Nat) : Int))).drew w.heap.size (R2.set x (R2.getD x 0 ||| R2.getD f 0))) := (HRw.out.set x _ hor).drew
          have HBj2 : Hid (Below w.heap.size w (w4.setCell ⟨w.heap.size, x, none⟩ (.int .u64 ((R2.getD x 0 ||| R2.getD f 0 : Nat) : Int))).drew) := bl_drawn1 (HBj.out.setCell (p := ⟨w.heap.size, x, none⟩) (Nat.le_refl _) _)
          have HZj2 : Hid (w.heap.size < (w4.setCell ⟨w.heap.size, x, none⟩ (.int .u64 ((R2.getD x 0 ||| R2.getD f 0 : Nat) : Int))).drew.heap.size) := by show _ < (w4.setCell _ _).heap.size; have := HZj.out; simpa using this
          have HKj2 : Hid (∀ b, w.heap.size < b → b < w3.heap.size → (w4.setCell ⟨w.heap.size, x, none⟩ (.int .u64 ((R2.getD x 0 ||| R2.getD f 0 : Nat) : Int))).drew.heap[b]? = w3.heap[b]?) := fun b h1 h2 => (Below.heap_setCell w4 ⟨w.heap.size, x, none⟩ _ b (by show b ≠ w.heap.size; omega)).trans (HKj.out b h1 h2)
          have HEj2 : Hid (((bitsOf y).take (j + 1)).foldl (orIn x) (R.set x y) = R2.set x (R2.getD x 0 ||| R2.getD f 0)) := by
            show _ = _
            rw [List.take_add_one, hf]
            simp only [Option.toList_some, List.foldl_append, HEj.out, List.foldl_cons, List.foldl_nil, orIn]
          have HRn2 : Hid ((R2.set x (R2.getD x 0 ||| R2.getD f 0)).length = n) := by show _ = _; rw [List.length_set]; exact HRn.out
          have hji : (j : Int) < (q : Int) := by omega
          have hfi : (f : Int) < (n : Int) := by omega
          clear hf c5 HRw HEj HBj HZj HKj HRn
          generalize R2.getD x 0 = rx at *
          generalize R2.getD f 0 = rf at *
          go_wp2_with fail
          go_region
          all_goals
            go_wp2_with fail
            go_roundw
            case rel => exact ⟨j + 1, _, by omega, by go_num, HRw2, HRn2, HEj2, HBj2, HZj2, HKj2⟩
            case measure => simp [intOf]; omega
        · have hjq : j = q := by omega
          subst hjq
          have HE3 : Hid ((o.take (k + 1)).foldl (reachOne W) (List.replicate n 0) = R2) := by
            have h1 := HEj.out
            rw [List.take_of_length_le (by rw [HQ.out]; exact Nat.le_refl _)] at h1
            show _ = _
            rw [HE2.out, h1]
          go_wp2_with fail
          go_roundw
          case rel => exact ⟨k + 1, R2, by omega, by go_num, HRw, HRn, HE3, HBj, HZj⟩
          case measure => simp [intOf]; omega
    · have hkm : k = m := by omega
      subst hkm
      have HF : Hid (reachP W o = R) := by
        have h1 := HE.out
        rw [List.take_of_length_le (by rw [HM.out]; exact Nat.le_refl _)] at h1
        show _ = _
        rw [HE0.out, h1]
      go_wp2_with fail
      go_ret
      exact ⟨HB.out, w.heap.size, Nat.le_refl _, rfl, by rw [HF.out]; exact HRow.out, by rw [HF.out]; exact HRl.out⟩

end Go.Proofs.YtlegmmhacnbnlaaGreatDoor.Dg

/- What weave tells (plain words). -/
namespace Go.Proofs.YtlegmmhacnbnlaaGreatDoor.Dg

theorem set_get (N : List Nat) (k a : Nat) (h : k < N.length) : (N.set k a).getD k 0 = a := by
  rw [List.getD_eq_getElem?_getD, List.getElem?_set_self h]
  rfl

theorem webOf_len (n : Nat) (l : List (Int × Int)) : (webOf n l).length = n := by
  have : ∀ (l : List (Int × Int)) (W : List Nat), (l.foldl putArc W).length = W.length := by
    intro l
    induction l with
    | nil => intro W; rfl
    | cons p l ih => intro W; rw [List.foldl_cons, ih]; simp [putArc]
  unfold webOf
  rw [this]
  simp

/-- What stands in the web: the arcs. -/
theorem webOf_bit (n : Nat) (l : List (Int × Int)) (h : l.all (endsOk n) = true) (t f : Nat) : ((webOf n l).getD t 0).testBit f = true ↔ (((f : Int), (t : Int)) ∈ l ∧ t < n) := by
  have key : ∀ (l : List (Int × Int)) (W : List Nat), W.length = n → l.all (endsOk n) = true → (((l.foldl putArc W).getD t 0).testBit f = true ↔ (((f : Int), (t : Int)) ∈ l ∧ t < n) ∨ (W.getD t 0).testBit f = true) := by
    intro l
    induction l with
    | nil => intro W _ _; simp
    | cons p l ih =>
      intro W hW hall
      rw [List.all_cons, Bool.and_eq_true] at hall
      have hp := hall.1
      simp only [endsOk, decide_eq_true_eq] at hp
      rw [List.foldl_cons, ih (putArc W p) (by simp [putArc, hW]) hall.2]
      have hput : ((putArc W p).getD t 0).testBit f = true ↔ (p = ((f : Int), (t : Int)) ∧ t < n) ∨ (W.getD t 0).testBit f = true := by
        obtain ⟨p1, p2⟩ := p
        obtain ⟨a, rfl⟩ : ∃ a : Nat, p1 = (a : Int) := ⟨p1.toNat, by omega⟩
        obtain ⟨b, rfl⟩ : ∃ b : Nat, p2 = (b : Int) := ⟨p2.toNat, by omega⟩
        unfold putArc
        simp only [Int.toNat_natCast, Prod.mk.injEq]
        by_cases hb : b = t
        · subst hb
          rw [set_get _ _ _ (by rw [hW]; omega), or_bit, Bool.or_eq_true, decide_eq_true_eq]
          constructor
          · rintro (h1 | h1)
            · exact .inr h1
            · exact .inl ⟨⟨by omega, rfl⟩, by omega⟩
          · rintro (⟨⟨h1, _⟩, _⟩ | h1)
            · exact .inr (by omega)
            · exact .inl h1
        · rw [List.getD_eq_getElem?_getD, List.getElem?_set_ne hb, ← List.getD_eq_getElem?_getD]
          constructor
          · exact fun h1 => .inr h1
          · rintro (⟨⟨_, h1⟩, _⟩ | h1)
            · omega
            · exact h1
      rw [hput, List.mem_cons]
      constructor
      · rintro (⟨h1, h2⟩ | ⟨rfl, h2⟩ | h1)
        · exact .inl ⟨.inr h1, h2⟩
        · exact .inl ⟨.inl rfl, h2⟩
        · exact .inr h1
      · rintro (⟨h1 | h1, h2⟩ | h1)
        · exact .inr (.inl ⟨h1.symm, h2⟩)
        · exact .inl ⟨h1, h2⟩
        · exact .inr (.inr h1)
  unfold webOf
  rw [key l (List.replicate n 0) (by simp) h]
  have h0 : ((List.replicate n 0).getD t 0).testBit f = false := by
    rw [List.getD_eq_getElem?_getD, List.getElem?_replicate]
    split <;> simp
  rw [h0]
  simp

theorem mem_getD {W : List Nat} {x : Nat} (h : x ∈ W) : ∃ t, t < W.length ∧ W.getD t 0 = x := by
  obtain ⟨t, ht⟩ := List.mem_iff_getElem?.1 h
  exact ⟨t, (List.getElem?_eq_some_iff.1 ht).1, by rw [List.getD_eq_getElem?_getD, ht]; rfl⟩

theorem webOf_ok (n : Nat) (l : List (Int × Int)) (h : l.all (endsOk n) = true) : WebOk (webOf n l) := by
  intro x hx i hi
  obtain ⟨t, _, rfl⟩ := mem_getD hx
  have := ((webOf_bit n l h t i).1 hi).1
  have h2 := List.all_eq_true.1 h _ this
  simp only [endsOk, decide_eq_true_eq] at h2
  rw [webOf_len]
  omega

/-- What an order is. -/
structure OrdOk (W acc : List Nat) : Prop where
  nodup : acc.Nodup
  lt : ∀ x ∈ acc, x < W.length
  ahead : ∀ (k x : Nat), acc[k]? = some x → ∀ i, (W.getD x 0).testBit i = true → i ∈ acc.take k

theorem ordGo_ok (W : List Nat) (hn : W.length ≤ 64) : ∀ (k there : Nat) (acc o : List Nat), there < 18446744073709551616 → (∀ i, there.testBit i = true ↔ i ∈ acc) → OrdOk W acc → ordGo W k there acc = some o → OrdOk W o ∧ o.length = acc.length + k := by
  intro k
  induction k with
  | zero =>
    intro there acc o _ _ hok h
    simp only [ordGo, Option.some.injEq] at h
    subst h
    exact ⟨hok, rfl⟩
  | succ k ih =>
    intro there acc o hth hmem hok h
    unfold ordGo at h
    split at h
    · cases h
    · rename_i h0
      have hlt : nextS W there < 18446744073709551616 := dif_lt (freeTo_lt W there _ hn)
      obtain ⟨b1, _, b3⟩ := low_bit h0 hlt
      generalize low (nextS W there) = v at *
      unfold nextS at b1
      rw [dif_bit, freeTo_bit] at b1
      simp only [Bool.and_eq_true, decide_eq_true_eq, Bool.not_eq_true'] at b1
      obtain ⟨⟨hvn, hfree⟩, hnot⟩ := b1
      have hva : v ∉ acc := fun hm => by rw [(hmem v).2 hm] at hnot; cases hnot
      have := ih (there ||| 2 ^ v) (acc ++ [v]) o (or_lt hth (two_lt b3)) (fun i => by
        rw [or_bit, Bool.or_eq_true, decide_eq_true_eq, hmem i]
        simp) ?_ h
      · refine ⟨this.1, ?_⟩
        have h2 := this.2
        simp at h2
        omega
      · refine ⟨?_, ?_, ?_⟩
        · rw [List.nodup_append]
          refine ⟨hok.nodup, by simp, ?_⟩
          intro a ha b hb
          simp at hb
          subst hb
          exact fun he => hva (he ▸ ha)
        · intro x hx
          rcases List.mem_append.1 hx with h1 | h1
          · exact hok.lt x h1
          · simp at h1; omega
        · intro j x hj i hi
          by_cases hjl : j < acc.length
          · rw [List.getElem?_append_left hjl] at hj
            rw [List.take_append_of_le_length (by omega)]
            exact hok.ahead j x hj i hi
          · have hje : j = acc.length := by
              have := (List.getElem?_eq_some_iff.1 hj).1
              simp at this
              omega
            subst hje
            simp at hj
            subst hj
            rw [List.take_left]
            exact (hmem i).1 (dif_zero.1 hfree i hi)

/-- What weave tells, where it tells. -/
theorem weave_facts {n : Int} {l : List (Int × Int)} {W o : List Nat} (h : weaveP n l = .ok W o) : (0 ≤ n ∧ n ≤ 64) ∧ W = webOf n.toNat l ∧ l.all (endsOk n.toNat) = true ∧ WebOk W ∧ W.length = n.toNat ∧ OrdOk W o ∧ o.length = n.toNat := by
  unfold weaveP at h
  split at h
  · cases h
  · rename_i hc
    have hall : l.all (endsOk n.toNat) = true := by
      cases ha : l.all (endsOk n.toNat) with
      | true => rfl
      | false => exact absurd (.inr (.inr (.inr ha))) hc
    split at h
    · cases h
    · rename_i o' ho
      cases h
      have hl := webOf_len n.toNat l
      have hn : 0 ≤ n ∧ n ≤ 64 := by
        constructor
        · apply Int.not_lt.1
          intro h1
          exact hc (.inl h1)
        · apply Int.not_lt.1
          intro h1
          exact hc (.inr (.inl h1))
      obtain ⟨h1, h2⟩ := ordGo_ok (webOf n.toNat l) (by omega) _ 0 [] _ (by omega) (by simp) ⟨by simp, by simp, by simp⟩ ho
      refine ⟨hn, rfl, hall, webOf_ok _ _ hall, hl, h1, ?_⟩
      simp at h2
      omega

end Go.Proofs.YtlegmmhacnbnlaaGreatDoor.Dg

/- The program's Reach. -/
namespace Go.Proofs.YtlegmmhacnbnlaaGreatDoor.Dg

open Go.RowKit

theorem Tryz.info32 : (Tryz.prog.info? 32).map (fun i => (i.zero, i.size, i.bytes)) = some (some (.slice none 0 0), 1, 24) := by kernel_rfl

/-- A slice of nodes that lies behind a block. -/
def RdF (w : World) (q : Nat) (v : Value) (l : List Nat) : Prop := ∃ a cap, v = .slice a l.length cap ∧ l.length ≤ cap ∧ ∀ (i : Nat) (x : Nat), l[i]? = some x → ∃ b off, a = some ⟨b, off, none⟩ ∧ q < b ∧ w.cell? ⟨b, off + i, none⟩ = some (.int .i64 (x : Int))

theorem RdF.rd {w : World} {q : Nat} {v : Value} {l : List Nat} (h : RdF w q v l) : RdI w v l := by
  obtain ⟨a, cap, hv, hc, hr⟩ := h
  refine ⟨a, cap, hv, hc, fun i x hi => ?_⟩
  obtain ⟨b, off, ha, _, c0⟩ := hr i x hi
  exact ⟨b, off, ha, c0⟩

theorem RdF.later {w w' : World} {q : Nat} {v : Value} {l : List Nat} (h : RdF w q v l) (hb : Below w.heap.size w w') : RdF w' q v l := by
  obtain ⟨a, cap, hv, hc, hr⟩ := h
  refine ⟨a, cap, hv, hc, fun i x hi => ?_⟩
  obtain ⟨b, off, ha, hq, c0⟩ := hr i x hi
  exact ⟨b, off, ha, hq, cell_later hb c0⟩

theorem RdF.set {w : World} {q j : Nat} {u v : Value} {l : List Nat} (h : RdF w q v l) : RdF (w.setCell ⟨q, j, none⟩ u) q v l := by
  obtain ⟨a, cap, hv, hc, hr⟩ := h
  refine ⟨a, cap, hv, hc, fun i x hi => ?_⟩
  obtain ⟨b, off, ha, hq, c0⟩ := hr i x hi
  exact ⟨b, off, ha, hq, (World.cell?_of_block (a := ⟨b, off + i, none⟩) (Below.heap_setCell w ⟨q, j, none⟩ u b (by show b ≠ q; omega))).trans c0⟩

theorem RdF.of_own {w : World} {B q : Nat} {v : Value} {l : List Nat} (hq : q < B) (h : w.ownsRow B 3 1 v l.length (ivs l)) : RdF w q v l := by
  obtain ⟨a, cap, hv, hc, hr⟩ := RdI.of_own h
  refine ⟨a, cap, hv, hc, fun i x hi => ?_⟩
  obtain ⟨b, off, ha, c0⟩ := hr i x hi
  have := (h.lt b (by rw [hv, ha]; rfl)).1
  exact ⟨b, off, ha, by omega, c0⟩

/-- The first k rows of so many lie. -/
def RowsI (w : World) (q k n : Nat) (L : List (List Nat)) : Prop := ∃ Vs : List Value, w.heap[q]? = some (.cells Vs.toArray 32 (0, 0)) ∧ Vs.length = n ∧ ∀ (i : Nat), i < k → ∃ v, Vs[i]? = some v ∧ RdF w q v (L.getD i [])

theorem RowsI.later {w w' : World} {q k n : Nat} {L : List (List Nat)} (h : RowsI w q k n L) (hb : Below w.heap.size w w') : RowsI w' q k n L := by
  obtain ⟨Vs, h1, h2, h3⟩ := h
  refine ⟨Vs, (hb.block q (Array.getElem?_eq_some_iff.1 h1).1).trans h1, h2, fun i hi => ?_⟩
  obtain ⟨v, a, b⟩ := h3 i hi
  exact ⟨v, a, b.later hb⟩

theorem RowsI.get {w : World} {q k n : Nat} {L : List (List Nat)} (h : RowsI w q k n L) (t : Nat) (ht : t < n) : ∃ v, w.cell? ⟨q, t, none⟩ = some v ∧ w.frozen? ⟨q, t, none⟩ = false := by
  obtain ⟨Vs, h1, h2, h3⟩ := h
  exact ⟨Vs[t]'(by omega), by rw [cell_row h1 t, List.getElem?_toArray, List.getElem?_eq_getElem (by omega)], froz_row h1 t⟩

theorem RowsI.set {w : World} {q k n : Nat} {L : List (List Nat)} (h : RowsI w q k n L) (v : Value) (hk : k < n) (hv : RdF w q v (L.getD k [])) : RowsI (w.setCell ⟨q, k, none⟩ v) q (k + 1) n L := by
  obtain ⟨Vs, h1, h2, h3⟩ := h
  refine ⟨Vs.set k v, ?_, by simpa using h2, fun i hi => ?_⟩
  · have := row_set h1 k v
    rw [List.setIfInBounds_toArray] at this
    exact this
  · by_cases hik : i = k
    · subst hik
      exact ⟨v, List.getElem?_set_self (by omega), hv.set⟩
    · obtain ⟨u, a, b⟩ := h3 i (by omega)
      exact ⟨u, by rw [List.getElem?_set_ne (fun h => hik h.symm)]; exact a, b.set⟩

/-- Rows of nodes in a slice. -/
def RdL (w : World) (v : Value) (L : List (List Nat)) : Prop := ∃ a cap, v = .slice a L.length cap ∧ L.length ≤ cap ∧ ∀ (i : Nat) (x : List Nat), L[i]? = some x → ∃ b off u, a = some ⟨b, off, none⟩ ∧ w.cell? ⟨b, off + i, none⟩ = some u ∧ RdI w u x

theorem RdL.later {w w' : World} {v : Value} {L : List (List Nat)} (h : RdL w v L) (hb : Below w.heap.size w w') : RdL w' v L := by
  obtain ⟨a, cap, hv, hc, hr⟩ := h
  refine ⟨a, cap, hv, hc, fun i x hi => ?_⟩
  obtain ⟨b, off, u, ha, c0, c1⟩ := hr i x hi
  exact ⟨b, off, u, ha, cell_later hb c0, c1.later hb⟩

theorem RowsI.rd {w : World} {q : Nat} {L : List (List Nat)} (h : RowsI w q L.length L.length L) : RdL w (.slice (some ⟨q, 0, none⟩) L.length L.length) L := by
  obtain ⟨Vs, h1, h2, h3⟩ := h
  refine ⟨_, _, rfl, Nat.le_refl _, fun i x hi => ?_⟩
  obtain ⟨u, a, b⟩ := h3 i (List.getElem?_eq_some_iff.1 hi).1
  refine ⟨q, 0, u, rfl, by rw [Nat.zero_add, cell_row h1 i, List.getElem?_toArray, a], ?_⟩
  rw [List.getD_eq_getElem?_getD, hi] at b
  exact b.rd

theorem made_nil (m : Nat) : madeCells #[Value.slice none 0 0] m = (List.replicate m (Value.slice none 0 0)).toArray := by
  apply Array.toList_inj.1
  rw [toList_madeCells_one]

/-- What Reach tells. -/
def reachL (W o : List Nat) : List (List Nat) := (reachP W o).map bitsOf

theorem weaveP_code {n : Int} {l : List (Int × Int)} {c : Int} (h : weaveP n l = .bad c) : c = 2 ∨ c = 13 := by
  unfold weaveP at h
  split at h
  · cases h; exact .inl rfl
  · split at h
    · cases h; exact .inr rfl
    · cases h

end Go.Proofs.YtlegmmhacnbnlaaGreatDoor.Dg

/- Arcs in a row of the call's own. -/
namespace Go.Proofs.YtlegmmhacnbnlaaGreatDoor.Dg

open Go.RowKit

theorem Tryz.info106 : (Tryz.prog.info? 106).map (fun i => (i.zero, i.size, i.bytes)) = some (some (.agg #[.int .i64 0, .int .i64 0]), 2, 16) := by kernel_rfl

def av (p : Int × Int) : List Value := [.int .i64 p.1, .int .i64 p.2]

def avs : List (Int × Int) → List Value
  | [] => []
  | p :: l => av p ++ avs l

theorem avs_append (a b : List (Int × Int)) : avs (a ++ b) = avs a ++ avs b := by
  induction a with
  | nil => rfl
  | cons t a ih => simp [avs, ih]

theorem avs_len (a : List (Int × Int)) : (avs a).length = a.length * 2 := by
  induction a with
  | nil => rfl
  | cons t a ih => simp [avs, av, ih]; omega

theorem avs_one (t : Int × Int) : avs [t] = av t := by simp [avs]

theorem avs_at (a : List (Int × Int)) : ∀ (i j : Nat) (t : Int × Int), a[i]? = some t → j < 2 → (avs a)[i * 2 + j]? = (av t)[j]? := by
  induction a with
  | nil => intro i j t h; simp at h
  | cons p a ih =>
    intro i j t h hj
    cases i with
    | zero =>
      simp at h
      subst h
      simp only [avs, Nat.zero_mul, Nat.zero_add]
      rw [List.getElem?_append_left (by simp [av]; omega)]
    | succ i =>
      simp only [avs]
      rw [List.getElem?_append_right (by simp [av]; omega), show (i + 1) * 2 + j - (av p).length = i * 2 + j by simp [av]; omega]
      exact ih i j t (by simpa using h) hj

def Small (l : List (Int × Int)) : Prop := ∀ p ∈ l, (-9223372036854775808 ≤ p.1 ∧ p.1 ≤ 9223372036854775807) ∧ -9223372036854775808 ≤ p.2 ∧ p.2 ≤ 9223372036854775807

theorem RdA.of_own {w : World} {B : Nat} {v : Value} {l : List (Int × Int)} (h : w.ownsRow B 106 2 v l.length (avs l)) (hl : Small l) : RdA w v l := by
  rcases h.2 with ⟨rfl, h0⟩ | ⟨g, cap, cur, rfl, hb, hg, hnc, hcm, _⟩
  · have h1 : l = [] := List.eq_nil_of_length_eq_zero h0
    subst h1
    exact ⟨none, 0, rfl, Nat.le_refl _, by simp, by simp⟩
  · refine ⟨_, cap, rfl, hnc, hl, fun i x hi => ⟨g, 0, rfl, ?_, ?_⟩⟩
    · have := h.cells (g := g) rfl (i * 2 + 0) (.int .i64 x.1) (by rw [avs_at l i 0 x hi (by omega)]; rfl)
      rw [add_zero'] at this
      rw [Nat.zero_add]
      exact this
    · have := h.cells (g := g) rfl (i * 2 + 1) (.int .i64 x.2) (by rw [avs_at l i 1 x hi (by omega)]; rfl)
      rw [add_zero'] at this
      rw [Nat.zero_add]
      exact this

theorem own_mono {w : World} {B B' : Nat} {e : TypeId} {size : Nat} {v : Value} {n : Nat} {xs : List Value} (hB : B' ≤ B) (h : w.ownsRow B e size v n xs) : w.ownsRow B' e size v n xs := by
  obtain ⟨h1, h2⟩ := h
  refine ⟨h1, ?_⟩
  rcases h2 with h3 | ⟨g, cap, cur, h4, h5, h6⟩
  · exact .inl h3
  · exact .inr ⟨g, cap, cur, h4, Nat.le_trans hB h5, h6⟩

end Go.Proofs.YtlegmmhacnbnlaaGreatDoor.Dg

/- What reach tells (plain words). -/
namespace Go.Proofs.YtlegmmhacnbnlaaGreatDoor.Dg

theorem filter_lt (p q : Nat → Bool) (f : Nat) (hp : p f = true) (hq : q f = false) : ∀ l : List Nat, (∀ x ∈ l, q x = true → p x = true) → (l.filter q).length ≤ (l.filter p).length ∧ (f ∈ l → (l.filter q).length + 1 ≤ (l.filter p).length) := by
  intro l
  induction l with
  | nil => intro _; simp
  | cons x l ih =>
    intro h
    obtain ⟨h1, h2⟩ := ih (fun y hy => h y (by simp [hy]))
    rw [List.filter_cons, List.filter_cons]
    have hx := h x (by simp)
    by_cases hqx : q x = true
    · rw [if_pos hqx, if_pos (hx hqx)]
      refine ⟨by simp; omega, fun hf => ?_⟩
      rcases List.mem_cons.1 hf with rfl | hf
      · rw [hq] at hqx; cases hqx
      · have := h2 hf
        simp; omega
    · rw [if_neg hqx]
      by_cases hpx : p x = true
      · rw [if_pos hpx]
        refine ⟨by simp; omega, fun _ => by simp; omega⟩
      · rw [if_neg hpx]
        refine ⟨h1, fun hf => ?_⟩
        rcases List.mem_cons.1 hf with rfl | hf
        · exact absurd hp hpx
        · exact h2 hf

theorem of_bitsOf {s i : Nat} (h : i ∈ bitsOf s) : s.testBit i = true := by
  unfold bitsOf at h
  exact (List.mem_filter.1 h).2

theorem mem_take_at {o : List Nat} {i x : Nat} (h : x ∈ o.take i) : ∃ j, j < i ∧ o[j]? = some x := by
  obtain ⟨j, hj⟩ := List.mem_iff_getElem?.1 h
  have hlt := (List.getElem?_eq_some_iff.1 hj).1
  rw [List.length_take] at hlt
  exact ⟨j, by omega, by rw [List.getElem?_take_of_lt (by omega)] at hj; exact hj⟩

theorem at_mem_take {o : List Nat} {i j x : Nat} (h : o[j]? = some x) (hj : j < i) : x ∈ o.take i := by
  refine List.mem_of_getElem? (i := j) ?_
  rw [List.getElem?_take_of_lt hj]
  exact h

end Go.Proofs.YtlegmmhacnbnlaaGreatDoor.Dg

