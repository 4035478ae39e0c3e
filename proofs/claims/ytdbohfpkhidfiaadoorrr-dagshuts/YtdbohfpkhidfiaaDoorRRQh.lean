/- The program's needed. -/
import Derived.Test.YtdbohfpkhidfiaaDoorRRQg
namespace Go.Proofs.YtdbohfpkhidfiaaDoorRR
open Go.RowKit

/-- Of one node's arcs those beside which no longer chain leads to it. -/
def needOne (R : List Nat) (x : Nat) : Nat := (bitsOf x).foldl (fun a f => dif a (R.getD f 0)) x
def needP (W R : List Nat) : List Nat := W.map (needOne R)

/-- The first k ones are told. -/
def needTo (W R : List Nat) (k : Nat) : List Nat := (W.take k).map (needOne R) ++ List.replicate (W.length - k) 0

theorem needTo_len (W R : List Nat) (k : Nat) (hk : k ≤ W.length) : (needTo W R k).length = W.length := by simp [needTo]; omega

theorem needTo_step (W R : List Nat) (k x : Nat) (hx : W[k]? = some x) : (needTo W R k).set k (needOne R x) = needTo W R (k + 1) := by
  have hk := (List.getElem?_eq_some_iff.1 hx).1
  unfold needTo
  have hl : ((W.take k).map (needOne R)).length = k := by simp; omega
  rw [List.set_append_right _ _ (by omega), hl, Nat.sub_self, show W.length - k = (W.length - (k + 1)) + 1 by omega, List.replicate_succ, List.set_cons_zero, List.take_add_one, hx]
  simp

theorem set_get (N : List Nat) (k a : Nat) (h : k < N.length) : (N.set k a).getD k 0 = a := by
  rw [List.getD_eq_getElem?_getD, List.getElem?_set_self h]
  rfl

set_option maxRecDepth 1000000 in
set_option maxHeartbeats 2000000 in
theorem needed_any (W R : List Nat) (v1 v2 : Value) (w : World) (hW : RdU w v1 W) (hR : RdU w v2 R) (hn : W.length ≤ 64) (hRl : R.length = W.length) (hok : WebOk W) (hT : Tab w) :
    Calls Tryd.prog 22 #[v1, v2] w fun e w' => Below w.heap.size w w' ∧ ∃ b, w.heap.size ≤ b ∧ e = .returned (.slice (some ⟨b, 0, none⟩) W.length W.length) ∧ RowU w' b (needP W R) := by
  obtain ⟨i0, hi0, hz0, hz1, hz2⟩ := info_parts Tryd.info53
  have HT : Hid (Tab w) := hT
  have HOk : Hid (WebOk W) := hok
  obtain ⟨a1, cap1, rfl, hc1, hl1, hr1⟩ := hW
  obtain ⟨a2, cap2, rfl, hc2, hl2, hr2⟩ := hR
  have HR1 : Hid _ := hr1
  have HR2 : Hid _ := hr2
  have HL1 : Hid _ := hl1
  have HL2 : Hid _ := hl2
  obtain ⟨n, HN⟩ : ∃ n, Hid (W.length = n) := ⟨_, rfl⟩
  have HM : Hid (R.length = n) := by show _ = _; rw [hRl, HN.out]
  rw [HN.out] at hn hc1 ⊢
  rw [HM.out] at hc2 ⊢
  have hmk := run_make (P := Tryd.prog) w 48 53 i0 _ Tryd.underlying48 hi0 hz0 .i64 .i64 (n : Int) (n : Int) (by omega) (by omega) (by rw [hz2]; omega) (by omega)
  simp only [hz1, Int.toNat_natCast, Nat.mul_one] at hmk
  have HRow0 : Hid (RowU (w.alloc (.cells (madeCells #[Value.int .u64 0] n) 53)) w.heap.size (needTo W R 0)) := by
    have h0 : needTo W R 0 = List.replicate n 0 := by unfold needTo; rw [HN.out]; simp
    show RowU _ _ _
    rw [h0]
    exact ⟨by rw [← made_zero]; exact row_new w _ 53, fun x hx => by have := (List.mem_replicate.1 hx).2; omega⟩
  have HB0 : Hid (Below w.heap.size w (w.alloc (.cells (madeCells #[Value.int .u64 0] n) 53))) := (Below.refl _ _).alloc (Nat.le_refl _) _
  have HZ0 : Hid (w.heap.size < (w.alloc (.cells (madeCells #[Value.int .u64 0] n) 53)).heap.size) := by show _ < _; simp
  clear hr1 hr2 hl1 hl2 hok hT hRl
  go_enter Tryd.func22, Tryd.ntmps22
  go_wp2_with fail
  go_loopw [6, 7, 9, 15, 25, 26, 27] (fun _ _ _ iv _ _ _ wr => ∃ (k : Nat), k ≤ n ∧ iv = .int .i64 k ∧ Hid (RowU wr w.heap.size (needTo W R k)) ∧ Hid (Below w.heap.size w wr) ∧ Hid (w.heap.size < wr.heap.size)) (fun _ _ _ iv _ _ _ _ => n - (intOf iv).toNat)
  case atStart => exact ⟨0, Nat.zero_le _, rfl, HRow0, HB0, HZ0⟩
  case round =>
    obtain ⟨k, hk, rfl, HRow, HB, HZ⟩ := hrel
    rename World => w1
    clear HRow0 HB0 HZ0 hmk
    have hNl : (needTo W R k).length = n := by rw [needTo_len W R k (by rw [HN.out]; exact hk), HN.out]
    by_cases hlt : k < n
    · obtain ⟨y, hy⟩ : ∃ y, W[k]? = some y := ⟨_, List.getElem?_eq_getElem (by rw [HN.out]; exact hlt)⟩
      have hy64 := HL1.out y (List.mem_of_getElem? hy)
      obtain ⟨b1, o1, rfl, c1⟩ := HR1.out k y hy
      have hb1 : b1 < w.heap.size := lt_of_cell? c1
      have d1 := (World.cell?_of_block (a := ⟨b1, o1 + k, none⟩) (HB.out.block b1 hb1)).trans c1
      obtain ⟨r1, r2, r3⟩ := HRow.out.get k (by rw [hNl]; exact hlt)
      have HRow2 : Hid (RowU (w1.setCell ⟨w.heap.size, k, none⟩ (.int .u64 (y : Int))) w.heap.size ((needTo W R k).set k y)) := HRow.out.set k y hy64
      have HB2 : Hid (Below w.heap.size w (w1.setCell ⟨w.heap.size, k, none⟩ (.int .u64 (y : Int)))) := HB.out.setCell (p := ⟨w.heap.size, k, none⟩) (Nat.le_refl _) _
      have hz2 : w.heap.size < (w1.setCell ⟨w.heap.size, k, none⟩ (.int .u64 (y : Int))).heap.size := by have := HZ.out; simpa using this
      have M2 : Hid _ := nodes_any y hy64 (w1.setCell ⟨w.heap.size, k, none⟩ (.int .u64 (y : Int))) (HT.out.later HB2.out)
      have HST : Hid ((needTo W R k).set k (needOne R y) = needTo W R (k + 1)) := needTo_step W R k y hy
      have HBn : Hid (∀ f ∈ bitsOf y, f < n) := by
        show ∀ f ∈ bitsOf y, _
        intro f hf
        rw [← HN.out]
        exact HOk.out y (List.mem_of_getElem? hy) f ((mem_bitsOf hy64).1 hf)
      have hbl := bitsOf_len y
      have hki : (k : Int) < (n : Int) := by omega
      clear hy c1 HRow
      generalize needTo W R k = N at *
      go_wp2_with fail
      refine Calls.mono M2.out ?_
      generalize w1.setCell ⟨w.heap.size, k, none⟩ (.int .u64 (y : Int)) = w2 at *
      rintro e w3 ⟨nv, rfl, hb3, hown⟩
      obtain ⟨na, nc, rfl, hnc, hnr⟩ := RdI.of_own hown
      have HNR : Hid _ := hnr
      have HRow3 : Hid _ := HRow2.out.below hb3
      have HB3 : Hid (Below w.heap.size w w3) := HB2.out.trans (hb3.mono HB2.out.size)
      have HZ3 : Hid (w.heap.size < w3.heap.size) := by have := hb3.size; show _ < _; omega
      obtain ⟨q, HQ⟩ : ∃ q, Hid ((bitsOf y).length = q) := ⟨_, rfl⟩
      have HNW : Hid (∀ (j f : Nat), (bitsOf y)[j]? = some f → ∀ b off, na = some ⟨b, off, none⟩ → w.heap.size < b) := by
        show ∀ (j f : Nat), _
        intro j f hj b off hab
        have := (hown.lt b (by rw [hab]; rfl)).1
        omega
      rw [HQ.out] at hbl hnc ⊢
      clear hnr hown hb3 HRow2 HB2 M2 r1 r2 r3 d1 hz2 HB HZ
      go_wp2_with fail
      go_loopw [9, 27] (fun _ jv wr => ∃ (j a : Nat), j ≤ q ∧ jv = .int .i64 j ∧ Hid (RowU wr w.heap.size (N.set k a)) ∧ Hid (((bitsOf y).take j).foldl (fun a f => dif a (R.getD f 0)) y = a) ∧ Hid (Below w.heap.size w wr) ∧ Hid (w.heap.size < wr.heap.size) ∧ Hid (∀ b, w.heap.size < b → b < w3.heap.size → wr.heap[b]? = w3.heap[b]?)) (fun _ jv _ => q - (intOf jv).toNat)
      case atStart => exact ⟨0, y, Nat.zero_le _, rfl, HRow3, by show ((bitsOf y).take 0).foldl _ _ = _; rfl, HB3, HZ3, fun _ _ _ => rfl⟩
      case round =>
        obtain ⟨j, av, hj, rfl, HRw, HEj, HBj, HZj, HKj⟩ := hrel
        rename World => w4
        clear HRow3 HB3
        by_cases hjl : j < q
        · obtain ⟨f, hf⟩ : ∃ f, (bitsOf y)[j]? = some f := ⟨_, List.getElem?_eq_getElem (by rw [HQ.out]; exact hjl)⟩
          have hfn := HBn.out f (List.mem_of_getElem? hf)
          obtain ⟨b5, o5, rfl, c5⟩ := HNR.out j f hf
          have hb5 := HNW.out j f hf b5 o5 rfl
          have d5 : w4.cell? ⟨b5, o5 + j, none⟩ = some (.int .i64 (f : Int)) := (World.cell?_of_block (a := ⟨b5, o5 + j, none⟩) (HKj.out b5 hb5 (lt_of_cell? c5))).trans c5
          obtain ⟨z, hz⟩ : ∃ z, R[f]? = some z := ⟨_, List.getElem?_eq_getElem (by rw [HM.out]; exact hfn)⟩
          have hz64 := HL2.out z (List.mem_of_getElem? hz)
          have hzR : R.getD f 0 = z := by rw [List.getD_eq_getElem?_getD, hz]; rfl
          obtain ⟨b6, o6, rfl, c6⟩ := HR2.out f z hz
          have d6 := (World.cell?_of_block (a := ⟨b6, o6 + f, none⟩) (HBj.out.block b6 (lt_of_cell? c6))).trans c6
          obtain ⟨t1, t2, t3⟩ := HRw.out.get k (by rw [List.length_set, hNl]; exact hlt)
          rw [set_get N k av (by rw [hNl]; exact hlt)] at t1 t3
          have e1 := bits_andNot_u64_nat av z t3 hz64
          have hdl : dif av z < 18446744073709551616 := dif_lt t3
          have HRw2 : Hid (RowU (w4.setCell ⟨w.heap.size, k, none⟩ (.int .u64 ((dif av z : Nat) : Int))).drew w.heap.size (N.set k (dif av z))) := by
            have := (HRw.out.set k _ hdl).drew
            rwa [List.set_set] at this
          have HBj2 : Hid (Below w.heap.size w (w4.setCell ⟨w.heap.size, k, none⟩ (.int .u64 ((dif av z : Nat) : Int))).drew) := bl_drawn1 (HBj.out.setCell (p := ⟨w.heap.size, k, none⟩) (Nat.le_refl _) _)
          have HZj2 : Hid (w.heap.size < (w4.setCell ⟨w.heap.size, k, none⟩ (.int .u64 ((dif av z : Nat) : Int))).drew.heap.size) := by show _ < (w4.setCell _ _).heap.size; have := HZj.out; simpa using this
          have HKj2 : Hid (∀ b, w.heap.size < b → b < w3.heap.size → (w4.setCell ⟨w.heap.size, k, none⟩ (.int .u64 ((dif av z : Nat) : Int))).drew.heap[b]? = w3.heap[b]?) := fun b h1 h2 => (Below.heap_setCell w4 ⟨w.heap.size, k, none⟩ _ b (by show b ≠ w.heap.size; omega)).trans (HKj.out b h1 h2)
          have HEj2 : Hid (((bitsOf y).take (j + 1)).foldl (fun a f => dif a (R.getD f 0)) y = dif av z) := by
            show _ = _
            rw [List.take_add_one, hf]
            simp only [Option.toList_some, List.foldl_append, HEj.out, List.foldl_cons, List.foldl_nil, hzR]
          have hji : (j : Int) < (q : Int) := by omega
          have hfi : (f : Int) < (n : Int) := by omega
          clear hf c5 c6 hz hzR HRw HEj HBj HZj HKj
          generalize dif av z = dz at *
          go_wp2_with fail
          go_region
          all_goals
            go_wp2_with fail
            go_roundw
            case rel => exact ⟨j + 1, dz, by omega, by go_num, HRw2, HEj2, HBj2, HZj2, HKj2⟩
            case measure => simp [intOf]; omega
        · have hjq : j = q := by omega
          subst hjq
          have hav : needOne R y = av := by
            have h1 := HEj.out
            rw [List.take_of_length_le (by rw [HQ.out]; exact Nat.le_refl _)] at h1
            exact h1
          have HRw3 : Hid (RowU w4 w.heap.size (needTo W R (k + 1))) := by
            show RowU _ _ _
            rw [← HST.out, hav]
            exact HRw.out
          clear hav
          go_wp2_with fail
          go_roundw
          case rel => exact ⟨k + 1, by omega, by go_num, HRw3, HBj, HZj⟩
          case measure => simp [intOf]; omega
    · have hkn : k = n := by omega
      subst hkn
      have HF : Hid (RowU w1 w.heap.size (needP W R)) := by
        have h1 : needTo W R W.length = needP W R := by unfold needTo needP; simp
        show RowU _ _ _
        rw [← h1, HN.out]
        exact HRow.out
      go_wp2_with fail
      go_ret
      exact ⟨HB.out, w.heap.size, Nat.le_refl _, rfl, HF.out⟩
end Go.Proofs.YtdbohfpkhidfiaaDoorRR
