/- Texts of the seat, packed: Zm Zn Zo. -/
import Derived.Test.YtlegmmhacnbnlaaGreatDoorP34
/- The program's arcs. -/
namespace Go.Proofs.YtlegmmhacnbnlaaGreatDoor

open Go.RowKit Go.Shelf Go.Proofs.YtlegmmhacnbnlaaGreatDoor.Sx

/-- The arcs of one item, of the first j ones on which it leans. -/
def arcRow (i : Nat) (l : List Int) (j : Nat) : List (Int × Int) := (l.take j).map fun on => (on, (i : Int))

/-- The arcs of the first i items. -/
def arcTo (its : List It) : Nat → List (Int × Int)
  | 0 => []
  | i + 1 => arcTo its i ++ match its[i]? with
    | some x => x.after.map fun on => (on, (i : Int))
    | none => []

def arcP (its : List It) : List (Int × Int) := arcTo its its.length

theorem arcTo_succ {its : List It} {i : Nat} {x : It} (h : its[i]? = some x) : arcTo its (i + 1) = arcTo its i ++ x.after.map fun on => (on, (i : Int)) := by
  simp [arcTo, h]

theorem arcRow_succ (i : Nat) (l : List Int) (j : Nat) (on : Int) (h : l[j]? = some on) : arcRow i l (j + 1) = arcRow i l j ++ [(on, (i : Int))] := by
  unfold arcRow
  rw [List.take_add_one, h]
  simp

/-- So many arcs there may be. -/
def arcN (its : List It) : Nat := (its.map fun x => x.after.length).sum

theorem arcTo_len (its : List It) : ∀ i, i ≤ its.length → (arcTo its i).length + ((its.drop i).map fun x => x.after.length).sum = arcN its := by
  intro i
  induction i with
  | zero => intro _; simp [arcTo, arcN]
  | succ i ih =>
    intro hi
    have h := ih (by omega)
    have hx : its[i]? = some its[i] := List.getElem?_eq_getElem (by omega)
    rw [arcTo_succ hx, List.length_append, List.length_map]
    rw [List.drop_eq_getElem_cons (by omega)] at h
    simp only [List.map_cons, List.sum_cons] at h
    omega

set_option maxRecDepth 1000000 in
set_option maxHeartbeats 2000000 in
theorem arcs_any (its : List It) (v : Value) (w : World) (hIt : RdIt w v its) (hil : its.length ≤ 100000) (hN : arcN its ≤ 1000000) :
    Calls Tryz.prog 32 #[v] w fun e w' => Below w.heap.size w w' ∧ ∃ u, e = .returned u ∧ w'.ownsRow w.heap.size 106 2 u (arcP its).length (Dg.avs (arcP its)) := by
  obtain ⟨ia, icap, rfl, hic, hir⟩ := hIt
  obtain ⟨i0, hi0, hz0, hz1, hz2⟩ := info_parts Dg.Tryz.info106
  have HIR : Hid _ := hir
  obtain ⟨il, HIL⟩ : ∃ il, Hid (its.length = il) := ⟨_, rfl⟩
  rw [HIL.out] at hil hic ⊢
  have HLen : Hid (∀ i, i ≤ il → (arcTo its i).length + ((its.drop i).map fun x => x.after.length).sum ≤ 1000000) := by
    show ∀ i, _
    intro i hi
    have := arcTo_len its i (by rw [HIL.out]; exact hi)
    omega
  have HO0 : Hid (w.ownsRow w.heap.size 106 2 (.slice none 0 0) (arcTo its 0).length (Dg.avs (arcTo its 0))) := World.ownsRow_nil _ _ _ _
  clear hir hN
  go_enter Tryz.func32, Tryz.ntmps32
  go_wp2_with fail
  go_loopw [3, 10] (fun lv iv wr => ∃ (i : Nat), i ≤ il ∧ iv = .int .i64 i ∧ Hid (wr.ownsRow w.heap.size 106 2 lv (arcTo its i).length (Dg.avs (arcTo its i))) ∧ Hid (Below w.heap.size w wr)) (fun _ iv _ => il - (intOf iv).toNat)
  case atStart => exact ⟨0, Nat.zero_le _, rfl, HO0, Below.refl _ _⟩
  case round =>
    obtain ⟨i, hi, rfl, HO, HB⟩ := hrel
    rename World => w1
    clear HO0
    by_cases hlt : i < il
    · obtain ⟨y, hy⟩ : ∃ y, its[i]? = some y := ⟨_, List.getElem?_eq_getElem (by rw [HIL.out]; exact hlt)⟩
      obtain ⟨b1, off1, yav, yam, yac, rfl, k0, k1, k2, k3, k4, k5, k6, k7, hz⟩ := HIR.out i y hy
      have j0 := Dg.cell_later HB.out k0
      have j1 := Dg.cell_later HB.out k1
      have j2 := Dg.cell_later HB.out k2
      have j3 := Dg.cell_later HB.out k3
      have j4 := Dg.cell_later HB.out k4
      have j5 := Dg.cell_later HB.out k5
      have j6 := Dg.cell_later HB.out k6
      have j7 := Dg.cell_later HB.out k7
      obtain ⟨za, zcap, hze, hzc, hzr⟩ := hz
      cases hze
      have HZR : Hid _ := hzr
      obtain ⟨m, HM⟩ : ∃ m, Hid (y.after.length = m) := ⟨_, rfl⟩
      have hml : m ≤ 1000000 := by
        have h9 := HLen.out i (by omega)
        rw [List.drop_eq_getElem_cons (by rw [HIL.out]; exact hlt)] at h9
        have he : its[i]'(by rw [HIL.out]; exact hlt) = y := (List.getElem?_eq_some_iff.1 hy).2
        rw [he] at h9
        simp only [List.map_cons, List.sum_cons] at h9
        have := HM.out
        omega
      have HLen2 : Hid ((arcTo its i).length + m ≤ 1000000) := by
        have h9 := HLen.out i (by omega)
        rw [List.drop_eq_getElem_cons (by rw [HIL.out]; exact hlt)] at h9
        have he : its[i]'(by rw [HIL.out]; exact hlt) = y := (List.getElem?_eq_some_iff.1 hy).2
        rw [he] at h9
        simp only [List.map_cons, List.sum_cons] at h9
        have := HM.out
        show _ ≤ _
        omega
      rw [HM.out] at j7 hzc
      have hii : (i : Int) < (il : Int) := by omega
      have HS : Hid (arcTo its (i + 1) = arcTo its i ++ y.after.map fun on => (on, (i : Int))) := arcTo_succ hy
      have nb := (Dg.cell_row (Dg.row_new w1 #[.string ⟨y.name.toArray⟩, .string ⟨y.undo.toArray⟩, .bool y.sub, .bool y.vital, .int .i64 y.alts, .int .i64 y.inn, .int .i64 y.alt, .slice yav m yac] 34) 7).trans rfl
      have HB1 : Hid (Below w.heap.size w (w1.alloc (.cells #[.string ⟨y.name.toArray⟩, .string ⟨y.undo.toArray⟩, .bool y.sub, .bool y.vital, .int .i64 y.alts, .int .i64 y.inn, .int .i64 y.alt, .slice yav m yac] 34))) := HB.out.alloc HB.out.size _
      have HO1 : Hid ((w1.alloc (.cells #[.string ⟨y.name.toArray⟩, .string ⟨y.undo.toArray⟩, .bool y.sub, .bool y.vital, .int .i64 y.alts, .int .i64 y.inn, .int .i64 y.alt, .slice yav m yac] 34)).ownsRow w.heap.size 106 2 u3 (arcTo its i ++ arcRow i y.after 0).length (Dg.avs (arcTo its i ++ arcRow i y.after 0))) := by
        show World.ownsRow _ _ _ _ _ _ _
        have h9 : arcRow i y.after 0 = [] := rfl
        rw [h9, List.append_nil]
        exact HO.out.alloc _
      clear hy hzr k0 k1 k2 k3 k4 k5 k6 k7 HO
      go_wp2_with fail
      clear j0 j1 j2 j3 j4 j5 j6 j7
      generalize w1.alloc (.cells #[.string ⟨y.name.toArray⟩, .string ⟨y.undo.toArray⟩, .bool y.sub, .bool y.vital, .int .i64 y.alts, .int .i64 y.inn, .int .i64 y.alt, .slice yav m yac] 34) = w2 at *
      go_loopw [3, 18] (fun lv jv wr => ∃ (j : Nat), j ≤ m ∧ jv = .int .i64 j ∧ Hid (wr.ownsRow w.heap.size 106 2 lv (arcTo its i ++ arcRow i y.after j).length (Dg.avs (arcTo its i ++ arcRow i y.after j))) ∧ Hid (Below w.heap.size w wr)) (fun _ jv _ => m - (intOf jv).toNat)
      case atStart => exact ⟨0, Nat.zero_le _, rfl, HO1, HB1⟩
      case round =>
        obtain ⟨j, hj, rfl, HOj, HBj⟩ := hrel
        rename World => w3
        clear HO1 HB1 nb
        by_cases hjl : j < m
        · obtain ⟨on, hon⟩ : ∃ on, y.after[j]? = some on := ⟨_, List.getElem?_eq_getElem (by rw [HM.out]; exact hjl)⟩
          obtain ⟨b, off, rfl, c0⟩ := HZR.out j on hon
          have d0 := Dg.cell_later HBj.out c0
          have hjj : (j : Int) < (m : Int) := by omega
          have HRn : Hid (arcTo its i ++ arcRow i y.after (j + 1) = (arcTo its i ++ arcRow i y.after j) ++ [(on, (i : Int))]) := by show _ = _; rw [arcRow_succ i y.after j on hon, List.append_assoc]
          have hLn : (arcTo its i ++ arcRow i y.after j).length ≤ 1000000 := by
            have h9 := HLen2.out
            rw [List.length_append]
            have h8 : (arcRow i y.after j).length ≤ j := by unfold arcRow; rw [List.length_map, List.length_take]; omega
            omega
          have ho := HOj.out
          have hz3 := HBj.out.size
          obtain ⟨A, HA⟩ : ∃ A, Hid (arcTo its i ++ arcRow i y.after j = A) := ⟨_, rfl⟩
          rw [HA.out] at ho hLn HRn
          clear hon c0
          go_wp2_with (at_builtin; refine wpList_append_own_at _ rfl _ _ 76 rfl w.heap.size 106 i0 _ 2 16 Tryz.underlying76 hi0 hz0 hz1 hz2 rfl (by decide) _ A.length (Dg.avs A) rfl (ho.alloc _) ⟨w3.heap.size, 0, none⟩ 1 1 [.int .i64 on, .int .i64 (i : Int)] rfl rfl (Dg.new_cells w3 [.int .i64 on, .int .i64 (i : Int)] 106) (by simp [Value.oneCell']) (by unfold maxLen; omega) (by omega) (by simp; omega) ?_; intro v7 w7 ho7 hg7 _ hat7; obtain ⟨g7, cap7, rfl⟩ := Dg.ownsRow_succ' ho7)
          have HB7 : Hid (Below w.heap.size w w7) := Below.grown (HBj.out.alloc hz3 _) hg7 (by simp; omega) (fun k hk => (ho.lt _ hk).1)
          have HO7 : Hid (w7.ownsRow w.heap.size 106 2 (.slice (some ⟨g7, 0, none⟩) (A.length + 1) cap7) (arcTo its i ++ arcRow i y.after (j + 1)).length (Dg.avs (arcTo its i ++ arcRow i y.after (j + 1)))) := by
            show World.ownsRow _ _ _ _ _ _ _
            rw [HRn.out, Dg.avs_append, Dg.avs_one, List.length_append]
            exact ho7
          clear ho hg7 hat7 ho7 HBj HOj
          go_wp2_with fail
          go_roundw
          case rel => exact ⟨j + 1, by omega, by go_num, HO7, HB7⟩
          case measure => simp [intOf]; omega
        · have hjm : j = m := by omega
          subst hjm
          have HFn : Hid (arcTo its i ++ arcRow i y.after j = arcTo its (i + 1)) := by
            show _ = _
            rw [HS.out]
            unfold arcRow
            rw [List.take_of_length_le (by rw [HM.out]; exact Nat.le_refl _)]
          have HOn : Hid (w3.ownsRow w.heap.size 106 2 u3 (arcTo its (i + 1)).length (Dg.avs (arcTo its (i + 1)))) := by
            show World.ownsRow _ _ _ _ _ _ _
            rw [← HFn.out]
            exact HOj.out
          go_wp2_with fail
          go_roundw
          case rel => exact ⟨i + 1, by omega, by go_num, HOn, HBj⟩
          case measure => simp [intOf]; omega
    · have hie : i = il := by omega
      subst hie
      have HF : Hid (arcTo its i = arcP its) := by show _ = _; unfold arcP; rw [HIL.out]
      go_wp2_with fail
      go_ret
      refine ⟨HB.out, _, rfl, ?_⟩
      rw [← HF.out]
      exact HO.out

end Go.Proofs.YtlegmmhacnbnlaaGreatDoor

/- The program's mustHang. -/
namespace Go.Proofs.YtlegmmhacnbnlaaGreatDoor

open Go.RowKit Go.Shelf Go.Proofs.YtlegmmhacnbnlaaGreatDoor.Sx

/-- Does an item hang as it must? -/
def hangI (n i : Nat) (y : It) : Bool := decide (y.inn < (i : Int)) && (decide (0 ≤ y.alts) && (decide (y.alts ≤ 4) && (decide (y.after.length < 16) && y.after.all fun on => decide (0 ≤ on) && decide (on < (n : Int)))))

/-- Do the items from the i-th on? -/
def hangF (n : Nat) : Nat → List It → Bool
  | _, [] => true
  | i, y :: r => hangI n i y && hangF n (i + 1) r

def hangs (its : List It) : Bool := decide (0 < its.length) && (decide (its.length ≤ 64) && hangF its.length 0 its)

set_option maxRecDepth 1000000 in
set_option maxHeartbeats 2000000 in
theorem mustHang_any (its : List It) (v : Value) (w : World) (hIt : RdIt w v its) :
    Calls Tryz.prog 79 #[v] w fun e w' => e = mustE (hangs its) 2 ∧ Below w.heap.size w w' := by
  obtain ⟨ia, icap, rfl, hic, hir⟩ := hIt
  have HIR : Hid _ := hir
  obtain ⟨il, HIL⟩ : ∃ il, Hid (its.length = il) := ⟨_, rfl⟩
  rw [HIL.out] at hic ⊢
  clear hir
  by_cases h0 : 0 < il
  rotate_left
  · have hil : il = 0 := by omega
    have HH : Hid (hangs its = false) := by show _ = _; unfold hangs; rw [HIL.out, decide_eq_false h0]; rfl
    subst hil
    go_enter Tryz.func79, Tryz.ntmps79
    go_wp2_with fail
    refine Calls.mono (must_no _ _) ?_
    rintro e w1 ⟨rfl, rfl⟩
    go_wp2_with fail
    exact ⟨rfl, by rw [HH.out]; rfl, Below.refl _ _⟩
  have q0 : decide ((il : Int) > 0) = true := by simp; omega
  have q0' : decide (0 < (il : Int)) = true := by simp; omega
  have q0'' : decide (0 < il) = true := by simp; omega
  by_cases h64 : il ≤ 64
  rotate_left
  · have HH : Hid (hangs its = false) := by show _ = _; unfold hangs; rw [HIL.out, decide_eq_false h64]; simp
    have q1 : decide ((il : Int) ≤ 64) = false := by simp; omega
    have q1' : decide (il ≤ 64) = false := by simp; omega
    go_enter Tryz.func79, Tryz.ntmps79
    go_wp2_with fail
    refine Calls.mono (must_no _ _) ?_
    rintro e w1 ⟨rfl, rfl⟩
    go_wp2_with fail
    exact ⟨rfl, by rw [HH.out]; rfl, Below.refl _ _⟩
  have HH : Hid (hangs its = hangF il 0 its) := by show _ = _; unfold hangs; rw [HIL.out, decide_eq_true h0, decide_eq_true h64]; rfl
  have q1 : decide ((il : Int) ≤ 64) = true := by simp; omega
  have q1' : decide (il ≤ 64) = true := by simp; omega
  go_enter Tryz.func79, Tryz.ntmps79
  go_wp2_with fail
  refine Calls.mono (must_yes _ _) ?_
  rintro e w0 ⟨rfl, rfl⟩
  go_wp2_with fail
  clear q0 q0' q0'' q1 q1'
  go_loopw [17] (fun iv wr => ∃ (i : Nat), i ≤ il ∧ iv = .int .i64 i ∧ Hid (hangF il 0 its = hangF il i (its.drop i)) ∧ Hid (Below w0.heap.size w0 wr)) (fun iv _ => il - (intOf iv).toNat)
  case atStart => exact ⟨0, Nat.zero_le _, rfl, rfl, Below.refl _ _⟩
  case round =>
    obtain ⟨i, hi, rfl, HF, HB⟩ := hrel
    rename World => w1
    by_cases hlt : i < il
    rotate_left
    · have hie : i = il := by omega
      subst hie
      have HT : Hid (hangs its = true) := by
        show _ = _
        rw [HH.out, HF.out, List.drop_eq_nil_of_le (by rw [HIL.out]; exact Nat.le_refl _)]
        rfl
      go_wp2_with fail
      exact ⟨rfl, _, results_none rfl _ _, by rw [HT.out]; rfl, HB.out⟩
    obtain ⟨y, hy⟩ : ∃ y, its[i]? = some y := ⟨_, List.getElem?_eq_getElem (by rw [HIL.out]; exact hlt)⟩
    obtain ⟨b1, off1, yav, yam, yac, rfl, k0, k1, k2, k3, k4, k5, k6, k7, hz⟩ := HIR.out i y hy
    have j0 := Dg.cell_later HB.out k0
    have j1 := Dg.cell_later HB.out k1
    have j2 := Dg.cell_later HB.out k2
    have j3 := Dg.cell_later HB.out k3
    have j4 := Dg.cell_later HB.out k4
    have j5 := Dg.cell_later HB.out k5
    have j6 := Dg.cell_later HB.out k6
    have j7 := Dg.cell_later HB.out k7
    obtain ⟨za, zcap, hze, hzc, hzr⟩ := hz
    cases hze
    have HZR : Hid _ := hzr
    obtain ⟨m, HM⟩ : ∃ m, Hid (y.after.length = m) := ⟨_, rfl⟩
    rw [HM.out] at j7 hzc
    have hii : (i : Int) < (il : Int) := by omega
    have hdr : its.drop i = y :: its.drop (i + 1) := by
      rw [List.drop_eq_getElem_cons (by rw [HIL.out]; exact hlt)]
      congr 1
      exact (List.getElem?_eq_some_iff.1 hy).2
    rw [hdr] at HF
    have HF1 : Hid (hangF il 0 its = (hangI il i y && hangF il (i + 1) (its.drop (i + 1)))) := HF.out
    have HB1 : Hid (Below w0.heap.size w0 (w1.alloc (.cells #[.string ⟨y.name.toArray⟩, .string ⟨y.undo.toArray⟩, .bool y.sub, .bool y.vital, .int .i64 y.alts, .int .i64 y.inn, .int .i64 y.alt, .slice yav m yac] 34))) := HB.out.alloc HB.out.size _
    have nb := Dg.row_new w1 #[.string ⟨y.name.toArray⟩, .string ⟨y.undo.toArray⟩, .bool y.sub, .bool y.vital, .int .i64 y.alts, .int .i64 y.inn, .int .i64 y.alt, .slice yav m yac] 34
    have n4 := (Dg.cell_row nb 4).trans rfl
    have n5 := (Dg.cell_row nb 5).trans rfl
    have n7 := (Dg.cell_row nb 7).trans rfl
    clear hy hzr k0 k1 k2 k3 k4 k5 k6 k7 hdr HF nb
    by_cases h1 : y.inn < (i : Int)
    rotate_left
    · have HN : Hid (hangs its = false) := by
        show _ = _
        rw [HH.out, HF1.out]
        unfold hangI
        rw [HM.out]
        simp [h1]
      have q2 : decide (y.inn < (i : Int)) = false := by simp; omega
      go_wp2_with fail
      refine Calls.mono (must_no _ _) ?_
      rintro e w2 ⟨rfl, rfl⟩
      go_wp2_with fail
      exact ⟨rfl, by rw [HN.out]; rfl, HB1.out⟩
    have p0 : decide (y.inn < (i : Int)) = true := by simp; omega
    by_cases h2 : 0 ≤ y.alts
    rotate_left
    · have HN : Hid (hangs its = false) := by
        show _ = _
        rw [HH.out, HF1.out]
        unfold hangI
        rw [HM.out]
        simp [h1, h2]
      have q2 : decide (0 ≤ y.alts) = false := by simp; omega
      go_wp2_with fail
      refine Calls.mono (must_no _ _) ?_
      rintro e w2 ⟨rfl, rfl⟩
      go_wp2_with fail
      exact ⟨rfl, by rw [HN.out]; rfl, HB1.out⟩
    have p1 : decide (0 ≤ y.alts) = true := by simp; omega
    by_cases h3 : y.alts ≤ 4
    rotate_left
    · have HN : Hid (hangs its = false) := by
        show _ = _
        rw [HH.out, HF1.out]
        unfold hangI
        rw [HM.out]
        simp [h1, h2, h3]
      have q2 : decide (y.alts ≤ 4) = false := by simp; omega
      go_wp2_with fail
      refine Calls.mono (must_no _ _) ?_
      rintro e w2 ⟨rfl, rfl⟩
      go_wp2_with fail
      exact ⟨rfl, by rw [HN.out]; rfl, HB1.out⟩
    have p2 : decide (y.alts ≤ 4) = true := by simp; omega
    by_cases h4 : m < 16
    rotate_left
    · have HN : Hid (hangs its = false) := by
        show _ = _
        rw [HH.out, HF1.out]
        unfold hangI
        rw [HM.out]
        simp [h1, h2, h3, h4]
      have q2 : decide ((m : Int) < 16) = false := by simp; omega
      go_wp2_with fail
      refine Calls.mono (must_no _ _) ?_
      rintro e w2 ⟨rfl, rfl⟩
      go_wp2_with fail
      exact ⟨rfl, by rw [HN.out]; rfl, HB1.out⟩
    have p3 : decide ((m : Int) < 16) = true := by simp; omega
    have HF2 : Hid (hangI il i y = y.after.all fun on => decide (0 ≤ on) && decide (on < (il : Int))) := by
      show _ = _
      unfold hangI
      rw [HM.out]
      simp [h1, h2, h3, h4]
    go_wp2_with fail
    refine Calls.mono (must_yes _ _) ?_
    rintro e w2 ⟨rfl, rfl⟩
    go_wp2_with fail
    clear j0 j1 j2 j3 j4 j5 j6 j7 n4 n5 n7 p0 p1 p2 p3
    generalize w1.alloc (.cells #[.string ⟨y.name.toArray⟩, .string ⟨y.undo.toArray⟩, .bool y.sub, .bool y.vital, .int .i64 y.alts, .int .i64 y.inn, .int .i64 y.alt, .slice yav m yac] 34) = w2 at *
    go_loopw [46] (fun jv wr => ∃ (j : Nat), j ≤ m ∧ jv = .int .i64 j ∧ Hid (∀ on ∈ y.after.take j, (decide (0 ≤ on) && decide (on < (il : Int))) = true) ∧ Hid (Below w0.heap.size w0 wr)) (fun jv _ => m - (intOf jv).toNat)
    case atStart => exact ⟨0, Nat.zero_le _, rfl, by show ∀ on ∈ _, _; simp, HB1⟩
    case round =>
      obtain ⟨j, hj, rfl, HA, HBj⟩ := hrel
      rename World => w3
      clear HB1
      by_cases hjl : j < m
      rotate_left
      · have hjm : j = m := by omega
        subst hjm
        have HN : Hid (hangF il 0 its = hangF il (i + 1) (its.drop (i + 1))) := by
          show _ = _
          rw [HF1.out, HF2.out]
          have : (y.after.all fun on => decide (0 ≤ on) && decide (on < (il : Int))) = true := by
            rw [List.all_eq_true]
            intro on hon
            exact HA.out on (by rw [List.take_of_length_le (by rw [HM.out]; exact Nat.le_refl _)]; exact hon)
          rw [this]
          rfl
        go_wp2_with fail
        go_roundw
        case rel => exact ⟨i + 1, by omega, by go_num, HN, HBj⟩
        case measure => simp [intOf]; omega
      obtain ⟨on, hon⟩ : ∃ on, y.after[j]? = some on := ⟨_, List.getElem?_eq_getElem (by rw [HM.out]; exact hjl)⟩
      obtain ⟨b, off, rfl, c0⟩ := HZR.out j on hon
      have d0 := Dg.cell_later HBj.out c0
      have hjj : (j : Int) < (m : Int) := by omega
      have HMem : Hid (on ∈ y.after) := List.mem_of_getElem? hon
      have HTk : Hid (y.after.take (j + 1) = y.after.take j ++ [on]) := by show _ = _; rw [List.take_add_one, hon]; rfl
      clear hon c0
      by_cases g1 : 0 ≤ on
      rotate_left
      · have HN : Hid (hangs its = false) := by
          show _ = _
          rw [HH.out, HF1.out, HF2.out, List.all_eq_false.2 ⟨on, HMem.out, by simp [g1]⟩]
          rfl
        have q2 : decide (0 ≤ on) = false := by simp; omega
        go_wp2_with fail
        refine Calls.mono (must_no _ _) ?_
        rintro e w4 ⟨rfl, rfl⟩
        go_wp2_with fail
        exact ⟨rfl, by rw [HN.out]; rfl, HBj.out⟩
      have p5 : decide (0 ≤ on) = true := by simp; omega
      by_cases g2 : on < (il : Int)
      rotate_left
      · have HN : Hid (hangs its = false) := by
          show _ = _
          rw [HH.out, HF1.out, HF2.out, List.all_eq_false.2 ⟨on, HMem.out, by simp [g1, g2]⟩]
          rfl
        have q2 : decide (on < (il : Int)) = false := by simp; omega
        go_wp2_with fail
        refine Calls.mono (must_no _ _) ?_
        rintro e w4 ⟨rfl, rfl⟩
        go_wp2_with fail
        exact ⟨rfl, by rw [HN.out]; rfl, HBj.out⟩
      have p6 : decide (on < (il : Int)) = true := by simp; omega
      have HAn : Hid (∀ z ∈ y.after.take (j + 1), (decide (0 ≤ z) && decide (z < (il : Int))) = true) := by
        show ∀ z ∈ _, _
        rw [HTk.out]
        intro z hz
        rcases List.mem_append.1 hz with h | h
        · exact HA.out z h
        · simp at h
          subst h
          rw [p5, p6]
          rfl
      go_wp2_with fail
      refine Calls.mono (must_yes _ _) ?_
      rintro e w4 ⟨rfl, rfl⟩
      go_wp2_with fail
      go_roundw
      case rel => exact ⟨j + 1, by omega, by go_num, HAn, HBj⟩
      case measure => simp [intOf]; omega

end Go.Proofs.YtlegmmhacnbnlaaGreatDoor

/- slices.Equal of whole numbers. -/
namespace Go.Proofs.YtlegmmhacnbnlaaGreatDoor

open Go.RowKit Go.Shelf Go.Proofs.YtlegmmhacnbnlaaGreatDoor.Sx

set_option maxRecDepth 1000000 in
set_option maxHeartbeats 1000000 in
theorem Equal_any (l m : List Int) (v u : Value) (w : World) (hl : RdZ w v l) (hm : RdZ w u m) (hn : l.length ≤ 1000000) (hn' : m.length ≤ 1000000) :
    Calls Tryz.prog 91 #[v, u] w fun e w' => e = .returned (.bool (decide (l = m))) ∧ Below w.heap.size w w' := by
  obtain ⟨a, cap, rfl, hc, hr⟩ := hl
  obtain ⟨a', cap', rfl, hc', hr'⟩ := hm
  have HR : Hid _ := hr
  have HR' : Hid _ := hr'
  obtain ⟨n, HN⟩ : ∃ n, Hid (l.length = n) := ⟨_, rfl⟩
  obtain ⟨n', HN'⟩ : ∃ n, Hid (m.length = n) := ⟨_, rfl⟩
  rw [HN.out] at hn hc ⊢
  rw [HN'.out] at hn' hc' ⊢
  clear hr hr'
  by_cases hnn : n = n'
  · subst hnn
    go_enter Tryz.func91, Tryz.ntmps91
    go_wp2_with fail
    go_loopw [13] (fun iv wr => ∃ (k : Nat), k ≤ n ∧ iv = .int .i64 k ∧ Hid (l.take k = m.take k) ∧ Hid (Below w.heap.size w wr)) (fun iv _ => n - (intOf iv).toNat)
    case atStart => exact ⟨0, Nat.zero_le _, rfl, by show l.take 0 = m.take 0; simp, Below.refl _ _⟩
    case round =>
      obtain ⟨k, hk, rfl, HX, HB⟩ := hrel
      rename World => w1
      by_cases hlt : k < n
      · obtain ⟨x, hx⟩ : ∃ x, l[k]? = some x := ⟨_, List.getElem?_eq_getElem (by rw [HN.out]; exact hlt)⟩
        obtain ⟨y, hy⟩ : ∃ y, m[k]? = some y := ⟨_, List.getElem?_eq_getElem (by rw [HN'.out]; exact hlt)⟩
        obtain ⟨b, off, rfl, c0⟩ := HR.out k x hx
        obtain ⟨b', off', rfl, c1⟩ := HR'.out k y hy
        have d0 := Dg.cell_later HB.out c0
        have d1 := Dg.cell_later HB.out c1
        have hki : (k : Int) < (n : Int) := by omega
        by_cases hxy : x = y
        · subst hxy
          have HXn : Hid (l.take (k + 1) = m.take (k + 1)) := by show _ = _; rw [List.take_add_one, List.take_add_one, hx, hy, HX.out]
          have HB2 : Hid (Below w.heap.size w w1.drew) := Dg.bl_drawn1 HB.out
          clear hx hy c0 c1
          go_wp2_with fail
          go_region
          all_goals go_wp2_with fail
          all_goals go_roundw
          case rel => exact ⟨k + 1, by omega, by go_num, HXn, HB2⟩
          case measure => simp [intOf]; omega
        · have hne : (x == y) = false := by simpa using hxy
          have hne' : (x != y) = true := by simpa using hxy
          have HNo : Hid (decide (l = m) = false) := by
            show _ = _
            refine decide_eq_false fun e => hxy ?_
            rw [e, hy] at hx
            exact (Option.some.inj hx).symm
          have HB2 : Hid (Below w.heap.size w w1.drew) := Dg.bl_drawn1 HB.out
          clear hx hy c0 c1
          go_wp2_with fail
          go_region
          all_goals go_wp2_with fail
          all_goals go_ret
          all_goals exact ⟨by rw [HNo.out]; rfl, HB2.out⟩
      · have hkn : k = n := by omega
        subst hkn
        have HYes : Hid (decide (l = m) = true) := by
          show _ = _
          have h9 := HX.out
          rw [List.take_of_length_le (by rw [HN.out]; exact Nat.le_refl _), List.take_of_length_le (by rw [HN'.out]; exact Nat.le_refl _)] at h9
          exact decide_eq_true h9
        go_wp2_with fail
        go_ret
        exact ⟨by rw [HYes.out]; rfl, HB.out⟩
  · have HNo : Hid (decide (l = m) = false) := by
      show _ = _
      refine decide_eq_false fun e => hnn ?_
      rw [← HN.out, ← HN'.out, e]
    have hb : ((n : Int) == (n' : Int)) = false := by simp; omega
    have hb' : ((n : Int) != (n' : Int)) = true := by simp; omega
    go_enter Tryz.func91, Tryz.ntmps91
    go_wp2_with fail
    go_ret
    exact ⟨by rw [HNo.out]; rfl, Below.refl _ _⟩

end Go.Proofs.YtlegmmhacnbnlaaGreatDoor

