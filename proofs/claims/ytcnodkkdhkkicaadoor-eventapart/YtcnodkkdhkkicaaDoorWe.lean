/- Whole numbers in memory; the walks over wire.Puts and wire.Takes. -/
import Derived.Test.YtcnodkkdhkkicaaDoorWd
namespace Go.Proofs.YtcnodkkdhkkicaaDoor
open Go.RowKit
set_option linter.unusedVariables false

theorem Tryd.info3 : (Tryd.prog.info? 3).map (fun i => (i.zero, i.size, i.bytes)) = some (some (.int .i64 0), 1, 8) := by kernel_rfl

/-- A slice of ints that reads as a list. -/
def RI (w : World) (v : Value) (l : List Int) : Prop :=
  ∃ a cap, v = .slice a l.length cap ∧ l.length ≤ cap ∧ cap ≤ maxLen ∧ ∀ i, i < l.length → ∃ b off, a = some ⟨b, off, none⟩ ∧ w.cell? ⟨b, off + i, none⟩ = some (.int .i64 (l.getD i 0))

theorem RI.later {w w' : World} {v : Value} {l : List Int} (h : RI w v l) (hb : Below w.heap.size w w') : RI w' v l := by
  obtain ⟨a, cap, rfl, h1, h2, hc⟩ := h
  refine ⟨a, cap, rfl, h1, h2, fun i hi => ?_⟩
  obtain ⟨b, off, rfl, hcell⟩ := hc i hi
  exact ⟨b, off, rfl, cell_later hb hcell⟩

theorem RI.nil (w : World) : RI w (.slice none 0 0) [] := ⟨none, 0, rfl, by simp, by unfold maxLen; omega, by simp⟩

def ivs (l : List Int) : List Value := l.map fun x => .int .i64 x

theorem cell_row {w : World} {b : Nat} {cs : Array Value} {t : TypeId} (h : w.heap[b]? = some (.cells cs t (0, 0))) (i : Nat) : w.cell? ⟨b, i, none⟩ = cs[i]? := by
  simp [World.cell?, h]
theorem froz_row {w : World} {b : Nat} {cs : Array Value} {t : TypeId} (h : w.heap[b]? = some (.cells cs t (0, 0))) (i : Nat) : w.frozen? ⟨b, i, none⟩ = false := by
  simp [World.frozen?, h]

theorem row_set {w : World} {b : Nat} {cs : Array Value} {t : TypeId} (h : w.heap[b]? = some (.cells cs t (0, 0))) (i : Nat) (v : Value) : (w.setCell ⟨b, i, none⟩ v).heap[b]? = some (.cells (cs.setIfInBounds i v) t (0, 0)) := by
  obtain ⟨hlt, hk'⟩ := Array.getElem?_eq_some_iff.1 h
  simp only [World.setCell]
  rw [Array.getElem?_eq_getElem (by rw [Array.size_modify]; exact hlt), Array.getElem_modify_self, hk']
  rfl

theorem row_new (w : World) (cs : Array Value) (t : TypeId) : (w.alloc (.cells cs t)).heap[w.heap.size]? = some (.cells cs t (0, 0)) := by
  show (w.heap.push _)[w.heap.size]? = _
  simp

theorem made_zero (m : Nat) : madeCells #[Value.int .i64 0] m = (ivs (List.replicate m 0)).toArray := by
  apply Array.toList_inj.1
  rw [toList_madeCells_one]
  simp [ivs]

/-- Ints of the call's own, in a block. -/
def RowI (w : World) (b : Nat) (L : List Int) : Prop := w.heap[b]? = some (.cells (ivs L).toArray 3 (0, 0))

theorem RowI.get {w : World} {b : Nat} {L : List Int} (h : RowI w b L) (t : Nat) (ht : t < L.length) : w.cell? ⟨b, t, none⟩ = some (.int .i64 (L.getD t 0)) ∧ w.frozen? ⟨b, t, none⟩ = false := by
  have hg : L[t]? = some (L.getD t 0) := by rw [List.getD_eq_getElem?_getD, List.getElem?_eq_getElem ht]; rfl
  refine ⟨?_, froz_row h t⟩
  rw [cell_row h t, List.getElem?_toArray, ivs, List.getElem?_map, hg]
  rfl

theorem RowI.set {w : World} {b : Nat} {L : List Int} (h : RowI w b L) (t : Nat) (x : Int) : RowI (w.setCell ⟨b, t, none⟩ (.int .i64 x)) b (L.set t x) := by
  have := row_set h t (.int .i64 x)
  rw [show (ivs L).toArray.setIfInBounds t (.int .i64 x) = (ivs (L.set t x)).toArray by simp [ivs, List.map_set]] at this
  exact this

theorem RowI.below {w w' : World} {b : Nat} {L : List Int} (h : RowI w b L) (hb : Below w.heap.size w w') : RowI w' b L := (hb.block b (Array.getElem?_eq_some_iff.1 h).1).trans h

theorem RowI.ri {w : World} {b : Nat} {L : List Int} (h : RowI w b L) (hl : L.length ≤ 1000000) : RI w (.slice (some ⟨b, 0, none⟩) L.length L.length) L := by
  refine ⟨_, _, rfl, Nat.le_refl _, by unfold maxLen; omega, fun i hi => ⟨b, 0, rfl, ?_⟩⟩
  rw [Nat.zero_add]
  exact (h.get i hi).1

/-- All are numbers. -/
def allN (l : List Int) : Bool := l.all isN
def natL (l : List Int) : List Nat := l.map Int.toNat

/-- What Puts answers. -/
def putsR (a : List UInt8) (l : List Int) : List UInt8 := if l.length ≤ 255 then (if allN l then a ++ putsP (natL l) else []) else []
def putsE (l : List Int) : Nat := if l.length ≤ 255 then (if allN l then 0 else 2) else 5

theorem allN_nat {l : List Int} (h : allN l = true) : ∀ n ∈ natL l, n ≤ 1099511627776 := by
  intro n hn
  obtain ⟨x, hx, rfl⟩ := List.mem_map.1 hn
  have := List.all_eq_true.1 h x hx
  have := of_decide_eq_true this
  omega

theorem natL_len (l : List Int) : (natL l).length = l.length := by simp [natL]

theorem many_take {l : List Int} {k : Nat} (hk : k < l.length) : manyP (natL (l.take (k + 1))) = manyP (natL (l.take k)) ++ oneP (l.getD k 0).toNat := by
  rw [List.take_succ_eq_append_getElem hk]
  have : natL (l.take k ++ [l[k]]) = natL (l.take k) ++ [l[k].toNat] := by unfold natL; rw [List.map_append]; rfl
  rw [this, many_snoc]
  simp [hk]

theorem many_small {l : List Int} (h : allN l = true) (k : Nat) (hl : l.length ≤ 255) : (manyP (natL (l.take k))).length ≤ 1530 := by
  have h1 := many_len (natL (l.take k)) (fun n hn => allN_nat h n (by
    obtain ⟨x, hx, rfl⟩ := List.mem_map.1 hn
    exact List.mem_map.2 ⟨x, List.mem_of_mem_take hx, rfl⟩))
  rw [natL_len, List.length_take] at h1
  omega

set_option maxRecDepth 1000000 in
set_option maxHeartbeats 1000000 in
theorem puts_any (x y : Value) (a : List UInt8) (l : List Int) (w : World) (hx : RB w x a) (hy : RI w y l) (ha : a.length ≤ 90000) (hl : l.length ≤ 1000000) :
    Calls Tryd.prog 37 #[x, y] w fun e w' => ∃ v c, e = .returned (.tuple #[.slice v (putsR a l).length c, .int .i64 (putsE l : Nat)]) ∧ RB w' (.slice v (putsR a l).length c) (putsR a l) ∧ Below w.heap.size w w' := by
  have HX : Hid (RB w x a) := hx
  have HY : Hid (RI w y l) := hy
  obtain ⟨xa, xc, rfl, _, _, _, _⟩ := hx
  obtain ⟨ya, yc, rfl, _, _, hyc⟩ := hy
  have HYC : Hid _ := hyc
  clear hyc
  obtain ⟨R, HR⟩ : ∃ R, Hid (R = putsR a l) := ⟨_, rfl⟩
  obtain ⟨E, HE⟩ : ∃ E, Hid (E = putsE l) := ⟨_, rfl⟩
  rw [← HR.out, ← HE.out]
  by_cases h255 : l.length ≤ 255
  · go_enter Tryd.func37, Tryd.ntmps37
    go_wp2_with fail
    go_loopw [16] (fun iv wr => ∃ (k : Nat), k ≤ l.length ∧ iv = .int .i64 k ∧ Hid (∀ i, i < k → isN (l.getD i 0) = true) ∧ wr = w) (fun iv _ => l.length - (intOf iv).toNat)
    case atStart => exact ⟨0, Nat.zero_le _, rfl, fun i hi => by omega, rfl⟩
    case round =>
      obtain ⟨k, hk, rfl, HA, rfl⟩ := hrel
      by_cases hlt : k < l.length
      · obtain ⟨b1, o1, rfl, hc1⟩ := HYC.out k hlt
        obtain ⟨z, HZ⟩ : ∃ z, Hid (z = l.getD k 0) := ⟨_, rfl⟩
        rw [← HZ.out] at hc1
        by_cases hn : 0 ≤ z ∧ z ≤ 1099511627776
        · have HA2 : Hid (∀ i, i < k + 1 → isN (l.getD i 0) = true) := by
            show ∀ i, i < k + 1 → _
            intro i hi
            by_cases hik : i = k
            · subst hik; rw [← HZ.out]; exact decide_eq_true hn
            · exact HA.out i (by omega)
          go_wp2_with fail
          refine Calls.mono (right_yes _ hn _) ?_
          rintro e w1 ⟨rfl, rfl⟩
          go_wp2_with fail
          go_roundw
          case rel => exact ⟨k + 1, by omega, by go_num, HA2, trivial⟩
          case measure => simp [intOf]; omega
        · have hall : allN l = false := by
            unfold allN
            rw [List.all_eq_false]
            refine ⟨l[k], List.getElem_mem hlt, ?_⟩
            have e : z = l[k] := by rw [HZ.out]; simp [hlt]
            rw [← e, show isN z = false from decide_eq_false hn]
            decide
          have HR2 : Hid (R = []) := by show _ = _; rw [HR.out]; unfold putsR; rw [if_pos h255, if_neg (by rw [hall]; decide)]
          have HE2 : Hid (E = 2) := by show _ = _; rw [HE.out]; unfold putsE; rw [if_pos h255, if_neg (by rw [hall]; decide)]
          clear HR HE hall
          go_wp2_with fail
          refine Calls.mono (right_no _ hn _) ?_
          rintro e w1 ⟨rfl, rfl⟩
          go_wp2_with fail
          go_ret2
          rw [HR2.out, HE2.out]
          exact ⟨none, 0, rfl, RB.nil _, Below.refl _ _⟩
      · have hkk : k = l.length := by omega
        have hall : allN l = true := by
          unfold allN
          rw [List.all_eq_true]
          intro z hz
          obtain ⟨i, hi, rfl⟩ := List.mem_iff_getElem.1 hz
          have := HA.out i (by omega)
          simpa [hi] using this
        have HR2 : Hid (R = a ++ putsP (natL l)) := by show _ = _; rw [HR.out]; unfold putsR; rw [if_pos h255, if_pos hall]
        have HE2 : Hid (E = 0) := by show _ = _; rw [HE.out]; unfold putsE; rw [if_pos h255, if_pos hall]
        have HS : Hid (∀ k, (manyP (natL (l.take k))).length ≤ 1530) := fun k => many_small hall k h255
        have HIN : Hid (∀ i, i < l.length → 0 ≤ l.getD i 0 ∧ l.getD i 0 ≤ 1099511627776) := by
          show ∀ i, i < l.length → _
          intro i hi
          exact of_decide_eq_true (HA.out i (by omega))
        have HRM : Hid _ := room_any _ a (1 + l.length) wr HX.out (by omega) (by omega)
        have hcast : ((1 + l.length : Nat) : Int) = 1 + (l.length : Int) := by omega
        rw [hcast] at HRM
        clear HR HE hall HA hkk hcast
        go_wp2_with fail
        refine Calls.mono HRM.out ?_
        rintro e w2 ⟨g2, c2, rfl, ho2, hb2⟩
        have HAD : Hid _ := add_any wr.heap.size g2 a.length c2 l.length a w2 hb2.size ho2 (by omega) (by omega)
        have HB2 : Hid (Below wr.heap.size wr w2) := hb2
        clear ho2 hb2 HRM
        go_wp2_with fail
        refine Calls.mono HAD.out ?_
        rintro e w3 ⟨g3, c3, rfl, ho3, hb3⟩
        have HO3 : Hid (OB wr.heap.size w3 g3 (a.length + (oneP l.length).length) c3 (a ++ oneP l.length)) := ho3
        have HB3 : Hid (Below wr.heap.size wr w3) := HB2.out.trans hb3
        have hone := one_six (n := l.length) (by omega)
        clear ho3 hb3 HAD HB2
        go_wp2_with fail
        go_loopw [8, 34] (fun av iv wx => ∃ (g m cap k : Nat), k ≤ l.length ∧ m ≤ 100000 ∧ iv = .int .i64 k ∧ av = .slice (some ⟨g, 0, none⟩) m cap ∧ Hid (OB wr.heap.size wx g m cap (a ++ oneP l.length ++ manyP (natL (l.take k)))) ∧ Hid (Below wr.heap.size wr wx)) (fun _ iv _ => l.length - (intOf iv).toNat)
        case atStart => exact ⟨g3, _, c3, 0, Nat.zero_le _, by omega, rfl, rfl, by show OB _ _ _ _ _ _; simpa [natL, manyP] using HO3.out, HB3⟩
        case round =>
          obtain ⟨g, m, cap, k, hk, hm, rfl, rfl, HO, HB⟩ := hrel
          rename World => wx
          by_cases hlt : k < l.length
          · obtain ⟨b1, o1, rfl, hc1⟩ := HYC.out k hlt
            have hc2 := cell_later HB.out hc1
            have hin := HIN.out k hlt
            have HMT : Hid (manyP (natL (l.take (k + 1))) = manyP (natL (l.take k)) ++ oneP (l.getD k 0).toNat) := many_take hlt
            have hs2 := HS.out (k + 1)
            have hln := HO.out.rb.1
            obtain ⟨z, hz⟩ : ∃ z : Nat, l.getD k 0 = (z : Int) := ⟨(l.getD k 0).toNat, by omega⟩
            rw [hz] at hc2 hin HMT
            rw [Int.toNat_natCast] at HMT
            have hsz : (oneP z).length + m ≤ 100000 := by
              have h1 := HMT.out
              rw [h1] at hs2
              rw [List.length_append] at hs2
              rw [List.length_append, List.length_append] at hln
              omega
            have HAD : Hid _ := add_any wr.heap.size g m cap z _ wx HB.out.size HO.out hm (by omega)
            clear hc1 hs2 hln hz
            go_wp2_with fail
            refine Calls.mono HAD.out ?_
            rintro e w4 ⟨g4, c4, rfl, ho4, hb4⟩
            have HO4 : Hid (OB wr.heap.size w4 g4 (m + (oneP z).length) c4 (a ++ oneP l.length ++ manyP (natL (l.take (k + 1))))) := by
              show OB _ _ _ _ _ _
              rw [HMT.out, ← List.append_assoc]
              exact ho4
            have HB4 : Hid (Below wr.heap.size wr w4) := HB.out.trans hb4
            clear ho4 hb4 HAD
            go_wp2_with fail
            go_roundw
            case rel => exact ⟨g4, _, c4, k + 1, by omega, by omega, by go_num, rfl, HO4, HB4⟩
            case measure => simp [intOf]; omega
          · have hkk : k = l.length := by omega
            have HO4 : Hid (OB wr.heap.size wx g m cap R) := by
              have := HO.out
              rw [hkk, List.take_length, List.append_assoc] at this
              show OB _ _ _ _ _ _
              rw [HR2.out]
              unfold putsP
              rw [natL_len]
              exact this
            clear hkk
            go_wp2_with fail
            go_ret2
            rw [HE2.out, ← HO4.out.rb.1]
            exact ⟨_, _, rfl, HO4.out.rb.2, HB.out⟩
  · have HR2 : Hid (R = []) := by show _ = _; rw [HR.out]; unfold putsR; rw [if_neg h255]
    have HE2 : Hid (E = 5) := by show _ = _; rw [HE.out]; unfold putsE; rw [if_neg h255]
    clear HR HE
    go_enter Tryd.func37, Tryd.ntmps37
    go_wp2_with fail
    go_ret2
    rw [HR2.out, HE2.out]
    exact ⟨none, 0, rfl, RB.nil _, Below.refl _ _⟩
end Go.Proofs.YtcnodkkdhkkicaaDoor
