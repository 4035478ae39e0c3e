/- Texts of the seat, packed: Cc Cd Ce. -/
import Derived.Test.YteghapmlnkhepaaDoorP32
import Derived.OwnWalkIn
import Derived.TacticsInMore
import Derived.Deep.QuietTactic
import Derived.BigQuiet
/- at, off, Live, Cancel, Off: of a tree in memory. -/
namespace Go.Proofs.YteghapmlnkhepaaDoor.Tk
open Go.RowKit Go.Shelf Go.Proofs.YteghapmlnkhepaaDoor.St Go.Proofs.YteghapmlnkhepaaDoor.Sx
set_option maxRecDepth 1000000
set_option linter.unusedVariables false

variable {n0 : Nat} {w w' : World} {tb : Nat} {sv : Value} {bs : List Nat} {its : List It} {p : Pl} {L : List (Nat × Nat)} {C : Nat → Bool} {S : Nat → Prop}

/-- The pointer to a token, or none. -/
def ptrZ (bs : List Nat) (k : Int) : Value := if 1 ≤ k ∧ k ≤ (bs.length : Int) then .pointer (some ⟨bs.getD (k.toNat - 1) 0, 0, none⟩) else .pointer none

set_option maxHeartbeats 2000000 in
theorem at_any (h : TT n0 w tb sv bs its p L C S) (k : Int) (hn : L.length ≤ 1000) :
    Calls Tryd.prog 21 #[.pointer (some ⟨tb, 0, none⟩), .int .i64 k] w fun e w' => e = .returned (ptrZ bs k) ∧ w' = w := by
  obtain ⟨R, HR⟩ : ∃ R, Hid (R = ptrZ bs k) := ⟨_, rfl⟩
  rw [← HR.out]
  have c0 := h.c0
  obtain ⟨a, c, rfl⟩ := h.sl
  obtain ⟨n, HN⟩ : ∃ n, Hid (L.length = n) := ⟨_, rfl⟩
  have HT : Hid _ := h
  rw [HN.out] at c0 hn
  have HBL : Hid (bs.length = n) := h.len.trans HN.out
  clear h
  by_cases h1 : k < 1
  · have HX : Hid (R = .pointer none) := by
      show R = _
      rw [HR.out]
      unfold ptrZ
      rw [if_neg (by omega)]
    go_enter Tryd.func21, Tryd.ntmps21
    go_wp2_with fail
    go_ret
    exact ⟨by rw [HX.out]; rfl, rfl⟩
  · by_cases h2 : (n : Int) < k
    · have HX : Hid (R = .pointer none) := by
        show R = _
        rw [HR.out]
        unfold ptrZ
        rw [if_neg (by have := HBL.out; omega)]
      go_enter Tryd.func21, Tryd.ntmps21
      go_wp2_with fail
      go_ret
      exact ⟨by rw [HX.out]; rfl, rfl⟩
    · obtain ⟨i, rfl⟩ : ∃ i : Nat, k = (i : Int) + 1 := ⟨(k - 1).toNat, by omega⟩
      have hi : i < bs.length := by have := HBL.out; omega
      obtain ⟨b, hb⟩ : ∃ b, bs[i]? = some b := ⟨_, List.getElem?_eq_getElem hi⟩
      obtain ⟨g, rfl, hcell, hc⟩ := HT.out.at' rfl hb
      rw [HN.out] at hc
      have HX : Hid (R = .pointer (some ⟨b, 0, none⟩)) := by
        show R = _
        rw [HR.out]
        unfold ptrZ
        rw [if_pos (show 1 ≤ (i : Int) + 1 ∧ (i : Int) + 1 ≤ (bs.length : Int) by omega), show ((i : Int) + 1).toNat - 1 = i by omega, List.getD_eq_getElem?_getD, hb]
        rfl
      have hin : (i : Int) < (n : Int) := by omega
      clear hb hi
      go_enter Tryd.func21, Tryd.ntmps21
      go_wp2_with fail
      go_ret
      exact ⟨by rw [HX.out]; rfl, rfl⟩

/-- Of no tree. -/
theorem at_nil (k : Int) (w : World) : Calls Tryd.prog 21 #[.pointer none, .int .i64 k] w fun e w' => e = .returned (.pointer none) ∧ w' = w := by
  go_enter Tryd.func21, Tryd.ntmps21
  go_wp2_with fail
  go_ret
  exact ⟨rfl, rfl⟩

/-- Which token a pointer is. -/
def ptI (bs : List Nat) : Value → Nat
  | .pointer (some a) => bs.idxOf a.block + 1
  | _ => 0
theorem idx_bs {bs : List Nat} (hj : ∀ (i j b : Nat), bs[i]? = some b → bs[j]? = some b → i = j) {i b : Nat} (h : bs[i]? = some b) : bs.idxOf b = i := by
  have hm := List.mem_of_getElem? h
  have hl := List.idxOf_lt_length_of_mem hm
  refine hj _ _ b ?_ h
  rw [List.getElem?_eq_getElem hl, List.getElem_idxOf hl]

/-- How the tokens stand in one another. -/
structure Std (p : Pl) (L : List (Nat × Nat)) : Prop where
  ok : p.Ok
  few : L.length ≤ 1000
  at_ : ∀ (i : Nat) (x : Nat × Nat), L[i]? = some x → x.1 < p.n ∧ tk p x.1 x.2 = i + 1
  up : ∀ (i : Nat) (x : Nat × Nat), L[i]? = some x → x.1 ≠ 0 → tk p (p.inn x.1) (p.alt x.1) - 1 < i ∧ L[tk p (p.inn x.1) (p.alt x.1) - 1]? = some (p.inn x.1, p.alt x.1)

set_option maxHeartbeats 2000000 in
/-- Whether a token is off. -/
theorem off_any (h : TT n0 w tb sv bs its p L C S) (hS : Std p L) {i0 : Nat} {x0 : Nat × Nat} {b0 : Nat} (hx0 : L[i0]? = some x0) (hb0 : bs[i0]? = some b0) :
    Calls Tryd.prog 23 #[.pointer (some ⟨b0, 0, none⟩)] w fun e w' => e = .returned (.bool (off p C x0.1 x0.2)) ∧ w' = w := by
  obtain ⟨R, HR⟩ : ∃ R, Hid (R = off p C x0.1 x0.2) := ⟨_, rfl⟩
  rw [← HR.out]
  have HT : Hid _ := h
  have HS : Hid _ := hS
  have H0 : Hid ((∃ (i : Nat) (x : Nat × Nat) (b : Nat), L[i]? = some x ∧ bs[i]? = some b ∧ (Value.pointer (some ⟨b0, 0, none⟩) : Value) = .pointer (some ⟨b, 0, none⟩) ∧ R = off p C x.1 x.2) ∨ (Value.pointer (some ⟨b0, 0, none⟩) : Value) = .pointer none ∧ R = false) := .inl ⟨i0, x0, b0, hx0, hb0, rfl, HR.out⟩
  clear h hS hx0 hb0
  go_enter Tryd.func23, Tryd.ntmps23
  go_wp2_with fail
  go_loopw [0] (fun iv wr => Hid ((∃ (i : Nat) (x : Nat × Nat) (b : Nat), L[i]? = some x ∧ bs[i]? = some b ∧ iv = .pointer (some ⟨b, 0, none⟩) ∧ R = off p C x.1 x.2) ∨ iv = .pointer none ∧ R = false) ∧ wr = w) (fun iv _ => ptI bs iv)
  case atStart => exact ⟨H0, rfl⟩
  case round =>
    obtain ⟨HI, rfl⟩ := hrel
    rcases HI.out with ⟨i, x, b, hx, hb, rfl, hR⟩ | ⟨rfl, hR⟩
    · obtain ⟨v, k0, k1, k2, k3, k4, k5⟩ := HT.out.cells hx hb
      have hidx := idx_bs HT.out.inj hb
      obtain ⟨q1, q2⟩ := HS.out.at_ i x hx
      have hoff := off_eq HS.out.ok C q1 x.2
      rw [← hR, q2] at hoff
      cases hC : C (i + 1) with
      | true =>
        rw [hC] at k4 hoff
        have HX : Hid (R = true) := by show R = true; rw [hoff]; rfl
        clear hoff k0 k1 k2 k3 k5 hC hR H0 HI hidx hx hb q1 q2
        go_wp2_with fail
        go_ret
        exact ⟨by rw [HX.out]; rfl, rfl⟩
      | false =>
        rw [hC, Bool.false_or] at hoff
        rw [hC] at k4
        unfold wiV at k3
        by_cases hx1 : x.1 = 0
        · rw [if_pos hx1] at k3
          have HX : Hid (R = false) := by show R = false; rw [hoff, hx1]; rfl
          clear hoff k0 k1 k2 k5 hC hR H0 HI hx hb q1 q2
          go_wp2_with fail
          go_roundw
          case rel => exact ⟨.inr ⟨rfl, HX.out⟩, trivial⟩
          case measure => show 0 < _; show 0 < bs.idxOf b + 1; omega
        · rw [if_neg hx1] at k3
          obtain ⟨u1, u2⟩ := HS.out.up i x hx hx1
          rw [decide_eq_true (by omega : 1 ≤ x.1), Bool.true_and] at hoff
          generalize tk p (p.inn x.1) (p.alt x.1) - 1 = j at *
          obtain ⟨c, hc⟩ : ∃ c, bs[j]? = some c := ⟨_, List.getElem?_eq_getElem (by rw [HT.out.len]; exact (List.getElem?_eq_some_iff.1 u2).1)⟩
          rw [List.getD_eq_getElem?_getD, hc] at k3
          have hidc := idx_bs HT.out.inj hc
          have HJ : Hid ((∃ (i : Nat) (x : Nat × Nat) (b : Nat), L[i]? = some x ∧ bs[i]? = some b ∧ (Value.pointer (some ⟨c, 0, none⟩) : Value) = .pointer (some ⟨b, 0, none⟩) ∧ R = off p C x.1 x.2) ∨ (Value.pointer (some ⟨c, 0, none⟩) : Value) = .pointer none ∧ R = false) := .inl ⟨j, _, c, u2, hc, rfl, hoff⟩
          have HM : Hid (bs.idxOf c < bs.idxOf b) := by show _ < _; omega
          replace k3 : wr.cell? ⟨b, 3, none⟩ = some (.pointer (some ⟨c, 0, none⟩)) := k3
          clear hoff k0 k1 k2 k5 hC hR H0 HI hx hb q1 q2 hidx hidc u1 u2 hc
          go_wp2_with fail
          go_roundw
          case rel => exact ⟨HJ.out, trivial⟩
          case measure => show bs.idxOf c + 1 < bs.idxOf b + 1; have := HM.out; omega
    · have HX : Hid (R = false) := hR
      clear hR H0 HI
      go_wp2_with fail
      go_ret
      exact ⟨by rw [HX.out]; rfl, rfl⟩
end Go.Proofs.YteghapmlnkhepaaDoor.Tk

/- Live, Cancel, Off: of a tree in memory. -/
namespace Go.Proofs.YteghapmlnkhepaaDoor.Tk
open Go.RowKit Go.Shelf Go.Proofs.YteghapmlnkhepaaDoor.St Go.Proofs.YteghapmlnkhepaaDoor.Sx
set_option maxRecDepth 1000000
set_option linter.unusedVariables false

variable {n0 : Nat} {w w' : World} {tb : Nat} {sv : Value} {bs : List Nat} {its : List It} {p : Pl} {L : List (Nat × Nat)} {C : Nat → Bool} {S : Nat → Prop}

/-- Those of such tokens that are not off. -/
def liveL (p : Pl) (C : Nat → Bool) (L : List (Nat × Nat)) : List Nat := (L.filter fun x => !off p C x.1 x.2).map fun x => tk p x.1 x.2
theorem liveL_len (p : Pl) (C : Nat → Bool) (L : List (Nat × Nat)) : (liveL p C L).length ≤ L.length := by
  unfold liveL
  rw [List.length_map]
  exact List.length_filter_le _ _
theorem liveL_step {p : Pl} {C : Nat → Bool} {L : List (Nat × Nat)} {k : Nat} {x : Nat × Nat} (hx : L[k]? = some x) : liveL p C (L.take (k + 1)) = liveL p C (L.take k) ++ (if off p C x.1 x.2 then [] else [tk p x.1 x.2]) := by
  unfold liveL
  rw [List.take_add_one, hx, List.filter_append, List.map_append]
  congr 1
  cases h : off p C x.1 x.2 <;> simp [h]

set_option maxHeartbeats 4000000 in
theorem Live_any (h : TT n0 w tb sv bs its p L C S) (hS : Std p L) :
    Calls Tryd.prog 10 #[.pointer (some ⟨tb, 0, none⟩)] w fun e w' => Below w.heap.size w w' ∧ ∃ v, e = .returned v ∧ w'.ownsRow w.heap.size 3 1 v (liveL p C L).length (Dg.ivs (liveL p C L)) := by
  obtain ⟨i0, hi0, hz0, hz1, hz2⟩ := info_parts Dg.Tryd.info3
  obtain ⟨G, HG⟩ : ∃ G, Hid (liveL p C L = G) := ⟨_, rfl⟩
  rw [HG.out]
  have c0 := h.c0
  obtain ⟨a, c, rfl⟩ := h.sl
  obtain ⟨n, HN⟩ : ∃ n, Hid (L.length = n) := ⟨_, rfl⟩
  have HT : Hid _ := h
  have HS : Hid _ := hS
  rw [HN.out] at c0
  have hn : n ≤ 1000 := by rw [← HN.out]; exact hS.few
  have HB0 : Hid (Below w.heap.size w w) := Below.refl _ _
  clear h hS
  go_enter Tryd.func10, Tryd.ntmps10
  go_wp2_with fail
  go_loopw [3, 13] (fun lv kv wr => ∃ (k : Nat) (acc : List Nat), k ≤ n ∧ kv = .int .i64 k ∧ Hid (acc = liveL p C (L.take k)) ∧ Hid (wr.ownsRow w.heap.size 3 1 lv acc.length (Dg.ivs acc)) ∧ Hid (Below w.heap.size w wr)) (fun _ kv _ => n - (intOf kv).toNat)
  case atStart => exact ⟨0, [], Nat.zero_le _, by go_num, rfl, World.ownsRow_nil _ _ _ _, HB0⟩
  case round =>
    obtain ⟨k, acc, hk, rfl, HA, HO, HB⟩ := hrel
    rename World => w1
    clear HB0
    by_cases hlt : k < n
    rotate_left
    · have hacc : acc = G := by
        rw [HA.out, ← HG.out, List.take_of_length_le (by have := HN.out; omega)]
      subst hacc
      have hnk : ¬ (k : Int) < (n : Int) := by omega
      go_wp2_with fail
      go_ret
      exact ⟨HB.out, _, rfl, HO.out⟩
    · obtain ⟨x, hx⟩ : ∃ x, L[k]? = some x := ⟨_, List.getElem?_eq_getElem (by rw [HN.out]; exact hlt)⟩
      obtain ⟨b, hb⟩ : ∃ b, bs[k]? = some b := ⟨_, List.getElem?_eq_getElem (by rw [HT.out.len, HN.out]; exact hlt)⟩
      have HT1 : Hid _ := TT.later HT.out HB.out
      obtain ⟨g, rfl, hcell, hc⟩ := HT1.out.at' rfl hb
      rw [HN.out] at hc
      have hkn : (k : Int) < (n : Int) := by omega
      have M : Hid _ := off_any HT1.out HS.out hx hb
      have hz := HB.out.size
      have hal : acc.length ≤ 1000 := by
        have h1 := liveL_len p C (L.take k)
        rw [← HA.out, List.length_take] at h1
        omega
      have hstep := liveL_step (p := p) (C := C) hx
      rw [← HA.out] at hstep
      have htk := (HS.out.at_ k x hx).2
      have ho := HO.out
      have hlen1 := HN.out
      cases hoff : off p C x.1 x.2 with
      | true =>
        rw [hoff] at M hstep
        have HA2 : Hid (acc = liveL p C (L.take (k + 1))) := by show acc = _; rw [hstep]; simp
        clear hstep htk hoff HA hx hb hlen1
        go_wp2_with fail
        refine Calls.mono M.out ?_
        rintro e w2 ⟨rfl, rfl⟩
        clear M
        go_wp2_with fail
        go_roundw
        case rel => exact ⟨k + 1, acc, by omega, by go_num, HA2, HO, HB⟩
        case measure => simp [intOf]; omega
      | false =>
        rw [hoff] at M hstep
        rw [htk] at hstep
        have HA2 : Hid (acc ++ [k + 1] = liveL p C (L.take (k + 1))) := by show _ = _; rw [hstep]; simp
        clear hstep htk hoff HA hx hb hlen1
        go_wp2_with fail
        refine Calls.mono M.out ?_
        rintro e w2 ⟨rfl, rfl⟩
        clear M
        go_wp2_with (at_builtin; refine wpList_append_own_at _ rfl _ _ 25 rfl w.heap.size 3 i0 _ 1 8 Tryd.underlying25 hi0 hz0 hz1 hz2 rfl (by decide) _ acc.length (Dg.ivs acc) rfl (ho.alloc _) ⟨w2.heap.size, 0, none⟩ 1 1 [.int .i64 ((k : Int) + 1)] rfl rfl (Dg.new_cells w2 [.int .i64 ((k : Int) + 1)] 3) (by simp [Value.oneCell']) (by unfold maxLen; omega) (by omega) (by simp; omega) ?_; intro v5 w5 ho5 hg5 _ hat5; obtain ⟨g5, cap5, rfl⟩ := Dg.ownsRow_succ' ho5)
        have HB5 : Hid (Below w.heap.size w w5) := Below.grown (HB.out.alloc hz _) hg5 (by simp; omega) (fun j hj => (ho.lt _ hj).1)
        have HO5 : Hid (w5.ownsRow w.heap.size 3 1 (.slice (some ⟨g5, 0, none⟩) (acc.length + 1) cap5) (acc ++ [k + 1]).length (Dg.ivs (acc ++ [k + 1]))) := by
          show World.ownsRow _ _ _ _ _ _ _
          rw [Dg.ivs_snoc, List.length_append]
          exact ho5
        go_roundw
        case rel => exact ⟨k + 1, acc ++ [k + 1], by omega, by go_num, HA2, HO5, HB5⟩
        case measure => simp [intOf]; omega

/-- Live, as it is read. -/
theorem Live_rd (h : TT n0 w tb sv bs its p L C S) (hS : Std p L) :
    Calls Tryd.prog 10 #[.pointer (some ⟨tb, 0, none⟩)] w fun e w' => Below w.heap.size w w' ∧ ∃ v, e = .returned v ∧ Dg.RdI w' v (liveL p C L) ∧ ∀ g, v.ownBlock = some g → w.heap.size ≤ g :=
  (Live_any h hS).mono fun e w' ⟨hb, v, he, ho⟩ => ⟨hb, v, he, Dg.RdI.of_own ho, fun g hg => (own_exists ho g hg).1⟩

/-- Of no tree. -/
theorem Live_nil (w : World) : Calls Tryd.prog 10 #[.pointer none] w fun e w' => e = .returned (.slice none 0 0) ∧ w' = w := by
  go_enter Tryd.func10, Tryd.ntmps10
  go_wp2_with fail
  go_ret
  exact ⟨rfl, rfl⟩

theorem ptrZ_at {bs : List Nat} {i b : Nat} (hb : bs[i]? = some b) {k : Int} (hk : k = (i : Int) + 1) : ptrZ bs k = .pointer (some ⟨b, 0, none⟩) := by
  have hi := (List.getElem?_eq_some_iff.1 hb).1
  unfold ptrZ
  rw [if_pos (show 1 ≤ k ∧ k ≤ (bs.length : Int) by omega), show k.toNat - 1 = i by omega, List.getD_eq_getElem?_getD, hb]
  rfl

set_option maxHeartbeats 4000000 in
theorem Cancel_any (h : TT n0 w tb sv bs its p L C S) (hS : Std p L) (k : Int) :
    Calls Tryd.prog 9 #[.pointer (some ⟨tb, 0, none⟩), .int .i64 k] w fun e w' => e = .returned (.int .i64 ((liveL p C L).length - (liveL p (putZ L.length C k) L).length)) ∧ TT n0 w' tb sv bs its p L (putZ L.length C k) S ∧ Kp (fun b => b ∈ bs) w w' := by
  have HM : Hid _ := at_any h k hS.few
  have HT : Hid _ := h
  have HS : Hid _ := hS
  by_cases hk : 1 ≤ k ∧ k ≤ (L.length : Int)
  · obtain ⟨i, rfl⟩ : ∃ i : Nat, k = (i : Int) + 1 := ⟨(k - 1).toNat, by omega⟩
    obtain ⟨b, hb⟩ : ∃ b, bs[i]? = some b := ⟨_, List.getElem?_eq_getElem (by rw [h.len]; omega)⟩
    rw [ptrZ_at hb rfl] at HM
    have hput : putZ L.length C ((i : Int) + 1) = put C (i + 1) := by
      unfold putZ
      rw [if_pos hk, show ((i : Int) + 1).toNat = i + 1 by omega]
    rw [hput]
    obtain ⟨R, HR⟩ : ∃ R : Ending → World → Prop, Hid (R = fun e w' => e = .returned (.int .i64 ((liveL p C L).length - (liveL p (put C (i + 1)) L).length)) ∧ TT n0 w' tb sv bs its p L (put C (i + 1)) S ∧ Kp (fun b => b ∈ bs) w w') := ⟨_, rfl⟩
    rw [← HR.out]
    have HB : Hid _ := hb
    have h1 := liveL_len p C L
    have h2 := liveL_len p (put C (i + 1)) L
    have h3 := hS.few
    obtain ⟨n1, HN1⟩ : ∃ n, Hid ((liveL p C L).length = n) := ⟨_, rfl⟩
    obtain ⟨n2, HN2⟩ : ∃ n, Hid ((liveL p (put C (i + 1)) L).length = n) := ⟨_, rfl⟩
    rw [HN1.out] at h1
    rw [HN2.out] at h2
    have hl1 : n1 ≤ 1000 := by omega
    have hl2 : n2 ≤ 1000 := by omega
    clear h hS hk hput h1 h2 h3 hb
    go_enter Tryd.func9, Tryd.ntmps9
    go_wp2_with fail
    refine Calls.mono HM.out ?_
    rintro e w1 ⟨rfl, rfl⟩
    clear HM
    have HL : Hid _ := Live_rd HT.out HS.out
    go_wp2_with fail
    refine Calls.mono HL.out ?_
    rintro e w2 ⟨hb2, v, rfl, ⟨a, c, rfl, _⟩, _⟩
    rw [HN1.out]
    have HT2 : Hid _ := TT.later HT.out hb2
    have HK2 : Hid (Kp (fun b => b ∈ bs) w1 w2) := Kp.of_below _ hb2
    obtain ⟨x, hx⟩ := HT2.out.blk HB.out
    obtain ⟨v2, k0, k1, k2, k3, k4, k5⟩ := HT2.out.cells hx HB.out
    obtain ⟨vv, kk, _⟩ := HT2.out.tok i x b hx HB.out
    have k6 := Dg.froz_row kk 4
    obtain ⟨t1, t2⟩ := HT2.out.call HB.out
    have HT3 : Hid _ := t1
    have HK3 : Hid _ := HK2.out.trans t2
    clear HL hb2 hx k0 k1 k2 k3 k5 kk t1 t2 HT2 HK2
    go_wp2_with fail
    generalize w2.setCell ⟨b, 4, none⟩ (.bool true) = w3 at *
    have HL : Hid _ := Live_rd HT3.out HS.out
    refine Calls.mono HL.out ?_
    rintro e w4 ⟨hb4, v, rfl, ⟨a, c, rfl, _⟩, _⟩
    rw [HN2.out]
    have HT4 : Hid _ := TT.later HT3.out hb4
    have HK4 : Hid _ := HK3.out.later hb4
    clear HL hb4 k4 k6
    go_wp2_with fail
    rw [HR.out]
    refine ⟨?_, HT4.out, HK4.out⟩
    rw [HN1.out, HN2.out]
    rfl
  · have hpt : ptrZ bs k = .pointer none := by
      unfold ptrZ
      rw [if_neg (by rw [h.len]; exact hk)]
    rw [hpt] at HM
    have hput : putZ L.length C k = C := by
      unfold putZ
      rw [if_neg hk]
    rw [hput]
    clear h hS hk hput hpt
    go_enter Tryd.func9, Tryd.ntmps9
    go_wp2_with fail
    refine Calls.mono HM.out ?_
    rintro e w1 ⟨rfl, rfl⟩
    go_wp2_with fail
    go_ret
    exact ⟨by rw [Int.sub_self]; rfl, HT.out, Kp.refl _ _⟩

theorem Cancel_nil (k : Int) (w : World) : Calls Tryd.prog 9 #[.pointer none, .int .i64 k] w fun e w' => e = .returned (.int .i64 0) ∧ w' = w := by
  have HM : Hid _ := at_nil k w
  go_enter Tryd.func9, Tryd.ntmps9
  go_wp2_with fail
  refine Calls.mono HM.out ?_
  rintro e w1 ⟨rfl, rfl⟩
  go_wp2_with fail
  go_ret
  exact ⟨rfl, rfl⟩

/-- Whether a number's token is off. -/
def offZ (p : Pl) (C : Nat → Bool) (L : List (Nat × Nat)) (k : Int) : Bool := if 1 ≤ k ∧ k ≤ (L.length : Int) then (match L[k.toNat - 1]? with | some x => off p C x.1 x.2 | none => true) else true

theorem Off_any (h : TT n0 w tb sv bs its p L C S) (hS : Std p L) (k : Int) :
    Calls Tryd.prog 11 #[.pointer (some ⟨tb, 0, none⟩), .int .i64 k] w fun e w' => e = .returned (.bool (offZ p C L k)) ∧ w' = w := by
  have HM : Hid _ := at_any h k hS.few
  unfold offZ
  by_cases hk : 1 ≤ k ∧ k ≤ (L.length : Int)
  · obtain ⟨i, rfl⟩ : ∃ i : Nat, k = (i : Int) + 1 := ⟨(k - 1).toNat, by omega⟩
    obtain ⟨b, hb⟩ : ∃ b, bs[i]? = some b := ⟨_, List.getElem?_eq_getElem (by rw [h.len]; omega)⟩
    obtain ⟨x, hx⟩ : ∃ x, L[i]? = some x := ⟨_, List.getElem?_eq_getElem (by omega)⟩
    rw [ptrZ_at hb rfl] at HM
    rw [if_pos hk, show ((i : Int) + 1).toNat - 1 = i by omega, hx]
    have HO : Hid _ := off_any h hS hx hb
    show Calls _ _ _ _ fun e w' => e = .returned (.bool (off p C x.1 x.2)) ∧ w' = w
    generalize off p C x.1 x.2 = o at *
    clear h hS hk hb hx
    go_enter Tryd.func11, Tryd.ntmps11
    go_wp2_with fail
    refine Calls.mono HM.out ?_
    rintro e w1 ⟨rfl, rfl⟩
    clear HM
    go_wp2_with fail
    refine Calls.mono HO.out ?_
    rintro e w1 ⟨rfl, rfl⟩
    go_wp2_with fail
    go_ret
    exact ⟨rfl, rfl⟩
  · have hpt : ptrZ bs k = .pointer none := by
      unfold ptrZ
      rw [if_neg (by rw [h.len]; exact hk)]
    rw [hpt] at HM
    rw [if_neg hk]
    clear h hS hk hpt
    go_enter Tryd.func11, Tryd.ntmps11
    go_wp2_with fail
    refine Calls.mono HM.out ?_
    rintro e w1 ⟨rfl, rfl⟩
    go_wp2_with fail
    go_ret
    exact ⟨rfl, rfl⟩

theorem Off_nil (k : Int) (w : World) : Calls Tryd.prog 11 #[.pointer none, .int .i64 k] w fun e w' => e = .returned (.bool true) ∧ w' = w := by
  have HM : Hid _ := at_nil k w
  go_enter Tryd.func11, Tryd.ntmps11
  go_wp2_with fail
  refine Calls.mono HM.out ?_
  rintro e w1 ⟨rfl, rfl⟩
  go_wp2_with fail
  go_ret
  exact ⟨rfl, rfl⟩
end Go.Proofs.YteghapmlnkhepaaDoor.Tk

/- find, and by it In and Of: of a tree in memory. -/
namespace Go.Proofs.YteghapmlnkhepaaDoor.Tk
open Go.RowKit Go.Shelf Go.Proofs.YteghapmlnkhepaaDoor.St Go.Proofs.YteghapmlnkhepaaDoor.Sx
set_option maxRecDepth 1000000
set_option linter.unusedVariables false

variable {n0 : Nat} {w w' : World} {tb : Nat} {sv : Value} {bs : List Nat} {its : List It} {p : Pl} {L : List (Nat × Nat)} {C : Nat → Bool} {S : Nat → Prop}

set_option maxHeartbeats 4000000 in
theorem IndexFunc_any (h : TT n0 w tb sv bs its p L C S) (hS : L.length ≤ 1000) (g : Nat) (cap : Array Value) (q : Nat × Nat → Bool)
    (hcf : ∀ (v : Value) (wx : World), (callFunc g (#[v] ++ cap)).run Tryd.prog wx = .ok (.enter g (#[v] ++ cap)) wx)
    (hq : ∀ (wx : World) (i : Nat) (x : Nat × Nat) (b : Nat), Below w.heap.size w wx → L[i]? = some x → bs[i]? = some b → Calls Tryd.prog g (#[.pointer (some ⟨b, 0, none⟩)] ++ cap) wx fun e w' => e = .returned (.bool (q x)) ∧ Below wx.heap.size wx w') :
    Calls Tryd.prog 44 #[sv, .func (Fn.func g) #[] cap] w fun e w' => e = .returned (.int .i64 ((fidx q L : Int) - 1)) ∧ Below w.heap.size w w' := by
  obtain ⟨E, HE⟩ : ∃ E, Hid (E = fidx q L) := ⟨_, rfl⟩
  rw [← HE.out]
  obtain ⟨a, c, rfl⟩ := h.sl
  obtain ⟨n, HN⟩ : ∃ n, Hid (L.length = n) := ⟨_, rfl⟩
  have HT : Hid _ := h
  rw [HN.out] at hS
  have HQ : Hid _ := hq
  clear h hq
  rw [HN.out]
  go_enter Tryd.func44, Tryd.ntmps44
  go_wp2_with fail
  go_loopw [8] (fun iv wr => ∃ (k : Nat), k ≤ n ∧ iv = .int .i64 k ∧ Hid (∀ (i : Nat) (x : Nat × Nat), i < k → L[i]? = some x → q x = false) ∧ Hid (Below w.heap.size w wr)) (fun iv _ => n - (intOf iv).toNat)
  case atStart => exact ⟨0, by omega, by go_num, fun i x h1 => by omega, Below.refl _ _⟩
  case round =>
    obtain ⟨k, hk, rfl, HA, HW⟩ := hrel
    rename World => wr
    by_cases hlt : k < n
    rotate_left
    · have HX : Hid (E = 0) := by
        show E = 0
        rw [HE.out]
        exact fidx_no fun j y hj => HA.out j y (by have := (List.getElem?_eq_some_iff.1 hj).1; have := HN.out; omega) hj
      have hkn : ¬ (k : Int) < (n : Int) := by omega
      go_wp2_with fail
      go_ret
      exact ⟨by rw [HX.out]; rfl, HW.out⟩
    · obtain ⟨x, hx⟩ : ∃ x, L[k]? = some x := ⟨_, List.getElem?_eq_getElem (by rw [HN.out]; exact hlt)⟩
      obtain ⟨b, hb⟩ : ∃ b, bs[k]? = some b := ⟨_, List.getElem?_eq_getElem (by rw [HT.out.len, HN.out]; exact hlt)⟩
      obtain ⟨gg, rfl, hcell, hc⟩ := (TT.later HT.out HW.out).at' rfl hb
      rw [HN.out] at hc
      have hkn : (k : Int) < (n : Int) := by omega
      have HQK : Hid _ := HQ.out wr k x b HW.out hx hb
      have HNO : Hid (q x = true → E = k + 1) := fun h3 => HE.out.trans (fidx_at hx h3 HA.out)
      have HYES : Hid (q x = false → ∀ (i : Nat) (x : Nat × Nat), i < k + 1 → L[i]? = some x → q x = false) := fun h i y h1 h2 => by
        by_cases hik : i = k
        · subst hik
          rw [hx] at h2
          cases h2
          exact h
        · exact HA.out i y (by omega) h2
      clear HA hx hb
      go_wp2_with fail
      refine Calls.mono HQK.out ?_
      rintro e w2 ⟨rfl, hb2⟩
      have HW2 : Hid _ := HW.out.trans (hb2.mono HW.out.size)
      clear HQK hb2
      cases hqk : q x with
      | false =>
        have HY2 : Hid _ := HYES.out hqk
        clear HYES HNO
        go_wp2_with fail
        go_roundw
        case rel => exact ⟨k + 1, by omega, by go_num, HY2, HW2⟩
        case measure => simp [intOf]; omega
      | true =>
        have HX : Hid _ := HNO.out hqk
        clear HYES HNO
        go_wp2_with fail
        go_ret
        refine ⟨?_, HW2.out⟩
        rw [HX.out, show (((k + 1 : Nat) : Int) - 1) = (k : Int) by omega]
        rfl

theorem find_any (h : TT n0 w tb sv bs its p L C S) (hS : L.length ≤ 1000) (g : Nat) (cap : Array Value) (q : Nat × Nat → Bool)
    (hcf : ∀ (v : Value) (wx : World), (callFunc g (#[v] ++ cap)).run Tryd.prog wx = .ok (.enter g (#[v] ++ cap)) wx)
    (hq : ∀ (wx : World) (i : Nat) (x : Nat × Nat) (b : Nat), Below w.heap.size w wx → L[i]? = some x → bs[i]? = some b → Calls Tryd.prog g (#[.pointer (some ⟨b, 0, none⟩)] ++ cap) wx fun e w' => e = .returned (.bool (q x)) ∧ Below wx.heap.size wx w') :
    Calls Tryd.prog 24 #[.pointer (some ⟨tb, 0, none⟩), .func (Fn.func g) #[] cap] w fun e w' => e = .returned (.int .i64 (fidx q L : Int)) ∧ Below w.heap.size w w' := by
  have HM : Hid _ := IndexFunc_any h hS g cap q hcf hq
  have c0 := h.c0
  obtain ⟨a, c, rfl⟩ := h.sl
  have hfl : fidx q L ≤ L.length := by
    unfold fidx
    split
    · exact Nat.zero_le _
    · rename_i i hi
      rw [List.findIdx?_eq_some_iff_getElem] at hi
      obtain ⟨h1, _⟩ := hi
      omega
  generalize fidx q L = f at *
  have hf : f ≤ 1000 := by omega
  clear h hq hfl
  generalize L.length = n at *
  go_enter Tryd.func24, Tryd.ntmps24
  go_wp2_with fail
  refine Calls.mono HM.out ?_
  rintro e w1 ⟨rfl, hb⟩
  have HB : Hid _ := hb
  clear HM hb c0
  go_wp2_with fail
  go_ret
  refine ⟨?_, HB.out⟩
  first | rfl | (show Ending.returned (.int .i64 ((f : Int) - 1 + 1)) = _; rw [Int.sub_add_cancel])

/-- Of no tree. -/
theorem find_nil (g : Nat) (cap : Array Value) (w : World) : Calls Tryd.prog 24 #[.pointer none, .func (Fn.func g) #[] cap] w fun e w' => e = .returned (.int .i64 0) ∧ w' = w := by
  go_enter Tryd.func24, Tryd.ntmps24
  go_wp2_with fail
  go_ret
  exact ⟨rfl, rfl⟩

/-- A box with a number. -/
def Bn (w : World) (c : Nat) (s : Int) : Prop := w.heap[c]? = some (.cells #[.int .i64 s] 3 (0, 0))
theorem Bn.later {w w' : World} {c : Nat} {s : Int} (h : Bn w c s) (hb : Below w.heap.size w w') : Bn w' c s := (hb.block _ (Array.getElem?_eq_some_iff.1 h).1).trans h
theorem Bn.c0 {w : World} {c : Nat} {s : Int} (h : Bn w c s) : w.cell? ⟨c, 0, none⟩ = some (.int .i64 s) := (Dg.cell_row h 0).trans rfl

set_option maxHeartbeats 2000000 in
theorem in1_any (h : TT n0 w tb sv bs its p L C S) {i : Nat} {x : Nat × Nat} {b : Nat} (hx : L[i]? = some x) (hb : bs[i]? = some b) {c1 c2 : Nat} {s a : Int} (h1 : Bn w c1 s) (h2 : Bn w c2 a) :
    Calls Tryd.prog 25 #[.pointer (some ⟨b, 0, none⟩), .pointer (some ⟨c1, 0, none⟩), .pointer (some ⟨c2, 0, none⟩)] w fun e w' => e = .returned (.bool (decide ((x.1 : Int) = s) && decide ((x.2 : Int) = a))) ∧ Below w.heap.size w w' := by
  obtain ⟨v, k0, k1, k2, k3, k4, k5⟩ := h.cells hx hb
  have z1 := h1.c0
  have z2 := h2.c0
  obtain ⟨E, HE⟩ : ∃ E, Hid (E = (decide ((x.1 : Int) = s) && decide ((x.2 : Int) = a))) := ⟨_, rfl⟩
  rw [← HE.out]
  generalize (x.1 : Int) = y at *
  generalize (x.2 : Int) = z at *
  clear h hx hb h1 h2 k2 k3 k4 k5
  have hb0 : Below w.heap.size w w := Below.refl _ _
  by_cases hy : y = s
  · subst hy
    have e1 : (y == y) = true := by simp
    by_cases hz : z = a
    · subst hz
      have e2 : (z == z) = true := by simp
      have HX : Hid (E = true) := by show E = true; rw [HE.out]; simp
      go_enter Tryd.func25, Tryd.ntmps25
      go_wp2_with fail
      go_quiet (fail)
      go_wp2_with fail
      go_ret
      exact ⟨by rw [HX.out]; rfl, below_drewN hb0 _⟩
    · have e2 : (z == a) = false := by simpa using hz
      have HX : Hid (E = false) := by show E = false; rw [HE.out]; simp [hz]
      clear hz
      go_enter Tryd.func25, Tryd.ntmps25
      go_wp2_with fail
      go_quiet (fail)
      go_wp2_with fail
      go_ret
      exact ⟨by rw [HX.out]; rfl, below_drewN hb0 _⟩
  · have e1 : (y == s) = false := by simpa using hy
    have HX : Hid (E = false) := by show E = false; rw [HE.out]; simp [hy]
    clear hy
    go_enter Tryd.func25, Tryd.ntmps25
    go_wp2_with fail
    go_quiet (fail)
    go_wp2_with fail
    go_ret
    exact ⟨by rw [HX.out]; rfl, below_drewN hb0 _⟩

set_option maxHeartbeats 2000000 in
theorem of1_any (h : TT n0 w tb sv bs its p L C S) (hlen : its.length ≤ 64) {i : Nat} {x : Nat × Nat} {b : Nat} (hx : L[i]? = some x) (hb : bs[i]? = some b) {c1 : Nat} {s : Int} (h1 : Bn w c1 s) :
    Calls Tryd.prog 26 #[.pointer (some ⟨b, 0, none⟩), .pointer (some ⟨c1, 0, none⟩)] w fun e w' => e = .returned (.bool (decide (s ∈ kidV its x))) ∧ Below w.heap.size w w' := by
  obtain ⟨v, k0, k1, k2, k3, k4, k5⟩ := h.cells hx hb
  have z1 := h1.c0
  have hkl := kidV_len its x
  have HC : Hid (∀ m : Nat, Calls Tryd.prog 27 #[v, .int .i64 s] (w.drewN m) fun e w' => e = .returned (.bool (decide (s ∈ kidV its x))) ∧ w' = w.drewN m) := fun m => Contains_any v _ s (w.drewN m) (k5.later (below_drewN (Below.refl _ _) m)) (by omega)
  generalize decide (s ∈ kidV its x) = E at *
  obtain ⟨va, vc, rfl, _⟩ := k5
  generalize (kidV its x).length = m at *
  clear h hx hb h1 k0 k1 k3 k4 hkl
  have hb0 : Below w.heap.size w w := Below.refl _ _
  go_enter Tryd.func26, Tryd.ntmps26
  go_wp2_with fail
  go_quiet ((go_at_call 27; exact Calls.quiet_of_same (HC.out _)))
  go_wp2_with fail
  go_ret
  exact ⟨rfl, below_drewN hb0 _⟩
end Go.Proofs.YteghapmlnkhepaaDoor.Tk

