/- The program's Ready. -/
import Derived.Test.YtdbohfpkhidfiaaDoorRRQk
namespace Go.Proofs.YtdbohfpkhidfiaaDoorRR
open Go.RowKit

def overP (l : List Nat) : Nat := l.foldl (fun s d => s ||| 2 ^ d) 0

theorem overP_snoc (l : List Nat) (x : Nat) : overP (l ++ [x]) = overP l ||| 2 ^ x := by unfold overP; rw [List.foldl_append]; rfl

theorem overP_bit (l : List Nat) (i : Nat) : (overP l).testBit i = true ↔ i ∈ l := by
  have : ∀ (l : List Nat) (s : Nat), (l.foldl (fun s d => s ||| 2 ^ d) s).testBit i = true ↔ s.testBit i = true ∨ i ∈ l := by
    intro l
    induction l with
    | nil => intro s; simp
    | cons x l ih =>
      intro s
      rw [List.foldl_cons, ih, or_bit, Bool.or_eq_true, decide_eq_true_eq, List.mem_cons, or_assoc]
  unfold overP
  rw [this]
  simp

theorem overP_lt (l : List Nat) (h : ∀ x ∈ l, x < 64) : overP l < 18446744073709551616 := by
  have : ∀ (l : List Nat) (s : Nat), (∀ x ∈ l, x < 64) → s < 18446744073709551616 → l.foldl (fun s d => s ||| 2 ^ d) s < 18446744073709551616 := by
    intro l
    induction l with
    | nil => intro s _ hs; exact hs
    | cons x l ih =>
      intro s h hs
      rw [List.foldl_cons]
      exact ih _ (fun y hy => h y (by simp [hy])) (or_lt hs (two_lt (h x (by simp))))
  exact this l 0 h (by omega)

def readyP (W done : List Nat) : List Nat := bitsOf (dif (freeTo W (overP done) W.length) (overP done))

/-- How Ready ends. -/
def ReadyC (n : Int) (l : List (Int × Int)) (done : List Nat) (w : World) (e : Ending) (w' : World) : Prop := Below w.heap.size w w' ∧ match weaveP n l with
  | .bad c => e = .returned (.tuple #[.slice none 0 0, .int .i64 c])
  | .ok W _ => ∃ v, e = .returned (.tuple #[v, .int .i64 0]) ∧ RdI w' v (readyP W done)

set_option maxRecDepth 1000000 in
set_option maxHeartbeats 1000000 in
theorem Ready_any (n : Int) (v vd : Value) (l : List (Int × Int)) (done : List Nat) (w : World) (hl : RdA w v l) (hd : RdI w vd done) (hdn : ∀ x ∈ done, x < n.toNat) (hdl : done.length ≤ 100000) (hT : Tab w) :
    Calls Tryd.prog 17 #[.int .i64 n, v, vd] w fun e w' => ReadyC n l done w e w' := by
  have M : Hid (Calls Tryd.prog 19 #[.int .i64 n, v] w fun e w' => WvC n l w e w') := weave_any n v l w hl hT
  have HT : Hid (Tab w) := hT
  have HD : Hid (RdI w vd done) := hd
  have HDn : Hid (∀ x ∈ done, x < n.toNat) := hdn
  obtain ⟨a, cap, rfl, _⟩ := hl
  obtain ⟨ad, cad, rfl, hcd, _⟩ := hd
  clear hT hdn
  unfold WvC at M
  unfold ReadyC
  cases hP : weaveP n l with
  | bad c =>
    rw [hP] at M
    have hc : ((c == 0)) = false := by rcases weaveP_code hP with rfl | rfl <;> rfl
    go_enter Tryd.func17, Tryd.ntmps17
    go_wp2_with fail
    refine Calls.mono M.out ?_
    rintro e w1 ⟨hb, rfl⟩
    go_wp2_with fail
    go_ret2
    exact ⟨hb, rfl⟩
  | ok W o =>
    rw [hP] at M
    obtain ⟨⟨hn0, hn64⟩, _, _, hWok, hWl, hOk, hol⟩ := weave_facts hP
    obtain ⟨m, rfl⟩ : ∃ m : Nat, n = (m : Int) := ⟨n.toNat, by omega⟩
    simp only [Int.toNat_natCast] at hWl hol M HDn ⊢
    have hm : m ≤ 64 := by omega
    obtain ⟨q, HQ⟩ : ∃ q, Hid (done.length = q) := ⟨_, rfl⟩
    rw [HQ.out] at hcd hdl ⊢
    clear hn0 hn64
    go_enter Tryd.func17, Tryd.ntmps17
    go_wp2_with fail
    refine Calls.mono M.out ?_
    rintro e w1 ⟨hb, v1, v2, rfl, hU, hI, h1, h2⟩
    have HB1 : Hid (Below w.heap.size w w1) := hb
    have HU : Hid (RdU w1 v1 W) := hU
    have HT1 : Hid (Tab w1) := HT.out.later hb
    have hD1 := HD.out.later hb
    obtain ⟨ad', cad', heq, _, hr⟩ := hD1
    rw [HQ.out] at heq
    cases heq
    have HR : Hid _ := hr
    obtain ⟨a1, cap1, rfl, _⟩ := hU
    obtain ⟨a2, cap2, rfl, _⟩ := hI
    have HWl : Hid (W.length = m) := hWl
    rw [hWl] at HU ⊢
    rw [hol] at ⊢
    clear hr hWl hol h1 h2 M HD hb hWok hOk
    go_wp2_with fail
    go_loopw [11, 13, 26] (fun sv _ iv wr => ∃ (k : Nat), k ≤ q ∧ iv = .int .i64 k ∧ sv = .int .u64 ((overP (done.take k) : Nat) : Int) ∧ wr = w1) (fun _ _ iv _ => q - (intOf iv).toNat)
    case atStart => exact ⟨0, Nat.zero_le _, rfl, rfl, rfl⟩
    case round =>
      obtain ⟨k, hk, rfl, rfl, rfl⟩ := hrel
      rename World => w1
      have hov : overP (done.take k) < 18446744073709551616 := overP_lt _ fun x hx => by have := HDn.out x (List.mem_of_mem_take hx); omega
      by_cases hlt : k < q
      · obtain ⟨x, hx⟩ : ∃ x, done[k]? = some x := ⟨_, List.getElem?_eq_getElem (by rw [HQ.out]; exact hlt)⟩
        have hxm := HDn.out x (List.mem_of_getElem? hx)
        obtain ⟨bd, od, rfl, c0⟩ := HR.out k x hx
        have M1 : Hid _ := isNode_any (x : Int) (m : Int) w1
        rw [show decide (0 ≤ (x : Int) ∧ (x : Int) < (m : Int)) = true by simp; omega] at M1
        have M2 : Hid _ := only_any x (by omega) w1
        have h2 := two_lt (show x < 64 by omega)
        have e2 := bits_or_u64_nat (overP (done.take k)) (2 ^ x) hov h2
        have HS : Hid (overP (done.take (k + 1)) = overP (done.take k) ||| 2 ^ x) := by
          show _ = _
          rw [List.take_add_one, hx, ← overP_snoc]
          rfl
        have hki : (k : Int) < (q : Int) := by omega
        clear hx
        generalize overP (done.take k) = ov at *
        generalize 2 ^ x = pk at *
        go_wp2_with fail
        refine Calls.mono M1.out ?_
        rintro e w2 ⟨rfl, rfl⟩
        go_wp2_with fail
        refine Calls.mono M2.out ?_
        rintro e w3 ⟨rfl, rfl⟩
        go_wp2_with fail
        go_roundw
        case rel => exact ⟨k + 1, by omega, by go_num, by rw [HS.out], trivial⟩
        case measure => simp [intOf]; omega
      · have hkq : k = q := by omega
        subst hkq
        have hfull : done.take k = done := List.take_of_length_le (by rw [HQ.out]; exact Nat.le_refl _)
        rw [hfull] at hov ⊢
        have M1 : Hid _ := free_any W _ (overP done) w1 HU.out (by rw [HWl.out]; exact hm) hov
        have hf : freeTo W (overP done) W.length < 18446744073709551616 := freeTo_lt _ _ _ (by rw [HWl.out]; exact hm)
        have e1 := bits_andNot_u64_nat (freeTo W (overP done) W.length) (overP done) hf hov
        have M2 : Hid _ := nodes_any (dif (freeTo W (overP done) W.length) (overP done)) (dif_lt hf) w1 HT1.out
        have HA : Hid (readyP W done = bitsOf (dif (freeTo W (overP done) W.length) (overP done))) := rfl
        generalize dif (freeTo W (overP done) W.length) (overP done) = dd at *
        generalize freeTo W (overP done) W.length = ff at *
        generalize overP done = ov at *
        go_wp2_with fail
        refine Calls.mono M1.out ?_
        rintro e w2 ⟨rfl, rfl⟩
        go_wp2_with fail
        refine Calls.mono M2.out ?_
        rintro e w3 ⟨nv, rfl, hb3, hown⟩
        go_wp2_with fail
        go_ret2
        exact ⟨HB1.out.trans (hb3.mono HB1.out.size), _, rfl, by rw [HA.out]; exact RdI.of_own hown⟩
end Go.Proofs.YtdbohfpkhidfiaaDoorRR
