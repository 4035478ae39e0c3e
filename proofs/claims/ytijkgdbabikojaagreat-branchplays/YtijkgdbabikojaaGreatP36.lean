/- Texts of the seat, packed: Ig. -/
import Derived.Test.YtijkgdbabikojaaGreatP35
/- Calls as they come in; the walk over the laws' few; two disks. -/
namespace Go.Proofs.YtijkgdbabikojaaGreat
open Go.RowKit
open Dk (DS DK Okay Small RV RR WR Wid Kp cutP appendP syncP hasB hasB_true)
set_option maxRecDepth 1000000
set_option linter.unusedVariables false

/-- A call. -/
structure Ac where
  kind : Int
  i : Int
  n : Int
  e : Ev
  b : List UInt8
  keep : List Int

/-- A call's cells. -/
def acV (x : Ac) (sv bv kv : Value) : Array Value := #[.int .i64 x.kind, .int .i64 x.i, .int .i64 x.n, .int .i64 x.e.k, .int .i64 x.e.i, .int .i64 x.e.t, sv, bv, kv]

/-- One call in memory. -/
def RA1 (w : World) (blk o : Nat) (x : Ac) (sv bv kv : Value) : Prop :=
  (∀ j v, (acV x sv bv kv)[j]? = some v → w.cell? ⟨blk, o + j, none⟩ = some v) ∧ RI w sv x.e.s ∧ RB w bv x.b ∧ RI w kv x.keep

/-- A slice of calls. -/
def RAs (w : World) (v : Value) (L : List Ac) : Prop :=
  ∃ a cap, v = .slice a L.length cap ∧ L.length ≤ cap ∧ cap ≤ maxLen ∧ ∀ j x, L[j]? = some x → ∃ blk off sv bv kv, a = some ⟨blk, off, none⟩ ∧ RA1 w blk (off + j * 9) x sv bv kv

theorem RA1.later {w w' : World} {blk o : Nat} {x : Ac} {sv bv kv : Value} (h : RA1 w blk o x sv bv kv) (hb : Below w.heap.size w w') : RA1 w' blk o x sv bv kv :=
  ⟨fun j v hj => cell_later hb (h.1 j v hj), h.2.1.later hb, h.2.2.1.later hb, h.2.2.2.later hb⟩

def okA (x : Ac) : Bool := decide (x.b.length ≤ 3000) && decide (x.e.s.length ≤ 200) && decide (x.keep.length ≤ 100)
def fewP (L : List Ac) : Bool := decide (L.length ≤ 100) && L.all okA

set_option maxHeartbeats 2000000 in
theorem few_any (x : Value) (L : List Ac) (w : World) (hx : RAs w x L) :
    Calls Tryz.prog 4 #[x] w fun e w' => e = .returned (.bool (fewP L)) ∧ w' = w := by
  obtain ⟨a, ca, rfl, _, _, hca⟩ := hx
  by_cases h20 : L.length ≤ 100
  · obtain ⟨R, HR⟩ : ∃ R, Hid (R = fewP L) := ⟨_, rfl⟩
    rw [← HR.out]
    have HCA : Hid _ := hca
    obtain ⟨n, HN⟩ : ∃ n, Hid (L.length = n) := ⟨_, rfl⟩
    rw [HN.out] at h20 ⊢
    clear hca
    go_enter Tryz.func4, Tryz.ntmps4
    go_wp2_with fail
    go_loopw [3] (fun i wr => ∃ (k : Nat), k ≤ n ∧ i = .int .i64 k ∧ Hid (∀ b ∈ L.take k, okA b = true) ∧ wr = w) (fun i _ => n - (intOf i).toNat)
    case atStart => exact ⟨0, Nat.zero_le _, rfl, by show ∀ b ∈ L.take 0, _; simp, rfl⟩
    case round =>
      obtain ⟨k, hk, rfl, HA, rfl⟩ := hrel
      by_cases hlt : k < n
      · have hki : (k : Int) < (n : Int) := by omega
        have hlt2 : k < L.length := by rw [HN.out]; exact hlt
        obtain ⟨b1, o1, sv, bv, kv, rfl, hcs, hs, hb, hkp⟩ := HCA.out k L[k] (List.getElem?_eq_getElem hlt2)
        have c6 : World.cell? _ ⟨b1, o1 + k * 9 + 6, none⟩ = some sv := hcs 6 _ rfl
        have c7 : World.cell? _ ⟨b1, o1 + k * 9 + 7, none⟩ = some bv := hcs 7 _ rfl
        have c8 : World.cell? _ ⟨b1, o1 + k * 9 + 8, none⟩ = some kv := hcs 8 _ rfl
        obtain ⟨sa, sc, rfl, _, hsm, _⟩ := hs
        obtain ⟨ba, bc, rfl, _, hbm, _, _⟩ := hb
        obtain ⟨ka, kc, rfl, _, hkm, _⟩ := hkp
        have hsl : L[k].e.s.length ≤ maxLen := by omega
        have hbl : L[k].b.length ≤ maxLen := by omega
        have hkl : L[k].keep.length ≤ maxLen := by omega
        unfold maxLen at hbl hkl hsl
        clear hcs hbm hkm hsm
        have HOK : Hid (okA L[k] = (decide (L[k].b.length ≤ 3000) && decide (L[k].e.s.length ≤ 200) && decide (L[k].keep.length ≤ 100))) := rfl
        have HTK : Hid (∀ b ∈ L.take (k + 1), b ∈ L.take k ∨ b = L[k]) := by
          show ∀ b ∈ L.take (k + 1), _
          intro b hm
          rw [List.take_succ_eq_append_getElem hlt2, List.mem_append] at hm
          rcases hm with hm | hm
          · exact .inl hm
          · simp at hm
            exact .inr hm
        have HMM : Hid (L[k] ∈ L) := List.getElem_mem hlt2
        generalize L[k] = bb at *
        obtain ⟨bn, HBN⟩ : ∃ z, Hid (bb.b.length = z) := ⟨_, rfl⟩
        obtain ⟨sn, HSN⟩ : ∃ z, Hid (bb.e.s.length = z) := ⟨_, rfl⟩
        obtain ⟨kn, HKN⟩ : ∃ z, Hid (bb.keep.length = z) := ⟨_, rfl⟩
        rw [HBN.out] at c7 hbl HOK
        rw [HSN.out] at c6 hsl HOK
        rw [HKN.out] at c8 hkl HOK
        by_cases g1 : bn ≤ 3000
        · by_cases g2 : sn ≤ 200
          · by_cases g3 : kn ≤ 100
            · have HA2 : Hid (∀ b ∈ L.take (k + 1), okA b = true) := by
                show ∀ b ∈ L.take (k + 1), _
                intro b hm
                rcases HTK.out b hm with hm | rfl
                · exact HA.out b hm
                · rw [HOK.out]; simp [g1, g2, g3]
              have i1 : ¬ (3000 : Int) < (bn : Int) := by omega
              have i2 : ¬ (200 : Int) < (sn : Int) := by omega
              have i3 : ¬ (100 : Int) < (kn : Int) := by omega
              clear HBN HSN HKN
              go_wp2_with fail
              go_roundw
              case rel => exact ⟨k + 1, by omega, by go_num, HA2, trivial⟩
              case measure => simp [intOf]; omega
            · have HF : Hid (R = false) := by
                show _ = _
                rw [HR.out]
                unfold fewP
                rw [Bool.and_eq_false_iff]
                refine .inr (List.all_eq_false.2 ⟨bb, HMM.out, ?_⟩)
                rw [HOK.out]
                simp [g3]
              have i1 : ¬ (3000 : Int) < (bn : Int) := by omega
              have i2 : ¬ (200 : Int) < (sn : Int) := by omega
              have i3 : (100 : Int) < (kn : Int) := by omega
              clear HBN HSN HKN
              go_wp2_with fail
              go_ret
              exact ⟨by rw [HF.out]; rfl, rfl⟩
          · have HF : Hid (R = false) := by
              show _ = _
              rw [HR.out]
              unfold fewP
              rw [Bool.and_eq_false_iff]
              refine .inr (List.all_eq_false.2 ⟨bb, HMM.out, ?_⟩)
              rw [HOK.out]
              simp [g2]
            have i1 : ¬ (3000 : Int) < (bn : Int) := by omega
            have i2 : (200 : Int) < (sn : Int) := by omega
            clear HBN HSN HKN
            go_wp2_with fail
            go_ret
            exact ⟨by rw [HF.out]; rfl, rfl⟩
        · have HF : Hid (R = false) := by
            show _ = _
            rw [HR.out]
            unfold fewP
            rw [Bool.and_eq_false_iff]
            refine .inr (List.all_eq_false.2 ⟨bb, HMM.out, ?_⟩)
            rw [HOK.out]
            simp [g1]
          have i1 : (3000 : Int) < (bn : Int) := by omega
          clear HBN HSN HKN
          go_wp2_with fail
          go_ret
          exact ⟨by rw [HF.out]; rfl, rfl⟩
      · have hkn : k = n := by omega
        subst hkn
        have HT2 : Hid (R = true) := by
          show _ = _
          rw [HR.out]
          unfold fewP
          rw [Bool.and_eq_true, decide_eq_true_eq, List.all_eq_true]
          refine ⟨by rw [HN.out]; exact h20, fun b hb => HA.out b ?_⟩
          rw [← HN.out, List.take_length]
          exact hb
        go_wp2_with fail
        go_ret
        exact ⟨by rw [HT2.out]; rfl, rfl⟩
  · have HF : Hid (fewP L = false) := by show _ = _; unfold fewP; rw [decide_eq_false h20]; rfl
    have hb : (100 : Int) < (L.length : Int) := by omega
    go_enter Tryz.func4, Tryz.ntmps4
    go_wp2_with fail
    go_ret
    exact ⟨by rw [HF.out]; rfl, rfl⟩

/-- A call that is the one that is ready, at the world that stands. -/
theorem oneW {P : Program} {ops : Array Oper} {Q : Exit → Act → World → Prop} {md : Region.Mode} {S : World → Prop} {i : Nat} {o : Oper} {d : Tmp} {f : FuncId} {args : Array Value} {v : Value} {fuel : Nat} {listed : Array Bool} {a : Act} {w : World} {R : World → Prop}
    (hi : ops[i]? = some o) (hd : o.dst = some d) (hr : Region.ready md ops listed = [i]) (hw : Region.wanted o (yielded ops a.tmps) = true) (hrun : ∀ wx, (execOp a.eval o).run P wx = .ok (.enter f args) wx)
    (hc : Calls P f args w fun e w' => e = .returned v ∧ R w') (hRS : ∀ w', R w' → S w')
    (h : ∀ w', R w' → wpAnyH P md ops Q S fuel (listed.setIfInBounds i true) { tmps := a.tmps.setIfInBounds d v, defers := a.defers } w') : wpAnyH P md ops Q S (fuel + 1) listed a w := by
  refine wpAnyH_all hr (by simp) (List.forall_mem_singleton.2 ?_)
  refine wpOp_calls hi hd hw (hrun w) _ hc ?_ (fun _ _ h => by cases h.1) (fun _ h => by cases h.1)
  rintro v' w'' ⟨h1, h2⟩
  cases h1
  exact ⟨hRS w'' h2, h w'' h2⟩

/-- The program's disk and the document's, and a call in its box. -/
structure TW (w0 : World) (bx p r g : Nat) (cs : Array Value) (S1 S2 : DS) (w : World) : Prop where
  dk : ∃ T, DK T w p S1 ∧ ∀ k, T k → w0.heap.size ≤ k ∧ k ≠ r ∧ k ≠ g ∧ k ≠ bx
  rv : RV w r g S2
  box : w.heap[bx]? = some (.cells cs 36 (0, 0))
  hr : w0.heap.size ≤ r
  hg : w0.heap.size ≤ g
  br : bx ≠ r
  bg : bx ≠ g
  hb : w0.heap.size ≤ bx
  bel : Below w0.heap.size w0 w

theorem TW.later {w0 : World} {bx p r g : Nat} {cs : Array Value} {S1 S2 : DS} {w w' : World} (h : TW w0 bx p r g cs S1 S2 w) (hb : Below w.heap.size w w') : TW w0 bx p r g cs S1 S2 w' := by
  obtain ⟨T, h1, h2⟩ := h.dk
  exact ⟨⟨T, h1.later hb, h2⟩, h.rv.later hb, (hb.block _ (Array.getElem?_eq_some_iff.1 h.box).1).trans h.box, h.hr, h.hg, h.br, h.bg, h.hb, h.bel.trans (hb.mono h.bel.size)⟩

theorem TW.prog {w0 : World} {bx p r g : Nat} {cs : Array Value} {S1 S2 S1' : DS} {w w' : World} (h : TW w0 bx p r g cs S1 S2 w) {T T' : Nat → Prop} (hT : ∀ k, T k → w0.heap.size ≤ k ∧ k ≠ r ∧ k ≠ g ∧ k ≠ bx) (hd : DK T' w' p S1') (hT' : ∀ k, T' k → T k ∨ w.heap.size ≤ k) (hk : Kp T w w') : TW w0 bx p r g cs S1' S2 w' := by
  have hl := h.rv.rlt
  have hbx : bx < w.heap.size := (Array.getElem?_eq_some_iff.1 h.box).1
  refine ⟨⟨T', hd, fun k hk' => ?_⟩, h.rv.kept hk (fun t => (hT r t).2.1 rfl) (fun t => (hT g t).2.2.1 rfl), (hk.block _ hbx (fun t => (hT bx t).2.2.2 rfl)).trans h.box, h.hr, h.hg, h.br, h.bg, h.hb, h.bel.trans (hk.below h.bel.size (fun k t => (hT k t).1))⟩
  rcases hT' k hk' with t | t
  · exact hT k t
  · have := h.bel.size
    exact ⟨by omega, by omega, by omega, by omega⟩

theorem TW.wr {w0 : World} {bx p r g : Nat} {cs : Array Value} {S1 S2 : DS} {w w' : World} {res : Int × DS} {e : Ending} (h : TW w0 bx p r g cs S1 S2 w) {T : Nat → Prop} (hT : ∀ k, T k → w0.heap.size ≤ k ∧ k ≠ r ∧ k ≠ g ∧ k ≠ bx) (hw : WR T w p res e w') : e = .returned (.int .i64 res.1) ∧ TW w0 bx p r g cs res.2 S2 w' :=
  ⟨hw.1, h.prog hT hw.2.1 (fun k hk => hk.elim .inl (fun t => .inr t.1)) hw.2.2⟩

theorem TW.rr {w0 : World} {bx p r g : Nat} {cs : Array Value} {S1 S2 S2' : DS} {w w' : World} (h : TW w0 bx p r g cs S1 S2 w) (hv : RV w' r g S2') (hk : Kp (fun k => k = r ∨ k = g) w w') : TW w0 bx p r g cs S1 S2' w' := by
  obtain ⟨T, h1, h2⟩ := h.dk
  have hbx : bx < w.heap.size := (Array.getElem?_eq_some_iff.1 h.box).1
  exact ⟨⟨T, h1.kept hk (fun k hk' t => by rcases t with t | t; exact (h2 k hk').2.1 t; exact (h2 k hk').2.2.1 t), h2⟩, hv, (hk.block _ hbx (fun t => by rcases t with t | t; exact h.br t; exact h.bg t)).trans h.box, h.hr, h.hg, h.br, h.bg, h.hb, h.bel.trans (hk.below h.bel.size (fun k t => by rcases t with rfl | rfl; exact h.hr; exact h.hg))⟩

/-- A disk of the laws. -/
def QD (S : DS) : Prop := S.n = 3 ∧ Okay S ∧ Dk.tot3 S ≤ 20000
theorem QD.small {S : DS} (h : QD S) : Small 20000 20000 S := tot_small h.1 h.2.1 h.2.2
theorem QD.trim {S : DS} (h : QD S) (i m : Int) : QD (trimP S i m).2 := ⟨by rw [trim_n]; exact h.1, okay_trim h.2.1 i m, by rw [tot_trim h.1]; exact h.2.2⟩
theorem QD.last {S : DS} (h : QD S) : (lastB S).length ≤ 65536 := Nat.le_trans (h.small.len _) (by omega)
end Go.Proofs.YtijkgdbabikojaaGreat

