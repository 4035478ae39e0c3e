/- A copy of a disk in the making. -/
import Derived.Test.YtbbmbjlpccdclaaWo
import Derived.Deep.MidRow
namespace Go.Proofs.Ytbbmbjlpccdclaa
open Go.RowKit
set_option linter.unusedVariables false

structure CV (w : World) (N : Nat) (S : DS) (V U : Nat → Value) (k : Nat) : Prop where
  blk : ∃ cs, w.heap[N]? = some (.cells cs 55 (0, 0)) ∧ cs.size = 134
  cnt : w.cell? ⟨N, 130, none⟩ = some (.int .i64 S.n)
  rm : w.cell? ⟨N, 131, none⟩ = some (.int .i64 S.room)
  fu : w.cell? ⟨N, 132, none⟩ = some (.int .i64 S.fuse)
  dn : w.cell? ⟨N, 133, none⟩ = some (.bool S.down)
  file : ∀ j, j < 65 → w.cell? ⟨N, j * 2, none⟩ = some (if j < k then U j else V j) ∧ w.cell? ⟨N, j * 2 + 1, none⟩ = some (.int .i64 (S.fs j).s)
  own : ∀ j, j < k → w.ownsRow 0 5 1 (U j) (S.fs j).b.length (bvs (S.fs j).b)
  mine : ∀ j g, j < k → (U j).ownBlock = some g → N < g ∧ g < w.heap.size
  apart : ∀ i j g, i < k → j < k → i ≠ j → (U i).ownBlock = some g → (U j).ownBlock ≠ some g

theorem CV.later {w w' : World} {N : Nat} {S : DS} {V U : Nat → Value} {k : Nat} (h : CV w N S V U k) (hb : Below w.heap.size w w') : CV w' N S V U k := by
  obtain ⟨cs, h1, h2⟩ := h.blk
  refine ⟨⟨cs, ?_, h2⟩, cell_later hb h.cnt, cell_later hb h.rm, cell_later hb h.fu, cell_later hb h.dn, fun j hj => ⟨cell_later hb (h.file j hj).1, cell_later hb (h.file j hj).2⟩, fun j hj => owns_later (h.own j hj) hb, fun j g hj hg => ⟨(h.mine j g hj hg).1, Nat.lt_of_lt_of_le (h.mine j g hj hg).2 hb.size⟩, h.apart⟩
  rw [hb.block N (Array.getElem?_eq_some_iff.1 h1).1]
  exact h1

/-- One file more is copied. -/
theorem CV.step {w w1 : World} {N : Nat} {S : DS} {V U : Nat → Value} {k : Nat} (h : CV w N S V U k) (hk : k < 65) (hb : Below w.heap.size w w1) (u : Value) (hu : w1.ownsRow 0 5 1 u (S.fs k).b.length (bvs (S.fs k).b)) (hg : ∀ g, u.ownBlock = some g → w.heap.size ≤ g) :
    CV (w1.setCell ⟨N, k * 2, none⟩ u) N S V (putV U k u) (k + 1) := by
  have h1 := h.later hb
  have hN : N < w.heap.size := by obtain ⟨cs, e, _⟩ := h.blk; exact (Array.getElem?_eq_some_iff.1 e).1
  have hk1 : Kp (fun x => x = N) w1 (w1.setCell ⟨N, k * 2, none⟩ u) := Kp.set1 _ _ _ _
  refine ⟨set_blk _ _ h1.blk, ?_, ?_, ?_, ?_, fun j hj => ⟨?_, ?_⟩, fun j hj => ?_, fun j g hj hgj => ?_, fun i j g hi hj hij hgi => ?_⟩
  · rw [set_other _ _ _ _ _ (by omega)]; exact h1.cnt
  · rw [set_other _ _ _ _ _ (by omega)]; exact h1.rm
  · rw [set_other _ _ _ _ _ (by omega)]; exact h1.fu
  · rw [set_other _ _ _ _ _ (by omega)]; exact h1.dn
  · by_cases hjk : j = k
    · subst hjk
      rw [if_pos (by omega), putV_same]
      exact set_same _ (h1.file j hj).1
    · rw [set_other _ _ _ _ _ (by omega), (h1.file j hj).1, putV_other _ _ _ _ hjk]
      by_cases hlt : j < k
      · rw [if_pos hlt, if_pos (by omega)]
      · rw [if_neg hlt, if_neg (by omega)]
  · rw [set_other _ _ _ _ _ (by omega)]
    exact (h1.file j hj).2
  · by_cases hjk : j = k
    · subst hjk
      rw [putV_same]
      exact owns_kept hk1 hu (fun g hgg => by have := hg g hgg; omega)
    · rw [putV_other _ _ _ _ hjk]
      exact owns_kept hk1 (h1.own j (by omega)) (fun g hgg => by have := (h1.mine j g (by omega) hgg).1; omega)
  · rw [size_set]
    by_cases hjk : j = k
    · subst hjk
      rw [putV_same] at hgj
      exact ⟨by have := hg g hgj; omega, (hu.lt g hgj).2⟩
    · rw [putV_other _ _ _ _ hjk] at hgj
      exact h1.mine j g (by omega) hgj
  · by_cases hik : i = k
    · subst hik
      rw [putV_same] at hgi
      rw [putV_other _ _ _ _ (by omega)]
      intro he
      have := hg g hgi
      have := (h.mine j g (by omega) he).2
      omega
    · rw [putV_other _ _ _ _ hik] at hgi
      by_cases hjk : j = k
      · subst hjk
        rw [putV_same]
        intro he
        have := hg g he
        have := (h.mine i g (by omega) hgi).2
        omega
      · rw [putV_other _ _ _ _ hjk]
        exact h1.apart i j g (by omega) (by omega) hij hgi

theorem CV.done {w : World} {N B : Nat} {S : DS} {V U : Nat → Value} (h : CV w N S V U 65) (hB : B ≤ N) : DK (fun k => B ≤ k ∧ k < w.heap.size) w N S := by
  have hN : N < w.heap.size := by obtain ⟨cs, e, _⟩ := h.blk; exact (Array.getElem?_eq_some_iff.1 e).1
  refine ⟨U, h.blk, ⟨hB, hN⟩, fun k hk => hk.2, h.cnt, h.rm, h.fu, h.dn, fun i hi => ⟨?_, (h.file i hi).2, h.own i hi⟩, fun i g hi hg => ?_, fun i j g hi hj => h.apart i j g hi hj⟩
  · have := (h.file i hi).1
    rw [if_pos hi] at this
    exact this
  · have := h.mine i g hi hg
    exact ⟨⟨by omega, this.2⟩, by omega⟩

theorem CV.begin {T : Nat → Prop} {w w' : World} {p N : Nat} {S : DS} {V : Nat → Value} (h : DV T w p S V) (cs : Array Value) (hcs : w.heap[p]? = some (.cells cs 55 (0, 0))) (hsz : cs.size = 134) (hN : w'.heap[N]? = some (.cells cs 55 (0, 0))) : CV w' N S V V 0 := by
  have hcell : ∀ o, w'.cell? ⟨N, o, none⟩ = w.cell? ⟨p, o, none⟩ := fun o => by
    rw [cell_of_row _ _ _ cs 55 (0, 0) hN, cell_of_row _ _ _ cs 55 (0, 0) hcs]
  refine ⟨⟨cs, hN, hsz⟩, by rw [hcell]; exact h.cnt, by rw [hcell]; exact h.rm, by rw [hcell]; exact h.fu, by rw [hcell]; exact h.dn, fun j hj => ⟨?_, by rw [hcell]; exact (h.file j hj).2.1⟩, fun j hj => by omega, fun j g hj => by omega, fun i j g hi => by omega⟩
  rw [hcell, (h.file j hj).1, if_neg (by omega)]

theorem DV.one {T : Nat → Prop} {w : World} {p : Nat} {S : DS} {V : Nat → Value} (h : DV T w p S V) (cs : Array Value) (hcs : w.heap[p]? = some (.cells cs 55 (0, 0))) (hsz : cs.size = 134) : cs.all (·.oneCell') = true := by
  have hcell : ∀ o, w.cell? ⟨p, o, none⟩ = cs[o]? := fun o => cell_of_row _ _ _ cs 55 (0, 0) hcs
  rw [Array.all_eq_true]
  intro o ho
  rw [hsz] at ho
  have hg : cs[o]? = some cs[o] := Array.getElem?_eq_getElem _
  rw [← hcell] at hg
  have key : ∀ v, w.cell? ⟨p, o, none⟩ = some v → v.oneCell' = true → cs[o].oneCell' = true := fun v h1 h2 => by
    rw [hg] at h1
    cases h1
    exact h2
  by_cases h1 : o < 130
  · have hd := Nat.div_add_mod o 2
    have hm := Nat.mod_lt o (show 0 < 2 by omega)
    obtain ⟨f0, f1, f2⟩ := h.file (o / 2) (by omega)
    by_cases h2 : o % 2 = 0
    · have he : o / 2 * 2 = o := by omega
      rw [he] at f0
      obtain ⟨a, c, hV, _⟩ := owns_slice f2
      exact key _ f0 (by rw [hV]; rfl)
    · have he : o / 2 * 2 + 1 = o := by omega
      rw [he] at f1
      exact key _ f1 rfl
  · by_cases h2 : o = 130
    · exact key _ (by rw [h2]; exact h.cnt) rfl
    · by_cases h3 : o = 131
      · exact key _ (by rw [h3]; exact h.rm) rfl
      · by_cases h4 : o = 132
        · exact key _ (by rw [h4]; exact h.fu) rfl
        · exact key _ (by rw [show o = 133 by omega]; exact h.dn) rfl

theorem index53 (A : Array Value) (k : Nat) (hk : k < 65) (v0 v1 : Value) (h0 : A[k * 2]? = some v0) (h1 : A[k * 2 + 1]? = some v1) (wx : World) : (Instr.index 53 (.agg A) (.int .i64 k)).run Try.prog wx = .ok (.agg #[v0, v1]) wx := by
  have hz : (sizeOf 52).run Try.prog wx = .ok 2 wx := by kernel_rfl
  have hx : A.extract (k * 2) (k * 2 + 2) = #[v0, v1] := by
    have hs : k * 2 + 1 < A.size := (Array.getElem?_eq_some_iff.1 h1).1
    apply Array.ext
    · simp; omega
    · intro i h2 h3
      have h3' : i < 2 := h3
      rw [Array.getElem_extract]
      match i, h3' with
      | 0, _ => exact (Array.getElem?_eq_some_iff.1 h0).2
      | 1, _ => exact (Array.getElem?_eq_some_iff.1 h1).2
  simp [Instr.index, run_underlying Try.underlying53, asIntOf, part, hz, hx]
  omega

set_option maxRecDepth 1000000 in
set_option maxHeartbeats 1000000 in
theorem copy1_any (T : Nat → Prop) (w : World) (p b0 b1 : Nat) (S : DS) (hd : DK T w p S) (ho : Okay S) (hs : Small 10000000 1000000000000 S) (h0 : w.cell? ⟨b0, 0, none⟩ = some (.pointer (some ⟨p, 0, none⟩))) (h1 : w.cell? ⟨b1, 0, none⟩ = some (.pointer none)) (hf : w.frozen? ⟨b1, 0, none⟩ = false) :
    Calls Try.prog 57 #[.pointer (some ⟨b0, 0, none⟩), .pointer (some ⟨b1, 0, none⟩)] w fun e w' => e = .returned (.tuple #[]) ∧ ∃ w1, Below w.heap.size w w1 ∧ w' = w1.setCell ⟨b1, 0, none⟩ (.pointer (some ⟨w.heap.size, 0, none⟩)) ∧ DK (fun k => w.heap.size ≤ k ∧ k < w1.heap.size) w1 w.heap.size S := by
  obtain ⟨V, hv⟩ := hd
  obtain ⟨cs, hcs, hsz⟩ := hv.blk
  have HI : Hid ((Try.prog.info? 55).map (·.size) = some cs.size) := by show _ = _; rw [hsz]; kernel_rfl
  have H1 : Hid (cs.all (·.oneCell') = true) := hv.one cs hcs hsz
  have HCS : Hid (w.heap[p]? = some (.cells cs 55 (0, 0))) := hcs
  have HZ : Hid (Try.zeroCells55.size = cs.size) := by show _ = _; rw [hsz]; kernel_rfl
  have hcell : ∀ o, w.cell? ⟨p, o, none⟩ = cs[o]? := fun o => cell_of_row _ _ _ cs 55 (0, 0) hcs
  obtain ⟨A, HA⟩ : ∃ A, Hid (A = cs.toList.take 130) := ⟨_, rfl⟩
  have HI2 : Hid ((Try.prog.info? 53).map (·.size) = some A.length) := by show _ = _; rw [HA.out, List.length_take, Array.length_toList, hsz]; kernel_rfl
  have HW1 : Hid (((w.alloc (.cells Try.zeroCells55 55)).setRow w.heap.size cs).heap[w.heap.size]? = some (.cells cs 55 (0, 0))) := setRow_heap _ _ _ _ 55 _ (heap_alloc_new _ _)
  have HB1 : Hid (Below w.heap.size w ((w.alloc (.cells Try.zeroCells55 55)).setRow w.heap.size cs)) := ⟨rfl, rfl, rfl, by simp, fun k hk => by rw [setRow_other _ _ _ _ (by omega)]; exact Below.heap_alloc _ _ _ hk⟩
  have HR : Hid (((w.alloc (.cells Try.zeroCells55 55)).setRow w.heap.size cs).rangeAt p 0 A) := by
    intro j v hj
    rw [Nat.zero_add, HB1.out.cell (p := ⟨p, j, none⟩) (hv.live p hv.own), hcell]
    rw [HA.out, List.getElem?_take] at hj
    split at hj
    · rw [← Array.getElem?_toList]; exact hj
    · cases hj
  have c0 := cell_later HB1.out h0
  clear hcs
  go_enter Try.func57, Try.ntmps57
  go_wp2_with (first
    | (refine wpList_load_row rfl 55 (.tmp 6) rfl p rfl 55 cs (0, 0) _ HCS.out Try.underlying55 rfl HI.out ?_)
    | (refine wpList_store_row rfl 55 (.tmp 2) (.tmp 7) rfl w.heap.size cs rfl rfl 55 Try.zeroCells55 (heap_alloc_new _ _) HI.out HZ.out H1.out ?_)
    | (refine wpList_load_mid rfl 53 (.tmp 10) rfl p 0 rfl A _ HR.out Try.underlying53 rfl HI2.out ?_))
  have HCV : Hid (∃ U, CV ((w.alloc (.cells Try.zeroCells55 55)).setRow w.heap.size cs) w.heap.size S V U 0) := ⟨V, CV.begin hv cs HCS.out hsz HW1.out⟩
  have HV : Hid (DV T w p S V) := hv
  have HG : Hid (∀ k, k < 65 → A.toArray[k * 2]? = some (V k) ∧ A.toArray[k * 2 + 1]? = some (.int .i64 (S.fs k).s)) := by
    intro k hk
    have hh : ∀ o, o < 130 → A.toArray[o]? = w.cell? ⟨p, o, none⟩ := fun o ho => by
      rw [hcell, List.getElem?_toArray, HA.out, List.getElem?_take, if_pos ho, Array.getElem?_toList]
    rw [hh _ (by omega), hh _ (by omega)]
    exact ⟨(HV.out.file k hk).1, (HV.out.file k hk).2.1⟩
  have HLen : Hid (∀ i, (S.fs i).b.length ≤ 10000000) := hs.len
  generalize (w.alloc (.cells Try.zeroCells55 55)).setRow w.heap.size cs = w1 at *
  clear HR HW1 H1 HCS HZ HI HI2 HA hv hcell hsz c0 ho hs
  go_loopw [12] (fun i wr => ∃ k : Nat, k ≤ 65 ∧ i = .int .i64 k ∧ Hid (∃ U, CV wr w.heap.size S V U k) ∧ Hid (Below w.heap.size w wr)) (fun i _ => 65 - (intOf i).toNat)
  case atStart => exact ⟨0, by omega, rfl, HCV, HB1⟩
  case round =>
    obtain ⟨k, hk, rfl, HC, HB⟩ := hrel
    by_cases hlt : k < 65
    · obtain ⟨U, hc⟩ := HC.out
      have HC2 : Hid _ := hc
      obtain ⟨q0, q1⟩ := HG.out k hlt
      obtain ⟨f0, f1, f2⟩ := HV.out.file k hlt
      obtain ⟨a, c, hVk, _, _, _⟩ := owns_slice f2
      have hidx := index53 A.toArray k hlt (V k) _ q0 q1
      have HO : Hid (w.ownsRow 0 5 1 (.slice a (S.fs k).b.length c) (S.fs k).b.length (bvs (S.fs k).b)) := by rw [← hVk]; exact f2
      rw [hVk] at hidx
      have hb2 : Below wr.heap.size wr (wr.alloc (.cells #[.slice a (S.fs k).b.length c, .int .i64 (S.fs k).s] 52)) := (Below.refl _ _).alloc (Nat.le_refl _) _
      have HCl : Hid _ := clone_any _ (S.fs k).b _ ((RB.of_owns HO.out rfl).later (HB.out.trans (hb2.mono HB.out.size))) (HLen.out k)
      have HB2 : Hid _ := hb2
      clear q0 q1 f0 f1 f2 hVk hc hb2 HG HCV
      obtain ⟨n, HN⟩ : ∃ n, Hid ((S.fs k).b.length = n) := ⟨_, rfl⟩
      rw [HN.out] at hidx HCl HO HB2
      obtain ⟨sk, HSk⟩ : ∃ n, Hid ((S.fs k).s = n) := ⟨_, rfl⟩
      rw [HSk.out] at hidx HCl HB2
      go_wp2_with (first | (go_at_call 35; refine Calls.mono HCl.out ?_; rintro e w2 ⟨u, rfl, ho2, hbl2, hg2⟩
                            obtain ⟨a2, c2, rfl, _, _, _⟩ := owns_slice ho2
                            have HB3 : Hid (Below wr.heap.size wr w2) := HB2.out.trans (hbl2.mono HB2.out.size)
                            have HO2 : Hid _ := ho2
                            have HG2 : Hid (∀ g, (Value.slice a2 n c2).ownBlock = some g → wr.heap.size ≤ g) := (fun g hg => Nat.le_trans HB2.out.size (hg2 g hg))
                            have hcv3 := HC2.out.later HB3.out
                            have k2 := (hcv3.file k hlt).1
                            rw [if_neg (Nat.lt_irrefl k)] at k2
                            have kf : ∀ o, w2.frozen? ⟨w.heap.size, o, none⟩ = false := (fun o => by obtain ⟨cs', e1, _⟩ := hcv3.blk; exact frozen_of_row _ _ _ cs' 55 e1)
                            clear ho2 hbl2 hg2 hcv3))
      go_roundw
      case rel => exact ⟨k + 1, by omega, by go_num, ⟨_, HC2.out.step hlt HB3.out _ (by rw [HN.out]; exact HO2.out) HG2.out⟩, (HB.out.trans (HB3.out.mono HB.out.size)).setCell (Nat.le_refl _) _⟩
      case measure => simp [intOf]; omega
    · have hk65 : k = 65 := by omega
      subst hk65
      have k1 := cell_later HB.out h1
      have kf : wr.frozen? ⟨b1, 0, none⟩ = false := (HB.out.frozen (p := ⟨b1, 0, none⟩) (World.block_lt_of_cell? w _ h1)).trans hf
      clear HG HCV
      go_wp2_with fail
      go_end0
      obtain ⟨U, hc⟩ := HC.out
      exact ⟨rfl, wr, HB.out, rfl, hc.done (Nat.le_refl _)⟩
end Go.Proofs.Ytbbmbjlpccdclaa
