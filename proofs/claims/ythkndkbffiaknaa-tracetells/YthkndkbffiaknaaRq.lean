/- The document's Last. -/
import Derived.Test.YthkndkbffiaknaaRp
import Derived.Lib.AppendZeros
namespace Go.Proofs.Ythkndkbffiaknaa.Tz
open Go.RowKit Go.Shelf Go.Proofs.Ythkndkbffiaknaa
set_option maxRecDepth 1000000
set_option linter.unusedVariables false

theorem effs_from (a : Option Addr) (n ca p : Nat) (hp : p ≤ n) (hca : n ≤ ca) (hm : ca ≤ maxLen) :
    ∃ va vc, (∀ (w : World) (l : List Ef), RE w (.slice a n ca) l → RE w (.slice va (n - p) vc) (l.drop p)) ∧ ∀ wx : World, (Instr.sliceAt 22 (.slice a n ca) (some (.int .i64 (p : Int))) none none).run Try.prog wx = .ok (.slice va (n - p) vc) wx := by
  refine ⟨if ca = p then a else a.map (·.add (p * 4)), ca - p, fun w l h => ?_, fun wx => ?_⟩
  · obtain ⟨a', ca', he, h3, h4, hc⟩ := h
    simp only [Value.slice.injEq] at he
    obtain ⟨rfl, rfl, rfl⟩ := he
    by_cases hmm : ca = p
    · rw [if_pos hmm]
      refine ⟨a, ca - p, by rw [List.length_drop], by rw [List.length_drop]; omega, by omega, fun i x hx => ?_⟩
      have := (List.getElem?_eq_some_iff.1 hx).1
      rw [List.length_drop] at this
      omega
    · rw [if_neg hmm]
      refine ⟨_, ca - p, by rw [List.length_drop], by rw [List.length_drop]; omega, by omega, fun i x hx => ?_⟩
      rw [List.getElem?_drop] at hx
      obtain ⟨hw, b', off', hb', h9⟩ := hc (p + i) x hx
      subst hb'
      refine ⟨hw, b', off' + p * 4, by simp [add_at], ?_⟩
      rw [show off' + p * 4 + i * 4 = off' + (p + i) * 4 by omega]
      exact h9
  · rw [run_sliceAt_slice wx 22 _ _ _ _ Try.underlying22, run_slice_l wx 22 a n ca Try.underlying22 .i64 p (by omega) (by omega)]
    have : (sizeOf (Try.prog.elem 22)).run Try.prog wx = .ok 4 wx := by kernel_rfl
    rw [this]
    simp [sliced]

set_option maxHeartbeats 16000000 in
theorem rlast_any (l : List Ef) (v : Value) (hl : l.length ≤ 1000000) (w : World) (h : RE w v l) :
    Calls Try.prog 15 #[v] w fun e w' => ∃ rv, e = .returned rv ∧ OwE w' rv (lastL l) ∧ Below w.heap.size w w' ∧ ∀ g, rv.ownBlock = some g → w.heap.size ≤ g := by
  obtain ⟨a, c, hvs, hlc⟩ := h.slice
  subst hvs
  obtain ⟨n, hn⟩ : ∃ n, l.length = n := ⟨_, rfl⟩
  have HN : Hid (l.length = n) := hn
  have HRE : Hid (∀ wx, Below w.heap.size w wx → RE wx (.slice a n c) l) := fun wx hb => by rw [← hn]; exact h.later hb
  have HLN : Hid (l.length ≤ 1000000) := hl
  have hcm : c ≤ maxLen := by obtain ⟨_, _, e, _, h4, _⟩ := h; cases e; exact h4
  rw [hn] at hl hlc ⊢
  clear h hn
  go_enter Try.func15, Try.ntmps15
  go_wp2_with fail
  go_loopw [3, 4] (fun s3 s4 wr => ∃ (i : Nat) (o1 : List Ef) (ov : Value), s4 = .int .i64 i ∧ s3 = ov ∧ i ≤ n ∧ Hid (Below w.heap.size w wr) ∧ Hid (OwE wr ov o1 ∧ o1 ++ lastL (l.drop i) = lastL l ∧ ∀ g, ov.ownBlock = some g → w.heap.size ≤ g)) (fun _ s4 _ => n - (intOf s4).toNat)
  case atStart => exact ⟨0, [], _, rfl, rfl, Nat.zero_le _, Below.refl _ _, .inl ⟨rfl, rfl⟩, rfl, fun g hg => by cases hg⟩
  case round =>
    obtain ⟨i, o1, ov, rfl, hov, hi, HB, HO⟩ := hrel
    replace hov := hov.symm
    subst hov
    rename World => wr
    by_cases hlt : i < n
    · have hil : i < l.length := by rw [HN.out]; exact hlt
      obtain ⟨_, b, off, ha, d0, d1, d2, d3⟩ := (HRE.out wr HB.out).at' hil
      subst ha
      have hii : (i : Int) < (n : Int) := by omega
      obtain ⟨e, he⟩ : ∃ e, l.getD i default = e := ⟨_, rfl⟩
      rw [he] at d0 d1 d2 d3
      have HE : Hid (∀ wx, Below wr.heap.size wr wx → EC wx b (off + i * 4) e) := fun wx hb => (show EC wr b (off + i * 4) e from ⟨d0, d1, d2, d3⟩).later hb
      have HLE : Hid (l.getD i default = e) := he
      have HST : Hid (lastL (l.drop i) = if e.key ∈ keys (l.drop (i + 1)) then lastL (l.drop (i + 1)) else e :: lastL (l.drop (i + 1))) := by
        show _ = _
        rw [last_step hil, he]
      obtain ⟨va, vc, hfr, hsl⟩ := effs_from (some ⟨b, off, none⟩) n c (i + 1) (by omega) hlc hcm
      have HFI : Hid (Calls Try.prog 12 #[.slice va (n - (i + 1)) vc, KV e.key] wr.drew fun z w' => z = .returned (.int .i64 (findV e.key (l.drop (i + 1)))) ∧ Below wr.drew.heap.size wr.drew w') := rfind_any e.key (l.drop (i + 1)) _ wr.drew (hfr _ _ (HRE.out wr.drew HB.out.drew)) (by rw [List.length_drop]; have := HN.out; omega)
      obtain ⟨fv, hfv⟩ : ∃ f, findV e.key (l.drop (i + 1)) = f := ⟨_, rfl⟩
      rw [hfv] at HFI
      have HFN : Hid (decide (fv < 0) = true ↔ e.key ∉ keys (l.drop (i + 1))) := by
        show _ ↔ _
        rw [← hfv, decide_eq_true_iff, ← find_mem]
        unfold findV
        cases findE e.key (l.drop (i + 1)) with
        | none => simp
        | some q => simp <;> omega
      obtain ⟨fb, hfb⟩ : ∃ f, decide (fv < 0) = f := ⟨_, rfl⟩
      rw [hfb] at HFN
      have HFB : Hid (decide (fv < 0) = fb) := hfb
      have e9 : (((i + 1 : Nat) : Int)) = (i : Int) + 1 := by omega
      rw [e9] at hsl
      clear he hil d0 d1 d2 d3 hfv hfb hfr e9
      go_wp2_with fail
      refine region_thenF [(11, .slice (some ⟨b, off, none⟩) n c), (12, .int .i64 (i : Int)), (13, .int .i64 ((i : Int) + 1)), (14, .slice va (n - (i + 1)) vc), (15, .slice (some ⟨b, off, none⟩) n c), (16, .int .i64 (i : Int)), (17, .pointer (some ⟨b, off + i * 4, none⟩)), (18, .pointer (some ⟨b, off + i * 4, none⟩)), (19, KV e.key), (20, .int .i64 fv), (21, .bool fb)] (fun w9 => Below wr.heap.size wr w9) ?_ ?_
      · refine wp_region_held (S := fun w9 => Below wr.heap.size wr w9) (by kernel_rfl) ?_
        have hS0 : Below wr.heap.size wr wr.drew := (Below.refl _ wr).drew
        simp only [List.size_toArray, List.length_cons, List.length_nil, Nat.reduceAdd, Array.replicate_succ, Array.replicate_zero, List.push_toArray, List.nil_append, List.cons_append]
        refine tG 0 11 (.slice (some ⟨b, off, none⟩) n c) 10 rfl hS0 ?_
        refine tG 1 12 (.int .i64 (i : Int)) 9 rfl hS0 ?_
        refine tV 2 13 (.int .i64 ((i : Int) + 1)) 8 rfl hS0 ?_ (fun wx h => by have hwr := Go.IntWalk.i64_in ((i : Int) + 1) (by omega); go_simp)
        refine tV 3 14 (.slice va (n - (i + 1)) vc) 7 rfl hS0 ?_ (fun wx h => by go_simp)
        refine tG 4 15 (.slice (some ⟨b, off, none⟩) n c) 6 rfl hS0 ?_
        refine tG 5 16 (.int .i64 (i : Int)) 5 rfl hS0 ?_
        refine tG 6 17 (.pointer (some ⟨b, off + i * 4, none⟩)) 4 rfl hS0 ?_
        refine tG 7 18 (.pointer (some ⟨b, off + i * 4, none⟩)) 3 rfl hS0 ?_
        refine tV 8 19 (KV e.key) 2 rfl hS0 ?_ (fun wx h => by obtain ⟨y0, y1, y2, y3⟩ := HE.out wx h; unfold KV; go_simp)
        refine oneW (R := fun w9 => Below wr.heap.size wr w9) (i := 9) (d := 20) (f := 12) (args := #[.slice va (n - (i + 1)) vc, KV e.key]) (v := .int .i64 fv) (fuel := 1) rfl rfl (by kernel_rfl) (by kernel_rfl) (fun _ => by kernel_rfl) (Calls.mono HFI.out (by rintro e9 w9 ⟨rfl, h9⟩; exact ⟨rfl, (Below.refl _ wr).drew.trans h9⟩)) (fun w9 h => h) (fun w5 hS5 => ?_)
        simp only [List.setIfInBounds_toArray, List.set_cons_succ, List.set_cons_zero]
        refine tV 10 21 (.bool fb) 0 rfl hS5 ?_ (fun wx h => by have h9 := HFB.out; go_simp)
        refine wpAnyH_done (by kernel_rfl) ?_ _
        exact ⟨rfl, by kernel_rfl, hS5⟩
      intro w8 hF8
      simp only [setAll, List.setIfInBounds_toArray, List.set_cons_succ, List.set_cons_zero]
      have HB8 : Hid (Below w.heap.size w w8) := HB.out.trans (hF8.mono HB.out.size)
      have HO8 : Hid (OwE w8 ov o1) := HO.out.1.later hF8
      obtain ⟨d0, d1, d2, d3⟩ := HE.out w8 hF8
      cases fb with
      | true =>
        have hno : e.key ∉ keys (l.drop (i + 1)) := HFN.out.1 rfl
        have hle9 : o1.length ≤ 1000000 := by
          have q1 := congrArg List.length HO.out.2.1
          have q2 := lastL_len l
          have q3 := HLN.out
          rw [List.length_append] at q1
          omega
        obtain ⟨ga, gc, w9, hrun, how, hgr, hob⟩ := run_append_e 22 22 Try.underlying22 (HO8.out.later (bl1 w8 (.cells #[.int .i64 e.i, .bool e.u, .int .i64 e.t, .bool e.ok] 37))) e (nb := w8.heap.size) (heap_alloc_new _ _) (fun hh => by have := HO8.out.lt _ hh; omega) (by omega)
        have hbx := bl1 w8 (.cells #[.int .i64 e.i, .bool e.u, .int .i64 e.t, .bool e.ok] 37)
        have hb8x := HB8.out.trans (hbx.mono HB8.out.size)
        have HB9 : Hid (Below w.heap.size w w9) := hb8x.grown hgr hb8x.size (fun g hg => HO.out.2.2 g hg)
        have HO9 : Hid (OwE w9 (.slice ga (o1.length + 1) gc) (o1 ++ [e]) ∧ (o1 ++ [e]) ++ lastL (l.drop (i + 1)) = lastL l ∧ ∀ g, (Value.slice ga (o1.length + 1) gc).ownBlock = some g → w.heap.size ≤ g) := by
          refine ⟨how, ?_, fun g hg => ?_⟩
          · have h1 := HO.out.2.1
            rw [HST.out, if_neg hno] at h1
            rw [← h1]
            simp
          · rcases hob with h | h
            · exact HO.out.2.2 g (h ▸ hg)
            · rw [hg] at h
              have h9 : g = (w8.alloc (.cells #[.int .i64 e.i, .bool e.u, .int .i64 e.t, .bool e.ok] 37)).heap.size := Option.some.inj h
              have := HB8.out.size
              simp at h9
              omega
        clear hF8 how hgr hob hno hle9 hbx hb8x HFI hsl
        go_wp2_with (first | (at_builtin; refine Lib.wpList_append_run _ rfl _ _ _ _ rfl _ _ rfl rfl _ _ hrun ?_))
        go_roundw
        case rel => exact ⟨i + 1, _, _, by go_num, rfl, by omega, HB9, HO9⟩
        case measure => simp [intOf]; omega
      | false =>
        have hin : e.key ∈ keys (l.drop (i + 1)) := Classical.byContradiction fun h => by have := HFN.out.2 h; cases this
        have HO9 : Hid (OwE w8 ov o1 ∧ o1 ++ lastL (l.drop (i + 1)) = lastL l ∧ ∀ g, ov.ownBlock = some g → w.heap.size ≤ g) := by
          refine ⟨HO8.out, ?_, HO.out.2.2⟩
          have h1 := HO.out.2.1
          rw [HST.out, if_pos hin] at h1
          exact h1
        clear hF8 hin HFI hsl d0 d1 d2 d3
        go_wp2_with fail
        go_roundw
        case rel => exact ⟨i + 1, _, _, by go_num, rfl, by omega, HB8, HO9⟩
        case measure => simp [intOf]; omega
    · have HF : Hid (o1 = lastL l) := by
        have h1 := HO.out.2.1
        rw [List.drop_eq_nil_of_le (by rw [HN.out]; omega)] at h1
        show _ = _
        rw [← h1]
        simp [lastL]
      go_wp2_with fail
      go_ret
      exact ⟨_, rfl, (by rw [← HF.out]; exact HO.out.1), HB.out, HO.out.2.2⟩
end Go.Proofs.Ythkndkbffiaknaa.Tz
