/- Texts of the seat, packed: Wh. -/
import Derived.Test.YtijkgdbabikojaaGreatP27
import Derived.Test.YtijkgdbabikojaaGreatP13
/- The walks over the document's Take. -/
namespace Go.Proofs.YtijkgdbabikojaaGreat
set_option maxRecDepth 1000000
open Go.RowKit
set_option linter.unusedVariables false

/-- A number's bytes are those that stand there, but for a last byte 0 behind others. -/
theorem Fi.bytes {l : List UInt8} {k q c : Nat} (h : Fi l k q) (hk : k < l.length) (hc : c = (l.getD k 0).toNat) (h8 : c < 128) :
    oneP (q + c * 128 ^ k) = l.take (k + 1) ↔ ¬ (c = 0 ∧ 0 < k) := by
  obtain ⟨h1, h2, h3⟩ := h
  subst hc
  have hL := longs_stop l k h1 hk h8
  have hv := val_take l k hk
  rw [Nat.mod_eq_of_lt h8, ← h2] at hv
  rw [← hv]
  have hlen : (l.take (k + 1)).length = k + 1 := by rw [List.length_take]; omega
  have hgd : (l.take (k + 1)).getD k 0 = l.getD k 0 := by
    rw [List.getD_eq_getElem?_getD, List.getElem?_take, if_pos (by omega), List.getD_eq_getElem?_getD]
  constructor
  · rintro he ⟨h0, hk0⟩
    have hz : val (l.take (k + 1)) = 0 ∨ 0 < val (l.take (k + 1)) := by omega
    rcases hz with hz | hz
    · rw [hz, one_lt (by decide)] at he
      have := congrArg List.length he
      rw [hlen] at this
      simp at this
      omega
    · have hl := last_one [] (val (l.take (k + 1))) hz
      rw [List.append_nil, he, hlen, Nat.add_sub_cancel, hgd] at hl
      exact hl h0
  · intro hn
    have hLt : longs (l.take (k + 1)) = k := by have := longs_take l (by omega); rw [hL] at this; exact this
    refine (one_val (l.take (k + 1)) (by rw [hLt, hlen]) ?_).1
    rw [hlen, Nat.add_sub_cancel, hgd]
    by_cases hk0 : k = 0
    · right; omega
    · left
      intro h0
      exact hn ⟨h0, by omega⟩

/-- An operation that yields in every such world is taken first; its slot is named. -/
theorem takeD {P : Program} {ops : Array Oper} {Q : Exit → Act → World → Prop} {md : Region.Mode} {S : World → Prop} {i : Nat} {oi : Oper} {d : Tmp} {v : Value} {fuel : Nat} {listed : Array Bool} {a : Act} {w : World} (hi : ops[i]? = some oi) (hd : oi.dst = some d)
    (hs : Region.noSelect ops = true) (hf : Region.free md ops listed i = true) (hr : (Region.ready md ops listed).contains i = true)
    (hQ : ∀ c a w, Q (.panic c) { tmps := a.tmps.setIfInBounds d v, defers := a.defers } w → Q (.panic c) a w) (hy : YieldsIf P ops S oi v a) (hS : S w)
    (h : wpAnyH P md ops Q S fuel (listed.setIfInBounds i true) { tmps := a.tmps.setIfInBounds d v, defers := a.defers } w) : wpAnyH P md ops Q S (fuel + 1) listed a w := by
  have hp : ∀ a : Act, a.put oi.dst v = { tmps := a.tmps.setIfInBounds d v, defers := a.defers } := fun a => by rw [hd]; rfl
  refine wpAnyH_take hi hs hf hr (fun c a w h => hQ c a w (by rw [hp] at h; exact h)) hy hS ?_
  rw [hp]
  exact h

theorem wpOp_calls {P : Program} {ops : Array Oper} {Q : Exit → Act → World → Prop} {i : Nat} {K : Act → World → Prop} {a : Act} {w : World} {o : Oper} {d : Tmp} {f : FuncId} {args : Array Value} (hi : ops[i]? = some o) (hd : o.dst = some d) (hw : Region.wanted o (yielded ops a.tmps) = true)
    (hrun : (execOp a.eval o).run P w = .ok (.enter f args) w) (R : Ending → World → Prop) (h : Calls P f args w R) (hR : ∀ v w'', R (.returned v) w'' → K { tmps := a.tmps.setIfInBounds d v, defers := a.defers } w'') (hP : ∀ ch w'', R (.panicked ch) w'' → Q (.panic ch) a w'') (hO : ∀ w'', ¬ R .outgrown w'') : wpOp P ops Q i K a w := by
  have hp : ∀ v, a.put o.dst v = { tmps := a.tmps.setIfInBounds d v, defers := a.defers } := fun v => by rw [hd]; rfl
  unfold wpOp
  simp only [hi]
  rw [if_pos hw]
  refine .inl ?_
  unfold Oper.wp
  rw [hrun]
  exact h.mono fun e w'' he => by
    cases e with
    | returned v => show K (a.put o.dst v) w''; rw [hp]; exact hR v w'' he
    | panicked ch => exact hP ch w'' he
    | outgrown => exact absurd he (hO w'')

set_option maxRecDepth 1000000 in
set_option maxHeartbeats 12000000 in
theorem rtake_any (l : List UInt8) (p : Nat) (w : World) (hp : p ≤ l.length) (hl : l.length ≤ 100000) :
    Calls Tryz.prog 95 #[.string ⟨l.toArray⟩, .int .i64 p] w fun e w' => e = .returned (firstV (takeP l p)) ∧ Below w.heap.size w w' := by
  have hsz := bsize l
  obtain ⟨D, HD⟩ : ∃ D, Hid (D = l.drop p) := ⟨_, rfl⟩
  have hDl : D.length = l.length - p := by rw [HD.out, List.length_drop]
  obtain ⟨R, HR⟩ : ∃ R, Hid (R = takeP l p) := ⟨_, rfl⟩
  have HRD : Hid (R = ((numP D).1, (if (numP D).2.2 = 0 then p + (numP D).2.1 else 0), (numP D).2.2)) := by show _ = _; rw [HR.out, HD.out]; rfl
  rw [← HR.out]
  have HAt : Hid (∀ k, k < D.length → l.getD (p + k) 0 = D.getD k 0) := by
    show ∀ k, _
    intro k hk
    rw [HD.out]
    simp [List.getD_eq_getElem?_getD]
  have HMid : Hid (∀ k, (l.take (p + k)).drop p = D.take k) := by
    show ∀ k, _
    intro k
    rw [HD.out, List.drop_take, Nat.add_sub_cancel_left]
  clear HR
  go_enter Tryz.func95, Tryz.ntmps95
  go_wp2_with fail
  go_loopw [7, 8, 9] (fun nv pv iv wr => ∃ (k q : Nat) (P : Int), k ≤ 6 ∧ k ≤ D.length ∧ iv = .int .i64 k ∧ nv = .int .i64 q ∧ pv = .int .i64 P ∧ P = ((128 ^ k : Nat) : Int) ∧ Hid (Fi D k q) ∧ wr = w) (fun _ _ iv _ => 6 - (intOf iv).toNat)
  case atStart => exact ⟨0, 0, 1, by omega, Nat.zero_le _, rfl, rfl, rfl, rfl, Fi.zero D, rfl⟩
  case round =>
    obtain ⟨k, q, P, hk6, hkl, rfl, rfl, rfl, hP, HF, rfl⟩ := hrel
    by_cases h6 : k = 6
    · subst h6
      have HQ : Hid (R = (0, 0, 4)) := by show _ = _; rw [HRD.out, HF.out.six]; rfl
      clear HRD HF hP
      go_wp2_with fail
      go_ret3
      rw [HQ.out]
      exact ⟨rfl, Below.refl _ _⟩
    · by_cases hlt : k < D.length
      · have hbl := b_lt (D.getD k 0)
        obtain ⟨c, HCC⟩ : ∃ c, Hid (c = (D.getD k 0).toNat) := ⟨_, rfl⟩
        have hat : ∀ e : Int, e = (p : Int) + k → ∀ wx : World, (Instr.index 9 (.string ⟨l.toArray⟩) (.int .i64 e)).run Tryz.prog wx = .ok (.int .u8 (c : Int)) wx := by
          intro e he wx
          have := str_at l (p + k) e (by omega) (by omega) wx
          rw [HAt.out k hlt, ← HCC.out] at this
          exact this
        rw [← HCC.out] at hbl
        have hq3 := HF.out.2.2
        by_cases h8 : c < 128
        · have hcm : (c : Int) % 128 = (c : Int) := by omega
          have hcm2 : (c : Int).tmod 128 = (c : Int) := by rw [Int.tmod_eq_emod_of_nonneg (by omega)]; exact hcm
          obtain ⟨hlim, hnum⟩ := HF.out.last (by omega) hlt HCC.out h8
          have hby := HF.out.bytes hlt HCC.out h8
          have HMk := HMid.out (k + 1)
          have HST := fun (e : Int) (he : e = ((p + (k + 1) : Nat) : Int)) (wx : World) => str_mid l p (p + (k + 1)) (p : Int) e rfl he (by omega) (by omega) wx
          rw [HMk] at HST
          have HRQ : Hid (R = _) := HRD.out
          rw [hnum] at HRQ
          clear HF HAt HMid HRD HMk hnum
          by_cases hbig : 1099511627776 < q + c * 128 ^ k
          · have HQ : Hid (R = (0, 0, 4)) := by show _ = _; rw [HRQ.out, if_pos (.inr hbig)]; rfl
            clear HRQ hby HST
            have hk5 : k = 0 ∨ k = 1 ∨ k = 2 ∨ k = 3 ∨ k = 4 ∨ k = 5 := by omega
            rcases hk5 with rfl | rfl | rfl | rfl | rfl | rfl
            · omega
            · omega
            · omega
            · omega
            · omega
            · have hP2 : P = 34359738368 := by rw [hP]; rfl
              clear hP
              subst hP2
              have hat2 := hat ((p : Int) + 5) (by omega)
              clear hat
              go_wp2_with fail
              refine wp_region_held (S := fun w' => w' = wr.drew) (by kernel_rfl) ?_
              simp only [List.size_toArray, List.length_cons, List.length_nil, Nat.reduceAdd, Array.replicate_succ, Array.replicate_zero, List.push_toArray, List.nil_append, List.cons_append]
              refine takeD (i := 0) (d := 45) (v := .int .i64 ((q : Int) + (c : Int) * 34359738368)) (fuel := 14) rfl rfl (by kernel_rfl) (by kernel_rfl) (by kernel_rfl) (fun _ _ _ h => h) (.inl ⟨by kernel_rfl, fun _ _ => by kernel_rfl⟩) rfl ?_
              simp only [List.setIfInBounds_toArray, List.set_cons_succ, List.set_cons_zero]
              refine wpAnyH_all (fuel := 13) (rs := [1]) (by kernel_rfl) (by decide) ?_
              refine List.forall_mem_singleton.2 ?_
              refine wpOp_calls (i := 1) (d := 46) rfl rfl (by kernel_rfl) (f := 115) (args := #[.int .i64 ((q : Int) + (c : Int) * 34359738368)]) (by kernel_rfl) _ (is_no ((q : Int) + (c : Int) * 34359738368) (by omega) _) ?_ (fun _ _ h => by cases h.1) (fun _ h => by cases h.1)
              rintro v w'' ⟨h1, rfl⟩
              cases h1
              refine ⟨rfl, ?_⟩
              simp only [List.setIfInBounds_toArray, List.set_cons_succ, List.set_cons_zero]
              refine takeD (i := 2) (d := 47) (v := .bool true) (fuel := 12) rfl rfl (by kernel_rfl) (by kernel_rfl) (by kernel_rfl) (fun _ _ _ h => h) (.inl ⟨by kernel_rfl, fun _ _ => by kernel_rfl⟩) rfl ?_
              simp only [List.setIfInBounds_toArray, List.set_cons_succ, List.set_cons_zero]
              refine takeD (i := 3) (d := 48) (v := .bool true) (fuel := 11) rfl rfl (by kernel_rfl) (by kernel_rfl) (by kernel_rfl) (fun _ _ _ h => h) (.inl ⟨by kernel_rfl, fun _ _ => by kernel_rfl⟩) rfl ?_
              simp only [List.setIfInBounds_toArray, List.set_cons_succ, List.set_cons_zero]
              refine takeD (i := 4) (d := 49) (v := undef) (fuel := 10) rfl rfl (by kernel_rfl) (by kernel_rfl) (by kernel_rfl) (fun _ _ _ h => h) (.inr ⟨by kernel_rfl, rfl⟩) rfl ?_
              simp only [List.setIfInBounds_toArray, List.set_cons_succ, List.set_cons_zero]
              refine takeD (i := 5) (d := 50) (v := undef) (fuel := 9) rfl rfl (by kernel_rfl) (by kernel_rfl) (by kernel_rfl) (fun _ _ _ h => h) (.inr ⟨by kernel_rfl, rfl⟩) rfl ?_
              simp only [List.setIfInBounds_toArray, List.set_cons_succ, List.set_cons_zero]
              refine takeD (i := 6) (d := 51) (v := undef) (fuel := 8) rfl rfl (by kernel_rfl) (by kernel_rfl) (by kernel_rfl) (fun _ _ _ h => h) (.inr ⟨by kernel_rfl, rfl⟩) rfl ?_
              simp only [List.setIfInBounds_toArray, List.set_cons_succ, List.set_cons_zero]
              refine takeD (i := 7) (d := 52) (v := undef) (fuel := 7) rfl rfl (by kernel_rfl) (by kernel_rfl) (by kernel_rfl) (fun _ _ _ h => h) (.inr ⟨by kernel_rfl, rfl⟩) rfl ?_
              simp only [List.setIfInBounds_toArray, List.set_cons_succ, List.set_cons_zero]
              refine takeD (i := 8) (d := 53) (v := undef) (fuel := 6) rfl rfl (by kernel_rfl) (by kernel_rfl) (by kernel_rfl) (fun _ _ _ h => h) (.inr ⟨by kernel_rfl, rfl⟩) rfl ?_
              simp only [List.setIfInBounds_toArray, List.set_cons_succ, List.set_cons_zero]
              refine takeD (i := 9) (d := 54) (v := undef) (fuel := 5) rfl rfl (by kernel_rfl) (by kernel_rfl) (by kernel_rfl) (fun _ _ _ h => h) (.inr ⟨by kernel_rfl, rfl⟩) rfl ?_
              simp only [List.setIfInBounds_toArray, List.set_cons_succ, List.set_cons_zero]
              refine takeD (i := 10) (d := 55) (v := undef) (fuel := 4) rfl rfl (by kernel_rfl) (by kernel_rfl) (by kernel_rfl) (fun _ _ _ h => h) (.inr ⟨by kernel_rfl, rfl⟩) rfl ?_
              simp only [List.setIfInBounds_toArray, List.set_cons_succ, List.set_cons_zero]
              refine takeD (i := 11) (d := 56) (v := undef) (fuel := 3) rfl rfl (by kernel_rfl) (by kernel_rfl) (by kernel_rfl) (fun _ _ _ h => h) (.inr ⟨by kernel_rfl, rfl⟩) rfl ?_
              simp only [List.setIfInBounds_toArray, List.set_cons_succ, List.set_cons_zero]
              refine takeD (i := 12) (d := 57) (v := undef) (fuel := 2) rfl rfl (by kernel_rfl) (by kernel_rfl) (by kernel_rfl) (fun _ _ _ h => h) (.inr ⟨by kernel_rfl, rfl⟩) rfl ?_
              simp only [List.setIfInBounds_toArray, List.set_cons_succ, List.set_cons_zero]
              refine takeD (i := 13) (d := 58) (v := undef) (fuel := 1) rfl rfl (by kernel_rfl) (by kernel_rfl) (by kernel_rfl) (fun _ _ _ h => h) (.inr ⟨by kernel_rfl, rfl⟩) rfl ?_
              simp only [List.setIfInBounds_toArray, List.set_cons_succ, List.set_cons_zero]
              refine takeD (i := 14) (d := 59) (v := .bool true) (fuel := 0) rfl rfl (by kernel_rfl) (by kernel_rfl) (by kernel_rfl) (fun _ _ _ h => h) (.inl ⟨by kernel_rfl, fun _ _ => by kernel_rfl⟩) rfl ?_
              simp only [List.setIfInBounds_toArray, List.set_cons_succ, List.set_cons_zero]
              refine wpAnyH_done (by kernel_rfl) ?_ _
              go_wp2_with fail
              go_ret3
              rw [HQ.out]
              exact ⟨rfl, (Below.refl _ _).drew⟩
          · have HIS : Hid (∀ (m : Int), m = ((q + c * 128 ^ k : Nat) : Int) → ∀ wx : World, Calls Tryz.prog 115 #[.int .i64 m] wx fun e w' => e = .returned (.bool true) ∧ w' = wx) := by
              show ∀ m, _
              intro m hm wx
              exact is_yes m (by omega) wx
            have HON : Hid (∀ (m : Int), m = ((q + c * 128 ^ k : Nat) : Int) → ∀ wx : World, Calls Tryz.prog 113 #[.int .i64 m] wx fun e w' => e = .returned (.string ⟨(oneP (q + c * 128 ^ k)).toArray⟩) ∧ Below wx.heap.size wx w') := by
              show ∀ m, _
              rintro m rfl wx
              exact one_any _ (by omega) wx
            by_cases h0 : c = 0 ∧ 0 < k
            · have HQ : Hid (R = (0, 0, 4)) := by show _ = _; rw [HRQ.out, if_pos (.inl h0)]; rfl
              have hne : ¬ oneP (q + c * 128 ^ k) = D.take (k + 1) := fun h => hby.1 h h0
              have hnb : (oneP (q + c * 128 ^ k) == D.take (k + 1)) = false := by
                rw [Bool.eq_false_iff]
                intro h
                exact hne (eq_of_beq h)
              generalize hX : oneP (q + c * 128 ^ k) = X at *
              generalize hY : D.take (k + 1) = Y at *
              clear HRQ hby hne hX hY
              have hk5 : k = 0 ∨ k = 1 ∨ k = 2 ∨ k = 3 ∨ k = 4 ∨ k = 5 := by omega
              rcases hk5 with rfl | rfl | rfl | rfl | rfl | rfl
              · omega
              · have hP2 : P = 128 := by rw [hP]; rfl
                clear hP
                subst hP2
                have hat2 := hat ((p : Int) + 1) (by omega)
                have hst2 := HST (((p : Int) + 1) + 1) (by omega)
                have hw1 : IntKind.i64.wrap ((p : Int) + 1) = ((p : Int) + 1) := by rw [IntKind.wrap_i64]; omega
                have hw2 : IntKind.i64.wrap (((p : Int) + 1) + 1) = ((p : Int) + 1) + 1 := by rw [IntKind.wrap_i64]; omega
                clear hat HST
                go_wp2_with fail
                go_region_held_law (fun _ => True) (first | trivial) (first
                  | (go_simp; go_at_call 115; refine Calls.mono (HIS.out _ (by omega) _) ?_; rintro e w2 ⟨rfl, rfl⟩)
                  | (go_simp; go_at_call 113; refine Calls.mono (HON.out _ (by omega) _) ?_; rintro e w2 ⟨rfl, hb2⟩))
                all_goals
                  have HB2 : Hid (Below wr.heap.size wr w2) := ((Below.refl _ _).drew).trans hb2
                  clear hb2
                  go_wp2_with fail
                  go_ret3
                  rw [HQ.out]
                  exact ⟨rfl, HB2.out⟩
              · have hP2 : P = 16384 := by rw [hP]; rfl
                clear hP
                subst hP2
                have hat2 := hat ((p : Int) + 2) (by omega)
                have hst2 := HST (((p : Int) + 2) + 1) (by omega)
                have hw1 : IntKind.i64.wrap ((p : Int) + 2) = ((p : Int) + 2) := by rw [IntKind.wrap_i64]; omega
                have hw2 : IntKind.i64.wrap (((p : Int) + 2) + 1) = ((p : Int) + 2) + 1 := by rw [IntKind.wrap_i64]; omega
                clear hat HST
                go_wp2_with fail
                go_region_held_law (fun _ => True) (first | trivial) (first
                  | (go_simp; go_at_call 115; refine Calls.mono (HIS.out _ (by omega) _) ?_; rintro e w2 ⟨rfl, rfl⟩)
                  | (go_simp; go_at_call 113; refine Calls.mono (HON.out _ (by omega) _) ?_; rintro e w2 ⟨rfl, hb2⟩))
                all_goals
                  have HB2 : Hid (Below wr.heap.size wr w2) := ((Below.refl _ _).drew).trans hb2
                  clear hb2
                  go_wp2_with fail
                  go_ret3
                  rw [HQ.out]
                  exact ⟨rfl, HB2.out⟩
              · have hP2 : P = 2097152 := by rw [hP]; rfl
                clear hP
                subst hP2
                have hat2 := hat ((p : Int) + 3) (by omega)
                have hst2 := HST (((p : Int) + 3) + 1) (by omega)
                have hw1 : IntKind.i64.wrap ((p : Int) + 3) = ((p : Int) + 3) := by rw [IntKind.wrap_i64]; omega
                have hw2 : IntKind.i64.wrap (((p : Int) + 3) + 1) = ((p : Int) + 3) + 1 := by rw [IntKind.wrap_i64]; omega
                clear hat HST
                go_wp2_with fail
                go_region_held_law (fun _ => True) (first | trivial) (first
                  | (go_simp; go_at_call 115; refine Calls.mono (HIS.out _ (by omega) _) ?_; rintro e w2 ⟨rfl, rfl⟩)
                  | (go_simp; go_at_call 113; refine Calls.mono (HON.out _ (by omega) _) ?_; rintro e w2 ⟨rfl, hb2⟩))
                all_goals
                  have HB2 : Hid (Below wr.heap.size wr w2) := ((Below.refl _ _).drew).trans hb2
                  clear hb2
                  go_wp2_with fail
                  go_ret3
                  rw [HQ.out]
                  exact ⟨rfl, HB2.out⟩
              · have hP2 : P = 268435456 := by rw [hP]; rfl
                clear hP
                subst hP2
                have hat2 := hat ((p : Int) + 4) (by omega)
                have hst2 := HST (((p : Int) + 4) + 1) (by omega)
                have hw1 : IntKind.i64.wrap ((p : Int) + 4) = ((p : Int) + 4) := by rw [IntKind.wrap_i64]; omega
                have hw2 : IntKind.i64.wrap (((p : Int) + 4) + 1) = ((p : Int) + 4) + 1 := by rw [IntKind.wrap_i64]; omega
                clear hat HST
                go_wp2_with fail
                go_region_held_law (fun _ => True) (first | trivial) (first
                  | (go_simp; go_at_call 115; refine Calls.mono (HIS.out _ (by omega) _) ?_; rintro e w2 ⟨rfl, rfl⟩)
                  | (go_simp; go_at_call 113; refine Calls.mono (HON.out _ (by omega) _) ?_; rintro e w2 ⟨rfl, hb2⟩))
                all_goals
                  have HB2 : Hid (Below wr.heap.size wr w2) := ((Below.refl _ _).drew).trans hb2
                  clear hb2
                  go_wp2_with fail
                  go_ret3
                  rw [HQ.out]
                  exact ⟨rfl, HB2.out⟩
              · have hP2 : P = 34359738368 := by rw [hP]; rfl
                clear hP
                subst hP2
                have hat2 := hat ((p : Int) + 5) (by omega)
                have hst2 := HST (((p : Int) + 5) + 1) (by omega)
                have hw1 : IntKind.i64.wrap ((p : Int) + 5) = ((p : Int) + 5) := by rw [IntKind.wrap_i64]; omega
                have hw2 : IntKind.i64.wrap (((p : Int) + 5) + 1) = ((p : Int) + 5) + 1 := by rw [IntKind.wrap_i64]; omega
                clear hat HST
                go_wp2_with fail
                go_region_held_law (fun _ => True) (first | trivial) (first
                  | (go_simp; go_at_call 115; refine Calls.mono (HIS.out _ (by omega) _) ?_; rintro e w2 ⟨rfl, rfl⟩)
                  | (go_simp; go_at_call 113; refine Calls.mono (HON.out _ (by omega) _) ?_; rintro e w2 ⟨rfl, hb2⟩))
                all_goals
                  have HB2 : Hid (Below wr.heap.size wr w2) := ((Below.refl _ _).drew).trans hb2
                  clear hb2
                  go_wp2_with fail
                  go_ret3
                  rw [HQ.out]
                  exact ⟨rfl, HB2.out⟩
            · have HQ : Hid (R = (q + c * 128 ^ k, p + (k + 1), 0)) := by show _ = _; rw [HRQ.out, if_neg (fun h => h.elim h0 hbig)]; rfl
              have hXY : oneP (q + c * 128 ^ k) = D.take (k + 1) := hby.2 h0
              rw [← hXY] at HST
              generalize hX : oneP (q + c * 128 ^ k) = X at *
              clear HRQ hby hXY hX
              have hk5 : k = 0 ∨ k = 1 ∨ k = 2 ∨ k = 3 ∨ k = 4 ∨ k = 5 := by omega
              rcases hk5 with rfl | rfl | rfl | rfl | rfl | rfl
              · have hP2 : P = 1 := by rw [hP]; rfl
                clear hP
                subst hP2
                have hq0 : q = 0 := by omega
                subst hq0
                have hat2 := hat (p : Int) (by omega)
                have hst2 := HST ((p : Int) + 1) (by omega)
                have hw1 : IntKind.i64.wrap (p : Int) = (p : Int) := by rw [IntKind.wrap_i64]; omega
                have hw2 : IntKind.i64.wrap ((p : Int) + 1) = (p : Int) + 1 := by rw [IntKind.wrap_i64]; omega
                clear hat HST
                go_wp2_with fail
                go_region_held_law (fun _ => True) (first | trivial) (first
                  | (go_simp; go_at_call 115; refine Calls.mono (HIS.out _ (by omega) _) ?_; rintro e w2 ⟨rfl, rfl⟩)
                  | (go_simp; go_at_call 113; refine Calls.mono (HON.out _ (by omega) _) ?_; rintro e w2 ⟨rfl, hb2⟩))
                all_goals
                  have HB2 : Hid (Below wr.heap.size wr w2) := ((Below.refl _ _).drew).trans hb2
                  clear hb2
                  go_wp2_with fail
                  go_ret3
                  rw [HQ.out]
                  exact ⟨ret_tri (by show _ = ((0 + c * 128 ^ 0 : Nat) : Int); omega) (by show _ = ((p + (0 + 1) : Nat) : Int); omega) rfl, HB2.out⟩
              · have hP2 : P = 128 := by rw [hP]; rfl
                clear hP
                subst hP2
                have hat2 := hat ((p : Int) + 1) (by omega)
                have hst2 := HST (((p : Int) + 1) + 1) (by omega)
                have hw1 : IntKind.i64.wrap ((p : Int) + 1) = ((p : Int) + 1) := by rw [IntKind.wrap_i64]; omega
                have hw2 : IntKind.i64.wrap (((p : Int) + 1) + 1) = ((p : Int) + 1) + 1 := by rw [IntKind.wrap_i64]; omega
                clear hat HST
                go_wp2_with fail
                go_region_held_law (fun _ => True) (first | trivial) (first
                  | (go_simp; go_at_call 115; refine Calls.mono (HIS.out _ (by omega) _) ?_; rintro e w2 ⟨rfl, rfl⟩)
                  | (go_simp; go_at_call 113; refine Calls.mono (HON.out _ (by omega) _) ?_; rintro e w2 ⟨rfl, hb2⟩))
                all_goals
                  have HB2 : Hid (Below wr.heap.size wr w2) := ((Below.refl _ _).drew).trans hb2
                  clear hb2
                  go_wp2_with fail
                  go_ret3
                  rw [HQ.out]
                  exact ⟨ret_tri (by show _ = ((q + c * 128 ^ 1 : Nat) : Int); omega) (by show _ = ((p + (1 + 1) : Nat) : Int); omega) rfl, HB2.out⟩
              · have hP2 : P = 16384 := by rw [hP]; rfl
                clear hP
                subst hP2
                have hat2 := hat ((p : Int) + 2) (by omega)
                have hst2 := HST (((p : Int) + 2) + 1) (by omega)
                have hw1 : IntKind.i64.wrap ((p : Int) + 2) = ((p : Int) + 2) := by rw [IntKind.wrap_i64]; omega
                have hw2 : IntKind.i64.wrap (((p : Int) + 2) + 1) = ((p : Int) + 2) + 1 := by rw [IntKind.wrap_i64]; omega
                clear hat HST
                go_wp2_with fail
                go_region_held_law (fun _ => True) (first | trivial) (first
                  | (go_simp; go_at_call 115; refine Calls.mono (HIS.out _ (by omega) _) ?_; rintro e w2 ⟨rfl, rfl⟩)
                  | (go_simp; go_at_call 113; refine Calls.mono (HON.out _ (by omega) _) ?_; rintro e w2 ⟨rfl, hb2⟩))
                all_goals
                  have HB2 : Hid (Below wr.heap.size wr w2) := ((Below.refl _ _).drew).trans hb2
                  clear hb2
                  go_wp2_with fail
                  go_ret3
                  rw [HQ.out]
                  exact ⟨ret_tri (by show _ = ((q + c * 128 ^ 2 : Nat) : Int); omega) (by show _ = ((p + (2 + 1) : Nat) : Int); omega) rfl, HB2.out⟩
              · have hP2 : P = 2097152 := by rw [hP]; rfl
                clear hP
                subst hP2
                have hat2 := hat ((p : Int) + 3) (by omega)
                have hst2 := HST (((p : Int) + 3) + 1) (by omega)
                have hw1 : IntKind.i64.wrap ((p : Int) + 3) = ((p : Int) + 3) := by rw [IntKind.wrap_i64]; omega
                have hw2 : IntKind.i64.wrap (((p : Int) + 3) + 1) = ((p : Int) + 3) + 1 := by rw [IntKind.wrap_i64]; omega
                clear hat HST
                go_wp2_with fail
                go_region_held_law (fun _ => True) (first | trivial) (first
                  | (go_simp; go_at_call 115; refine Calls.mono (HIS.out _ (by omega) _) ?_; rintro e w2 ⟨rfl, rfl⟩)
                  | (go_simp; go_at_call 113; refine Calls.mono (HON.out _ (by omega) _) ?_; rintro e w2 ⟨rfl, hb2⟩))
                all_goals
                  have HB2 : Hid (Below wr.heap.size wr w2) := ((Below.refl _ _).drew).trans hb2
                  clear hb2
                  go_wp2_with fail
                  go_ret3
                  rw [HQ.out]
                  exact ⟨ret_tri (by show _ = ((q + c * 128 ^ 3 : Nat) : Int); omega) (by show _ = ((p + (3 + 1) : Nat) : Int); omega) rfl, HB2.out⟩
              · have hP2 : P = 268435456 := by rw [hP]; rfl
                clear hP
                subst hP2
                have hat2 := hat ((p : Int) + 4) (by omega)
                have hst2 := HST (((p : Int) + 4) + 1) (by omega)
                have hw1 : IntKind.i64.wrap ((p : Int) + 4) = ((p : Int) + 4) := by rw [IntKind.wrap_i64]; omega
                have hw2 : IntKind.i64.wrap (((p : Int) + 4) + 1) = ((p : Int) + 4) + 1 := by rw [IntKind.wrap_i64]; omega
                clear hat HST
                go_wp2_with fail
                go_region_held_law (fun _ => True) (first | trivial) (first
                  | (go_simp; go_at_call 115; refine Calls.mono (HIS.out _ (by omega) _) ?_; rintro e w2 ⟨rfl, rfl⟩)
                  | (go_simp; go_at_call 113; refine Calls.mono (HON.out _ (by omega) _) ?_; rintro e w2 ⟨rfl, hb2⟩))
                all_goals
                  have HB2 : Hid (Below wr.heap.size wr w2) := ((Below.refl _ _).drew).trans hb2
                  clear hb2
                  go_wp2_with fail
                  go_ret3
                  rw [HQ.out]
                  exact ⟨ret_tri (by show _ = ((q + c * 128 ^ 4 : Nat) : Int); omega) (by show _ = ((p + (4 + 1) : Nat) : Int); omega) rfl, HB2.out⟩
              · have hP2 : P = 34359738368 := by rw [hP]; rfl
                clear hP
                subst hP2
                have hat2 := hat ((p : Int) + 5) (by omega)
                have hst2 := HST (((p : Int) + 5) + 1) (by omega)
                have hw1 : IntKind.i64.wrap ((p : Int) + 5) = ((p : Int) + 5) := by rw [IntKind.wrap_i64]; omega
                have hw2 : IntKind.i64.wrap (((p : Int) + 5) + 1) = ((p : Int) + 5) + 1 := by rw [IntKind.wrap_i64]; omega
                clear hat HST
                go_wp2_with fail
                go_region_held_law (fun _ => True) (first | trivial) (first
                  | (go_simp; go_at_call 115; refine Calls.mono (HIS.out _ (by omega) _) ?_; rintro e w2 ⟨rfl, rfl⟩)
                  | (go_simp; go_at_call 113; refine Calls.mono (HON.out _ (by omega) _) ?_; rintro e w2 ⟨rfl, hb2⟩))
                all_goals
                  have HB2 : Hid (Below wr.heap.size wr w2) := ((Below.refl _ _).drew).trans hb2
                  clear hb2
                  go_wp2_with fail
                  go_ret3
                  rw [HQ.out]
                  exact ⟨ret_tri (by show _ = ((q + c * 128 ^ 5 : Nat) : Int); omega) (by show _ = ((p + (5 + 1) : Nat) : Int); omega) rfl, HB2.out⟩
        · have HF2 : Hid (Fi D (k + 1) (q + (c - 128) * 128 ^ k)) := HF.out.next hlt HCC.out (by omega)
          clear HF HCC HRD HAt HMid
          have hk5 : k = 0 ∨ k = 1 ∨ k = 2 ∨ k = 3 ∨ k = 4 ∨ k = 5 := by omega
          rcases hk5 with rfl | rfl | rfl | rfl | rfl | rfl
          · have hP2 : P = 1 := by rw [hP]; rfl
            clear hP
            subst hP2
            have hq0 : q = 0 := by omega
            subst hq0
            have hat2 := hat (p : Int) (by omega)
            clear hat
            go_wp2_with fail
            go_roundw
            case rel => exact ⟨1, _, _, by omega, by omega, by go_num, by congr 1; omega, rfl, by omega, HF2, trivial⟩
            case measure => simp [intOf]
          · have hP2 : P = 128 := by rw [hP]; rfl
            clear hP
            subst hP2
            have hat2 := hat ((p : Int) + 1) (by omega)
            have hcm : (c : Int) % 128 = (c : Int) - 128 := by omega
            have hcm2 : (c : Int).tmod 128 = (c : Int) - 128 := by rw [Int.tmod_eq_emod_of_nonneg (by omega)]; exact hcm
            clear hat
            go_wp2_with fail
            go_roundw
            case rel => exact ⟨2, _, _, by omega, by omega, by go_num, by congr 1; omega, rfl, by omega, HF2, trivial⟩
            case measure => simp [intOf]
          · have hP2 : P = 16384 := by rw [hP]; rfl
            clear hP
            subst hP2
            have hat2 := hat ((p : Int) + 2) (by omega)
            have hcm : (c : Int) % 128 = (c : Int) - 128 := by omega
            have hcm2 : (c : Int).tmod 128 = (c : Int) - 128 := by rw [Int.tmod_eq_emod_of_nonneg (by omega)]; exact hcm
            clear hat
            go_wp2_with fail
            go_roundw
            case rel => exact ⟨3, _, _, by omega, by omega, by go_num, by congr 1; omega, rfl, by omega, HF2, trivial⟩
            case measure => simp [intOf]
          · have hP2 : P = 2097152 := by rw [hP]; rfl
            clear hP
            subst hP2
            have hat2 := hat ((p : Int) + 3) (by omega)
            have hcm : (c : Int) % 128 = (c : Int) - 128 := by omega
            have hcm2 : (c : Int).tmod 128 = (c : Int) - 128 := by rw [Int.tmod_eq_emod_of_nonneg (by omega)]; exact hcm
            clear hat
            go_wp2_with fail
            go_roundw
            case rel => exact ⟨4, _, _, by omega, by omega, by go_num, by congr 1; omega, rfl, by omega, HF2, trivial⟩
            case measure => simp [intOf]
          · have hP2 : P = 268435456 := by rw [hP]; rfl
            clear hP
            subst hP2
            have hat2 := hat ((p : Int) + 4) (by omega)
            have hcm : (c : Int) % 128 = (c : Int) - 128 := by omega
            have hcm2 : (c : Int).tmod 128 = (c : Int) - 128 := by rw [Int.tmod_eq_emod_of_nonneg (by omega)]; exact hcm
            clear hat
            go_wp2_with fail
            go_roundw
            case rel => exact ⟨5, _, _, by omega, by omega, by go_num, by congr 1; omega, rfl, by omega, HF2, trivial⟩
            case measure => simp [intOf]
          · have hP2 : P = 34359738368 := by rw [hP]; rfl
            clear hP
            subst hP2
            have hat2 := hat ((p : Int) + 5) (by omega)
            have hcm : (c : Int) % 128 = (c : Int) - 128 := by omega
            have hcm2 : (c : Int).tmod 128 = (c : Int) - 128 := by rw [Int.tmod_eq_emod_of_nonneg (by omega)]; exact hcm
            clear hat
            go_wp2_with fail
            go_roundw
            case rel => exact ⟨6, _, _, by omega, by omega, by go_num, by congr 1; omega, rfl, by omega, HF2, trivial⟩
            case measure => simp [intOf]
      · have HQ : Hid (R = (0, 0, 3)) := by show _ = _; rw [HRD.out, HF.out.short (by omega) (by omega)]; rfl
        have hkk : (p : Int) + k = l.length := by omega
        clear HRD HF hP
        go_wp2_with fail
        go_ret3
        rw [HQ.out]
        exact ⟨rfl, Below.refl _ _⟩
end Go.Proofs.YtijkgdbabikojaaGreat

