/- Texts of the seat, packed: Zl. -/
import Derived.Test.YtlegmmhacnbnlaaGreatDoorP12
import Derived.Test.YtlegmmhacnbnlaaGreatDoorP33
/- The program's leanings: the walk. -/
namespace Go.Proofs.YtlegmmhacnbnlaaGreatDoor

open Go.RowKit Go.Shelf Go.Proofs.YtlegmmhacnbnlaaGreatDoor.Sx

set_option linter.unusedSimpArgs false

theorem RdZ.of_own {w : World} {B : Nat} {v : Value} {l : List Nat} (h : w.ownsRow B 3 1 v l.length (Dg.ivs l)) : RdZ w v (l.map fun (x : Nat) => (x : Int)) := by
  obtain ⟨a, cap, rfl, hc, hr⟩ := Dg.RdI.of_own h
  refine ⟨a, cap, by simp, by simpa using hc, fun i x hi => ?_⟩
  rw [List.getElem?_map, Option.map_eq_some_iff] at hi
  obtain ⟨y, hy, rfl⟩ := hi
  obtain ⟨b, off, ha, c0⟩ := hr i y hy
  exact ⟨b, off, ha, c0⟩

theorem own_below {w w' : World} {B : Nat} {e : TypeId} {size : Nat} {v : Value} {n : Nat} {xs : List Value} (h : w.ownsRow B e size v n xs) (hbel : Below w.heap.size w w') : w'.ownsRow B e size v n xs := by
  obtain ⟨h1, h2⟩ := h
  refine ⟨h1, ?_⟩
  rcases h2 with h3 | ⟨g, cap, cur, h4, h5, h6, h7⟩
  · exact .inl h3
  · exact .inr ⟨g, cap, cur, h4, h5, (hbel.block g (Array.getElem?_eq_some_iff.1 h6).1).trans h6, h7⟩

/-- An operation that yields in every such world is taken first; its slot is named. -/
theorem takeD {P : Program} {ops : Array Oper} {Q : Exit → Act → World → Prop} {md : Region.Mode} {S : World → Prop} {i : Nat} {oi : Oper} {d : Tmp} {v : Value} {fuel : Nat} {listed : Array Bool} {a : Act} {w : World} (hi : ops[i]? = some oi) (hd : oi.dst = some d)
    (hs : Region.noSelect ops = true) (hf : Region.free md ops listed i = true) (hr : (Region.ready md ops listed).contains i = true)
    (hQ : ∀ c a w, Q (.panic c) { tmps := a.tmps.setIfInBounds d v, defers := a.defers } w → Q (.panic c) a w) (hy : YieldsIf P ops S oi v a) (hS : S w)
    (h : wpAnyH P md ops Q S fuel (listed.setIfInBounds i true) { tmps := a.tmps.setIfInBounds d v, defers := a.defers } w) : wpAnyH P md ops Q S (fuel + 1) listed a w := by
  have hp : ∀ a : Act, a.put oi.dst v = { tmps := a.tmps.setIfInBounds d v, defers := a.defers } := fun a => by rw [hd]; rfl
  refine wpAnyH_take hi hs hf hr (fun c a w h => hQ c a w (by rw [hp] at h; exact h)) hy hS ?_
  rw [hp]
  exact h

/-- takeD in short. -/
theorem tV {P : Program} {ops : Array Oper} {Q : Exit → Act → World → Prop} {md : Region.Mode} {S : World → Prop} {listed : Array Bool} {a : Act} {w : World} {oi : Oper} {ts : Array Value} (i : Nat) (d : Tmp) (v : Value) (fuel : Nat) (hi : ops[i]? = some oi) (hS : S w)
    (h : wpAnyH P md ops Q S fuel (listed.setIfInBounds i true) { tmps := ts, defers := a.defers } w) (hy : ∀ w, S w → (execOp a.eval oi).run P w = .ok (.value v) w)
    (hw : Region.wanted oi (yielded ops a.tmps) = true := by kernel_rfl) (hd : oi.dst = some d := by rfl) (hs : Region.noSelect ops = true := by kernel_rfl) (hf : Region.free md ops listed i = true := by kernel_rfl) (hr : (Region.ready md ops listed).contains i = true := by kernel_rfl)
    (hQ : ∀ c a w, Q (.panic c) { tmps := a.tmps.setIfInBounds d v, defers := a.defers } w → Q (.panic c) a w := by first | (intro _ _ _ h; cases h.1) | exact fun _ _ _ h => h)
    (ht : a.tmps.setIfInBounds d v = ts := by simp only [List.setIfInBounds_toArray, List.set_cons_succ, List.set_cons_zero] <;> rfl) : wpAnyH P md ops Q S (fuel + 1) listed a w := by
  subst ht
  exact takeD hi hd hs hf hr hQ (.inl ⟨hw, hy⟩) hS h

theorem tK {P : Program} {ops : Array Oper} {Q : Exit → Act → World → Prop} {md : Region.Mode} {S : World → Prop} {listed : Array Bool} {a : Act} {w : World} {oi : Oper} {ts : Array Value} (i : Nat) (d : Tmp) (v : Value) (fuel : Nat) (hi : ops[i]? = some oi) (hS : S w)
    (h : wpAnyH P md ops Q S fuel (listed.setIfInBounds i true) { tmps := ts, defers := a.defers } w) (hy : ∀ w, S w → (execOp a.eval oi).run P w = .ok (.value v) w := by intro _ _; kernel_rfl)
    (hw : Region.wanted oi (yielded ops a.tmps) = true := by kernel_rfl) (hd : oi.dst = some d := by rfl) (hs : Region.noSelect ops = true := by kernel_rfl) (hf : Region.free md ops listed i = true := by kernel_rfl) (hr : (Region.ready md ops listed).contains i = true := by kernel_rfl)
    (hQ : ∀ c a w, Q (.panic c) { tmps := a.tmps.setIfInBounds d v, defers := a.defers } w → Q (.panic c) a w := by first | (intro _ _ _ h; cases h.1) | exact fun _ _ _ h => h)
    (ht : a.tmps.setIfInBounds d v = ts := by simp only [List.setIfInBounds_toArray, List.set_cons_succ, List.set_cons_zero] <;> rfl) : wpAnyH P md ops Q S (fuel + 1) listed a w := by
  subst ht
  exact takeD hi hd hs hf hr hQ (.inl ⟨hw, hy⟩) hS h

theorem tG {P : Program} {ops : Array Oper} {Q : Exit → Act → World → Prop} {md : Region.Mode} {S : World → Prop} {listed : Array Bool} {a : Act} {w : World} {oi : Oper} {ts : Array Value} (i : Nat) (d : Tmp) (v : Value) (fuel : Nat) (hi : ops[i]? = some oi) (hS : S w)
    (h : wpAnyH P md ops Q S fuel (listed.setIfInBounds i true) { tmps := ts, defers := a.defers } w) (hy : ∀ w, S w → (execOp a.eval oi).run P w = .ok (.value v) w := by intro _ _; go_simp)
    (hw : Region.wanted oi (yielded ops a.tmps) = true := by kernel_rfl) (hd : oi.dst = some d := by rfl) (hs : Region.noSelect ops = true := by kernel_rfl) (hf : Region.free md ops listed i = true := by kernel_rfl) (hr : (Region.ready md ops listed).contains i = true := by kernel_rfl)
    (hQ : ∀ c a w, Q (.panic c) { tmps := a.tmps.setIfInBounds d v, defers := a.defers } w → Q (.panic c) a w := by first | (intro _ _ _ h; cases h.1) | exact fun _ _ _ h => h)
    (ht : a.tmps.setIfInBounds d v = ts := by simp only [List.setIfInBounds_toArray, List.set_cons_succ, List.set_cons_zero] <;> rfl) : wpAnyH P md ops Q S (fuel + 1) listed a w := by
  subst ht
  exact takeD hi hd hs hf hr hQ (.inl ⟨hw, hy⟩) hS h

theorem tU {P : Program} {ops : Array Oper} {Q : Exit → Act → World → Prop} {md : Region.Mode} {S : World → Prop} {listed : Array Bool} {a : Act} {w : World} {oi : Oper} {ts : Array Value} (i : Nat) (d : Tmp) (fuel : Nat) (hi : ops[i]? = some oi) (hS : S w)
    (h : wpAnyH P md ops Q S fuel (listed.setIfInBounds i true) { tmps := ts, defers := a.defers } w)
    (hw : Region.wanted oi (yielded ops a.tmps) = false := by kernel_rfl) (hd : oi.dst = some d := by rfl) (hs : Region.noSelect ops = true := by kernel_rfl) (hf : Region.free md ops listed i = true := by kernel_rfl) (hr : (Region.ready md ops listed).contains i = true := by kernel_rfl)
    (hQ : ∀ c a w, Q (.panic c) { tmps := a.tmps.setIfInBounds d undef, defers := a.defers } w → Q (.panic c) a w := by first | (intro _ _ _ h; cases h.1) | exact fun _ _ _ h => h)
    (ht : a.tmps.setIfInBounds d undef = ts := by simp only [List.setIfInBounds_toArray, List.set_cons_succ, List.set_cons_zero] <;> rfl) : wpAnyH P md ops Q S (fuel + 1) listed a w := by
  subst ht
  exact takeD hi hd hs hf hr hQ (.inr ⟨hw, rfl⟩) hS h

theorem wpOp_calls {P : Program} {ops : Array Oper} {Q : Exit → Act → World → Prop} {i : Nat} {K : Act → World → Prop} {a : Act} {w : World} {o : Oper} {d : Tmp} {f : FuncId} {args : Array Value} (hi : ops[i]? = some o) (hd : o.dst = some d) (hw : Region.wanted o (yielded ops a.tmps) = true)
    (hrun : (execOp a.eval o).run P w = .ok (.enter f args) w) (R : Ending → World → Prop) (h : Calls P f args w R) (hR : ∀ v w'', R (.returned v) w'' → K { tmps := a.tmps.setIfInBounds d v, defers := a.defers } w'') (hP : ∀ ch w'', R (.panicked ch) w'' → Q (.panic ch) a w'') (hO : ∀ w'', ¬ R .outgrown w'') : wpOp P ops Q i K a w := by
  have hp : ∀ v, a.put o.dst v = { tmps := a.tmps.setIfInBounds d v, defers := a.defers } := fun v => by rw [hd]; rfl
  unfold wpOp
  simp only [hi]
  rw [if_pos hw]
  refine .inl ?_
  unfold Oper.wp
  rw [hrun]
  exact h.mono fun e w'' he => by
    cases e with
    | returned v => show K (a.put o.dst v) w''; rw [hp]; exact hR v w'' he
    | panicked ch => exact hP ch w'' he
    | outgrown => exact absurd he (hO w'')

theorem lookup_yes {w : World} {ops : Array Oper} {rest : List Oper} {o : Oper} {a : Act} {Q : Exit → Act → World → Prop} (hg : o.guard = none) (m x : Operand) (hop : o.op = Op.lookup 154 m x true) (mb n : Nat) (D : DataW Unit)
    (hm : a.eval m = .map (some mb)) (hown : w.ownsMap Tryz.prog 9 (plainElem Tryz.prog 3) mb n D) (nm : By) (hx : a.eval x = .string ⟨nm.toArray⟩) (hl : nm.length ≤ 1100000) (on : Nat) (hh : Maps.has D (.string nm) = true) (hat : ∀ z, D.atKey (.string nm) z = .lit (.int .i64 (on : Int)))
    (hK : wpList Tryz.prog ops Q rest (a.put o.dst (.tuple #[.int .i64 (on : Int), .bool true])) w) : wpList Tryz.prog ops Q (o :: rest) a w := by
  refine wpList_lookup_own_ok_int w hg m x 154 hop 9 3 .i64 (Maps.string_keyed Tryz.underlying9) Tryz.underlying154 Tryz.underlying3 (zero3 _) mb n D hm hown _ (.string nm) hx (key_str nm hl) ?_
  intro c hc _
  rw [hat] at hc
  have : (on : Int) = c := by injection hc with h1; injection h1
  rw [← this, hh]
  exact hK

theorem lookup_no {w : World} {ops : Array Oper} {rest : List Oper} {o : Oper} {a : Act} {Q : Exit → Act → World → Prop} (hg : o.guard = none) (m x : Operand) (hop : o.op = Op.lookup 154 m x true) (mb n : Nat) (D : DataW Unit)
    (hm : a.eval m = .map (some mb)) (hown : w.ownsMap Tryz.prog 9 (plainElem Tryz.prog 3) mb n D) (nm : By) (hx : a.eval x = .string ⟨nm.toArray⟩) (hl : nm.length ≤ 1100000) (hh : Maps.has D (.string nm) = false)
    (hK : ∀ c : Int, wpList Tryz.prog ops Q rest (a.put o.dst (.tuple #[.int .i64 c, .bool false])) w) : wpList Tryz.prog ops Q (o :: rest) a w := by
  refine wpList_lookup_own_ok_int w hg m x 154 hop 9 3 .i64 (Maps.string_keyed Tryz.underlying9) Tryz.underlying154 Tryz.underlying3 (zero3 _) mb n D hm hown _ (.string nm) hx (key_str nm hl) ?_
  intro c _ _
  rw [hh]
  exact hK c

theorem own_map_later {w w' : World} {mb n : Nat} {D : DataW Unit} (h : w.ownsMap Tryz.prog 9 (plainElem Tryz.prog 3) mb n D) (hb : Below w.heap.size w w') : w'.ownsMap Tryz.prog 9 (plainElem Tryz.prog 3) mb n D :=
  h.kept (row := none) ⟨hb.os, hb.tape, hb.output, hb.size, fun k hk _ => hb.block k hk⟩ (by simp)

set_option maxRecDepth 1000000 in
set_option maxHeartbeats 4000000 in
theorem leanings_any (x : Pd) (its : List It) (iv : Value) (mb n n0 : Nat) (num : By → Option Nat) (w w0 : World) (hIt : RdIt w iv its) (hM : NumM w mb n num) (hnum : ∀ nm c, num nm = some c → c < its.length)
    (hS : SAt (· < n0) w0 x.lab.after x.sv x.sm) (hlow : ∀ b, b < n0 → w.heap[b]? = w0.heap[b]?) (hn0 : n0 ≤ w.heap.size) (hal : x.lab.after.length ≤ 1100000) (hsh : ∀ y ∈ x.lab.after, y.length ≤ 1100000) :
    Calls Tryz.prog 96 #[.agg #[.string ⟨x.lab.name.toArray⟩, .string ⟨x.lab.undo.toArray⟩, .slice x.sv x.sm x.sc, .bool x.lab.sub, .bool x.lab.vital, .slice x.av x.am x.ac, .int .i64 (x.inn : Int), .int .i64 (x.alt : Int)], iv, .map (some mb)] w fun e w' => LeanC its num x w e w' := by
  obtain ⟨ia, icap, rfl, hic, hir⟩ := hIt
  obtain ⟨D, hDm, hown, hD⟩ := hM
  obtain ⟨i0, hi0, hz0, hz1, hz2⟩ := info_parts Dg.Tryz.info3
  have HIR : Hid _ := hir
  have HD : Hid _ := hD
  have HOw : Hid _ := hown
  have HNum : Hid _ := hnum
  have HSS : Hid _ := hS
  have HLow : Hid _ := hlow
  have HSh : Hid _ := hsh
  obtain ⟨il, HIL⟩ : ∃ il, Hid (its.length = il) := ⟨_, rfl⟩
  rw [HIL.out] at hic ⊢
  have hsm : x.sm = x.lab.after.length := hS.1
  obtain ⟨sm, HSM⟩ : ∃ sm, Hid (x.sm = sm) := ⟨_, rfl⟩
  have HAL : Hid (x.lab.after.length = sm) := by show _ = _; rw [← hsm]; exact HSM.out
  rw [HSM.out]
  rw [HAL.out] at hal
  obtain ⟨W1, HW1⟩ : ∃ W1, W1 = w.alloc (.cells #[.string ⟨x.lab.name.toArray⟩, .string ⟨x.lab.undo.toArray⟩, .slice x.sv sm x.sc, .bool x.lab.sub, .bool x.lab.vital, .slice x.av x.am x.ac, .int .i64 (x.inn : Int), .int .i64 (x.alt : Int)] 159) := ⟨_, rfl⟩
  have nb := Dg.row_new w #[.string ⟨x.lab.name.toArray⟩, .string ⟨x.lab.undo.toArray⟩, .slice x.sv sm x.sc, .bool x.lab.sub, .bool x.lab.vital, .slice x.av x.am x.ac, .int .i64 (x.inn : Int), .int .i64 (x.alt : Int)] 159
  have hB1 : Below w.heap.size w W1 := by rw [HW1]; exact (Below.refl _ _).alloc (Nat.le_refl _) _
  have hz1' : w.heap.size < W1.heap.size := by rw [HW1]; simp
  rw [← HW1] at nb
  have c2 := (Dg.cell_row nb 2).trans rfl
  clear hir hD hown hnum hS hlow hsh hsm
  go_enter Tryz.func96, Tryz.ntmps96
  go_wp2_with fail
  rw [← HW1]
  clear HW1
  have HO0 : Hid (W1.ownsRow W1.heap.size 3 1 (.slice none 0 0) ([] : List Nat).length (Dg.ivs [])) := World.ownsRow_nil _ _ _ _
  obtain ⟨G, HG⟩ : ∃ G, Hid (leanP its num x.inn x.alt x.lab.after [] = G) := ⟨_, rfl⟩
  go_loopw [7, 16] (fun lv iv wr => ∃ (i : Nat) (acc : List Nat), i ≤ sm ∧ iv = .int .i64 i ∧ Hid (wr.ownsRow W1.heap.size 3 1 lv acc.length (Dg.ivs acc)) ∧ Hid (leanP its num x.inn x.alt (x.lab.after.drop i) acc = G) ∧ Hid (acc.length ≤ i) ∧ Hid (Below W1.heap.size W1 wr)) (fun _ iv _ => sm - (intOf iv).toNat)
  case atStart => exact ⟨0, [], Nat.zero_le _, rfl, HO0, HG.out, Nat.le_refl _, Below.refl _ _⟩
  case round =>
    obtain ⟨i, acc, hi, rfl, HO, HP, HAc, HB⟩ := hrel
    rename World => w2
    clear HO0
    have HBw : Hid (Below w.heap.size w w2) := hB1.trans (HB.out.mono (by omega))
    by_cases hlt : i < sm
    · obtain ⟨nm, hnm⟩ : ∃ nm, x.lab.after[i]? = some nm := ⟨_, List.getElem?_eq_getElem (by rw [HAL.out]; exact hlt)⟩
      obtain ⟨b, off, hsv, hpb, hcb⟩ := HSS.out.2 i nm hnm
      have d0 : w2.cell? ⟨b, off + i, none⟩ = some (.string ⟨nm.toArray⟩) := (World.cell?_of_block (a := ⟨b, off + i, none⟩) ((HBw.out.block b (by omega)).trans (HLow.out b hpb))).trans hcb
      have hnl := HSh.out nm (List.mem_of_getElem? hnm)
      have HOw2 : Hid _ := own_map_later HOw.out HBw.out
      have hdr : x.lab.after.drop i = nm :: x.lab.after.drop (i + 1) := by
        rw [List.drop_eq_getElem_cons (by rw [HAL.out]; exact hlt)]
        congr 1
        exact (List.getElem?_eq_some_iff.1 hnm).2
      rw [hdr] at HP
      have hii : (i : Int) < (sm : Int) := by omega
      obtain ⟨hh, hat⟩ := HD.out nm
      cases hq : num nm with
      | none =>
        rw [hq] at hh
        have HGN : Hid (G = none) := by show _ = _; rw [← HP.out]; simp [leanP, hq]
        rw [hsv]
        clear hat hcb hdr hnm hsv
        go_wp2_with (at_lookup; refine lookup_no rfl _ _ rfl mb n D rfl HOw2.out nm rfl hnl hh ?_; intro c)
        have HPan : Hid (∀ w', Below w.heap.size w w' → LeanC its num x w (.panicked (rej 11)) w') := by
          show ∀ w', _
          intro w' hb
          unfold LeanC
          rw [HG.out, HGN.out]
          exact ⟨hb, rfl⟩
        have HS0 : Hid (Below w.heap.size w w2.drew) := Dg.bl_drawn1 HBw.out
        refine wp_region_held (S := fun w' => Below w.heap.size w w') (by kernel_rfl) ?_
        simp only [List.size_toArray, List.length_cons, List.length_nil, Nat.reduceAdd, Array.replicate_succ, Array.replicate_zero, List.push_toArray, List.nil_append, List.cons_append]
        refine takeD (i := 0) (d := 26) (fuel := 17) rfl rfl (by kernel_rfl) (by kernel_rfl) (by kernel_rfl) (fun _ _ _ h => h) (.inl ⟨rfl, fun _ _ => rfl⟩) HS0.out ?_
        simp only [List.setIfInBounds_toArray, List.set_cons_succ, List.set_cons_zero]
        refine takeD (i := 1) (d := 27) (fuel := 16) rfl rfl (by kernel_rfl) (by kernel_rfl) (by kernel_rfl) (fun _ _ _ h => h) (.inl ⟨rfl, fun _ _ => rfl⟩) HS0.out ?_
        simp only [List.setIfInBounds_toArray, List.set_cons_succ, List.set_cons_zero]
        refine tU 2 28 15 rfl HS0.out ?_
        refine tU 3 29 14 rfl HS0.out ?_
        refine tU 4 30 13 rfl HS0.out ?_
        refine tU 5 31 12 rfl HS0.out ?_
        refine tU 6 32 11 rfl HS0.out ?_
        refine tU 7 33 10 rfl HS0.out ?_
        refine tU 8 34 9 rfl HS0.out ?_
        refine tU 9 35 8 rfl HS0.out ?_
        refine tK 10 36 (.bool false) 7 rfl HS0.out ?_
        refine tK 11 37 (.bool false) 6 rfl HS0.out ?_
        refine tU 12 38 5 rfl HS0.out ?_
        refine tU 13 39 4 rfl HS0.out ?_
        refine tU 14 40 3 rfl HS0.out ?_
        refine tU 15 41 2 rfl HS0.out ?_
        refine tK 16 42 (.bool false) 1 rfl HS0.out ?_
        refine wpAnyH_all (fuel := 0) (rs := [17]) (by kernel_rfl) (by decide) ?_
        refine List.forall_mem_singleton.2 ?_
        refine wpOp_calls (i := 17) (d := 43) rfl rfl (by kernel_rfl) (f := 82) (args := #[.bool false, .int .i64 11]) (by kernel_rfl) (fun e w' => e = .panicked (rej 11) ∧ w' = w2.drew) (must_no 11 _) ?_ ?_ ?_
        · rintro v w'' ⟨h1, _⟩
          cases h1
        · rintro ch w'' ⟨h1, rfl⟩
          cases h1
          exact ⟨rfl, HPan.out _ HS0.out⟩
        · rintro w'' ⟨h1, _⟩
          cases h1
      | some on =>
        rw [hq] at hh
        have hat' := hat on hq
        have hol : on < il := by have := HNum.out nm on hq; rw [HIL.out] at this; exact this
        obtain ⟨y, hy⟩ : ∃ y, its[on]? = some y := ⟨_, List.getElem?_eq_getElem (by rw [HIL.out]; exact hol)⟩
        obtain ⟨b1, off1, yav, yam, yac, hia, k0, k1, k2, k3, k4, k5, k6, k7, _⟩ := HIR.out on y hy
        have j0 := Dg.cell_later HBw.out k0
        have j1 := Dg.cell_later HBw.out k1
        have j2 := Dg.cell_later HBw.out k2
        have j3 := Dg.cell_later HBw.out k3
        have j4 := Dg.cell_later HBw.out k4
        have j5 := Dg.cell_later HBw.out k5
        have j6 := Dg.cell_later HBw.out k6
        have j7 := Dg.cell_later HBw.out k7
        have nb2 := (HB.out.block _ hz1').trans nb
        have e6 := (Dg.cell_row nb2 6).trans rfl
        have e7 := (Dg.cell_row nb2 7).trans rfl
        have HRZ : Hid (RdZ w2 u7 (acc.map fun (z : Nat) => (z : Int))) := RdZ.of_own HO.out
        have hLe : leanP its num x.inn x.alt (nm :: x.lab.after.drop (i + 1)) acc = if y.inn = x.inn ∧ y.alt = x.alt ∧ on ∉ acc then leanP its num x.inn x.alt (x.lab.after.drop (i + 1)) (acc ++ [on]) else none := by
          simp only [leanP, hq, hy]
        rw [hLe] at HP
        rw [hsv, hia]
        clear hat hcb hdr hnm hsv k0 k1 k2 k3 k4 k5 k6 k7 hLe
        go_wp2_with (at_lookup; refine lookup_yes rfl _ _ rfl mb n D rfl HOw2.out nm rfl hnl on hh hat' ?_)
        have hS2 : Below w2.heap.size w2 { w2 with drawn := w2.drawn + 1 } := Dg.bl_drawn1 (Below.refl _ _)
        refine wp_region_held (S := fun w' => Below w2.heap.size w2 w') (by kernel_rfl) ?_
        simp only [List.size_toArray, List.length_cons, List.length_nil, Nat.reduceAdd, Array.replicate_succ, Array.replicate_zero, List.push_toArray, List.nil_append, List.cons_append]
        refine tK 0 26 (.bool true) 17 rfl hS2 ?_
        refine tK 1 27 (.bool true) 16 rfl hS2 ?_
        refine tK 2 28 (.slice (some ⟨b1, off1, none⟩) il icap) 15 rfl hS2 ?_
        refine tK 3 29 (.int .i64 (on : Int)) 14 rfl hS2 ?_
        refine tV 4 30 (.pointer (some ⟨b1, off1 + on * 8, none⟩)) 13 rfl hS2 ?_ (fun w3 _ => by go_simp)
        refine tV 5 31 (.agg #[.string ⟨y.name.toArray⟩, .string ⟨y.undo.toArray⟩, .bool y.sub, .bool y.vital, .int .i64 y.alts, .int .i64 y.inn, .int .i64 y.alt, .slice yav yam yac]) 12 rfl hS2 ?_ (fun w3 hw3 => by have z0 := Dg.cell_later hw3 j0; have z1 := Dg.cell_later hw3 j1; have z2 := Dg.cell_later hw3 j2; have z3 := Dg.cell_later hw3 j3; have z4 := Dg.cell_later hw3 j4; have z5 := Dg.cell_later hw3 j5; have z6 := Dg.cell_later hw3 j6; have z7 := Dg.cell_later hw3 j7; go_simp)
        refine tG 7 33 (.pointer (some ⟨w.heap.size, 6, none⟩)) 11 rfl hS2 ?_
        refine tV 8 34 (.agg #[.int .i64 (x.inn : Int), .int .i64 (x.alt : Int)]) 10 rfl hS2 ?_ (fun w3 hw3 => by have z0 := Dg.cell_later hw3 e6; have z1 := Dg.cell_later hw3 e7; go_simp)
        refine wpAnyH_all (fuel := 9) (rs := [6]) (by kernel_rfl) (by decide) ?_
        refine List.forall_mem_singleton.2 ?_
        refine wpOp_calls (i := 6) (d := 32) rfl rfl (by kernel_rfl) (f := 29) (args := #[.agg #[.string ⟨y.name.toArray⟩, .string ⟨y.undo.toArray⟩, .bool y.sub, .bool y.vital, .int .i64 y.alts, .int .i64 y.inn, .int .i64 y.alt, .slice yav yam yac]]) (by kernel_rfl) _ (spotOf_any y yav yam yac _) ?_ (fun _ _ h => by cases h.1) (fun _ h => by cases h.1)
        rintro v6 w6 ⟨h6, hb6⟩
        cases h6
        have hS6 : Below w2.heap.size w2 w6 := hS2.trans (hb6.mono (Nat.le_refl _))
        clear hb6
        refine ⟨hS6, ?_⟩
        simp only [List.setIfInBounds_toArray, List.set_cons_succ, List.set_cons_zero]
        by_cases hsp : y.inn = (x.inn : Int) ∧ y.alt = (x.alt : Int)
        · have hp1 := hsp.1
          have hp2 := hsp.2
          refine tG 9 35 (.bool true) 8 rfl hS6 ?_
          refine tK 10 36 (.bool true) 7 rfl hS6 ?_
          refine tK 11 37 (.bool true) 6 rfl hS6 ?_
          refine tK 12 38 u7 5 rfl hS6 ?_
          refine tK 13 39 (.int .i64 (on : Int)) 4 rfl hS6 ?_
          refine wpAnyH_all (fuel := 3) (rs := [14]) (by kernel_rfl) (by decide) ?_
          refine List.forall_mem_singleton.2 ?_
          have hal2 : (acc.map fun (z : Nat) => (z : Int)).length ≤ 1000000000 := by have h1 := HAc.out; rw [List.length_map]; omega
          refine wpOp_calls (i := 14) (d := 40) rfl rfl (by kernel_rfl) (f := 37) (args := #[u7, .int .i64 (on : Int)]) (by kernel_rfl) _ (Contains_any u7 _ (on : Int) _ (HRZ.out.later hS6) hal2) ?_ (fun _ _ h => by cases h.1) (fun _ h => by cases h.1)
          rintro v8 w8 ⟨h8, rfl⟩
          cases h8
          refine ⟨hS6, ?_⟩
          simp only [List.setIfInBounds_toArray, List.set_cons_succ, List.set_cons_zero]
          by_cases hin : on ∈ acc
          · rw [decide_eq_true (show (on : Int) ∈ acc.map fun (z : Nat) => (z : Int) from List.mem_map.2 ⟨on, hin, rfl⟩)]
            have HPan : Hid (∀ w', Below w.heap.size w w' → LeanC its num x w (.panicked (rej 11)) w') := by
              show ∀ w', _
              intro w' hb
              unfold LeanC
              rw [HG.out, ← HP.out, if_neg (fun h => h.2.2 hin)]
              exact ⟨hb, rfl⟩
            refine tK 15 41 (.bool false) 2 rfl hS6 ?_
            refine tK 16 42 (.bool false) 1 rfl hS6 ?_
            refine wpAnyH_all (fuel := 0) (rs := [17]) (by kernel_rfl) (by decide) ?_
            refine List.forall_mem_singleton.2 ?_
            refine wpOp_calls (i := 17) (d := 43) rfl rfl (by kernel_rfl) (f := 82) (args := #[.bool false, .int .i64 11]) (by kernel_rfl) _ (must_no 11 _) (fun _ _ h => by cases h.1) ?_ (fun _ h => by cases h.1)
            rintro ch w'' ⟨h1, rfl⟩
            cases h1
            exact ⟨rfl, HPan.out _ (HBw.out.trans (hS6.mono HBw.out.size))⟩
          · rw [decide_eq_false (show ¬ (on : Int) ∈ acc.map fun (z : Nat) => (z : Int) from fun h => by obtain ⟨z, hz, he⟩ := List.mem_map.1 h; exact hin ((show z = on by omega) ▸ hz))]
            refine tK 15 41 (.bool true) 2 rfl hS6 ?_
            refine tK 16 42 (.bool true) 1 rfl hS6 ?_
            refine wpAnyH_all (fuel := 0) (rs := [17]) (by kernel_rfl) (by decide) ?_
            refine List.forall_mem_singleton.2 ?_
            refine wpOp_calls (i := 17) (d := 43) rfl rfl (by kernel_rfl) (f := 82) (args := #[.bool true, .int .i64 11]) (by kernel_rfl) _ (must_yes 11 _) ?_ (fun _ _ h => by cases h.1) (fun _ h => by cases h.1)
            rintro v9 w9 ⟨h9, rfl⟩
            cases h9
            refine ⟨hS6, by kernel_rfl, ?_⟩
            simp only [List.setIfInBounds_toArray, List.set_cons_succ, List.set_cons_zero]
            have HS6 : Hid _ := hS6
            have ho := own_below HO.out hS6
            have hz6 := Nat.le_trans HB.out.size hS6.size
            have HB6 : Hid (Below W1.heap.size W1 w9) := HB.out.trans (hS6.mono HB.out.size)
            have hac := HAc.out
            have HPn : Hid (leanP its num x.inn x.alt (x.lab.after.drop (i + 1)) (acc ++ [on]) = G) := by show _ = _; rw [← HP.out, if_pos ⟨hsp.1, hsp.2, hin⟩]
            clear hS6 hp1 hp2 hh hat' j0 j1 j2 j3 j4 j5 j6 j7 e6 e7 d0 hS2 HRZ
            go_wp2_with (at_builtin; refine wpList_append_own_at _ rfl _ _ 32 rfl W1.heap.size 3 i0 _ 1 8 Tryz.underlying32 hi0 hz0 hz1 hz2 rfl (by decide) _ acc.length (Dg.ivs acc) rfl (ho.alloc _) ⟨w9.heap.size, 0, none⟩ 1 1 [.int .i64 (on : Int)] rfl rfl (Dg.new_cells w9 [.int .i64 (on : Int)] 3) (by simp [Value.oneCell']) (by unfold maxLen; omega) (by omega) (by simp; omega) ?_; intro v7 w7 ho7 hg7 _ hat7; obtain ⟨g7, cap7, rfl⟩ := Dg.ownsRow_succ' ho7)
            have HB7 : Hid (Below W1.heap.size W1 w7) := Below.grown (HB6.out.alloc hz6 _) hg7 (by simp; omega) (fun j hj => (ho.lt _ hj).1)
            have HO7 : Hid (w7.ownsRow W1.heap.size 3 1 (.slice (some ⟨g7, 0, none⟩) (acc.length + 1) cap7) (acc ++ [on]).length (Dg.ivs (acc ++ [on]))) := by
              show World.ownsRow _ _ _ _ _ _ _
              rw [Dg.ivs_snoc, List.length_append]
              exact ho7
            have HAn : Hid ((acc ++ [on]).length ≤ i + 1) := by show _ ≤ _; rw [List.length_append]; simp; omega
            clear ho hg7 hat7 ho7 HB HO
            go_wp2_with fail
            go_roundw
            case rel => exact ⟨i + 1, acc ++ [on], by omega, by go_num, HO7, HPn, HAn, HB7⟩
            case measure => simp [intOf]; omega
        · have HPan : Hid (∀ w', Below w.heap.size w w' → LeanC its num x w (.panicked (rej 11)) w') := by
            show ∀ w', _
            intro w' hb
            unfold LeanC
            rw [HG.out, ← HP.out, if_neg (fun h => hsp ⟨h.1, h.2.1⟩)]
            exact ⟨hb, rfl⟩
          refine tV 9 35 (.bool false) 8 rfl hS6 ?_ (fun _ _ => by go_simp; exact fun h1 h2 => hsp ⟨h1, h2⟩)
          refine tK 10 36 (.bool false) 7 rfl hS6 ?_
          refine tK 11 37 (.bool false) 6 rfl hS6 ?_
          refine tU 12 38 5 rfl hS6 ?_
          refine tU 13 39 4 rfl hS6 ?_
          refine tU 14 40 3 rfl hS6 ?_
          refine tU 15 41 2 rfl hS6 ?_
          refine tK 16 42 (.bool false) 1 rfl hS6 ?_
          refine wpAnyH_all (fuel := 0) (rs := [17]) (by kernel_rfl) (by decide) ?_
          refine List.forall_mem_singleton.2 ?_
          refine wpOp_calls (i := 17) (d := 43) rfl rfl (by kernel_rfl) (f := 82) (args := #[.bool false, .int .i64 11]) (by kernel_rfl) _ (must_no 11 _) (fun _ _ h => by cases h.1) ?_ (fun _ h => by cases h.1)
          rintro ch w'' ⟨h1, rfl⟩
          cases h1
          exact ⟨rfl, HPan.out _ (HBw.out.trans (hS6.mono HBw.out.size))⟩
    · have him : i = sm := by omega
      subst him
      have HGs : Hid (G = some acc) := by
        show _ = _
        have h9 := HP.out
        rw [List.drop_eq_nil_of_le (by rw [HAL.out]; exact Nat.le_refl _)] at h9
        rw [← h9]
        rfl
      have HLC : Hid (LeanC its num x w (.returned u7) w2) := by
        show LeanC _ _ _ _ _ _
        unfold LeanC
        rw [HG.out, HGs.out]
        exact ⟨HBw.out, u7, rfl, Dg.own_mono (by omega) HO.out⟩
      go_wp2_with fail
      go_ret
      exact HLC.out

end Go.Proofs.YtlegmmhacnbnlaaGreatDoor

