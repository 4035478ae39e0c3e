/- Texts of the seat, packed: Zv. -/
import Derived.Test.YtlegmmhacnbnlaaGreatDoorP38
/- The program's planOf. -/
namespace Go.Proofs.YtlegmmhacnbnlaaGreatDoor

open Go.RowKit Go.Shelf Go.Proofs.YtlegmmhacnbnlaaGreatDoor.Sx

attribute [local go_sem] Oper.semAt_some

/-- What planOf knows in its first loop, once k nodes are numbered. -/
def Pl1 (w : World) (x : By) (am : Nat) (sc : Array Value) (xs : List Pd) (g0 k : Nat) (A : World) (TA : Nat → Prop) : Prop :=
  Lo w A TA ∧ (∀ j, j < k → goodAt xs j = true) ∧ ∃ (G : Nat → Prop) (iv : Value), Apart w.heap.size G TA A ∧ G (w.heap.size + 1) ∧ A.heap[w.heap.size + 1]? = some (.cells #[.slice none 0 0] 24 (0, 0)) ∧
    PSt G w.heap.size A w.heap.size (g0 + 1) (g0 + 3) (g0 + 2) k sc iv (its1 x am xs k) (List.replicate (its1 x am xs k).length (.slice none 0 0)) (numF (xs.take k))

theorem Pl1.mv {w : World} {x : By} {am : Nat} {sc : Array Value} {xs : List Pd} {g0 k : Nat} {A B : World} {TA TB : Nat → Prop} (h : Pl1 w x am sc xs g0 k A TA) (m : Mv TA A TB B) : Pl1 w x am sc xs g0 k B TB := by
  obtain ⟨h1, h2, G, iv, h3, h4, h5, h6⟩ := h
  exact ⟨h1.mv m, h2, G, iv, h3.mv m, h4, (h3.agree m _ h4).trans h5, h6.mv h3 m⟩

theorem inf43 : (Tryz.prog.info? 34).map (fun i => (i.zero, i.size, i.bytes)) = some (some (.agg #[.string ⟨#[]⟩, .string ⟨#[]⟩, .bool false, .bool false, .int .i64 0, .int .i64 0, .int .i64 0, .slice none 0 0]), 8, 88) := by kernel_rfl

theorem its1_after {x : By} {am : Nat} {xs : List Pd} {k i : Nat} {y : It} (h : (its1 x am xs k)[i]? = some y) : y.after = [] := by
  unfold its1 at h
  cases i with
  | zero => simp at h; rw [← h]; rfl
  | succ i =>
    simp only [List.getElem?_cons_succ, List.getElem?_map, Option.map_eq_some_iff] at h
    obtain ⟨p, _, rfl⟩ := h
    rfl

/-- Items that can be read, as long as no block from base on that is there now is turned. -/
def Stands (base : Nat) (w : World) (v : Value) (its : List It) : Prop := ∀ A : World, (∀ b, base ≤ b → b < w.heap.size → A.heap[b]? = w.heap[b]?) → RdIt A v its

theorem Stands.rd {base : Nat} {w : World} {v : Value} {its : List It} (h : Stands base w v its) : RdIt w v its := h w fun _ _ _ => rfl

theorem Stands.next {base : Nat} {w w' : World} {v : Value} {its : List It} (h : Stands base w v its) (hz : w.heap.size ≤ w'.heap.size) (hs : ∀ b, base ≤ b → b < w.heap.size → w'.heap[b]? = w.heap[b]?) : Stands base w' v its :=
  fun A hA => h A fun b h1 h2 => (hA b h1 (by omega)).trans (hs b h1 h2)

theorem PSt.box {G : Nat → Prop} {base : Nat} {A : World} {bs bi bm mb n : Nat} {sc : Array Value} {iv : Value} {its : List It} {aft : List Value} {num : By → Option Nat} (h : PSt G base A bs bi bm mb n sc iv its aft num) {rb : Nat} (hrb : A.heap[rb]? = some (.cells #[.slice none 0 0] 24 (0, 0)))
    (h1 : rb ≠ bs) (h2 : rb ≠ bi) (h3 : rb ≠ bm) (h4 : rb ≠ mb) (u : Value) : PSt G base (A.setCell ⟨rb, 0, none⟩ u) bs bi bm mb n sc iv its aft num := by
  have ha : Agree (fun b => G b ∧ b ≠ rb) A (A.setCell ⟨rb, 0, none⟩ u) := fun b hb => Below.heap_setCell A _ u b hb.2
  exact ⟨(ha _ ⟨h.gs, h1.symm⟩).trans h.hbs, (ha _ ⟨h.gi, h2.symm⟩).trans h.hbi, (ha _ ⟨h.gm, h3.symm⟩).trans h.hbm, h.gs, h.gi, h.gm, h.gb, h.ne,
    own_agree ha h.own (fun b hb => ⟨(h.gv b hb).1, fun e => own_other h.own hrb (by decide) (by rw [← e]; exact hb.symm)⟩), h.gv, h.len,
    fun i x v hx hv => (h.rd i x v hx hv).set ((Dg.cell_row hrb 0).trans rfl) (fun z e => by cases e) u, num_agree ha h.nums ⟨h.gb, h4.symm⟩⟩

theorem weave_bad {n : Int} {l : List (Int × Int)} {c : Int} (h : Dg.weaveP n l = .bad c) : c ≠ 0 := by
  unfold Dg.weaveP at h
  split at h
  · cases h; decide
  · split at h
    · cases h; decide
    · cases h

set_option maxRecDepth 1000000 in
set_option maxHeartbeats 4000000 in
theorem planOf_in (w : World) (x : By) (t : Tr) (a : Option Addr) (am ac : Nat) (ht : TAt (· < w.heap.size) w true t a 0 am) (hb : Bnd t) (hsz : szA t ≤ 1000000000) (hcn : cntA t ≤ 1000000000) (xs : List Pd) (hX : XAt (· < w.heap.size) w true t a 0 am 0 0 0 xs) (hnm : ∀ y ∈ xs, y.lab.name.length ≤ 1100000) (R : Ending → World → Prop) (hT : Dg.Tab w)
    (haf : ∀ y ∈ xs, y.lab.after.length ≤ 1100000 ∧ ∀ z ∈ y.lab.after, z.length ≤ 1100000)
    (hpan : ∀ w', Below w.heap.size w w' → planP x t am xs = none → R (.panicked (rej 11)) w')
    (hret : ∀ w' v its, Below w.heap.size w w' → planP x t am xs = some its → Stands w.heap.size w' v its → R (.returned (.agg #[v])) w') :
    CallsIn Fence.wide 0 Tryz.prog 90 #[.agg #[.string ⟨x.toArray⟩, .slice a am ac]] w R := by
  have HP : Hid _ := hpan
  have HRet : Hid _ := hret
  have HAF : Hid _ := haf
  have HTb : Hid _ := hT
  clear hpan hret haf hT
  have hbl0 : Below w.heap.size w ((w.alloc (.cells #[.string ⟨x.toArray⟩, .slice a am ac] 94)).alloc (.cells #[.slice none 0 0] 24)) := ((Below.refl _ w).alloc (Nat.le_refl _) _).alloc (by simp) _
  have nb := Dg.row_alloc (Dg.row_new w #[.string ⟨x.toArray⟩, .slice a am ac] 94) (.cells #[.slice none 0 0] 24)
  have nr := Dg.row_new (w.alloc (.cells #[.string ⟨x.toArray⟩, .slice a am ac] 94)) #[.slice none 0 0] 24
  rw [World.size_alloc] at nr
  refine callsE Tryz.func90 rfl ?_
  simp only [Tryz.ntmps90, List.size_toArray, List.length_cons, List.length_nil, Nat.reduceAdd, Nat.reduceSub, Array.replicate_succ, Array.replicate_zero, List.push_toArray, List.append_toArray, List.nil_append, List.cons_append]
  refine wpE_seq_wp fun K hK => ?_
  go_wp2_with fail
  generalize (w.alloc (.cells #[.string ⟨x.toArray⟩, .slice a am ac] 94)).alloc (.cells #[.slice none 0 0] 24) = w1 at *
  have hz1 : w.heap.size + 1 < w1.heap.size := (Array.getElem?_eq_some_iff.1 nr).1
  -- mustFit
  have c0 := (Dg.cell_row nb 0).trans rfl
  have c1 := (Dg.cell_row nb 1).trans rfl
  have M1 : Hid _ := callsIn_wide.1 (mustFit_in w1 x t a am ac (TAt.later ht hbl0) hb hsz hcn)
  refine wpE_seq_wp fun K hK => ?_
  go_wp2_with fail
  refine Calls.mono M1.out ?_
  rintro e w2 ⟨he, hb2⟩
  clear M1 c0 c1
  have hbl2 := hbl0.trans (hb2.mono hbl0.size)
  have nb2 := (hb2.block _ (by omega)).trans nb
  have nr2 := (hb2.block _ (by omega)).trans nr
  have hz2 := Nat.lt_of_lt_of_le hz1 hb2.size
  clear hbl0 nb nr hz1 hb2
  cases hft : fitS x t with
  | false =>
    rw [hft] at he
    obtain rfl : e = .panicked (rej 11) := he
    go_wp2_with fail
    exact HP.out w2 hbl2 (by unfold planP; rw [if_neg (fun h => by rw [hft] at h; cases h.1)])
  | true =>
    rw [hft] at he
    obtain rfl : e = .returned (.tuple #[]) := he
    have HFT : Hid _ := hft
    clear hft
    go_wp2_with fail
    have c0 := (Dg.cell_row nb2 0).trans rfl
    have c1 := (Dg.cell_row nb2 1).trans rfl
    refine wpE_seq_wp fun K hK => ?_
    go_wp2_with fail
    clear c0 c1
    have e1 : Below w.heap.size w (w2.alloc (.cells #[.string ⟨x.toArray⟩, .string ⟨#[]⟩, .bool true, .bool true, .int .i64 (am : Int), .int .i64 (-1), .int .i64 0, .slice none 0 0] 34)) := hbl2.alloc (by omega) _
    have k1 := Dg.row_new w2 #[.string ⟨x.toArray⟩, .string ⟨#[]⟩, .bool true, .bool true, .int .i64 (am : Int), .int .i64 (-1), .int .i64 0, .slice none 0 0] 34
    have nb3 := Dg.row_alloc nb2 (.cells #[.string ⟨x.toArray⟩, .string ⟨#[]⟩, .bool true, .bool true, .int .i64 (am : Int), .int .i64 (-1), .int .i64 0, .slice none 0 0] 34)
    have nr3 := Dg.row_alloc nr2 (.cells #[.string ⟨x.toArray⟩, .string ⟨#[]⟩, .bool true, .bool true, .int .i64 (am : Int), .int .i64 (-1), .int .i64 0, .slice none 0 0] 34)
    have e2 := e1.alloc (by simp; omega) (.cells #[.slice (some ⟨w2.heap.size, 0, none⟩) 1 1] 22)
    have k2 := Dg.row_alloc k1 (.cells #[.slice (some ⟨w2.heap.size, 0, none⟩) 1 1] 22)
    have nb4 := Dg.row_alloc nb3 (.cells #[.slice (some ⟨w2.heap.size, 0, none⟩) 1 1] 22)
    have nr4 := Dg.row_alloc nr3 (.cells #[.slice (some ⟨w2.heap.size, 0, none⟩) 1 1] 22)
    have kb := Dg.row_new (w2.alloc (.cells #[.string ⟨x.toArray⟩, .string ⟨#[]⟩, .bool true, .bool true, .int .i64 (am : Int), .int .i64 (-1), .int .i64 0, .slice none 0 0] 34)) #[.slice (some ⟨w2.heap.size, 0, none⟩) 1 1] 22
    rw [World.size_alloc] at kb
    have hz4 : ((w2.alloc (.cells #[.string ⟨x.toArray⟩, .string ⟨#[]⟩, .bool true, .bool true, .int .i64 (am : Int), .int .i64 (-1), .int .i64 0, .slice none 0 0] 34)).alloc (.cells #[.slice (some ⟨w2.heap.size, 0, none⟩) 1 1] 22)).heap.size = w2.heap.size + 2 := by simp
    clear e1 k1 nb3 nr3 nb2 nr2 hbl2
    obtain ⟨g0, hg0⟩ : ∃ g0, w2.heap.size = g0 := ⟨_, rfl⟩
    rw [hg0] at hz4 kb k2 nr4 nb4 e2 hz2 ⊢
    generalize (w2.alloc (.cells #[.string ⟨x.toArray⟩, .string ⟨#[]⟩, .bool true, .bool true, .int .i64 (am : Int), .int .i64 (-1), .int .i64 0, .slice none 0 0] 34)).alloc (.cells #[.slice (some ⟨g0, 0, none⟩) 1 1] 22) = w3 at *
    have hMk : ∀ W : World, (Instr.makeMap 154 none).run Tryz.prog W = .ok (.map (some W.heap.size)) (W.alloc (.map #[] 0)) := fun W => by kernel_rfl
    refine wpE_seq_wp fun K hK => ?_
    go_wp2_with fail
    clear hMk
    have hz5 : ((w3.alloc (.map #[] 0)).alloc (.cells #[.map (some (g0 + 2))] 154)).heap.size = g0 + 4 := by simp [hz4]
    have e4 : Below w.heap.size w ((w3.alloc (.map #[] 0)).alloc (.cells #[.map (some (g0 + 2))] 154)) := (e2.alloc (by omega) _).alloc (by simp; omega) _
    have km := Dg.row_new (w3.alloc (.map #[] 0)) #[.map (some (g0 + 2))] 154
    rw [World.size_alloc, hz4] at km
    have km2 : ((w3.alloc (.map #[] 0)).alloc (.cells #[.map (some (g0 + 2))] 154)).heap[g0 + 2]? = some (.map #[] 0) := by
      have h9 : (w3.alloc (.map #[] 0)).heap[g0 + 2]? = some (.map #[] 0) := by rw [← hz4]; show (w3.heap.push _)[w3.heap.size]? = _; simp
      exact Dg.row_alloc h9 _
    have k3 := Dg.row_alloc (Dg.row_alloc k2 (.map #[] 0)) (.cells #[.map (some (g0 + 2))] 154)
    have kb3 := Dg.row_alloc (Dg.row_alloc kb (.map #[] 0)) (.cells #[.map (some (g0 + 2))] 154)
    have nb5 := Dg.row_alloc (Dg.row_alloc nb4 (.map #[] 0)) (.cells #[.map (some (g0 + 2))] 154)
    have nr5 := Dg.row_alloc (Dg.row_alloc nr4 (.map #[] 0)) (.cells #[.map (some (g0 + 2))] 154)
    clear k2 kb nb4 nr4 e2 hz4
    generalize (w3.alloc (.map #[] 0)).alloc (.cells #[.map (some (g0 + 2))] 154) = w4 at *
    have hP4 : Pl1 w x am #[.string ⟨x.toArray⟩, .slice a am ac] xs g0 0 w4 (fun _ => False) := by
      refine ⟨⟨e4, fun b hb => hb.elim, fun b hb => hb.elim⟩, fun j hj => by omega, fun b => b = w.heap.size ∨ b = w.heap.size + 1 ∨ b = g0 ∨ b = g0 + 1 ∨ b = g0 + 2 ∨ b = g0 + 3, .slice (some ⟨g0, 0, none⟩) 1 1, fun b hb => ⟨by omega, by omega, id⟩, .inr (.inl rfl), nr5, ?_⟩
      refine ⟨nb5, kb3, km, .inl rfl, .inr (.inr (.inr (.inl rfl))), .inr (.inr (.inr (.inr (.inr rfl)))), .inr (.inr (.inr (.inr (.inl rfl)))), by omega, ?_, ?_, by simp, ?_, ?_⟩
      · exact ⟨rfl, .inr ⟨g0, 1, _, rfl, by omega, k3, Nat.le_refl _, by unfold maxLen; omega, rfl, rfl⟩⟩
      · intro b hb
        cases hb
        exact ⟨.inr (.inr (.inl rfl)), by show g0 ≠ _; omega, by show g0 ≠ _; omega, by show g0 ≠ _; omega, by show g0 ≠ _; omega⟩
      · intro i y u hy hu
        have h8 : y = rootI x am ∧ u = .slice none 0 0 := by
          cases i with
          | zero => simp [its1] at hy hu; exact ⟨hy.symm, hu.symm⟩
          | succ i => simp [its1] at hy
        rw [h8.1, h8.2]
        exact RdG.nil _ _
      · refine ⟨.map [], ⟨[], rfl⟩, ⟨#[], 0, km2, ?_⟩, fun nm => ⟨rfl, fun c hc => by cases hc⟩⟩
        have h9 := World.ownsMap_made (H := Unit) w Tryz.prog 9 (plainElem Tryz.prog 3)
        obtain ⟨es, cl, h1, h2⟩ := h9
        have h3 : (w.alloc (.map #[] 0)).heap[w.heap.size]? = some (.map #[] 0) := by show (w.heap.push _)[w.heap.size]? = _; simp
        rw [h3] at h1
        cases h1
        exact h2
    have c1 := (Dg.cell_row nb5 1).trans rfl
    clear k3 kb3 km km2 nr5
    refine wpE_seq ?_
    refine wpE_seq_wp fun K hK => ?_
    go_wp2_with fail
    refine Calls.mono (nodes_maker _ _ _ _ _) ?_
    rintro e w9 ⟨rfl, rfl⟩
    go_wp2_with fail
    have hcw := XAt.count _ _ _ _ _ _ _ _ _ hX
    have HCW : Hid _ := hcw
    clear hcw
    have hfw : Hid _ := XAt.fit _ _ _ _ _ _ _ _ _ hX
    have hb9 : Below w.heap.size w ((w4.alloc (.cells #[.int .i64 0] 3)).alloc (.cells #[.slice a am ac] 92)) := (e4.alloc (by omega) _).alloc (by simp; omega) _
    have q1 := Dg.row_alloc (Dg.row_new w4 #[.int .i64 0] 3) (.cells #[.slice a am ac] 92)
    have q2 := Dg.row_new (w4.alloc (.cells #[.int .i64 0] 3)) #[.slice a am ac] 92
    have hP9 := (hP4.mv (Mv.alloc _ w4 (.cells #[.int .i64 0] 3))).mv (Mv.alloc _ _ (.cells #[.slice a am ac] 92))
    have hsz9 : ((w4.alloc (.cells #[.int .i64 0] 3)).alloc (.cells #[.slice a am ac] 92)).heap.size = g0 + 6 := by simp; omega
    rw [World.size_alloc, hz5] at q2 hP9
    rw [hz5] at q1
    simp only [false_or] at hP9
    clear hP4 c1 nb5 e4
    generalize (w4.alloc (.cells #[.int .i64 0] 3)).alloc (.cells #[.slice a am ac] 92) = w9 at *
    have hseq := nodes_all t w.heap.size w 0 a am ac xs w9 (g0 + 4) (g0 + 5) (fun b => b = g0 + 4 ∨ b = g0 + 5) hX (fun b hb => hb9.block b hb) (by omega) q1 q2 (.inl rfl) (.inr rfl) (fun b hb => by omega) (by omega) hsz
    clear q1 q2
    refine wpE_block ?_
    refine range_law Tryz.func90 (gf := 102) (lb := #[.pointer (some ⟨g0 + 4, 0, none⟩), .pointer (some ⟨g0 + 5, 0, none⟩)]) rfl (enters_of Tryz.func102 (by kernel_rfl) rfl) hseq (fun b hb => by omega) (by omega) (fun _ => rfl)
      (Pl1 w x am #[.string ⟨x.toArray⟩, .slice a am ac] xs g0) (fun ch A TA => ch = rej 11 ∧ goodN xs = false ∧ Lo w A TA)
      (fun k A TA B TB h m => h.mv m) (fun ch A TA d o h hd => ⟨h.1, h.2.1, h.2.2.put hd o⟩) hP9 ?_ ?_ ?_
    · intro l3 k3 x3 W6 TB hx3 hL tb1 tb2 hlt6
      refine wpE_inRound (n := 5) ?_
      rw [show x3.enc = #[.int .i64 (x3.num : Int), .agg #[.string ⟨x3.lab.name.toArray⟩, .string ⟨x3.lab.undo.toArray⟩, .slice x3.sv x3.sm x3.sc, .bool x3.lab.sub, .bool x3.lab.vital, .slice x3.av x3.am x3.ac, .int .i64 (x3.inn : Int), .int .i64 (x3.alt : Int)]] from rfl, two_tmps]
      simp only [List.setIfInBounds_toArray, List.set_cons_succ, List.set_cons_zero]
      gi_wp2
      have hzW := hL.1.bel.size
      refine ⟨hL.mv (Mv.alloc_other _ _ _), Rv.alloc _ _ hzW, fun W7 hL7 hmv => ?_⟩
      have nw := Dg.row_new W6 #[.string ⟨x3.lab.name.toArray⟩, .string ⟨x3.lab.undo.toArray⟩, .slice x3.sv x3.sm x3.sc, .bool x3.lab.sub, .bool x3.lab.vital, .slice x3.av x3.am x3.ac, .int .i64 (x3.inn : Int), .int .i64 (x3.alt : Int)] 159
      have nw7 := (hmv.same W6.heap.size (by simp) (fun hx => by have := hL.1.lt _ hx; omega)).trans nw
      have hz7 := hmv.size
      rw [World.size_alloc] at hz7
      clear nw hmv
      have hnl := hnm x3 (List.mem_of_getElem? hx3)
      obtain ⟨hLo7, hgood, G, iv, hAp, hG1, hres, hS⟩ := hL7
      obtain ⟨D, hDm, hown, hD⟩ := hS.nums
      have m0 := (Dg.cell_row hS.hbm 0).trans rfl
      have p0 := (Dg.cell_row nw7 0).trans rfl
      refine wpE_block ?_
      refine wpE_inRound (n := 5) ?_
      by_cases htw : (numF (xs.take k3) x3.lab.name).isSome = true
      · have hh := (hD x3.lab.name).1.trans htw
        gi_wp2_with (gi_at_lookup; refine wpListIn_lookup_own_ok_int _ rfl _ _ 154 rfl 9 3 .i64 (Maps.string_keyed Tryz.underlying9) Tryz.underlying154 Tryz.underlying3 (zero3 _) (g0 + 2) k3 D rfl hown _ (.string x3.lab.name) rfl (key_str _ hnl) ?_; intro c _ _; rw [hh])
        refine ⟨trivial, ?_⟩
        refine (CallsIn.inRound l3 (callsIn_wide.2 (must_no _ _))).mono ?_
        rintro e W8 ⟨rfl, rfl⟩
        refine ⟨rfl, ⟨rfl, goodN_false (j := k3) (List.getElem?_eq_some_iff.1 hx3).1 ?_, hLo7⟩, fun b ds _ h => h⟩
        unfold goodAt
        rw [hx3]
        cases hq : numF (xs.take k3) x3.lab.name with
        | none => rw [hq] at htw; cases htw
        | some q => simp [hq]
      · have htn : numF (xs.take k3) x3.lab.name = none := by
          cases hq : numF (xs.take k3) x3.lab.name with
          | none => rfl
          | some q => rw [hq] at htw; exact (htw rfl).elim
        have hh : Maps.has D (.string x3.lab.name) = false := by rw [(hD x3.lab.name).1, htn]; rfl
        have hkl := (List.getElem?_eq_some_iff.1 hx3).1
        have hxl : xs.length = cntA t := HCW.out.1
        gi_wp2_with (gi_at_lookup; refine wpListIn_lookup_own_ok_int _ rfl _ _ 154 rfl 9 3 .i64 (Maps.string_keyed Tryz.underlying9) Tryz.underlying154 Tryz.underlying3 (zero3 _) (g0 + 2) k3 D rfl hown _ (.string x3.lab.name) rfl (key_str _ hnl) ?_; intro c _ _; rw [hh])
        refine ⟨trivial, ?_⟩
        refine (CallsIn.inRound l3 (callsIn_wide.2 (must_yes _ _))).mono ?_
        rintro e W8 ⟨rfl, rfl⟩
        have hval : plainElem (H := Unit) Tryz.prog 3 (.int .i64 (x3.num : Int)) = some (.lit (.int .i64 (x3.num : Int)), []) := plainElem_int Tryz.underlying3 (by have h9 := HCW.out.2.2 k3 x3 hx3; simp [Lit.wf, IntKind.min, IntKind.max, IntKind.bits, IntKind.signed]; omega)
        gi_wp2_with (gi_at_mapUpdate; refine wpListIn_mapUpdate_own _ rfl _ _ _ 154 rfl 9 3 (Maps.string_keyed Tryz.underlying9) Tryz.underlying154 (plainElem Tryz.prog 3) (g0 + 2) k3 D rfl hown (by unfold maxLen; omega) _ _ (.string x3.lab.name) rfl rfl (key_str _ hnl) _ [] hval ?_; intro W9 hown9 hg9)
        have hlt8 : ∀ b, G b → b < W8.heap.size := fun b hb => (hAp b hb).2.1
        have hnil : ∀ (i : Nat) (y : It) (u : Value), (its1 x am xs k3)[i]? = some y → (List.replicate (its1 x am xs k3).length (Value.slice none 0 0))[i]? = some u → y.after = [] ∧ u = .slice none 0 0 := by
          intro i y u hy hu
          refine ⟨its1_after hy, ?_⟩
          rw [List.getElem?_replicate] at hu
          split at hu
          · cases hu; rfl
          · cases hu
        have hnum9 : NumM W9 (g0 + 2) (k3 + 1) (numF (xs.take (k3 + 1))) := by
          have h1 := NumM.put hDm hD x3.lab.name x3.num hown9
          rw [List.take_add_one, hx3]
          show NumM W9 (g0 + 2) (k3 + 1) (numF (xs.take k3 ++ [x3]))
          rw [numF_snoc]
          exact h1
        have hS9 := hS.numbered hg9 hlt8 (fun i y u hy hu => by obtain ⟨h1, h2⟩ := hnil i y u hy hu; rw [h1, h2]; exact RdG.nil _ _) hnum9
        have hne6 : W6.heap.size ≠ g0 + 2 := by have := hLo7.bel.size; omega
        have nw9 := (hg9.block W6.heap.size (by omega) (fun e => hne6 (Option.some.inj e))).trans nw7
        have i0 := (Dg.cell_row hS9.hbi 0).trans rfl
        have y0 := (Dg.cell_row nw9 0).trans rfl
        have y1 := (Dg.cell_row nw9 1).trans rfl
        have y2 := (Dg.cell_row nw9 2).trans rfl
        have y3 := (Dg.cell_row nw9 3).trans rfl
        have y4 := (Dg.cell_row nw9 4).trans rfl
        have y5 := (Dg.cell_row nw9 5).trans rfl
        have y6 := (Dg.cell_row nw9 6).trans rfl
        have y7 := (Dg.cell_row nw9 7).trans rfl
        have HR9 : Rv w.heap.size TB W8 W9 := by
          refine ⟨hg9.os, hg9.tape, hg9.output, hg9.size, fun b hb => hg9.block b (by have := hLo7.bel.size; omega) (fun e => by have := Option.some.inj e; omega), fun b hb hl => hg9.block b hl (fun e => ?_)⟩
          have e2 := Option.some.inj e
          subst e2
          exact (hAp _ hS.gb).2.2 hb
        have hlo9 := hLo7.rv HR9
        have hl6 : W6.heap.size < W9.heap.size := (Array.getElem?_eq_some_iff.1 nw9).1
        have hlt9 : ∀ b, G b → b < W9.heap.size := fun b hb => Nat.lt_of_lt_of_le (hlt8 b hb) hg9.size
        refine regionH_round (S := fun w' => w'.heap[W6.heap.size]? = some (.cells #[.string ⟨x3.lab.name.toArray⟩, .string ⟨x3.lab.undo.toArray⟩, .slice x3.sv x3.sm x3.sc, .bool x3.lab.sub, .bool x3.lab.vital, .slice x3.av x3.am x3.ac, .int .i64 (x3.inn : Int), .int .i64 (x3.alt : Int)] 159 (0, 0))) l3 _ (by kernel_rfl) (noDefer_all (by kernel_rfl)) (by rintro ⟨_, _, h9⟩; exact h9) ?_
        have hS0 : Below W9.heap.size W9 W9.drew := (Below.refl _ _).drew
        have i0d : W9.drew.cell? ⟨g0 + 1, 0, none⟩ = some iv := i0
        show wpAnyH _ _ _ _ _ _ _ { tmps := _, defers := [] } _
        simp only [List.size_toArray, List.length_cons, List.length_nil, Nat.reduceAdd, Array.replicate_succ, Array.replicate_zero, List.push_toArray, List.nil_append, List.cons_append]
        clear y0 y1 y2 y3 y4 y5 y6 y7
        refine tV 1 45 (.agg #[.string ⟨x3.lab.name.toArray⟩, .string ⟨x3.lab.undo.toArray⟩, .slice x3.sv x3.sm x3.sc, .bool x3.lab.sub, .bool x3.lab.vital, .slice x3.av x3.am x3.ac, .int .i64 (x3.inn : Int), .int .i64 (x3.alt : Int)]) 5 rfl nw9 ?_ (fun w3 hw3 => by have z0 := (Dg.cell_row hw3 0).trans rfl; have z1 := (Dg.cell_row hw3 1).trans rfl; have z2 := (Dg.cell_row hw3 2).trans rfl; have z3 := (Dg.cell_row hw3 3).trans rfl; have z4 := (Dg.cell_row hw3 4).trans rfl; have z5 := (Dg.cell_row hw3 5).trans rfl; have z6 := (Dg.cell_row hw3 6).trans rfl; have z7 := (Dg.cell_row hw3 7).trans rfl; go_simp)
        cases hu : hasUndo x3.lab with
        | false =>
          have hE : itemE x3 = .panicked (rej 11) := by unfold itemE; rw [hu]; rfl
          refine wpAnyH_all (fuel := 4) (rs := [0, 2]) (by kernel_rfl) (by decide) ?_
          refine List.forall_mem_cons.2 ⟨?_, List.forall_mem_singleton.2 ?_⟩
          · refine wpOp_value (i := 0) (d := 44) (v := iv) (w' := W9.drew) rfl rfl (by kernel_rfl) (by have z0 := i0d; go_simp) ?_
            refine ⟨nw9, ?_⟩
            simp only [List.setIfInBounds_toArray, List.set_cons_succ, List.set_cons_zero]
            refine wpAnyH_all (fuel := 3) (rs := [2]) (by kernel_rfl) (by decide) ?_
            refine List.forall_mem_singleton.2 ?_
            refine wpOp_calls (i := 2) (d := 46) rfl rfl (by kernel_rfl) (f := 95) (args := #[.agg #[.string ⟨x3.lab.name.toArray⟩, .string ⟨x3.lab.undo.toArray⟩, .slice x3.sv x3.sm x3.sc, .bool x3.lab.sub, .bool x3.lab.vital, .slice x3.av x3.am x3.ac, .int .i64 (x3.inn : Int), .int .i64 (x3.alt : Int)]]) (by kernel_rfl) _ (itemOf_any x3 _) ?_ ?_ ?_
            · rintro v w'' ⟨_, h1⟩
              rw [hE] at h1
              cases h1
            · rintro ch w'' ⟨hb1, h1⟩
              rw [hE] at h1
              cases h1
              have hR1 : Rv w.heap.size TB W8 w'' := HR9.trans (Rv.of_below (hS0.trans hb1) (Nat.le_trans hLo7.bel.size hg9.size))
              refine ⟨rfl, ⟨rfl, goodN_false (j := k3) hkl ?_, hLo7.rv hR1⟩, hR1.kd⟩
              unfold goodAt
              rw [hx3]
              simp [hu]
            · rintro w'' ⟨_, h1⟩
              rw [hE] at h1
              cases h1
          · refine wpOp_calls (i := 2) (d := 46) rfl rfl (by kernel_rfl) (f := 95) (args := #[.agg #[.string ⟨x3.lab.name.toArray⟩, .string ⟨x3.lab.undo.toArray⟩, .slice x3.sv x3.sm x3.sc, .bool x3.lab.sub, .bool x3.lab.vital, .slice x3.av x3.am x3.ac, .int .i64 (x3.inn : Int), .int .i64 (x3.alt : Int)]]) (by kernel_rfl) _ (itemOf_any x3 _) ?_ ?_ ?_
            · rintro v w'' ⟨_, h1⟩
              rw [hE] at h1
              cases h1
            · rintro ch w'' ⟨hb1, h1⟩
              rw [hE] at h1
              cases h1
              have hR1 : Rv w.heap.size TB W8 w'' := HR9.trans (Rv.of_below (hS0.trans hb1) (Nat.le_trans hLo7.bel.size hg9.size))
              refine ⟨rfl, ⟨rfl, goodN_false (j := k3) hkl ?_, hLo7.rv hR1⟩, hR1.kd⟩
              unfold goodAt
              rw [hx3]
              simp [hu]
            · rintro w'' ⟨_, h1⟩
              rw [hE] at h1
              cases h1
        | true =>
          have hE : itemE x3 = .returned (.agg #[.string ⟨x3.lab.name.toArray⟩, .string ⟨x3.lab.undo.toArray⟩, .bool x3.lab.sub, .bool x3.lab.vital, .int .i64 (x3.am : Int), .int .i64 (x3.inn : Int), .int .i64 (x3.alt : Int), .slice none 0 0]) := by unfold itemE; rw [hu]; rfl
          refine wpAnyH_all (fuel := 4) (rs := [0, 2]) (by kernel_rfl) (by decide) ?_
          refine List.forall_mem_cons.2 ⟨?_, List.forall_mem_singleton.2 ?_⟩
          · refine wpOp_value (i := 0) (d := 44) (v := iv) (w' := W9.drew) rfl rfl (by kernel_rfl) (by have z0 := i0d; go_simp) ?_
            refine ⟨nw9, ?_⟩
            simp only [List.setIfInBounds_toArray, List.set_cons_succ, List.set_cons_zero]
            refine wpAnyH_all (fuel := 3) (rs := [2]) (by kernel_rfl) (by decide) ?_
            refine List.forall_mem_singleton.2 ?_
            refine wpOp_calls (i := 2) (d := 46) rfl rfl (by kernel_rfl) (f := 95) (args := #[.agg #[.string ⟨x3.lab.name.toArray⟩, .string ⟨x3.lab.undo.toArray⟩, .slice x3.sv x3.sm x3.sc, .bool x3.lab.sub, .bool x3.lab.vital, .slice x3.av x3.am x3.ac, .int .i64 (x3.inn : Int), .int .i64 (x3.alt : Int)]]) (by kernel_rfl) _ (itemOf_any x3 _) ?_ ?_ ?_
            · rintro v W10 ⟨hb1, h1⟩
              rw [hE] at h1
              cases h1
              have hb10 : Below W9.heap.size W9 W10 := hS0.trans hb1
              have hS10 : W10.heap[W6.heap.size]? = some (.cells #[.string ⟨x3.lab.name.toArray⟩, .string ⟨x3.lab.undo.toArray⟩, .slice x3.sv x3.sm x3.sc, .bool x3.lab.sub, .bool x3.lab.vital, .slice x3.av x3.am x3.ac, .int .i64 (x3.inn : Int), .int .i64 (x3.alt : Int)] 159 (0, 0)) := (hb10.block _ hl6).trans nw9
              refine ⟨hS10, ?_⟩
              simp only [List.setIfInBounds_toArray, List.set_cons_succ, List.set_cons_zero]
              refine wpAnyH_all (fuel := 2) (rs := [3]) (by kernel_rfl) (by decide) ?_
              refine List.forall_mem_singleton.2 ?_
              refine wpOp_value (i := 3) (d := 47) (v := .slice (some ⟨W10.heap.size, 0, none⟩) 1 1) (w' := W10.alloc (.cells #[.string ⟨x3.lab.name.toArray⟩, .string ⟨x3.lab.undo.toArray⟩, .bool x3.lab.sub, .bool x3.lab.vital, .int .i64 (x3.am : Int), .int .i64 (x3.inn : Int), .int .i64 (x3.alt : Int), .slice none 0 0] 34)) rfl rfl (by kernel_rfl) (by go_simp) ?_
              refine ⟨Dg.row_alloc hS10 _, ?_⟩
              simp only [List.setIfInBounds_toArray, List.set_cons_succ, List.set_cons_zero]
              have hb11 : Below W9.heap.size W9 (W10.alloc (.cells #[.string ⟨x3.lab.name.toArray⟩, .string ⟨x3.lab.undo.toArray⟩, .bool x3.lab.sub, .bool x3.lab.vital, .int .i64 (x3.am : Int), .int .i64 (x3.inn : Int), .int .i64 (x3.alt : Int), .slice none 0 0] 34)) := hb10.alloc hb10.size _
              have hS11 := hS9.agree (Agree.below hb11 hlt9)
              have hlt11 : ∀ b, G b → b < (W10.alloc (.cells #[.string ⟨x3.lab.name.toArray⟩, .string ⟨x3.lab.undo.toArray⟩, .bool x3.lab.sub, .bool x3.lab.vital, .int .i64 (x3.am : Int), .int .i64 (x3.inn : Int), .int .i64 (x3.alt : Int), .slice none 0 0] 34)).heap.size := fun b hb => Nat.lt_of_lt_of_le (hlt9 b hb) hb11.size
              have hrow := Dg.row_new W10 #[.string ⟨x3.lab.name.toArray⟩, .string ⟨x3.lab.undo.toArray⟩, .bool x3.lab.sub, .bool x3.lab.vital, .int .i64 (x3.am : Int), .int .i64 (x3.inn : Int), .int .i64 (x3.alt : Int), .slice none 0 0] 34
              have hcl : ∀ (j : Nat) (u : Value), ([.string ⟨x3.lab.name.toArray⟩, .string ⟨x3.lab.undo.toArray⟩, .bool x3.lab.sub, .bool x3.lab.vital, .int .i64 (x3.am : Int), .int .i64 (x3.inn : Int), .int .i64 (x3.alt : Int), .slice none 0 0] : List Value)[j]? = some u → (W10.alloc (.cells #[.string ⟨x3.lab.name.toArray⟩, .string ⟨x3.lab.undo.toArray⟩, .bool x3.lab.sub, .bool x3.lab.vital, .int .i64 (x3.am : Int), .int .i64 (x3.inn : Int), .int .i64 (x3.alt : Int), .slice none 0 0] 34)).cell? ((⟨W10.heap.size, 0, none⟩ : Addr).add j) = some u := by
                intro j u hj
                rw [Go.WideShapes.add_plain, Nat.zero_add, Dg.cell_row hrow, ← Array.getElem?_toList]
                exact hj
              have hi43 := info_parts inf43
              obtain ⟨i0, hi, hz0, hz1, hz2⟩ := hi43
              obtain ⟨iv', W12, hr12, ho12, hg12, _, hat12⟩ := run_append_own_at (P := Tryz.prog) (W10.alloc (.cells #[.string ⟨x3.lab.name.toArray⟩, .string ⟨x3.lab.undo.toArray⟩, .bool x3.lab.sub, .bool x3.lab.vital, .int .i64 (x3.am : Int), .int .i64 (x3.inn : Int), .int .i64 (x3.alt : Int), .slice none 0 0] 34)) w.heap.size 22 22 34 i0 _ 8 _ Tryz.underlying22 hi hz0 hz1 hz2 rfl (by decide) iv _ _ hS11.own ⟨W10.heap.size, 0, none⟩ 1 1 [.string ⟨x3.lab.name.toArray⟩, .string ⟨x3.lab.undo.toArray⟩, .bool x3.lab.sub, .bool x3.lab.vital, .int .i64 (x3.am : Int), .int .i64 (x3.inn : Int), .int .i64 (x3.alt : Int), .slice none 0 0] rfl hcl (by intro u hu; simp at hu; rcases hu with rfl | rfl | rfl | rfl | rfl | rfl | rfl | rfl <;> rfl) (by unfold maxLen; simp [its1]; omega) (by simp [its1]; omega) (by have := hLo7.bel.size; have := hg9.size; have := hb11.size; omega)
              obtain ⟨ia', ic', rfl⟩ := own_slice ho12
              refine wpAnyH_all (fuel := 1) (rs := [4]) (by kernel_rfl) (by decide) ?_
              refine List.forall_mem_singleton.2 ?_
              refine wpOp_value (i := 4) (d := 48) (v := .slice ia' ((its1 x am xs k3).length + 1) ic') (w' := W12) rfl rfl (by kernel_rfl) (by simp [execOp, resolve, invoke, builtin, hr12, Result.andThen, Act.eval]) ?_
              have hivne : some W6.heap.size ≠ iv.ownBlock := own_other hS11.own (Dg.row_alloc hS10 _) (by decide)
              have hS12 : W12.heap[W6.heap.size]? = some (.cells #[.string ⟨x3.lab.name.toArray⟩, .string ⟨x3.lab.undo.toArray⟩, .slice x3.sv x3.sm x3.sc, .bool x3.lab.sub, .bool x3.lab.vital, .slice x3.av x3.am x3.ac, .int .i64 (x3.inn : Int), .int .i64 (x3.alt : Int)] 159 (0, 0)) := (hg12.block _ (Nat.lt_of_lt_of_le hl6 hb11.size) hivne).trans (Dg.row_alloc hS10 _)
              refine ⟨hS12, ?_⟩
              simp only [List.setIfInBounds_toArray, List.set_cons_succ, List.set_cons_zero]
              refine wpAnyH_all (fuel := 0) (rs := [5]) (by kernel_rfl) (by decide) ?_
              refine List.forall_mem_singleton.2 ?_
              have hbi12 : W12.heap[g0 + 1]? = some (.cells #[iv] 22 (0, 0)) := (hg12.block _ (hlt11 _ hS11.gi) (fun e => (hS11.gv _ e.symm).2.1 rfl)).trans hS11.hbi
              have hc12 := (Dg.cell_row hbi12 0).trans rfl
              have hf12 := Dg.froz_row hbi12 0
              have h61 : W6.heap.size ≠ g0 + 1 := fun e => by rw [e, hbi12] at hS12; injection hS12 with h7; injection h7 with _ h8 _; exact absurd h8 (by decide)
              refine wpOp_skip (i := 5) (w' := W12.setCell ⟨g0 + 1, 0, none⟩ (.slice ia' ((its1 x am xs k3).length + 1) ic')) rfl rfl (by kernel_rfl) (by go_simp) ?_
              refine ⟨Dg.row_other hS12 _ h61, wpAnyH_done (by kernel_rfl) ?_ _⟩
              have hPS := hS11.push x3.item rfl ho12 hg12 hat12 hlt11 hnil
              have hR12 : Rv w.heap.size TB W8 (W12.setCell ⟨g0 + 1, 0, none⟩ (.slice ia' ((its1 x am xs k3).length + 1) ic')) := by
                have hz := Nat.le_trans hLo7.bel.size hg9.size
                refine (((HR9.trans (Rv.of_below hb11 hz)).trans (Rv.grown hg12 (Nat.le_trans hz hb11.size) (fun b hb => ⟨(hAp _ (hS.gv b hb).1).1, (hAp _ (hS.gv b hb).1).2.2⟩))).trans (Rv.setCell W12 _ (by omega) (hAp _ hS.gi).2.2))
              have hI1 : its1 x am xs (k3 + 1) = its1 x am xs k3 ++ [x3.item] := its1_succ hx3
              have hsz13 : (W12.setCell ⟨g0 + 1, 0, none⟩ (.slice ia' ((its1 x am xs k3).length + 1) ic')).heap.size = W12.heap.size := by simp
              have hgd : ∀ j, j < k3 + 1 → goodAt xs j = true := by
                intro j hj
                by_cases hjk : j < k3
                · exact hgood j hjk
                · have hj3 : j = k3 := by omega
                  subst hj3
                  unfold goodAt
                  rw [hx3]
                  simp [htn, hu]
              have hap : Apart w.heap.size (fun b => G b ∨ (Value.ownBlock (.slice ia' ((its1 x am xs k3).length + 1) ic')) = some b) TB (W12.setCell ⟨g0 + 1, 0, none⟩ (.slice ia' ((its1 x am xs k3).length + 1) ic')) := by
                intro b hb
                rw [hsz13]
                have hz12 := hg12.size
                have hz11 := hb11.size
                rcases hb with hb | hb
                · exact ⟨(hAp b hb).1, Nat.lt_of_lt_of_le (hlt11 b hb) hz12, (hAp b hb).2.2⟩
                · obtain ⟨l1, l2⟩ := own_exists ho12 b hb
                  refine ⟨l1, l2, fun ht => ?_⟩
                  rcases hat12 with hat | hat
                  · rw [hat] at hb
                    exact (hAp _ (hS.gv b hb).1).2.2 ht
                  · rw [hat] at hb
                    have h1 := hLo7.lt b ht
                    have h2 := Option.some.inj hb
                    have h3 := hg9.size
                    omega
              have hre9 : W9.heap[w.heap.size + 1]? = some (.cells #[.slice none 0 0] 24 (0, 0)) := (hg9.block _ (hAp _ hG1).2.1 (fun e => by have := Option.some.inj e; omega)).trans hres
              have hre11 : (W10.alloc (.cells #[.string ⟨x3.lab.name.toArray⟩, .string ⟨x3.lab.undo.toArray⟩, .bool x3.lab.sub, .bool x3.lab.vital, .int .i64 (x3.am : Int), .int .i64 (x3.inn : Int), .int .i64 (x3.alt : Int), .slice none 0 0] 34)).heap[w.heap.size + 1]? = some (.cells #[.slice none 0 0] 24 (0, 0)) := (hb11.block _ (hlt9 _ hG1)).trans hre9
              have hre12 : W12.heap[w.heap.size + 1]? = some (.cells #[.slice none 0 0] 24 (0, 0)) := (hg12.block _ (hlt11 _ hG1) (own_other hS11.own hre11 (by decide))).trans hre11
              have hre13 := Dg.row_other (i := 0) hre12 (.slice ia' ((its1 x am xs k3).length + 1) ic') (show w.heap.size + 1 ≠ g0 + 1 by omega)
              have hps : PSt (fun b => G b ∨ (Value.ownBlock (.slice ia' ((its1 x am xs k3).length + 1) ic')) = some b) w.heap.size (W12.setCell ⟨g0 + 1, 0, none⟩ (.slice ia' ((its1 x am xs k3).length + 1) ic')) w.heap.size (g0 + 1) (g0 + 3) (g0 + 2) (k3 + 1) #[.string ⟨x.toArray⟩, .slice a am ac] (.slice ia' ((its1 x am xs k3).length + 1) ic') (its1 x am xs (k3 + 1)) (List.replicate (its1 x am xs (k3 + 1)).length (.slice none 0 0)) (numF (xs.take (k3 + 1))) := by
                rw [hI1]
                have h1 : List.replicate (its1 x am xs k3 ++ [x3.item]).length (Value.slice none 0 0) = List.replicate (its1 x am xs k3).length (Value.slice none 0 0) ++ [.slice none 0 0] := by rw [List.length_append]; exact List.replicate_succ'
                rw [h1]
                exact hPS
              have hpl : Pl1 w x am #[.string ⟨x.toArray⟩, .slice a am ac] xs g0 (k3 + 1) (W12.setCell ⟨g0 + 1, 0, none⟩ (.slice ia' ((its1 x am xs k3).length + 1) ic')) TB := ⟨hLo7.rv hR12, hgd, _, _, hap, .inl hG1, hre13, hps⟩
              exact ⟨hpl, hR12⟩
            · rintro ch w'' ⟨_, h1⟩
              rw [hE] at h1
              cases h1
            · rintro w'' ⟨_, h1⟩
              rw [hE] at h1
              cases h1
          · refine wpOp_calls (i := 2) (d := 46) rfl rfl (by kernel_rfl) (f := 95) (args := #[.agg #[.string ⟨x3.lab.name.toArray⟩, .string ⟨x3.lab.undo.toArray⟩, .slice x3.sv x3.sm x3.sc, .bool x3.lab.sub, .bool x3.lab.vital, .slice x3.av x3.am x3.ac, .int .i64 (x3.inn : Int), .int .i64 (x3.alt : Int)]]) (by kernel_rfl) _ (itemOf_any x3 _) ?_ ?_ ?_
            · rintro v W10 ⟨hb1, h1⟩
              rw [hE] at h1
              cases h1
              have hb10 : Below W9.heap.size W9 W10 := hS0.trans hb1
              have hS10 : W10.heap[W6.heap.size]? = some (.cells #[.string ⟨x3.lab.name.toArray⟩, .string ⟨x3.lab.undo.toArray⟩, .slice x3.sv x3.sm x3.sc, .bool x3.lab.sub, .bool x3.lab.vital, .slice x3.av x3.am x3.ac, .int .i64 (x3.inn : Int), .int .i64 (x3.alt : Int)] 159 (0, 0)) := (hb10.block _ hl6).trans nw9
              refine ⟨hS10, ?_⟩
              simp only [List.setIfInBounds_toArray, List.set_cons_succ, List.set_cons_zero]
              refine wpAnyH_all (fuel := 3) (rs := [0, 3]) (by kernel_rfl) (by decide) ?_
              refine List.forall_mem_cons.2 ⟨?_, List.forall_mem_singleton.2 ?_⟩
              · refine wpOp_value (i := 0) (d := 44) (v := iv) (w' := W10) rfl rfl (by kernel_rfl) (by have z0 := Dg.cell_later hb10 i0; go_simp) ?_
                refine ⟨hS10, ?_⟩
                simp only [List.setIfInBounds_toArray, List.set_cons_succ, List.set_cons_zero]
                refine wpAnyH_all (fuel := 2) (rs := [3]) (by kernel_rfl) (by decide) ?_
                refine List.forall_mem_singleton.2 ?_
                refine wpOp_value (i := 3) (d := 47) (v := .slice (some ⟨W10.heap.size, 0, none⟩) 1 1) (w' := W10.alloc (.cells #[.string ⟨x3.lab.name.toArray⟩, .string ⟨x3.lab.undo.toArray⟩, .bool x3.lab.sub, .bool x3.lab.vital, .int .i64 (x3.am : Int), .int .i64 (x3.inn : Int), .int .i64 (x3.alt : Int), .slice none 0 0] 34)) rfl rfl (by kernel_rfl) (by go_simp) ?_
                refine ⟨Dg.row_alloc hS10 _, ?_⟩
                simp only [List.setIfInBounds_toArray, List.set_cons_succ, List.set_cons_zero]
                have hb11 : Below W9.heap.size W9 (W10.alloc (.cells #[.string ⟨x3.lab.name.toArray⟩, .string ⟨x3.lab.undo.toArray⟩, .bool x3.lab.sub, .bool x3.lab.vital, .int .i64 (x3.am : Int), .int .i64 (x3.inn : Int), .int .i64 (x3.alt : Int), .slice none 0 0] 34)) := hb10.alloc hb10.size _
                have hS11 := hS9.agree (Agree.below hb11 hlt9)
                have hlt11 : ∀ b, G b → b < (W10.alloc (.cells #[.string ⟨x3.lab.name.toArray⟩, .string ⟨x3.lab.undo.toArray⟩, .bool x3.lab.sub, .bool x3.lab.vital, .int .i64 (x3.am : Int), .int .i64 (x3.inn : Int), .int .i64 (x3.alt : Int), .slice none 0 0] 34)).heap.size := fun b hb => Nat.lt_of_lt_of_le (hlt9 b hb) hb11.size
                have hrow := Dg.row_new W10 #[.string ⟨x3.lab.name.toArray⟩, .string ⟨x3.lab.undo.toArray⟩, .bool x3.lab.sub, .bool x3.lab.vital, .int .i64 (x3.am : Int), .int .i64 (x3.inn : Int), .int .i64 (x3.alt : Int), .slice none 0 0] 34
                have hcl : ∀ (j : Nat) (u : Value), ([.string ⟨x3.lab.name.toArray⟩, .string ⟨x3.lab.undo.toArray⟩, .bool x3.lab.sub, .bool x3.lab.vital, .int .i64 (x3.am : Int), .int .i64 (x3.inn : Int), .int .i64 (x3.alt : Int), .slice none 0 0] : List Value)[j]? = some u → (W10.alloc (.cells #[.string ⟨x3.lab.name.toArray⟩, .string ⟨x3.lab.undo.toArray⟩, .bool x3.lab.sub, .bool x3.lab.vital, .int .i64 (x3.am : Int), .int .i64 (x3.inn : Int), .int .i64 (x3.alt : Int), .slice none 0 0] 34)).cell? ((⟨W10.heap.size, 0, none⟩ : Addr).add j) = some u := by
                  intro j u hj
                  rw [Go.WideShapes.add_plain, Nat.zero_add, Dg.cell_row hrow, ← Array.getElem?_toList]
                  exact hj
                have hi43 := info_parts inf43
                obtain ⟨i0, hi, hz0, hz1, hz2⟩ := hi43
                obtain ⟨iv', W12, hr12, ho12, hg12, _, hat12⟩ := run_append_own_at (P := Tryz.prog) (W10.alloc (.cells #[.string ⟨x3.lab.name.toArray⟩, .string ⟨x3.lab.undo.toArray⟩, .bool x3.lab.sub, .bool x3.lab.vital, .int .i64 (x3.am : Int), .int .i64 (x3.inn : Int), .int .i64 (x3.alt : Int), .slice none 0 0] 34)) w.heap.size 22 22 34 i0 _ 8 _ Tryz.underlying22 hi hz0 hz1 hz2 rfl (by decide) iv _ _ hS11.own ⟨W10.heap.size, 0, none⟩ 1 1 [.string ⟨x3.lab.name.toArray⟩, .string ⟨x3.lab.undo.toArray⟩, .bool x3.lab.sub, .bool x3.lab.vital, .int .i64 (x3.am : Int), .int .i64 (x3.inn : Int), .int .i64 (x3.alt : Int), .slice none 0 0] rfl hcl (by intro u hu; simp at hu; rcases hu with rfl | rfl | rfl | rfl | rfl | rfl | rfl | rfl <;> rfl) (by unfold maxLen; simp [its1]; omega) (by simp [its1]; omega) (by have := hLo7.bel.size; have := hg9.size; have := hb11.size; omega)
                obtain ⟨ia', ic', rfl⟩ := own_slice ho12
                refine wpAnyH_all (fuel := 1) (rs := [4]) (by kernel_rfl) (by decide) ?_
                refine List.forall_mem_singleton.2 ?_
                refine wpOp_value (i := 4) (d := 48) (v := .slice ia' ((its1 x am xs k3).length + 1) ic') (w' := W12) rfl rfl (by kernel_rfl) (by simp [execOp, resolve, invoke, builtin, hr12, Result.andThen, Act.eval]) ?_
                have hivne : some W6.heap.size ≠ iv.ownBlock := own_other hS11.own (Dg.row_alloc hS10 _) (by decide)
                have hS12 : W12.heap[W6.heap.size]? = some (.cells #[.string ⟨x3.lab.name.toArray⟩, .string ⟨x3.lab.undo.toArray⟩, .slice x3.sv x3.sm x3.sc, .bool x3.lab.sub, .bool x3.lab.vital, .slice x3.av x3.am x3.ac, .int .i64 (x3.inn : Int), .int .i64 (x3.alt : Int)] 159 (0, 0)) := (hg12.block _ (Nat.lt_of_lt_of_le hl6 hb11.size) hivne).trans (Dg.row_alloc hS10 _)
                refine ⟨hS12, ?_⟩
                simp only [List.setIfInBounds_toArray, List.set_cons_succ, List.set_cons_zero]
                refine wpAnyH_all (fuel := 0) (rs := [5]) (by kernel_rfl) (by decide) ?_
                refine List.forall_mem_singleton.2 ?_
                have hbi12 : W12.heap[g0 + 1]? = some (.cells #[iv] 22 (0, 0)) := (hg12.block _ (hlt11 _ hS11.gi) (fun e => (hS11.gv _ e.symm).2.1 rfl)).trans hS11.hbi
                have hc12 := (Dg.cell_row hbi12 0).trans rfl
                have hf12 := Dg.froz_row hbi12 0
                have h61 : W6.heap.size ≠ g0 + 1 := fun e => by rw [e, hbi12] at hS12; injection hS12 with h7; injection h7 with _ h8 _; exact absurd h8 (by decide)
                refine wpOp_skip (i := 5) (w' := W12.setCell ⟨g0 + 1, 0, none⟩ (.slice ia' ((its1 x am xs k3).length + 1) ic')) rfl rfl (by kernel_rfl) (by go_simp) ?_
                refine ⟨Dg.row_other hS12 _ h61, wpAnyH_done (by kernel_rfl) ?_ _⟩
                have hPS := hS11.push x3.item rfl ho12 hg12 hat12 hlt11 hnil
                have hR12 : Rv w.heap.size TB W8 (W12.setCell ⟨g0 + 1, 0, none⟩ (.slice ia' ((its1 x am xs k3).length + 1) ic')) := by
                  have hz := Nat.le_trans hLo7.bel.size hg9.size
                  refine (((HR9.trans (Rv.of_below hb11 hz)).trans (Rv.grown hg12 (Nat.le_trans hz hb11.size) (fun b hb => ⟨(hAp _ (hS.gv b hb).1).1, (hAp _ (hS.gv b hb).1).2.2⟩))).trans (Rv.setCell W12 _ (by omega) (hAp _ hS.gi).2.2))
                have hI1 : its1 x am xs (k3 + 1) = its1 x am xs k3 ++ [x3.item] := its1_succ hx3
                have hsz13 : (W12.setCell ⟨g0 + 1, 0, none⟩ (.slice ia' ((its1 x am xs k3).length + 1) ic')).heap.size = W12.heap.size := by simp
                have hgd : ∀ j, j < k3 + 1 → goodAt xs j = true := by
                  intro j hj
                  by_cases hjk : j < k3
                  · exact hgood j hjk
                  · have hj3 : j = k3 := by omega
                    subst hj3
                    unfold goodAt
                    rw [hx3]
                    simp [htn, hu]
                have hap : Apart w.heap.size (fun b => G b ∨ (Value.ownBlock (.slice ia' ((its1 x am xs k3).length + 1) ic')) = some b) TB (W12.setCell ⟨g0 + 1, 0, none⟩ (.slice ia' ((its1 x am xs k3).length + 1) ic')) := by
                  intro b hb
                  rw [hsz13]
                  have hz12 := hg12.size
                  have hz11 := hb11.size
                  rcases hb with hb | hb
                  · exact ⟨(hAp b hb).1, Nat.lt_of_lt_of_le (hlt11 b hb) hz12, (hAp b hb).2.2⟩
                  · obtain ⟨l1, l2⟩ := own_exists ho12 b hb
                    refine ⟨l1, l2, fun ht => ?_⟩
                    rcases hat12 with hat | hat
                    · rw [hat] at hb
                      exact (hAp _ (hS.gv b hb).1).2.2 ht
                    · rw [hat] at hb
                      have h1 := hLo7.lt b ht
                      have h2 := Option.some.inj hb
                      have h3 := hg9.size
                      omega
                have hre9 : W9.heap[w.heap.size + 1]? = some (.cells #[.slice none 0 0] 24 (0, 0)) := (hg9.block _ (hAp _ hG1).2.1 (fun e => by have := Option.some.inj e; omega)).trans hres
                have hre11 : (W10.alloc (.cells #[.string ⟨x3.lab.name.toArray⟩, .string ⟨x3.lab.undo.toArray⟩, .bool x3.lab.sub, .bool x3.lab.vital, .int .i64 (x3.am : Int), .int .i64 (x3.inn : Int), .int .i64 (x3.alt : Int), .slice none 0 0] 34)).heap[w.heap.size + 1]? = some (.cells #[.slice none 0 0] 24 (0, 0)) := (hb11.block _ (hlt9 _ hG1)).trans hre9
                have hre12 : W12.heap[w.heap.size + 1]? = some (.cells #[.slice none 0 0] 24 (0, 0)) := (hg12.block _ (hlt11 _ hG1) (own_other hS11.own hre11 (by decide))).trans hre11
                have hre13 := Dg.row_other (i := 0) hre12 (.slice ia' ((its1 x am xs k3).length + 1) ic') (show w.heap.size + 1 ≠ g0 + 1 by omega)
                have hps : PSt (fun b => G b ∨ (Value.ownBlock (.slice ia' ((its1 x am xs k3).length + 1) ic')) = some b) w.heap.size (W12.setCell ⟨g0 + 1, 0, none⟩ (.slice ia' ((its1 x am xs k3).length + 1) ic')) w.heap.size (g0 + 1) (g0 + 3) (g0 + 2) (k3 + 1) #[.string ⟨x.toArray⟩, .slice a am ac] (.slice ia' ((its1 x am xs k3).length + 1) ic') (its1 x am xs (k3 + 1)) (List.replicate (its1 x am xs (k3 + 1)).length (.slice none 0 0)) (numF (xs.take (k3 + 1))) := by
                  rw [hI1]
                  have h1 : List.replicate (its1 x am xs k3 ++ [x3.item]).length (Value.slice none 0 0) = List.replicate (its1 x am xs k3).length (Value.slice none 0 0) ++ [.slice none 0 0] := by rw [List.length_append]; exact List.replicate_succ'
                  rw [h1]
                  exact hPS
                have hpl : Pl1 w x am #[.string ⟨x.toArray⟩, .slice a am ac] xs g0 (k3 + 1) (W12.setCell ⟨g0 + 1, 0, none⟩ (.slice ia' ((its1 x am xs k3).length + 1) ic')) TB := ⟨hLo7.rv hR12, hgd, _, _, hap, .inl hG1, hre13, hps⟩
                exact ⟨hpl, hR12⟩
              · refine wpOp_value (i := 3) (d := 47) (v := .slice (some ⟨W10.heap.size, 0, none⟩) 1 1) (w' := W10.alloc (.cells #[.string ⟨x3.lab.name.toArray⟩, .string ⟨x3.lab.undo.toArray⟩, .bool x3.lab.sub, .bool x3.lab.vital, .int .i64 (x3.am : Int), .int .i64 (x3.inn : Int), .int .i64 (x3.alt : Int), .slice none 0 0] 34)) rfl rfl (by kernel_rfl) (by go_simp) ?_
                refine ⟨Dg.row_alloc hS10 _, ?_⟩
                simp only [List.setIfInBounds_toArray, List.set_cons_succ, List.set_cons_zero]
                refine wpAnyH_all (fuel := 2) (rs := [0]) (by kernel_rfl) (by decide) ?_
                refine List.forall_mem_singleton.2 ?_
                refine wpOp_value (i := 0) (d := 44) (v := iv) (w' := (W10.alloc (.cells #[.string ⟨x3.lab.name.toArray⟩, .string ⟨x3.lab.undo.toArray⟩, .bool x3.lab.sub, .bool x3.lab.vital, .int .i64 (x3.am : Int), .int .i64 (x3.inn : Int), .int .i64 (x3.alt : Int), .slice none 0 0] 34))) rfl rfl (by kernel_rfl) (by have z0 := Dg.cell_later (hb10.alloc hb10.size (.cells #[.string ⟨x3.lab.name.toArray⟩, .string ⟨x3.lab.undo.toArray⟩, .bool x3.lab.sub, .bool x3.lab.vital, .int .i64 (x3.am : Int), .int .i64 (x3.inn : Int), .int .i64 (x3.alt : Int), .slice none 0 0] 34)) i0; go_simp) ?_
                refine ⟨Dg.row_alloc hS10 _, ?_⟩
                simp only [List.setIfInBounds_toArray, List.set_cons_succ, List.set_cons_zero]
                have hb11 : Below W9.heap.size W9 (W10.alloc (.cells #[.string ⟨x3.lab.name.toArray⟩, .string ⟨x3.lab.undo.toArray⟩, .bool x3.lab.sub, .bool x3.lab.vital, .int .i64 (x3.am : Int), .int .i64 (x3.inn : Int), .int .i64 (x3.alt : Int), .slice none 0 0] 34)) := hb10.alloc hb10.size _
                have hS11 := hS9.agree (Agree.below hb11 hlt9)
                have hlt11 : ∀ b, G b → b < (W10.alloc (.cells #[.string ⟨x3.lab.name.toArray⟩, .string ⟨x3.lab.undo.toArray⟩, .bool x3.lab.sub, .bool x3.lab.vital, .int .i64 (x3.am : Int), .int .i64 (x3.inn : Int), .int .i64 (x3.alt : Int), .slice none 0 0] 34)).heap.size := fun b hb => Nat.lt_of_lt_of_le (hlt9 b hb) hb11.size
                have hrow := Dg.row_new W10 #[.string ⟨x3.lab.name.toArray⟩, .string ⟨x3.lab.undo.toArray⟩, .bool x3.lab.sub, .bool x3.lab.vital, .int .i64 (x3.am : Int), .int .i64 (x3.inn : Int), .int .i64 (x3.alt : Int), .slice none 0 0] 34
                have hcl : ∀ (j : Nat) (u : Value), ([.string ⟨x3.lab.name.toArray⟩, .string ⟨x3.lab.undo.toArray⟩, .bool x3.lab.sub, .bool x3.lab.vital, .int .i64 (x3.am : Int), .int .i64 (x3.inn : Int), .int .i64 (x3.alt : Int), .slice none 0 0] : List Value)[j]? = some u → (W10.alloc (.cells #[.string ⟨x3.lab.name.toArray⟩, .string ⟨x3.lab.undo.toArray⟩, .bool x3.lab.sub, .bool x3.lab.vital, .int .i64 (x3.am : Int), .int .i64 (x3.inn : Int), .int .i64 (x3.alt : Int), .slice none 0 0] 34)).cell? ((⟨W10.heap.size, 0, none⟩ : Addr).add j) = some u := by
                  intro j u hj
                  rw [Go.WideShapes.add_plain, Nat.zero_add, Dg.cell_row hrow, ← Array.getElem?_toList]
                  exact hj
                have hi43 := info_parts inf43
                obtain ⟨i0, hi, hz0, hz1, hz2⟩ := hi43
                obtain ⟨iv', W12, hr12, ho12, hg12, _, hat12⟩ := run_append_own_at (P := Tryz.prog) (W10.alloc (.cells #[.string ⟨x3.lab.name.toArray⟩, .string ⟨x3.lab.undo.toArray⟩, .bool x3.lab.sub, .bool x3.lab.vital, .int .i64 (x3.am : Int), .int .i64 (x3.inn : Int), .int .i64 (x3.alt : Int), .slice none 0 0] 34)) w.heap.size 22 22 34 i0 _ 8 _ Tryz.underlying22 hi hz0 hz1 hz2 rfl (by decide) iv _ _ hS11.own ⟨W10.heap.size, 0, none⟩ 1 1 [.string ⟨x3.lab.name.toArray⟩, .string ⟨x3.lab.undo.toArray⟩, .bool x3.lab.sub, .bool x3.lab.vital, .int .i64 (x3.am : Int), .int .i64 (x3.inn : Int), .int .i64 (x3.alt : Int), .slice none 0 0] rfl hcl (by intro u hu; simp at hu; rcases hu with rfl | rfl | rfl | rfl | rfl | rfl | rfl | rfl <;> rfl) (by unfold maxLen; simp [its1]; omega) (by simp [its1]; omega) (by have := hLo7.bel.size; have := hg9.size; have := hb11.size; omega)
                obtain ⟨ia', ic', rfl⟩ := own_slice ho12
                refine wpAnyH_all (fuel := 1) (rs := [4]) (by kernel_rfl) (by decide) ?_
                refine List.forall_mem_singleton.2 ?_
                refine wpOp_value (i := 4) (d := 48) (v := .slice ia' ((its1 x am xs k3).length + 1) ic') (w' := W12) rfl rfl (by kernel_rfl) (by simp [execOp, resolve, invoke, builtin, hr12, Result.andThen, Act.eval]) ?_
                have hivne : some W6.heap.size ≠ iv.ownBlock := own_other hS11.own (Dg.row_alloc hS10 _) (by decide)
                have hS12 : W12.heap[W6.heap.size]? = some (.cells #[.string ⟨x3.lab.name.toArray⟩, .string ⟨x3.lab.undo.toArray⟩, .slice x3.sv x3.sm x3.sc, .bool x3.lab.sub, .bool x3.lab.vital, .slice x3.av x3.am x3.ac, .int .i64 (x3.inn : Int), .int .i64 (x3.alt : Int)] 159 (0, 0)) := (hg12.block _ (Nat.lt_of_lt_of_le hl6 hb11.size) hivne).trans (Dg.row_alloc hS10 _)
                refine ⟨hS12, ?_⟩
                simp only [List.setIfInBounds_toArray, List.set_cons_succ, List.set_cons_zero]
                refine wpAnyH_all (fuel := 0) (rs := [5]) (by kernel_rfl) (by decide) ?_
                refine List.forall_mem_singleton.2 ?_
                have hbi12 : W12.heap[g0 + 1]? = some (.cells #[iv] 22 (0, 0)) := (hg12.block _ (hlt11 _ hS11.gi) (fun e => (hS11.gv _ e.symm).2.1 rfl)).trans hS11.hbi
                have hc12 := (Dg.cell_row hbi12 0).trans rfl
                have hf12 := Dg.froz_row hbi12 0
                have h61 : W6.heap.size ≠ g0 + 1 := fun e => by rw [e, hbi12] at hS12; injection hS12 with h7; injection h7 with _ h8 _; exact absurd h8 (by decide)
                refine wpOp_skip (i := 5) (w' := W12.setCell ⟨g0 + 1, 0, none⟩ (.slice ia' ((its1 x am xs k3).length + 1) ic')) rfl rfl (by kernel_rfl) (by go_simp) ?_
                refine ⟨Dg.row_other hS12 _ h61, wpAnyH_done (by kernel_rfl) ?_ _⟩
                have hPS := hS11.push x3.item rfl ho12 hg12 hat12 hlt11 hnil
                have hR12 : Rv w.heap.size TB W8 (W12.setCell ⟨g0 + 1, 0, none⟩ (.slice ia' ((its1 x am xs k3).length + 1) ic')) := by
                  have hz := Nat.le_trans hLo7.bel.size hg9.size
                  refine (((HR9.trans (Rv.of_below hb11 hz)).trans (Rv.grown hg12 (Nat.le_trans hz hb11.size) (fun b hb => ⟨(hAp _ (hS.gv b hb).1).1, (hAp _ (hS.gv b hb).1).2.2⟩))).trans (Rv.setCell W12 _ (by omega) (hAp _ hS.gi).2.2))
                have hI1 : its1 x am xs (k3 + 1) = its1 x am xs k3 ++ [x3.item] := its1_succ hx3
                have hsz13 : (W12.setCell ⟨g0 + 1, 0, none⟩ (.slice ia' ((its1 x am xs k3).length + 1) ic')).heap.size = W12.heap.size := by simp
                have hgd : ∀ j, j < k3 + 1 → goodAt xs j = true := by
                  intro j hj
                  by_cases hjk : j < k3
                  · exact hgood j hjk
                  · have hj3 : j = k3 := by omega
                    subst hj3
                    unfold goodAt
                    rw [hx3]
                    simp [htn, hu]
                have hap : Apart w.heap.size (fun b => G b ∨ (Value.ownBlock (.slice ia' ((its1 x am xs k3).length + 1) ic')) = some b) TB (W12.setCell ⟨g0 + 1, 0, none⟩ (.slice ia' ((its1 x am xs k3).length + 1) ic')) := by
                  intro b hb
                  rw [hsz13]
                  have hz12 := hg12.size
                  have hz11 := hb11.size
                  rcases hb with hb | hb
                  · exact ⟨(hAp b hb).1, Nat.lt_of_lt_of_le (hlt11 b hb) hz12, (hAp b hb).2.2⟩
                  · obtain ⟨l1, l2⟩ := own_exists ho12 b hb
                    refine ⟨l1, l2, fun ht => ?_⟩
                    rcases hat12 with hat | hat
                    · rw [hat] at hb
                      exact (hAp _ (hS.gv b hb).1).2.2 ht
                    · rw [hat] at hb
                      have h1 := hLo7.lt b ht
                      have h2 := Option.some.inj hb
                      have h3 := hg9.size
                      omega
                have hre9 : W9.heap[w.heap.size + 1]? = some (.cells #[.slice none 0 0] 24 (0, 0)) := (hg9.block _ (hAp _ hG1).2.1 (fun e => by have := Option.some.inj e; omega)).trans hres
                have hre11 : (W10.alloc (.cells #[.string ⟨x3.lab.name.toArray⟩, .string ⟨x3.lab.undo.toArray⟩, .bool x3.lab.sub, .bool x3.lab.vital, .int .i64 (x3.am : Int), .int .i64 (x3.inn : Int), .int .i64 (x3.alt : Int), .slice none 0 0] 34)).heap[w.heap.size + 1]? = some (.cells #[.slice none 0 0] 24 (0, 0)) := (hb11.block _ (hlt9 _ hG1)).trans hre9
                have hre12 : W12.heap[w.heap.size + 1]? = some (.cells #[.slice none 0 0] 24 (0, 0)) := (hg12.block _ (hlt11 _ hG1) (own_other hS11.own hre11 (by decide))).trans hre11
                have hre13 := Dg.row_other (i := 0) hre12 (.slice ia' ((its1 x am xs k3).length + 1) ic') (show w.heap.size + 1 ≠ g0 + 1 by omega)
                have hps : PSt (fun b => G b ∨ (Value.ownBlock (.slice ia' ((its1 x am xs k3).length + 1) ic')) = some b) w.heap.size (W12.setCell ⟨g0 + 1, 0, none⟩ (.slice ia' ((its1 x am xs k3).length + 1) ic')) w.heap.size (g0 + 1) (g0 + 3) (g0 + 2) (k3 + 1) #[.string ⟨x.toArray⟩, .slice a am ac] (.slice ia' ((its1 x am xs k3).length + 1) ic') (its1 x am xs (k3 + 1)) (List.replicate (its1 x am xs (k3 + 1)).length (.slice none 0 0)) (numF (xs.take (k3 + 1))) := by
                  rw [hI1]
                  have h1 : List.replicate (its1 x am xs k3 ++ [x3.item]).length (Value.slice none 0 0) = List.replicate (its1 x am xs k3).length (Value.slice none 0 0) ++ [.slice none 0 0] := by rw [List.length_append]; exact List.replicate_succ'
                  rw [h1]
                  exact hPS
                have hpl : Pl1 w x am #[.string ⟨x.toArray⟩, .slice a am ac] xs g0 (k3 + 1) (W12.setCell ⟨g0 + 1, 0, none⟩ (.slice ia' ((its1 x am xs k3).length + 1) ic')) TB := ⟨hLo7.rv hR12, hgd, _, _, hap, .inl hG1, hre13, hps⟩
                exact ⟨hpl, hR12⟩
            · rintro ch w'' ⟨_, h1⟩
              rw [hE] at h1
              cases h1
            · rintro w'' ⟨_, h1⟩
              rw [hE] at h1
              cases h1
    · intro W6 T2 hL hold ht2 hD
      rw [hsz9] at ht2 hD
      show wpE Tryz.prog none 90 _ _ _ _
      dsimp only
      obtain ⟨hLo6, hgood6, G6, iv6, hAp6, hG16, hres6, hS6⟩ := hL
      have hgN : goodN xs = true := goodN_true hgood6
      have hzD : (g0 + 6) < W6.heap.size := hLo6.lt _ ht2
      obtain ⟨g6, c6, rfl⟩ : ∃ g6 c6, iv6 = .slice (some ⟨g6, 0, none⟩) (xs.length + 1) c6 := by
        rcases hS6.own.2 with ⟨_, h0⟩ | ⟨g, cap, cur, rfl, _⟩
        · rw [its1_len] at h0; omega
        · exact ⟨g, cap, by rw [its1_len]⟩
      have hG6D : ¬ G6 (g0 + 6) := fun h => (hAp6 _ h).2.2 ht2
      have c1 := (Dg.cell_row hS6.hbs 1).trans rfl
      refine wpE_seq ?_
      refine wpE_seq_wp fun K hK => ?_
      go_wp2_with fail
      refine Calls.mono (nodes_maker _ _ _ _ _) ?_
      rintro e wX ⟨rfl, rfl⟩
      go_wp2_with fail
      clear c1
      obtain ⟨s6, hs6⟩ : ∃ s6, W6.heap.size = s6 := ⟨_, rfl⟩
      have hb7 : Below W6.heap.size W6 ((W6.alloc (.cells #[.int .i64 0] 3)).alloc (.cells #[.slice a am ac] 92)) := ((Below.refl _ _).alloc (Nat.le_refl _) _).alloc (by simp) _
      have q1 := Dg.row_alloc (Dg.row_new W6 #[.int .i64 0] 3) (.cells #[.slice a am ac] 92)
      have q2 := Dg.row_new (W6.alloc (.cells #[.int .i64 0] 3)) #[.slice a am ac] 92
      have hsz7 : ((W6.alloc (.cells #[.int .i64 0] 3)).alloc (.cells #[.slice a am ac] 92)).heap.size = s6 + 2 := by simp; omega
      rw [World.size_alloc] at q2
      rw [hs6] at q1 q2 hb7 hzD
      have hlt6 : ∀ b, G6 b → b < s6 := fun b hb => by have := (hAp6 b hb).2.1; omega
      have hbel7 : Below w.heap.size w ((W6.alloc (.cells #[.int .i64 0] 3)).alloc (.cells #[.slice a am ac] 92)) := hLo6.bel.trans (hb7.mono (by have := hLo6.bel.size; omega))
      have hP7 : Pl2 w x am #[.string ⟨x.toArray⟩, .slice a am ac] xs g0 (g0 + 6) 0 ((W6.alloc (.cells #[.int .i64 0] 3)).alloc (.cells #[.slice a am ac] 92)) (fun b => b = s6 ∨ b = s6 + 1) := by
        have hz6 := hLo6.bel.size
        refine ⟨⟨hbel7, fun b hb => by omega, fun b hb => by omega⟩, fun j hj => by omega, ⟨by omega, by omega, by omega, (hb7.block _ hzD).trans hD⟩, G6, g6, c6, List.replicate (its1 x am xs xs.length).length (.slice none 0 0), fun b hb => ⟨(hAp6 b hb).1, by have := hlt6 b hb; omega, by have := hlt6 b hb; omega⟩, hG6D, hG16, (hb7.block _ (hlt6 _ hG16)).trans hres6, ?_, ?_⟩
        rotate_left
        · have := hS6.agree (B := (W6.alloc (.cells #[.int .i64 0] 3)).alloc (.cells #[.slice a am ac] 92)) (fun b hb => hb7.block b (hlt6 b hb))
          rw [List.take_length] at this
          exact this
        · intro v hv z
          rw [List.mem_replicate] at hv
          rw [hv.2]
          intro h9
          cases h9
      generalize (W6.alloc (.cells #[.int .i64 0] 3)).alloc (.cells #[.slice a am ac] 92) = w7 at *
      have hseq2 := nodes_all t w.heap.size w 0 a am ac xs w7 s6 (s6 + 1) (fun b => b = s6 ∨ b = s6 + 1) hX (fun b hb => hbel7.block b hb) (by have := hbel7.size; omega) q1 q2 (.inl rfl) (.inr rfl) (fun b hb => by have := hLo6.bel.size; omega) (by omega) hsz
      clear q1 q2
      rw [hs6]
      refine wpE_block ?_
      refine range_law Tryz.func90 (gf := 102) (lb := #[.pointer (some ⟨s6, 0, none⟩), .pointer (some ⟨s6 + 1, 0, none⟩)]) rfl (enters_of Tryz.func102 (by kernel_rfl) rfl) hseq2 (fun b hb => by omega) (by have := hbel7.size; omega) (fun _ => rfl)
        (Pl2 w x am #[.string ⟨x.toArray⟩, .slice a am ac] xs g0 (g0 + 6)) (fun ch A TA => ch = rej 11 ∧ (∃ j, j < xs.length ∧ leanK x am xs j = none) ∧ Lo w A TA ∧ (g0 + 6) < A.heap.size ∧ ¬ TA (g0 + 6) ∧ A.heap[(g0 + 6)]? = some (.deferred (some [])))
        (fun k A TA B TB h m => h.mv m) (fun ch A TA d o h hd => ⟨h.1, h.2.1, h.2.2.1.put hd o, by simpa using h.2.2.2.1, h.2.2.2.2.1, (World.putObj_heap_other (fun e => h.2.2.2.2.1 (by rw [e]; exact hd))).trans h.2.2.2.2.2⟩) hP7 ?_ ?_ ?_
      · intro l3 k3 x3 WA TB hx3 hL tb1 tb2 hltA
        refine wpE_inRound (n := 5) ?_
        rw [show x3.enc = #[.int .i64 (x3.num : Int), .agg #[.string ⟨x3.lab.name.toArray⟩, .string ⟨x3.lab.undo.toArray⟩, .slice x3.sv x3.sm x3.sc, .bool x3.lab.sub, .bool x3.lab.vital, .slice x3.av x3.am x3.ac, .int .i64 (x3.inn : Int), .int .i64 (x3.alt : Int)]] from rfl, two_tmps]
        simp only [List.setIfInBounds_toArray, List.set_cons_succ, List.set_cons_zero]
        gi_wp2
        have hzW := hL.1.bel.size
        refine ⟨hL.mv (Mv.alloc_other _ _ _), Rv.alloc _ _ hzW, fun WB hLB hmv => ?_⟩
        have nw := Dg.row_new WA #[.string ⟨x3.lab.name.toArray⟩, .string ⟨x3.lab.undo.toArray⟩, .slice x3.sv x3.sm x3.sc, .bool x3.lab.sub, .bool x3.lab.vital, .slice x3.av x3.am x3.ac, .int .i64 (x3.inn : Int), .int .i64 (x3.alt : Int)] 159
        have nwB := (hmv.same WA.heap.size (by simp) (fun hx => by have := hL.1.lt _ hx; omega)).trans nw
        clear nw hmv
        obtain ⟨hLoB, hleB, ⟨dB1, dB2, dB3, dB4⟩, G, g, cap, aft, hAp, hGD, hG1, hres, hai, hS⟩ := hLB
        have hkl := (List.getElem?_eq_some_iff.1 hx3).1
        have HN3 : Hid (x3.num = k3 + 1) := by have := HCW.out.2.2 k3 x3 hx3; show _ = _; omega
        have hn4 : x3.num < xs.length + 1 := by have := HCW.out.2.2 k3 x3 hx3; have := (List.getElem?_eq_some_iff.1 hx3).1; omega
        have hxm := List.mem_of_getElem? hx3
        have hlen2 := its2_len x am xs k3
        have hil : its2 x am xs k3 ≠ [] := fun h => by rw [h] at hlen2; simp at hlen2
        obtain ⟨y3, hy3⟩ : ∃ y3, (its2 x am xs k3)[k3 + 1]? = some y3 := ⟨_, List.getElem?_eq_getElem (by rw [hlen2]; omega)⟩
        have hLN := leanings_any x3 (its2 x am xs k3) (.slice (some ⟨g, 0, none⟩) (xs.length + 1) cap) (g0 + 2) xs.length w.heap.size (numF xs) WB.drew w hS.items hS.nums (fun nm c hc => by obtain ⟨y, h1, h2⟩ := numF_some xs nm c hc; obtain ⟨j, hj, hje⟩ := List.mem_iff_getElem.1 h1; have h3 := HCW.out.2.2 j y (by rw [List.getElem?_eq_getElem hj, hje]); rw [hlen2]; omega) (hfw.out.2 x3 hxm).1 (fun b hb => hLoB.bel.block b hb) hLoB.bel.size (HAF.out x3 hxm).1 (HAF.out x3 hxm).2
        unfold LeanC at hLN
        rw [lean_two x am xs k3 hx3] at hLN
        refine wpE_block ?_
        refine wpE_inRound (n := 5) ?_
        refine regionH_round (S := fun w' => w'.heap[g0 + 1]? = some (.cells #[(.slice (some ⟨g, 0, none⟩) (xs.length + 1) cap)] 22 (0, 0)) ∧ w'.heap[WA.heap.size]? = some (.cells #[.string ⟨x3.lab.name.toArray⟩, .string ⟨x3.lab.undo.toArray⟩, .slice x3.sv x3.sm x3.sc, .bool x3.lab.sub, .bool x3.lab.vital, .slice x3.av x3.am x3.ac, .int .i64 (x3.inn : Int), .int .i64 (x3.alt : Int)] 159 (0, 0)) ∧ w'.heap[g0 + 3]? = some (.cells #[.map (some (g0 + 2))] 154 (0, 0))) l3 _ (by kernel_rfl) (noDefer_all (by kernel_rfl)) (by rintro ⟨_, _, h9⟩; exact h9) ?_
        have hS0 : WB.drew.heap[g0 + 1]? = some (.cells #[(.slice (some ⟨g, 0, none⟩) (xs.length + 1) cap)] 22 (0, 0)) ∧ WB.drew.heap[WA.heap.size]? = some (.cells #[.string ⟨x3.lab.name.toArray⟩, .string ⟨x3.lab.undo.toArray⟩, .slice x3.sv x3.sm x3.sc, .bool x3.lab.sub, .bool x3.lab.vital, .slice x3.av x3.am x3.ac, .int .i64 (x3.inn : Int), .int .i64 (x3.alt : Int)] 159 (0, 0)) ∧ WB.drew.heap[g0 + 3]? = some (.cells #[.map (some (g0 + 2))] 154 (0, 0)) := ⟨hS.hbi, nwB, hS.hbm⟩
        show wpAnyH _ _ _ _ _ _ _ { tmps := _, defers := [] } _
        simp only [List.size_toArray, List.length_cons, List.length_nil, Nat.reduceAdd, Array.replicate_succ, Array.replicate_zero, List.push_toArray, List.nil_append, List.cons_append]
        refine tV 0 54 ((.slice (some ⟨g, 0, none⟩) (xs.length + 1) cap)) 8 rfl hS0 ?_ (fun w3 hw3 => by have z0 := (Dg.cell_row hw3.1 0).trans rfl; go_simp)
        refine tK 1 55 (.int .i64 (x3.num : Int)) 7 rfl hS0 ?_
        refine tV 2 56 (.agg #[.string ⟨x3.lab.name.toArray⟩, .string ⟨x3.lab.undo.toArray⟩, .slice x3.sv x3.sm x3.sc, .bool x3.lab.sub, .bool x3.lab.vital, .slice x3.av x3.am x3.ac, .int .i64 (x3.inn : Int), .int .i64 (x3.alt : Int)]) 6 rfl hS0 ?_ (fun w3 hw3 => by have z0 := (Dg.cell_row hw3.2.1 0).trans rfl; have z1 := (Dg.cell_row hw3.2.1 1).trans rfl; have z2 := (Dg.cell_row hw3.2.1 2).trans rfl; have z3 := (Dg.cell_row hw3.2.1 3).trans rfl; have z4 := (Dg.cell_row hw3.2.1 4).trans rfl; have z5 := (Dg.cell_row hw3.2.1 5).trans rfl; have z6 := (Dg.cell_row hw3.2.1 6).trans rfl; have z7 := (Dg.cell_row hw3.2.1 7).trans rfl; go_simp)
        refine tV 3 57 ((.slice (some ⟨g, 0, none⟩) (xs.length + 1) cap)) 5 rfl hS0 ?_ (fun w3 hw3 => by have z0 := (Dg.cell_row hw3.1 0).trans rfl; go_simp)
        refine tV 4 58 (.map (some (g0 + 2))) 4 rfl hS0 ?_ (fun w3 hw3 => by have z0 := (Dg.cell_row hw3.2.2 0).trans rfl; go_simp)
        refine wpAnyH_all (fuel := 3) (rs := [5]) (by kernel_rfl) (by decide) ?_
        refine List.forall_mem_singleton.2 ?_
        cases hlk : leanK x am xs k3 with
        | none =>
          rw [hlk] at hLN
          refine wpOp_calls (i := 5) (d := 59) rfl rfl (by kernel_rfl) (f := 96) (args := #[.agg #[.string ⟨x3.lab.name.toArray⟩, .string ⟨x3.lab.undo.toArray⟩, .slice x3.sv x3.sm x3.sc, .bool x3.lab.sub, .bool x3.lab.vital, .slice x3.av x3.am x3.ac, .int .i64 (x3.inn : Int), .int .i64 (x3.alt : Int)], (.slice (some ⟨g, 0, none⟩) (xs.length + 1) cap), .map (some (g0 + 2))]) (by kernel_rfl) _ hLN ?_ ?_ ?_
          · rintro v w'' ⟨_, h1⟩
            cases h1
          · rintro ch w'' ⟨hb1, h1⟩
            cases h1
            have hbB : Below WB.heap.size WB w'' := (Below.refl _ _).drew.trans hb1
            have hR1 : Rv w.heap.size TB WB w'' := Rv.of_below hbB hLoB.bel.size
            exact ⟨rfl, ⟨rfl, ⟨k3, hkl, hlk⟩, hLoB.rv hR1, Nat.lt_of_lt_of_le dB2 hbB.size, dB3, (hbB.block _ dB2).trans dB4⟩, hR1.kd⟩
          · rintro w'' ⟨_, h1⟩
            cases h1
        | some r =>
          rw [hlk] at hLN
          refine wpOp_calls (i := 5) (d := 59) rfl rfl (by kernel_rfl) (f := 96) (args := #[.agg #[.string ⟨x3.lab.name.toArray⟩, .string ⟨x3.lab.undo.toArray⟩, .slice x3.sv x3.sm x3.sc, .bool x3.lab.sub, .bool x3.lab.vital, .slice x3.av x3.am x3.ac, .int .i64 (x3.inn : Int), .int .i64 (x3.alt : Int)], (.slice (some ⟨g, 0, none⟩) (xs.length + 1) cap), .map (some (g0 + 2))]) (by kernel_rfl) _ hLN ?_ ?_ ?_
          · rintro v WC ⟨hb1, u, h1, hu⟩
            cases h1
            have hbB : Below WB.heap.size WB WC := (Below.refl _ _).drew.trans hb1
            obtain ⟨ua, uc, rfl⟩ := own_slice hu
            have hltB : ∀ b, G b → b < WB.heap.size := fun b hb => (hAp b hb).2.1
            have hSC := hS.agree (Agree.below hbB hltB)
            have hSc : WC.heap[g0 + 1]? = some (.cells #[(.slice (some ⟨g, 0, none⟩) (xs.length + 1) cap)] 22 (0, 0)) ∧ WC.heap[WA.heap.size]? = some (.cells #[.string ⟨x3.lab.name.toArray⟩, .string ⟨x3.lab.undo.toArray⟩, .slice x3.sv x3.sm x3.sc, .bool x3.lab.sub, .bool x3.lab.vital, .slice x3.av x3.am x3.ac, .int .i64 (x3.inn : Int), .int .i64 (x3.alt : Int)] 159 (0, 0)) ∧ WC.heap[g0 + 3]? = some (.cells #[.map (some (g0 + 2))] 154 (0, 0)) := ⟨hSC.hbi, (hbB.block _ (Array.getElem?_eq_some_iff.1 nwB).1).trans nwB, hSC.hbm⟩
            refine ⟨hSc, ?_⟩
            simp only [List.setIfInBounds_toArray, List.set_cons_succ, List.set_cons_zero]
            refine wpAnyH_all (fuel := 2) (rs := [6]) (by kernel_rfl) (by decide) ?_
            refine List.forall_mem_singleton.2 ?_
            refine wpOp_value (i := 6) (d := 60) (v := .pointer (some ⟨g, x3.num * 8, none⟩)) (w' := WC) rfl rfl (by kernel_rfl) (by go_simp; intro h9; omega) ?_
            refine ⟨hSc, ?_⟩
            simp only [List.setIfInBounds_toArray, List.set_cons_succ, List.set_cons_zero]
            refine wpAnyH_all (fuel := 1) (rs := [7]) (by kernel_rfl) (by decide) ?_
            refine List.forall_mem_singleton.2 ?_
            refine wpOp_value (i := 7) (d := 61) (v := .pointer (some ⟨g, x3.num * 8 + 7, none⟩)) (w' := WC) rfl rfl (by kernel_rfl) (by go_simp) ?_
            refine ⟨hSc, ?_⟩
            simp only [List.setIfInBounds_toArray, List.set_cons_succ, List.set_cons_zero]
            refine wpAnyH_all (fuel := 0) (rs := [8]) (by kernel_rfl) (by decide) ?_
            refine List.forall_mem_singleton.2 ?_
            obtain ⟨gG, g1, g2, g3, g4⟩ := hSC.gv g rfl
            obtain ⟨v7, hv7⟩ : ∃ v7, aft[k3 + 1]? = some v7 := ⟨_, List.getElem?_eq_getElem (by rw [hSC.len, hlen2]; omega)⟩
            have hown7 : WC.ownsRow w.heap.size 34 8 (.slice (some ⟨g, 0, none⟩) (xs.length + 1) cap) (xs.length + 1) (flatV (its2 x am xs k3) aft) := by have h9 := hSC.own; rw [hlen2] at h9; exact h9
            have hc7 : WC.cell? ⟨g, x3.num * 8 + 7, none⟩ = some v7 := by
              rw [HN3.out, World.ownsRow.cellAt hown7 ((k3 + 1) * 8 + 7) (by omega)]
              have h2 : ((flatV (its2 x am xs k3) aft).drop ((k3 + 1) * 8))[7]? = some v7 := by rw [flatV_at _ _ _ _ _ hy3 hv7]; rfl
              rw [List.getElem?_drop] at h2
              exact h2
            have hf7 : WC.frozen? ⟨g, x3.num * 8 + 7, none⟩ = false := World.ownsRow.frozenAt hown7 _
            refine wpOp_skip (i := 8) (w' := WC.setCell ⟨g, x3.num * 8 + 7, none⟩ (.slice ua r.length uc)) rfl rfl (by kernel_rfl) (by go_simp) ?_
            have hwa : WA.heap.size ≠ g := fun e => own_other hSC.own hSc.2.1 (by decide) (by rw [e]; rfl)
            refine ⟨⟨Dg.row_other hSc.1 _ (fun e => g1 e.symm), Dg.row_other hSc.2.1 _ hwa, Dg.row_other hSc.2.2 _ (fun e => g3 e.symm)⟩, wpAnyH_done (by kernel_rfl) ?_ _⟩
            have hR1 : Rv w.heap.size TB WB (WC.setCell ⟨g, x3.num * 8 + 7, none⟩ (.slice ua r.length uc)) := (Rv.of_below hbB hLoB.bel.size).trans (Rv.setCell WC _ (hAp _ gG).1 (hAp _ gG).2.2)
            have hSC2 : PSt G w.heap.size WC w.heap.size (g0 + 1) (g0 + 3) (g0 + 2) xs.length #[.string ⟨x.toArray⟩, .slice a am ac] (.slice (some ⟨g, 0, none⟩) (its2 x am xs k3).length cap) (its2 x am xs k3) aft (numF xs) := by rw [hlen2]; exact hSC
            have hPS := hSC2.lean (fun b => G b ∨ (Value.ownBlock (.slice ua r.length uc)) = some b) (fun b hb => .inl hb) (k3 + 1) y3 hy3 (.slice ua r.length uc) (intsN r) (RdG.of_own G hu) hai
            rw [← HN3.out, hlen2] at hPS
            have hI2 : its2 x am xs (k3 + 1) = (its2 x am xs k3).set x3.num { y3 with after := intsN r } := by
              rw [its2, hy3, HN3.out]
              simp only
              rw [hlk]
              rfl
            have hszD : (WC.setCell ⟨g, x3.num * 8 + 7, none⟩ (.slice ua r.length uc)).heap.size = WC.heap.size := by simp
            have hwb : WB.drew.heap.size = WB.heap.size := rfl
            have hpl : Pl2 w x am #[.string ⟨x.toArray⟩, .slice a am ac] xs g0 (g0 + 6) (k3 + 1) (WC.setCell ⟨g, x3.num * 8 + 7, none⟩ (.slice ua r.length uc)) TB := by
              refine ⟨hLoB.rv hR1, fun j hj => ?_, ⟨dB1, by rw [hszD]; exact Nat.lt_of_lt_of_le dB2 hbB.size, dB3, ?_⟩, (fun b => G b ∨ (Value.ownBlock (.slice ua r.length uc)) = some b), g, cap, aft.set x3.num (.slice ua r.length uc), fun b hb => ?_, ?_, .inl hG1, ?_, ?_, ?_⟩
              · by_cases hjk : j < k3
                · exact hleB j hjk
                · have : j = k3 := by omega
                  subst this
                  rw [hlk]
                  rfl
              · exact Dg.row_other ((hbB.block _ dB2).trans dB4) _ (fun e => hGD (by rw [e]; exact gG))
              · rw [hszD]
                rcases hb with hb | hb
                · exact ⟨(hAp b hb).1, Nat.lt_of_lt_of_le (hltB b hb) hbB.size, (hAp b hb).2.2⟩
                · obtain ⟨l1, l2⟩ := own_exists hu b hb
                  have := hLoB.bel.size
                  exact ⟨by omega, l2, fun ht => by have := hLoB.lt b ht; omega⟩
              · rintro (h9 | h9)
                · exact hGD h9
                · obtain ⟨l1, l2⟩ := own_exists hu _ h9
                  omega
              · exact Dg.row_other ((hbB.block _ (hltB _ hG1)).trans hres) _ (fun e => own_other hSC.own ((hbB.block _ (hltB _ hG1)).trans hres) (by decide) (by rw [e]; rfl))
              · intro v hv z h9
                rcases List.mem_or_eq_of_mem_set hv with h8 | h8
                · exact hai v h8 z h9
                · rw [h8] at h9
                  cases h9
              · rw [hI2]
                exact hPS
            exact ⟨hpl, hR1⟩
          · rintro ch w'' ⟨_, h1⟩
            obtain ⟨_, h2, _⟩ := h1
            cases h2
          · rintro w'' ⟨_, h1⟩
            obtain ⟨_, h2, _⟩ := h1
            cases h2
      · intro W8 T3 hL8 hold8 ht8 hD8
        rw [hsz7] at ht8 hD8
        show wpE Tryz.prog none 90 _ _ _ _
        dsimp only
        obtain ⟨hLo8, hle8, ⟨d1, d2, d3, d4⟩, G, g, cap, aft, hAp, hGD, hG1, hres, hai, hS⟩ := hL8
        have hn63 : xs.length < 64 := by rw [HCW.out.1]; exact fit_cnt HFT.out
        have hlen2 := its2_len x am xs xs.length
        obtain ⟨its, HITS⟩ : ∃ its, Hid (its2 x am xs xs.length = its) := ⟨_, rfl⟩
        have hN := arcN_le x am xs xs.length hn63
        have hSm := arcP_small x am xs xs.length hn63
        rw [HITS.out] at hlen2 hN hSm hS
        have MA := arcs_any its _ W8.drew hS.items (by omega) hN
        refine wpE_seq_wp fun K hK => ?_
        refine wp_mono (Q := fun e a' w' => e = .normal ∧ K a' w') ?_ (fun e a' w' h => by rw [h.1]; exact h.2)
        refine wp_region_held (S := fun w' => w'.heap[g0 + 1]? = some (.cells #[(.slice (some ⟨g, 0, none⟩) (xs.length + 1) cap)] 22 (0, 0))) (by kernel_rfl) ?_
        have hS0 : W8.drew.heap[g0 + 1]? = some (.cells #[(.slice (some ⟨g, 0, none⟩) (xs.length + 1) cap)] 22 (0, 0)) := hS.hbi
        simp only [List.size_toArray, List.length_cons, List.length_nil, Nat.reduceAdd, Array.replicate_succ, Array.replicate_zero, List.push_toArray, List.nil_append, List.cons_append]
        refine tV 0 63 ((.slice (some ⟨g, 0, none⟩) (xs.length + 1) cap)) 9 rfl hS0 ?_ (fun w3 hw3 => by have z0 := (Dg.cell_row hw3 0).trans rfl; go_simp)
        refine tG 1 64 (.int .i64 ((xs.length + 1 : Nat) : Int)) 8 rfl hS0 ?_
        refine tV 2 65 ((.slice (some ⟨g, 0, none⟩) (xs.length + 1) cap)) 7 rfl hS0 ?_ (fun w3 hw3 => by have z0 := (Dg.cell_row hw3 0).trans rfl; go_simp)
        refine wpAnyH_all (fuel := 6) (rs := [3]) (by kernel_rfl) (by decide) ?_
        refine List.forall_mem_singleton.2 ?_
        refine wpOp_calls (i := 3) (d := 66) rfl rfl (by kernel_rfl) (f := 32) (args := #[(.slice (some ⟨g, 0, none⟩) (xs.length + 1) cap)]) (by kernel_rfl) _ MA ?_ ?_ ?_
        · rintro v W9 ⟨hb9, u9, h9, ho9⟩
          cases h9
          have hltG : ∀ b, G b → b < W8.heap.size := fun b hb => (hAp b hb).2.1
          have hb89 : Below W8.heap.size W8 W9 := (Below.refl _ _).drew.trans hb9
          have hRA := Dg.RdA.of_own ho9 hSm
          have hbw9 : Below w.heap.size w W9 := hLo8.bel.trans (hb89.mono hLo8.bel.size)
          have MO := Dg.Order_any ((xs.length + 1 : Nat) : Int) _ _ W9 hRA (Dg.Tab.later HTb.out hbw9)
          have hS1 := (hb89.block _ (hltG _ hS.gi)).trans hS.hbi
          refine ⟨hS1, ?_⟩
          simp only [List.setIfInBounds_toArray, List.set_cons_succ, List.set_cons_zero]
          refine wpAnyH_all (fuel := 5) (rs := [4]) (by kernel_rfl) (by decide) ?_
          refine List.forall_mem_singleton.2 ?_
          refine wpOp_calls (i := 4) (d := 67) rfl rfl (by kernel_rfl) (f := 97) (args := #[.int .i64 ((xs.length + 1 : Nat) : Int), v]) (by kernel_rfl) _ MO ?_ ?_ ?_
          · rintro vO WF ⟨hbF, hO⟩
            have hbw : Below W8.heap.size W8 WF := hb89.trans (hbF.mono hb89.size)
            have hS2 := (hbw.block _ (hltG _ hS.gi)).trans hS.hbi
            obtain ⟨v0, cO, hvO, hcO⟩ : ∃ v0 cO, vO = .tuple #[v0, .int .i64 cO] ∧ (cO = 0 ↔ ordOk its = true) := by
              unfold ordOk
              rw [hlen2]
              split at hO
              · rename_i c hc
                cases hO
                refine ⟨_, _, rfl, ?_⟩
                rw [hc]
                have := weave_bad hc
                constructor
                · intro h9; exact absurd h9 this
                · intro h9; cases h9
              · rename_i hc
                obtain ⟨v, h1, _⟩ := hO
                cases h1
                refine ⟨_, _, rfl, ?_⟩
                rw [hc]
                simp
            subst hvO
            clear hO MO hRA
            refine ⟨hS2, ?_⟩
            simp only [List.setIfInBounds_toArray, List.set_cons_succ, List.set_cons_zero]
            refine tK 5 62 (.tuple #[v0, .int .i64 cO]) 4 rfl hS2 ?_
            refine tK 6 68 v0 3 rfl hS2 ?_
            refine tK 7 69 (.int .i64 cO) 2 rfl hS2 ?_
            refine tK 8 11 v0 1 rfl hS2 ?_
            refine tK 9 12 (.int .i64 cO) 0 rfl hS2 ?_
            refine wpAnyH_done (by kernel_rfl) ?_ _
            refine ⟨rfl, hK _ _ ?_⟩
            have hbwF : Below w.heap.size w WF := hLo8.bel.trans (hbw.mono hLo8.bel.size)
            have hSF := hS.agree (Agree.below hbw hltG)
            have hresF := (hbw.block _ (hltG _ hG1)).trans hres
            have hd6 := (hbw.block _ d2).trans d4
            have hd8 := (hbw.block _ (hLo8.lt _ ht8)).trans hD8
            clear hS hres hS2 hS1 MA ho9 hb9 hbF hb89 hbw9
            cases hok : ordOk its with
            | false =>
              have hc0 : cO ≠ 0 := fun h => by have := hcO.1 h; rw [hok] at this; cases this
              refine wpE_seq_wp fun K hK => ?_
              go_wp2_with fail
              rw [show (cO == 0) = false from by simpa using hc0]
              refine Calls.mono (must_no 11 _) ?_
              rintro e w'' ⟨rfl, rfl⟩
              try rw [← hsz7]
              show LeavesInM Fence.wide 0 Tryz.prog Tryz.f90 _ R ([w7.heap.size, (g0 + 6)].map mark) (.panicking (rej 11)) w''
              refine leaves_marks (T := fun D => w.heap.size ≤ D) (by simp) (fun A => Below w.heap.size w A) (fun A D hD h => h.trans ⟨rfl, rfl, rfl, by simp, fun k hk => World.putObj_heap_other (by omega)⟩) (fun A h => ?_) _ w'' (Marks.cons (Marks.cons (Marks.nil _ _) (show w.heap.size ≤ g0 + 6 by omega) hd6 (by simp)) hbel7.size (by rw [hsz7]; exact hd8) (by simp; omega)) hbwF
              exact HP.out A h (by unfold planP; rw [if_neg (fun h => by have := h.2.2.2; rw [HITS.out, hok] at this; cases this)])
            | true =>
              obtain rfl : cO = 0 := hcO.2 hok
              have HOK : Hid _ := hok
              clear hcO hok
              have z0 := (Dg.cell_row hSF.hbi 0).trans rfl
              have z1 := (Dg.cell_row hresF 0).trans rfl
              have z2 := Dg.froz_row hresF 0
              refine wpE_seq_wp fun K hK => ?_
              go_wp2_with fail
              refine Calls.mono (must_yes 11 _) ?_
              rintro e w'' ⟨rfl, rfl⟩
              go_wp2_with fail
              refine wpE_seq_wp fun K hK => ?_
              go_wp2_with fail
              have hbR : Below w.heap.size w (w''.setCell ⟨w.heap.size + 1, 0, none⟩ (.slice (some ⟨g, 0, none⟩) (xs.length + 1) cap)) := hbwF.setCell (by show _ ≤ w.heap.size + 1; omega) _
              have hS5 := hSF.box hresF (by omega) (by omega) (by omega) (by omega) (.slice (some ⟨g, 0, none⟩) (xs.length + 1) cap)
              have hres5 := Dg.row_set hresF 0 (.slice (some ⟨g, 0, none⟩) (xs.length + 1) cap)
              have hd65 := Dg.row_other hd6 (.slice (some ⟨g, 0, none⟩) (xs.length + 1) cap) (i := 0) (c := w.heap.size + 1) (by omega)
              have hd85 := Dg.row_other hd8 (.slice (some ⟨g, 0, none⟩) (xs.length + 1) cap) (i := 0) (c := w.heap.size + 1) (by have := hbel7.size; omega)
              have hzW5 : W8.heap.size ≤ (w''.setCell ⟨w.heap.size + 1, 0, none⟩ (.slice (some ⟨g, 0, none⟩) (xs.length + 1) cap)).heap.size := by simp; exact hbw.size
              generalize w''.setCell ⟨w.heap.size + 1, 0, none⟩ (.slice (some ⟨g, 0, none⟩) (xs.length + 1) cap) = w5 at *
              have hG8 : ¬ G (s6 + 2) := fun h => (hAp _ h).2.2 ht8
              refine wpE_of_wp (wp_ret ?_)
              show LeavesInM Fence.wide 0 Tryz.prog Tryz.f90 _ R ([s6 + 2, (g0 + 6)].map mark) .returning w5
              refine leaves_marks (T := fun D => w.heap.size ≤ D ∧ ¬ G D) (by simp) (fun A => Below w.heap.size w A ∧ Agree G w5 A) (fun A D hD h => ⟨h.1.trans ⟨rfl, rfl, rfl, by simp, fun k hk => World.putObj_heap_other (by omega)⟩, fun b hb => (World.putObj_heap_other (fun e => hD.2 (by rw [← e]; exact hb))).trans (h.2 b hb)⟩) (fun A h => ?_) _ w5 (Marks.cons (Marks.cons (Marks.nil _ _) (show w.heap.size ≤ g0 + 6 ∧ ¬ G (g0 + 6) from ⟨by omega, hGD⟩) hd65 (by simp)) ⟨by have := hbel7.size; omega, hG8⟩ hd85 (by simp; omega)) ⟨hbR, fun _ _ => rfl⟩
              refine ⟨_, results_cell_row rfl _ _ (w.heap.size + 1) 24 _ (0, 0) _ rfl ((h.2 _ hG1).trans hres5) Tryz.underlying24 rfl (by kernel_rfl), ?_⟩
              refine HRet.out A _ its h.1 ?_ (fun B hB => ((hS5.agree h.2).agree (fun b hb => hB b (hAp b hb).1 ?_)).items)
              rotate_left
              · have h7 := (hAp b hb).2.1
                have h8 := h.2 b hb
                rw [Array.getElem?_eq_getElem (xs := w5.heap) (by omega)] at h8
                exact (Array.getElem?_eq_some_iff.1 h8).1
              unfold planP
              rw [if_pos ⟨HFT.out, hgN, hle8, by rw [HITS.out]; exact HOK.out⟩, HITS.out]
          · rintro ch w'' ⟨_, hO⟩
            split at hO
            · cases hO
            · obtain ⟨_, h2, _⟩ := hO
              cases h2
          · rintro w'' ⟨_, hO⟩
            split at hO
            · cases hO
            · obtain ⟨_, h2, _⟩ := hO
              cases h2
        · rintro ch w'' ⟨_, u9, h9, _⟩
          cases h9
        · rintro w'' ⟨_, u9, h9, _⟩
          cases h9
      · rintro ch W8 T3 ⟨rfl, ⟨j, hj, hjn⟩, hL8, d1, d2, d3⟩ hold8 ht8 hD8
        show LeavesInM Fence.wide 0 Tryz.prog Tryz.f90 _ R ([w7.heap.size, (g0 + 6)].map mark) (.panicking (rej 11)) W8
        refine leaves_marks (T := fun D => w.heap.size ≤ D) (by simp) (fun A => Below w.heap.size w A) (fun A D hD h => h.trans ⟨rfl, rfl, rfl, by simp, fun k hk => World.putObj_heap_other (by omega)⟩) (fun A h => ?_) _ W8 (Marks.cons (Marks.cons (Marks.nil _ _) (show w.heap.size ≤ g0 + 6 by omega) d3 (by simp)) hbel7.size hD8 (by simp; omega)) hL8.bel
        exact HP.out A h (by unfold planP; rw [if_neg (fun h => by have := h.2.2.1 j hj; rw [hjn] at this; cases this)])
    · rintro ch W6 T2 ⟨rfl, hfn, hL⟩ hold ht2 hD
      show LeavesInM Fence.wide 0 Tryz.prog Tryz.f90 _ R ([w9.heap.size].map mark) (.panicking (rej 11)) W6
      refine leaves_marks (T := T2) (by simp) (fun A => Lo w A T2) (fun A D hD h => h.put hD _) (fun A h => ?_) _ W6 (Marks.cons (Marks.nil _ _) ht2 hD (by simp)) hL
      exact HP.out A h.bel (by unfold planP; rw [if_neg (fun h => by rw [hfn] at h; cases h.2.1)])

end Go.Proofs.YtlegmmhacnbnlaaGreatDoor

