/- Texts of the seat, packed: Zf Zg Zh Zi Zj. -/
import Derived.Test.YtlegmmhacnbnlaaGreatDoorP31
import Derived.BigQuiet
import Derived.Deep.QuietTactic
import Derived.Deep.RegionLaw
import Derived.Test.YtlegmmhacnbnlaaGreatDoorP08
import Derived.Laws.Rows
/- The program's small functions: must, spotOf, itemOf, mustFitBodies. -/
namespace Go.Proofs.YtlegmmhacnbnlaaGreatDoor

open Go.RowKit Go.Shelf Go.Proofs.YtlegmmhacnbnlaaGreatDoor.Sx

theorem nodes_all (t : Tr) : NodesOK t := by
  have : ∀ n t, szA t ≤ n → NodesOK t := by
    intro n
    induction n with
    | zero => intro t ht; exact nodes_step t (fun tn h => by omega)
    | succ n ih => intro t ht; exact nodes_step t (fun tn h => ih tn (by omega))
  exact this _ t (Nat.le_refl _)

/-- What is panicked with. -/
def rej (c : Int) : List PanicEntry := [{ v := .iface 28 (.int .i64 c), recovered := false }]

set_option maxRecDepth 1000000 in
theorem must_yes (c : Int) (w : World) : Calls Tryz.prog 82 #[.bool true, .int .i64 c] w fun e w' => e = .returned (.tuple #[]) ∧ w' = w := by
  go_enter Tryz.func82, Tryz.ntmps82
  go_wp2_with fail
  exact ⟨rfl, _, results_none rfl _ _, rfl, rfl⟩

set_option maxRecDepth 1000000 in
theorem must_no (c : Int) (w : World) : Calls Tryz.prog 82 #[.bool false, .int .i64 c] w fun e w' => e = .panicked (rej c) ∧ w' = w := by
  go_enter Tryz.func82, Tryz.ntmps82
  go_wp2_with fail
  exact ⟨rfl, rfl, rfl⟩

/-- How 'must' ends, whatever is asked. -/
def mustE (q : Bool) (c : Int) : Ending := if q then .returned (.tuple #[]) else .panicked (rej c)

/-- May bodies be, each by itself? -/
def fitB : Tr → Bool
  | .e => true
  | .b x r => decide (0 < x.len) && decide (x.len ≤ 16) && fitB r
  | .n _ _ _ => true

def fits (t : Tr) : Bool := decide (t.len ≤ 4) && fitB t

set_option maxRecDepth 1000000 in
set_option maxHeartbeats 1000000 in
theorem mustFitBodies_any (n0 : Nat) (w0 w : World) (t : Tr) (a : Option Addr) (am ac : Nat) (ht : TAt (· < n0) w0 true t a 0 am) (hlow : ∀ b, b < n0 → w.heap[b]? = w0.heap[b]?) (hsz : szA t ≤ 1000000000) (hn : n0 ≤ w.heap.size) :
    Calls Tryz.prog 101 #[.slice a am ac] w fun e w' => e = mustE (fits t) 11 ∧ Below w.heap.size w w' := by
  have hal := ht.len
  have ham : am ≤ 1000000000 := by have := len_szA t; omega
  have HAL : Hid (am = t.len) := by show _ = _; omega
  clear hal
  by_cases h4 : am ≤ 4
  · have HF : Hid (fits t = fitB t) := by show _ = _; unfold fits; rw [← HAL.out, decide_eq_true h4]; rfl
    have h4i : (am : Int) ≤ 4 := by omega
    have h4d : decide ((am : Int) ≤ 4) = true := by simpa using h4i
    go_enter Tryz.func101, Tryz.ntmps101
    go_wp2_with fail
    refine Calls.mono (must_yes _ _) ?_
    rintro e w1 ⟨rfl, rfl⟩
    go_wp2_with fail
    go_loopw [10] (fun iv wr => ∃ (i : Nat) (r : Tr), i ≤ am ∧ iv = .int .i64 i ∧ Hid (TAt (· < n0) w0 true r a i am) ∧ Hid (fitB t = fitB r) ∧ Hid (szA r ≤ 1000000000) ∧ Hid (Below w1.heap.size w1 wr)) (fun iv _ => am - (intOf iv).toNat)
    case atStart => exact ⟨0, t, Nat.zero_le _, rfl, ht, rfl, hsz, Below.refl _ _⟩
    case round =>
      obtain ⟨i, r, hi, rfl, HTr, HFr, HSr, HB⟩ := hrel
      rename World => w2
      clear ht
      cases r with
      | e =>
        have him : i = am := HTr.out
        subst him
        go_wp2_with fail
        refine ⟨rfl, _, results_none rfl _ _, ?_, HB.out⟩
        rw [HF.out, HFr.out]
        rfl
      | n l2 t2 r2 => exact absurd HTr.out.1 (by simp)
      | b x r =>
        obtain ⟨_, hlt, ⟨b, off, v, m, c, rfl, hpb, hcb, hx⟩, hr⟩ := HTr.out
        have hc : w2.cell? ⟨b, off + i, none⟩ = some (.slice v m c) := (World.cell?_of_block (a := ⟨b, off + i, none⟩) ((HB.out.block b (by omega)).trans (hlow b hpb))).trans hcb
        have hml := hx.len
        have HML : Hid (m = x.len) := by show _ = _; omega
        have hmx : m ≤ 1000000000 := by have h1 := len_szA x; have h2 := HSr.out; simp only [szA] at h2; omega
        have hii : (i : Int) < (am : Int) := by omega
        have nb := (Dg.cell_row (Dg.row_new w2 #[.slice v m c] 145) 0).trans rfl
        have HB2 : Hid (Below w1.heap.size w1 (w2.alloc (.cells #[.slice v m c] 145))) := HB.out.alloc HB.out.size _
        have HR : Hid _ := hr
        clear hml hx hr hcb
        by_cases hq : 0 < m ∧ m ≤ 16
        · have q1 : decide ((m : Int) > 0) = true := by simp; omega
          have q1' : decide (0 < (m : Int)) = true := by simp; omega
          have q1'' : decide (0 < m) = true := by simp; omega
          have q2 : decide ((m : Int) ≤ 16) = true := by simp; omega
          have q2' : decide (m ≤ 16) = true := by simp; omega
          go_wp2_with fail
          refine Calls.mono (must_yes _ _) ?_
          rintro e w3 ⟨rfl, rfl⟩
          go_wp2_with fail
          go_roundw
          case rel =>
            refine ⟨i + 1, r, by omega, by go_num, HR, ?_, ?_, HB2⟩
            · show _ = _
              rw [HFr.out]
              simp only [fitB]
              rw [← HML.out, q1'', q2']
              rfl
            · show _ ≤ _
              have := HSr.out
              simp only [szA] at this
              omega
          case measure => simp [intOf]; omega
        · have q3 : (decide (0 < m) && decide (m ≤ 16)) = false := by
            cases h1 : decide (0 < m) with
            | false => rfl
            | true =>
              have : ¬ m ≤ 16 := fun h => hq ⟨by simpa using h1, h⟩
              simpa using this
          have HNo : Hid (fits t = false) := by
            show _ = _
            rw [HF.out, HFr.out]
            simp only [fitB]
            rw [← HML.out, q3]
            rfl
          by_cases hm0 : 0 < m
          · have hm16 : ¬ m ≤ 16 := fun h => hq ⟨hm0, h⟩
            have q1 : decide ((m : Int) > 0) = true := by simp; omega
            have q1' : decide (0 < (m : Int)) = true := by simp; omega
            have q1'' : decide (0 < m) = true := by simp; omega
            have q2 : decide ((m : Int) ≤ 16) = false := by simp; omega
            have q2' : decide (m ≤ 16) = false := by simp; omega
            go_wp2_with fail
            refine Calls.mono (must_no _ _) ?_
            rintro e w3 ⟨rfl, rfl⟩
            go_wp2_with fail
            exact ⟨rfl, by rw [HNo.out]; rfl, HB2.out⟩
          · have hm0' : m = 0 := by omega
            subst hm0'
            go_wp2_with fail
            refine Calls.mono (must_no _ _) ?_
            rintro e w3 ⟨rfl, rfl⟩
            go_wp2_with fail
            exact ⟨rfl, by rw [HNo.out]; rfl, HB2.out⟩
  · have HF : Hid (fits t = false) := by show _ = _; unfold fits; rw [← HAL.out, decide_eq_false h4]; rfl
    have h4d : decide ((am : Int) ≤ 4) = false := by simp; omega
    go_enter Tryz.func101, Tryz.ntmps101
    go_wp2_with fail
    refine Calls.mono (must_no _ _) ?_
    rintro e w1 ⟨rfl, rfl⟩
    go_wp2_with fail
    exact ⟨rfl, by rw [HF.out]; rfl, Below.refl _ _⟩

end Go.Proofs.YtlegmmhacnbnlaaGreatDoor

/- The program's mustFit. -/
namespace Go.Proofs.YtlegmmhacnbnlaaGreatDoor

open Go.RowKit Go.Shelf Go.Proofs.YtlegmmhacnbnlaaGreatDoor.Sx

attribute [local go_sem] Oper.semAt_some

/-- May all nodes' bodies be? -/
def fitN : Tr → Bool
  | .e => true
  | .b x r => fitN x && fitN r
  | .n _ t r => fits t && (fitN t && fitN r)

theorem XAt.fit {P : Nat → Prop} {w : World} (t : Tr) : ∀ (k : Bool) (a : Option Addr) (i n inn alt last : Nat) (xs : List Pd), XAt P w k t a i n inn alt last xs → (xs.all fun x => fits x.alts) = fitN t ∧ ∀ x ∈ xs, SAt P w x.lab.after x.sv x.sm ∧ TAt P w true x.alts x.av 0 x.am ∧ szA x.alts ≤ szA t := by
  induction t with
  | e => rintro k a i n inn alt last xs ⟨_, rfl⟩; exact ⟨rfl, by simp⟩
  | b x r ih1 ih2 =>
    rintro k a i n inn alt last xs ⟨_, _, ys, zs, rfl, ⟨b, off, v, m, c, _, _, _, hx⟩, hr⟩
    obtain ⟨h1, g1⟩ := ih1 _ _ _ _ _ _ _ _ hx
    obtain ⟨h2, g2⟩ := ih2 _ _ _ _ _ _ _ _ hr
    refine ⟨by rw [List.all_append, h1, h2]; rfl, fun y hy => ?_⟩
    rcases List.mem_append.1 hy with h | h
    · obtain ⟨e1, e2, e3⟩ := g1 y h; exact ⟨e1, e2, by simp only [szA]; omega⟩
    · obtain ⟨e1, e2, e3⟩ := g2 y h; exact ⟨e1, e2, by simp only [szA]; omega⟩
  | n l t r ih1 ih2 =>
    rintro k a i n inn alt last xs ⟨_, _, sv, sm, sc, av, am, ac, ys, zs, rfl, _, hs, ht, hx, hr⟩
    obtain ⟨h1, g1⟩ := ih1 _ _ _ _ _ _ _ _ hx
    obtain ⟨h2, g2⟩ := ih2 _ _ _ _ _ _ _ _ hr
    refine ⟨by rw [List.all_cons, List.all_append, h1, h2]; rfl, fun y hy => ?_⟩
    rcases List.mem_cons.1 hy with rfl | hy
    · exact ⟨hs, ht, by simp only [szA]; omega⟩
    · rcases List.mem_append.1 hy with h | h
      · obtain ⟨e1, e2, e3⟩ := g1 y h; exact ⟨e1, e2, by simp only [szA]; omega⟩
      · obtain ⟨e1, e2, e3⟩ := g2 y h; exact ⟨e1, e2, by simp only [szA]; omega⟩

/-- All below is as it was; what is owned lies above. -/
structure Lo (w : World) (A : World) (TA : Nat → Prop) : Prop where
  bel : Below w.heap.size w A
  up : ∀ b, TA b → w.heap.size ≤ b
  lt : ∀ b, TA b → b < A.heap.size

theorem Lo.mv {w A B : World} {TA TB : Nat → Prop} (h : Lo w A TA) (m : Mv TA A TB B) : Lo w B TB := by
  refine ⟨m.below h.bel (fun b hb hx => by have := h.up b hx; omega) h.bel.size, fun b hb => ?_, m.up h.lt⟩
  by_cases hb2 : b < A.heap.size
  · exact h.up b ((m.old b hb2).1 hb)
  · have := h.bel.size; omega

theorem Lo.put {w A : World} {TA : Nat → Prop} (h : Lo w A TA) {d : Nat} (hd : TA d) (o : Obj) : Lo w (A.putObj d o) TA := h.mv (Mv.putObj _ _ hd)

theorem Lo.rv {w A B : World} {TA : Nat → Prop} (h : Lo w A TA) (r : Rv w.heap.size TA A B) : Lo w B TA :=
  ⟨⟨r.os.trans h.bel.os, r.tape.trans h.bel.tape, r.output.trans h.bel.output, Nat.le_trans h.bel.size r.size, fun k hk => (r.low k hk).trans (h.bel.block k hk)⟩, h.up, fun b hb => Nat.lt_of_lt_of_le (h.lt b hb) r.size⟩

/-- May a saga's parts be? -/
noncomputable def fitS (x : By) (t : Tr) : Bool := decide (codeS x t = 0) && (decide (t.dep ≤ 5) && (decide ((fltn 1 t).length < 64) && (fits t && fitN t)))

end Go.Proofs.YtlegmmhacnbnlaaGreatDoor

/- The program's mustFit: the walk. -/
namespace Go.Proofs.YtlegmmhacnbnlaaGreatDoor

open Go.RowKit Go.Shelf Go.Proofs.YtlegmmhacnbnlaaGreatDoor.Sx

attribute [local go_sem] Oper.semAt_some

theorem TAt.later {w w' : World} {t : Tr} {k : Bool} {a : Option Addr} {i n : Nat} (h : TAt (· < w.heap.size) w k t a i n) (hb : Below w.heap.size w w') : TAt (· < w'.heap.size) w' k t a i n :=
  TAt.keep (fun b hp _ => hb.block b hp) (fun _ hp _ => Nat.lt_of_lt_of_le hp hb.size) t k a i n h

theorem codeS_cases (x : By) (t : Tr) : codeS x t = 0 ∨ codeS x t = 2 := by
  unfold codeS
  split
  · exact .inl rfl
  · exact .inr rfl

set_option maxRecDepth 1000000 in
set_option maxHeartbeats 4000000 in
theorem mustFit_in (w : World) (x : By) (t : Tr) (a : Option Addr) (am ac : Nat) (ht : TAt (· < w.heap.size) w true t a 0 am) (hb : Bnd t) (hsz : szA t ≤ 1000000000) (hcn : cntA t ≤ 1000000000) :
    CallsIn Fence.wide 0 Tryz.prog 93 #[.agg #[.string ⟨x.toArray⟩, .slice a am ac]] w fun e w' => e = mustE (fitS x t) 11 ∧ Below w.heap.size w w' := by
  obtain ⟨R, HR⟩ : ∃ R : Ending → World → Prop, Hid (R = fun e w' => e = mustE (fitS x t) 11 ∧ Below w.heap.size w w') := ⟨_, rfl⟩
  rw [← HR.out]
  have hbl0 : Below w.heap.size w (w.alloc (.cells #[.string ⟨x.toArray⟩, .slice a am ac] 94)) := (Below.refl _ w).alloc (Nat.le_refl _) _
  have nb := Dg.row_new w #[.string ⟨x.toArray⟩, .slice a am ac] 94
  have hz0 : w.heap.size < (w.alloc (.cells #[.string ⟨x.toArray⟩, .slice a am ac] 94)).heap.size := by simp
  refine callsE Tryz.func93 rfl ?_
  simp only [Tryz.ntmps93, List.size_toArray, List.length_cons, List.length_nil, Nat.reduceAdd, Nat.reduceSub, Array.replicate_succ, Array.replicate_zero, List.push_toArray, List.append_toArray, List.nil_append, List.cons_append]
  refine wpE_seq_wp fun K hK => ?_
  go_wp2_with fail
  generalize w.alloc (.cells #[.string ⟨x.toArray⟩, .slice a am ac] 94) = w1 at *
  -- Check
  have c0 := (Dg.cell_row nb 0).trans rfl
  have c1 := (Dg.cell_row nb 1).trans rfl
  have M1 : Hid _ := check_any w1 x t a am ac (TAt.later ht hbl0) hb
  refine wpE_seq_wp fun K hK => ?_
  go_wp2_with fail
  refine Calls.mono M1.out ?_
  rintro e w2 ⟨rfl, hb2⟩
  clear M1
  have hbl2 := hbl0.trans (hb2.mono hbl0.size)
  have nb2 := (hb2.block _ hz0).trans nb
  have hz2 := Nat.lt_of_lt_of_le hz0 hb2.size
  clear hbl0 nb hz0 hb2 c0 c1
  rcases codeS_cases x t with hc | hc
  rotate_left
  · have HF : Hid (fitS x t = false) := by show _ = _; unfold fitS; rw [hc]; rfl
    rw [hc]
    go_wp2_with fail
    refine Calls.mono (must_no _ _) ?_
    rintro e w3 ⟨rfl, rfl⟩
    go_wp2_with fail
    show R (.panicked (rej 11)) w3
    rw [HR.out, HF.out]
    exact ⟨rfl, hbl2⟩
  rw [hc]
  have HC : Hid _ := hc
  clear hc
  go_wp2_with fail
  refine Calls.mono (must_yes _ _) ?_
  rintro e w3 ⟨rfl, rfl⟩
  go_wp2_with fail
  -- Depth
  have c0 := (Dg.cell_row nb2 0).trans rfl
  have c1 := (Dg.cell_row nb2 1).trans rfl
  have M1 : Hid _ := depth_any w3 ⟨x.toArray⟩ t a am ac (TAt.later ht hbl2) hb
  refine wpE_seq_wp fun K hK => ?_
  go_wp2_with fail
  refine Calls.mono M1.out ?_
  rintro e w4 ⟨rfl, hb2⟩
  clear M1
  have hbl3 := hbl2.trans (hb2.mono hbl2.size)
  have nb3 := (hb2.block _ hz2).trans nb2
  have hz3 := Nat.lt_of_lt_of_le hz2 hb2.size
  clear hbl2 nb2 hz2 hb2 c0 c1
  by_cases hd : t.dep ≤ 5
  rotate_left
  · have HF : Hid (fitS x t = false) := by show _ = _; unfold fitS; rw [decide_eq_false hd]; simp
    have hdi : decide (((1 + t.dep : Nat) : Int) ≤ 6) = false := by simp; omega
    have hdi' : decide (1 + (t.dep : Int) ≤ 6) = false := by simp; omega
    have hdn : decide (1 + t.dep ≤ 6) = false := by simp; omega
    go_wp2_with fail
    refine Calls.mono (must_no _ _) ?_
    rintro e w5 ⟨rfl, rfl⟩
    go_wp2_with fail
    show R (.panicked (rej 11)) w5
    rw [HR.out, HF.out]
    exact ⟨rfl, hbl3⟩
  have hdi : decide (((1 + t.dep : Nat) : Int) ≤ 6) = true := by simp; omega
  have hdi' : decide (1 + (t.dep : Int) ≤ 6) = true := by simp; omega
  go_wp2_with fail
  refine Calls.mono (must_yes _ _) ?_
  rintro e w5 ⟨rfl, rfl⟩
  go_wp2_with fail
  clear hdi hdi'
  -- Count
  have c0 := (Dg.cell_row nb3 0).trans rfl
  have c1 := (Dg.cell_row nb3 1).trans rfl
  have M1 : Hid _ := count_any w5 ⟨x.toArray⟩ t a am ac (TAt.later ht hbl3) hb
  obtain ⟨n, HN⟩ : ∃ n, Hid ((fltn 1 t).length = n) := ⟨_, rfl⟩
  rw [HN.out] at M1
  refine wpE_seq_wp fun K hK => ?_
  go_wp2_with fail
  refine Calls.mono M1.out ?_
  rintro e w6 ⟨rfl, hb2⟩
  clear M1
  have hbl4 := hbl3.trans (hb2.mono hbl3.size)
  have nb4 := (hb2.block _ hz3).trans nb3
  have hz4 := Nat.lt_of_lt_of_le hz3 hb2.size
  clear hbl3 nb3 hz3 hb2 c0 c1
  by_cases hn : n < 64
  rotate_left
  · have HF : Hid (fitS x t = false) := by show _ = _; unfold fitS; rw [HN.out, decide_eq_false hn]; simp
    have hni : decide ((n : Int) < 64) = false := by simp; omega
    go_wp2_with fail
    refine Calls.mono (must_no _ _) ?_
    rintro e w7 ⟨rfl, rfl⟩
    go_wp2_with fail
    show R (.panicked (rej 11)) w7
    rw [HR.out, HF.out]
    exact ⟨rfl, hbl4⟩
  have hni : decide ((n : Int) < 64) = true := by simp; omega
  have hnn : (n : Int) < 64 := by omega
  go_wp2_with fail
  refine Calls.mono (must_yes _ _) ?_
  rintro e w7 ⟨rfl, rfl⟩
  go_wp2_with fail
  clear hni hnn
  have HFS : Hid (fitS x t = (fits t && fitN t)) := by show _ = _; unfold fitS; rw [HC.out, decide_eq_true hd, HN.out, decide_eq_true hn]; rfl
  clear hd hn
  -- mustFitBodies
  have c1 := (Dg.cell_row nb4 1).trans rfl
  have M1 : Hid _ := mustFitBodies_any w.heap.size w w7 t a am ac ht (fun b hb => hbl4.block b hb) hsz (by omega)
  refine wpE_seq_wp fun K hK => ?_
  go_wp2_with fail
  refine Calls.mono M1.out ?_
  rintro e w8 ⟨he, hb2⟩
  clear M1
  have hbl5 := hbl4.trans (hb2.mono hbl4.size)
  have nb5 := (hb2.block _ hz4).trans nb4
  have hz5 := Nat.lt_of_lt_of_le hz4 hb2.size
  clear hbl4 nb4 hz4 hb2 c1
  cases hft : fits t with
  | false =>
    rw [hft] at he
    obtain rfl : e = .panicked (rej 11) := he
    go_wp2_with fail
    show R (.panicked (rej 11)) w8
    rw [HR.out, HFS.out, hft]
    exact ⟨rfl, hbl5⟩
  | true =>
    rw [hft] at he
    obtain rfl : e = .returned (.tuple #[]) := he
    have HFT : Hid _ := hft
    clear hft
    go_wp2_with fail
    have c1 := (Dg.cell_row nb5 1).trans rfl
    refine wpE_seq_wp fun K hK => ?_
    go_wp2_with fail
    refine Calls.mono (nodes_maker _ _ _ _ _) ?_
    rintro e w9 ⟨rfl, rfl⟩
    go_wp2_with fail
    obtain ⟨xs, hX⟩ := TAt.xat t true a 0 am 0 0 0 ht
    have hcw := XAt.count _ _ _ _ _ _ _ _ _ hX
    have hfw := XAt.fit _ _ _ _ _ _ _ _ _ hX
    obtain ⟨s0, hs0⟩ : ∃ s0, w8.heap.size = s0 := ⟨_, rfl⟩
    have hb9 : Below w.heap.size w ((w8.alloc (.cells #[.int .i64 0] 3)).alloc (.cells #[.slice a am ac] 92)) := (hbl5.alloc (by omega) _).alloc (by simp; omega) _
    have q1 := Dg.row_alloc (Dg.row_new w8 #[.int .i64 0] 3) (.cells #[.slice a am ac] 92)
    have q2 := Dg.row_new (w8.alloc (.cells #[.int .i64 0] 3)) #[.slice a am ac] 92
    have hsz9 : ((w8.alloc (.cells #[.int .i64 0] 3)).alloc (.cells #[.slice a am ac] 92)).heap.size = s0 + 2 := by simp; omega
    rw [World.size_alloc, hs0] at q2
    rw [hs0] at q1 ⊢
    have hws : w.heap.size < s0 := by omega
    generalize (w8.alloc (.cells #[.int .i64 0] 3)).alloc (.cells #[.slice a am ac] 92) = w9 at *
    have hseq := nodes_all t w.heap.size w 0 a am ac xs w9 s0 (s0 + 1) (fun b => b = s0 ∨ b = s0 + 1) hX (fun b hb => hb9.block b hb) (by omega) q1 q2 (.inl rfl) (.inr rfl) (fun b hb => by omega) (by omega) hsz
    clear q1 q2 c1 nb5 hbl5 hz5
    refine wpE_block ?_
    refine range_law Tryz.func93 (gf := 102) (lb := #[.pointer (some ⟨s0, 0, none⟩), .pointer (some ⟨s0 + 1, 0, none⟩)]) rfl (enters_of Tryz.func102 (by kernel_rfl) rfl) hseq (fun b hb => by omega) (by omega) (fun _ => rfl)
      (fun k A TA => Lo w A TA ∧ ∀ y ∈ xs.take k, fits y.alts = true) (fun ch A TA => ch = rej 11 ∧ fitN t = false ∧ Lo w A TA)
      (fun k A TA B TB h m => ⟨h.1.mv m, h.2⟩) (fun ch A TA d o h hd => ⟨h.1, h.2.1, h.2.2.put hd o⟩) ⟨⟨hb9, fun b hb => by omega, fun b hb => by omega⟩, by simp⟩ ?_ ?_ ?_
    · intro l3 k3 x3 W6 TB hx3 hL tb1 tb2 hlt6
      obtain ⟨hs3, ht3, hz3⟩ := hfw.2 x3 (List.mem_of_getElem? hx3)
      refine wpE_inRound (n := 5) ?_
      rw [show x3.enc = #[.int .i64 (x3.num : Int), .agg #[.string ⟨x3.lab.name.toArray⟩, .string ⟨x3.lab.undo.toArray⟩, .slice x3.sv x3.sm x3.sc, .bool x3.lab.sub, .bool x3.lab.vital, .slice x3.av x3.am x3.ac, .int .i64 (x3.inn : Int), .int .i64 (x3.alt : Int)]] from rfl, two_tmps]
      simp only [List.setIfInBounds_toArray, List.set_cons_succ, List.set_cons_zero]
      gi_wp2
      have hzW := hL.1.bel.size
      refine ⟨⟨hL.1.mv (Mv.alloc_other _ _ _), hL.2⟩, Rv.alloc _ _ hzW, fun W7 hL7 hmv => ?_⟩
      have nw := Dg.row_new W6 #[.string ⟨x3.lab.name.toArray⟩, .string ⟨x3.lab.undo.toArray⟩, .slice x3.sv x3.sm x3.sc, .bool x3.lab.sub, .bool x3.lab.vital, .slice x3.av x3.am x3.ac, .int .i64 (x3.inn : Int), .int .i64 (x3.alt : Int)] 159
      have nw7 := (hmv.same W6.heap.size (by simp) (fun hx => by have := hL.1.lt _ hx; omega)).trans nw
      have g5 := (Dg.cell_row nw7 5).trans rfl
      have M : Hid _ := mustFitBodies_any w.heap.size w W7 x3.alts x3.av x3.am x3.ac ht3 (fun b hb => hL7.1.bel.block b hb) (by omega) hL7.1.bel.size
      have HS7 : Hid _ := hL7.1.bel.size
      refine wpE_inRound (n := 5) ?_
      gi_wp2_with fail
      refine ⟨trivial, ?_⟩
      refine (CallsIn.inRound l3 (callsIn_wide.2 M.out)).mono ?_
      rintro e W8 ⟨he, hb8⟩
      have hrv : Rv w.heap.size TB W7 W8 := Rv.of_below hb8 HS7.out
      cases hf3 : fits x3.alts with
      | false =>
        rw [hf3] at he
        obtain rfl : e = .panicked (rej 11) := he
        refine ⟨rfl, ⟨rfl, ?_, hL7.1.rv hrv⟩, hrv.kd⟩
        rw [← hfw.1, List.all_eq_false]
        exact ⟨x3, List.mem_of_getElem? hx3, by rw [hf3]; simp⟩
      | true =>
        rw [hf3] at he
        obtain rfl : e = .returned (.tuple #[]) := he
        clear M
        gi_wp2
        refine ⟨⟨hL7.1.rv hrv, fun y hy => ?_⟩, hrv⟩
        rw [List.take_add_one, hx3] at hy
        rcases List.mem_append.1 hy with hy | hy
        · exact hL7.2 y hy
        · simp at hy
          rw [hy]
          exact hf3
    · intro W6 T2 hL hold ht2 hD
      show LeavesInM Fence.wide 0 Tryz.prog Tryz.f93 _ R ([w9.heap.size].map mark) .returning W6
      refine leaves_marks (T := T2) (by simp) (fun A => Lo w A T2) (fun A D hD h => h.put hD _) (fun A h => ?_) _ W6 (Marks.cons (Marks.nil _ _) ht2 hD (by simp)) hL.1
      refine ⟨_, results_none rfl _ _, ?_⟩
      rw [HR.out, HFS.out, HFT.out, ← hfw.1]
      have hall : (xs.all fun x => fits x.alts) = true := by
        rw [List.all_eq_true]
        intro y hy
        exact hL.2 y (by rw [List.take_length]; exact hy)
      rw [hall]
      exact ⟨rfl, h.bel⟩
    · rintro ch W6 T2 ⟨rfl, hfn, hL⟩ hold ht2 hD
      show LeavesInM Fence.wide 0 Tryz.prog Tryz.f93 _ R ([w9.heap.size].map mark) (.panicking (rej 11)) W6
      refine leaves_marks (T := T2) (by simp) (fun A => Lo w A T2) (fun A D hD h => h.put hD _) (fun A h => ?_) _ W6 (Marks.cons (Marks.nil _ _) ht2 hD (by simp)) hL
      show R (.panicked (rej 11)) A
      rw [HR.out, HFS.out, HFT.out, hfn]
      exact ⟨rfl, h.bel⟩

end Go.Proofs.YtlegmmhacnbnlaaGreatDoor

/- Items; the program's spotOf, itemOf. -/
namespace Go.Proofs.YtlegmmhacnbnlaaGreatDoor

open Go.RowKit Go.Shelf Go.Proofs.YtlegmmhacnbnlaaGreatDoor.Sx

/-- An item. -/
structure It where
  name : By
  undo : By
  sub : Bool
  vital : Bool
  alts : Int
  inn : Int
  alt : Int
  after : List Int
deriving DecidableEq

/-- An item as it lies in memory, its After at such an address. -/
def It.cells (x : It) (av : Option Addr) (am ac : Nat) : List Value := [.string ⟨x.name.toArray⟩, .string ⟨x.undo.toArray⟩, .bool x.sub, .bool x.vital, .int .i64 x.alts, .int .i64 x.inn, .int .i64 x.alt, .slice av am ac]

set_option maxRecDepth 1000000 in
theorem spotOf_any (x : It) (av : Option Addr) (am ac : Nat) (w : World) :
    Calls Tryz.prog 29 #[.agg #[.string ⟨x.name.toArray⟩, .string ⟨x.undo.toArray⟩, .bool x.sub, .bool x.vital, .int .i64 x.alts, .int .i64 x.inn, .int .i64 x.alt, .slice av am ac]] w fun e w' => e = .returned (.agg #[.int .i64 x.inn, .int .i64 x.alt]) ∧ Below w.heap.size w w' := by
  have n2 := Dg.row_new (w.alloc (.cells #[.string ⟨x.name.toArray⟩, .string ⟨x.undo.toArray⟩, .bool x.sub, .bool x.vital, .int .i64 x.alts, .int .i64 x.inn, .int .i64 x.alt, .slice av am ac] 34)) #[.int .i64 x.inn, .int .i64 x.alt] 72
  rw [World.size_alloc] at n2
  have HB : Hid (Below w.heap.size w ((w.alloc (.cells #[.string ⟨x.name.toArray⟩, .string ⟨x.undo.toArray⟩, .bool x.sub, .bool x.vital, .int .i64 x.alts, .int .i64 x.inn, .int .i64 x.alt, .slice av am ac] 34)).alloc (.cells #[.int .i64 x.inn, .int .i64 x.alt] 72))) := ((Below.refl _ _).alloc (Nat.le_refl _) _).alloc (by simp) _
  have N2 : Hid _ := n2
  clear n2
  go_enter Tryz.func29, Tryz.ntmps29
  go_wp2_with fail
  exact bodyPost_ret_by (results_cell_row rfl _ _ (w.heap.size + 1) 72 _ (0, 0) _ rfl N2.out Tryz.underlying72 rfl (by kernel_rfl)) rfl ⟨rfl, HB.out⟩

/-- An item of a node, but for what it leans on. -/
def Pd.item (x : Pd) : It := ⟨x.lab.name, x.lab.undo, x.lab.sub, x.lab.vital, (x.am : Int), (x.inn : Int), (x.alt : Int), []⟩

/-- Has a step its undo? -/
def hasUndo (l : Lab) : Bool := l.sub || !l.undo.isEmpty

/-- How itemOf ends. -/
def itemE (x : Pd) : Ending := if hasUndo x.lab then .returned (.agg #[.string ⟨x.lab.name.toArray⟩, .string ⟨x.lab.undo.toArray⟩, .bool x.lab.sub, .bool x.lab.vital, .int .i64 (x.am : Int), .int .i64 (x.inn : Int), .int .i64 (x.alt : Int), .slice none 0 0]) else .panicked (rej 11)

set_option maxRecDepth 1000000 in
set_option maxHeartbeats 1000000 in
theorem itemOf_any (x : Pd) (w : World) :
    Calls Tryz.prog 95 #[.agg #[.string ⟨x.lab.name.toArray⟩, .string ⟨x.lab.undo.toArray⟩, .slice x.sv x.sm x.sc, .bool x.lab.sub, .bool x.lab.vital, .slice x.av x.am x.ac, .int .i64 (x.inn : Int), .int .i64 (x.alt : Int)]] w fun e w' => Below w.heap.size w w' ∧ e = itemE x := by
  cases hs : x.lab.sub with
  | true =>
    have HE : Hid (itemE x = .returned (.agg #[.string ⟨x.lab.name.toArray⟩, .string ⟨x.lab.undo.toArray⟩, .bool true, .bool x.lab.vital, .int .i64 (x.am : Int), .int .i64 (x.inn : Int), .int .i64 (x.alt : Int), .slice none 0 0])) := by show _ = _; unfold itemE; rw [show hasUndo x.lab = true by simp [hasUndo, hs], if_pos rfl, hs]
    have n2 := Dg.row_new (w.alloc (.cells #[.string ⟨x.lab.name.toArray⟩, .string ⟨x.lab.undo.toArray⟩, .slice x.sv x.sm x.sc, .bool true, .bool x.lab.vital, .slice x.av x.am x.ac, .int .i64 (x.inn : Int), .int .i64 (x.alt : Int)] 159)) #[.string ⟨x.lab.name.toArray⟩, .string ⟨x.lab.undo.toArray⟩, .bool true, .bool x.lab.vital, .int .i64 (x.am : Int), .int .i64 (x.inn : Int), .int .i64 (x.alt : Int), .slice none 0 0] 34
    rw [World.size_alloc] at n2
    have HB : Hid (Below w.heap.size w ((w.alloc (.cells #[.string ⟨x.lab.name.toArray⟩, .string ⟨x.lab.undo.toArray⟩, .slice x.sv x.sm x.sc, .bool true, .bool x.lab.vital, .slice x.av x.am x.ac, .int .i64 (x.inn : Int), .int .i64 (x.alt : Int)] 159)).alloc (.cells #[.string ⟨x.lab.name.toArray⟩, .string ⟨x.lab.undo.toArray⟩, .bool true, .bool x.lab.vital, .int .i64 (x.am : Int), .int .i64 (x.inn : Int), .int .i64 (x.alt : Int), .slice none 0 0] 34))) := ((Below.refl _ _).alloc (Nat.le_refl _) _).alloc (by simp) _
    have N2 : Hid _ := n2
    clear n2
    go_enter Tryz.func95, Tryz.ntmps95
    go_wp2_with fail
    refine Calls.mono (must_yes _ _) ?_
    rintro e w3 ⟨rfl, rfl⟩
    go_wp2_with fail
    exact bodyPost_ret_by (results_cell_row rfl _ _ (w.heap.size + 1) 34 _ (0, 0) _ rfl N2.out Tryz.underlying34 rfl (by kernel_rfl)) rfl ⟨HB.out, HE.out.symm⟩
  | false =>
    cases hu : x.lab.undo.isEmpty with
    | false =>
      have HE : Hid (itemE x = .returned (.agg #[.string ⟨x.lab.name.toArray⟩, .string ⟨x.lab.undo.toArray⟩, .bool false, .bool x.lab.vital, .int .i64 (x.am : Int), .int .i64 (x.inn : Int), .int .i64 (x.alt : Int), .slice none 0 0])) := by show _ = _; unfold itemE; rw [show hasUndo x.lab = true by simp [hasUndo, hu], if_pos rfl, hs]
      have n2 := Dg.row_new (w.alloc (.cells #[.string ⟨x.lab.name.toArray⟩, .string ⟨x.lab.undo.toArray⟩, .slice x.sv x.sm x.sc, .bool false, .bool x.lab.vital, .slice x.av x.am x.ac, .int .i64 (x.inn : Int), .int .i64 (x.alt : Int)] 159)) #[.string ⟨x.lab.name.toArray⟩, .string ⟨x.lab.undo.toArray⟩, .bool false, .bool x.lab.vital, .int .i64 (x.am : Int), .int .i64 (x.inn : Int), .int .i64 (x.alt : Int), .slice none 0 0] 34
      rw [World.size_alloc] at n2
      have HB : Hid (Below w.heap.size w ((w.alloc (.cells #[.string ⟨x.lab.name.toArray⟩, .string ⟨x.lab.undo.toArray⟩, .slice x.sv x.sm x.sc, .bool false, .bool x.lab.vital, .slice x.av x.am x.ac, .int .i64 (x.inn : Int), .int .i64 (x.alt : Int)] 159)).alloc (.cells #[.string ⟨x.lab.name.toArray⟩, .string ⟨x.lab.undo.toArray⟩, .bool false, .bool x.lab.vital, .int .i64 (x.am : Int), .int .i64 (x.inn : Int), .int .i64 (x.alt : Int), .slice none 0 0] 34))) := ((Below.refl _ _).alloc (Nat.le_refl _) _).alloc (by simp) _
      have N2 : Hid _ := n2
      clear n2
      go_enter Tryz.func95, Tryz.ntmps95
      go_wp2_with fail
      refine Calls.mono (must_yes _ _) ?_
      rintro e w3 ⟨rfl, rfl⟩
      go_wp2_with fail
      exact bodyPost_ret_by (results_cell_row rfl _ _ (w.heap.size + 1) 34 _ (0, 0) _ rfl N2.out Tryz.underlying34 rfl (by kernel_rfl)) rfl ⟨HB.out, HE.out.symm⟩
    | true =>
      have HE : Hid (itemE x = .panicked (rej 11)) := by show _ = _; unfold itemE; rw [show hasUndo x.lab = false by simp [hasUndo, hs, hu]]; rfl
      have HB : Hid (Below w.heap.size w ((w.alloc (.cells #[.string ⟨x.lab.name.toArray⟩, .string ⟨x.lab.undo.toArray⟩, .slice x.sv x.sm x.sc, .bool false, .bool x.lab.vital, .slice x.av x.am x.ac, .int .i64 (x.inn : Int), .int .i64 (x.alt : Int)] 159)).alloc (.cells #[.string ⟨#[]⟩, .string ⟨#[]⟩, .bool false, .bool false, .int .i64 0, .int .i64 0, .int .i64 0, .slice none 0 0] 34))) := ((Below.refl _ _).alloc (Nat.le_refl _) _).alloc (by simp) _
      go_enter Tryz.func95, Tryz.ntmps95
      go_wp2_with fail
      refine Calls.mono (must_no _ _) ?_
      rintro e w3 ⟨rfl, rfl⟩
      go_wp2_with fail
      exact ⟨rfl, HB.out, HE.out.symm⟩

end Go.Proofs.YtlegmmhacnbnlaaGreatDoor

/- Whole numbers in a slice; slices.Index, slices.Contains. -/
namespace Go.Proofs.YtlegmmhacnbnlaaGreatDoor

open Go.RowKit Go.Shelf Go.Proofs.YtlegmmhacnbnlaaGreatDoor.Sx

/-- Whole numbers as they lie in a slice. -/
def RdZ (w : World) (v : Value) (l : List Int) : Prop := ∃ a cap, v = .slice a l.length cap ∧ l.length ≤ cap ∧ ∀ (i : Nat) (x : Int), l[i]? = some x → ∃ b off, a = some ⟨b, off, none⟩ ∧ w.cell? ⟨b, off + i, none⟩ = some (.int .i64 x)

theorem RdZ.later {w w' : World} {v : Value} {l : List Int} (h : RdZ w v l) (hb : Below w.heap.size w w') : RdZ w' v l := by
  obtain ⟨a, cap, hv, hc, hr⟩ := h
  refine ⟨a, cap, hv, hc, fun i x hi => ?_⟩
  obtain ⟨b, off, ha, c0⟩ := hr i x hi
  exact ⟨b, off, ha, Dg.cell_later hb c0⟩

set_option maxRecDepth 1000000 in
set_option maxHeartbeats 1000000 in
theorem Index_any (v : Value) (l : List Int) (y : Int) (w : World) (hl : RdZ w v l) (hn : l.length ≤ 1000000000) :
    Calls Tryz.prog 51 #[v, .int .i64 y] w fun e w' => (∃ q : Int, e = .returned (.int .i64 q) ∧ (decide (0 ≤ q) = decide (y ∈ l))) ∧ w' = w := by
  obtain ⟨a, cap, rfl, hc, hr⟩ := hl
  have HR : Hid _ := hr
  obtain ⟨n, HN⟩ : ∃ n, Hid (l.length = n) := ⟨_, rfl⟩
  rw [HN.out] at hn hc ⊢
  clear hr
  go_enter Tryz.func51, Tryz.ntmps51
  go_wp2_with fail
  go_loopw [8] (fun iv wr => ∃ (i : Nat), i ≤ n ∧ iv = .int .i64 i ∧ Hid (y ∉ l.take i) ∧ wr = w) (fun iv _ => n - (intOf iv).toNat)
  case atStart => exact ⟨0, Nat.zero_le _, rfl, by show _ ∉ _; simp, rfl⟩
  case round =>
    obtain ⟨i, hi, rfl, HY, rfl⟩ := hrel
    by_cases hlt : i < n
    · obtain ⟨z, hz⟩ : ∃ z, l[i]? = some z := ⟨_, List.getElem?_eq_getElem (by rw [HN.out]; exact hlt)⟩
      obtain ⟨b, off, rfl, c0⟩ := HR.out i z hz
      have hii : (i : Int) < (n : Int) := by omega
      by_cases hyz : y = z
      · subst hyz
        have HIn : Hid (y ∈ l) := List.mem_of_getElem? hz
        clear hz
        go_wp2_with fail
        go_ret
        exact ⟨⟨_, rfl, by rw [decide_eq_true HIn.out]; simp⟩, rfl⟩
      · have hb : (y == z) = false := by simpa using hyz
        have HNx : Hid (y ∉ l.take (i + 1)) := by
          show _ ∉ _
          rw [List.take_add_one, hz]
          intro hm
          rcases List.mem_append.1 hm with h | h
          · exact HY.out h
          · simp at h; exact hyz h
        clear hz
        go_wp2_with fail
        go_roundw
        case rel => exact ⟨i + 1, by omega, by go_num, HNx, trivial⟩
        case measure => simp [intOf]; omega
    · have hin : i = n := by omega
      subst hin
      have HNo : Hid (y ∉ l) := by
        show _ ∉ _
        have := HY.out
        rw [List.take_of_length_le (by rw [HN.out]; exact Nat.le_refl _)] at this
        exact this
      go_wp2_with fail
      go_ret
      exact ⟨⟨_, rfl, by rw [decide_eq_false HNo.out]; rfl⟩, rfl⟩

set_option maxRecDepth 1000000 in
theorem Contains_any (v : Value) (l : List Int) (y : Int) (w : World) (hl : RdZ w v l) (hn : l.length ≤ 1000000000) :
    Calls Tryz.prog 37 #[v, .int .i64 y] w fun e w' => e = .returned (.bool (decide (y ∈ l))) ∧ w' = w := by
  have M : Hid _ := Index_any v l y w hl hn
  obtain ⟨a, cap, rfl, hc, hr⟩ := hl
  clear hr
  go_enter Tryz.func37, Tryz.ntmps37
  go_wp2_with fail
  refine Calls.mono M.out ?_
  rintro e w1 ⟨⟨q, rfl, hq⟩, rfl⟩
  have HQ : Hid _ := hq
  clear hq M
  go_wp2_with fail
  go_ret
  refine ⟨?_, rfl⟩
  rw [← HQ.out]
  rfl

end Go.Proofs.YtlegmmhacnbnlaaGreatDoor

