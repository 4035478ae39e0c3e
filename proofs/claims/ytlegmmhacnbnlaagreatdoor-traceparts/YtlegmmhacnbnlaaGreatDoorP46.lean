/- Texts of the seat, packed: Yi Yj Yl. -/
import Derived.Test.YtlegmmhacnbnlaaGreatDoorP45
import Derived.Test.YtlegmmhacnbnlaaGreatDoorP13
import Derived.Test.YtlegmmhacnbnlaaGreatDoorP12
/- The program's Back and Right. -/
namespace Go.Proofs.YtlegmmhacnbnlaaGreatDoor

open Go.RowKit Go.Shelf Go.Proofs.YtlegmmhacnbnlaaGreatDoor.Sx

/-- How Back ends. -/
def BackC (its : List It) (w : World) (e : Ending) (w' : World) : Prop := Below w.heap.size w w' ∧ match sagaP its with
  | none => e = .returned (.tuple #[.agg #[.string ⟨#[]⟩, .slice none 0 0], .int .i64 2])
  | some (x, t) => ∃ a c, e = .returned (.tuple #[.agg #[.string ⟨x.toArray⟩, .slice a t.len c], .int .i64 0]) ∧ TAt (Since w w') w' true t a 0 t.len

theorem BackC.bad {its : List It} {w w' : World} (h : sagaP its = none) (hb : Below w.heap.size w w') : BackC its w (.returned (.tuple #[.agg #[.string ⟨#[]⟩, .slice none 0 0], .int .i64 2])) w' := by
  unfold BackC
  rw [h]
  exact ⟨hb, rfl⟩

theorem BackC.ok {its : List It} {w w' : World} {x : By} {t : Tr} {a : Option Addr} {c : Nat} (h : sagaP its = some (x, t)) (hb : Below w.heap.size w w') (ht : TAt (Since w w') w' true t a 0 t.len) : BackC its w (.returned (.tuple #[.agg #[.string ⟨x.toArray⟩, .slice a t.len c], .int .i64 0])) w' := by
  unfold BackC
  rw [h]
  exact ⟨hb, a, c, rfl, ht⟩

set_option maxRecDepth 1000000 in
set_option maxHeartbeats 2000000 in
theorem answer33 (its : List It) (v : Value) (w : World) (b : Nat) (hb : w.heap[b]? = some (.cells #[v] 24 (0, 0))) (hIt : RdIt w v its) (hF : FairI its) (hT : Dg.Tab w) :
    Calls Tryz.prog 64 #[.func (Fn.func 65) #[] #[.pointer (some ⟨b, 0, none⟩)]] w fun e w' => BackC its w e w' := by
  have hb1 : Below w.heap.size w ((w.alloc (.cells #[.string ⟨#[]⟩, .slice none 0 0] 94)).alloc (.cells #[.int .i64 0] 28)) := ((Below.refl _ w).alloc (Nat.le_refl _) _).alloc (by simp) _
  have r2 := Dg.row_alloc (Dg.row_new w #[.string ⟨#[]⟩, .slice none 0 0] 94) (.cells #[.int .i64 0] 28)
  have r3 := Dg.row_new (w.alloc (.cells #[.string ⟨#[]⟩, .slice none 0 0] 94)) #[.int .i64 0] 28
  have rb := Dg.row_alloc (Dg.row_alloc hb (.cells #[.string ⟨#[]⟩, .slice none 0 0] 94)) (.cells #[.int .i64 0] 28)
  rw [World.size_alloc] at r3
  have M : Hid _ := back1_any its v _ b rb (hIt.later hb1) hF (hT.later hb1)
  go_enter_defers Tryz.func64, Tryz.ntmps64
  go_wp2_with fail
  generalize (w.alloc (.cells #[.string ⟨#[]⟩, .slice none 0 0] 94)).alloc (.cells #[.int .i64 0] 28) = w1 at *
  have hz : w.heap.size + 1 < w1.heap.size := (Array.getElem?_eq_some_iff.1 r3).1
  refine Calls.mono M.out ?_
  rintro e w2 ⟨hb2, he⟩
  clear M
  have hbw := hb1.trans (hb2.mono hb1.size)
  have s2 := (hb2.block _ (by omega)).trans r2
  have s3 := (hb2.block _ hz).trans r3
  cases hP : sagaP its with
  | none =>
    rw [hP] at he
    obtain rfl : e = .panicked (rej 2) := he
    refine pan33 s2 s3 (by omega) rfl rfl rfl (BackC.bad hP ?_)
    exact ((((hbw.alloc hbw.size _).setCell (Nat.le_refl _) _).setCell (Nat.le_refl _) _).setCell (by show _ ≤ w.heap.size + 1; omega) _).drew
  | some p =>
    obtain ⟨x, t⟩ := p
    rw [hP] at he
    obtain ⟨a, c, rfl, ht⟩ := he
    have HT : Hid _ := ht
    have HP : Hid _ := hP
    have z2 := (Dg.cell_row s2 0).trans rfl
    have z2' := (Dg.cell_row s2 1).trans rfl
    have f2 := Dg.froz_row s2 0
    have f2' := Dg.froz_row s2 1
    obtain ⟨t1, t2, t3, t4⟩ := two_row s2 (.string ⟨x.toArray⟩) (.slice a t.len c)
    have s3' := (t3 _ (show w.heap.size + 1 ≠ w.heap.size by omega)).trans s3
    have z3 := (Dg.cell_row s3' 0).trans rfl
    have f3 := Dg.froz_row s3' 0
    have hbE := hbw.trans (t4 w.heap.size (Nat.le_refl _))
    have T1 : Hid _ := t1
    have S3 : Hid _ := s3'
    have T2 : Hid _ := t2
    have T3 : Hid _ := t3
    have HBE : Hid _ := hbE
    clear ht hP hbw s2 s3 s3' t1 t2 t3 t4 hbE
    go_wp2_with fail
    generalize (w2.setCell ⟨w.heap.size, 0, none⟩ (.string ⟨x.toArray⟩)).setCell ⟨w.heap.size, 1, none⟩ (.slice a t.len c) = w3 at *
    refine ret33 (b2 := w.heap.size) (b3 := w.heap.size + 1) (Dg.row_other T1.out (i := 0) (c := w.heap.size + 1) (.int .i64 0) (by omega)) (Dg.row_set S3.out 0 (.int .i64 0)) rfl rfl rfl (BackC.ok HP.out (HBE.out.setCell (by show _ ≤ w.heap.size + 1; omega) _) ?_)
    exact TAt.keep (fun b hb _ => (Below.heap_setCell _ _ _ _ (by have := hb.1; show b ≠ w.heap.size + 1; omega)).trans (T3.out b (by have := hb.1; omega))) (fun b hb _ => ⟨by have := hb.1; omega, by have h8 := T2.out; have := hb.2; simp; omega⟩) _ _ _ _ _ HT.out

set_option maxRecDepth 1000000 in
set_option maxHeartbeats 2000000 in
/-- Back tells a plan's saga. -/
theorem Back_any (its : List It) (v : Value) (w : World) (hIt : RdIt w v its) (hF : FairI its) (hT : Dg.Tab w) :
    Calls Tryz.prog 44 #[.agg #[v]] w fun e w' => BackC its w e w' := by
  have hb1 : Below w.heap.size w ((w.alloc (.cells #[v] 24)).alloc (.cells #[.string ⟨#[]⟩, .slice none 0 0] 94)) := ((Below.refl _ w).alloc (Nat.le_refl _) _).alloc (by simp) _
  have r1 := Dg.row_alloc (Dg.row_new w #[v] 24) (.cells #[.string ⟨#[]⟩, .slice none 0 0] 94)
  have r2 := Dg.row_new (w.alloc (.cells #[v] 24)) #[.string ⟨#[]⟩, .slice none 0 0] 94
  rw [World.size_alloc] at r2
  have M : Hid _ := answer33 its v _ w.heap.size r1 (hIt.later hb1) hF (hT.later hb1)
  obtain ⟨ia, icap, rfl, _⟩ := hIt
  go_enter Tryz.func44, Tryz.ntmps44
  go_wp2_with fail
  generalize (w.alloc (.cells #[.slice ia its.length icap] 24)).alloc (.cells #[.string ⟨#[]⟩, .slice none 0 0] 94) = w1 at *
  have hz : w.heap.size + 1 < w1.heap.size := (Array.getElem?_eq_some_iff.1 r2).1
  refine Calls.mono M.out ?_
  rintro e w2 ⟨hb2, he⟩
  clear M
  have hbw := hb1.trans (hb2.mono hb1.size)
  have s2 := (hb2.block _ hz).trans r2
  have z2 := (Dg.cell_row s2 0).trans rfl
  have z2' := (Dg.cell_row s2 1).trans rfl
  have f2 := Dg.froz_row s2 0
  have f2' := Dg.froz_row s2 1
  have S2 : Hid _ := s2
  have HBW : Hid _ := hbw
  clear s2 hbw
  cases hP : sagaP its with
  | none =>
    rw [hP] at he
    have HP : Hid _ := hP
    obtain rfl : e = .returned (.tuple #[.agg #[.string ⟨#[]⟩, .slice none 0 0], .int .i64 2]) := he
    clear hP
    go_wp2_with fail
    obtain ⟨t1, t2, t3, t4⟩ := two_row S2.out (.string ⟨#[]⟩) (.slice none 0 0)
    have q2 := (Dg.cell_row t1 0).trans rfl
    have q2' := (Dg.cell_row t1 1).trans rfl
    exact bodyPost_ret_by (by simp [results, Tryz.results44, go_sem, q2, q2']) rfl (BackC.bad HP.out (HBW.out.trans (t4 w.heap.size (by omega))))
  | some p =>
    obtain ⟨x, t⟩ := p
    rw [hP] at he
    obtain ⟨a, c, rfl, ht⟩ := he
    have HT : Hid _ := ht
    have HP : Hid _ := hP
    clear ht hP
    go_wp2_with fail
    obtain ⟨t1, t2, t3, t4⟩ := two_row S2.out (.string ⟨x.toArray⟩) (.slice a t.len c)
    have q2 := (Dg.cell_row t1 0).trans rfl
    have q2' := (Dg.cell_row t1 1).trans rfl
    refine bodyPost_ret_by (by simp [results, Tryz.results44, go_sem, q2, q2']) rfl (BackC.ok (a := a) (c := c) HP.out (HBW.out.trans (t4 w.heap.size (by omega))) ?_)
    exact TAt.keep (fun b hb _ => t3 b (by have := hb.1; omega)) (fun b hb _ => ⟨by have := hb.1; omega, by rw [t2]; exact hb.2⟩) _ _ _ _ _ HT.out

set_option maxRecDepth 1000000 in
set_option maxHeartbeats 2000000 in
/-- Right tells whether a plan is a saga's. -/
theorem Right_any (its : List It) (v : Value) (w : World) (hIt : RdIt w v its) (hF : FairI its) (hT : Dg.Tab w) :
    Calls Tryz.prog 28 #[.agg #[v]] w fun e w' => e = .returned (.bool (sagaP its).isSome) ∧ Below w.heap.size w w' := by
  have hb1 : Below w.heap.size w (w.alloc (.cells #[v] 24)) := (Below.refl _ w).alloc (Nat.le_refl _) _
  have r1 := Dg.row_new w #[v] 24
  have M : Hid _ := Back_any its v _ (hIt.later hb1) hF (hT.later hb1)
  obtain ⟨ia, icap, rfl, _⟩ := hIt
  have g0 := (Dg.cell_row r1 0).trans rfl
  go_enter Tryz.func28, Tryz.ntmps28
  go_wp2_with fail
  generalize w.alloc (.cells #[.slice ia its.length icap] 24) = w1 at *
  refine Calls.mono M.out ?_
  rintro e w2 ⟨hb2, he⟩
  clear M g0
  have HBW : Hid _ := hb1.trans (hb2.mono hb1.size)
  have hz := hb1.size
  have hz2 := hb2.size
  cases hP : sagaP its with
  | none =>
    rw [hP] at he
    obtain rfl : e = .returned (.tuple #[.agg #[.string ⟨#[]⟩, .slice none 0 0], .int .i64 2]) := he
    have HP : Hid _ := hP
    clear hP
    go_wp2_with fail
    go_ret
    rw [HP.out]
    exact ⟨rfl, HBW.out.alloc (by omega) _⟩
  | some p =>
    obtain ⟨x, t⟩ := p
    rw [hP] at he
    obtain ⟨a, c, rfl, ht⟩ := he
    have HP : Hid _ := hP
    clear ht hP
    go_wp2_with fail
    go_ret
    rw [HP.out]
    exact ⟨rfl, HBW.out.alloc (by omega) _⟩

end Go.Proofs.YtlegmmhacnbnlaaGreatDoor

/- The program's See. -/
namespace Go.Proofs.YtlegmmhacnbnlaaGreatDoor

open Go.RowKit Go.Shelf Go.Proofs.YtlegmmhacnbnlaaGreatDoor.Sx

theorem inf97 : (Tryz.prog.info? 72).map (fun i => (i.zero, i.size, i.bytes)) = some (some (.agg #[.int .i64 0, .int .i64 0]), 2, 16) := by kernel_rfl

/-- The spots of items, as the values of a row. -/
def spV : List It → List Value
  | [] => []
  | x :: r => .int .i64 x.inn :: .int .i64 x.alt :: spV r

theorem spV_append : ∀ (l m : List It), spV (l ++ m) = spV l ++ spV m
  | [], _ => rfl
  | x :: r, m => by simp [spV, spV_append r m]

theorem spV_at : ∀ (l : List It) (i : Nat) (x : It), l[i]? = some x → (spV l)[i * 2]? = some (.int .i64 x.inn) ∧ (spV l)[i * 2 + 1]? = some (.int .i64 x.alt)
  | [], i, x, h => by simp at h
  | y :: r, 0, x, h => by simp at h; subst h; exact ⟨rfl, rfl⟩
  | y :: r, i + 1, x, h => by
    have := spV_at r i x (by simpa using h)
    rw [show (i + 1) * 2 = i * 2 + 2 by omega]
    exact this

/-- A plan that is right can be turned round. -/
theorem right_facts {its : List It} {p : By × Tr} (h : sagaP its = some p) : its.length ≤ 64 ∧ arcN its ≤ 1000000 ∧ Dg.Small (arcP its) ∧ (arcP its).length ≤ 8192 ∧ ∃ W o, Dg.weaveP (its.length : Int) (Dg.swapA (arcP its)) = .ok W o := by
  unfold sagaP at h
  split at h
  · rename_i hc
    have hp := hc.2
    have hf := fit_cnt (planT_fit hp)
    unfold planT planP at hp
    split at hp
    · rename_i hd
      have hl := xsT_len (bodS its) 0 0 0
      have he := Option.some.inj hp
      have ho := hd.2.2.2
      have hn63 : (xsT (bodS its) 0 0 0).length < 64 := by omega
      have h1 := arcN_le (nameI its 0) (bodS its).len (xsT (bodS its) 0 0 0) (xsT (bodS its) 0 0 0).length hn63
      have h2 := arcP_small (nameI its 0) (bodS its).len (xsT (bodS its) 0 0 0) (xsT (bodS its) 0 0 0).length hn63
      have h3 := its2_len (nameI its 0) (bodS its).len (xsT (bodS its) 0 0 0) (xsT (bodS its) 0 0 0).length
      rw [he] at h1 h2 h3 ho
      unfold ordOk at ho
      cases hw : Dg.weaveP (its.length : Int) (arcP its) with
      | bad c => rw [hw] at ho; cases ho
      | ok W o =>
        have hlen : (arcP its).length ≤ 4096 := by
          unfold Dg.weaveP at hw
          split at hw
          · cases hw
          · rename_i hx
            simp only [not_or] at hx
            omega
        refine ⟨by omega, h1, h2, by omega, ?_⟩
        rcases Dg.weave_turn (its.length : Int) (arcP its) with ⟨c, h9, _⟩ | ⟨o1, o2, _, h9⟩
        · rw [hw] at h9; cases h9
        · exact ⟨_, _, h9⟩
    · cases hp
  · cases h

/-- What See knows once k items are looked at. -/
structure SeS (w : World) (v : Value) (its : List It) (vb k : Nat) (A : World) (sv : Value) : Prop where
  bel : Below w.heap.size w A
  box : A.heap[w.heap.size]? = some (.cells #[v] 24 (0, 0))
  vw : A.heap[vb]? = some (.cells #[sv, .slice none 0 0] 70 (0, 0))
  ge : w.heap.size < vb
  own : A.ownsRow w.heap.size 72 2 sv k (spV (its.take k))

theorem SeS.later {w : World} {v : Value} {its : List It} {vb k : Nat} {A B : World} {sv : Value} (h : SeS w v its vb k A sv) (hb : Below A.heap.size A B) : SeS w v its vb k B sv := by
  have hlt : ∀ {b : Nat} {o : Obj}, A.heap[b]? = some o → b < A.heap.size := fun h => (Array.getElem?_eq_some_iff.1 h).1
  exact ⟨h.bel.trans (hb.mono h.bel.size), (hb.block _ (hlt h.box)).trans h.box, (hb.block _ (hlt h.vw)).trans h.vw, h.ge, own_below h.own hb⟩

theorem SeS.push {w : World} {v : Value} {its : List It} {vb k : Nat} {A B : World} {sv : Value} (h : SeS w v its vb k A sv) (y : It) (hy : its[k]? = some y) (hb : Below A.heap.size A B) (hk : k ≤ 100000) :
    ∃ ua m uc W3, (Builtin.append_ #[67, 67] 67 #[sv, .slice (some ⟨B.heap.size, 0, none⟩) 1 1]).run Tryz.prog (B.alloc (.cells #[.int .i64 y.inn, .int .i64 y.alt] 72)) = .ok (.slice ua m uc) W3 ∧ (B.alloc (.cells #[.int .i64 y.inn, .int .i64 y.alt] 72)).grownBy W3 sv.ownBlock ∧ W3.heap[vb]? = some (.cells #[sv, .slice none 0 0] 70 (0, 0)) ∧
      SeS w v its vb (k + 1) (W3.setCell ⟨vb, 0, none⟩ (.slice ua m uc)) (.slice ua m uc) := by
  obtain ⟨i0, hi0, hz0, hz1, hz2⟩ := info_parts inf97
  have hB2 : Below A.heap.size A (B.alloc (.cells #[.int .i64 y.inn, .int .i64 y.alt] 72)) := hb.alloc hb.size _
  have h2 := h.later hB2
  have hcl : ∀ (j : Nat) (u : Value), ([.int .i64 y.inn, .int .i64 y.alt] : List Value)[j]? = some u → (B.alloc (.cells #[.int .i64 y.inn, .int .i64 y.alt] 72)).cell? ((⟨B.heap.size, 0, none⟩ : Addr).add j) = some u := by
    intro j u hj
    rw [Go.WideShapes.add_plain, Nat.zero_add, Dg.cell_row (Dg.row_new B #[.int .i64 y.inn, .int .i64 y.alt] 72), ← Array.getElem?_toList]
    exact hj
  obtain ⟨u', W3, hr3, ho3, hg3, _, hat3⟩ := run_append_own_at (P := Tryz.prog) (B.alloc (.cells #[.int .i64 y.inn, .int .i64 y.alt] 72)) w.heap.size 67 67 72 i0 _ 2 _ Tryz.underlying67 hi0 hz0 hz1 hz2 rfl (by decide) sv _ _ h2.own ⟨B.heap.size, 0, none⟩ 1 1 [.int .i64 y.inn, .int .i64 y.alt] rfl hcl (by intro u hu; simp at hu; rcases hu with rfl | rfl <;> rfl) (by unfold maxLen; omega) (by omega) h2.bel.size
  obtain ⟨ua, uc, rfl⟩ := own_slice ho3
  have hlt : ∀ {b : Nat} {o : Obj}, (B.alloc (.cells #[.int .i64 y.inn, .int .i64 y.alt] 72)).heap[b]? = some o → b < (B.alloc (.cells #[.int .i64 y.inn, .int .i64 y.alt] 72)).heap.size := fun h => (Array.getElem?_eq_some_iff.1 h).1
  have hv3 : W3.heap[vb]? = some (.cells #[sv, .slice none 0 0] 70 (0, 0)) := (hg3.block _ (hlt h2.vw) (own_other h2.own h2.vw (by decide))).trans h2.vw
  have hb3 : W3.heap[w.heap.size]? = some (.cells #[v] 24 (0, 0)) := (hg3.block _ (hlt h2.box) (own_other h2.own h2.box (by decide))).trans h2.box
  have hge := h.ge
  refine ⟨ua, _, uc, W3, hr3, hg3, hv3, ?_, ?_, ?_, hge, ?_⟩
  · refine (h2.bel.trans ⟨hg3.os, hg3.tape, hg3.output, hg3.size, fun b hb' => hg3.block b (by have := h2.bel.size; omega) (fun e => ?_)⟩).setCell (by show _ ≤ vb; omega) _
    have := (own_exists h2.own b e.symm).1
    omega
  · exact Dg.row_other hb3 _ (by omega)
  · exact Dg.row_set hv3 0 _
  · rw [List.take_add_one, hy]
    have h9 : W3.ownsRow w.heap.size 72 2 (.slice ua (k + 1) uc) (k + 1) (spV (its.take k ++ (some y).toList)) := by
      rw [spV_append]
      exact ho3
    exact own_agree (G := fun b => b ≠ vb) (fun b hb' => Below.heap_setCell _ _ _ _ hb') h9 (fun b hb' e => own_other h9 hv3 (by decide) (e ▸ hb'.symm))

/-- How See ends. -/
def SeeC (its : List It) (w : World) (e : Ending) (w' : World) : Prop := Below w.heap.size w w' ∧ match sagaP its with
  | none => e = .returned (.tuple #[.pointer none, .int .i64 2])
  | some _ => ∃ b W o, e = .returned (.tuple #[.pointer (some ⟨b, 0, none⟩), .int .i64 0]) ∧ w.heap.size ≤ b ∧ Dg.weaveP (its.length : Int) (Dg.swapA (arcP its)) = .ok W o ∧ VwAt w' b its (Dg.reachL W o)

theorem SeeC.bad {its : List It} {w w' : World} (h : sagaP its = none) (hb : Below w.heap.size w w') : SeeC its w (.returned (.tuple #[.pointer none, .int .i64 2])) w' := by
  unfold SeeC
  rw [h]
  exact ⟨hb, rfl⟩

theorem SeeC.ok {its : List It} {w w' : World} {p : By × Tr} {b : Nat} {W o : List Nat} (h : sagaP its = some p) (hb : Below w.heap.size w w') (hz : w.heap.size ≤ b) (hw : Dg.weaveP (its.length : Int) (Dg.swapA (arcP its)) = .ok W o) (hv : VwAt w' b its (Dg.reachL W o)) : SeeC its w (.returned (.tuple #[.pointer (some ⟨b, 0, none⟩), .int .i64 0])) w' := by
  unfold SeeC
  rw [h]
  exact ⟨hb, b, W, o, rfl, hz, hw, hv⟩

end Go.Proofs.YtlegmmhacnbnlaaGreatDoor

/- The program's Reach: what it tells lies in blocks of its own. -/
namespace Go.Proofs.YtlegmmhacnbnlaaGreatDoor.Dg

open Go.RowKit Go.Shelf

/-- How Reach ends, and where its rows lie. -/
def ReachQ (n : Int) (l : List (Int × Int)) (w : World) (e : Ending) (w' : World) : Prop := Below w.heap.size w w' ∧ match weaveP n l with
  | .bad c => e = .returned (.tuple #[.slice none 0 0, .int .i64 c])
  | .ok W o => ∃ q, e = .returned (.tuple #[.slice (some ⟨q, 0, none⟩) n.toNat n.toNat, .int .i64 0]) ∧ w.heap.size ≤ q ∧ RowsI w' q n.toNat n.toNat (reachL W o) ∧ (reachL W o).length = n.toNat

/-- Rows stand, as long as no block from theirs on is turned. -/
theorem RowsI.keep {w w' : World} {q k n : Nat} {L : List (List Nat)} (h : RowsI w q k n L) (hk : ∀ b, q ≤ b → b < w.heap.size → w'.heap[b]? = w.heap[b]?) : RowsI w' q k n L := by
  obtain ⟨Vs, h1, h2, h3⟩ := h
  refine ⟨Vs, (hk q (Nat.le_refl _) (Array.getElem?_eq_some_iff.1 h1).1).trans h1, h2, fun i hi => ?_⟩
  obtain ⟨v, a, va, cap, hv, hc, hr⟩ := h3 i hi
  refine ⟨v, a, va, cap, hv, hc, fun j x hj => ?_⟩
  obtain ⟨b, off, ha, hq, c0⟩ := hr j x hj
  exact ⟨b, off, ha, hq, (World.cell?_of_block (a := ⟨b, off + j, none⟩) (hk b (by omega) (lt_of_cell? c0))).trans c0⟩

set_option maxRecDepth 1000000 in
set_option maxHeartbeats 2000000 in
theorem Reach_rows (n : Int) (v : Value) (l : List (Int × Int)) (w : World) (hl : RdA w v l) (hT : Tab w) :
    Calls Tryz.prog 30 #[.int .i64 n, v] w fun e w' => ReachQ n l w e w' := by
  have M : Hid (Calls Tryz.prog 45 #[.int .i64 n, v] w fun e w' => WvC n l w e w') := weave_any n v l w hl hT
  have HT : Hid (Tab w) := hT
  obtain ⟨a, cap, rfl, _⟩ := hl
  clear hT
  unfold WvC at M
  unfold ReachQ
  cases hP : weaveP n l with
  | bad c =>
    rw [hP] at M
    have hc : ((c == 0)) = false := by rcases weaveP_code hP with rfl | rfl <;> rfl
    go_enter Tryz.func30, Tryz.ntmps30
    go_wp2_with fail
    refine Calls.mono M.out ?_
    rintro e w1 ⟨hb, rfl⟩
    go_wp2_with fail
    go_ret2
    exact ⟨hb, rfl⟩
  | ok W o =>
    rw [hP] at M
    obtain ⟨⟨hn0, hn64⟩, _, _, hWok, hWl, hOk, hol⟩ := weave_facts hP
    obtain ⟨m, rfl⟩ : ∃ m : Nat, n = (m : Int) := ⟨n.toNat, by omega⟩
    simp only [Int.toNat_natCast] at hWl hol M ⊢
    have hm : m ≤ 64 := by omega
    obtain ⟨i0, hi0, hz0, hz1, hz2⟩ := info_parts Tryz.info32
    clear hn0 hn64
    go_enter Tryz.func30, Tryz.ntmps30
    go_wp2_with fail
    refine Calls.mono M.out ?_
    rintro e w1 ⟨hb, v1, v2, rfl, hU, hI, h1, h2⟩
    have hmk := run_make (P := Tryz.prog) w1 68 32 i0 _ Tryz.underlying68 hi0 hz0 .i64 .i64 (m : Int) (m : Int) (by omega) (by omega) (by rw [hz2]; omega) (by omega)
    simp only [hz1, Int.toNat_natCast, Nat.mul_one] at hmk
    have HB1 : Hid (Below w.heap.size w w1) := hb
    have hBA : Below w1.heap.size w1 (w1.alloc (.cells (madeCells #[Value.slice none 0 0] m) 32)) := (Below.refl _ _).alloc (Nat.le_refl _) _
    have HB2 : Hid (Below w1.heap.size w1 (w1.alloc (.cells (madeCells #[Value.slice none 0 0] m) 32))) := hBA
    have HR0 : Hid (RowsI (w1.alloc (.cells (madeCells #[Value.slice none 0 0] m) 32)) w1.heap.size 0 m (reachL W o)) := ⟨List.replicate m (.slice none 0 0), by rw [← made_nil]; exact row_new w1 _ 32, by simp, fun i hi => by omega⟩
    have HZ0 : Hid (w1.heap.size < (w1.alloc (.cells (madeCells #[Value.slice none 0 0] m) 32)).heap.size) := by show _ < _; simp
    have M2 : Hid _ := reach_any W o v1 v2 _ (hU.later hBA) (hI.later hBA) (by omega) (by omega) hWok (fun x hx => hOk.lt x hx) ((HT.out.later hb).later hBA)
    have HT1 : Hid (Tab w1) := HT.out.later hb
    obtain ⟨a1, cap1, rfl, _⟩ := hU
    obtain ⟨a2, cap2, rfl, _⟩ := hI
    clear hBA
    rw [hWl] at M2 ⊢
    rw [hol] at M2 ⊢
    go_wp2_with fail
    generalize w1.alloc (.cells (madeCells #[Value.slice none 0 0] m) 32) = w2 at *
    refine Calls.mono M2.out ?_
    rintro e w3 ⟨hb3, b, hbq, rfl, hRow, hRl⟩
    have HRow : Hid (RowU w3 b (reachP W o)) := hRow
    have HLL : Hid ((reachL W o).length = m) := by show _ = _; unfold reachL; rw [List.length_map, hRl]
    have HGet : Hid (∀ i, i < m → (reachL W o).getD i [] = bitsOf ((reachP W o).getD i 0)) := by
      show ∀ i, _
      intro i hi
      unfold reachL
      rw [List.getD_eq_getElem?_getD, List.getElem?_map, List.getD_eq_getElem?_getD, List.getElem?_eq_getElem (by rw [hRl]; exact hi)]
      rfl
    have HB3 : Hid (Below w1.heap.size w1 w3) := HB2.out.trans (hb3.mono HB2.out.size)
    have HR3 : Hid (RowsI w3 w1.heap.size 0 m (reachL W o)) := HR0.out.later hb3
    have HZ3 : Hid (w1.heap.size < w3.heap.size) := by have := hb3.size; have := HZ0.out; show _ < _; omega
    have HBq : Hid (w1.heap.size < b) := by have := HZ0.out; show _ < _; omega
    have HRl : Hid ((reachP W o).length = m) := hRl
    clear hRow hbq hb3 HR0 HZ0 M2 HB2 M
    generalize reachP W o = R at *
    go_wp2_with fail
    go_loopw [10, 11, 28] (fun _ _ iv wr => ∃ (k : Nat), k ≤ m ∧ iv = .int .i64 k ∧ Hid (RowsI wr w1.heap.size k m (reachL W o)) ∧ Hid (RowU wr b R) ∧ Hid (Below w1.heap.size w1 wr) ∧ Hid (w1.heap.size < wr.heap.size)) (fun _ _ iv _ => m - (intOf iv).toNat)
    case atStart => exact ⟨0, Nat.zero_le _, rfl, HR3, HRow, HB3, HZ3⟩
    case round =>
      obtain ⟨k, hk, rfl, HRs, HRw, HBk, HZk⟩ := hrel
      rename World => w4
      clear HR3 HRow HB3 HZ3
      by_cases hlt : k < m
      · obtain ⟨r1, r2, r3⟩ := HRw.out.get k (by rw [HRl.out]; exact hlt)
        have M4 : Hid _ := nodes_any (R.getD k 0) r3 w4 (HT1.out.later HBk.out)
        have HGk := HGet.out k hlt
        generalize R.getD k 0 = y at *
        have hki : (k : Int) < (m : Int) := by omega
        go_wp2_with fail
        refine Calls.mono M4.out ?_
        rintro e w5 ⟨nv, rfl, hb5, hown⟩
        obtain ⟨u, c1, c2⟩ := (HRs.out.later hb5).get k hlt
        obtain ⟨na, nc, hnv, _⟩ := RdI.of_own hown
        have HR5 : Hid (RowsI (w5.setCell ⟨w1.heap.size, k, none⟩ nv) w1.heap.size (k + 1) m (reachL W o)) := (HRs.out.later hb5).set nv hlt (by rw [HGk]; exact RdF.of_own HZk.out hown)
        have HW5 : Hid (RowU (w5.setCell ⟨w1.heap.size, k, none⟩ nv) b R) := ⟨row_other (HRw.out.below hb5).row nv (by have := HBq.out; omega), HRw.out.lt⟩
        have HB5 : Hid (Below w1.heap.size w1 (w5.setCell ⟨w1.heap.size, k, none⟩ nv)) := (HBk.out.trans (hb5.mono HBk.out.size)).setCell (p := ⟨w1.heap.size, k, none⟩) (Nat.le_refl _) _
        have HZ5 : Hid (w1.heap.size < (w5.setCell ⟨w1.heap.size, k, none⟩ nv).heap.size) := by have := hb5.size; have := HZk.out; show _ < _; simp; omega
        clear hown hb5 HRs HRw HBk HZk
        subst hnv
        go_wp2_with fail
        go_roundw
        case rel => exact ⟨k + 1, by omega, by go_num, HR5, HW5, HB5, HZ5⟩
        case measure => simp [intOf]; omega
      · have hkm : k = m := by omega
        subst hkm
        go_wp2_with fail
        go_ret2
        exact ⟨HB1.out.trans (HBk.out.mono HB1.out.size), _, rfl, HB1.out.size, HRs.out, HLL.out⟩

end Go.Proofs.YtlegmmhacnbnlaaGreatDoor.Dg

