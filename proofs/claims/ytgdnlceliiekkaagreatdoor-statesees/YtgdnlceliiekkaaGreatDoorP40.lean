/- Texts of the seat, packed: Yj Kh Lm. -/
import Derived.Test.YtgdnlceliiekkaaGreatDoorP10
import Derived.Test.YtgdnlceliiekkaaGreatDoorP37
import Derived.Test.YtgdnlceliiekkaaGreatDoorP39
import Derived.Lib.SliceRun
import Derived.Maps.AppendAt
import Derived.Test.YtgdnlceliiekkaaGreatDoorP18
/- The program's See. -/
namespace Go.Proofs.YtgdnlceliiekkaaGreatDoor

open Go.RowKit Go.Shelf Go.Proofs.YtgdnlceliiekkaaGreatDoor.Sx

/-- The spots of items, as the values of a row. -/
def spV : List It → List Value
  | [] => []
  | x :: r => .int .i64 x.inn :: .int .i64 x.alt :: spV r

theorem spV_at : ∀ (l : List It) (i : Nat) (x : It), l[i]? = some x → (spV l)[i * 2]? = some (.int .i64 x.inn) ∧ (spV l)[i * 2 + 1]? = some (.int .i64 x.alt)
  | [], i, x, h => by simp at h
  | y :: r, 0, x, h => by simp at h; subst h; exact ⟨rfl, rfl⟩
  | y :: r, i + 1, x, h => by
    have := spV_at r i x (by simpa using h)
    rw [show (i + 1) * 2 = i * 2 + 2 by omega]
    exact this

/-- A plan that is right can be turned round. -/
theorem right_facts {its : List It} {p : By × Tr} (h : sagaP its = some p) : its.length ≤ 64 ∧ arcN its ≤ 1000000 ∧ Dg.Small (arcP its) ∧ (arcP its).length ≤ 8192 ∧ ∃ W o, Dg.weaveP (its.length : Int) (Dg.swapA (arcP its)) = .ok W o := by
  unfold sagaP at h
  split at h
  · rename_i hc
    have hp := hc.2
    have hf := fit_cnt (planT_fit hp)
    unfold planT planP at hp
    split at hp
    · rename_i hd
      have hl := xsT_len (bodS its) 0 0 0
      have he := Option.some.inj hp
      have ho := hd.2.2.2
      have hn63 : (xsT (bodS its) 0 0 0).length < 64 := by omega
      have h1 := arcN_le (nameI its 0) (bodS its).len (xsT (bodS its) 0 0 0) (xsT (bodS its) 0 0 0).length hn63
      have h2 := arcP_small (nameI its 0) (bodS its).len (xsT (bodS its) 0 0 0) (xsT (bodS its) 0 0 0).length hn63
      have h3 := its2_len (nameI its 0) (bodS its).len (xsT (bodS its) 0 0 0) (xsT (bodS its) 0 0 0).length
      rw [he] at h1 h2 h3 ho
      unfold ordOk at ho
      cases hw : Dg.weaveP (its.length : Int) (arcP its) with
      | bad c => rw [hw] at ho; cases ho
      | ok W o =>
        have hlen : (arcP its).length ≤ 4096 := by
          unfold Dg.weaveP at hw
          split at hw
          · cases hw
          · rename_i hx
            simp only [not_or] at hx
            omega
        refine ⟨by omega, h1, h2, by omega, ?_⟩
        rcases Dg.weave_turn (its.length : Int) (arcP its) with ⟨c, h9, _⟩ | ⟨o1, o2, _, h9⟩
        · rw [hw] at h9; cases h9
        · exact ⟨_, _, h9⟩
    · cases hp
  · cases h

/-- How See ends. -/
def SeeC (its : List It) (w : World) (e : Ending) (w' : World) : Prop := Below w.heap.size w w' ∧ match sagaP its with
  | none => e = .returned (.tuple #[.pointer none, .int .i64 2])
  | some _ => ∃ b W o, e = .returned (.tuple #[.pointer (some ⟨b, 0, none⟩), .int .i64 0]) ∧ w.heap.size ≤ b ∧ Dg.weaveP (its.length : Int) (Dg.swapA (arcP its)) = .ok W o ∧ VwAt w' b its (Dg.reachL W o)

theorem SeeC.bad {its : List It} {w w' : World} (h : sagaP its = none) (hb : Below w.heap.size w w') : SeeC its w (.returned (.tuple #[.pointer none, .int .i64 2])) w' := by
  unfold SeeC
  rw [h]
  exact ⟨hb, rfl⟩

theorem SeeC.ok {its : List It} {w w' : World} {p : By × Tr} {b : Nat} {W o : List Nat} (h : sagaP its = some p) (hb : Below w.heap.size w w') (hz : w.heap.size ≤ b) (hw : Dg.weaveP (its.length : Int) (Dg.swapA (arcP its)) = .ok W o) (hv : VwAt w' b its (Dg.reachL W o)) : SeeC its w (.returned (.tuple #[.pointer (some ⟨b, 0, none⟩), .int .i64 0])) w' := by
  unfold SeeC
  rw [h]
  exact ⟨hb, b, W, o, rfl, hz, hw, hv⟩

end Go.Proofs.YtgdnlceliiekkaaGreatDoor

/- The walks over slices.Clone (of facts), Apply and None. -/
namespace Go.Proofs.YtgdnlceliiekkaaGreatDoor.Fc

open Go.RowKit Go.Shelf

set_option maxRecDepth 1000000

set_option linter.unusedVariables false

theorem info38 : (Tryz.prog.info? 65).map (fun i => (i.zero, i.size, i.bytes)) = some (some (.agg #[.int .i64 0, .int .i64 0, .int .i64 0, .bool false]), 4, 32) := by kernel_rfl

theorem rowsF_one (l : List Fa) : ∀ u ∈ rowsF l, u.oneCell' = true := by
  intro u hu
  obtain ⟨f, _, hf⟩ := List.mem_flatMap.1 hu
  simp only [Fa.cells, List.mem_cons, List.not_mem_nil, or_false] at hf
  rcases hf with rfl | rfl | rfl | rfl <;> rfl

theorem RF.news {w : World} {b off n cap : Nat} {l : List Fa} (h : RF w (.slice (some ⟨b, off, none⟩) n cap) l) : ∀ j u, (rowsF l)[j]? = some u → w.cell? ((⟨b, off, none⟩ : Addr).add j) = some u := by
  intro j u hu
  obtain ⟨a, c, e, _, _, hr⟩ := h
  have ha : some (⟨b, off, none⟩ : Addr) = a := by cases e; rfl
  subst ha
  have hj : j < l.length * 4 := by rw [← rowsF_len]; exact (List.getElem?_eq_some_iff.1 hu).1
  obtain ⟨f, hf⟩ : ∃ f, l[j / 4]? = some f := ⟨_, List.getElem?_eq_getElem (by omega)⟩
  obtain ⟨b', off', e', c0, c1, c2, c3⟩ := hr _ f hf
  cases e'
  have hg := rowsF_get l (j / 4) f hf (j % 4) (by omega)
  rw [show j / 4 * 4 + j % 4 = j by omega, hu] at hg
  have h7 : (⟨b, off, none⟩ : Addr).add j = ⟨b, off + j, none⟩ := by unfold Addr.add; split <;> simp_all
  rw [h7]
  have hm : j % 4 = 0 ∨ j % 4 = 1 ∨ j % 4 = 2 ∨ j % 4 = 3 := by omega
  rcases hm with h | h | h | h
  · rw [h] at hg; rw [show off + j = off + j / 4 * 4 by omega, c0]; exact hg.symm
  · rw [h] at hg; rw [show off + j = off + j / 4 * 4 + 1 by omega, c1]; exact hg.symm
  · rw [h] at hg; rw [show off + j = off + j / 4 * 4 + 2 by omega, c2]; exact hg.symm
  · rw [h] at hg; rw [show off + j = off + j / 4 * 4 + 3 by omega, c3]; exact hg.symm

set_option maxHeartbeats 1000000 in
theorem cloneF_any (v : Value) (l : List Fa) (w : World) (hl : RF w v l) (h0 : 0 < l.length) (hn : l.length ≤ 1000000) :
    Calls Tryz.prog 25 #[v] w fun e w' => Below w.heap.size w w' ∧ ∃ u, e = .returned u ∧ OF w.heap.size w' u l := by
  have hl' := hl
  obtain ⟨a, cap, rfl, hc, _, hr⟩ := hl
  obtain ⟨i0, hi0, hz0, hz1, hz2⟩ := info_parts info38
  obtain ⟨f, hf⟩ : ∃ f, l[0]? = some f := ⟨_, List.getElem?_eq_getElem h0⟩
  obtain ⟨b, off, rfl, _⟩ := hr 0 f hf
  have HNews : Hid (∀ j u, (rowsF l)[j]? = some u → (w.alloc (.cells #[] 65)).cell? ((⟨b, off, none⟩ : Addr).add j) = some u) := (hl'.later (bl1 _ _)).news
  have HOwn : Hid ((w.alloc (.cells #[] 65)).ownsRow w.heap.size 65 4 (.slice (some ⟨w.heap.size, 0, none⟩) 0 0) 0 []) :=
    ⟨rfl, .inr ⟨w.heap.size, 0, #[], rfl, Nat.le_refl _, Dg.row_new _ _ _, Nat.le_refl _, Nat.zero_le _, rfl, rfl⟩⟩
  obtain ⟨n, HN⟩ : ∃ n, Hid (l.length = n) := ⟨_, rfl⟩
  have HLn : Hid ((rowsF l).length = n * 4) := by show _ = _; rw [rowsF_len, HN.out]
  have HOne : Hid (∀ u ∈ rowsF l, u.oneCell' = true) := rowsF_one l
  rw [HN.out] at hn hc h0 ⊢
  clear hr hl' hf
  have hE : ∀ w, (binOp .eql 25 (.slice (some ⟨b, off, none⟩) n cap) (.slice none 0 0)).run Tryz.prog w = .ok (.bool false) w := fun w => Lib.run_eql_slice_nil w 25 65 (some ⟨b, off, none⟩) n cap 0 0 Tryz.underlying25
  go_enter Tryz.func25, Tryz.ntmps25
  go_wp2_with (at_builtin; refine wpList_append_own_at _ rfl _ _ 25 rfl w.heap.size 65 i0 _ 4 32 Tryz.underlying25 hi0 hz0 hz1 hz2 rfl (by decide) _ 0 [] rfl HOwn.out ⟨b, off, none⟩ n cap (rowsF l) rfl HLn.out HNews.out HOne.out (by unfold maxLen; omega) (by omega) (by simp) ?_; intro v7 w7 ho7 hg7 _ hat7)
  have HB7 : Hid (Below w.heap.size w w7) := Below.grown ((Below.refl _ _).alloc (Nat.le_refl _) _) hg7 (by simp) (fun k hk => (HOwn.out.lt _ hk).1)
  have HF : Hid (OF w.heap.size w7 v7 l) := by
    show World.ownsRow _ _ _ _ _ _ _
    rw [HN.out]
    have h := ho7
    rw [Nat.zero_add, List.nil_append] at h
    exact h
  clear ho7 hg7 hat7
  go_wp2_with fail
  go_ret
  exact ⟨HB7.out, _, rfl, HF.out⟩

open Classical in
/-- What Apply tells: an error, or the facts then. -/
noncomputable def appP (its : List It) (l : List Fa) (e : Ek.Ev) : Int ⊕ List Fa :=
  if chkF its l = 0 then (if Ek.okE e = true then (match does (subs its) l e.k e.t e.i.toNat with | none => .inl 14 | some m => .inr m) else .inl 2) else .inl 2

theorem chkF_iff {its : List It} {l : List Fa} : chkF its l = 0 ↔ (sagaP its).isSome = true ∧ okL (subs its) l := by
  constructor
  · intro h
    apply Classical.byContradiction
    intro hn
    rw [chkF_no hn] at h
    cases h
  · intro h; exact chkF_ok h.1 h.2

theorem appP_hap {its : List It} {l : List Fa} (e : Ek.Ev) (h : chkF its l = 0) : appP its l e = if (hap its l e).1 = 0 then .inr (hap its l e).2 else .inl (hap its l e).1 := by
  unfold appP hap
  rw [if_pos h]
  by_cases h2 : Ek.okE e = true
  · rw [if_pos h2, if_pos h2]
    cases does (subs its) l e.k e.t e.i.toNat <;> rfl
  · rw [if_neg h2, if_neg h2]
    rfl

/-- How Apply ends. -/
def AppC (r : Int ⊕ List Fa) (w : World) (x : Ending) (w' : World) : Prop := Below w.heap.size w w' ∧ match r with
  | .inl c => x = .returned (.tuple #[.slice none 0 0, .int .i64 c])
  | .inr m => ∃ u, x = .returned (.tuple #[u, .int .i64 0]) ∧ OF w.heap.size w' u m

theorem AppC.bad {r : Int ⊕ List Fa} {w w' : World} {c : Int} (h : r = .inl c) (hb : Below w.heap.size w w') : AppC r w (.returned (.tuple #[.slice none 0 0, .int .i64 c])) w' := by
  subst h
  exact ⟨hb, rfl⟩

theorem AppC.ok {r : Int ⊕ List Fa} {w w' : World} {m : List Fa} {u : Value} (h : r = .inr m) (hb : Below w.heap.size w w') (ho : OF w.heap.size w' u m) : AppC r w (.returned (.tuple #[u, .int .i64 0])) w' := by
  subst h
  exact ⟨hb, u, rfl, ho⟩

theorem OF.widen {B B' : Nat} {w : World} {v : Value} {l : List Fa} (h : OF B w v l) (hB : B' ≤ B) : OF B' w v l := by
  refine ⟨h.1, ?_⟩
  rcases h.2 with hn | ⟨g, cap, cur, rfl, hb, rest⟩
  · exact .inl hn
  · exact .inr ⟨g, cap, cur, rfl, Nat.le_trans hB hb, rest⟩

theorem root_len {its : List It} (h : (sagaP its).isSome = true) : 1 ≤ its.length ∧ its.length ≤ 64 := by
  obtain ⟨p, hp⟩ := Option.isSome_iff_exists.1 h
  refine ⟨?_, (right_facts hp).1⟩
  unfold sagaP at hp
  split at hp
  · rename_i hc
    have h2 := hc.2
    unfold planT planP at h2
    split at h2
    · have h3 := Option.some.inj h2
      rw [← h3, its2_len]
      omega
    · cases h2
  · cases hp

set_option maxHeartbeats 4000000 in
theorem apply_any (its : List It) (v lv sv : Value) (l : List Fa) (e : Ek.Ev) (w : World) (hIt : RdIt w v its) (hF : FairI its) (hT : Dg.Tab w) (hl : RF w lv l) (hs : Ek.RI w sv e.s) (hsl : e.s.length ≤ 1000000) (hil : its.length ≤ 1000000) (hll : l.length ≤ 1000000) :
    Calls Tryz.prog 13 #[.agg #[v], lv, Ek.EvV e sv] w fun x w' => AppC (appP its l e) w x w' := by
  have h0 := HaS.init w v e sv
  have HIt : Hid (∀ W, Below w.heap.size w W → RdIt W v its) := fun W hb => hIt.later hb
  have HL : Hid (∀ W, Below w.heap.size w W → RF W lv l) := fun W hb => hl.later hb
  have HS : Hid (∀ W, Below w.heap.size w W → Ek.RI W sv e.s) := fun W hb => hs.later hb
  have MC0 := checkF_any its v lv l _ (hIt.later h0.bel) hF (hT.later h0.bel) (hl.later h0.bel) (by omega) (by omega)
  obtain ⟨c, HC⟩ : ∃ c, Hid (chkF its l = c) := ⟨_, rfl⟩
  rw [HC.out] at MC0
  have MC : Hid (Calls Tryz.prog 24 #[.agg #[v], lv] _ fun e w' => e = .returned (.int .i64 c) ∧ Below _ _ w') := MC0
  have HX0 : Hid (HaS w v e sv _) := h0
  clear h0 MC0
  unfold Ek.EvV
  obtain ⟨sa, sc, rfl, _, _, _⟩ := hs
  obtain ⟨ia, icap, rfl, _, _⟩ := hIt
  obtain ⟨la, lcap, rfl, _, _, _⟩ := hl
  go_enter Tryz.func13, Tryz.ntmps13
  go_wp2_with fail
  generalize (w.alloc (.cells #[.slice ia its.length icap] 24)).alloc (.cells #[.int .i64 e.k, .int .i64 e.i, .int .i64 e.t, .slice sa e.s.length sc] 44) = w0 at *
  refine Calls.mono MC.out ?_
  rintro x w1 ⟨rfl, hb1⟩
  have HX1 : Hid _ := HX0.out.later hb1
  clear MC hb1 HX0
  by_cases hc : c = 0
  rotate_left
  · have HP : Hid (appP its l e = .inl 2) := by
      show _ = _
      unfold appP
      rw [if_neg (by rw [HC.out]; exact hc)]
    have hc2 : (c != 0) = true := by simpa using hc
    clear hc HC
    go_wp2_with fail
    go_ret2
    exact AppC.bad HP.out HX1.out.bel
  subst hc
  have HOK : Hid _ := chkF_iff.1 HC.out
  have HP : Hid _ := appP_hap e HC.out
  have hln : l.length = its.length := by have := HOK.out.2.1; rw [this]; unfold subs; rw [List.length_map]
  have hpos := (root_len HOK.out.1).1
  have MK : Hid _ := cloneF_any _ l w1 (HL.out w1 HX1.out.bel) (by omega) hll
  clear HC hln hpos
  go_wp2_with fail
  refine Calls.mono MK.out ?_
  rintro x w2 ⟨hb2, u, rfl, ho2⟩
  have HX2 : Hid _ := HX1.out.later hb2
  have HO2 : Hid (OF w1.heap.size w2 u l) := ho2
  obtain ⟨ua, ucap, rfl, _⟩ := ho2.rf
  have MH0 := happen_any its _ _ _ l e w1.heap.size w2 (HIt.out w2 HX2.out.bel) ho2 HOK.out.2 (HS.out w2 HX2.out.bel) hsl (by omega)
  unfold Ek.EvV at MH0
  have MH : Hid (Calls Tryz.prog 26 #[.agg #[.slice ia its.length icap], .slice ua l.length ucap, .agg #[.int .i64 e.k, .int .i64 e.i, .int .i64 e.t, .slice sa e.s.length sc]] w2 fun x w' => HapC its l e w1.heap.size (.slice ua l.length ucap) w2 x w') := MH0
  obtain ⟨y0, y1, y2, y3, y4⟩ := HX2.out.ev
  have hz1 := HX1.out.bel.size
  clear MK hb2 ho2 MH0
  go_wp2_with fail
  refine Calls.mono MH.out ?_
  rintro x w3 ⟨rfl, ho3, hg3⟩
  have HB3 : Hid (Below w.heap.size w w3) := Below.grown HX2.out.bel hg3 HX2.out.bel.size (fun k hk => Nat.le_trans hz1 (World.ownsRow.lt HO2.out k hk).1)
  have HO3 : Hid (OF w.heap.size w3 _ _) := ho3.widen hz1
  clear ho3 hg3 MH y0 y1 y2 y3 y4
  obtain ⟨c, HC⟩ : ∃ c, Hid ((hap its l e).1 = c) := ⟨_, rfl⟩
  rw [HC.out] at HP ⊢
  by_cases hc : c = 0
  · subst hc
    have HP2 : Hid _ := HP.out.trans (if_pos rfl)
    clear HC HP
    go_wp2_with fail
    go_ret2
    exact AppC.ok HP2.out HB3.out HO3.out
  · have HP2 : Hid _ := HP.out.trans (if_neg hc)
    have hc2 : (c != 0) = true := by simpa using hc
    clear HC HP hc
    go_wp2_with fail
    go_ret2
    exact AppC.bad HP2.out HB3.out

end Go.Proofs.YtgdnlceliiekkaaGreatDoor.Fc

/- A board's methods. -/
namespace Go.Proofs.YtgdnlceliiekkaaGreatDoor.Sa
open Go.RowKit Go.Shelf Go.Proofs.YtgdnlceliiekkaaGreatDoor.Fc Go.Proofs.YtgdnlceliiekkaaGreatDoor.St
set_option maxRecDepth 1000000
set_option linter.unusedVariables false

/-- What a board holds. -/
structure Bo where
  c : Nat
  S : Nat → Int
  A : Nat → Int
  M : Nat → Nat → Bool
  C : Nat → Bool

/-- A board in memory; none: no board. -/
def RB (w : World) (v : Value) : Option Bo → Prop
  | none => v = .pointer none
  | some B => ∃ d, v = .pointer (some ⟨d, 0, none⟩) ∧ B.c ≤ 64 ∧ w.heap[d]? = some (.cells (brdL B.c B.S B.A B.M B.C).toArray 55 (0, 0))

theorem RB.later {w w' : World} {v : Value} {o : Option Bo} (h : RB w v o) (hb : Below w.heap.size w w') : RB w' v o := by
  cases o with
  | none => exact h
  | some B =>
    obtain ⟨d, e, h1, h2⟩ := h
    exact ⟨d, e, h1, (hb.block _ (Array.getElem?_eq_some_iff.1 h2).1).trans h2⟩

def Bo.z : Bo := ⟨0, fun _ => 0, fun _ => 0, fun _ _ => false, fun _ => false⟩
def Bo.has (B : Bo) (i : Int) : Bool := decide (0 ≤ i ∧ i < (B.c : Int))
def Bo.all (B : Bo) : List Int := (List.range B.c).map B.S
def Bo.ver (B : Bo) : Int := if B.c = 0 then 0 else if B.S 0 = 0 then 1 else B.S 0
def Bo.at_ (B : Bo) (i : Int) : Int := if B.c = 0 then 0 else if B.has i then B.A i.toNat else -1
def Bo.fal (B : Bo) (s a : Int) : Bool := B.has s && decide (0 ≤ a ∧ a < 4) && B.M s.toNat a.toNat
def Bo.cle (B : Bo) (i : Int) : Bool := B.has i && B.C i.toNat

set_option maxHeartbeats 1000000 in
theorem made_any {w : World} {v : Value} {o : Option Bo} (h : RB w v o) : Calls Tryz.prog 27 #[v] w fun e w' => e = .returned (.bool (decide (0 < (o.getD Bo.z).c))) ∧ Below w.heap.size w w' := by
  cases o with
  | none =>
    obtain rfl : v = .pointer none := h
    go_enter Tryz.func27, Tryz.ntmps27
    go_wp2_with fail
    go_ret
    exact ⟨rfl, Below.refl _ _⟩
  | some B =>
    obtain ⟨d, rfl, h1, h2⟩ := h
    have c0 := brd_cell0 h2
    clear h2
    go_enter Tryz.func27, Tryz.ntmps27
    go_wp2_with fail
    go_ret
    exact ⟨by simp, Below.refl _ _⟩

set_option maxHeartbeats 1000000 in
theorem has_any {w : World} {v : Value} {o : Option Bo} (h : RB w v o) (i : Int) : Calls Tryz.prog 29 #[v, .int .i64 i] w fun e w' => e = .returned (.bool ((o.getD Bo.z).has i)) ∧ Below w.heap.size w w' := by
  cases o with
  | none =>
    obtain rfl : v = .pointer none := h
    have HX : Hid (Bo.z.has i = false) := by show _ = _; unfold Bo.has; rw [decide_eq_false]; rintro ⟨h1, h2⟩; have : (Bo.z.c : Int) = 0 := rfl; omega
    show Calls _ _ _ _ fun e w' => e = .returned (.bool (Bo.z.has i)) ∧ _
    rw [HX.out]
    go_enter Tryz.func29, Tryz.ntmps29
    go_wp2_with fail
    go_ret
    exact ⟨rfl, Below.refl _ _⟩
  | some B =>
    obtain ⟨d, rfl, h1, h2⟩ := h
    have c0 := brd_cell0 h2
    clear h2
    show Calls _ _ _ _ fun e w' => e = .returned (.bool (B.has i)) ∧ _
    obtain ⟨E, HE⟩ : ∃ E, Hid (E = B.has i) := ⟨_, rfl⟩
    rw [← HE.out]
    have HX : Hid (E = decide (0 ≤ i ∧ i < (B.c : Int))) := HE.out
    generalize B.c = c at *
    clear HE
    by_cases h0 : 0 ≤ i
    · have HX2 : Hid (E = decide (i < (c : Int))) := by show _ = _; rw [HX.out]; simp [h0]
      go_enter Tryz.func29, Tryz.ntmps29
      go_wp2_with fail
      go_ret
      exact ⟨by rw [HX2.out]; rfl, Below.refl _ _⟩
    · have HX2 : Hid (E = false) := by show _ = _; rw [HX.out]; simp [h0]
      go_enter Tryz.func29, Tryz.ntmps29
      go_wp2_with fail
      go_ret
      exact ⟨by rw [HX2.out]; rfl, Below.refl _ _⟩

set_option maxHeartbeats 1000000 in
theorem bClean_any {w : World} {v : Value} {o : Option Bo} (h : RB w v o) (i : Int) : Calls Tryz.prog 19 #[v, .int .i64 i] w fun e w' => e = .returned (.bool ((o.getD Bo.z).cle i)) ∧ Below w.heap.size w w' := by
  have HH : Hid _ := has_any h i
  obtain ⟨E, HE⟩ : ∃ E, Hid (E = (o.getD Bo.z).cle i) := ⟨_, rfl⟩
  rw [← HE.out]
  have HX : Hid (E = ((o.getD Bo.z).has i && (o.getD Bo.z).C i.toNat)) := HE.out
  clear HE
  cases hq : (o.getD Bo.z).has i with
  | false =>
    rw [hq] at HH HX
    clear hq h
    go_enter Tryz.func19, Tryz.ntmps19
    go_wp2_with fail
    refine Calls.mono HH.out ?_
    rintro e w2 ⟨rfl, hb2⟩
    have HB2 : Hid _ := hb2
    clear HH hb2
    go_wp2_with fail
    go_ret
    exact ⟨by rw [HX.out]; rfl, HB2.out⟩
  | true =>
    rw [hq] at HH HX
    cases o with
    | none => exact absurd hq (by show ¬ Bo.z.has i = true; unfold Bo.has; rw [decide_eq_true_eq]; rintro ⟨h1, h2⟩; have : (Bo.z.c : Int) = 0 := rfl; omega)
    | some B =>
      have hr : 0 ≤ i ∧ i < (B.c : Int) := of_decide_eq_true hq
      obtain ⟨d, rfl, h1, h2⟩ := h
      obtain ⟨k, rfl⟩ : ∃ k : Nat, i = (k : Int) := ⟨i.toNat, by omega⟩
      have HC0 : Hid _ := brd_cellC h2 (i := k) (by omega)
      have HX2 : Hid (E = B.C k) := HX.out
      have hk : (k : Int) < 64 := by omega
      clear hq h2 hr HX
      generalize B.C k = q at *
      go_enter Tryz.func19, Tryz.ntmps19
      go_wp2_with fail
      refine Calls.mono HH.out ?_
      rintro e w2 ⟨rfl, hb2⟩
      have HB2 : Hid _ := hb2
      have c9 := Dg.cell_later hb2 HC0.out
      clear HH hb2
      go_wp2_with fail
      go_ret
      exact ⟨by rw [HX2.out]; rfl, HB2.out⟩

set_option maxHeartbeats 1000000 in
theorem bAt_any {w : World} {v : Value} {o : Option Bo} (h : RB w v o) (i : Int) : Calls Tryz.prog 17 #[v, .int .i64 i] w fun e w' => e = .returned (.int .i64 ((o.getD Bo.z).at_ i)) ∧ Below w.heap.size w w' := by
  have HM : Hid _ := made_any h
  have HH : Hid (∀ w', Below w.heap.size w w' → _) := fun w' hb => has_any (h.later hb) i
  obtain ⟨E, HE⟩ : ∃ E, Hid (E = (o.getD Bo.z).at_ i) := ⟨_, rfl⟩
  rw [← HE.out]
  have HX : Hid (E = if (o.getD Bo.z).c = 0 then 0 else if (o.getD Bo.z).has i then (o.getD Bo.z).A i.toNat else -1) := HE.out
  clear HE
  by_cases hc : (o.getD Bo.z).c = 0
  · have HX2 : Hid (E = 0) := by show _ = _; rw [HX.out, if_pos hc]
    have hd : decide (0 < (o.getD Bo.z).c) = false := decide_eq_false (by omega)
    rw [hd] at HM
    clear hd hc HX HH h
    go_enter Tryz.func17, Tryz.ntmps17
    go_wp2_with fail
    refine Calls.mono HM.out ?_
    rintro e w2 ⟨rfl, hb2⟩
    have HB2 : Hid _ := hb2
    clear HM hb2
    go_wp2_with fail
    go_ret
    exact ⟨by rw [HX2.out]; rfl, HB2.out⟩
  · have hd : decide (0 < (o.getD Bo.z).c) = true := decide_eq_true (by omega)
    rw [hd] at HM
    have HX1 : Hid (E = if (o.getD Bo.z).has i then (o.getD Bo.z).A i.toNat else -1) := by show _ = _; rw [HX.out, if_neg hc]
    cases hq : (o.getD Bo.z).has i with
    | false =>
      have HX2 : Hid (E = -1) := by show _ = _; rw [HX1.out, hq]; rfl
      rw [hq] at HH
      clear hd hc HX HX1 h hq
      go_enter Tryz.func17, Tryz.ntmps17
      go_wp2_with fail
      refine Calls.mono HM.out ?_
      rintro e w2 ⟨rfl, hb2⟩
      have HB2 : Hid _ := hb2
      have HH2 : Hid _ := HH.out w2 hb2
      clear HM hb2 HH
      go_wp2_with fail
      refine Calls.mono HH2.out ?_
      rintro e w3 ⟨rfl, hb3⟩
      have HB3 : Hid _ := HB2.out.trans (hb3.mono HB2.out.size)
      clear HB2 hb3 HH2
      go_wp2_with fail
      go_ret
      exact ⟨by rw [HX2.out]; rfl, HB3.out⟩
    | true =>
      cases o with
      | none => exact absurd rfl hc
      | some B =>
        have hr : 0 ≤ i ∧ i < (B.c : Int) := of_decide_eq_true hq
        obtain ⟨d, rfl, h1, h2⟩ := h
        obtain ⟨k, rfl⟩ : ∃ k : Nat, i = (k : Int) := ⟨i.toNat, by omega⟩
        have HC0 : Hid _ := brd_cellA h2 (i := k) (by omega)
        have HX2 : Hid (E = B.A k) := by show _ = _; rw [HX1.out, hq]; rfl
        rw [hq] at HH
        have hk : (k : Int) < 64 := by omega
        clear hq h2 hr HX HX1 hc hd
        generalize B.A k = q at *
        go_enter Tryz.func17, Tryz.ntmps17
        go_wp2_with fail
        refine Calls.mono HM.out ?_
        rintro e w2 ⟨rfl, hb2⟩
        have HB2 : Hid _ := hb2
        have HH2 : Hid _ := HH.out w2 hb2
        clear HM hb2 HH
        go_wp2_with fail
        refine Calls.mono HH2.out ?_
        rintro e w3 ⟨rfl, hb3⟩
        have HB3 : Hid _ := HB2.out.trans (hb3.mono HB2.out.size)
        have c9 := Dg.cell_later HB3.out HC0.out
        clear HB2 hb3 HH2
        go_wp2_with fail
        go_ret
        exact ⟨by rw [HX2.out]; rfl, HB3.out⟩

set_option maxHeartbeats 2000000 in
theorem bVerdict_any {w : World} {v : Value} {o : Option Bo} (h : RB w v o) : Calls Tryz.prog 16 #[v] w fun e w' => e = .returned (.int .i64 (o.getD Bo.z).ver) ∧ Below w.heap.size w w' := by
  have HM : Hid _ := made_any h
  obtain ⟨E, HE⟩ : ∃ E, Hid (E = (o.getD Bo.z).ver) := ⟨_, rfl⟩
  rw [← HE.out]
  have HX : Hid (E = if (o.getD Bo.z).c = 0 then 0 else if (o.getD Bo.z).S 0 = 0 then 1 else (o.getD Bo.z).S 0) := HE.out
  clear HE
  by_cases hc : (o.getD Bo.z).c = 0
  · have HX2 : Hid (E = 0) := by show _ = _; rw [HX.out, if_pos hc]
    have hd : decide (0 < (o.getD Bo.z).c) = false := decide_eq_false (by omega)
    rw [hd] at HM
    clear hd hc HX h
    go_enter Tryz.func16, Tryz.ntmps16
    go_wp2_with fail
    refine Calls.mono HM.out ?_
    rintro e w2 ⟨rfl, hb2⟩
    have HB2 : Hid _ := hb2
    clear HM hb2
    go_wp2_with fail
    go_ret
    exact ⟨by rw [HX2.out]; rfl, HB2.out⟩
  · have hd : decide (0 < (o.getD Bo.z).c) = true := decide_eq_true (by omega)
    rw [hd] at HM
    cases o with
    | none => exact absurd rfl hc
    | some B =>
      obtain ⟨d, rfl, h1, h2⟩ := h
      have HC0 : Hid (w.cell? ⟨d, 1, none⟩ = some (.int .i64 (B.S 0))) := brd_cellS h2 (i := 0) (by omega)
      have HX1 : Hid (E = if B.S 0 = 0 then 1 else B.S 0) := by show _ = _; rw [HX.out, if_neg hc]; rfl
      clear h2 HX hc hd
      generalize B.S 0 = q at *
      by_cases h0 : q = 0
      · subst h0
        have HX2 : Hid (E = 1) := HX1.out
        clear HX1
        go_enter Tryz.func16, Tryz.ntmps16
        go_wp2_with fail
        refine Calls.mono HM.out ?_
        rintro e w2 ⟨rfl, hb2⟩
        have HB2 : Hid _ := hb2
        have c9 := Dg.cell_later hb2 HC0.out
        clear HM hb2
        go_wp2_with fail
        go_ret
        exact ⟨by rw [HX2.out]; rfl, HB2.out⟩
      · have HX2 : Hid (E = q) := by show _ = _; rw [HX1.out, if_neg h0]
        have e1 : (q == 0) = false := by simpa using h0
        clear HX1
        go_enter Tryz.func16, Tryz.ntmps16
        go_wp2_with fail
        refine Calls.mono HM.out ?_
        rintro e w2 ⟨rfl, hb2⟩
        have HB2 : Hid _ := hb2
        have c9 := Dg.cell_later hb2 HC0.out
        clear HM hb2
        go_wp2_with fail
        go_ret
        exact ⟨by rw [HX2.out]; rfl, HB2.out⟩

set_option maxHeartbeats 2000000 in
theorem bFalling_any {w : World} {v : Value} {o : Option Bo} (h : RB w v o) (s a : Int) : Calls Tryz.prog 18 #[v, .int .i64 s, .int .i64 a] w fun e w' => e = .returned (.bool ((o.getD Bo.z).fal s a)) ∧ Below w.heap.size w w' := by
  have HH : Hid _ := has_any h s
  obtain ⟨E, HE⟩ : ∃ E, Hid (E = (o.getD Bo.z).fal s a) := ⟨_, rfl⟩
  rw [← HE.out]
  have HX : Hid (E = ((o.getD Bo.z).has s && decide (0 ≤ a ∧ a < 4) && (o.getD Bo.z).M s.toNat a.toNat)) := HE.out
  clear HE
  cases hq : (o.getD Bo.z).has s with
  | false =>
    rw [hq] at HH HX
    have HX2 : Hid (E = false) := HX.out
    clear hq h HX
    go_enter Tryz.func18, Tryz.ntmps18
    go_wp2_with fail
    refine Calls.mono HH.out ?_
    rintro e w2 ⟨rfl, hb2⟩
    have HB2 : Hid _ := hb2
    clear HH hb2
    go_wp2_with fail
    go_ret
    exact ⟨by rw [HX2.out]; rfl, HB2.out⟩
  | true =>
    rw [hq] at HH HX
    cases o with
    | none => exact absurd hq (by show ¬ Bo.z.has s = true; unfold Bo.has; rw [decide_eq_true_eq]; rintro ⟨h1, h2⟩; have : (Bo.z.c : Int) = 0 := rfl; omega)
    | some B =>
      have hr : 0 ≤ s ∧ s < (B.c : Int) := of_decide_eq_true hq
      obtain ⟨d, rfl, h1, h2⟩ := h
      obtain ⟨k, rfl⟩ : ∃ k : Nat, s = (k : Int) := ⟨s.toNat, by omega⟩
      by_cases ha : 0 ≤ a
      · by_cases h4 : a < 4
        · obtain ⟨j, rfl⟩ : ∃ j : Nat, a = (j : Int) := ⟨a.toNat, by omega⟩
          have HC0 : Hid _ := brd_cellM h2 (s := k) (a := j) (by omega) (by omega)
          have HX2 : Hid (E = B.M k j) := by show _ = _; rw [HX.out, decide_eq_true ⟨ha, h4⟩]; rfl
          have hk : (k : Int) < 64 := by omega
          clear hq h2 hr HX
          generalize B.M k j = q at *
          go_enter Tryz.func18, Tryz.ntmps18
          go_wp2_with fail
          refine Calls.mono HH.out ?_
          rintro e w2 ⟨rfl, hb2⟩
          have HB2 : Hid _ := hb2
          have c9 := Dg.cell_later hb2 HC0.out
          clear HH hb2
          go_wp2_with fail
          go_ret
          exact ⟨by rw [HX2.out]; rfl, HB2.out⟩
        · have HX2 : Hid (E = false) := by show _ = _; rw [HX.out, decide_eq_false (fun h => h4 h.2)]; rfl
          clear hq h2 hr HX
          go_enter Tryz.func18, Tryz.ntmps18
          go_wp2_with fail
          refine Calls.mono HH.out ?_
          rintro e w2 ⟨rfl, hb2⟩
          have HB2 : Hid _ := hb2
          clear HH hb2
          go_wp2_with fail
          go_ret
          exact ⟨by rw [HX2.out]; rfl, HB2.out⟩
      · have HX2 : Hid (E = false) := by show _ = _; rw [HX.out, decide_eq_false (fun h => ha h.1)]; rfl
        clear hq h2 hr HX
        go_enter Tryz.func18, Tryz.ntmps18
        go_wp2_with fail
        refine Calls.mono HH.out ?_
        rintro e w2 ⟨rfl, hb2⟩
        have HB2 : Hid _ := hb2
        clear HH hb2
        go_wp2_with fail
        go_ret
        exact ⟨by rw [HX2.out]; rfl, HB2.out⟩
end Go.Proofs.YtgdnlceliiekkaaGreatDoor.Sa

