/- Texts of the seat, packed: Yj Kh Ki. -/
import Derived.Test.YtkndchbpbaecbaaGreatDoorP31
import Derived.Test.YtkndchbpbaecbaaGreatDoorP10
import Derived.Test.YtkndchbpbaecbaaGreatDoorP35
import Derived.Lib.SliceRun
import Derived.Maps.AppendAt
import Derived.Laws.MakeOwn
/- The program's See. -/
namespace Go.Proofs.YtkndchbpbaecbaaGreatDoor

open Go.RowKit Go.Shelf Go.Proofs.YtkndchbpbaecbaaGreatDoor.Sx

/-- The spots of items, as the values of a row. -/
def spV : List It → List Value
  | [] => []
  | x :: r => .int .i64 x.inn :: .int .i64 x.alt :: spV r

theorem spV_at : ∀ (l : List It) (i : Nat) (x : It), l[i]? = some x → (spV l)[i * 2]? = some (.int .i64 x.inn) ∧ (spV l)[i * 2 + 1]? = some (.int .i64 x.alt)
  | [], i, x, h => by simp at h
  | y :: r, 0, x, h => by simp at h; subst h; exact ⟨rfl, rfl⟩
  | y :: r, i + 1, x, h => by
    have := spV_at r i x (by simpa using h)
    rw [show (i + 1) * 2 = i * 2 + 2 by omega]
    exact this

/-- A plan that is right can be turned round. -/
theorem right_facts {its : List It} {p : By × Tr} (h : sagaP its = some p) : its.length ≤ 64 ∧ arcN its ≤ 1000000 ∧ Dg.Small (arcP its) ∧ (arcP its).length ≤ 8192 ∧ ∃ W o, Dg.weaveP (its.length : Int) (Dg.swapA (arcP its)) = .ok W o := by
  unfold sagaP at h
  split at h
  · rename_i hc
    have hp := hc.2
    have hf := fit_cnt (planT_fit hp)
    unfold planT planP at hp
    split at hp
    · rename_i hd
      have hl := xsT_len (bodS its) 0 0 0
      have he := Option.some.inj hp
      have ho := hd.2.2.2
      have hn63 : (xsT (bodS its) 0 0 0).length < 64 := by omega
      have h1 := arcN_le (nameI its 0) (bodS its).len (xsT (bodS its) 0 0 0) (xsT (bodS its) 0 0 0).length hn63
      have h2 := arcP_small (nameI its 0) (bodS its).len (xsT (bodS its) 0 0 0) (xsT (bodS its) 0 0 0).length hn63
      have h3 := its2_len (nameI its 0) (bodS its).len (xsT (bodS its) 0 0 0) (xsT (bodS its) 0 0 0).length
      rw [he] at h1 h2 h3 ho
      unfold ordOk at ho
      cases hw : Dg.weaveP (its.length : Int) (arcP its) with
      | bad c => rw [hw] at ho; cases ho
      | ok W o =>
        have hlen : (arcP its).length ≤ 4096 := by
          unfold Dg.weaveP at hw
          split at hw
          · cases hw
          · rename_i hx
            simp only [not_or] at hx
            omega
        refine ⟨by omega, h1, h2, by omega, ?_⟩
        rcases Dg.weave_turn (its.length : Int) (arcP its) with ⟨c, h9, _⟩ | ⟨o1, o2, _, h9⟩
        · rw [hw] at h9; cases h9
        · exact ⟨_, _, h9⟩
    · cases hp
  · cases h

/-- How See ends. -/
def SeeC (its : List It) (w : World) (e : Ending) (w' : World) : Prop := Below w.heap.size w w' ∧ match sagaP its with
  | none => e = .returned (.tuple #[.pointer none, .int .i64 2])
  | some _ => ∃ b W o, e = .returned (.tuple #[.pointer (some ⟨b, 0, none⟩), .int .i64 0]) ∧ w.heap.size ≤ b ∧ Dg.weaveP (its.length : Int) (Dg.swapA (arcP its)) = .ok W o ∧ VwAt w' b its (Dg.reachL W o)

theorem SeeC.bad {its : List It} {w w' : World} (h : sagaP its = none) (hb : Below w.heap.size w w') : SeeC its w (.returned (.tuple #[.pointer none, .int .i64 2])) w' := by
  unfold SeeC
  rw [h]
  exact ⟨hb, rfl⟩

theorem SeeC.ok {its : List It} {w w' : World} {p : By × Tr} {b : Nat} {W o : List Nat} (h : sagaP its = some p) (hb : Below w.heap.size w w') (hz : w.heap.size ≤ b) (hw : Dg.weaveP (its.length : Int) (Dg.swapA (arcP its)) = .ok W o) (hv : VwAt w' b its (Dg.reachL W o)) : SeeC its w (.returned (.tuple #[.pointer (some ⟨b, 0, none⟩), .int .i64 0])) w' := by
  unfold SeeC
  rw [h]
  exact ⟨hb, b, W, o, rfl, hz, hw, hv⟩

end Go.Proofs.YtkndchbpbaecbaaGreatDoor

/- The walks over slices.Clone (of facts), Apply and None. -/
namespace Go.Proofs.YtkndchbpbaecbaaGreatDoor.Fc
open Go.RowKit Go.Shelf
set_option maxRecDepth 1000000
set_option linter.unusedVariables false

theorem info38 : (Tryz.prog.info? 38).map (fun i => (i.zero, i.size, i.bytes)) = some (some (.agg #[.int .i64 0, .int .i64 0, .int .i64 0, .bool false]), 4, 32) := by kernel_rfl

theorem rowsF_one (l : List Fa) : ∀ u ∈ rowsF l, u.oneCell' = true := by
  intro u hu
  obtain ⟨f, _, hf⟩ := List.mem_flatMap.1 hu
  simp only [Fa.cells, List.mem_cons, List.not_mem_nil, or_false] at hf
  rcases hf with rfl | rfl | rfl | rfl <;> rfl

theorem RF.news {w : World} {b off n cap : Nat} {l : List Fa} (h : RF w (.slice (some ⟨b, off, none⟩) n cap) l) : ∀ j u, (rowsF l)[j]? = some u → w.cell? ((⟨b, off, none⟩ : Addr).add j) = some u := by
  intro j u hu
  obtain ⟨a, c, e, _, _, hr⟩ := h
  have ha : some (⟨b, off, none⟩ : Addr) = a := by cases e; rfl
  subst ha
  have hj : j < l.length * 4 := by rw [← rowsF_len]; exact (List.getElem?_eq_some_iff.1 hu).1
  obtain ⟨f, hf⟩ : ∃ f, l[j / 4]? = some f := ⟨_, List.getElem?_eq_getElem (by omega)⟩
  obtain ⟨b', off', e', c0, c1, c2, c3⟩ := hr _ f hf
  cases e'
  have hg := rowsF_get l (j / 4) f hf (j % 4) (by omega)
  rw [show j / 4 * 4 + j % 4 = j by omega, hu] at hg
  have h7 : (⟨b, off, none⟩ : Addr).add j = ⟨b, off + j, none⟩ := by unfold Addr.add; split <;> simp_all
  rw [h7]
  have hm : j % 4 = 0 ∨ j % 4 = 1 ∨ j % 4 = 2 ∨ j % 4 = 3 := by omega
  rcases hm with h | h | h | h
  · rw [h] at hg; rw [show off + j = off + j / 4 * 4 by omega, c0]; exact hg.symm
  · rw [h] at hg; rw [show off + j = off + j / 4 * 4 + 1 by omega, c1]; exact hg.symm
  · rw [h] at hg; rw [show off + j = off + j / 4 * 4 + 2 by omega, c2]; exact hg.symm
  · rw [h] at hg; rw [show off + j = off + j / 4 * 4 + 3 by omega, c3]; exact hg.symm

set_option maxHeartbeats 1000000 in
theorem cloneF_any (v : Value) (l : List Fa) (w : World) (hl : RF w v l) (h0 : 0 < l.length) (hn : l.length ≤ 1000000) :
    Calls Tryz.prog 16 #[v] w fun e w' => Below w.heap.size w w' ∧ ∃ u, e = .returned u ∧ OF w.heap.size w' u l := by
  have hl' := hl
  obtain ⟨a, cap, rfl, hc, _, hr⟩ := hl
  obtain ⟨i0, hi0, hz0, hz1, hz2⟩ := info_parts info38
  obtain ⟨f, hf⟩ : ∃ f, l[0]? = some f := ⟨_, List.getElem?_eq_getElem h0⟩
  obtain ⟨b, off, rfl, _⟩ := hr 0 f hf
  have HNews : Hid (∀ j u, (rowsF l)[j]? = some u → (w.alloc (.cells #[] 38)).cell? ((⟨b, off, none⟩ : Addr).add j) = some u) := (hl'.later (bl1 _ _)).news
  have HOwn : Hid ((w.alloc (.cells #[] 38)).ownsRow w.heap.size 38 4 (.slice (some ⟨w.heap.size, 0, none⟩) 0 0) 0 []) :=
    ⟨rfl, .inr ⟨w.heap.size, 0, #[], rfl, Nat.le_refl _, Dg.row_new _ _ _, Nat.le_refl _, Nat.zero_le _, rfl, rfl⟩⟩
  obtain ⟨n, HN⟩ : ∃ n, Hid (l.length = n) := ⟨_, rfl⟩
  have HLn : Hid ((rowsF l).length = n * 4) := by show _ = _; rw [rowsF_len, HN.out]
  have HOne : Hid (∀ u ∈ rowsF l, u.oneCell' = true) := rowsF_one l
  rw [HN.out] at hn hc h0 ⊢
  clear hr hl' hf
  have hE : ∀ w, (binOp .eql 25 (.slice (some ⟨b, off, none⟩) n cap) (.slice none 0 0)).run Tryz.prog w = .ok (.bool false) w := fun w => Lib.run_eql_slice_nil w 25 38 (some ⟨b, off, none⟩) n cap 0 0 Tryz.underlying25
  go_enter Tryz.func16, Tryz.ntmps16
  go_wp2_with (at_builtin; refine wpList_append_own_at _ rfl _ _ 25 rfl w.heap.size 38 i0 _ 4 32 Tryz.underlying25 hi0 hz0 hz1 hz2 rfl (by decide) _ 0 [] rfl HOwn.out ⟨b, off, none⟩ n cap (rowsF l) rfl HLn.out HNews.out HOne.out (by unfold maxLen; omega) (by omega) (by simp) ?_; intro v7 w7 ho7 hg7 _ hat7)
  have HB7 : Hid (Below w.heap.size w w7) := Below.grown ((Below.refl _ _).alloc (Nat.le_refl _) _) hg7 (by simp) (fun k hk => (HOwn.out.lt _ hk).1)
  have HF : Hid (OF w.heap.size w7 v7 l) := by
    show World.ownsRow _ _ _ _ _ _ _
    rw [HN.out]
    have h := ho7
    rw [Nat.zero_add, List.nil_append] at h
    exact h
  clear ho7 hg7 hat7
  go_wp2_with fail
  go_ret
  exact ⟨HB7.out, _, rfl, HF.out⟩

open Classical in
/-- What Apply tells: an error, or the facts then. -/
noncomputable def appP (its : List It) (l : List Fa) (e : Ek.Ev) : Int ⊕ List Fa :=
  if chkF its l = 0 then (if Ek.okE e = true then (match does (subs its) l e.k e.t e.i.toNat with | none => .inl 14 | some m => .inr m) else .inl 2) else .inl 2

theorem chkF_iff {its : List It} {l : List Fa} : chkF its l = 0 ↔ (sagaP its).isSome = true ∧ okL (subs its) l := by
  constructor
  · intro h
    apply Classical.byContradiction
    intro hn
    rw [chkF_no hn] at h
    cases h
  · intro h; exact chkF_ok h.1 h.2

theorem appP_hap {its : List It} {l : List Fa} (e : Ek.Ev) (h : chkF its l = 0) : appP its l e = if (hap its l e).1 = 0 then .inr (hap its l e).2 else .inl (hap its l e).1 := by
  unfold appP hap
  rw [if_pos h]
  by_cases h2 : Ek.okE e = true
  · rw [if_pos h2, if_pos h2]
    cases does (subs its) l e.k e.t e.i.toNat <;> rfl
  · rw [if_neg h2, if_neg h2]
    rfl

/-- How Apply ends. -/
def AppC (r : Int ⊕ List Fa) (w : World) (x : Ending) (w' : World) : Prop := Below w.heap.size w w' ∧ match r with
  | .inl c => x = .returned (.tuple #[.slice none 0 0, .int .i64 c])
  | .inr m => ∃ u, x = .returned (.tuple #[u, .int .i64 0]) ∧ OF w.heap.size w' u m

theorem AppC.bad {r : Int ⊕ List Fa} {w w' : World} {c : Int} (h : r = .inl c) (hb : Below w.heap.size w w') : AppC r w (.returned (.tuple #[.slice none 0 0, .int .i64 c])) w' := by
  subst h
  exact ⟨hb, rfl⟩
theorem AppC.ok {r : Int ⊕ List Fa} {w w' : World} {m : List Fa} {u : Value} (h : r = .inr m) (hb : Below w.heap.size w w') (ho : OF w.heap.size w' u m) : AppC r w (.returned (.tuple #[u, .int .i64 0])) w' := by
  subst h
  exact ⟨hb, u, rfl, ho⟩

theorem OF.widen {B B' : Nat} {w : World} {v : Value} {l : List Fa} (h : OF B w v l) (hB : B' ≤ B) : OF B' w v l := by
  refine ⟨h.1, ?_⟩
  rcases h.2 with hn | ⟨g, cap, cur, rfl, hb, rest⟩
  · exact .inl hn
  · exact .inr ⟨g, cap, cur, rfl, Nat.le_trans hB hb, rest⟩

theorem root_len {its : List It} (h : (sagaP its).isSome = true) : 1 ≤ its.length ∧ its.length ≤ 64 := by
  obtain ⟨p, hp⟩ := Option.isSome_iff_exists.1 h
  refine ⟨?_, (right_facts hp).1⟩
  unfold sagaP at hp
  split at hp
  · rename_i hc
    have h2 := hc.2
    unfold planT planP at h2
    split at h2
    · have h3 := Option.some.inj h2
      rw [← h3, its2_len]
      omega
    · cases h2
  · cases hp

set_option maxHeartbeats 4000000 in
theorem apply_any (its : List It) (v lv sv : Value) (l : List Fa) (e : Ek.Ev) (w : World) (hIt : RdIt w v its) (hF : FairI its) (hT : Dg.Tab w) (hl : RF w lv l) (hs : Ek.RI w sv e.s) (hsl : e.s.length ≤ 1000000) (hil : its.length ≤ 1000000) (hll : l.length ≤ 1000000) :
    Calls Tryz.prog 8 #[.agg #[v], lv, Ek.EvV e sv] w fun x w' => AppC (appP its l e) w x w' := by
  have h0 := HaS.init w v e sv
  have HIt : Hid (∀ W, Below w.heap.size w W → RdIt W v its) := fun W hb => hIt.later hb
  have HL : Hid (∀ W, Below w.heap.size w W → RF W lv l) := fun W hb => hl.later hb
  have HS : Hid (∀ W, Below w.heap.size w W → Ek.RI W sv e.s) := fun W hb => hs.later hb
  have MC0 := checkF_any its v lv l _ (hIt.later h0.bel) hF (hT.later h0.bel) (hl.later h0.bel) (by omega) (by omega)
  obtain ⟨c, HC⟩ : ∃ c, Hid (chkF its l = c) := ⟨_, rfl⟩
  rw [HC.out] at MC0
  have MC : Hid (Calls Tryz.prog 9 #[.agg #[v], lv] _ fun e w' => e = .returned (.int .i64 c) ∧ Below _ _ w') := MC0
  have HX0 : Hid (HaS w v e sv _) := h0
  clear h0 MC0
  unfold Ek.EvV
  obtain ⟨sa, sc, rfl, _, _, _⟩ := hs
  obtain ⟨ia, icap, rfl, _, _⟩ := hIt
  obtain ⟨la, lcap, rfl, _, _, _⟩ := hl
  go_enter Tryz.func8, Tryz.ntmps8
  go_wp2_with fail
  generalize (w.alloc (.cells #[.slice ia its.length icap] 24)).alloc (.cells #[.int .i64 e.k, .int .i64 e.i, .int .i64 e.t, .slice sa e.s.length sc] 29) = w0 at *
  refine Calls.mono MC.out ?_
  rintro x w1 ⟨rfl, hb1⟩
  have HX1 : Hid _ := HX0.out.later hb1
  clear MC hb1 HX0
  by_cases hc : c = 0
  rotate_left
  · have HP : Hid (appP its l e = .inl 2) := by
      show _ = _
      unfold appP
      rw [if_neg (by rw [HC.out]; exact hc)]
    have hc2 : (c != 0) = true := by simpa using hc
    clear hc HC
    go_wp2_with fail
    go_ret2
    exact AppC.bad HP.out HX1.out.bel
  subst hc
  have HOK : Hid _ := chkF_iff.1 HC.out
  have HP : Hid _ := appP_hap e HC.out
  have hln : l.length = its.length := by have := HOK.out.2.1; rw [this]; unfold subs; rw [List.length_map]
  have hpos := (root_len HOK.out.1).1
  have MK : Hid _ := cloneF_any _ l w1 (HL.out w1 HX1.out.bel) (by omega) hll
  clear HC hln hpos
  go_wp2_with fail
  refine Calls.mono MK.out ?_
  rintro x w2 ⟨hb2, u, rfl, ho2⟩
  have HX2 : Hid _ := HX1.out.later hb2
  have HO2 : Hid (OF w1.heap.size w2 u l) := ho2
  obtain ⟨ua, ucap, rfl, _⟩ := ho2.rf
  have MH0 := happen_any its _ _ _ l e w1.heap.size w2 (HIt.out w2 HX2.out.bel) ho2 HOK.out.2 (HS.out w2 HX2.out.bel) hsl (by omega)
  unfold Ek.EvV at MH0
  have MH : Hid (Calls Tryz.prog 17 #[.agg #[.slice ia its.length icap], .slice ua l.length ucap, .agg #[.int .i64 e.k, .int .i64 e.i, .int .i64 e.t, .slice sa e.s.length sc]] w2 fun x w' => HapC its l e w1.heap.size (.slice ua l.length ucap) w2 x w') := MH0
  obtain ⟨y0, y1, y2, y3, y4⟩ := HX2.out.ev
  have hz1 := HX1.out.bel.size
  clear MK hb2 ho2 MH0
  go_wp2_with fail
  refine Calls.mono MH.out ?_
  rintro x w3 ⟨rfl, ho3, hg3⟩
  have HB3 : Hid (Below w.heap.size w w3) := Below.grown HX2.out.bel hg3 HX2.out.bel.size (fun k hk => Nat.le_trans hz1 (World.ownsRow.lt HO2.out k hk).1)
  have HO3 : Hid (OF w.heap.size w3 _ _) := ho3.widen hz1
  clear ho3 hg3 MH y0 y1 y2 y3 y4
  obtain ⟨c, HC⟩ : ∃ c, Hid ((hap its l e).1 = c) := ⟨_, rfl⟩
  rw [HC.out] at HP ⊢
  by_cases hc : c = 0
  · subst hc
    have HP2 : Hid _ := HP.out.trans (if_pos rfl)
    clear HC HP
    go_wp2_with fail
    go_ret2
    exact AppC.ok HP2.out HB3.out HO3.out
  · have HP2 : Hid _ := HP.out.trans (if_neg hc)
    have hc2 : (c != 0) = true := by simpa using hc
    clear HC HP hc
    go_wp2_with fail
    go_ret2
    exact AppC.bad HP2.out HB3.out
end Go.Proofs.YtkndchbpbaecbaaGreatDoor.Fc

/- The walks over None and All. -/
namespace Go.Proofs.YtkndchbpbaecbaaGreatDoor.Fc
open Go.RowKit Go.Shelf
set_option maxRecDepth 1000000
set_option linter.unusedVariables false

theorem made_facts (n : Nat) : madeCells #[Value.int .i64 0, .int .i64 0, .int .i64 0, .bool false] (n * 4) = (rowsF (List.replicate n Fa.z)).toArray := by
  apply Array.toList_inj.1
  apply List.ext_getElem?
  intro j
  by_cases hj : j < n * 4
  · have hf : (List.replicate n Fa.z)[j / 4]? = some Fa.z := by rw [List.getElem?_replicate, if_pos (by omega)]
    have hg := rowsF_get _ (j / 4) Fa.z hf (j % 4) (by omega)
    rw [show j / 4 * 4 + j % 4 = j by omega] at hg
    show _ = (rowsF (List.replicate n Fa.z))[j]?
    rw [hg]
    simp only [madeCells, Array.toList_map, List.getElem?_map]
    have hr : (Array.range (n * 4)).toList[j]? = some j := by simp [hj]
    rw [hr]
    have hm : j % 4 = 0 ∨ j % 4 = 1 ∨ j % 4 = 2 ∨ j % 4 = 3 := by omega
    show some ((#[Value.int .i64 0, .int .i64 0, .int .i64 0, .bool false] : Array Value)[j % 4]!) = _
    rcases hm with h | h | h | h <;> rw [h] <;> rfl
  · rw [List.getElem?_eq_none (by rw [Array.length_toList, size_madeCells]; omega)]
    show none = (rowsF (List.replicate n Fa.z))[j]?
    rw [List.getElem?_eq_none (by rw [rowsF_len, List.length_replicate]; omega)]

theorem make_facts (n : Nat) (hn : n ≤ 64) : ∃ C : Array Value, Hid (C = (rowsF (List.replicate n Fa.z)).toArray) ∧ ∀ wx : World, (Instr.makeSlice 25 (.int .i64 (n : Int)) (.int .i64 (n : Int))).run Tryz.prog wx = .ok (.slice (some ⟨wx.heap.size, 0, none⟩) n n) (wx.alloc (.cells C 38)) := by
  obtain ⟨i0, hi0, hz0, hz1, hz2⟩ := info_parts info38
  refine ⟨_, rfl, fun wx => ?_⟩
  have hmk := run_make (P := Tryz.prog) wx 25 38 i0 _ Tryz.underlying25 hi0 hz0 .i64 .i64 (n : Int) (n : Int) (by omega) (by omega) (by rw [hz2]; omega) (by omega)
  simp only [hz1, Int.toNat_natCast] at hmk
  rw [hmk, ← made_facts]
  rfl

/-- How None ends. -/
def NonC (its : List It) (w : World) (x : Ending) (w' : World) : Prop := Below w.heap.size w w' ∧ match (sagaP its).isSome with
  | false => x = .returned (.slice none 0 0)
  | true => ∃ g, x = .returned (.slice (some ⟨g, 0, none⟩) its.length its.length) ∧ OF w.heap.size w' (.slice (some ⟨g, 0, none⟩) its.length its.length) (List.replicate its.length Fa.z)

theorem NonC.no {its : List It} {w w' : World} (h : (sagaP its).isSome = false) (hb : Below w.heap.size w w') : NonC its w (.returned (.slice none 0 0)) w' := by
  unfold NonC
  rw [h]
  exact ⟨hb, rfl⟩
theorem NonC.yes {its : List It} {w w' : World} {g : Nat} (h : (sagaP its).isSome = true) (hb : Below w.heap.size w w') (ho : OF w.heap.size w' (.slice (some ⟨g, 0, none⟩) its.length its.length) (List.replicate its.length Fa.z)) : NonC its w (.returned (.slice (some ⟨g, 0, none⟩) its.length its.length)) w' := by
  unfold NonC
  rw [h]
  exact ⟨hb, g, rfl, ho⟩

set_option maxHeartbeats 1000000 in
theorem noneF_any (its : List It) (v : Value) (w : World) (hIt : RdIt w v its) (hF : FairI its) (hT : Dg.Tab w) :
    Calls Tryz.prog 23 #[.agg #[v]] w fun x w' => NonC its w x w' := by
  have hc0 : ChS w v (w.alloc (.cells #[v] 24)) := ⟨bl1 _ _, Dg.row_new w _ 24⟩
  have M0 := Right_any its v _ (hIt.later hc0.bel) hF (hT.later hc0.bel)
  obtain ⟨ia, icap, rfl, _, _⟩ := hIt
  have HC0 : Hid (ChS w (.slice ia its.length icap) _) := hc0
  obtain ⟨q, HQ⟩ : ∃ q, Hid ((sagaP its).isSome = q) := ⟨_, rfl⟩
  rw [HQ.out] at M0
  have M : Hid (Calls Tryz.prog 18 #[.agg #[.slice ia its.length icap]] _ fun e w' => e = .returned (.bool q) ∧ Below _ _ w') := M0
  clear M0 hc0
  go_enter Tryz.func23, Tryz.ntmps23
  go_wp2_with fail
  generalize w.alloc (.cells #[.slice ia its.length icap] 24) = w0 at *
  refine Calls.mono M.out ?_
  rintro x w1 ⟨rfl, hb1⟩
  have HC1 : Hid _ := HC0.out.later hb1
  clear M HC0 hb1
  cases q with
  | false =>
    go_wp2_with fail
    go_ret
    exact NonC.no HQ.out HC1.out.bel
  | true =>
    have hn := (root_len HQ.out).2
    obtain ⟨C, HCC, hmk⟩ := make_facts its.length hn
    have z0 := (Dg.cell_row HC1.out.box 0).trans rfl
    go_wp2_with fail
    go_ret
    have hz := HC1.out.bel.size
    have h := World.ownsRow_lit (base := w.heap.size) (e := 38) (size := 4) w1 C its.length hz (by unfold maxLen; omega) (by rw [HCC.out]; simp [rowsF_len])
    refine NonC.yes HQ.out (HC1.out.bel.alloc hz _) ?_
    unfold OF
    rw [List.length_replicate]
    rw [HCC.out] at h ⊢
    exact h

/-- Events in memory. -/
def RE (w : World) (v : Value) (L : List Ek.Ev) : Prop :=
  ∃ a cap, v = .slice a L.length cap ∧ L.length ≤ cap ∧ cap ≤ maxLen ∧ ∀ i x, L[i]? = some x → ∃ b off sv, a = some ⟨b, off, none⟩ ∧ w.cell? ⟨b, off + i * 4, none⟩ = some (.int .i64 x.k) ∧ w.cell? ⟨b, off + i * 4 + 1, none⟩ = some (.int .i64 x.i) ∧ w.cell? ⟨b, off + i * 4 + 2, none⟩ = some (.int .i64 x.t) ∧ w.cell? ⟨b, off + i * 4 + 3, none⟩ = some sv ∧ Ek.RI w sv x.s

/-- What All tells: which event does not fit, and why; or the facts then. -/
def runA (its : List It) : List Fa → Nat → List Ek.Ev → (Nat × Int) ⊕ List Fa
  | l, _, [] => .inr l
  | l, k, e :: H => if (hap its l e).1 = 0 then runA its (hap its l e).2 (k + 1) H else .inl (k, (hap its l e).1)

open Classical in
noncomputable def allP (its : List It) (H : List Ek.Ev) : (Nat × Int) ⊕ List Fa := if (sagaP its).isSome = true then runA its (List.replicate its.length Fa.z) 0 H else .inl (0, 2)

/-- How All ends. -/
def AllC (r : (Nat × Int) ⊕ List Fa) (n : Nat) (w : World) (x : Ending) (w' : World) : Prop := Below w.heap.size w w' ∧ match r with
  | .inl (k, c) => x = .returned (.tuple #[.slice none 0 0, .int .i64 (k : Int), .int .i64 c])
  | .inr m => ∃ u, x = .returned (.tuple #[u, .int .i64 (n : Int), .int .i64 0]) ∧ OF w.heap.size w' u m

theorem hap_ok {its : List It} {l : List Fa} {e : Ek.Ev} (hl : okL (subs its) l) : okL (subs its) (hap its l e).2 := by
  unfold hap
  split
  · split
    · exact hl
    · rename_i m hm
      exact (does_right hl hm).1
  · exact hl

/-- What All knows between two events. -/
structure AlS (its : List It) (w : World) (v u : Value) (L : List Fa) (W : World) : Prop where
  bel : Below w.heap.size w W
  box : W.heap[w.heap.size]? = some (.cells #[v] 24 (0, 0))
  own : OF (w.heap.size + 1) W u L
  ok : okL (subs its) L

theorem AlS.later {its : List It} {w : World} {v u : Value} {L : List Fa} {W W' : World} (h : AlS its w v u L W) (hb : Below W.heap.size W W') : AlS its w v u L W' :=
  ⟨h.bel.trans (hb.mono h.bel.size), (hb.block _ (Array.getElem?_eq_some_iff.1 h.box).1).trans h.box, h.own.later hb, h.ok⟩

theorem AlS.hap {its : List It} {w : World} {v u : Value} {L : List Fa} {W W' : World} {e : Ek.Ev} (h : AlS its w v u L W) (ho : OF (w.heap.size + 1) W' u (hap its L e).2) (hg : W.grownBy W' u.ownBlock) : AlS its w v u (hap its L e).2 W' := by
  have hlt : ∀ k, u.ownBlock = some k → w.heap.size + 1 ≤ k := fun k hk => (World.ownsRow.lt h.own k hk).1
  refine ⟨Below.grown h.bel hg h.bel.size (fun k hk => by have := hlt k hk; omega), ?_, ho, hap_ok h.ok⟩
  rw [hg.block _ (Array.getElem?_eq_some_iff.1 h.box).1 (fun e => by have := hlt _ e.symm; omega)]
  exact h.box

set_option maxHeartbeats 4000000 in
theorem all_any (its : List It) (v hv : Value) (H : List Ek.Ev) (w : World) (hIt : RdIt w v its) (hF : FairI its) (hT : Dg.Tab w) (hh : RE w hv H) (hil : its.length ≤ 1000000) (hHl : H.length ≤ 1000000) (hHs : ∀ e ∈ H, e.s.length ≤ 1000000) :
    Calls Tryz.prog 13 #[.agg #[v], hv] w fun x w' => AllC (allP its H) H.length w x w' := by
  have hc0 : ChS w v (w.alloc (.cells #[v] 24)) := ⟨bl1 _ _, Dg.row_new w _ 24⟩
  have HIt : Hid (∀ W, Below w.heap.size w W → RdIt W v its) := fun W hb => hIt.later hb
  have M0 := noneF_any its v _ (hIt.later hc0.bel) hF (hT.later hc0.bel)
  obtain ⟨ia, icap, rfl, _, _⟩ := hIt
  obtain ⟨ha, hcap, rfl, hhc, hhm, hhr⟩ := hh
  have HHR : Hid _ := hhr
  have HHS : Hid _ := hHs
  have HC0 : Hid (ChS w (.slice ia its.length icap) _) := hc0
  obtain ⟨m, HM⟩ : ∃ m, Hid (H.length = m) := ⟨_, rfl⟩
  rw [HM.out] at hHl hhc ⊢
  have HZ : Hid ((w.alloc (.cells #[.slice ia its.length icap] 24)).heap.size = w.heap.size + 1) := by show _ = _; simp
  have M : Hid (Calls Tryz.prog 23 #[.agg #[.slice ia its.length icap]] (w.alloc (.cells #[.slice ia its.length icap] 24)) fun x w' => NonC its (w.alloc (.cells #[.slice ia its.length icap] 24)) x w') := M0
  clear M0 hc0 hhr hHs
  go_enter Tryz.func13, Tryz.ntmps13
  go_wp2_with fail
  generalize w.alloc (.cells #[.slice ia its.length icap] 24) = w0 at *
  refine Calls.mono M.out ?_
  rintro x w1 ⟨hb1, hx⟩
  have HC1 : Hid _ := HC0.out.later hb1
  clear M HC0 hb1
  cases hq : (sagaP its).isSome with
  | false =>
    rw [hq] at hx
    obtain rfl : x = .returned (.slice none 0 0) := hx
    have HP : Hid (allP its H = .inl (0, 2)) := by
      show _ = _
      unfold allP
      rw [if_neg (by rw [hq]; decide)]
    clear hq
    go_wp2_with fail
    go_ret3
    rw [HP.out]
    exact ⟨HC1.out.bel, rfl⟩
  | true =>
    rw [hq] at hx
    obtain ⟨g, rfl, ho⟩ := hx
    have HP : Hid (allP its H = runA its (List.replicate its.length Fa.z) 0 H) := by
      show _ = _
      unfold allP
      rw [if_pos hq]
    obtain ⟨n1, n2⟩ := root_len hq
    have hne : ((its.length : Int) == 0) = false := by rw [beq_eq_false_iff_ne]; omega
    have HA1 : Hid (AlS its w (.slice ia its.length icap) (.slice (some ⟨g, 0, none⟩) its.length its.length) (List.replicate its.length Fa.z) w1) := ⟨HC1.out.bel, HC1.out.box, by rw [HZ.out] at ho; exact ho, by have h := none_ok (subs its); unfold subs at h ⊢; rw [List.length_map] at h; exact h⟩
    clear hq ho HC1 n1
    have HNL : Hid (its.length ≤ 1000000000) := by show _ ≤ _; omega
    go_wp2_with fail
    go_loopw [18] (fun iv wr => ∃ (k : Nat) (L : List Fa), k ≤ m ∧ iv = .int .i64 k ∧ Hid (allP its H = runA its L k (H.drop k)) ∧ Hid (AlS its w (.slice ia its.length icap) (.slice (some ⟨g, 0, none⟩) its.length its.length) L wr)) (fun iv _ => m - (intOf iv).toNat)
    case atStart => exact ⟨0, _, Nat.zero_le _, rfl, by show allP its H = runA its _ 0 (H.drop 0); exact HP.out, HA1⟩
    case round =>
      obtain ⟨k, L, hk, rfl, HR, HA⟩ := hrel
      rename World => wr
      by_cases hlt : k < m
      rotate_left
      · have HR2 : Hid (allP its H = .inr L) := by
          show _ = _
          rw [HR.out, List.drop_of_length_le (by rw [HM.out]; omega)]
          rfl
        have HKM : Hid (k = m) := by show k = m; omega
        clear HR HP
        go_wp2_with fail
        go_ret3
        rw [HR2.out]
        exact ⟨HA.out.bel, _, rfl, HA.out.own.widen (by omega)⟩
      obtain ⟨e, he⟩ : ∃ e, H[k]? = some e := ⟨_, List.getElem?_eq_getElem (by rw [HM.out]; exact hlt)⟩
      have HR2 : Hid (allP its H = if (hap its L e).1 = 0 then runA its (hap its L e).2 (k + 1) (H.drop (k + 1)) else .inl (k, (hap its L e).1)) := by
        show _ = _
        rw [HR.out, List.drop_eq_getElem_cons (by rw [HM.out]; exact hlt)]
        have h9 : H[k]'(by rw [HM.out]; exact hlt) = e := by rw [List.getElem?_eq_getElem (by rw [HM.out]; exact hlt)] at he; exact Option.some.inj he
        rw [h9]
        rfl
      obtain ⟨eb, eo, sv, rfl, e0, e1, e2, e3, hs⟩ := HHR.out k e he
      have hel := HHS.out e (List.mem_of_getElem? he)
      have MH0 := happen_any its (.slice ia its.length icap) (.slice (some ⟨g, 0, none⟩) its.length its.length) sv L e (w.heap.size + 1) (wr.alloc (.cells #[.int .i64 e.k, .int .i64 e.i, .int .i64 e.t, sv] 29)) (HIt.out _ (HA.out.bel.trans ((bl1 _ _).mono HA.out.bel.size))) (HA.out.own.later (bl1 _ _)) HA.out.ok (hs.later (HA.out.bel.trans ((bl1 _ _).mono HA.out.bel.size))) hel HNL.out
      unfold Ek.EvV at MH0
      have HA2 : Hid _ := HA.out.later (bl1 wr (.cells #[.int .i64 e.k, .int .i64 e.i, .int .i64 e.t, sv] 29))
      have hbr := HA.out.bel
      have g0 := Dg.cell_later hbr e0
      have g1 := Dg.cell_later hbr e1
      have g2 := Dg.cell_later hbr e2
      have g3 := Dg.cell_later hbr e3
      have z0 := (Dg.cell_row HA.out.box 0).trans rfl
      have z1 := (Dg.cell_row HA2.out.box 0).trans rfl
      obtain ⟨sa, sc, rfl, _, _, _⟩ := hs
      have MH : Hid (Calls Tryz.prog 17 #[.agg #[.slice ia its.length icap], .slice (some ⟨g, 0, none⟩) its.length its.length, .agg #[.int .i64 e.k, .int .i64 e.i, .int .i64 e.t, .slice sa e.s.length sc]] _ fun x w' => HapC its L e (w.heap.size + 1) (.slice (some ⟨g, 0, none⟩) its.length its.length) _ x w') := MH0
      have hii : (k : Int) < (m : Int) := by omega
      clear e0 e1 e2 e3 hbr MH0 hel he HR HA
      go_wp2_with fail
      generalize wr.alloc (.cells #[.int .i64 e.k, .int .i64 e.i, .int .i64 e.t, .slice sa e.s.length sc] 29) = wa at *
      refine Calls.mono MH.out ?_
      rintro x w2 ⟨rfl, ho2, hg2⟩
      have HA3 : Hid _ := HA2.out.hap ho2 hg2
      clear MH ho2 hg2 HA2 g0 g1 g2 g3 z0 z1
      obtain ⟨c, HC⟩ : ∃ c, Hid ((hap its L e).1 = c) := ⟨_, rfl⟩
      rw [HC.out] at HR2 ⊢
      by_cases hc : c = 0
      · subst hc
        have HR3 : Hid _ := HR2.out.trans (if_pos rfl)
        clear HC HR2
        go_wp2_with fail
        go_roundw
        case rel => exact ⟨k + 1, _, by omega, by go_num, HR3, HA3⟩
        case measure => simp [intOf]; omega
      · have HR3 : Hid _ := HR2.out.trans (if_neg hc)
        have hc2 : (c != 0) = true := by simpa using hc
        clear HC HR2 hc
        go_wp2_with fail
        go_ret3
        rw [HR3.out]
        exact ⟨HA3.out.bel, rfl⟩
end Go.Proofs.YtkndchbpbaecbaaGreatDoor.Fc

