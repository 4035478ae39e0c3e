/- For every text the law SyntaxOnce answers true: what is read, printed and read again is the same. No condition. -/
import Derived.Test.YtlmfmgpamhhncaaRows
import Derived.Test.YtlmfmgpamhhncaaPG
import Derived.Test.YtlmfmgpamhhncaaPH
import Derived.ProofKit
import Derived.OpenShut
import Derived.ShutString
import Derived.ChangeOld
import Derived.Deep.Strs
namespace Go.Proofs.Ytlmfmgpamhhncaa.syntaxOnce
open Go.ChangeShapes Go.WideShapes Go.ChangeAt Go.RowKit
open Go.ChangeMaps (open_string shut_string)
set_option linter.unusedVariables false

theorem own : ownKnob Try.prog.godebug = none := by kernel_rfl
theorem laidOut : laidOutB Try.prog = true := by kernel_rfl

set_option maxRecDepth 1000000 in
set_option maxHeartbeats 1000000 in
theorem walk_big (s : ByteArray) (w : World) (h : 5000 < s.size) :
    Calls Try.prog 6 #[.string s] w fun e w' => e = .returned (.bool true) ∧ Below w.heap.size w w' := by
  go_enter Try.func6, Try.ntmps6
  go_wp2_with fail
  refine (lives_any _).mono ?_
  rintro e w1 ⟨rfl, hb1⟩
  go_wp2
  go_ret
  exact ⟨rfl, hb1⟩

theorem bad_ne {n : Nat} {r : Res} {p : Nat} {er : Int} (h : rAns n r = .bad p er) : er ≠ 0 := by
  unfold rAns at h
  split at h
  · rename_i he
    cases h
    exact he
  · split at h
    · cases h; decide
    · split at h
      · cases h; decide
      · cases h

theorem tat_lt {P : Nat → Prop} {w : World} {k : Bool} {t : Tr} {a : Option Addr} {i n : Nat} (h : TAt P w k t a i n) : TAt (· < w.heap.size) w k t a i n := h.keep (fun _ _ _ => rfl) (fun _ _ h => h) _ _ _ _ _

set_option maxRecDepth 1000000 in
set_option maxHeartbeats 2000000 in
theorem walk_small (s : ByteArray) (cs : List Int) (rest : List UInt8) (hp0 : Parts s.data.toList cs rest) (w : World) (hs : s.size ≤ 5000) :
    Calls Try.prog 6 #[.string s] w fun e w' => e = .returned (.bool true) ∧ Below w.heap.size w w' := by
  have hbig : ¬ 5000 < s.size := by omega
  have HA : Hid _ := syn_read s cs rest hp0 w
  have HL : Hid (∀ wx, Calls Try.prog 21 #[.string s] wx fun e w' => Lexed wx (answer s cs rest) e w') := fun wx => lex_all s cs rest hp0 wx
  have HO : Hid _ := once_ans s cs rest hp0 hs
  clear hp0
  cases hA : rAns s.size (answer s cs rest) with
  | bad p er =>
    have her := bad_ne hA
    rw [hA] at HA
    have heb : (er != 0) = true := by simpa using her
    clear HO HL hA
    go_enter Try.func6, Try.ntmps6
    go_wp2_with fail
    refine Calls.mono HA.out ?_
    rintro e w1 ⟨hb1, rfl⟩
    have M2 : Hid (∀ wx, Calls Try.prog 11 #[.agg #[.string ⟨#[]⟩, .slice none 0 0], .agg #[.string ⟨#[]⟩, .slice none 0 0]] wx fun e w' => e = .returned (.bool true) ∧ Below wx.heap.size wx w') := fun wx => same_saga [] .e (fun _ => True) (fun _ => True) wx none none 0 0 rfl rfl (by decide) trivial
    have hA1 : Below w.heap.size w (w1.alloc (.cells #[.string ⟨#[]⟩, .slice none 0 0] 25)) := hb1.alloc hb1.size _
    have n1 := row_new w1 #[.string ⟨#[]⟩, .slice none 0 0] 25
    have HH : Hid _ := hA1
    clear hb1 hA1 HA
    go_wp2_with fail
    refine Calls.mono (M2.out _) ?_
    rintro e w2 ⟨rfl, hb2⟩
    have HH2 : Hid _ := HH.out.trans (hb2.mono HH.out.size)
    clear hb2 HH n1
    go_wp2_with fail
    refine (lives_any _).mono ?_
    rintro e w3 ⟨rfl, hb3⟩
    go_wp2_with fail
    go_ret
    exact ⟨rfl, HH2.out.trans (hb3.mono HH2.out.size)⟩
  | good x t =>
    obtain ⟨cs2, a1, a2, a3, a4, a5, a6, a7, a8⟩ := HO.out x t hA
    rw [hA] at HA
    have HR2 : Hid (∀ wx, Calls Try.prog 9 #[.string ⟨(textS x t).toArray⟩] wx fun e w' => ReadC (⟨(textS x t).toArray⟩ : ByteArray).size (.good x t) wx e w') := fun wx => by
      have := syn_read ⟨(textS x t).toArray⟩ cs2 [] a1 wx
      rwa [a3] at this
    have HL2 : Hid (∀ wx, Calls Try.prog 21 #[.string ⟨(textS x t).toArray⟩] wx fun e w' => Lexed wx (answer ⟨(textS x t).toArray⟩ cs2 []) e w') := fun wx => lex_all ⟨(textS x t).toArray⟩ cs2 [] a1 wx
    have hcode : codeS x t = 0 := by simp [codeS, a6]
    have HP : Hid (∀ wx a c, TAt (· < wx.heap.size) wx true t a 0 t.len → Calls Try.prog 13 #[.agg #[.string ⟨x.toArray⟩, .slice a t.len c]] wx fun e w' => e = .returned (.tuple #[.string ⟨(textS x t).toArray⟩, .int .i64 0]) ∧ Below wx.heap.size wx w') := fun wx a c h => by
      have := print_any wx x t a t.len c h a7 a8 (by omega)
      rwa [a6, if_pos rfl, hcode] at this
    have HC : Hid (∀ wx a c, TAt (· < wx.heap.size) wx true t a 0 t.len → Calls Try.prog 15 #[.agg #[.string ⟨x.toArray⟩, .slice a t.len c]] wx fun e w' => e = .returned (.int .i64 0) ∧ Below wx.heap.size wx w') := fun wx a c h => by
      have := check_any wx x t a t.len c h a7
      rwa [hcode] at this
    have hSt := strip_same a4
    have hZ : t.sz ≤ 1000000000 ∧ t.afs := a7.sz
    have HS : Hid (∀ v1 v2 wx, ReadsT wx v1 (answer s cs rest).toks → ReadsT wx v2 (answer ⟨(textS x t).toArray⟩ cs2 []).toks → Calls Try.prog 23 #[v1, v2] wx fun e w' => e = .returned (.bool true) ∧ ∃ n, w' = wx.drewN n) := fun v1 v2 wx h1 h2 =>
      same_txt v1 v2 _ _ wx h1 h2 (by omega) hSt.1.symm (fun i t u h3 h4 => by have := hSt.2 i u t h4 h3; exact ⟨this.1.symm, this.2.symm⟩)
    clear a1 a2 a3 a4 a5 a6 a7 a8 hSt hA HO hcode
    generalize (answer s cs rest) = R1 at *
    generalize (answer ⟨(textS x t).toArray⟩ cs2 []) = R2 at *
    generalize (textS x t) = TX at *
    obtain ⟨toks1, place1, err1⟩ := R1
    obtain ⟨toks2, place2, err2⟩ := R2
    go_enter Try.func6, Try.ntmps6
    go_wp2_with fail
    refine Calls.mono HA.out ?_
    rintro e w1 ⟨hb1, v1, rfl, p1, c1, rfl, ht1⟩
    obtain ⟨T, HT⟩ : ∃ T, Hid (t.len = T) := ⟨_, rfl⟩
    have n1 := row_new w1 #[.string ⟨x.toArray⟩, .slice p1 t.len c1] 25
    have hA1 : Below w1.heap.size w1 (w1.alloc (.cells #[.string ⟨x.toArray⟩, .slice p1 t.len c1] 25)) := (Below.refl _ _).alloc (Nat.le_refl _) _
    have ht2 := ht1.below hA1
    have M2 : Hid _ := HP.out (w1.alloc (.cells #[.string ⟨x.toArray⟩, .slice p1 t.len c1] 25)) p1 c1 (tat_lt ht2)
    have hB2 := hb1.trans (hA1.mono hb1.size)
    have hz2 : (w1.alloc (.cells #[.string ⟨x.toArray⟩, .slice p1 t.len c1] 25)).heap.size = w1.heap.size + 1 := by simp
    clear HA HP ht1 hb1
    go_wp2_with fail
    refine Calls.mono M2.out ?_
    clear M2
    rintro e w3 ⟨rfl, hb3⟩
    have n3 := (hb3.block w1.heap.size (by omega)).trans n1
    have ht3 := ht2.below hb3
    have hB3 := hB2.trans (hb3.mono hB2.size)
    clear ht2 hB2 n1 hA1 hb3 hz2
    generalize w1.heap.size = G1 at *
    go_wp2_with fail
    refine Calls.mono (HR2.out _) ?_
    clear HR2
    rintro e w4 ⟨hb4, v4, rfl, p4, c4, rfl, ht4⟩
    have n4 := (hb4.block G1 (Array.getElem?_eq_some_iff.1 n3).1).trans n3
    have ht34 := ht3.below hb4
    have hB4 := hB3.trans (hb4.mono hB3.size)
    have hA5 : Below w4.heap.size w4 (w4.alloc (.cells #[.string ⟨x.toArray⟩, .slice p4 t.len c4] 25)) := (Below.refl _ _).alloc (Nat.le_refl _) _
    have m5 := row_new w4 #[.string ⟨x.toArray⟩, .slice p4 t.len c4] 25
    have n5 := row_alloc n4 (.cells #[.string ⟨x.toArray⟩, .slice p4 t.len c4] 25)
    have ht5 := ht4.below hA5
    have ht35 := ht34.below hA5
    have hB5 := hB4.trans (hA5.mono hB4.size)
    clear n3 ht3 hB3 hb4 n4 ht34 hB4 hA5 ht4
    go_wp2_with fail
    generalize w4.alloc (.cells #[.string ⟨x.toArray⟩, .slice p4 t.len c4] 25) = w5 at *
    generalize w4.heap.size = G4 at *
    refine Calls.mono (HL.out _) ?_
    clear HL
    rintro e w6 ⟨v6, rfl, ho6, hb6⟩
    have hr6 := readsT_of_owns ho6
    have n6 := (hb6.block G1 (Array.getElem?_eq_some_iff.1 n5).1).trans n5
    have m6 := (hb6.block G4 (Array.getElem?_eq_some_iff.1 m5).1).trans m5
    have ht6 := ht5.below hb6
    have ht36 := ht35.below hb6
    have hB6 := hB5.trans (hb6.mono hB5.size)
    clear ho6 hb6 n5 m5 ht5 ht35 hB5
    go_wp2_with fail
    refine Calls.mono (HL2.out _) ?_
    clear HL2
    rintro e w7 ⟨v7, rfl, ho7, hb7⟩
    have HR7 : Hid (ReadsT w7 v7 toks2) := readsT_of_owns ho7
    have HR6 : Hid (ReadsT w7 v6 toks1) := hr6.later hb7
    have n7 := (hb7.block G1 (Array.getElem?_eq_some_iff.1 n6).1).trans n6
    have m7 := (hb7.block G4 (Array.getElem?_eq_some_iff.1 m6).1).trans m6
    have HT7 : Hid _ := ht6.below hb7
    have HT37 : Hid _ := ht36.below hb7
    have HB7 : Hid _ := hB6.trans (hb7.mono hB6.size)
    clear ho7 hb7 n6 m6 ht6 ht36 hB6 hr6
    have d0 := (cell_row n7 0).trans rfl
    have d1 := (cell_row n7 1).trans rfl
    have g0 := (cell_row m7 0).trans rfl
    have g1 := (cell_row m7 1).trans rfl
    go_wp2_with fail
    refine (same_saga x t _ _ w7 p4 p1 c4 c1 HT7.out HT37.out hZ.1 hZ.2).mono ?_
    rintro e w8 ⟨rfl, hb8⟩
    have n8 := (hb8.block G1 (Array.getElem?_eq_some_iff.1 n7).1).trans n7
    have HT38 : Hid _ := HT37.out.below hb8
    have HB8 : Hid _ := HB7.out.trans (hb8.mono HB7.out.size)
    have M8 : Hid _ := HS.out v6 v7 w8 (HR6.out.later hb8) (HR7.out.later hb8)
    clear HS HR6 HR7 HT7 HT37 HB7 hb8 d0 d1 g0 g1 n7 m7
    go_wp2_with fail
    refine Calls.mono M8.out ?_
    rintro e w9 ⟨rfl, nq, rfl⟩
    have n9 : (w8.drewN nq).heap[G1]? = _ := n8
    have HT39 : Hid _ := HT38.out.below (bl_drawn (Below.refl _ _) nq)
    have HB9 : Hid _ := bl_drawn HB8.out nq
    generalize w8.drewN nq = w9 at *
    have d0 := (cell_row n9 0).trans rfl
    have d1 := (cell_row n9 1).trans rfl
    clear M8 n8 n9 HT38 HB8
    go_wp2_with fail
    refine Calls.mono (HC.out w9 p1 c1 (tat_lt HT39.out)) ?_
    rintro e w10 ⟨rfl, hb10⟩
    have HB10 : Hid _ := HB9.out.trans (hb10.mono HB9.out.size)
    clear HB9 hb10 HC HT39 d0 d1
    go_wp2_with fail
    refine (lives_any _).mono ?_
    rintro e w11 ⟨rfl, hb11⟩
    go_wp2_with fail
    go_ret
    exact ⟨rfl, HB10.out.trans (hb11.mono HB10.out.size)⟩

theorem walk (a0 : ByteArray) (w : World) (w0 : a0.size ≤ maxLen) :
    Calls Try.prog 6 #[.string a0] w fun e w' => e = .returned (.bool true) ∧ Below w.heap.size w w' := by
  by_cases hb : 5000 < a0.size
  · exact walk_big a0 w hb
  · obtain ⟨cs, rest, hp⟩ := parts_exists a0.data.toList
    exact walk_small a0 cs rest hp w (by omega)

set_option maxRecDepth 100000 in
theorem lifted (os : Os) (started : os.Started) (H : Type) (enc : TypeId × Value → H) :
    ReturnsInHanded {} Try.checked os 6 .any (Rows.syntaxOnceSpec.pre6 enc Try.prog Try.f6 Rows.syntaxOnceRow.domain false) (Rows.syntaxOnceSpec.post enc Try.prog Try.f6 false true false false) := by
  refine returnsInHanded_of_change (C := Try.checked) own started (by kernel_rfl) Try.func6
    (ChangeSpec.witness6 (enc := enc) (C := Try.checked) false ⟨#[], #[.string ByteArray.empty], []⟩ 8 (by kernel_rfl) (by kernel_rfl) (by kernel_rfl) (by kernel_rfl)) ?_
  intro W base args ds gs before hval0 hW hcnd _
  have hval : ∀ (j : Nat) t v, Try.f6.params[j]? = some t → args[j]? = some v → Value.okWide Try.prog W .any base t v := hval0
  have hW' := hW
  obtain ⟨p, q, hA0, hV, rfl, hfz, hnd⟩ := hW
  have hA : DataW.TrodAll enc Try.prog W 0 (fun _ => true) true Try.f6.params.toList args.toList ds p := hA0
  rw [Try.params6] at hA hval
  obtain ⟨v0, vs0, d0, ds0, p0, q0, hargs, rfl, rfl, h0, r0⟩ := trodAll_cons hA
  obtain ⟨rfl, rfl, rfl⟩ := trodAll_nil r0
  obtain rfl : args = #[v0] := by cases args; simp_all
  obtain ⟨rfl, rfl⟩ := trodVars_none hV
  obtain ⟨a0, rfl, rfl, rfl, w0⟩ := open_string Try.underlying9 (hval 0 9 v0 rfl rfl) h0
  clear hA0 hval0
  simp only [List.append_nil] at hW'
  refine (walk a0 W w0).mono fun e W' ⟨he, bel⟩ => ?_
  subst he
  exact ⟨_, rfl, _, _, _, [], [], [], hW', trodAll_mk1 (shut_bool Try.underlying4 _), (trodAll_cons_mk (shut_string Try.underlying9 w0) trodAll_mk0), rfl, bel.frame _, fun h => by cases h⟩

theorem over : Rows.syntaxOnceRow.holds Try.pinned (OpenSpec.ofChange Rows.syntaxOnceSpec) :=
  OpenClaim.holds_of_wide 6 Try.f6 rfl rfl rfl rfl rfl rfl rfl ⟨rfl, rfl, rfl, rfl, rfl⟩ rfl rfl rfl rfl rfl (by kernel_rfl) Try.func6 (by kernel_rfl)
    (of_decide_eq_true (by kernel_rfl)) (by unfold Func.isWrapper; first | (rw [if_pos (by decide +kernel)]; kernel_rfl) | (rw [if_neg (by decide +kernel)]; exact ⟨rfl, rfl⟩))
    (fun os started H enc _ => lifted os started H enc)
end Go.Proofs.Ytlmfmgpamhhncaa.syntaxOnce
namespace Go.Proofs.Ytlmfmgpamhhncaa

theorem syntaxOnce_holds : Rows.SyntaxOnceSaid := syntaxOnce.over
#print axioms syntaxOnce_holds
end Go.Proofs.Ytlmfmgpamhhncaa
