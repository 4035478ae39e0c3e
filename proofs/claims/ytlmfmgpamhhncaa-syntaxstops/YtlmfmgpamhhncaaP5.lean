/- Texts of the seat, packed: WU WV WX WY WZ. -/
import Derived.Test.YtlmfmgpamhhncaaP4
import Derived.Lib.Builder
import Derived.Lib.UnsafeStr
import Derived.Lib.AppendStr
import Derived.Laws.Externs
import Derived.Deep.RegionWith
/- Walks over the document's Same and SameTexts: slices that read as tokens. -/
namespace Go.Proofs.Ytlmfmgpamhhncaa
open Go.RowKit
set_option linter.unusedVariables false

/-- A slice that reads as tokens. -/
def ReadsT (w : World) (v : Value) (l : List Tok) : Prop :=
  ∃ a cap, v = .slice a l.length cap ∧ (a = none → cap = 0) ∧ l.length ≤ cap ∧ ∀ i t, l[i]? = some t → ∃ b off, a = some ⟨b, off, none⟩ ∧ w.cell? ⟨b, off + i * 3, none⟩ = some (.int .i64 t.kind) ∧ w.cell? ⟨b, off + i * 3 + 1, none⟩ = some (.string ⟨t.text.toArray⟩) ∧ w.cell? ⟨b, off + i * 3 + 2, none⟩ = some (.int .i64 (t.at_ : Int))

theorem readsT_of_owns {w : World} {B : Nat} {v : Value} {l : List Tok} (h : w.ownsRow B 48 3 v l.length (tvs l)) : ReadsT w v l := by
  rcases h.2 with ⟨rfl, h0⟩ | ⟨g, cap, cur, rfl, hb, hg, hnc, hcm, _⟩
  · have h1 : l = [] := List.eq_nil_of_length_eq_zero h0
    subst h1
    exact ⟨none, 0, rfl, fun _ => rfl, Nat.le_refl _, by simp⟩
  · refine ⟨_, cap, rfl, (fun h => by cases h), hnc, fun i t hi => ⟨g, 0, rfl, ?_, ?_, ?_⟩⟩
    all_goals have hil : i < l.length := (List.getElem?_eq_some_iff.1 hi).1
    · rw [Nat.zero_add, h.cellAt _ (by omega)]
      exact tvs_at l i 0 t hi (by omega)
    · rw [Nat.zero_add, h.cellAt _ (by omega)]
      exact tvs_at l i 1 t hi (by omega)
    · rw [Nat.zero_add, h.cellAt _ (by omega)]
      exact tvs_at l i 2 t hi (by omega)

theorem ReadsT.later {w wx : World} {v : Value} {l : List Tok} (h : ReadsT w v l) (hb : Below w.heap.size w wx) : ReadsT wx v l := by
  obtain ⟨a, cap, hv, hn, hc, hr⟩ := h
  refine ⟨a, cap, hv, hn, hc, fun i t hi => ?_⟩
  obtain ⟨b, off, ha, c0, c1, c2⟩ := hr i t hi
  exact ⟨b, off, ha, cell_later hb c0, cell_later hb c1, cell_later hb c2⟩


set_option maxRecDepth 1000000 in
set_option maxHeartbeats 1000000 in
theorem same_txt (x y : Value) (l m : List Tok) (w : World) (hx : ReadsT w x l) (hy : ReadsT w y m) (hl : l.length ≤ 100000) (hlm : l.length = m.length) (hs : ∀ (i : Nat) (t u : Tok), l[i]? = some t → m[i]? = some u → t.kind = u.kind ∧ t.text = u.text) :
    Calls Try.prog 23 #[x, y] w fun e w' => e = .returned (.bool true) ∧ ∃ n, w' = w.drewN n := by
  obtain ⟨a, ca, rfl, _, hna, hca⟩ := hx
  obtain ⟨b, cb, rfl, _, hnb, hcb⟩ := hy
  rw [← hlm] at hnb ⊢
  have HLM : Hid (l.length = m.length) := hlm
  clear hlm
  go_enter Try.func23, Try.ntmps23
  go_wp2
  go_loopw [5] (fun i wr => ∃ (k n : Nat), k ≤ l.length ∧ i = .int .i64 k ∧ wr = w.drewN n) (fun i _ => l.length - (intOf i).toNat)
  case atStart => exact ⟨0, 0, Nat.zero_le _, rfl, rfl⟩
  case round =>
    obtain ⟨k, n, hk, rfl, rfl⟩ := hrel
    by_cases hlt : k < l.length
    · obtain ⟨t, ht⟩ : ∃ t, l[k]? = some t := ⟨_, List.getElem?_eq_getElem hlt⟩
      obtain ⟨t2, ht2⟩ : ∃ t, m[k]? = some t := ⟨_, List.getElem?_eq_getElem (by rw [← HLM.out]; exact hlt)⟩
      obtain ⟨b1, o1, rfl, a0, a1, a2⟩ := hca k t ht
      obtain ⟨b2, o2, rfl, d0, d1, d2⟩ := hcb k t2 ht2
      obtain ⟨e1, e2⟩ := hs k t t2 ht ht2
      rw [← e1] at d0
      rw [← e2] at d1
      generalize t.kind = y at *
      generalize (⟨t.text.toArray⟩ : ByteArray) = u at *
      have a0' : ∀ m, (w.drewN m).cell? ⟨b1, o1 + k * 3, none⟩ = some (.int .i64 y) := fun _ => a0
      have a1' : ∀ m, (w.drewN m).cell? ⟨b1, o1 + k * 3 + 1, none⟩ = some (.string u) := fun _ => a1
      have d0' : ∀ m, (w.drewN m).cell? ⟨b2, o2 + k * 3, none⟩ = some (.int .i64 y) := fun _ => d0
      have d1' : ∀ m, (w.drewN m).cell? ⟨b2, o2 + k * 3 + 1, none⟩ = some (.string u) := fun _ => d1
      clear hca hcb ht ht2 e1 e2 hs a2 d2
      go_wp2
      go_quiet (fail)
      go_wp2
      go_roundw
      case rel => exact ⟨k + 1, _, by omega, by go_num, rfl⟩
      case measure => simp [intOf]; omega
    · clear hs hca hcb
      go_wp2
      go_ret
      exact ⟨rfl, n, rfl⟩
end Go.Proofs.Ytlmfmgpamhhncaa

/- Walks over lex.Name and lex.Word. -/
namespace Go.Proofs.Ytlmfmgpamhhncaa
open Go.RowKit
set_option linter.unusedVariables false

/-- Is a text a name, by the answer of the machine? -/
def nameB (r : Res) (s : List UInt8) : Bool := match r.toks with
  | [t] => decide (r.err = 0 ∧ t.kind = 1 ∧ t.text = s)
  | _ => false

/-- Any answer of 'Lex' at a text: whichever it is. -/
def answer (s : ByteArray) (cs : List Int) (rest : List UInt8) : Res := if s.size ≤ 65536 then lexR cs rest else ⟨[], 0, 5⟩

theorem lex_all (s : ByteArray) (cs : List Int) (rest : List UInt8) (hp0 : Parts s.data.toList cs rest) (w : World) :
    Calls Try.prog 21 #[.string s] w fun e w' => Lexed w (answer s cs rest) e w' := by
  unfold answer
  split
  · rename_i h
    exact lex_any s cs rest hp0 w h
  · rename_i h
    exact lex_great s w h

theorem str_eq (a : List UInt8) (s : ByteArray) : ((⟨a.toArray⟩ : ByteArray).toList == s.toList) = decide (a = s.data.toList) := by
  rw [Lib.toList_data, Lib.toList_data, Bool.eq_iff_iff]
  simp

set_option maxRecDepth 1000000 in
set_option maxHeartbeats 1000000 in
theorem name_any (s : ByteArray) (cs : List Int) (rest : List UInt8) (hp0 : Parts s.data.toList cs rest) (w : World) :
    Calls Try.prog 66 #[.string s] w fun e w' => e = .returned (.bool (nameB (answer s cs rest) s.data.toList)) ∧ Below w.heap.size w w' := by
  have HL : Hid _ := lex_all s cs rest hp0 w
  generalize answer s cs rest = r at *
  obtain ⟨toks, place, err⟩ := r
  clear hp0
  go_enter Try.func66, Try.ntmps66
  go_wp2_with fail
  refine Calls.mono HL.out ?_
  rintro e w1 ⟨v, rfl, hown, hb1⟩
  clear HL
  simp only at hown
  have hr := readsT_of_owns hown
  clear hown
  obtain ⟨a, cap, rfl, hn0, hcap, hr⟩ := hr
  by_cases h0 : err = 0
  · subst h0
    rcases toks with _ | ⟨t, _ | ⟨t2, toks⟩⟩
    · clear hr hn0
      go_wp2
      go_ret
      exact ⟨rfl, hb1⟩
    · obtain ⟨b, off, rfl, c0, c1, c2⟩ := hr 0 t rfl
      simp only [Nat.zero_mul, Nat.add_zero] at c0 c1
      have HN : Hid (nameB ⟨[t], place, 0⟩ s.data.toList = decide (t.kind = 1 ∧ t.text = s.data.toList)) := by
        show _ = _
        simp [nameB]
      by_cases hk : t.kind = 1
      · rw [hk] at c0
        have HK : Hid (t.kind = 1) := hk
        clear hr hn0 hk c2
        go_wp2
        go_ret
        refine ⟨ret_bool ?_, hb1⟩
        rw [HN.out, HK.out, Lib.toList_data, Bool.eq_iff_iff]
        simp
      · have hk2 : (t.kind == 1) = false := by rw [beq_eq_false_iff_ne]; exact hk
        have HK : Hid (¬ t.kind = 1) := hk
        clear hr hn0 hk c2
        go_wp2
        go_ret
        refine ⟨ret_bool ?_, hb1⟩
        rw [HN.out]
        have := HK.out
        simp [this]
    · have hl2 : (((t :: t2 :: toks).length : Int) == 1) = false := by rw [beq_eq_false_iff_ne]; simp; omega
      clear hr hn0
      generalize ht : (t :: t2 :: toks).length = n at *
      go_wp2
      go_ret
      exact ⟨rfl, hb1⟩
  · have h2 : (err == 0) = false := by rw [beq_eq_false_iff_ne]; exact h0
    have HN : Hid (nameB ⟨toks, place, err⟩ s.data.toList = false) := by
      show _ = _
      unfold nameB
      split
      · simp [h0]
      · rfl
    clear h0 hr hn0
    go_wp2
    go_ret
    exact ⟨ret_bool HN.out.symm, hb1⟩

/-- Is a text one of the words? -/
def isWord (l : List UInt8) : Bool := l == [115, 97, 103, 97] || l == [115, 116, 101, 112] || l == [115, 117, 98] || l == [117, 110, 100, 111] || l == [97, 102, 116, 101, 114] || l == [118, 105, 116, 97, 108] || l == [108, 111, 111, 115, 101] || l == [111, 114]

set_option maxRecDepth 1000000 in
set_option maxHeartbeats 1000000 in
theorem word_any (s : ByteArray) (w : World) : Calls Try.prog 48 #[.string s] w fun e w' => e = .returned (.bool (isWord s.data.toList)) ∧ w' = w := by
  go_enter Try.func48, Try.ntmps48
  go_wp2
  all_goals go_ret
  all_goals refine ⟨ret_bool ?_, rfl⟩
  all_goals simp_all [isWord, Lib.toList_data]
end Go.Proofs.Ytlmfmgpamhhncaa

/- Walks over strings.Builder: copyCheck, WriteByte, WriteString, String. -/
namespace Go.Proofs.Ytlmfmgpamhhncaa
open Go.RowKit
set_option linter.unusedVariables false

/-- A builder's block and its bytes. -/
structure BAt (w : World) (b B : Nat) (p v : Value) (l : List UInt8) : Prop where
  blk : w.heap[b]? = some (.cells #[p, v] 91 (0, 0))
  own : w.ownsRow B 5 1 v l.length (bvs l)
  lt : b < B
  le : B ≤ w.heap.size
  nil : l = [] → v = .slice none 0 0

/-- A builder that holds these bytes. -/
def IsB (w : World) (b B : Nat) (l : List UInt8) : Prop := ∃ v, BAt w b B (.pointer none) v l ∨ BAt w b B (.pointer (some ⟨b, 0, none⟩)) v l

/-- Blocks that hold no bytes are left as they were, but for one. -/
def Kt (b : Nat) (w w' : World) : Prop := ∀ k c t fz, w.heap[k]? = some (.cells c t fz) → t ≠ 5 → k ≠ b → w'.heap[k]? = some (.cells c t fz)

theorem Kt.trans {b : Nat} {x y z : World} (h : Kt b x y) (k : Kt b y z) : Kt b x z := fun i c t fz hi ht hb => k i c t fz (h i c t fz hi ht hb) ht hb

theorem Kt.setCell (b : Nat) (w : World) (i : Nat) (v : Value) : Kt b w (w.setCell ⟨b, i, none⟩ v) := fun k c t fz hk _ hb => by rw [heap_setCell_other w ⟨b, i, none⟩ k v hb]; exact hk

theorem Try.info91 : (Try.prog.info? 91).map (fun i => i.size) = some 2 := by kernel_rfl

set_option maxRecDepth 1000000 in
set_option maxHeartbeats 1000000 in
theorem cc_used (b : Nat) (w : World) (h0 : w.cell? ⟨b, 0, none⟩ = some (.pointer (some ⟨b, 0, none⟩))) :
    Calls Try.prog 73 #[.pointer (some ⟨b, 0, none⟩)] w fun e w' => e = .returned (.tuple #[]) ∧ w' = w := by
  obtain ⟨j, hj, _⟩ := Option.map_eq_some_iff.1 Try.info91
  go_enter Try.func73, Try.ntmps73
  go_wp2
  rw [Lib.run_neq_ptr_same w _ Try.underlying88 hj]
  go_wp2
  go_end0
  exact ⟨rfl, rfl⟩

set_option maxRecDepth 1000000 in
set_option maxHeartbeats 1000000 in
theorem cc_fresh (b : Nat) (w : World) (h0 : w.cell? ⟨b, 0, none⟩ = some (.pointer none)) (hsh : w.shape? b = some (91, 2)) (hfz : w.frozen? ⟨b, 0, none⟩ = false) :
    Calls Try.prog 73 #[.pointer (some ⟨b, 0, none⟩)] w fun e w' => e = .returned (.tuple #[]) ∧ w' = w.setCell ⟨b, 0, none⟩ (.pointer (some ⟨b, 0, none⟩)) := by
  obtain ⟨j, hj, hjs⟩ := Option.map_eq_some_iff.1 Try.info91
  go_enter Try.func73, Try.ntmps73
  go_wp2
  rw [Lib.run_to_unsafe w ⟨b, 0, none⟩ Try.underlying88 Try.underlying141 hj (by rw [hjs]; decide) hsh (Nat.zero_lt_succ 1)]
  simp only [Result.andThen]
  rw [Oper.upon_value]
  go_wp2
  rw [run_callFunc_extern Try.func87 (by kernel_rfl) (by kernel_rfl) (by kernel_rfl) (e := Extern.AbiNoEscape.same) (by kernel_rfl)]
  rw [Lib.run_noEscape]
  simp only [Result.andThen]
  rw [Oper.upon_value]
  go_wp2
  rw [Lib.run_from_unsafe w ⟨b, 0, none⟩ Try.underlying141 Try.underlying88 hj hsh (by kernel_rfl)]
  simp only [Result.andThen]
  rw [Oper.upon_value]
  go_wp2
  go_end0
  exact ⟨rfl, rfl⟩

theorem cc_any (b B : Nat) (l : List UInt8) (w : World) (h : IsB w b B l) :
    Calls Try.prog 73 #[.pointer (some ⟨b, 0, none⟩)] w fun e w' => e = .returned (.tuple #[]) ∧ (∃ v, BAt w' b B (.pointer (some ⟨b, 0, none⟩)) v l) ∧ KB b B w w' ∧ Kt b w w' := by
  obtain ⟨v, h | h⟩ := h
  · obtain ⟨h1, h2, h3, h4, h5⟩ := h
    refine (cc_fresh b w (cell_blk h1 0) (by simp [World.shape?, h1]) (frozen_of_row w b 0 _ 91 h1)).mono ?_
    rintro e w' ⟨rfl, rfl⟩
    exact ⟨rfl, ⟨v, ⟨heap_setCell_same w b 0 _ 91 _ h1, ownsRow_setCell_below h2 h3 _, h3, by simpa using h4, h5⟩⟩, KB.setCell b B w 0 _, Kt.setCell b w 0 _⟩
  · refine (cc_used b w (cell_blk h.blk 0)).mono ?_
    rintro e w' ⟨rfl, rfl⟩
    exact ⟨rfl, ⟨v, h⟩, KB.refl b B _, fun _ _ _ _ h _ _ => h⟩
end Go.Proofs.Ytlmfmgpamhhncaa

/- Walks over strings.Builder, continued: WriteByte, WriteString, String. -/
namespace Go.Proofs.Ytlmfmgpamhhncaa
open Go.RowKit
set_option linter.unusedVariables false

/-- Bytes are put behind a builder's bytes, and the slice is stored. -/
theorem b_push {W W0 w3 : World} {b B : Nat} {p v v' : Value} {l m : List UInt8} (h : BAt W b B p v l) (hW0 : Below W.heap.size W W0) (ho : w3.ownsRow B 5 1 v' (l.length + m.length) (bvs l ++ bvs m)) (hg : W0.grownBy w3 v.ownBlock) (hn : v' = .slice none 0 0 ↔ v = .slice none 0 0 ∧ m.length = 0) :
    (∃ ao n cap, v' = .slice ao n cap) ∧ w3.heap[b]? = some (.cells #[p, v] 91 (0, 0)) ∧ BAt (w3.setCell ⟨b, 1, none⟩ v') b B p v' (l ++ m) ∧ KB b B W (w3.setCell ⟨b, 1, none⟩ v') ∧ Kt b W (w3.setCell ⟨b, 1, none⟩ v') := by
  obtain ⟨h1, h2, h3, h4, h5⟩ := h
  have hz := hW0.size
  have hzg := hg.size
  have hb3 : w3.heap[b]? = some (.cells #[p, v] 91 (0, 0)) := by
    rw [hg.block b (by omega) (fun e => by have := (h2.lt _ e.symm).1; omega), hW0.block b (by omega)]
    exact h1
  have ho2 : w3.ownsRow B 5 1 v' (l ++ m).length (bvs (l ++ m)) := by rw [bvs_append]; simpa using ho
  have hk3 : KB b B W w3 := KB.of_below (Below.grown (hW0.mono h4) hg (by omega) (fun j hj => (h2.lt _ hj).1))
  refine ⟨?_, hb3, ⟨heap_setCell_same w3 b 1 _ 91 _ hb3, ownsRow_setCell_below ho2 h3 _, h3, by simp; omega, ?_⟩, hk3.trans (KB.setCell b B w3 1 _), Kt.trans ?_ (Kt.setCell b w3 1 _)⟩
  · rcases ho.2 with ⟨rfl, _⟩ | ⟨g, cap, cur, rfl, _⟩
    · exact ⟨_, _, _, rfl⟩
    · exact ⟨_, _, _, rfl⟩
  · intro hlm
    obtain ⟨e1, e2⟩ := List.append_eq_nil_iff.1 hlm
    exact hn.2 ⟨h5 e1, by rw [e2]; rfl⟩
  · intro k c t fz hk ht hb
    have hkl := (Array.getElem?_eq_some_iff.1 hk).1
    rw [hg.block k (by omega) ?_, hW0.block k hkl]
    · exact hk
    · intro e
      rcases h2.2 with ⟨rfl, _⟩ | ⟨g, cap, cur, rfl, _, hgg, _⟩
      · cases e
      · simp only [Value.ownBlock, Option.some.injEq] at e
        subst e
        rw [hk] at hgg
        simp only [Option.some.injEq, Obj.cells.injEq] at hgg
        exact ht hgg.2.1

theorem cell_one (w : World) (x : Value) (t : TypeId) : ∀ j u, [x][j]? = some u → (w.alloc (.cells #[x] t)).cell? ((⟨w.heap.size, 0, none⟩ : Addr).add j) = some u := by
  intro j u hj
  match j, hj with
  | 0, hj => simp at hj; subst hj; simp [Addr.add]
  | j + 1, hj => simp at hj

set_option maxRecDepth 1000000 in
set_option maxHeartbeats 1000000 in
theorem wbyte (b B : Nat) (l : List UInt8) (w : World) (h : IsB w b B l) (hl : l.length + 1 ≤ 140737488355328) :
    Calls Try.prog 45 #[.pointer (some ⟨b, 0, none⟩), .int .u8 32] w fun e w' => e = .returned .nilIface ∧ IsB w' b B (l ++ [32]) ∧ KB b B w w' ∧ Kt b w w' := by
  obtain ⟨i0, hi, hz0, hz1, hz2⟩ := info_parts Try.info5
  go_enter Try.func45, Try.ntmps45
  go_wp2_with fail
  refine (cc_any b B l _ h).mono ?_
  rintro e w1 ⟨rfl, ⟨v, h1⟩, k1, kt1⟩
  have c0 := cell_blk h1.blk 0
  have c1 := cell_blk h1.blk 1
  simp at c0 c1
  have hle := h1.le
  have hown := h1.own
  have H1 : Hid _ := h1
  clear h h1
  go_wp2_with (at_builtin; refine wpList_append_own _ rfl _ _ 89 rfl B 5 i0 (.int .u8 0) 1 1 Try.underlying89 hi hz0 hz1 hz2 rfl (by decide) _ _ _ rfl (hown.alloc _) ⟨w1.heap.size, 0, none⟩ 1 1 [.int .u8 32] rfl rfl (cell_one _ _ _) (fun u hu => by simp at hu; subst hu; rfl) (by unfold maxLen; omega) (by omega) (by simp; omega) ?_; intro v' w3 hown' hgrow3 hnil3; obtain ⟨⟨ao, n, cap, rfl⟩, hb3, hB3, hK3, hT3⟩ := b_push (m := [32]) H1.out ((Below.refl _ _).alloc (Nat.le_refl _) _) hown' hgrow3 hnil3; have e0 := cell_blk hb3 0; have e1 := cell_blk hb3 1; simp at e0 e1; have hfb : ∀ j, w3.frozen? ⟨b, j, none⟩ = false := fun j => frozen_of_row w3 b j _ 91 hb3)
  go_ret
  exact ⟨rfl, ⟨_, .inr hB3⟩, k1.trans hK3, kt1.trans hT3⟩

theorem strCells_eq (s : ByteArray) : Lib.strCells s = bvs s.data.toList := rfl

set_option maxRecDepth 1000000 in
set_option maxHeartbeats 1000000 in
theorem wstring (b B : Nat) (l : List UInt8) (s : ByteArray) (w : World) (h : IsB w b B l) (hl : l.length + s.size ≤ 140737488355328) :
    Calls Try.prog 46 #[.pointer (some ⟨b, 0, none⟩), .string s] w fun e w' => e = .returned (.tuple #[.int .i64 s.size, .nilIface]) ∧ IsB w' b B (l ++ s.data.toList) ∧ KB b B w w' ∧ Kt b w w' := by
  obtain ⟨i0, hi, hz0, hz1, hz2⟩ := info_parts Try.info5
  have hss := size_list s
  go_enter Try.func46, Try.ntmps46
  go_wp2_with fail
  refine (cc_any b B l _ h).mono ?_
  rintro e w1 ⟨rfl, ⟨v, h1⟩, k1, kt1⟩
  have c0 := cell_blk h1.blk 0
  have c1 := cell_blk h1.blk 1
  simp at c0 c1
  have hle := h1.le
  have hown := h1.own
  have H1 : Hid _ := h1
  have HSS : Hid _ := hss
  clear h h1 hss
  go_wp2_with (at_builtin; refine Lib.wpList_append_own_string _ rfl _ _ 89 9 rfl B 5 i0 Try.underlying89 Try.underlying9 hi hz0 hz1 hz2 _ _ _ rfl hown s rfl ?_ ?_ ?_ ?_; (unfold maxLen; omega); omega; omega; intro v' w3 hown' hgrow3 hnil3; rw [strCells_eq, ← HSS.out] at hown'; rw [← HSS.out] at hnil3; obtain ⟨⟨ao, n, cap, rfl⟩, hb3, hB3, hK3, hT3⟩ := b_push (m := s.data.toList) H1.out (Below.refl _ _) hown' hgrow3 hnil3; have e0 := cell_blk hb3 0; have e1 := cell_blk hb3 1; simp at e0 e1; have hfb : ∀ j, w3.frozen? ⟨b, j, none⟩ = false := fun j => frozen_of_row w3 b j _ 91 hb3)
  go_ret2
  exact ⟨rfl, ⟨_, .inr hB3⟩, k1.trans hK3, kt1.trans hT3⟩

theorem Try.cells5 : Try.prog.cellsOf 5 = 1 := by kernel_rfl

set_option maxRecDepth 1000000 in
set_option maxHeartbeats 1000000 in
theorem bstring (b B : Nat) (l : List UInt8) (w : World) (h : IsB w b B l) :
    Calls Try.prog 47 #[.pointer (some ⟨b, 0, none⟩)] w fun e w' => e = .returned (.string ⟨l.toArray⟩) ∧ KB b B w w' := by
  obtain ⟨p, v, h⟩ : ∃ p v, BAt w b B p v l := by
    obtain ⟨v, h | h⟩ := h
    · exact ⟨_, v, h⟩
    · exact ⟨_, v, h⟩
  obtain ⟨h1, h2, h3, h4, h5⟩ := h
  have hk0 := KB.refl b B w
  by_cases h0 : l = []
  · have hv := h5 h0
    subst hv
    subst h0
    have c1 := cell_blk h1 1
    simp at c1
    have hSD : ∀ w, (Builtin.unsafeSliceData_ #[89] 129 #[.slice none 0 0]).run Try.prog w = .ok (.pointer none) w := fun w => Lib.run_unsafeSliceData_nil w _ _ _ _
    have hUS : ∀ w, (Builtin.unsafeString_ #[129, 3] 9 #[.pointer none, .int .i64 0]).run Try.prog w = .ok (.string .empty) w := fun w => Lib.run_unsafeString_none w 129 3 9 none
    clear h1 h2 h5
    go_enter Try.func47, Try.ntmps47
    go_wp2
    go_region
    all_goals (go_wp2; go_ret; exact ⟨rfl, hk0.drewN 1⟩)
  · have hl0 : l.length ≠ 0 := by simpa using h0
    obtain ⟨g, cap, cur, rfl, hbg, hg, hnc, hcm, hcs, htake⟩ : ∃ g cap cur, v = .slice (some ⟨g, 0, none⟩) l.length cap ∧ B ≤ g ∧ w.heap[g]? = some (.cells cur 5 (0, 0)) ∧ l.length ≤ cap ∧ cap ≤ maxLen ∧ cur.size = cap * 1 ∧ cur.toList.take (l.length * 1) = bvs l := by
      rcases h2.2 with ⟨_, hz⟩ | ⟨g, cap, cur, hv, r⟩
      · exact absurd hz hl0
      · exact ⟨g, cap, cur, hv, r⟩
    have c1 := cell_blk h1 1
    simp at c1
    have hSD : ∀ w, (Builtin.unsafeSliceData_ #[89] 129 #[.slice (some ⟨g, 0, none⟩) l.length cap]).run Try.prog w = .ok (.pointer (some ⟨g, 0, none⟩)) w := fun w => Lib.run_unsafeSliceData_row w _ _ _ _ _ (by omega)
    have hUS : (Builtin.unsafeString_ #[129, 3] 9 #[.pointer (some ⟨g, 0, none⟩), .int .i64 l.length]).run Try.prog w.drew = .ok (.string ⟨l.toArray⟩) (w.drew.freeze ⟨g, 0, none⟩ l.length) := by
      refine Lib.run_unsafeString_row w.drew 129 3 9 5 Try.underlying129 Try.cells5 g cur.size ?_ l h0 (by omega) (by unfold maxLen at hcm; omega) ?_
      · have hg' : w.drew.heap[g]? = some (.cells cur 5 (0, 0)) := hg
        simp [World.shape?, hg']
      · intro j x hx
        exact h2.cells (g := g) rfl j (.int .u8 x.toNat) (by simp [bvs, hx])
    have HK : Hid (KB b B w (w.drew.freeze ⟨g, 0, none⟩ l.length)) := KB.of_below (Lib.below_freeze (Below.drew (Below.refl B w)) (p := ⟨g, 0, none⟩) hbg _)
    clear h1 h2 h5 hg htake
    go_enter Try.func47, Try.ntmps47
    go_wp2
    go_region
    all_goals (go_wp2; go_ret; exact ⟨rfl, HK.out⟩)
end Go.Proofs.Ytlmfmgpamhhncaa

/- Walks over lex.Join and the document's Join: the tokens' texts, one blank between any two. -/
namespace Go.Proofs.Ytlmfmgpamhhncaa
open Go.RowKit
set_option linter.unusedVariables false

/-- Texts, one blank between any two. -/
def jn : List (List UInt8) → List UInt8
  | [] => []
  | [x] => x
  | x :: y :: r => x ++ 32 :: jn (y :: r)

theorem jn_snoc (xs : List (List UInt8)) (x : List UInt8) (h : xs ≠ []) : jn (xs ++ [x]) = jn xs ++ [32] ++ x := by
  induction xs with
  | nil => exact absurd rfl h
  | cons y xs ih =>
    cases xs with
    | nil => simp [jn]
    | cons z xs =>
      have := ih (by simp)
      simp only [List.cons_append] at this ⊢
      simp only [jn, this]
      simp

theorem jn_take (xs : List (List UInt8)) (k : Nat) : (jn (xs.take k)).length ≤ (jn xs).length := by
  have step : ∀ k, (jn (xs.take k)).length ≤ (jn (xs.take (k + 1))).length := by
    intro k
    by_cases hk : k < xs.length
    · rw [List.take_succ_eq_append_getElem hk]
      by_cases h0 : xs.take k = []
      · rw [h0]; simp [jn]
      · rw [jn_snoc _ _ h0]
        simp
    · rw [List.take_of_length_le (by omega), List.take_of_length_le (by omega)]
      exact Nat.le_refl _
  have all : ∀ m, (jn (xs.take k)).length ≤ (jn (xs.take (k + m))).length := by
    intro m
    induction m with
    | zero => exact Nat.le_refl _
    | succ m ih => exact Nat.le_trans ih (step (k + m))
  have h := all xs.length
  rwa [List.take_of_length_le (l := xs) (i := k + xs.length) (by omega)] at h

/-- A slice of tokens, of which the texts alone are told. -/
def ReadsX (w : World) (v : Value) (xs : List ByteArray) : Prop :=
  ∃ a cap, v = .slice a xs.length cap ∧ (a = none → cap = 0) ∧ xs.length ≤ cap ∧ ∀ i x, xs[i]? = some x → ∃ b off k p, a = some ⟨b, off, none⟩ ∧ w.cell? ⟨b, off + i * 3, none⟩ = some (.int .i64 k) ∧ w.cell? ⟨b, off + i * 3 + 1, none⟩ = some (.string x) ∧ w.cell? ⟨b, off + i * 3 + 2, none⟩ = some (.int .i64 p)

theorem ReadsX.later {w wx : World} {v : Value} {xs : List ByteArray} (h : ReadsX w v xs) (hb : Below w.heap.size w wx) : ReadsX wx v xs := by
  obtain ⟨a, cap, hv, hn, hc, hr⟩ := h
  refine ⟨a, cap, hv, hn, hc, fun i t hi => ?_⟩
  obtain ⟨b, off, k, p, ha, c0, c1, c2⟩ := hr i t hi
  exact ⟨b, off, k, p, ha, cell_later hb c0, cell_later hb c1, cell_later hb c2⟩

def txts (l : List Tok) : List ByteArray := l.map fun t => ⟨t.text.toArray⟩

theorem readsX_of_readsT {w : World} {v : Value} {l : List Tok} (h : ReadsT w v l) : ReadsX w v (txts l) := by
  obtain ⟨a, cap, hv, hn, hc, hr⟩ := h
  refine ⟨a, cap, by simpa [txts] using hv, hn, by simpa [txts] using hc, fun i x hi => ?_⟩
  simp only [txts, List.getElem?_map, Option.map_eq_some_iff] at hi
  obtain ⟨t, ht, rfl⟩ := hi
  obtain ⟨b, off, ha, c0, c1, c2⟩ := hr i t ht
  exact ⟨b, off, _, _, ha, c0, c1, c2⟩

def bys (xs : List ByteArray) : List (List UInt8) := xs.map fun x => x.data.toList

theorem IsB.later {w w1 : World} {b B : Nat} {l : List UInt8} (h : IsB w b B l) (hb : Below w.heap.size w w1) : IsB w1 b B l := by
  have go : ∀ p v, BAt w b B p v l → BAt w1 b B p v l := by
    rintro p v ⟨h1, h2, h3, h4, h5⟩
    have hz := hb.size
    exact ⟨(hb.block b (by omega)).trans h1, owns_later h2 hb, h3, by omega, h5⟩
  obtain ⟨v, h | h⟩ := h
  · exact ⟨v, .inl (go _ _ h)⟩
  · exact ⟨v, .inr (go _ _ h)⟩

theorem IsB.le {w : World} {b B : Nat} {l : List UInt8} (h : IsB w b B l) : B ≤ w.heap.size := by
  obtain ⟨v, h | h⟩ := h
  · exact h.le
  · exact h.le

set_option maxRecDepth 1000000 in
set_option maxHeartbeats 2000000 in
theorem join_any (x : Value) (xs : List ByteArray) (w : World) (hx : ReadsX w x xs) (hl : xs.length ≤ 100000) (hj : (jn (bys xs)).length ≤ 140737488355328) :
    Calls Try.prog 22 #[x] w fun e w' => e = .returned (.string ⟨(jn (bys xs)).toArray⟩) ∧ Below w.heap.size w w' := by
  obtain ⟨a, ca, rfl, _, hna, hca⟩ := hx
  have hB0 : IsB (w.alloc (.cells #[.pointer none, .slice none 0 0] 91)) w.heap.size (w.heap.size + 1) [] := ⟨_, .inl ⟨heap_alloc_new w _, World.ownsRow_nil _ _ _ _, by omega, by simp, fun _ => rfl⟩⟩
  have hbw0 : Below w.heap.size w (w.alloc (.cells #[.pointer none, .slice none 0 0] 91)) := (Below.refl _ _).alloc (Nat.le_refl _) _
  go_enter Try.func22, Try.ntmps22
  go_wp2
  go_loopw [4, 5, 8] (fun _ _ iv wr => ∃ (k : Nat), k ≤ xs.length ∧ iv = .int .i64 k ∧ IsB wr w.heap.size (w.heap.size + 1) (jn (bys (xs.take k))) ∧ Below w.heap.size w wr) (fun _ _ iv _ => xs.length - (intOf iv).toNat)
  case atStart => exact ⟨0, Nat.zero_le _, rfl, hB0, hbw0⟩
  case round =>
    clear hB0 hbw0
    obtain ⟨k, hk, rfl, hB, hbw⟩ := hrel
    by_cases hlt : k < xs.length
    · obtain ⟨y, hy⟩ : ∃ y, xs[k]? = some y := ⟨_, List.getElem?_eq_getElem hlt⟩
      obtain ⟨b1, o1, kk, pp, rfl, a0, a1, a2⟩ := hca k y hy
      have d0 := cell_later hbw a0
      have d1 := cell_later hbw a1
      have d2 := cell_later hbw a2
      have hzw := hbw.size
      have HT : Hid (xs.take (k + 1) = xs.take k ++ [y]) := by
        show _ = _
        rw [List.take_succ_eq_append_getElem hlt]
        rw [List.getElem?_eq_getElem hlt] at hy
        simp only [Option.some.injEq] at hy
        rw [hy]
      have hB1 := hB.later (w1 := wr.alloc (.cells #[.int .i64 kk, .string y, .int .i64 pp] 48)) ((Below.refl _ _).alloc (Nat.le_refl _) _)
      have hblk : (wr.alloc (.cells #[.int .i64 kk, .string y, .int .i64 pp] 48)).heap[wr.heap.size]? = some (.cells #[.int .i64 kk, .string y, .int .i64 pp] 48 (0, 0)) := heap_alloc_new wr _
      have hbw1 : Below w.heap.size w (wr.alloc (.cells #[.int .i64 kk, .string y, .int .i64 pp] 48)) := hbw.alloc hzw _
      have hjt := jn_take (bys xs) (k + 1)
      have hbt : (bys xs).take (k + 1) = bys (xs.take k) ++ [y.data.toList] := by
        have e : (bys xs).take (k + 1) = bys (xs.take (k + 1)) := by simp [bys]
        rw [e, HT.out]
        simp [bys]
      rw [hbt] at hjt
      have HBT : Hid (bys (xs.take (k + 1)) = bys (xs.take k) ++ [y.data.toList]) := by show _ = _; rw [HT.out]; simp [bys]
      have hys := size_list y
      have hBz := hB.le
      by_cases hk0 : k = 0
      · subst hk0
        have e0 : bys (xs.take 0) = [] := rfl
        simp only [Nat.zero_mul, Nat.add_zero] at d0 d1 d2
        rw [e0] at hB1 hjt hB
        have HB : Hid _ := hB1
        have HY : Hid (y.size ≤ 140737488355328) := by
          show _ ≤ _
          simp [jn] at hjt
          have : y.size = y.data.size := rfl
          omega
        clear hca a0 a1 a2 hy hB hB1 hblk hjt hbt hys e0
        go_wp2_with fail
        refine (wstring _ _ _ y _ HB.out (by have := HY.out; simp [jn]; exact this)).mono ?_
        rintro e w2 ⟨rfl, hB2, k2, _⟩
        clear HB
        have hbw2 : Below w.heap.size w w2 := hbw1.trans (k2.below (Nat.le_refl _) (by omega))
        go_wp2
        go_roundw
        case rel => exact ⟨1, by omega, rfl, by rw [HBT.out]; exact hB2, hbw2⟩
        case measure => simp [intOf]; omega
      · have hne : bys (xs.take k) ≠ [] := by
          intro h
          have h2 := congrArg List.length h
          simp only [bys, List.length_map, List.length_take, List.length_nil] at h2
          omega
        have HJ : Hid (jn (bys (xs.take (k + 1))) = jn (bys (xs.take k)) ++ [32] ++ y.data.toList) := by show _ = _; rw [HBT.out, jn_snoc _ _ hne]
        have HLEN : Hid ((jn (bys (xs.take k)) ++ [32]).length + y.size ≤ 140737488355328) := by
          show _ ≤ _
          have e := congrArg List.length (jn_snoc (bys (xs.take k)) y.data.toList hne)
          rw [List.length_append, hys] at e
          omega
        have HB : Hid _ := hB1
        have HBL : Hid _ := hblk
        have hk1 : 0 < k := by omega
        clear hca a0 a1 a2 hy hB hB1 hblk hjt hbt hys hne hk0
        go_wp2_with fail
        refine (wbyte _ _ _ _ HB.out (by have := HLEN.out; simp at this ⊢; omega)).mono ?_
        rintro e w2 ⟨rfl, hB2, k2, t2⟩
        have hb2 := t2 _ _ _ _ HBL.out (by decide) (by omega)
        have e1 := cell_blk hb2 1
        simp at e1
        have hbw2 : Below w.heap.size w w2 := hbw1.trans (k2.below (Nat.le_refl _) (by omega))
        have HB2 : Hid _ := hB2
        clear HB HBL hB2 hb2 t2
        go_wp2_with fail
        refine (wstring _ _ _ y _ HB2.out HLEN.out).mono ?_
        rintro e w3 ⟨rfl, hB3, k3, _⟩
        have hbw3 : Below w.heap.size w w3 := hbw2.trans (k3.below (Nat.le_refl _) (by omega))
        go_wp2
        go_roundw
        case rel => exact ⟨k + 1, by omega, by go_num, by rw [HJ.out]; exact hB3, hbw3⟩
        case measure => simp [intOf]; omega
    · have hkk : k = xs.length := by omega
      have HT : Hid (xs.take k = xs) := by show _ = _; rw [hkk, List.take_length]
      rw [HT.out] at hB
      have HB : Hid _ := hB
      clear hB hca hkk
      go_wp2_with fail
      refine (bstring _ _ _ _ HB.out).mono ?_
      rintro e w2 ⟨rfl, k2⟩
      go_wp2
      go_ret
      exact ⟨rfl, hbw.trans (k2.below (Nat.le_refl _) (by omega))⟩
end Go.Proofs.Ytlmfmgpamhhncaa

