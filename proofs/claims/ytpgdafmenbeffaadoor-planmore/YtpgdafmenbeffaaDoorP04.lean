/- Texts of the seat, packed: SWC SWB SWH SWI SWJ SWK SWM. -/
import Derived.Test.YtpgdafmenbeffaaDoorP03
import Derived.Test.YtpgdafmenbeffaaDoorRows
import Derived.WalkKit
import Derived.WalkLawsBesides
import Derived.WalkSpells
import Derived.BigQuiet
import Derived.Deep.QuietTactic
import Derived.Laws.BytesArg
import Derived.Laws.IdiomStrings
import Derived.Lib.OthersKept
import Derived.Lib.Bytealg
import Derived.Laws.Runes
import Derived.LoopN
import Derived.WalkMore
import Derived.Laws.OwnMore
/- Walks over glyph.Class and the document's Class: what each answers of any number. -/
namespace Go.Proofs.YtpgdafmenbeffaaDoor.Sx

open Go.RowKit

/-- The class of a number: 0 Other, 1 Letter, 2 Digit, 3 Blank, 4 Mark. -/
def cls (r : Int) : Int :=
  if isCp r = false then 0 else if 128 ≤ r ∨ (97 ≤ r ∧ r ≤ 122) ∨ (65 ≤ r ∧ r ≤ 90) ∨ r = 95 then 1 else if 48 ≤ r ∧ r ≤ 57 then 2
  else if r = 9 ∨ r = 10 ∨ r = 13 ∨ r = 32 then 3 else if 32 < r ∧ r < 127 then 4 else 0

theorem wid_zero (r : Int) : (wid r == 0) = !isCp r := by
  unfold wid isCp
  rw [Bool.eq_iff_iff]
  simp
  repeat' split
  all_goals omega

set_option maxHeartbeats 1600000 in
theorem gclass_any (r : Int) (w : World) :
    Calls Tryd.prog 81 #[.int .i64 r] w fun e w' => e = .returned (.int .i64 (cls r)) ∧ w' = (w.alloc (.cells #[.int .i64 r] 3)).alloc (.cells #[.int .i64 r] 3) := by
  by_cases h : isCp r = true
  · have hz : (wid r == 0) = false := by rw [wid_zero, h]; rfl
    have H : Hid (isCp r = true) := h
    have h2 : 0 ≤ r ∧ r ≤ 1114111 ∧ (r < 55296 ∨ 57343 < r) := by simpa [isCp] using h
    obtain ⟨h3, h4, _⟩ := h2
    clear h
    go_enter Tryd.func81, Tryd.ntmps81
    go_wp2_with (first | (go_at_call 84; refine (gwidth_any _ _).mono ?_; rintro e w' ⟨rfl, rfl⟩) | go_in)
    all_goals go_ret
    all_goals refine ⟨ret_int ?_, rfl⟩
    all_goals unfold cls
    all_goals simp only [H.out]
    all_goals (repeat' split)
    all_goals first | rfl | omega | (simp_all; done) | (simp_all; omega)
  · have h1 : isCp r = false := by simpa using h
    have hz : (wid r == 0) = true := by rw [wid_zero, h1]; rfl
    have H : Hid (isCp r = false) := h1
    clear h h1
    go_enter Tryd.func81, Tryd.ntmps81
    go_wp2_with (first | (go_at_call 84; refine (gwidth_any _ _).mono ?_; rintro e w' ⟨rfl, rfl⟩) | go_in)
    all_goals go_ret
    all_goals refine ⟨ret_int ?_, rfl⟩
    all_goals simp [cls, H.out]

end Go.Proofs.YtpgdafmenbeffaaDoor.Sx

/- Walks over strings.HasPrefix (at the bytes of the number fffd) and glyph.Bad: the place of the first byte at which no code point stands. -/
namespace Go.Proofs.YtpgdafmenbeffaaDoor.Sx

open Go.RowKit

theorem ret_b {a b : Bool} (h : a = b) : Ending.returned (.bool a) = .returned (.bool b) := by rw [h]

theorem ret_i {k : IntKind} {a b : Int} (h : a = b) : Ending.returned (.int k a) = .returned (.int k b) := by rw [h]

set_option maxHeartbeats 400000 in
theorem prefix_any (t : ByteArray) (w : World) (hs : t.size ≤ 100000) :
    Calls Tryd.prog 80 #[.string t, .string ⟨#[239, 191, 189]⟩] w fun e w' => e = .returned (.bool (hp t)) ∧ w' = w := by
  by_cases h : 3 ≤ t.size
  · go_enter Tryd.func80, Tryd.ntmps80
    go_wp2
    go_ret
    refine ⟨ret_b ?_, rfl⟩
    rw [Lib.extract_toList]
    unfold hp
    rw [Bool.eq_iff_iff]
    simp
  · have hz := size_list t
    go_enter Tryd.func80, Tryd.ntmps80
    go_wp2
    go_ret
    refine ⟨ret_b ?_, rfl⟩
    unfold hp
    symm
    rw [decide_eq_false_iff_not]
    intro e
    have := congrArg List.length e
    simp at this
    omega

/-- The place of the first bad byte; -1 if there is none. -/
def badV (cs : List Int) (rest : List UInt8) : Int := if rest = [] then -1 else ((encAll cs).length : Int)

set_option maxRecDepth 1000000 in
set_option maxHeartbeats 1000000 in
theorem bad_any (s : ByteArray) (cs : List Int) (rest : List UInt8) (hp0 : Parts s.data.toList cs rest) (w : World) (hs : s.size ≤ 100000) :
    Calls Tryd.prog 78 #[.string s] w fun e w' => e = .returned (.int .i64 (badV cs rest)) ∧ Below w.heap.size w w' := by
  have hz := size_list s
  have hbl : ∀ n, Below w.heap.size w (w.iter s n) := fun n => (Below.refl _ _).alloc (Nat.le_refl _) _
  go_enter Tryd.func78, Tryd.ntmps78
  go_wp2
  go_loopw [3, 4] (fun _ _ wr => ∃ (d todo : List Int), Hid (cs = d ++ todo) ∧ wr = w.iter s (encAll d).length) (fun _ _ wr => s.size - wr.iterPos w.heap.size)
  case atStart => exact ⟨[], cs, rfl, rfl⟩
  case round =>
    obtain ⟨d, todo, HC, rfl⟩ := hrel
    have hip : ∀ n, (w.iter s n).iterPos w.heap.size = n := fun n => by simp
    cases todo with
    | cons c todo =>
      have hS : s.data.toList = encAll (d ++ c :: todo) ++ rest := by rw [← HC.out]; exact hp0.eq
      have hc : isCp c = true := hp0.cp c (by rw [HC.out]; simp)
      have hd := decode_at s d todo c rest hS hc
      have hyes : c = 65533 → hp (s.extract (encAll d).length s.size) = true := by rintro rfl; exact hp_yes s d todo rest hS
      have hk := enc_pos c hc
      have hlen : (encAll (d ++ [c])).length = (encAll d).length + (enc c).length := by rw [encAll_append, encAll_one]; simp
      have hsz : (encAll d).length + (enc c).length ≤ s.size := by
        rw [← hz, hS, encAll_append]
        simp [encAll]
      have hcn := cp_toNat c hc
      have HR : Hid (cs = (d ++ [c]) ++ todo) := by show _ = _; rw [HC.out]; simp
      have HL : Hid ((encAll (d ++ [c])).length = (encAll d).length + (enc c).length) := hlen
      generalize hp1 : (encAll d).length = pos at *
      generalize hk1 : (enc c).length = k at *
      have hnx : ∀ ty, (Instr.next (.pointer (some ⟨w.heap.size, 0, none⟩)) true ty).run Tryd.prog (w.iter s pos) = .ok (.tuple #[.bool true, .int .i64 pos, .int .i32 c]) (w.iter s (pos + k)) := by
        intro ty
        have h := run_next_any (P := Tryd.prog) w s pos ty (by omega)
        rw [hd] at h
        simp only [hcn] at h
        exact h
      have hx : (s.extract pos s.size).size ≤ 100000 := by simp; omega
      have hlt : pos < s.size := by omega
      clear hS hc hd hlen hcn HC hp1 hk1 hp0 hz
      by_cases hb : c = 65533
      · have h1 := hyes hb
        have h2 : (c == 65533) = true := by simp [hb]
        clear hb hyes
        go_wp2_with (go_at_call 80; refine (prefix_any _ _ hx).mono ?_; rintro e w' ⟨rfl, rfl⟩)
        go_roundw
        case rel => exact ⟨d ++ [c], todo, HR, by rw [HL.out]⟩
        case measure => simp; omega
      · have h2 : (c == 65533) = false := by simp [hb]
        clear hb hyes
        go_wp2_with (go_at_call 80; refine (prefix_any _ _ hx).mono ?_; rintro e w' ⟨rfl, rfl⟩)
        go_roundw
        case rel => exact ⟨d ++ [c], todo, HR, by rw [HL.out]⟩
        case measure => simp; omega
    | nil =>
      have hC : cs = d := by simpa using HC.out
      subst hC
      by_cases hr : rest = []
      · have hsz : ¬ (encAll cs).length < s.size := by
          rw [← hz, hp0.eq, hr]
          simp
        have HB : Hid (badV cs rest = -1) := by show _ = _; simp [badV, hr]
        generalize (encAll cs).length = pos at *
        have hnx : ∀ ty, (Instr.next (.pointer (some ⟨w.heap.size, 0, none⟩)) true ty).run Tryd.prog (w.iter s pos) = _ := fun ty => run_next_end w s pos ty hsz
        clear hr hp0 hz
        go_wp2
        go_ret
        exact ⟨ret_i HB.out.symm, hbl _⟩
      · have hn : NoCp rest := hp0.stop.resolve_left hr
        have hd := decode_stop s cs rest hp0.eq hn hr
        have hno := hp_no s cs rest hp0.eq hn
        have hlt : (encAll cs).length < s.size := by
          rw [← hz, hp0.eq]
          have := List.length_pos_iff.2 hr
          simp
          omega
        have HB : Hid (badV cs rest = ((encAll cs).length : Int)) := by show _ = _; simp [badV, hr]
        generalize (encAll cs).length = pos at *
        have hnx : ∀ ty, (Instr.next (.pointer (some ⟨w.heap.size, 0, none⟩)) true ty).run Tryd.prog (w.iter s pos) = .ok (.tuple #[.bool true, .int .i64 pos, .int .i32 65533]) (w.iter s (pos + 1)) := by
          intro ty
          have h := run_next_any (P := Tryd.prog) w s pos ty hlt
          rw [hd] at h
          exact h
        have hx : (s.extract pos s.size).size ≤ 100000 := by simp; omega
        clear hr hp0 hz hd hn
        go_wp2_with (go_at_call 80; refine (prefix_any _ _ hx).mono ?_; rintro e w' ⟨rfl, rfl⟩)
        go_ret
        exact ⟨ret_i HB.out.symm, hbl _⟩

end Go.Proofs.YtpgdafmenbeffaaDoor.Sx

/- Words and small laws about what lies in memory: numbers in slices, texts that are gone through, worlds that only grow. -/
namespace Go.Proofs.YtpgdafmenbeffaaDoor.Sx

open Go.RowKit

theorem owns_iterAt {w : World} {base : Nat} {e : TypeId} {size : Nat} {v : Value} {n : Nat} {xs : List Value} (h : w.ownsRow base e size v n xs) {k : Nat} (hk : k < base) (s : ByteArray) (p : Nat) : (w.iterAt k s p).ownsRow base e size v n xs := by
  obtain ⟨h1, h2⟩ := h
  refine ⟨h1, ?_⟩
  rcases h2 with h2 | ⟨g, cap, cur, a, b, c, d⟩
  · exact .inl h2
  · exact .inr ⟨g, cap, cur, a, b, by rw [Lib.iterAt_other _ _ _ _ _ (by omega)]; exact c, d⟩

theorem iter_pos_of {w : World} {k : Nat} {s : ByteArray} {p : Nat} (h : w.heap[k]? = some (.stringIter s p)) : w.iterPos k = p := by simp [World.iterPos, h]

theorem owns_low {w : World} {B B' : Nat} {e : TypeId} {size : Nat} {v : Value} {n : Nat} {xs : List Value} (h : w.ownsRow B e size v n xs) (hB : B' ≤ B) : w.ownsRow B' e size v n xs := by
  obtain ⟨h1, h2⟩ := h
  refine ⟨h1, ?_⟩
  rcases h2 with h2 | ⟨g, cap, cur, a, b, c⟩
  · exact .inl h2
  · exact .inr ⟨g, cap, cur, a, by omega, c⟩

/-- A slice of ints that reads as a list. -/
def Reads (w : World) (v : Value) (l : List Int) : Prop :=
  ∃ a cap, v = .slice a l.length cap ∧ (a = none → cap = 0) ∧ ∀ i, i < l.length → ∃ b off, a = some ⟨b, off, none⟩ ∧ w.cell? ⟨b, off + i, none⟩ = some (.int .i64 (l.getD i 0))

theorem below_drewN {B : Nat} {a w : World} (h : Below B a w) (n : Nat) : Below B a (w.drewN n) := h.trans ⟨rfl, rfl, rfl, Nat.le_refl _, fun _ _ => rfl⟩

/-- Bytes as they lie in memory. -/
def bvs (l : List UInt8) : List Value := l.map fun b => Value.int .u8 (b.toNat : Int)

theorem cells3 (w : World) (a b c : Value) (t : TypeId) : ∀ j u, [a, b, c][j]? = some u → (w.alloc (.cells #[a, b, c] t)).cell? ((⟨w.heap.size, 0, none⟩ : Addr).add j) = some u := by
  intro j u hj
  match j, hj with
  | 0, hj => simp at hj; subst hj; simp [Addr.add]
  | 1, hj => simp at hj; subst hj; simp [Addr.add]
  | 2, hj => simp at hj; subst hj; simp [Addr.add]
  | j + 3, hj => simp at hj

theorem cells4 (w : World) (a b c d : Value) (t : TypeId) : ∀ j u, [a, b, c, d][j]? = some u → (w.alloc (.cells #[a, b, c, d] t)).cell? ((⟨w.heap.size, 0, none⟩ : Addr).add j) = some u := by
  intro j u hj
  match j, hj with
  | 0, hj => simp at hj; subst hj; simp [Addr.add]
  | 1, hj => simp at hj; subst hj; simp [Addr.add]
  | 2, hj => simp at hj; subst hj; simp [Addr.add]
  | 3, hj => simp at hj; subst hj; simp [Addr.add]
  | j + 4, hj => simp at hj

theorem Reads.later {w wx : World} {v : Value} {l : List Int} (h : Reads w v l) (hb : Below w.heap.size w wx) : Reads wx v l := by
  obtain ⟨a, cap, hv, hn, hc⟩ := h
  refine ⟨a, cap, hv, hn, fun i hi => ?_⟩
  obtain ⟨b, off, ha, hcell⟩ := hc i hi
  exact ⟨b, off, ha, cell_later hb hcell⟩

theorem owns_later {w w' : World} {B : Nat} {e : TypeId} {size : Nat} {v : Value} {n : Nat} {xs : List Value} (h : w.ownsRow B e size v n xs) (hb : Below w.heap.size w w') : w'.ownsRow B e size v n xs := by
  obtain ⟨h1, h2⟩ := h
  refine ⟨h1, ?_⟩
  rcases h2 with h2 | ⟨g, cap, cur, a, b, c, d⟩
  · exact .inl h2
  · have hg : g < w.heap.size := (Array.getElem?_eq_some_iff.1 c).1
    exact .inr ⟨g, cap, cur, a, b, (hb.block g hg).trans c, d⟩

end Go.Proofs.YtpgdafmenbeffaaDoor.Sx

/- A walk over strings.IndexByte, and over strings.ContainsRune at the six marks. -/
namespace Go.Proofs.YtpgdafmenbeffaaDoor.Sx

open Go.RowKit

set_option maxRecDepth 1000000 in
set_option maxHeartbeats 1000000 in
theorem ibyte51 (s : ByteArray) (c : Int) (w : World) :
    Calls Tryd.prog 93 #[.string s, .int .u8 c] w fun e w' => e = .returned (.int .i64 (Lib.indexByte s.data.toList c.toNat.toUInt8)) ∧ w' = w := by
  go_enter Tryd.func93, Tryd.ntmps93
  go_wp2
  rw [run_callFunc_extern Tryd.func94 (by kernel_rfl) (by kernel_rfl) (by kernel_rfl) (e := Extern.BytealgIndexByte.indexByte) (by kernel_rfl), Lib.run_indexByteString]
  simp only [Result.andThen]
  rw [Oper.upon_value]
  go_wp2
  go_ret
  exact ⟨rfl, rfl⟩

set_option maxRecDepth 1000000 in
set_option maxHeartbeats 1000000 in
theorem ibyte (s : ByteArray) (c : Int) (w : World) :
    Calls Tryd.prog 89 #[.string s, .int .u8 c] w fun e w' => e = .returned (.int .i64 (Lib.indexByte s.data.toList c.toNat.toUInt8)) ∧ w' = w := by
  go_enter Tryd.func89, Tryd.ntmps89
  go_wp2_with (go_at_call 93; refine (ibyte51 _ _ _).mono ?_; rintro e w' ⟨rfl, rfl⟩)
  go_ret
  exact ⟨rfl, rfl⟩

/-- The six marks. -/
theorem ib_marks (c : Int) (h0 : 0 ≤ c) (h1 : c < 256) : decide (0 ≤ Lib.indexByte [123, 125, 40, 41, 59, 44] c.toNat.toUInt8) = isMark c := by
  have h : ∀ n : Fin 256, decide (0 ≤ Lib.indexByte [123, 125, 40, 41, 59, 44] n.val.toUInt8) = isMark (n.val : Int) := by decide +kernel
  have := h ⟨c.toNat, by omega⟩
  simp only at this
  rw [this]
  congr 1
  omega

set_option maxRecDepth 1000000 in
set_option maxHeartbeats 1000000 in
theorem irune_ascii (c : Int) (h0 : 0 ≤ c) (h1 : c < 128) (w : World) :
    Calls Tryd.prog 87 #[.string ⟨#[123, 125, 40, 41, 59, 44]⟩, .int .i32 c] w fun e w' => ∃ k : Int, e = .returned (.int .i64 k) ∧ decide (0 ≤ k) = isMark c ∧ Below w.heap.size w w' := by
  have HM : Hid _ := ib_marks c h0 (by omega)
  go_enter Tryd.func87, Tryd.ntmps87
  go_wp2_with (go_at_call 89; refine (ibyte _ _ _).mono ?_; rintro e w' ⟨rfl, rfl⟩)
  go_ret
  exact ⟨_, rfl, HM.out, Below.refl _ _⟩

end Go.Proofs.YtpgdafmenbeffaaDoor.Sx

/- A walk over strings.ContainsRune at the six marks: does a code point stand among them? -/
namespace Go.Proofs.YtpgdafmenbeffaaDoor.Sx

open Go.RowKit

theorem encode_cp (c : Int) (h : isCp c = true) : Utf8.encode c = ⟨(enc c).toArray⟩ := by
  have hv := valid_of c h
  unfold Utf8.encode enc encN
  simp only [hv, if_true]
  generalize c.toNat = n
  clear hv h
  by_cases h1 : n < 128
  · simp only [h1, if_true]
  by_cases h2 : n < 2048
  · simp only [h1, h2, if_true, if_false]
  by_cases h3 : n < 65536
  · simp only [h1, h2, h3, if_true, if_false]
  · simp only [h1, h2, h3, if_false]

theorem no_mark (c : Int) (h : 128 ≤ c) : isMark c = false := by
  unfold isMark
  rw [decide_eq_false_iff_not]
  omega

theorem parts_marks : Parts (⟨#[123, 125, 40, 41, 59, 44]⟩ : ByteArray).data.toList [123, 125, 40, 41, 59, 44] [] :=
  ⟨by decide +kernel, by decide +kernel, .inl rfl⟩

set_option maxRecDepth 1000000 in
set_option maxHeartbeats 1000000 in
theorem irune_bad (w : World) :
    Calls Tryd.prog 87 #[.string ⟨#[123, 125, 40, 41, 59, 44]⟩, .int .i32 65533] w fun e w' => e = .returned (.int .i64 (-1)) ∧ Below w.heap.size w w' := by
  obtain ⟨s, hs⟩ : ∃ s : ByteArray, s = ⟨#[123, 125, 40, 41, 59, 44]⟩ := ⟨_, rfl⟩
  rw [← hs]
  have hp0 : Parts s.data.toList [123, 125, 40, 41, 59, 44] [] := by rw [hs]; exact parts_marks
  have hsz6 : s.size = 6 := by rw [hs]; rfl
  have hlt : ∀ c ∈ ([123, 125, 40, 41, 59, 44] : List Int), (c == 65533) = false := by decide
  generalize ([123, 125, 40, 41, 59, 44] : List Int) = cs at *
  clear hs
  have hz := size_list s
  have hbl : ∀ n, Below w.heap.size w (w.iter s n) := fun n => (Below.refl _ _).alloc (Nat.le_refl _) _
  go_enter Tryd.func87, Tryd.ntmps87
  go_wp2
  go_loopw [5, 6] (fun _ _ wr => ∃ (d todo : List Int), Hid (cs = d ++ todo) ∧ wr = w.iter s (encAll d).length) (fun _ _ wr => s.size - wr.iterPos w.heap.size)
  case atStart => exact ⟨[], cs, rfl, rfl⟩
  case round =>
    obtain ⟨d, todo, HC, rfl⟩ := hrel
    have hip : ∀ n, (w.iter s n).iterPos w.heap.size = n := fun n => by simp
    cases todo with
    | cons c todo =>
      have hS : s.data.toList = encAll (d ++ c :: todo) ++ [] := by rw [← HC.out]; exact hp0.eq
      have hc : isCp c = true := hp0.cp c (by rw [HC.out]; simp)
      have h2 : (c == 65533) = false := hlt c (by rw [HC.out]; simp)
      have hd := decode_at s d todo c [] hS hc
      have hk := enc_pos c hc
      have hlen : (encAll (d ++ [c])).length = (encAll d).length + (enc c).length := by rw [encAll_append, encAll_one]; simp
      have hsz : (encAll d).length + (enc c).length ≤ s.size := by
        rw [← hz, hS, encAll_append]
        simp [encAll]
      have hcn := cp_toNat c hc
      have HR : Hid (cs = (d ++ [c]) ++ todo) := by show _ = _; rw [HC.out]; simp
      have HL : Hid ((encAll (d ++ [c])).length = (encAll d).length + (enc c).length) := hlen
      generalize hp1 : (encAll d).length = pos at *
      generalize hk1 : (enc c).length = k at *
      have hnx : ∀ ty, (Instr.next (.pointer (some ⟨w.heap.size, 0, none⟩)) true ty).run Tryd.prog (w.iter s pos) = .ok (.tuple #[.bool true, .int .i64 pos, .int .i32 c]) (w.iter s (pos + k)) := by
        intro ty
        have h := run_next_any (P := Tryd.prog) w s pos ty (by omega)
        rw [hd] at h
        simp only [hcn] at h
        exact h
      clear hS hc hd hlen hcn HC hp1 hk1 hp0 hz hlt
      go_wp2
      go_roundw
      case rel => exact ⟨d ++ [c], todo, HR, by rw [HL.out]⟩
      case measure => simp; omega
    | nil =>
      have hC : cs = d := by simpa using HC.out
      subst hC
      have hsz : ¬ (encAll cs).length < s.size := by
        rw [← hz, hp0.eq]
        simp
      generalize (encAll cs).length = pos at *
      have hnx : ∀ ty, (Instr.next (.pointer (some ⟨w.heap.size, 0, none⟩)) true ty).run Tryd.prog (w.iter s pos) = _ := fun ty => run_next_end w s pos ty hsz
      clear hp0 hz hlt
      go_wp2
      go_ret
      exact ⟨rfl, hbl _⟩

end Go.Proofs.YtpgdafmenbeffaaDoor.Sx

/- A walk over strings.ContainsRune at the six marks: a code point beyond ASCII is none of them. -/
namespace Go.Proofs.YtpgdafmenbeffaaDoor.Sx

open Go.RowKit

set_option maxRecDepth 1000000 in
set_option maxHeartbeats 1000000 in
theorem vrune (c : Int) (hc : isCp c = true) (w : World) : Calls Tryd.prog 90 #[.int .i32 c] w fun e w' => e = .returned (.bool true) ∧ w' = w := by
  rw [isCp_iff] at hc
  obtain ⟨h1, h2, h3⟩ := hc
  go_enter Tryd.func90, Tryd.ntmps90
  go_wp2
  all_goals go_ret
  all_goals first | exact ⟨rfl, rfl⟩ | (exfalso; omega)

theorem ib_none (l : List UInt8) (b : UInt8) (h : ∀ x ∈ l, x ≠ b) : Lib.indexByte l b = -1 := by
  induction l with
  | nil => rfl
  | cons x l ih =>
    unfold Lib.indexByte
    have h1 : (x == b) = false := by rw [beq_eq_false_iff_ne]; exact h x (by simp)
    rw [h1, ih (fun y hy => h y (by simp [hy]))]
    rfl

theorem ib_sub (k : Nat) (b : Nat) (h0 : 128 ≤ b) (h1 : b < 256) : Lib.indexByte ((⟨#[123, 125, 40, 41, 59, 44]⟩ : ByteArray).extract k 6).data.toList ((b : Int).toNat.toUInt8) = -1 := by
  apply ib_none
  intro x hx
  have hx2 : x ∈ ([123, 125, 40, 41, 59, 44] : List UInt8) := by
    rw [Lib.extract_data] at hx
    exact List.mem_of_mem_drop (List.mem_of_mem_take hx)
  have hl : ∀ y ∈ ([123, 125, 40, 41, 59, 44] : List UInt8), y.toNat < 128 := by decide
  have h2 := hl x hx2
  rintro rfl
  rw [Int.toNat_natCast] at h2
  have e : b.toUInt8.toNat = b := ofNat_toNat b h1
  omega

set_option maxRecDepth 1000000 in
set_option maxHeartbeats 1000000 in
theorem irune_2 (c : Int) (rs : ByteArray) (hc : isCp c = true) (h128 : 128 ≤ c) (hne : (c == 65533) = false) (hrs : rs.size = 2) (hb : 128 ≤ bt rs 1) (w : World)
    (hcv : ∀ w, (convert 21 9 (.int .i32 c)).run Tryd.prog w = .ok (.string rs) w) :
    Calls Tryd.prog 87 #[.string ⟨#[123, 125, 40, 41, 59, 44]⟩, .int .i32 c] w fun e w' => e = .returned (.int .i64 (-1)) ∧ Below w.heap.size w w' := by
  obtain ⟨s, hs⟩ : ∃ s : ByteArray, s = ⟨#[123, 125, 40, 41, 59, 44]⟩ := ⟨_, rfl⟩
  have HC : Hid (isCp c = true) := hc
  have hb2 := bt_lt rs 1
  have HIB : Hid (∀ wx, Calls Tryd.prog 89 #[.string (s.extract 2 6), .int .u8 (bt rs 1 : Int)] wx fun e w' => e = .returned (.int .i64 (-1)) ∧ w' = wx) := by
    intro wx
    have h := ibyte (s.extract 2 6) (bt rs 1 : Int) wx
    rw [hs, ib_sub 2 (bt rs 1) hb hb2, ← hs] at h
    exact h
  have hs6 : s.size = 6 := by rw [hs]; rfl
  have hsb : bt s 1 < 128 := by rw [hs]; decide
  rw [← hs]
  clear hs hc
  have l1 : 1 < s.size := by omega
  have l2 : 1 < rs.size := by omega
  have e1 := bt_at s 1 l1
  have e2 := bt_at rs 1 l2
  have hd : ((bt s 1 : Int) != (bt rs 1 : Int)) = true := by rw [bne_iff_ne]; omega
  have hw0 : Below w.heap.size w w := Below.refl _ _
  have hwr : IntKind.i64.wrap 2 = 2 := by decide
  go_enter Tryd.func87, Tryd.ntmps87
  go_wp2_with (go_at_call 90; refine (vrune _ HC.out _).mono ?_; rintro e w' ⟨rfl, rfl⟩)
  go_step3
  go_wp2
  refine wp_loop_rounds 1 ?_
  rw [rounds_succ]
  go_wp2
  go_step3
  go_wp2
  go_quiet (fail)
  have hw1 := below_drewN hw0 nq
  generalize World.drewN _ nq = w1 at *
  go_wp2
  go_quiet ((go_at_call 89; exact Calls.quiet_of_same (HIB.out _)))
  go_wp2
  simp only [Exit.noGoto, Exit.inBlock, Exit.then]
  go_ret
  exact ⟨rfl, below_drewN hw1 _⟩

set_option maxRecDepth 1000000 in
set_option maxHeartbeats 1000000 in
theorem irune_3 (c : Int) (rs : ByteArray) (hc : isCp c = true) (h128 : 128 ≤ c) (hne : (c == 65533) = false) (hrs : rs.size = 3) (hb : 128 ≤ bt rs 2) (w : World)
    (hcv : ∀ w, (convert 21 9 (.int .i32 c)).run Tryd.prog w = .ok (.string rs) w) :
    Calls Tryd.prog 87 #[.string ⟨#[123, 125, 40, 41, 59, 44]⟩, .int .i32 c] w fun e w' => e = .returned (.int .i64 (-1)) ∧ Below w.heap.size w w' := by
  obtain ⟨s, hs⟩ : ∃ s : ByteArray, s = ⟨#[123, 125, 40, 41, 59, 44]⟩ := ⟨_, rfl⟩
  have HC : Hid (isCp c = true) := hc
  have hb2 := bt_lt rs 2
  have HIB : Hid (∀ wx, Calls Tryd.prog 89 #[.string (s.extract 3 6), .int .u8 (bt rs 2 : Int)] wx fun e w' => e = .returned (.int .i64 (-1)) ∧ w' = wx) := by
    intro wx
    have h := ibyte (s.extract 3 6) (bt rs 2 : Int) wx
    rw [hs, ib_sub 3 (bt rs 2) hb hb2, ← hs] at h
    exact h
  have hs6 : s.size = 6 := by rw [hs]; rfl
  have hsb : bt s 2 < 128 := by rw [hs]; decide
  rw [← hs]
  clear hs hc
  have l1 : 2 < s.size := by omega
  have l2 : 2 < rs.size := by omega
  have e1 := bt_at s 2 l1
  have e2 := bt_at rs 2 l2
  have hd : ((bt s 2 : Int) != (bt rs 2 : Int)) = true := by rw [bne_iff_ne]; omega
  have hw0 : Below w.heap.size w w := Below.refl _ _
  have hwr : IntKind.i64.wrap 3 = 3 := by decide
  go_enter Tryd.func87, Tryd.ntmps87
  go_wp2_with (go_at_call 90; refine (vrune _ HC.out _).mono ?_; rintro e w' ⟨rfl, rfl⟩)
  go_step3
  go_wp2
  refine wp_loop_rounds 1 ?_
  rw [rounds_succ]
  go_wp2
  go_step3
  go_wp2
  go_quiet (fail)
  have hw1 := below_drewN hw0 nq
  generalize World.drewN _ nq = w1 at *
  go_wp2
  go_quiet ((go_at_call 89; exact Calls.quiet_of_same (HIB.out _)))
  go_wp2
  simp only [Exit.noGoto, Exit.inBlock, Exit.then]
  go_ret
  exact ⟨rfl, below_drewN hw1 _⟩

set_option maxRecDepth 1000000 in
set_option maxHeartbeats 1000000 in
theorem irune_4 (c : Int) (rs : ByteArray) (hc : isCp c = true) (h128 : 128 ≤ c) (hne : (c == 65533) = false) (hrs : rs.size = 4) (hb : 128 ≤ bt rs 3) (w : World)
    (hcv : ∀ w, (convert 21 9 (.int .i32 c)).run Tryd.prog w = .ok (.string rs) w) :
    Calls Tryd.prog 87 #[.string ⟨#[123, 125, 40, 41, 59, 44]⟩, .int .i32 c] w fun e w' => e = .returned (.int .i64 (-1)) ∧ Below w.heap.size w w' := by
  obtain ⟨s, hs⟩ : ∃ s : ByteArray, s = ⟨#[123, 125, 40, 41, 59, 44]⟩ := ⟨_, rfl⟩
  have HC : Hid (isCp c = true) := hc
  have hb2 := bt_lt rs 3
  have HIB : Hid (∀ wx, Calls Tryd.prog 89 #[.string (s.extract 4 6), .int .u8 (bt rs 3 : Int)] wx fun e w' => e = .returned (.int .i64 (-1)) ∧ w' = wx) := by
    intro wx
    have h := ibyte (s.extract 4 6) (bt rs 3 : Int) wx
    rw [hs, ib_sub 4 (bt rs 3) hb hb2, ← hs] at h
    exact h
  have hs6 : s.size = 6 := by rw [hs]; rfl
  have hsb : bt s 3 < 128 := by rw [hs]; decide
  rw [← hs]
  clear hs hc
  have l1 : 3 < s.size := by omega
  have l2 : 3 < rs.size := by omega
  have e1 := bt_at s 3 l1
  have e2 := bt_at rs 3 l2
  have hd : ((bt s 3 : Int) != (bt rs 3 : Int)) = true := by rw [bne_iff_ne]; omega
  have hw0 : Below w.heap.size w w := Below.refl _ _
  have hwr : IntKind.i64.wrap 4 = 4 := by decide
  go_enter Tryd.func87, Tryd.ntmps87
  go_wp2_with (go_at_call 90; refine (vrune _ HC.out _).mono ?_; rintro e w' ⟨rfl, rfl⟩)
  go_step3
  go_wp2
  refine wp_loop_rounds 1 ?_
  rw [rounds_succ]
  go_wp2
  go_step3
  go_wp2
  go_quiet (fail)
  have hw1 := below_drewN hw0 nq
  generalize World.drewN _ nq = w1 at *
  go_wp2
  go_quiet ((go_at_call 89; exact Calls.quiet_of_same (HIB.out _)))
  go_wp2
  simp only [Exit.noGoto, Exit.inBlock, Exit.then]
  go_ret
  exact ⟨rfl, below_drewN hw1 _⟩

theorem irune_any (c : Int) (hc : isCp c = true) (w : World) :
    Calls Tryd.prog 87 #[.string ⟨#[123, 125, 40, 41, 59, 44]⟩, .int .i32 c] w fun e w' => ∃ k : Int, e = .returned (.int .i64 k) ∧ decide (0 ≤ k) = isMark c ∧ Below w.heap.size w w' := by
  have hci := (isCp_iff c).1 hc
  by_cases h : c < 128
  · exact irune_ascii c hci.1 h w
  have hm : decide ((0 : Int) ≤ -1) = isMark c := by rw [no_mark c (by omega)]; rfl
  by_cases hb : c = 65533
  · subst hb
    refine (irune_bad w).mono ?_
    rintro e w' ⟨rfl, h2⟩
    exact ⟨_, rfl, hm, h2⟩
  have hne : (c == 65533) = false := by rw [beq_eq_false_iff_ne]; exact hb
  have hcv : ∀ w, (convert 21 9 (.int .i32 c)).run Tryd.prog w = .ok (.string ⟨(enc c).toArray⟩) w := by
    intro w
    rw [run_convert_int_string w 21 9 .i32 c (by kernel_rfl) Tryd.underlying9, encode_cp _ hc]
  obtain ⟨n, rfl, hn⟩ := cp_cases c hc
  rcases hn with hn | ⟨h1, h2⟩ | ⟨h1, h2, h3⟩ | ⟨h1, h2⟩
  · omega
  · refine (irune_2 n _ hc (by omega) hne ?_ ?_ w hcv).mono ?_
    · rw [enc2 n h1 h2]; rfl
    · rw [enc2 n h1 h2]
      show 128 ≤ (UInt8.ofNat (128 + n % 64)).toNat
      rw [ofNat_toNat _ (by omega)]
      omega
    · rintro e w' ⟨rfl, h2⟩
      exact ⟨_, rfl, hm, h2⟩
  · refine (irune_3 n _ hc (by omega) hne ?_ ?_ w hcv).mono ?_
    · rw [enc3 n h1 h2]; rfl
    · rw [enc3 n h1 h2]
      show 128 ≤ (UInt8.ofNat (128 + n % 64)).toNat
      rw [ofNat_toNat _ (by omega)]
      omega
    · rintro e w' ⟨rfl, h2⟩
      exact ⟨_, rfl, hm, h2⟩
  · refine (irune_4 n _ hc (by omega) hne ?_ ?_ w hcv).mono ?_
    · rw [enc4 n h1]; rfl
    · rw [enc4 n h1]
      show 128 ≤ (UInt8.ofNat (128 + n % 64)).toNat
      rw [ofNat_toNat _ (by omega)]
      omega
    · rintro e w' ⟨rfl, h2⟩
      exact ⟨_, rfl, hm, h2⟩

set_option maxRecDepth 1000000 in
set_option maxHeartbeats 1000000 in
theorem has_mark (c : Int) (hc : isCp c = true) (w : World) :
    Calls Tryd.prog 82 #[.string ⟨#[123, 125, 40, 41, 59, 44]⟩, .int .i32 c] w fun e w' => e = .returned (.bool (isMark c)) ∧ Below w.heap.size w w' := by
  go_enter Tryd.func82, Tryd.ntmps82
  go_wp2_with fail
  refine (irune_any c hc _).mono ?_
  rintro e w' ⟨k, rfl, hm, hb⟩
  have HM : Hid _ := hm
  clear hm
  go_wp2
  go_ret
  exact ⟨ret_bool HM.out, hb⟩

end Go.Proofs.YtpgdafmenbeffaaDoor.Sx

/- Words about tokens in memory: a slice of tokens that the call has made, the scan's own block, and what is left as it was. -/
namespace Go.Proofs.YtpgdafmenbeffaaDoor.Sx

open Go.RowKit

/-- A token as it lies in memory. -/
def tv (t : Tok) : List Value := [.int .i64 t.kind, .string ⟨t.text.toArray⟩, .int .i64 (t.at_ : Int)]

/-- Tokens as they lie in memory. -/
def tvs : List Tok → List Value
  | [] => []
  | t :: l => tv t ++ tvs l

theorem tvs_append (a b : List Tok) : tvs (a ++ b) = tvs a ++ tvs b := by
  induction a with
  | nil => rfl
  | cons t a ih => simp [tvs, ih]

theorem tvs_len (a : List Tok) : (tvs a).length = a.length * 3 := by
  induction a with
  | nil => rfl
  | cons t a ih => simp [tvs, tv, ih]; omega

theorem tvs_one (t : Tok) : tvs [t] = tv t := by simp [tvs]

theorem tvs_at (a : List Tok) (i j : Nat) (t : Tok) (h : a[i]? = some t) (hj : j < 3) : (tvs a)[i * 3 + j]? = (tv t)[j]? := by
  induction a generalizing i with
  | nil => simp at h
  | cons x a ih =>
    cases i with
    | zero =>
      simp at h
      subst h
      simp only [tvs, Nat.zero_mul, Nat.zero_add]
      rw [List.getElem?_append_left (by simp [tv]; omega)]
    | succ i =>
      simp at h
      simp only [tvs]
      rw [List.getElem?_append_right (by simp [tv]; omega)]
      have e : (i + 1) * 3 + j - (tv x).length = i * 3 + j := by simp [tv]; omega
      rw [e]
      exact ih i h

theorem tv_one_cell (t : Tok) : ∀ u ∈ tv t, u.oneCell' = true := by
  intro u hu
  simp [tv] at hu
  rcases hu with rfl | rfl | rfl <;> rfl

/-- All below a block is as it was, but for one block. -/
structure KB (b B : Nat) (w w' : World) : Prop where
  os : w'.os = w.os
  tape : w'.tape = w.tape
  output : w'.output = w.output
  size : w.heap.size ≤ w'.heap.size
  block : ∀ k, k < B → k ≠ b → w'.heap[k]? = w.heap[k]?

theorem KB.refl (b B : Nat) (w : World) : KB b B w w := ⟨rfl, rfl, rfl, Nat.le_refl _, fun _ _ _ => rfl⟩

theorem KB.trans {b B : Nat} {x y z : World} (h : KB b B x y) (k : KB b B y z) : KB b B x z :=
  ⟨k.os.trans h.os, k.tape.trans h.tape, k.output.trans h.output, Nat.le_trans h.size k.size, fun i hi hn => (k.block i hi hn).trans (h.block i hi hn)⟩

theorem KB.of_below {b B : Nat} {x y : World} (h : Below B x y) : KB b B x y := ⟨h.os, h.tape, h.output, h.size, fun i hi _ => h.block i hi⟩

theorem KB.setCell (b B : Nat) (w : World) (i : Nat) (v : Value) : KB b B w (w.setCell ⟨b, i, none⟩ v) :=
  ⟨rfl, rfl, rfl, by simp, fun k _ hn => heap_setCell_other w ⟨b, i, none⟩ k v hn⟩

theorem KB.setFar {b B : Nat} (w : World) (g i : Nat) (v : Value) (hg : B ≤ g) : KB b B w (w.setCell ⟨g, i, none⟩ v) :=
  ⟨rfl, rfl, rfl, by simp, fun k hk _ => heap_setCell_other w ⟨g, i, none⟩ k v (by show k ≠ g; omega)⟩

theorem KB.drewN {b B : Nat} {x y : World} (h : KB b B x y) (n : Nat) : KB b B x (y.drewN n) := ⟨h.os, h.tape, h.output, h.size, h.block⟩

theorem KB.below {b B B0 : Nat} {x y : World} (h : KB b B x y) (h1 : B0 ≤ b) (h2 : B0 ≤ B) : Below B0 x y :=
  ⟨h.os, h.tape, h.output, h.size, fun k hk => h.block k (by omega) (by omega)⟩

/-- The scan's block and its tokens. -/
structure ScanAt (w : World) (b B : Nat) (s : ByteArray) (v : Value) (st : Sc) : Prop where
  blk : w.heap[b]? = some (.cells #[.string s, v, .bool st.cur.isSome, .bool st.remark] 141 (0, 0))
  own : w.ownsRow B 138 3 v st.toks.length (tvs st.toks)
  lt : b < B
  le : B ≤ w.heap.size

theorem cell_blk {w : World} {b : Nat} {cs : Array Value} {t : TypeId} (h : w.heap[b]? = some (.cells cs t (0, 0))) (i : Nat) : w.cell? ⟨b, i, none⟩ = cs[i]? := cell_of_row w b i cs t (0, 0) h

/-- The last token of a slice that the call has made. -/
theorem last_tok {w : World} {B : Nat} {v : Value} {l : List Tok} {t : Tok} (h : w.ownsRow B 138 3 v (l ++ [t]).length (tvs (l ++ [t]))) :
    ∃ g cap, v = .slice (some ⟨g, 0, none⟩) (l.length + 1) cap ∧ B ≤ g ∧ g < w.heap.size ∧ l.length < cap ∧ cap ≤ maxLen ∧
      w.cell? ⟨g, l.length * 3, none⟩ = some (.int .i64 t.kind) ∧ w.cell? ⟨g, l.length * 3 + 1, none⟩ = some (.string ⟨t.text.toArray⟩) ∧ w.cell? ⟨g, l.length * 3 + 2, none⟩ = some (.int .i64 (t.at_ : Int)) ∧
      (∀ j, w.frozen? ⟨g, j, none⟩ = false) := by
  have hl : (l ++ [t]).length = l.length + 1 := by simp
  rw [hl] at h
  have hlast : (l ++ [t])[l.length]? = some t := by simp
  rcases h.2 with ⟨_, h0⟩ | ⟨g, cap, cur, rfl, hb, hg, hnc, hcm, _⟩
  · omega
  · refine ⟨g, cap, rfl, hb, (Array.getElem?_eq_some_iff.1 hg).1, by omega, hcm, ?_, ?_, ?_, fun j => h.frozenAt j⟩
    · rw [h.cellAt _ (by omega)]
      exact tvs_at _ l.length 0 t hlast (by omega)
    · rw [h.cellAt _ (by omega)]
      exact tvs_at _ l.length 1 t hlast (by omega)
    · rw [h.cellAt _ (by omega)]
      exact tvs_at _ l.length 2 t hlast (by omega)

theorem last_at {w : World} {B g cap : Nat} {l : List Tok} {t : Tok} (h : w.ownsRow B 138 3 (.slice (some ⟨g, 0, none⟩) (l.length + 1) cap) (l ++ [t]).length (tvs (l ++ [t]))) :
    B ≤ g ∧ g < w.heap.size ∧ l.length < cap ∧ cap ≤ maxLen ∧
      w.cell? ⟨g, l.length * 3, none⟩ = some (.int .i64 t.kind) ∧ w.cell? ⟨g, l.length * 3 + 1, none⟩ = some (.string ⟨t.text.toArray⟩) ∧ w.cell? ⟨g, l.length * 3 + 2, none⟩ = some (.int .i64 (t.at_ : Int)) ∧
      (∀ j, w.frozen? ⟨g, j, none⟩ = false) := by
  obtain ⟨g', cap', e, r⟩ := last_tok h
  simp only [Value.slice.injEq, Option.some.injEq, Addr.mk.injEq, and_true, true_and] at e
  obtain ⟨rfl, rfl⟩ := e
  exact r

theorem tvs_set_text (l : List Tok) (t : Tok) (x : List UInt8) : (tvs (l ++ [t])).set (l.length * 3 + 1) (.string ⟨x.toArray⟩) = tvs (l ++ [⟨t.kind, x, t.at_⟩]) := by
  rw [tvs_append, tvs_append, tvs_one, tvs_one]
  rw [List.set_append_right _ _ (by rw [tvs_len]; omega), tvs_len]
  rw [show l.length * 3 + 1 - l.length * 3 = 1 by omega]
  rfl

theorem set_text {w : World} {B g cap : Nat} {l : List Tok} {t : Tok} (x : List UInt8) (h : w.ownsRow B 138 3 (.slice (some ⟨g, 0, none⟩) (l.length + 1) cap) (l ++ [t]).length (tvs (l ++ [t]))) :
    (w.setCell ⟨g, l.length * 3 + 1, none⟩ (.string ⟨x.toArray⟩)).ownsRow B 138 3 (.slice (some ⟨g, 0, none⟩) (l.length + 1) cap) (l ++ [(⟨t.kind, x, t.at_⟩ : Tok)]).length (tvs (l ++ [⟨t.kind, x, t.at_⟩])) := by
  have hl : (l ++ [t]).length = l.length + 1 := by simp
  rw [hl] at h
  have h2 := (h.stored (l.length * 3 + 1) (.string ⟨x.toArray⟩)).1
  rw [tvs_set_text] at h2
  simpa using h2

/-- A token is put behind the scan's tokens, and the slice is stored. -/
theorem scan_push {W w3 : World} {b B : Nat} {o : Obj} {v v' : Value} {s : ByteArray} {done : List Tok} {t : Tok} {x2 x3 : Value} (hblk : W.heap[b]? = some (.cells #[.string s, v, x2, x3] 141 (0, 0)))
    (hown : W.ownsRow B 138 3 v done.length (tvs done)) (hlt : b < B) (hle : B ≤ W.heap.size) (ho : w3.ownsRow B 138 3 v' (done ++ [t]).length (tvs (done ++ [t]))) (hg : (W.alloc o).grownBy w3 v.ownBlock) :
    w3.heap[b]? = some (.cells #[.string s, v, x2, x3] 141 (0, 0)) ∧ KB b B W w3 ∧
      (∀ u, (w3.setCell ⟨b, 1, none⟩ u).heap[b]? = some (.cells #[.string s, u, x2, x3] 141 (0, 0))) ∧ (∀ u, (w3.setCell ⟨b, 1, none⟩ u).ownsRow B 138 3 v' (done ++ [t]).length (tvs (done ++ [t]))) := by
  have hb3 : w3.heap[b]? = some (.cells #[.string s, v, x2, x3] 141 (0, 0)) := by
    rw [hg.block b (by simp; omega) (fun h => by have := (hown.lt _ h.symm).1; omega), Below.heap_alloc _ _ _ (by omega)]
    exact hblk
  refine ⟨hb3, ?_, fun u => heap_setCell_same w3 b 1 _ 141 u hb3, fun u => ownsRow_setCell_below ho hlt u⟩
  exact KB.of_below (Below.grown ((Below.refl _ _).alloc hle _) hg (by simp; omega) (fun j hj => (hown.lt _ hj).1))

theorem Tryd.info138 : (Tryd.prog.info? 138).map (fun i => (i.zero, i.size, i.bytes)) = some (some (.agg #[.int .i64 0, .string ⟨#[]⟩, .int .i64 0]), 3, 32) := by kernel_rfl

/-- A law for the walk: 'append' of one token onto a slice of tokens of the call's own. -/
theorem append_tok {W : World} {ops : Array Oper} {rest : List Oper} {o : Oper} {a : Act} {Q : Exit → Act → World → Prop} (hgd : o.guard = none) (s x : Operand)
    (ho : o.op = .call { callee := .builtin .append, args := #[s, x], argTypes := #[133, 133] }) (B : Nat) (v : Value) (l : List Tok) (hs : a.eval s = v) (hown : W.ownsRow B 138 3 v l.length (tvs l))
    (t : Tok) (A : Addr) (hx : a.eval x = .slice (some A) 1 1) (hcells : ∀ j u, (tv t)[j]? = some u → W.cell? (A.add j) = some u) (hl : l.length ≤ 100000) (hB : B ≤ W.heap.size)
    (h : ∀ g cap w', w'.ownsRow B 138 3 (.slice (some ⟨g, 0, none⟩) (l.length + 1) cap) (l ++ [t]).length (tvs (l ++ [t])) → W.grownBy w' v.ownBlock → wpList Tryd.prog ops Q rest (a.put o.dst (.slice (some ⟨g, 0, none⟩) (l.length + 1) cap)) w') : wpList Tryd.prog ops Q (o :: rest) a W := by
  obtain ⟨i0, hi, hz0, hz1, hz2⟩ := info_parts Tryd.info138
  refine wpList_append_own _ hgd s x 133 ho B 138 i0 _ 3 32 Tryd.underlying133 hi hz0 hz1 hz2 rfl (by decide) v l.length (tvs l) hs hown A 1 1 (tv t) hx rfl hcells (tv_one_cell t) (by unfold maxLen; omega) (by omega) hB ?_
  intro v' w' hown' hg _
  have ho' : w'.ownsRow B 138 3 v' (l ++ [t]).length (tvs (l ++ [t])) := by rw [tvs_append, tvs_one]; simpa using hown'
  obtain ⟨g, cap, rfl, _⟩ := last_tok ho'
  exact h g cap w' ho' hg

theorem cells_set (w : World) (p : Addr) (q x y z : Value) : ∀ j u, [x, y, z][j]? = some u → ((w.setCell p q).alloc (.cells #[x, y, z] 138)).cell? ((⟨w.heap.size, 0, none⟩ : Addr).add j) = some u := by
  intro j u hj
  have h := cells3 (w.setCell p q) x y z 138 j u hj
  rwa [World.size_setCell] at h

end Go.Proofs.YtpgdafmenbeffaaDoor.Sx

