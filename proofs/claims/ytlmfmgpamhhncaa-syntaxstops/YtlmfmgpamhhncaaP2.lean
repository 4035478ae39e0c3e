/- Texts of the seat, packed: WA WB WC WD WH WO. -/
import Derived.Test.YtlmfmgpamhhncaaRows
import Derived.Test.YtlmfmgpamhhncaaP1
import Derived.WalkKit
import Derived.WalkSpells
import Derived.WalkLawsBesides
import Derived.Lib.OthersKept
import Derived.Laws.IdiomStrings
import Derived.Laws.BytesArg
import Derived.BigQuiet
import Derived.Deep.QuietTactic
import Derived.LoopN
/- Walks over glyph.Width and the document's Is and Width: what each answers of any number. -/
namespace Go.Proofs.Ytlmfmgpamhhncaa
open Go.RowKit

theorem ret_int {k : IntKind} {a b : Int} (h : a = b) : Ending.returned (.int k a) = .returned (.int k b) := by rw [h]
theorem ret_bool {a b : Bool} (h : a = b) : Ending.returned (.bool a) = .returned (.bool b) := by rw [h]

set_option maxHeartbeats 800000 in
theorem gwidth_any (r : Int) (w : World) :
    Calls Try.prog 72 #[.int .i64 r] w fun e w' => e = .returned (.int .i64 (wid r)) ∧ w' = w.alloc (.cells #[.int .i64 r] 3) := by
  go_enter Try.func72, Try.ntmps72
  go_wp2
  all_goals go_ret
  all_goals refine ⟨ret_int ?_, rfl⟩
  all_goals unfold wid
  all_goals repeat' split
  all_goals omega

set_option maxHeartbeats 800000 in
theorem is_any (r : Int) (w : World) :
    Calls Try.prog 79 #[.int .i64 r] w fun e w' => e = .returned (.bool (isCp r)) ∧ w' = w := by
  go_enter Try.func79, Try.ntmps79
  go_wp2
  all_goals go_ret
  all_goals refine ⟨ret_bool ?_, rfl⟩
  all_goals unfold isCp
  all_goals first | (simp; done) | (simp; omega) | (rw [Bool.eq_iff_iff]; simp; omega)

set_option maxHeartbeats 800000 in
theorem rwidth_any (r : Int) (w : World) :
    Calls Try.prog 91 #[.int .i64 r] w fun e w' => e = .returned (.int .i64 (wid r)) ∧ w' = w := by
  by_cases h : isCp r = true
  · have h2 : 0 ≤ r ∧ r ≤ 1114111 ∧ (r < 55296 ∨ 57343 < r) := by simpa [isCp] using h
    go_enter Try.func91, Try.ntmps91
    go_wp2_with (go_at_call 79; refine (is_any _ _).mono ?_; rintro e w' ⟨rfl, rfl⟩)
    all_goals go_ret
    all_goals refine ⟨ret_int ?_, rfl⟩
    all_goals unfold wid
    all_goals repeat' split
    all_goals omega
  · have h1 : isCp r = false := by simpa using h
    have h2 : ¬ (0 ≤ r ∧ r ≤ 1114111 ∧ (r < 55296 ∨ 57343 < r)) := by simpa [isCp] using h
    have H2 : Hid (¬ (0 ≤ r ∧ r ≤ 1114111 ∧ (r < 55296 ∨ 57343 < r))) := h2
    clear h h2
    go_enter Try.func91, Try.ntmps91
    go_wp2_with (go_at_call 79; refine (is_any _ _).mono ?_; rintro e w' ⟨rfl, rfl⟩)
    all_goals go_ret
    all_goals have h2 := H2.out
    all_goals refine ⟨ret_int ?_, rfl⟩
    all_goals unfold wid
    all_goals repeat' split
    all_goals omega
end Go.Proofs.Ytlmfmgpamhhncaa

/- Walks over strings.HasPrefix (at the bytes of the number fffd) and glyph.Bad: the place of the first byte at which no code point stands. -/
namespace Go.Proofs.Ytlmfmgpamhhncaa
open Go.RowKit

theorem ret_b {a b : Bool} (h : a = b) : Ending.returned (.bool a) = .returned (.bool b) := by rw [h]
theorem ret_i {k : IntKind} {a b : Int} (h : a = b) : Ending.returned (.int k a) = .returned (.int k b) := by rw [h]

set_option maxHeartbeats 400000 in
theorem prefix_any (t : ByteArray) (w : World) (hs : t.size ≤ 100000) :
    Calls Try.prog 68 #[.string t, .string ⟨#[239, 191, 189]⟩] w fun e w' => e = .returned (.bool (hp t)) ∧ w' = w := by
  by_cases h : 3 ≤ t.size
  · go_enter Try.func68, Try.ntmps68
    go_wp2
    go_ret
    refine ⟨ret_b ?_, rfl⟩
    rw [Lib.extract_toList]
    unfold hp
    rw [Bool.eq_iff_iff]
    simp
  · have hz := size_list t
    go_enter Try.func68, Try.ntmps68
    go_wp2
    go_ret
    refine ⟨ret_b ?_, rfl⟩
    unfold hp
    symm
    rw [decide_eq_false_iff_not]
    intro e
    have := congrArg List.length e
    simp at this
    omega

/-- The place of the first bad byte; -1 if there is none. -/
def badV (cs : List Int) (rest : List UInt8) : Int := if rest = [] then -1 else ((encAll cs).length : Int)

set_option maxRecDepth 1000000 in
set_option maxHeartbeats 1000000 in
theorem bad_any (s : ByteArray) (cs : List Int) (rest : List UInt8) (hp0 : Parts s.data.toList cs rest) (w : World) (hs : s.size ≤ 100000) :
    Calls Try.prog 43 #[.string s] w fun e w' => e = .returned (.int .i64 (badV cs rest)) ∧ Below w.heap.size w w' := by
  have hz := size_list s
  have hbl : ∀ n, Below w.heap.size w (w.iter s n) := fun n => (Below.refl _ _).alloc (Nat.le_refl _) _
  go_enter Try.func43, Try.ntmps43
  go_wp2
  go_loopw [3, 4] (fun _ _ wr => ∃ (d todo : List Int), Hid (cs = d ++ todo) ∧ wr = w.iter s (encAll d).length) (fun _ _ wr => s.size - wr.iterPos w.heap.size)
  case atStart => exact ⟨[], cs, rfl, rfl⟩
  case round =>
    obtain ⟨d, todo, HC, rfl⟩ := hrel
    have hip : ∀ n, (w.iter s n).iterPos w.heap.size = n := fun n => by simp
    cases todo with
    | cons c todo =>
      have hS : s.data.toList = encAll (d ++ c :: todo) ++ rest := by rw [← HC.out]; exact hp0.eq
      have hc : isCp c = true := hp0.cp c (by rw [HC.out]; simp)
      have hd := decode_at s d todo c rest hS hc
      have hyes : c = 65533 → hp (s.extract (encAll d).length s.size) = true := by rintro rfl; exact hp_yes s d todo rest hS
      have hk := enc_pos c hc
      have hlen : (encAll (d ++ [c])).length = (encAll d).length + (enc c).length := by rw [encAll_append, encAll_one]; simp
      have hsz : (encAll d).length + (enc c).length ≤ s.size := by
        rw [← hz, hS, encAll_append]
        simp [encAll]
      have hcn := cp_toNat c hc
      have HR : Hid (cs = (d ++ [c]) ++ todo) := by show _ = _; rw [HC.out]; simp
      have HL : Hid ((encAll (d ++ [c])).length = (encAll d).length + (enc c).length) := hlen
      generalize hp1 : (encAll d).length = pos at *
      generalize hk1 : (enc c).length = k at *
      have hnx : ∀ ty, (Instr.next (.pointer (some ⟨w.heap.size, 0, none⟩)) true ty).run Try.prog (w.iter s pos) = .ok (.tuple #[.bool true, .int .i64 pos, .int .i32 c]) (w.iter s (pos + k)) := by
        intro ty
        have h := run_next_any (P := Try.prog) w s pos ty (by omega)
        rw [hd] at h
        simp only [hcn] at h
        exact h
      have hx : (s.extract pos s.size).size ≤ 100000 := by simp; omega
      have hlt : pos < s.size := by omega
      clear hS hc hd hlen hcn HC hp1 hk1 hp0 hz
      by_cases hb : c = 65533
      · have h1 := hyes hb
        have h2 : (c == 65533) = true := by simp [hb]
        clear hb hyes
        go_wp2_with (go_at_call 68; refine (prefix_any _ _ hx).mono ?_; rintro e w' ⟨rfl, rfl⟩)
        go_roundw
        case rel => exact ⟨d ++ [c], todo, HR, by rw [HL.out]⟩
        case measure => simp; omega
      · have h2 : (c == 65533) = false := by simp [hb]
        clear hb hyes
        go_wp2_with (go_at_call 68; refine (prefix_any _ _ hx).mono ?_; rintro e w' ⟨rfl, rfl⟩)
        go_roundw
        case rel => exact ⟨d ++ [c], todo, HR, by rw [HL.out]⟩
        case measure => simp; omega
    | nil =>
      have hC : cs = d := by simpa using HC.out
      subst hC
      by_cases hr : rest = []
      · have hsz : ¬ (encAll cs).length < s.size := by
          rw [← hz, hp0.eq, hr]
          simp
        have HB : Hid (badV cs rest = -1) := by show _ = _; simp [badV, hr]
        generalize (encAll cs).length = pos at *
        have hnx : ∀ ty, (Instr.next (.pointer (some ⟨w.heap.size, 0, none⟩)) true ty).run Try.prog (w.iter s pos) = _ := fun ty => run_next_end w s pos ty hsz
        clear hr hp0 hz
        go_wp2
        go_ret
        exact ⟨ret_i HB.out.symm, hbl _⟩
      · have hn : NoCp rest := hp0.stop.resolve_left hr
        have hd := decode_stop s cs rest hp0.eq hn hr
        have hno := hp_no s cs rest hp0.eq hn
        have hlt : (encAll cs).length < s.size := by
          rw [← hz, hp0.eq]
          have := List.length_pos_iff.2 hr
          simp
          omega
        have HB : Hid (badV cs rest = ((encAll cs).length : Int)) := by show _ = _; simp [badV, hr]
        generalize (encAll cs).length = pos at *
        have hnx : ∀ ty, (Instr.next (.pointer (some ⟨w.heap.size, 0, none⟩)) true ty).run Try.prog (w.iter s pos) = .ok (.tuple #[.bool true, .int .i64 pos, .int .i32 65533]) (w.iter s (pos + 1)) := by
          intro ty
          have h := run_next_any (P := Try.prog) w s pos ty hlt
          rw [hd] at h
          exact h
        have hx : (s.extract pos s.size).size ≤ 100000 := by simp; omega
        clear hr hp0 hz hd hn
        go_wp2_with (go_at_call 68; refine (prefix_any _ _ hx).mono ?_; rintro e w' ⟨rfl, rfl⟩)
        go_ret
        exact ⟨ret_i HB.out.symm, hbl _⟩
end Go.Proofs.Ytlmfmgpamhhncaa

/- Walks over glyph.Class and the document's Class: what each answers of any number. -/
namespace Go.Proofs.Ytlmfmgpamhhncaa
open Go.RowKit

/-- The class of a number: 0 Other, 1 Letter, 2 Digit, 3 Blank, 4 Mark. -/
def cls (r : Int) : Int :=
  if isCp r = false then 0 else if 128 ≤ r ∨ (97 ≤ r ∧ r ≤ 122) ∨ (65 ≤ r ∧ r ≤ 90) ∨ r = 95 then 1 else if 48 ≤ r ∧ r ≤ 57 then 2
  else if r = 9 ∨ r = 10 ∨ r = 13 ∨ r = 32 then 3 else if 32 < r ∧ r < 127 then 4 else 0

theorem wid_zero (r : Int) : (wid r == 0) = !isCp r := by
  unfold wid isCp
  rw [Bool.eq_iff_iff]
  simp
  repeat' split
  all_goals omega

set_option maxHeartbeats 1600000 in
theorem gclass_any (r : Int) (w : World) :
    Calls Try.prog 69 #[.int .i64 r] w fun e w' => e = .returned (.int .i64 (cls r)) ∧ w' = (w.alloc (.cells #[.int .i64 r] 3)).alloc (.cells #[.int .i64 r] 3) := by
  by_cases h : isCp r = true
  · have hz : (wid r == 0) = false := by rw [wid_zero, h]; rfl
    have H : Hid (isCp r = true) := h
    have h2 : 0 ≤ r ∧ r ≤ 1114111 ∧ (r < 55296 ∨ 57343 < r) := by simpa [isCp] using h
    obtain ⟨h3, h4, _⟩ := h2
    clear h
    go_enter Try.func69, Try.ntmps69
    go_wp2_with (first | (go_at_call 72; refine (gwidth_any _ _).mono ?_; rintro e w' ⟨rfl, rfl⟩) | go_in)
    all_goals go_ret
    all_goals refine ⟨ret_int ?_, rfl⟩
    all_goals unfold cls
    all_goals simp only [H.out]
    all_goals (repeat' split)
    all_goals first | rfl | omega | (simp_all; done) | (simp_all; omega)
  · have h1 : isCp r = false := by simpa using h
    have hz : (wid r == 0) = true := by rw [wid_zero, h1]; rfl
    have H : Hid (isCp r = false) := h1
    clear h h1
    go_enter Try.func69, Try.ntmps69
    go_wp2_with (first | (go_at_call 72; refine (gwidth_any _ _).mono ?_; rintro e w' ⟨rfl, rfl⟩) | go_in)
    all_goals go_ret
    all_goals refine ⟨ret_int ?_, rfl⟩
    all_goals simp [cls, H.out]
end Go.Proofs.Ytlmfmgpamhhncaa

/- A walk over the document's Class: what it answers of any number. -/
namespace Go.Proofs.Ytlmfmgpamhhncaa
open Go.RowKit

set_option maxHeartbeats 1600000 in
theorem rclass_any (r : Int) (w : World) :
    Calls Try.prog 54 #[.int .i64 r] w fun e w' => e = .returned (.int .i64 (cls r)) ∧ w' = w := by
  by_cases h : isCp r = true
  · have H : Hid (isCp r = true) := h
    have h2 : 0 ≤ r ∧ r ≤ 1114111 ∧ (r < 55296 ∨ 57343 < r) := by simpa [isCp] using h
    obtain ⟨h3, h4, _⟩ := h2
    go_enter Try.func54, Try.ntmps54
    go_wp2_with (go_at_call 79; refine (is_any _ _).mono ?_; rintro e w' ⟨rfl, rfl⟩)
    all_goals go_ret
    all_goals refine ⟨ret_int ?_, rfl⟩
    all_goals unfold cls
    all_goals simp only [H.out]
    all_goals (repeat' split)
    all_goals first | rfl | omega | (simp_all; done) | (simp_all; omega)
  · have h1 : isCp r = false := by simpa using h
    have H : Hid (isCp r = false) := h1
    clear h
    go_enter Try.func54, Try.ntmps54
    go_wp2_with (go_at_call 79; refine (is_any _ _).mono ?_; rintro e w' ⟨rfl, rfl⟩)
    all_goals go_ret
    all_goals refine ⟨ret_int ?_, rfl⟩
    all_goals simp [cls, H.out]
end Go.Proofs.Ytlmfmgpamhhncaa

/- Words and small laws about what lies in memory: numbers in slices, texts that are gone through, worlds that only grow. -/
namespace Go.Proofs.Ytlmfmgpamhhncaa
open Go.RowKit

theorem Try.info3 : (Try.prog.info? 3).map (fun i => (i.zero, i.size, i.bytes)) = some (some (.int .i64 0), 1, 8) := by kernel_rfl

/-- Numbers as they lie in memory. -/
def ivs (l : List Int) : List Value := l.map fun c => Value.int .i64 c

theorem ivs_len (l : List Int) : (ivs l).length = l.length := by simp [ivs]

theorem ivs_snoc (l : List Int) (c : Int) : ivs (l ++ [c]) = ivs l ++ [.int .i64 c] := by simp [ivs]

theorem owns_iterAt {w : World} {base : Nat} {e : TypeId} {size : Nat} {v : Value} {n : Nat} {xs : List Value} (h : w.ownsRow base e size v n xs) {k : Nat} (hk : k < base) (s : ByteArray) (p : Nat) : (w.iterAt k s p).ownsRow base e size v n xs := by
  obtain ⟨h1, h2⟩ := h
  refine ⟨h1, ?_⟩
  rcases h2 with h2 | ⟨g, cap, cur, a, b, c, d⟩
  · exact .inl h2
  · exact .inr ⟨g, cap, cur, a, b, by rw [Lib.iterAt_other _ _ _ _ _ (by omega)]; exact c, d⟩

theorem iter_pos_of {w : World} {k : Nat} {s : ByteArray} {p : Nat} (h : w.heap[k]? = some (.stringIter s p)) : w.iterPos k = p := by simp [World.iterPos, h]

theorem owns_low {w : World} {B B' : Nat} {e : TypeId} {size : Nat} {v : Value} {n : Nat} {xs : List Value} (h : w.ownsRow B e size v n xs) (hB : B' ≤ B) : w.ownsRow B' e size v n xs := by
  obtain ⟨h1, h2⟩ := h
  refine ⟨h1, ?_⟩
  rcases h2 with h2 | ⟨g, cap, cur, a, b, c⟩
  · exact .inl h2
  · exact .inr ⟨g, cap, cur, a, by omega, c⟩

/-- A slice of ints that reads as a list. -/
def Reads (w : World) (v : Value) (l : List Int) : Prop :=
  ∃ a cap, v = .slice a l.length cap ∧ (a = none → cap = 0) ∧ ∀ i, i < l.length → ∃ b off, a = some ⟨b, off, none⟩ ∧ w.cell? ⟨b, off + i, none⟩ = some (.int .i64 (l.getD i 0))

theorem below_drewN {B : Nat} {a w : World} (h : Below B a w) (n : Nat) : Below B a (w.drewN n) := h.trans ⟨rfl, rfl, rfl, Nat.le_refl _, fun _ _ => rfl⟩

theorem Try.info5 : (Try.prog.info? 5).map (fun i => (i.zero, i.size, i.bytes)) = some (some (.int .u8 0), 1, 1) := by kernel_rfl

/-- Bytes as they lie in memory. -/
def bvs (l : List UInt8) : List Value := l.map fun b => Value.int .u8 (b.toNat : Int)

theorem bvs_append (a b : List UInt8) : bvs (a ++ b) = bvs a ++ bvs b := by simp [bvs]

theorem bvs_len (a : List UInt8) : (bvs a).length = a.length := by simp [bvs]

theorem cells2 (w : World) (a b : Value) (t : TypeId) : ∀ j u, [a, b][j]? = some u → (w.alloc (.cells #[a, b] t)).cell? ((⟨w.heap.size, 0, none⟩ : Addr).add j) = some u := by
  intro j u hj
  match j, hj with
  | 0, hj => simp at hj; subst hj; simp [Addr.add]
  | 1, hj => simp at hj; subst hj; simp [Addr.add]
  | j + 2, hj => simp at hj

theorem cells3 (w : World) (a b c : Value) (t : TypeId) : ∀ j u, [a, b, c][j]? = some u → (w.alloc (.cells #[a, b, c] t)).cell? ((⟨w.heap.size, 0, none⟩ : Addr).add j) = some u := by
  intro j u hj
  match j, hj with
  | 0, hj => simp at hj; subst hj; simp [Addr.add]
  | 1, hj => simp at hj; subst hj; simp [Addr.add]
  | 2, hj => simp at hj; subst hj; simp [Addr.add]
  | j + 3, hj => simp at hj

theorem cells4 (w : World) (a b c d : Value) (t : TypeId) : ∀ j u, [a, b, c, d][j]? = some u → (w.alloc (.cells #[a, b, c, d] t)).cell? ((⟨w.heap.size, 0, none⟩ : Addr).add j) = some u := by
  intro j u hj
  match j, hj with
  | 0, hj => simp at hj; subst hj; simp [Addr.add]
  | 1, hj => simp at hj; subst hj; simp [Addr.add]
  | 2, hj => simp at hj; subst hj; simp [Addr.add]
  | 3, hj => simp at hj; subst hj; simp [Addr.add]
  | j + 4, hj => simp at hj

theorem reads_of_owns {w : World} {B : Nat} {v : Value} {n : Nat} {l : List Int} (hown : w.ownsRow B 3 1 v n (ivs l)) (hn : n = l.length) : Reads w v l := by
  subst hn
  rcases hown.2 with ⟨rfl, h0⟩ | ⟨g, cap, cur, rfl, _⟩
  · have h1 : l = [] := List.eq_nil_of_length_eq_zero h0
    subst h1
    exact ⟨none, 0, rfl, fun _ => rfl, by simp⟩
  · refine ⟨_, cap, rfl, (fun h => by cases h), fun i hi => ⟨g, 0, rfl, ?_⟩⟩
    have h := hown.cellAt i (by omega)
    rw [Nat.zero_add, h]
    simp [ivs, hi]

theorem Reads.later {w wx : World} {v : Value} {l : List Int} (h : Reads w v l) (hb : Below w.heap.size w wx) : Reads wx v l := by
  obtain ⟨a, cap, hv, hn, hc⟩ := h
  refine ⟨a, cap, hv, hn, fun i hi => ?_⟩
  obtain ⟨b, off, ha, hcell⟩ := hc i hi
  exact ⟨b, off, ha, cell_later hb hcell⟩

theorem wid_ne (c : Int) (h : isCp c = true) : (wid c == 0) = false := by
  have := wid_bd c h
  rw [beq_eq_false_iff_ne]
  omega

theorem wid_eq0 (c : Int) (h : isCp c = false) : (wid c == 0) = true := by
  have h2 : ¬ (0 ≤ c ∧ c ≤ 1114111 ∧ (c < 55296 ∨ 57343 < c)) := by simpa [isCp] using h
  rw [beq_iff_eq]
  unfold wid
  repeat' split
  all_goals omega

theorem take_snoc (l : List Int) (k : Nat) (h : k < l.length) : l.take (k + 1) = l.take k ++ [l.getD k 0] := by
  rw [List.take_succ_eq_append_getElem h]
  simp [h]

/-- Where a text is cut: behind as many code points as are asked for, or all that are right. -/
def cutV (cs : List Int) (n : Int) : Nat := (encAll (cs.take n.toNat)).length

theorem cutV_le (cs : List Int) (n : Int) : cutV cs n ≤ (encAll cs).length := by
  unfold cutV
  have h : encAll cs = encAll (cs.take n.toNat) ++ encAll (cs.drop n.toNat) := by rw [← encAll_append, List.take_append_drop]
  rw [h]
  simp

theorem owns_later {w w' : World} {B : Nat} {e : TypeId} {size : Nat} {v : Value} {n : Nat} {xs : List Value} (h : w.ownsRow B e size v n xs) (hb : Below w.heap.size w w') : w'.ownsRow B e size v n xs := by
  obtain ⟨h1, h2⟩ := h
  refine ⟨h1, ?_⟩
  rcases h2 with h2 | ⟨g, cap, cur, a, b, c, d⟩
  · exact .inl h2
  · have hg : g < w.heap.size := (Array.getElem?_eq_some_iff.1 c).1
    exact .inr ⟨g, cap, cur, a, b, (hb.block g hg).trans c, d⟩
end Go.Proofs.Ytlmfmgpamhhncaa

/- Walks over the document's 'one': a code point's bytes as a text. -/
namespace Go.Proofs.Ytlmfmgpamhhncaa
open Go.RowKit

theorem ret_str {a b : ByteArray} (h : a = b) : Ending.returned (.string a) = .returned (.string b) := by rw [h]

theorem conv_one (W : World) (g : Nat) (x : Int) (hg : g = W.heap.size) :
    (convert 89 9 (.slice (some ⟨g, 0, none⟩) 1 1)).run Try.prog (W.alloc (.cells #[.int .u8 x] 5)) = .ok (.string ⟨#[UInt8.ofNat x.toNat]⟩) (W.alloc (.cells #[.int .u8 x] 5)) := by
  subst hg
  refine run_convert_bytes_arg _ 89 5 Try.underlying89 Try.underlying5 W.heap.size 0 1 1 [x] rfl ?_ 9 Try.underlying9
  intro i hi
  have h0 : i = 0 := by omega
  subst h0
  simp

theorem bcat (a b : List UInt8) : (⟨a.toArray⟩ : ByteArray) ++ ⟨b.toArray⟩ = ⟨(a ++ b).toArray⟩ := by
  apply ByteArray.ext
  simp

theorem badd (k n : Nat) : UInt8.ofNat k + UInt8.ofNat n = UInt8.ofNat (k + n) := by rw [UInt8.ofNat_add]

theorem str2 (n : Nat) : (⟨#[192 + UInt8.ofNat (n / 64)]⟩ : ByteArray) ++ (⟨#[128 + UInt8.ofNat (n % 64)]⟩ ++ ⟨#[]⟩) = ⟨#[UInt8.ofNat (192 + n / 64), UInt8.ofNat (128 + n % 64)]⟩ := by
  rw [← badd 192, ← badd 128]
  exact (congrArg _ (bcat [_] [])).trans (bcat [_] [_])
theorem str3 (n : Nat) : (⟨#[224 + UInt8.ofNat (n / 64 / 64)]⟩ : ByteArray) ++ (⟨#[128 + UInt8.ofNat (n / 64 % 64)]⟩ ++ (⟨#[128 + UInt8.ofNat (n % 64)]⟩ ++ ⟨#[]⟩)) = ⟨#[UInt8.ofNat (224 + n / 4096), UInt8.ofNat (128 + n / 64 % 64), UInt8.ofNat (128 + n % 64)]⟩ := by
  rw [← badd 224, ← badd 128, ← badd 128, Nat.div_div_eq_div_mul]
  exact (congrArg _ ((congrArg _ (bcat [_] [])).trans (bcat [_] [_]))).trans (bcat [_] [_, _])
theorem str4 (n : Nat) : (⟨#[240 + UInt8.ofNat (n / 64 / 64 / 64)]⟩ : ByteArray) ++ (⟨#[128 + UInt8.ofNat (n / 64 / 64 % 64)]⟩ ++ (⟨#[128 + UInt8.ofNat (n / 64 % 64)]⟩ ++ (⟨#[128 + UInt8.ofNat (n % 64)]⟩ ++ ⟨#[]⟩))) = ⟨#[UInt8.ofNat (240 + n / 262144), UInt8.ofNat (128 + n / 4096 % 64), UInt8.ofNat (128 + n / 64 % 64), UInt8.ofNat (128 + n % 64)]⟩ := by
  have e1 : n / 64 / 64 / 64 = n / 262144 := by omega
  have e2 : n / 64 / 64 = n / 4096 := by omega
  rw [← badd 240, ← badd 128, ← badd 128, ← badd 128, e1, e2]
  exact (congrArg _ ((congrArg _ ((congrArg _ (bcat [_] [])).trans (bcat [_] [_]))).trans (bcat [_] [_, _]))).trans (bcat [_] [_, _, _])

set_option maxRecDepth 1000000 in
set_option maxHeartbeats 1000000 in
theorem one_one (n : Nat) (h1 : n < 128) (hc : isCp n = true) (w : World) :
    Calls Try.prog 101 #[.int .i64 n] w fun e w' => e = .returned (.string ⟨#[UInt8.ofNat n]⟩) ∧ Below w.heap.size w w' := by
  have hw : wid (n : Int) = 1 := by rw [← enc_len _ hc, enc1 n h1]; rfl
  have hcv := conv_one
  clear hc
  go_enter Try.func101, Try.ntmps101
  go_wp2_with (go_at_call 91; refine (rwidth_any _ _).mono ?_; rintro e w' ⟨rfl, rfl⟩)
  go_ret
  exact ⟨rfl, (Below.refl _ _).alloc (Nat.le_refl _) _⟩

set_option maxRecDepth 1000000 in
set_option maxHeartbeats 1000000 in
theorem one_two (n : Nat) (h1 : 128 ≤ n) (h2 : n < 2048) (hc : isCp n = true) (w : World) :
    Calls Try.prog 101 #[.int .i64 n] w fun e w' => e = .returned (.string ⟨#[UInt8.ofNat (192 + n / 64), UInt8.ofNat (128 + n % 64)]⟩) ∧ Below w.heap.size w w' := by
  have hw : wid (n : Int) = 2 := by rw [← enc_len _ hc, enc2 n h1 h2]; rfl
  have hcv := conv_one
  clear hc
  go_enter Try.func101, Try.ntmps101
  go_wp2_with (go_at_call 91; refine (rwidth_any _ _).mono ?_; rintro e w' ⟨rfl, rfl⟩)
  refine wp_loop_rounds 2 ?_
  rw [rounds_succ]
  go_wp2
  rw [rounds_succ]
  go_wp2
  go_ret
  refine ⟨ret_str ?_, ?_⟩
  · exact str2 n
  · exact ((((Below.refl _ _).alloc (Nat.le_refl _) _).alloc (by simp) _).alloc (by simp; omega) _)

set_option maxRecDepth 1000000 in
set_option maxHeartbeats 1000000 in
theorem one_three (n : Nat) (h1 : 2048 ≤ n) (h2 : n < 65536) (hc : isCp n = true) (w : World) :
    Calls Try.prog 101 #[.int .i64 n] w fun e w' => e = .returned (.string ⟨#[UInt8.ofNat (224 + n / 4096), UInt8.ofNat (128 + n / 64 % 64), UInt8.ofNat (128 + n % 64)]⟩) ∧ Below w.heap.size w w' := by
  have hw : wid (n : Int) = 3 := by rw [← enc_len _ hc, enc3 n h1 h2]; rfl
  have hcv := conv_one
  clear hc
  go_enter Try.func101, Try.ntmps101
  go_wp2_with (go_at_call 91; refine (rwidth_any _ _).mono ?_; rintro e w' ⟨rfl, rfl⟩)
  refine wp_loop_rounds 3 ?_
  rw [rounds_succ]
  go_wp2
  rw [rounds_succ]
  go_wp2
  rw [rounds_succ]
  go_wp2
  go_ret
  refine ⟨ret_str ?_, ?_⟩
  · exact str3 n
  · exact (((((Below.refl _ _).alloc (Nat.le_refl _) _).alloc (by simp) _).alloc (by simp; omega) _).alloc (by simp; omega) _)

set_option maxRecDepth 1000000 in
set_option maxHeartbeats 1000000 in
theorem one_four (n : Nat) (h1 : 65536 ≤ n) (h2 : n < 1114112) (hc : isCp n = true) (w : World) :
    Calls Try.prog 101 #[.int .i64 n] w fun e w' => e = .returned (.string ⟨#[UInt8.ofNat (240 + n / 262144), UInt8.ofNat (128 + n / 4096 % 64), UInt8.ofNat (128 + n / 64 % 64), UInt8.ofNat (128 + n % 64)]⟩) ∧ Below w.heap.size w w' := by
  have hw : wid (n : Int) = 4 := by rw [← enc_len _ hc, enc4 n h1]; rfl
  have hcv := conv_one
  clear hc
  go_enter Try.func101, Try.ntmps101
  go_wp2_with (go_at_call 91; refine (rwidth_any _ _).mono ?_; rintro e w' ⟨rfl, rfl⟩)
  refine wp_loop_rounds 4 ?_
  rw [rounds_succ]
  go_wp2
  rw [rounds_succ]
  go_wp2
  rw [rounds_succ]
  go_wp2
  rw [rounds_succ]
  go_wp2
  go_ret
  refine ⟨ret_str ?_, ?_⟩
  · exact str4 n
  · exact ((((((Below.refl _ _).alloc (Nat.le_refl _) _).alloc (by simp) _).alloc (by simp; omega) _).alloc (by simp; omega) _).alloc (by simp; omega) _)

theorem one_any (c : Int) (hc : isCp c = true) (w : World) :
    Calls Try.prog 101 #[.int .i64 c] w fun e w' => e = .returned (.string ⟨(enc c).toArray⟩) ∧ Below w.heap.size w w' := by
  obtain ⟨n, rfl, hr⟩ := cp_cases c hc
  rcases hr with h | ⟨h1, h2⟩ | ⟨h1, h2, h3⟩ | ⟨h1, h2⟩
  · rw [enc1 n h]
    exact one_one n h hc w
  · rw [enc2 n h1 h2]
    exact one_two n h1 h2 hc w
  · rw [enc3 n h1 h2]
    exact one_three n h1 h2 hc w
  · rw [enc4 n h1]
    exact one_four n h1 h2 hc w
end Go.Proofs.Ytlmfmgpamhhncaa

