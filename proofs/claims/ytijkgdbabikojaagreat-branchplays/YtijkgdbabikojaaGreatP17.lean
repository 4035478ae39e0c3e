/- Texts of the seat, packed: Pd Qa Gb Gc. -/
import Derived.Test.YtijkgdbabikojaaGreatP16
import Derived.Test.YtijkgdbabikojaaGreatP15
import Derived.Test.YtijkgdbabikojaaGreatP02
import Derived.Shelf.Abstract
import Derived.Shelf.RegionOpen
import Derived.WalkKit
import Derived.OwnWalkIn
import Derived.TacticsInMore
import Derived.LoopNIn
import Derived.LoopIn
/- Plain facts on what is read: the program's reading and the document's are one; the example. -/
namespace Go.Proofs.YtijkgdbabikojaaGreat
set_option maxRecDepth 1000000
open Go.RowKit
set_option linter.unusedVariables false

/-- What is read of bytes. -/
def rd (b : List UInt8) : Option Ev := readF (tri ((b.getD 0 0).toNat : Nat)) b

theorem first_enc {e : Ev} (h : okE e = true) : (((encE e).getD 0 0).toNat : Int) = e.k := by
  obtain ⟨k1, k2, _⟩ := okE_head h
  unfold encE headP
  simp only [List.append_assoc, List.cons_append, List.nil_append, List.getD_cons_zero]
  rw [u8_nat]
  omega

theorem tri_ok {e : Ev} (h : okE e = true) : tri e.k = decide (3 < e.k) := by
  obtain ⟨k1, k2, _⟩ := okE_head h
  unfold tri
  exact decide_eq_decide.2 (by omega)

theorem rd_enc {e : Ev} (h : okE e = true) : rd (encE e) = some e := by
  unfold rd
  refine readF_enc ?_ h
  rw [← tri_ok h, ← first_enc h]

theorem doc_enc {e : Ev} (h : okE e = true) : readF (decide (3 < ((((encE e).getD 0 0).toNat : Nat) : Int))) (encE e) = some e := by
  refine readF_enc ?_ h
  rw [← first_enc h]

theorem readF_kind {q : Bool} {b : List UInt8} {e : Ev} (h : readF q b = some e) : e.k = ((b.getD 0 0).toNat : Int) := by
  unfold readF at h
  split at h
  · rename_i h1
    split at h
    · split at h
      · have he := Option.some.inj h
        subst he
        unfold headF at h1
        by_cases hb : b = []
        · rw [if_pos hb] at h1; cases h1
        · unfold evF headF
          rw [if_neg hb]
          split <;> rfl
      · cases h
    · cases h
  · cases h

theorem rd_some {b : List UInt8} {e : Ev} (h : rd b = some e) : okE e = true ∧ encE e = b := by
  refine readF_some ?_ h
  intro ho
  rw [← tri_ok ho, readF_kind h]

theorem doc_some {b : List UInt8} {e : Ev} (h : readF (decide (3 < (((b.getD 0 0).toNat : Nat) : Int))) b = some e) : okE e = true ∧ encE e = b := by
  refine readF_some ?_ h
  intro ho
  rw [readF_kind h]

theorem rd_doc (b : List UInt8) : readF (decide (3 < (((b.getD 0 0).toNat : Nat) : Int))) b = rd b := by
  cases h : rd b with
  | some e =>
    obtain ⟨ho, rfl⟩ := rd_some h
    exact doc_enc ho
  | none =>
    cases h2 : readF (decide (3 < (((b.getD 0 0).toNat : Nat) : Int))) b with
    | none => rfl
    | some e =>
      obtain ⟨ho, rfl⟩ := doc_some h2
      rw [rd_enc ho] at h
      cases h

theorem rd_less {e : Ev} (h : okE e = true) : rd (encE e).dropLast = none := by
  cases h2 : rd (encE e).dropLast with
  | none => rfl
  | some f =>
    obtain ⟨hf, he⟩ := rd_some h2
    have hne : encE e ≠ [] := fun hb => by have := enc_pos e; rw [hb] at this; simp at this
    have h3 : encE f ++ [(encE e).getLast hne] = encE e ++ [] := by rw [he, List.append_nil]; exact List.dropLast_concat_getLast hne
    have h4 := enc_prefix hf h h3
    subst h4
    have h5 := congrArg List.length he
    rw [List.length_dropLast] at h5
    have := enc_pos f
    omega

theorem rd_more {e : Ev} (c : UInt8) (h : okE e = true) : rd (encE e ++ [c]) = none := by
  cases h2 : rd (encE e ++ [c]) with
  | none => rfl
  | some f =>
    obtain ⟨hf, he⟩ := rd_some h2
    have h3 : encE f ++ [] = encE e ++ [c] := by rw [he, List.append_nil]
    have h4 := enc_prefix hf h h3
    subst h4
    have h5 := congrArg List.length he
    rw [List.length_append] at h5
    simp at h5

/-- The example. -/
def ex : Ev := ⟨4, 5, 1, [2, 0]⟩

theorem ex_ok : okE ex = true := by decide
theorem ex_enc : encE ex = [4, 5, 1, 2, 2, 0] := by
  unfold encE headP putsP manyP natL ex
  simp [one_lt]
theorem ex_byt : bytE ex = [4, 5, 1, 2, 2, 0] := by unfold bytE; rw [if_pos ex_ok, ex_enc]
theorem ex_rd : rd [4, 5, 1, 2, 2, 0] = some ex := by rw [← ex_enc]; exact rd_enc ex_ok
theorem ex_text : textE ex = [117, 110, 100, 111, 32, 53, 46, 49, 32, 50, 32, 48] := by
  unfold textE
  rw [if_pos ex_ok]
  unfold texE headT numT stampT wordP ex
  simp [dgs_lt]
theorem ex_err : evE ex = 0 := by unfold evE; rw [if_pos ex_ok]
theorem none_err : evE ⟨0, 0, 0, []⟩ = 2 := by decide
theorem ex_same : sameB ex ex = true := sameB_iff.2 rfl
end Go.Proofs.YtijkgdbabikojaaGreat

/- Plain facts for layer 11: what is whole of a branch's log, a text's frames. -/
namespace Go.Proofs.YtijkgdbabikojaaGreat
set_option maxRecDepth 1000000
set_option linter.unusedVariables false

/-- The events that are whole, of n branches' number i, from the k-th on, and how many bytes they have. -/
def logW (n : Nat) (i : Int) : Nat → List (List UInt8) → List Ev × Nat
  | _, [] => ([], 0)
  | k, b :: r => match rd b with
    | none => ([], 0)
    | some e => if e.s.length = n ∧ atZ e.s i = ((k + 1 : Nat) : Int) then (e :: (logW n i (k + 1) r).1, b.length + 6 + (logW n i (k + 1) r).2) else ([], 0)

/-- What Load tells of a file's bytes. -/
def loadL (n : Nat) (i : Int) (B : List UInt8) : List Ev × Nat := logW n i 0 (Fr.allP B (B.length + 1) 0).1

/-- Are events such as stand in a log, from the k-th on? -/
def Good (n : Nat) (i : Int) : Nat → List Ev → Prop
  | _, [] => True
  | k, e :: r => okE e = true ∧ e.s.length = n ∧ atZ e.s i = ((k + 1 : Nat) : Int) ∧ Good n i (k + 1) r

theorem Good.take {n : Nat} {i : Int} : ∀ {k : Nat} {es : List Ev} (m : Nat), Good n i k es → Good n i k (es.take m)
  | _, [], m, _ => by rw [List.take_nil]; trivial
  | _, e :: r, 0, _ => trivial
  | _, e :: r, m + 1, h => ⟨h.1, h.2.1, h.2.2.1, Good.take m h.2.2.2⟩

theorem enc_frame {e : Ev} (h : okE e = true) : (encE e).length ≤ 1024 := by
  obtain ⟨k1, k2, i1, i2, t1, t2, kt⟩ := okE_head h
  have hs := okE_stamp h
  have h1 := many_len (natL e.s) (okS_nats hs)
  have h2 := one_six (n := e.i.toNat) (by omega)
  have h3 := one_six (n := e.t.toNat) (by omega)
  have h4 := okS_len hs
  rw [natL_len] at h1
  have h5 := one_six (n := (natL e.s).length) (by rw [natL_len]; omega)
  unfold encE headP putsP
  simp only [List.length_append, List.length_cons, List.length_nil]
  split
  · omega
  · simp only [List.length_nil]; omega

theorem Good.frames {n : Nat} {i : Int} : ∀ {k : Nat} {es : List Ev}, Good n i k es → ∀ b ∈ es.map encE, b.length ≤ 1024
  | _, [], _, b, hb => by cases hb
  | _, e :: r, h, b, hb => by
    rcases List.mem_cons.1 hb with rfl | hb
    · exact enc_frame h.1
    · exact Good.frames h.2.2.2 b hb

theorem log_put (n : Nat) (i : Int) : ∀ (k : Nat) (es : List Ev), Good n i k es → logW n i k (es.map encE) = (es, (Fr.putP (es.map encE)).length)
  | _, [], _ => rfl
  | k, e :: r, h => by
    have ih := log_put n i (k + 1) r h.2.2.2
    rw [List.map_cons, logW, rd_enc h.1]
    simp only
    rw [if_pos ⟨h.2.1, h.2.2.1⟩, ih, Fr.putP_cons, List.length_append, Fr.frameP_len]

/-- What was appended is told. -/
theorem load_put (n : Nat) (i : Int) (es : List Ev) (h : Good n i 0 es) : loadL n i (Fr.putP (es.map encE)) = (es, (Fr.putP (es.map encE)).length) := by
  unfold loadL
  rw [Fr.all_put _ (Good.frames h)]
  exact log_put n i 0 es h

/-- What is whole is a log. -/
theorem log_good (n : Nat) (i : Int) : ∀ (k : Nat) (L : List (List UInt8)), Good n i k (logW n i k L).1 ∧ (logW n i k L).1.map encE = L.take (logW n i k L).1.length ∧ (logW n i k L).2 = (Fr.putP ((logW n i k L).1.map encE)).length
  | _, [] => ⟨trivial, rfl, rfl⟩
  | k, b :: r => by
    obtain ⟨i1, i2, i3⟩ := log_good n i (k + 1) r
    unfold logW
    cases h : rd b with
    | none => exact ⟨trivial, rfl, rfl⟩
    | some e =>
      obtain ⟨ho, he⟩ := rd_some h
      simp only
      by_cases hc : e.s.length = n ∧ atZ e.s i = ((k + 1 : Nat) : Int)
      · rw [if_pos hc]
        refine ⟨⟨ho, hc.1, hc.2, i1⟩, ?_, ?_⟩
        · simp only [List.map_cons, List.length_cons, List.take_succ_cons, he, i2]
        · simp only [List.map_cons, Fr.putP_cons, List.length_append, Fr.frameP_len, he, i3]
      · rw [if_neg hc]
        exact ⟨trivial, rfl, rfl⟩

/-- Where bytes are cut: so many frames are whole. -/
theorem cut_at : ∀ (L : List (List UInt8)) (m : Nat), ∃ k, k ≤ L.length ∧ (Fr.putP (L.take k)).length ≤ m ∧ ∀ b, L[k]? = some b → m < (Fr.putP (L.take k)).length + b.length + 6
  | [], m => ⟨0, Nat.le_refl _, by simp [Fr.putP], fun b hb => by simp at hb⟩
  | b :: L, m => by
    by_cases hb : b.length + 6 ≤ m
    · obtain ⟨k, h1, h2, h3⟩ := cut_at L (m - (b.length + 6))
      refine ⟨k + 1, by simp; omega, ?_, ?_⟩
      · rw [List.take_succ_cons, Fr.putP_cons, List.length_append, Fr.frameP_len]; omega
      · intro c hc
        rw [List.getElem?_cons_succ] at hc
        have := h3 c hc
        rw [List.take_succ_cons, Fr.putP_cons, List.length_append, Fr.frameP_len]
        omega
    · refine ⟨0, Nat.zero_le _, by simp [Fr.putP], ?_⟩
      intro c hc
      simp only [List.getElem?_cons_zero, Option.some.injEq] at hc
      subst hc
      simp [Fr.putP]
      omega

theorem put_mono (L : List (List UInt8)) {j k : Nat} (h : j ≤ k) : (Fr.putP (L.take j)).length ≤ (Fr.putP (L.take k)).length := by
  have e : L.take k = L.take j ++ (L.take k).drop j := by
    have := List.take_append_drop j (L.take k)
    rw [List.take_take, Nat.min_eq_left h] at this
    exact this.symm
  rw [e, Fr.putP_append, List.length_append]
  omega

/-- Behind a crash a beginning is told, with all whose bytes are there. -/
theorem load_torn (n : Nat) (i : Int) (es : List Ev) (h : Good n i 0 es) (m : Nat) (hm : m ≤ (Fr.putP (es.map encE)).length) :
    ∃ k, k ≤ es.length ∧ loadL n i ((Fr.putP (es.map encE)).take m) = (es.take k, (Fr.putP ((es.take k).map encE)).length) ∧ (Fr.putP ((es.take k).map encE)).length ≤ m ∧ ∀ j, j ≤ es.length → (Fr.putP ((es.take j).map encE)).length ≤ m → j ≤ k := by
  obtain ⟨k, h1, h2, h3⟩ := cut_at (es.map encE) m
  rw [List.length_map] at h1
  have ht := Fr.torn (es.map encE) (Good.frames h) m k (by rw [List.length_map]; exact h1) h2 hm h3
  have hl : ((Fr.putP (es.map encE)).take m).length = m := by rw [List.length_take]; omega
  refine ⟨k, h1, ?_, by rw [List.map_take]; exact h2, ?_⟩
  · unfold loadL
    rw [hl, ht]
    simp only
    rw [← List.map_take]
    exact log_put n i 0 _ (h.take k)
  · intro j hj hjm
    rcases Nat.lt_or_ge k j with hlt | hge
    · exfalso
      have hke : k < (es.map encE).length := by rw [List.length_map]; omega
      have h4 := h3 _ (List.getElem?_eq_getElem hke)
      have h5 := put_mono (es.map encE) (show k + 1 ≤ j by omega)
      rw [List.map_take] at hjm
      have e : (es.map encE).take (k + 1) = (es.map encE).take k ++ [(es.map encE)[k]] := by
        rw [List.take_add_one, List.getElem?_eq_getElem hke]; rfl
      rw [e, Fr.putP_append, List.length_append, Fr.putP_cons, List.length_append, Fr.frameP_len] at h5
      omega
    · exact hge

/-- A text's pieces (fuel). -/
def piecesF : Nat → List UInt8 → List (List UInt8)
  | 0, _ => []
  | f + 1, s => if s = [] then [] else s.take 1000 :: piecesF f (s.drop 1000)
def pieces (s : List UInt8) : List (List UInt8) := piecesF s.length s

/-- The last file's bytes, of a text. -/
def textP (s : List UInt8) : List UInt8 := Fr.putP (pieces s ++ [[]])

/-- What Told tells of the last file's bytes. -/
def toldP (B : List UInt8) : Option (List UInt8) :=
  if (Fr.allP B (B.length + 1) 0).1.flatten.length ≤ 65536 ∧ textP (Fr.allP B (B.length + 1) 0).1.flatten = B then some (Fr.allP B (B.length + 1) 0).1.flatten else none

theorem piecesF_ok : ∀ (f : Nat) (s : List UInt8), s.length ≤ f → (piecesF f s).flatten = s ∧ ∀ b ∈ piecesF f s, 0 < b.length ∧ b.length ≤ 1000
  | 0, s, h => by
    have : s = [] := List.eq_nil_of_length_eq_zero (by omega)
    subst this
    exact ⟨rfl, fun b hb => by cases hb⟩
  | f + 1, s, h => by
    unfold piecesF
    by_cases hs : s = []
    · rw [if_pos hs, hs]
      exact ⟨rfl, fun b hb => by cases hb⟩
    · rw [if_neg hs]
      have hp : 0 < s.length := by cases s with | nil => exact absurd rfl hs | cons c l => simp
      obtain ⟨h1, h2⟩ := piecesF_ok f (s.drop 1000) (by rw [List.length_drop]; omega)
      refine ⟨by rw [List.flatten_cons, h1, List.take_append_drop], ?_⟩
      intro b hb
      rcases List.mem_cons.1 hb with rfl | hb
      · rw [List.length_take]; omega
      · exact h2 b hb

theorem pieces_flat (s : List UInt8) : (pieces s).flatten = s := (piecesF_ok _ s (Nat.le_refl _)).1
theorem pieces_len (s : List UInt8) : ∀ b ∈ pieces s, 0 < b.length ∧ b.length ≤ 1000 := (piecesF_ok _ s (Nat.le_refl _)).2
theorem text_frames (s : List UInt8) : ∀ b ∈ pieces s ++ [[]], b.length ≤ 1024 := by
  intro b hb
  rcases List.mem_append.1 hb with hb | hb
  · have := pieces_len s b hb; omega
  · simp only [List.mem_cons, List.not_mem_nil, or_false] at hb
    subst hb
    simp

/-- A text that was begun is told. -/
theorem told_text (s : List UInt8) (h : s.length ≤ 65536) : toldP (textP s) = some s := by
  unfold toldP
  have e : (Fr.allP (textP s) ((textP s).length + 1) 0).1.flatten = s := by
    unfold textP
    rw [Fr.all_put _ (text_frames s)]
    simp [pieces_flat]
  rw [e, if_pos ⟨h, rfl⟩]

/-- Frames are read one way alone. -/
theorem put_prefix : ∀ (A C : List (List UInt8)) (r : List UInt8), (∀ b ∈ A, b.length ≤ 1024) → (∀ b ∈ C, b.length ≤ 1024) → Fr.putP A ++ r = Fr.putP C → ∃ D, C = A ++ D
  | [], C, r, _, _, _ => ⟨C, rfl⟩
  | a :: A, [], r, hA, hC, h => by
    exfalso
    have := congrArg List.length h
    rw [Fr.putP_cons, List.length_append, List.length_append, Fr.frameP_len] at this
    simp [Fr.putP] at this
  | a :: A, c :: C, r, hA, hC, h => by
    have ha := hA a (List.mem_cons_self ..)
    have hc := hC c (List.mem_cons_self ..)
    rw [Fr.putP_cons, Fr.putP_cons, List.append_assoc] at h
    have t1 := Fr.takeP_frame [] a (Fr.putP A ++ r) ha
    have t2 := Fr.takeP_frame [] c (Fr.putP C) hc
    rw [h, t2, Prod.mk.injEq] at t1
    have hac : c = a := t1.1
    subst hac
    obtain ⟨D, hD⟩ := put_prefix A C r (fun b hb => hA b (List.mem_cons_of_mem _ hb)) (fun b hb => hC b (List.mem_cons_of_mem _ hb)) (List.append_cancel_left h)
    exact ⟨D, by rw [hD]; rfl⟩

/-- A text whose bytes were torn is told whole, or not at all. -/
theorem told_torn (s x : List UInt8) (m : Nat) (h : toldP ((textP s).take m) = some x) : x = s ∧ (textP s).take m = textP s := by
  unfold toldP at h
  split at h
  · rename_i hc
    have hx := Option.some.inj h
    rw [hx] at hc
    have h1 : textP x ++ (textP s).drop m = textP s := by rw [hc.2, List.take_append_drop]
    unfold textP at h1
    obtain ⟨D, hD⟩ := put_prefix (pieces x ++ [[]]) (pieces s ++ [[]]) _ (text_frames x) (text_frames s) h1
    have hDn : D = [] := by
      cases hd : D with
      | nil => rfl
      | cons d D' =>
        exfalso
        rw [hd] at hD
        have h2 : ([] : List UInt8) ∈ pieces s := by
          have h3 : (pieces s ++ [[]]).dropLast = pieces s := by simp
          rw [← h3, hD]
          have h4 : (pieces x ++ [[]] ++ d :: D').dropLast = pieces x ++ [[]] ++ (d :: D').dropLast := by
            rw [List.dropLast_append_of_ne_nil (by simp)]
          rw [h4]
          simp
        have := (pieces_len s [] h2).1
        simp at this
    rw [hDn, List.append_nil] at hD
    have hps : pieces s = pieces x := List.append_cancel_right hD
    have hsx : x = s := by rw [← pieces_flat x, ← pieces_flat s, hps]
    exact ⟨hsx, by rw [← hc.2, hsx]⟩
  · cases h
end Go.Proofs.YtijkgdbabikojaaGreat

/- The walks over branch's frames and its iterator. -/
namespace Go.Proofs.YtijkgdbabikojaaGreat
open Go.RowKit Go.Shelf
set_option maxRecDepth 1000000
set_option linter.unusedVariables false
attribute [local go_sem] Oper.semAt_some

/-- The frames from a place on (fuel): each with the place behind it. -/
def frF (B : List UInt8) : Nat → Nat → List (List UInt8 × Nat)
  | 0, _ => []
  | f + 1, p => if (Fr.takeP B p).2.2 = 0 then ((Fr.takeP B p).1, (Fr.takeP B p).2.1) :: frF B f (Fr.takeP B p).2.1 else []
def frL (B : List UInt8) : List (List UInt8 × Nat) := frF B (B.length + 1) 0

theorem frF_yes {B : List UInt8} {f p : Nat} (h : (Fr.takeP B p).2.2 = 0) : frF B (f + 1) p = ((Fr.takeP B p).1, (Fr.takeP B p).2.1) :: frF B f (Fr.takeP B p).2.1 := by rw [frF, if_pos h]
theorem frF_no {B : List UInt8} {f p : Nat} (h : ¬ (Fr.takeP B p).2.2 = 0) : frF B (f + 1) p = [] := by rw [frF, if_neg h]

theorem frF_all (B : List UInt8) : ∀ (f p : Nat), (frF B f p).map Prod.fst = (Fr.allP B f p).1
  | 0, p => rfl
  | f + 1, p => by
    by_cases h : (Fr.takeP B p).2.2 = 0
    · rw [frF_yes h, Fr.allP, if_pos h, List.map_cons, frF_all B f]
    · rw [frF_no h, Fr.allP, if_neg h]; rfl
theorem frL_all (B : List UInt8) : (frL B).map Prod.fst = (Fr.allP B (B.length + 1) 0).1 := frF_all B _ _

/-- What frames yields. -/
def encF (x : List UInt8 × Nat) (F : Nat) (W : World) (T : Nat → Prop) (args : Array Value) : Prop := ∃ a c, args = #[.slice a x.1.length c, .int .i64 (x.2 : Nat)] ∧ RB W (.slice a x.1.length c) x.1 ∧ (∀ b, a = some b → b.block < W.heap.size ∧ ¬ T b.block)

theorem frames_any (a : Option Addr) (n c : Nat) (w : World) : Calls Tryz.prog 82 #[.slice a n c] w fun e w' => e = .returned (.func (.func 106) #[] #[.pointer (some ⟨w.heap.size, 0, none⟩)]) ∧ w' = w.alloc (.cells #[.slice a n c] 34) := by
  go_enter Tryz.func82, Tryz.ntmps82
  go_wp2_with fail
  go_ret
  exact ⟨rfl, rfl⟩

/-- What is known between two frames. -/
structure FSt (n0 A : Nat) (bv : Value) (B : List UInt8) (J : Nat → World → (Nat → Prop) → Prop) (W0 : World) (T : Nat → Prop) (k : Nat) (Wr : World) : Prop where
  j : J k Wr T
  box : Boxed Wr A 34 bv
  rb : RB Wr bv B
  tA : T A
  tb : ∀ a n c, bv = .slice (some a) n c → 0 < B.length → (a.block < n0 ∨ T a.block)
  own : ∀ b, T b → b < Wr.heap.size
  le : n0 ≤ Wr.heap.size

/-- Bytes stay where their block does. -/
theorem RB.stay {w w' : World} {v : Value} {l : List UInt8} (h : RB w v l) (hk : ∀ a n c, v = .slice (some a) n c → 0 < l.length → a.block < w.heap.size → w'.heap[a.block]? = w.heap[a.block]?) : RB w' v l := by
  obtain ⟨a, cap, rfl, h1, h2, h3, hc⟩ := h
  refine ⟨a, cap, rfl, h1, h2, h3, fun i hi => ?_⟩
  obtain ⟨b, off, rfl, hcell⟩ := hc i hi
  refine ⟨b, off, rfl, ?_⟩
  have hlt : b < w.heap.size := World.block_lt_of_cell? w ⟨b, off + i, none⟩ hcell
  rw [World.cell?_of_block (w := w) (a := ⟨b, off + i, none⟩) (hk ⟨b, off, none⟩ _ _ rfl (by omega) hlt)]
  exact hcell

section
variable {n0 A : Nat} {bv : Value} {B : List UInt8} {J : Nat → World → (Nat → Prop) → Prop} {W0 : World} {T : Nat → Prop} {k : Nat} {Wr : World}

theorem FSt.below (h : FSt n0 A bv B J W0 T k Wr) (hJ : ∀ k A TA B TB, J k A TA → Mv TA A TB B → J k B TB) {W' : World} (hb : Below Wr.heap.size Wr W') : FSt n0 A bv B J W0 T k W' :=
  ⟨hJ _ _ _ _ _ h.j (Mv.of_below hb), (hb.block A h.box.lt).trans h.box, h.rb.later hb, h.tA, h.tb, fun b hb2 => Nat.lt_of_lt_of_le (h.own b hb2) hb.size, Nat.le_trans h.le hb.size⟩

theorem FSt.round (h : FSt n0 A bv B J W0 T k Wr) {W' : World} {k' : Nat} (hj : J k' W' T) (hr : Rv n0 T Wr W') : FSt n0 A bv B J W0 T k' W' :=
  ⟨hj, (hr.keep A h.tA h.box.lt).trans h.box, h.rb.stay (fun a n c he hl hlt => (h.tb a n c he hl).elim (fun h1 => hr.low _ h1) (fun h1 => hr.keep _ h1 hlt)), h.tA, h.tb, fun b hb2 => Nat.lt_of_lt_of_le (h.own b hb2) hr.size, Nat.le_trans h.le hr.size⟩
end

theorem owns_enc {w : World} {B0 n : Nat} {v : Value} {l : List UInt8} (h : w.ownsRow B0 5 1 v n (Fr.bvs l)) (hn : n = l.length) : ∃ a c, v = .slice a l.length c ∧ RB w (.slice a l.length c) l ∧ ∀ b, a = some b → B0 ≤ b.block ∧ b.block < w.heap.size := by
  have hrb : RB w v l := Fr.RB.of_owns h hn
  obtain ⟨a, c, rfl, rest⟩ := hrb
  refine ⟨a, c, rfl, ⟨a, c, rfl, rest⟩, fun b hb => ?_⟩
  subst hb
  rcases h.2 with ⟨he, _⟩ | ⟨g, cap, cur, he, _⟩
  · cases he
  · cases he
    exact World.ownsRow.lt h g rfl

theorem getElem_of_drop {α : Type} {xs r : List α} {k : Nat} {x : α} (h : xs.drop k = x :: r) : xs[k]? = some x ∧ xs.drop (k + 1) = r ∧ k < xs.length := by
  have h1 : (xs.drop k)[0]? = some x := by rw [h]; rfl
  rw [List.getElem?_drop, Nat.add_zero] at h1
  refine ⟨h1, ?_, (List.getElem?_eq_some_iff.1 h1).1⟩
  rw [← List.drop_drop, h]
  rfl

set_option maxHeartbeats 4000000 in
theorem frames_itr (A : Nat) (bv : Value) (B : List UInt8) (n0 : Nat) (T : Nat → Prop) (w : World) (hA : Boxed w A 34 bv) (hrb : RB w bv B) (hl : B.length ≤ 100000) (tA : T A) (tb : ∀ a n c, bv = .slice (some a) n c → 0 < B.length → (a.block < n0 ∨ T a.block)) (hown : ∀ b, T b → b < w.heap.size) (hle : n0 ≤ w.heap.size) :
    Itr Tryz.prog 106 #[.pointer (some ⟨A, 0, none⟩)] encF (frL B) n0 T w := by
  intro l J Jx W hW hJ hJx hY hJ0
  have H0 : Hid (FSt n0 A bv B J W T 0 W) := ⟨hJ0, (hW.block A hA.lt).trans hA, hrb.later hW, tA, tb, fun b hb => Nat.lt_of_lt_of_le (hown b hb) hW.size, Nat.le_trans hle hW.size⟩
  have HJ : Hid _ := hJ
  have HY : Hid _ := hY
  have HT : Hid (∀ (p : Nat) (wx : World), RB wx bv B → p ≤ B.length → Calls Tryz.prog 107 #[bv, .int .i64 p] wx fun e w' => Below wx.heap.size wx w' ∧ ∃ v, e = .returned (.tuple #[v, .int .i64 ((Fr.takeP B p).2.1 : Nat), .int .i64 ((Fr.takeP B p).2.2 : Nat)]) ∧ w'.ownsRow wx.heap.size 5 1 v (Fr.takeP B p).1.length (Fr.bvs (Fr.takeP B p).1)) := fun p wx h hp => Fr.take_any bv B p wx h hp hl
  obtain ⟨xs, HX⟩ : ∃ xs, Hid (xs = frL B) := ⟨_, rfl⟩
  rw [← HX.out] at HY ⊢
  obtain ⟨a, c, rfl, q1, q2, q3, q4⟩ := hrb
  clear q1 q2 q3 q4
  obtain ⟨R, HR⟩ : ∃ R : Ending → World → Prop, Hid (R = fun e W2 => ∃ v T2, e = .returned v ∧ (J xs.length W2 T2 ∨ ∃ k, k < xs.length ∧ Jx (k + 1) W2 T2) ∧ (∀ b, b < W.heap.size → (T2 b ↔ T b)) ∧ (∀ b, T2 b → b < W2.heap.size)) := ⟨_, rfl⟩
  rw [← HR.out]
  generalize hbn : B.length = bn at *
  have HBn : Hid (B.length = bn) := hbn
  have hN : bn ≤ 100000 := hl
  clear hA tb hown hle hW hJ hJx hY hJ0 tA hl hbn
  refine callsIn_of_wp Tryz.func106 rfl trivial ?_ rfl
  simp only [Tryz.ntmps106, List.size_toArray, List.length_cons, List.length_nil, Nat.reduceAdd, Nat.reduceSub, Array.replicate_succ, Array.replicate_zero, List.push_toArray, List.append_toArray, List.nil_append, List.cons_append]
  gi_wp2
  gi_loopw [3] (fun iv wr => ∃ (k p : Nat), iv = .int .i64 p ∧ p ≤ bn ∧ Hid (FSt n0 A (.slice a bn c) B J W T k wr) ∧ Hid (∃ f, bn + 1 ≤ f + p ∧ xs.drop k = frF B f p ∧ k ≤ xs.length)) (fun iv _ => bn - (intOf iv).toNat)
  case atStart => exact ⟨0, 0, rfl, Nat.zero_le _, H0, bn + 1, by omega, by rw [HX.out, ← HBn.out]; rfl, Nat.zero_le _⟩
  case round =>
    obtain ⟨k, p, rfl, hp, HF, HD⟩ := hrel
    have cA := HF.out.box.cell
    have HC : Hid _ := HT.out p wr HF.out.rb hp
    gi_wp2
    refine ⟨trivial, rfl, (callsIn_wide.2 HC.out).mono ?_⟩
    rintro e w2 ⟨hb2, v, rfl, ho2⟩
    have HF2 : Hid _ := HF.out.below HJ.out hb2
    obtain ⟨va, vc, rfl, hrv, hva⟩ := owns_enc ho2 rfl
    have HV : Hid _ := hrv
    have HVA : Hid (∀ b, va = some b → b.block < w2.heap.size ∧ ¬ T b.block) := fun b hb => ⟨(hva b hb).2, fun ht => by have := (hva b hb).1; have := HF.out.own _ ht; omega⟩
    clear hrv hva ho2 hb2 cA HC
    obtain ⟨f, hf, hd, hk⟩ := HD.out
    obtain ⟨f', rfl⟩ : ∃ f', f = f' + 1 := ⟨f - 1, by omega⟩
    by_cases hz : (Fr.takeP B p).2.2 = 0
    · rw [frF_yes hz] at hd
      obtain ⟨h1, h2, h3⟩ := getElem_of_drop hd
      have hnx := Fr.takeP_next hz
      rw [HBn.out] at hnx
      have HD2 : Hid (∃ f, bn + 1 ≤ f + (Fr.takeP B p).2.1 ∧ xs.drop (k + 1) = frF B f (Fr.takeP B p).2.1 ∧ k + 1 ≤ xs.length) := ⟨f', by omega, h2, h3⟩
      obtain ⟨fnn, tms, asg, bdy, hy, hR⟩ := HY.out k _ _ w2.heap.size w2 T h1 ⟨va, vc, rfl, HV.out, HVA.out⟩ ⟨w2, T, HF2.out.j, rfl, Mv.refl _ _⟩ HF2.out.j HF2.out.own 0
      have HH3 : Hid (k < xs.length) := h3
      have hpn : p < (Fr.takeP B p).2.1 ∧ (Fr.takeP B p).2.1 ≤ bn := ⟨by omega, by omega⟩
      rw [hz]
      clear hd h1 h2 h3 hnx HV HVA hf hk
      generalize (Fr.takeP B p).1 = bd at *
      generalize (Fr.takeP B p).2.1 = q at *
      obtain ⟨hpq, hqn⟩ := hpn
      gi_wp2
      refine ⟨rfl, hR.mono ?_⟩
      rintro e W3 ⟨t, rfl, ht1, ht2, hrv⟩
      cases t with
      | true =>
        have HF3 : Hid _ := HF2.out.round (ht1 rfl) hrv
        clear ht1 ht2 hrv hy hR HF2 HF HD
        gi_wp2
        go_roundw
        case rel => exact ⟨k + 1, q, rfl, hqn, HF3, HD2⟩
        case measure => simp [intOf]; omega
      | false =>
        have HJ3 : Hid _ := ht2 rfl
        have HF3 : Hid (∀ b, T b → b < W3.heap.size) := fun b hb => Nat.lt_of_lt_of_le (HF2.out.own b hb) hrv.size
        clear ht1 ht2 hrv hy hR HF2 HF HD
        gi_wp2
        refine bodyPost_ret (results_none rfl _ _ _) rfl ?_
        rw [HR.out]
        exact ⟨_, T, rfl, .inr ⟨k, HH3.out, HJ3.out⟩, fun _ _ => Iff.rfl, HF3.out⟩
    · rw [frF_no hz] at hd
      have HKX : Hid (k = xs.length) := by
        show k = xs.length
        have := congrArg List.length hd
        rw [List.length_drop] at this
        simp at this
        omega
      have hz2 : ((((Fr.takeP B p).2.2 : Nat) : Int) != 0) = true := by simpa using hz
      clear hd hf hk
      generalize (Fr.takeP B p).1 = bd at *
      generalize (Fr.takeP B p).2.1 = q at *
      generalize (Fr.takeP B p).2.2 = E at *
      gi_wp2
      refine ⟨fun f h => (by cases h), ?_⟩
      gi_wp2
      refine bodyPost_ret (results_none rfl _ _ _) rfl ?_
      rw [HR.out]
      refine ⟨_, T, rfl, .inl ?_, fun _ _ => Iff.rfl, HF2.out.own⟩
      have := HF2.out.j
      rw [HKX.out] at this
      exact this
end Go.Proofs.YtijkgdbabikojaaGreat

/- The walks over branch's pieces and its iterator. -/
namespace Go.Proofs.YtijkgdbabikojaaGreat
open Go.RowKit Go.Shelf
set_option maxRecDepth 1000000
set_option linter.unusedVariables false
attribute [local go_sem] Oper.semAt_some

/-- What pieces yields. -/
def encB (x : List UInt8) (F : Nat) (W : World) (T : Nat → Prop) (args : Array Value) : Prop := ∃ a c, args = #[.slice a x.length c] ∧ RB W (.slice a x.length c) x

theorem pieces_any (a : Option Addr) (n c : Nat) (w : World) : Calls Tryz.prog 85 #[.slice a n c] w fun e w' => e = .returned (.func (.func 110) #[] #[.pointer (some ⟨w.heap.size, 0, none⟩)]) ∧ w' = w.alloc (.cells #[.slice a n c] 34) := by
  go_enter Tryz.func85, Tryz.ntmps85
  go_wp2_with fail
  go_ret
  exact ⟨rfl, rfl⟩

theorem piecesF_yes {f : Nat} {s : List UInt8} (h : 0 < s.length) : piecesF (f + 1) s = s.take 1000 :: piecesF f (s.drop 1000) := by
  rw [piecesF, if_neg (fun e => by rw [e] at h; simp at h)]
theorem piecesF_nil (f : Nat) : piecesF f [] = [] := by cases f <;> simp [piecesF]

theorem piece_mid {w : World} {a : Option Addr} {n ca : Nat} {l : List UInt8} (h : RB w (.slice a n ca) l) (lo hi : Nat) (h1 : lo ≤ hi) (h2 : hi ≤ l.length) (e : Int) (he : e = hi) (x : List UInt8) (hx : (l.take hi).drop lo = x) :
    ∃ va vc, RB w (.slice va x.length vc) x ∧ ∀ wx : World, (Instr.sliceAt 34 (.slice a n ca) (some (.int .i64 lo)) (some (.int .i64 e)) (some (.int .i64 e))).run Tryz.prog wx = .ok (.slice va x.length vc) wx := by
  obtain ⟨V, hv, hr⟩ := Fr.slice_mid h lo hi h1 h2 e he
  rw [hx] at hv
  have hv2 : RB w V x := hv
  obtain ⟨va, vc, rfl, rest⟩ := hv2
  exact ⟨va, vc, ⟨va, vc, rfl, rest⟩, hr⟩

set_option maxHeartbeats 4000000 in
theorem pieces_itr (A : Nat) (bv : Value) (B : List UInt8) (n0 : Nat) (T : Nat → Prop) (w : World) (hA : Boxed w A 34 bv) (hrb : RB w bv B) (hl : B.length ≤ 100000) (tA : T A) (tb : ∀ a n c, bv = .slice (some a) n c → 0 < B.length → (a.block < n0 ∨ T a.block)) (hown : ∀ b, T b → b < w.heap.size) (hle : n0 ≤ w.heap.size) :
    Itr Tryz.prog 110 #[.pointer (some ⟨A, 0, none⟩)] encB (pieces B) n0 T w := by
  intro l J Jx W hW hJ hJx hY hJ0
  have H0 : Hid (FSt n0 A bv B J W T 0 W) := ⟨hJ0, (hW.block A hA.lt).trans hA, hrb.later hW, tA, tb, fun b hb => Nat.lt_of_lt_of_le (hown b hb) hW.size, Nat.le_trans hle hW.size⟩
  have HJ : Hid _ := hJ
  have HY : Hid _ := hY
  obtain ⟨xs, HX⟩ : ∃ xs, Hid (xs = pieces B) := ⟨_, rfl⟩
  rw [← HX.out] at HY ⊢
  obtain ⟨a, c, rfl, q1, q2, q3, q4⟩ := hrb
  clear q1 q2 q3 q4
  obtain ⟨R, HR⟩ : ∃ R : Ending → World → Prop, Hid (R = fun e W2 => ∃ v T2, e = .returned v ∧ (J xs.length W2 T2 ∨ ∃ k, k < xs.length ∧ Jx (k + 1) W2 T2) ∧ (∀ b, b < W.heap.size → (T2 b ↔ T b)) ∧ (∀ b, T2 b → b < W2.heap.size)) := ⟨_, rfl⟩
  rw [← HR.out]
  have HD0 : Hid (xs.drop 0 = piecesF B.length (B.drop 0)) := by rw [HX.out]; rfl
  generalize hbn : B.length = bn at *
  have HBn : Hid (B.length = bn) := hbn
  have hN : bn ≤ 100000 := hl
  clear hA tb hown hle hW hJ hJx hY hJ0 tA hl hbn
  have cA := H0.out.box.cell
  refine callsIn_of_wp Tryz.func110 rfl trivial ?_ rfl
  simp only [Tryz.ntmps110, List.size_toArray, List.length_cons, List.length_nil, Nat.reduceAdd, Nat.reduceSub, Array.replicate_succ, Array.replicate_zero, List.push_toArray, List.append_toArray, List.nil_append, List.cons_append]
  gi_wp2
  clear cA
  gi_loopw [3] (fun iv wr => ∃ (k p f : Nat), iv = .int .i64 p ∧ p ≤ bn + 1000 ∧ Hid (FSt n0 A (.slice a bn c) B J W T k wr) ∧ Hid (xs.drop k = piecesF f (B.drop p) ∧ k ≤ xs.length ∧ bn ≤ f + p)) (fun iv _ => bn + 2000 - (intOf iv).toNat)
  case atStart => exact ⟨0, 0, bn, rfl, by omega, H0, HD0.out, Nat.zero_le _, by omega⟩
  case round =>
    obtain ⟨k, p, f, rfl, hp, HF, HD⟩ := hrel
    have cA := HF.out.box.cell
    obtain ⟨hd, hk, hf⟩ := HD.out
    by_cases hlt : p < bn
    · obtain ⟨f', rfl⟩ : ∃ f', f = f' + 1 := ⟨f - 1, by omega⟩
      have hlen : (B.drop p).length = bn - p := by rw [List.length_drop, HBn.out]
      rw [piecesF_yes (by omega)] at hd
      obtain ⟨h1, h2, h3⟩ := getElem_of_drop hd
      rw [List.drop_drop] at h2
      have HD2 : Hid (xs.drop (k + 1) = piecesF f' (B.drop (p + 1000)) ∧ k + 1 ≤ xs.length ∧ bn ≤ f' + (p + 1000)) := ⟨h2, h3, by omega⟩
      have HH3 : Hid (k < xs.length) := h3
      have HX1 : Hid _ := h1
      clear hd h1 h2 h3 hk hf HD
      by_cases hm : p + 1000 ≤ bn
      · have hx : (B.take (p + 1000)).drop p = (B.drop p).take 1000 := by
          rw [List.drop_take, List.take_eq_take_iff, hlen]
          omega
        obtain ⟨va, vc, hrv, hsl⟩ := piece_mid HF.out.rb p (p + 1000) (by omega) (by have := HBn.out; omega) ((p : Int) + 1000) (by omega) _ hx
        obtain ⟨fnn, tms, asg, bdy, hy, hR⟩ := HY.out k _ _ wr.heap.size wr T HX1.out ⟨va, vc, rfl, hrv⟩ ⟨wr, T, HF.out.j, rfl, Mv.refl _ _⟩ HF.out.j HF.out.own 0
        have hm2 : ¬ ((bn : Int) < (p : Int) + 1000) := by omega
        have hm3 : ((p : Int) + 1000 ≤ (bn : Int)) := by omega
        clear hrv hlen hx HX1
        generalize (B.drop p).take 1000 = x at *
        gi_wp2
        refine ⟨rfl, hR.mono ?_⟩
        rintro e W3 ⟨t, rfl, ht1, ht2, hrv⟩
        cases t with
        | true =>
          have HF3 : Hid _ := HF.out.round (ht1 rfl) hrv
          clear ht1 ht2 hrv hy hR HF hsl
          gi_wp2
          go_roundw
          case rel => exact ⟨k + 1, p + 1000, f', by go_num, by omega, HF3, HD2⟩
          case measure => simp [intOf]; omega
        | false =>
          have HJ3 : Hid _ := ht2 rfl
          have HF3 : Hid (∀ b, T b → b < W3.heap.size) := fun b hb => Nat.lt_of_lt_of_le (HF.out.own b hb) hrv.size
          clear ht1 ht2 hrv hy hR HF hsl
          gi_wp2
          refine bodyPost_ret (results_none rfl _ _ _) rfl ?_
          rw [HR.out]
          exact ⟨_, T, rfl, .inr ⟨k, HH3.out, HJ3.out⟩, fun _ _ => Iff.rfl, HF3.out⟩
      · have hx : (B.take bn).drop p = (B.drop p).take 1000 := by
          rw [List.drop_take, List.take_eq_take_iff, hlen]
          omega
        obtain ⟨va, vc, hrv, hsl⟩ := piece_mid HF.out.rb p bn (by omega) (by have := HBn.out; omega) (bn : Int) rfl _ hx
        obtain ⟨fnn, tms, asg, bdy, hy, hR⟩ := HY.out k _ _ wr.heap.size wr T HX1.out ⟨va, vc, rfl, hrv⟩ ⟨wr, T, HF.out.j, rfl, Mv.refl _ _⟩ HF.out.j HF.out.own 0
        have hm2 : ((bn : Int) < (p : Int) + 1000) := by omega
        have hm3 : ¬ ((p : Int) + 1000 ≤ (bn : Int)) := by omega
        clear hrv hlen hx HX1
        generalize (B.drop p).take 1000 = x at *
        gi_wp2
        refine ⟨rfl, hR.mono ?_⟩
        rintro e W3 ⟨t, rfl, ht1, ht2, hrv⟩
        cases t with
        | true =>
          have HF3 : Hid _ := HF.out.round (ht1 rfl) hrv
          clear ht1 ht2 hrv hy hR HF hsl
          gi_wp2
          go_roundw
          case rel => exact ⟨k + 1, p + 1000, f', by go_num, by omega, HF3, HD2⟩
          case measure => simp [intOf]; omega
        | false =>
          have HJ3 : Hid _ := ht2 rfl
          have HF3 : Hid (∀ b, T b → b < W3.heap.size) := fun b hb => Nat.lt_of_lt_of_le (HF.out.own b hb) hrv.size
          clear ht1 ht2 hrv hy hR HF hsl
          gi_wp2
          refine bodyPost_ret (results_none rfl _ _ _) rfl ?_
          rw [HR.out]
          exact ⟨_, T, rfl, .inr ⟨k, HH3.out, HJ3.out⟩, fun _ _ => Iff.rfl, HF3.out⟩
    · have HKX : Hid (k = xs.length) := by
        show k = xs.length
        rw [List.drop_of_length_le (l := B) (i := p) (by have := HBn.out; omega), piecesF_nil] at hd
        have := congrArg List.length hd
        rw [List.length_drop] at this
        simp at this
        omega
      clear hd hk hf HD
      gi_wp2
      go_end0
      rw [HR.out]
      refine ⟨_, T, rfl, .inl ?_, fun _ _ => Iff.rfl, HF.out.own⟩
      have := HF.out.j
      rw [HKX.out] at this
      exact this
end Go.Proofs.YtijkgdbabikojaaGreat

