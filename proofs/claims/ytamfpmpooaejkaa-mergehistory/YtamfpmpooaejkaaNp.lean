/- What the calls answer, in the events' own terms. -/
import Derived.Test.YtamfpmpooaejkaaNo
namespace Go.Proofs.Ytamfpmpooaejkaa
open Go.RowKit Go.Shelf
set_option maxRecDepth 1000000
set_option linter.unusedVariables false

section
variable {α β : Type} (g : α → β) (st : β → List Int)
theorem brs_map : ∀ (h : List α) (had : List Nat), Mg.brs (fun a => st (g a)) had h = Mg.brs st had (h.map g)
  | [], had => rfl
  | e :: h, had => by
    rw [List.map_cons, Mg.brs, Mg.brs]
    cases Mg.own had (st (g e)) with
    | none => rfl
    | some i => simp only; rw [brs_map h]
theorem part_map (i : Nat) : ∀ (h : List α) (bs : List Nat), (Mg.part i h bs).map g = Mg.part i (h.map g) bs
  | [], bs => by cases bs <;> rfl
  | e :: h, [] => rfl
  | e :: h, b :: bs => by
    rw [List.map_cons, Mg.part, Mg.part]
    split
    · rw [List.map_cons, part_map i h bs]
    · rw [part_map i h bs]
theorem getD_map (l : List (List α)) (i : Nat) : (l.map (List.map g)).getD i [] = (l.getD i []).map g := by
  rw [List.getD_eq_getElem?_getD, List.getElem?_map, List.getD_eq_getElem?_getD]
  cases l[i]? <;> rfl
theorem canB_map (l : List (List α)) (had : List Nat) (i : Nat) : Mg.canB (fun a => st (g a)) l had i = Mg.canB st (l.map (List.map g)) had i := by
  unfold Mg.canB
  rw [getD_map, List.getElem?_map]
  cases (l.getD i [])[had.getD i 0]? <;> rfl
theorem pick_map (l : List (List α)) (had : List Nat) : Mg.pick (fun a => st (g a)) l had = Mg.pick st (l.map (List.map g)) had := by
  unfold Mg.pick
  rw [List.length_map]
  congr 1
  funext i
  exact canB_map g st l had i
theorem mrg_map (l : List (List α)) : ∀ (f : Nat) (had : List Nat), (Mg.mrg (fun a => st (g a)) l f had).1.map g = (Mg.mrg st (l.map (List.map g)) f had).1 ∧ (Mg.mrg (fun a => st (g a)) l f had).2 = (Mg.mrg st (l.map (List.map g)) f had).2
  | 0, had => ⟨rfl, rfl⟩
  | f + 1, had => by
    rw [Mg.mrg, Mg.mrg, pick_map]
    cases hp : Mg.pick st (l.map (List.map g)) had with
    | none => exact ⟨rfl, rfl⟩
    | some i =>
      simp only
      rw [getD_map, List.getElem?_map]
      cases (l.getD i [])[had.getD i 0]? with
      | none => exact ⟨rfl, rfl⟩
      | some e =>
        obtain ⟨h1, h2⟩ := mrg_map l f (Mg.bump had i)
        simp only [Option.map_some, List.map_cons, h1, h2]
        exact ⟨trivial, trivial⟩
theorem tot_map (l : List (List α)) : Mg.tot (l.map (List.map g)) = Mg.tot l := by
  unfold Mg.tot
  rw [List.map_map]
  congr 2
  funext x
  simp
theorem mer_map (l : List (List α)) : (Mg.mer (fun a => st (g a)) l).1.map g = (Mg.mer st (l.map (List.map g))).1 ∧ (Mg.mer (fun a => st (g a)) l).2 = (Mg.mer st (l.map (List.map g))).2 := by
  unfold Mg.mer
  rw [tot_map, List.length_map]
  exact mrg_map g st l _ _
end

def evS (e : Ev) : List Int := e.s
theorem stE_ev : (fun p : EvP => evS (Prod.fst p)) = stE := rfl

/-- Is it a history? -/
def hist (n : Int) (H : List Ev) : Bool := decide (1 ≤ n ∧ n ≤ 64) && (Mg.brs evS (List.replicate n.toNat 0) H).isSome
/-- Each branch's events of a history. -/
def prts (n : Nat) (H : List Ev) : List (List Ev) := (List.range n).map (fun i => Mg.part i H ((Mg.brs evS (List.replicate n 0) H).getD []))
def mgH (R : List (List Ev)) : List Ev := if 1 ≤ R.length ∧ R.length ≤ 64 then (Mg.mer evS R).1 else []
def mgN (R : List (List Ev)) : List Int := if 1 ≤ R.length ∧ R.length ≤ 64 then hadZ (Mg.mer evS R).2.2 else []
def ahd (H : List Ev) (i k : Int) : Bool := if 0 ≤ i ∧ i < (H.length : Int) ∧ 0 ≤ k ∧ k < (H.length : Int) then rankZ (H.getD i.toNat Ev.none).s (H.getD k.toNat Ev.none).s == 1 else false

theorem histB_ev (n : Int) (Hs : List EvP) : histB n Hs = hist n (Hs.map Prod.fst) := by
  unfold histB hist
  congr 1
  rw [← brs_map Prod.fst evS, stE_ev, pt_brs]
  unfold ptN
  by_cases h : (pt stE (List.replicate n.toNat 0) Hs).length = Hs.length
  · rw [decide_eq_true h, if_pos h]; rfl
  · rw [decide_eq_false h, if_neg h]; rfl

theorem part_zip (i : Nat) : ∀ (xs : List (Nat × EvP)), Mg.part i (xs.map Prod.snd) (xs.map Prod.fst) = (xs.filter (fun x => x.1 == i)).map Prod.snd
  | [] => rfl
  | x :: xs => by
    rw [List.map_cons, List.map_cons, Mg.part, part_zip i xs]
    by_cases h : x.1 = i
    · rw [if_pos h, List.filter_cons_of_pos (by simpa using h), List.map_cons]
    · rw [if_neg h, List.filter_cons_of_neg (by simpa using h)]

theorem prts_ev (n : Nat) (Hs : List EvP) (h : histB (n : Int) Hs = true) : partsK n (ptN (n : Int) Hs) (ptN (n : Int) Hs).length = prts n (Hs.map Prod.fst) := by
  unfold partsK prts
  unfold histB at h
  rw [Bool.and_eq_true] at h
  have hl := of_decide_eq_true h.2
  have hb : Mg.brs evS (List.replicate n 0) (Hs.map Prod.fst) = some ((ptN (n : Int) Hs).map Prod.fst) := by
    rw [← brs_map Prod.fst evS, stE_ev, pt_brs]
    unfold ptN at hl ⊢
    rw [Int.toNat_natCast] at hl ⊢
    rw [if_pos hl]
  have he : (ptN (n : Int) Hs).map Prod.snd = Hs := by
    have := pt_ev stE Hs (List.replicate (n : Int).toNat 0)
    unfold ptN at hl ⊢
    rw [this, hl, List.take_length]
  congr 1
  funext i
  have hz := part_zip i (ptN (n : Int) Hs)
  rw [he] at hz
  rw [hb, Option.getD_some, List.take_length, ← part_map, hz, List.map_map]
  rfl

theorem mgH_ev (L : List (List EvP)) (h : 1 ≤ L.length ∧ L.length ≤ 64) : evsK (mseq stE L) (mseq stE L).length = mgH (L.map (List.map Prod.fst)) := by
  unfold mgH
  rw [List.length_map, if_pos h, ← (mer_map Prod.fst evS L).1, stE_ev, ← mseq_ev, List.map_map]
  unfold evsK
  rw [List.take_length]
  rfl
theorem mgN_ev (L : List (List EvP)) (h : 1 ≤ L.length ∧ L.length ≤ 64) : hadZ (hadK L.length (mseq stE L) (mseq stE L).length) = mgN (L.map (List.map Prod.fst)) := by
  unfold mgN
  rw [List.length_map, if_pos h, ← (mer_map Prod.fst evS L).2, stE_ev, (Mg.mer_ok stE L).2.1, ← mseq_br]
  unfold hadK brsK
  rw [List.take_length]
theorem mgN_len (R : List (List Ev)) (h : 1 ≤ R.length ∧ R.length ≤ 64) : (mgN R).length = R.length := by
  unfold mgN
  rw [if_pos h, hadZ_len]
  exact (Mg.mer_ok evS R).2.2.2.1
theorem ahd_ev (Hs : List EvP) (i k : Int) : ahdB Hs i k = ahd (Hs.map Prod.fst) i k := by
  unfold ahdB ahd
  rw [List.length_map]
  split
  · rename_i h
    have g : ∀ j : Nat, j < Hs.length → stE (Hs.getD j (Ev.none, .slice none 0 0)) = ((Hs.map Prod.fst).getD j Ev.none).s := fun j hj => by
      rw [List.getD_eq_getElem?_getD, List.getD_eq_getElem?_getD, List.getElem?_map, List.getElem?_eq_getElem hj]
      rfl
    rw [g i.toNat (by omega), g k.toNat (by omega)]
  · rfl

/-- What Merge answers, the program's and the document's. -/
def MrgC (R : List (List Ev)) (w : World) (e : Ending) (w' : World) : Prop :=
  ∃ va vc na nc, e = .returned (.tuple #[.slice va (mgH R).length vc, .slice na (mgN R).length nc]) ∧ RE w' (.slice va (mgH R).length vc) (mgH R) ∧ (∀ x ∈ mgH R, x.s.length ≤ 1000000) ∧ RI w' (.slice na (mgN R).length nc) (mgN R) ∧ Below w.heap.size w w'

theorem mrg_of {L : List (List EvP)} {w w' : World} {e : Ending} (h : 1 ≤ L.length ∧ L.length ≤ 64) (hc : MergeC L w e w') : MrgC (L.map (List.map Prod.fst)) w e w' := by
  obtain ⟨va, vc, na, nc, he, ⟨N, T, hlog⟩, hri, hb⟩ := hc
  have e1 := mgH_ev L h
  have e2 := mgN_ev L h
  have l1 : (mseq stE L).length = (mgH (L.map (List.map Prod.fst))).length := by rw [← e1, evsK_len (Nat.le_refl _)]
  have l2 : L.length = (mgN (L.map (List.map Prod.fst))).length := by rw [mgN_len _ (by rw [List.length_map]; exact h), List.length_map]
  obtain ⟨r1, r2⟩ := hlog.re
  rw [e1] at r1 r2
  rw [e2] at hri
  rw [l1] at he r1
  rw [l2] at he hri
  exact ⟨va, vc, na, nc, he, r1, r2, hri, hb⟩

theorem mrg_nil {R : List (List Ev)} (h : ¬ (1 ≤ R.length ∧ R.length ≤ 64)) (w : World) : MrgC R w (.returned (.tuple #[.slice none 0 0, .slice none 0 0])) w := by
  have e1 : mgH R = [] := by unfold mgH; rw [if_neg h]
  have e2 : mgN R = [] := by unfold mgN; rw [if_neg h]
  unfold MrgC
  rw [e1, e2]
  exact ⟨none, 0, none, 0, rfl, ⟨none, 0, rfl, Nat.le_refl _, by unfold maxLen; omega, by simp⟩, by simp, RI.nil _, Below.refl _ _⟩

theorem c_merge (lv : Value) (R : List (List Ev)) (w : World) (hl : RRE w lv R) (ht : Mg.tot R ≤ 100000) : Calls Try.prog 11 #[lv] w fun e w' => MrgC R w e w' := by
  obtain ⟨L, rfl, hL⟩ := hl.rev
  rw [tot_map] at ht
  by_cases h : 1 ≤ L.length ∧ L.length ≤ 64
  · exact Calls.mono (merge_in lv L w hL h.1 h.2 ht) fun e w' hc => mrg_of h hc
  · obtain ⟨a, c, rfl⟩ := hL.slice
    refine Calls.mono (merge_out a L.length c w h) ?_
    rintro e w1 ⟨rfl, h1⟩
    obtain rfl := h1.symm
    exact mrg_nil (by rw [List.length_map]; exact h) w
theorem c_rmerge (lv : Value) (R : List (List Ev)) (w : World) (hl : RRE w lv R) (ht : Mg.tot R ≤ 100000) : Calls Try.prog 12 #[lv] w fun e w' => MrgC R w e w' := by
  obtain ⟨L, rfl, hL⟩ := hl.rev
  rw [tot_map] at ht
  by_cases h : 1 ≤ L.length ∧ L.length ≤ 64
  · exact Calls.mono (rmerge_in lv L w hL h.1 h.2 ht) fun e w' hc => mrg_of h hc
  · obtain ⟨a, c, rfl⟩ := hL.slice
    refine Calls.mono (rmerge_out a L.length c w h) ?_
    rintro e w1 ⟨rfl, h1⟩
    obtain rfl := h1.symm
    exact mrg_nil (by rw [List.length_map]; exact h) w

def chkN (n : Int) (H : List Ev) : Nat := if hist n H then 0 else 2
theorem c_check (hv : Value) (H : List Ev) (n : Int) (w : World) (hh : RE w hv H) (hl : H.length ≤ 100000) : Calls Try.prog 19 #[hv, .int .i64 n] w fun e w' => e = .returned (.int .i64 (chkN n H : Nat)) ∧ Below w.heap.size w w' := by
  obtain ⟨Hs, rfl, hH⟩ := hh.rev
  rw [List.length_map] at hl
  have := check_any hv Hs n w hH (by omega)
  unfold chkE at this
  rw [histB_ev] at this
  exact this
theorem c_rcheck (hv : Value) (H : List Ev) (n : Int) (w : World) (hh : RE w hv H) (hl : H.length ≤ 100000) : Calls Try.prog 20 #[hv, .int .i64 n] w fun e w' => e = .returned (.int .i64 (chkN n H : Nat)) ∧ Below w.heap.size w w' := by
  obtain ⟨Hs, rfl, hH⟩ := hh.rev
  rw [List.length_map] at hl
  have := rcheck_any hv Hs n w hH (by omega)
  unfold chkE at this
  rw [histB_ev] at this
  exact this
theorem c_ahead (hv : Value) (H : List Ev) (i k : Int) (w : World) (hh : RE w hv H) : Calls Try.prog 21 #[hv, .int .i64 i, .int .i64 k] w fun e w' => e = .returned (.bool (ahd H i k)) ∧ Below w.heap.size w w' := by
  obtain ⟨Hs, rfl, hH⟩ := hh.rev
  rw [← ahd_ev]
  exact ahead_any hv Hs i k w hH
theorem c_rahead (hv : Value) (H : List Ev) (i k : Int) (w : World) (hh : RE w hv H) : Calls Try.prog 22 #[hv, .int .i64 i, .int .i64 k] w fun e w' => e = .returned (.bool (ahd H i k)) ∧ Below w.heap.size w w' := by
  obtain ⟨Hs, rfl, hH⟩ := hh.rev
  rw [← ahd_ev]
  exact rahead_any hv Hs i k w hH

/-- What Split answers, the program's and the document's. -/
def spl (n : Int) (H : List Ev) : List (List Ev) := if hist n H then prts n.toNat H else []
def SplC (n : Int) (H : List Ev) (w : World) (e : Ending) (w' : World) : Prop :=
  ∃ a c, e = .returned (.tuple #[.slice a (spl n H).length c, .int .i64 (chkN n H : Nat)]) ∧ RRE w' (.slice a (spl n H).length c) (spl n H) ∧ (∀ L ∈ spl n H, ∀ x ∈ L, x.s.length ≤ 1000000) ∧ Below w.heap.size w w'

theorem prts_len (n : Nat) (H : List Ev) : (prts n H).length = n := by simp [prts]

theorem spl_of {n : Nat} {Hs : List EvP} {w w' : World} {e : Ending} (h : histB (n : Int) Hs = true) (hc : SplitC n (ptN (n : Int) Hs) w e w') : SplC (n : Int) (Hs.map Prod.fst) w e w' := by
  obtain ⟨a, he, hr, hf, hb⟩ := hc
  have h2 : hist (n : Int) (Hs.map Prod.fst) = true := by rw [← histB_ev]; exact h
  have e1 : spl (n : Int) (Hs.map Prod.fst) = prts n (Hs.map Prod.fst) := by unfold spl; rw [if_pos h2, Int.toNat_natCast]
  have e2 : chkN (n : Int) (Hs.map Prod.fst) = 0 := by unfold chkN; rw [if_pos h2]
  rw [prts_ev n Hs h] at hr hf
  unfold SplC
  rw [e1, e2, prts_len]
  exact ⟨a, n, he, hr, hf, hb⟩
theorem spl_nil {n : Int} {H : List Ev} (h : hist n H = false) {w w' : World} (hb : Below w.heap.size w w') : SplC n H w (.returned (.tuple #[.slice none 0 0, .int .i64 2])) w' := by
  have e1 : spl n H = [] := by unfold spl; rw [h]; rfl
  have e2 : chkN n H = 2 := by unfold chkN; rw [h]; rfl
  unfold SplC
  rw [e1, e2]
  exact ⟨none, 0, rfl, ⟨none, 0, rfl, Nat.le_refl _, by unfold maxLen; omega, by simp⟩, by simp, hb⟩

theorem hist_n {n : Int} {H : List Ev} (h : hist n H = true) : 1 ≤ n ∧ n ≤ 64 := by
  unfold hist at h
  rw [Bool.and_eq_true] at h
  exact of_decide_eq_true h.1

theorem c_split (hv : Value) (H : List Ev) (n : Int) (w : World) (hh : RE w hv H) (hl : H.length ≤ 100000) : Calls Try.prog 16 #[hv, .int .i64 n] w fun e w' => SplC n H w e w' := by
  obtain ⟨Hs, rfl, hH⟩ := hh.rev
  rw [List.length_map] at hl
  cases h : histB n Hs with
  | true =>
    have hn := hist_n (by rw [← histB_ev]; exact h)
    obtain ⟨k, rfl⟩ : ∃ k : Nat, n = (k : Int) := ⟨n.toNat, by omega⟩
    exact Calls.mono (split_in hv Hs k w hH (by omega) (by omega) hl h) fun e w' hc => spl_of h hc
  | false =>
    refine Calls.mono (split_no hv Hs n w hH hl h) ?_
    rintro e w1 ⟨rfl, hb⟩
    exact spl_nil (by rw [← histB_ev]; exact h) hb
theorem c_rsplit (hv : Value) (H : List Ev) (n : Int) (w : World) (hh : RE w hv H) (hl : H.length ≤ 100000) : Calls Try.prog 17 #[hv, .int .i64 n] w fun e w' => SplC n H w e w' := by
  obtain ⟨Hs, rfl, hH⟩ := hh.rev
  rw [List.length_map] at hl
  cases h : histB n Hs with
  | true =>
    have hn := hist_n (by rw [← histB_ev]; exact h)
    obtain ⟨k, rfl⟩ : ∃ k : Nat, n = (k : Int) := ⟨n.toNat, by omega⟩
    exact Calls.mono (rsplit_in hv Hs k w hH (by omega) (by omega) hl h) fun e w' hc => spl_of h hc
  | false =>
    refine Calls.mono (rsplit_no hv Hs n w hH hl h) ?_
    rintro e w1 ⟨rfl, hb⟩
    exact spl_nil (by rw [← histB_ev]; exact h) hb
end Go.Proofs.Ytamfpmpooaejkaa
