/- The walk over the document's Merge. -/
import Derived.Test.YtamfpmpooaejkaaNl
import Derived.Lib.AppendZeros
namespace Go.Proofs.Ytamfpmpooaejkaa
open Go.RowKit Go.Shelf
set_option maxRecDepth 1000000
set_option linter.unusedVariables false

def lenV : Value → Nat
  | .slice _ n _ => n
  | _ => 0

/-- Where a stamp that came in lies. -/
theorem RI.blk {w : World} {a : Addr} {n c : Nat} {l : List Int} (h : RI w (.slice (some a) n c) l) (hl : 0 < l.length) : a.block < w.heap.size := by
  obtain ⟨a', c', e, _, _, hc⟩ := h
  obtain ⟨b, off, e2, hcell⟩ := hc 0 hl
  cases e
  cases e2
  exact World.block_lt_of_cell? w _ hcell

/-- An event with a stamp that came in, behind those of a row of one's own. -/
theorem log_push {N : Nat} {w0 W : World} {T : Nat → Prop} {v : Value} {L : List Ev} (h : LogR N W T v L) (hL : L.length ≤ 1000000) (hN : N ≤ W.heap.size) (hT : ∀ b, T b → w0.heap.size ≤ b ∧ b < W.heap.size) (hw : w0.heap.size ≤ N) (hbel : Below w0.heap.size w0 W) (e : Ev) (sa : Option Addr) (sc : Nat) (hri : RI w0 (.slice sa e.s.length sc) e.s) (hes : e.s.length ≤ 1000000) :
    ∃ a' c' W3, (Builtin.append_ #[25, 25] 25 #[v, .slice (some ⟨W.heap.size, 0, none⟩) 1 1]).run Try.prog (W.alloc (.cells #[.int .i64 e.k, .int .i64 e.i, .int .i64 e.t, .slice sa e.s.length sc] 45)) = .ok (.slice a' (L.length + 1) c') W3 ∧ LogR N W3 T (.slice a' (L.length + 1) c') (L ++ [e]) ∧ (∀ b, b < W.heap.size → b < N ∨ T b → W3.heap[b]? = W.heap[b]?) ∧ Below w0.heap.size w0 W3 ∧ W.heap.size ≤ W3.heap.size := by
  have hB4 : Below W.heap.size W (W.alloc (.cells #[.int .i64 e.k, .int .i64 e.i, .int .i64 e.t, .slice sa e.s.length sc] 45)) := (Below.refl _ _).alloc (Nat.le_refl _) _
  have h3 := h.mv (Mv.of_below hB4)
  have hown2 : ∀ q, v.ownBlock = some q → N ≤ q ∧ ¬ T q := fun q hq => by
    obtain ⟨P, _, p2, p3, _⟩ := h
    exact ⟨(World.ownsRow.lt p2 q hq).1, p3 q hq⟩
  obtain ⟨v', W3, hrun, hl4, hgr, hown, ⟨a', c', hv'⟩, _⟩ := h3.push hL (by simp; omega) (fun b hb => by have := (hT b hb).2; simp; omega) e sa sc W.heap.size (fun j u hj => by
      rw [add0, cell_of_row _ _ _ _ 45 (0, 0) (World.alloc_heap_new W _)]
      simp only [evRow] at hj
      rw [← Array.getElem?_toList]
      exact hj) ((hri.later hbel).later hB4) hes (fun b hb hl => by
      subst hb
      have hb1 := hri.blk hl
      have hb2 := hbel.size
      exact ⟨by simp; omega, fun ht => by have := (hT _ ht).1; omega, fun e9 => by have := (hown2 _ e9).1; omega⟩)
  rw [List.length_append] at hv'
  subst hv'
  have hs := hgr.size
  have hs2 : W.heap.size ≤ W3.heap.size := by simp at hs; omega
  have hk : ∀ b, b < W.heap.size → b < N ∨ T b → W3.heap[b]? = W.heap[b]? := fun b b1 b2 => (hgr.block b (by simp; omega) (fun e9 => by
    have h9 := hown2 b e9.symm
    rcases b2 with b2 | b2
    · omega
    · exact h9.2 b2)).trans (hB4.block b b1)
  have hbs := hbel.size
  exact ⟨a', c', W3, hrun, hl4, hk, ⟨hgr.os.trans hbel.os, hgr.tape.trans hbel.tape, hgr.output.trans hbel.output, by omega, fun b hb => (hk b (by omega) (.inl (by omega))).trans (hbel.block b hb)⟩, hs2⟩

/-- The least branch so far, from above. -/
def Lst (L : List (List EvP)) (had : List Nat) (n j : Nat) (z : Int) : Prop :=
  (z = -1 ∧ ∀ i, j ≤ i → i < n → Mg.canB stE L had i = false) ∨ ∃ p : Nat, z = (p : Int) ∧ j ≤ p ∧ p < n ∧ Mg.canB stE L had p = true ∧ ∀ i, j ≤ i → i < p → Mg.canB stE L had i = false

theorem Lst.no {L : List (List EvP)} {had : List Nat} {n j : Nat} {z : Int} (h : Lst L had n (j + 1) z) (hc : Mg.canB stE L had j = false) : Lst L had n j z := by
  rcases h with ⟨h1, h2⟩ | ⟨p, h1, h2, h3, h4, h5⟩
  · exact .inl ⟨h1, fun i hi hn => by
      by_cases hij : i = j
      · rw [hij]; exact hc
      · exact h2 i (by omega) hn⟩
  · exact .inr ⟨p, h1, by omega, h3, h4, fun i hi hp => by
      by_cases hij : i = j
      · rw [hij]; exact hc
      · exact h5 i (by omega) hp⟩
theorem Lst.yes {L : List (List EvP)} {had : List Nat} {n j : Nat} (hj : j < n) (hc : Mg.canB stE L had j = true) : Lst L had n j (j : Int) := .inr ⟨j, rfl, Nat.le_refl _, hj, hc, fun i h1 h2 => by omega⟩
theorem Lst.nope {L : List (List EvP)} {had : List Nat} {n : Nat} (hn : L.length = n) (h : Lst L had n 0 (-1)) : (fr L had).find? (nxq stE had) = none := by
  rcases h with ⟨_, h⟩ | ⟨p, h, _⟩
  · have hp : Mg.pick stE L had = none := by
      unfold Mg.pick
      rw [List.find?_eq_none]
      intro i hi
      rw [h i (Nat.zero_le _) (by rw [← hn]; exact List.mem_range.1 hi)]
      decide
    rw [pick_fr] at hp
    exact Option.map_eq_none_iff.1 hp
  · omega
theorem Lst.found {L : List (List EvP)} {had : List Nat} {n p : Nat} (hn : L.length = n) (h : Lst L had n 0 (p : Int)) : ∃ x, (fr L had).find? (nxq stE had) = some x ∧ x.1 = p ∧ p < n := by
  rcases h with ⟨h, _⟩ | ⟨q, h1, _, h3, h4, h5⟩
  · omega
  · have hqp : p = q := by omega
    subst hqp
    have hp : Mg.pick stE L had = some p := by
      unfold Mg.pick
      rw [List.find?_eq_some_iff_getElem]
      refine ⟨h4, p, by rw [List.length_range, hn]; exact h3, by simp, fun j hj => ?_⟩
      rw [List.getElem_range, h5 j (Nat.zero_le _) hj]
      rfl
    rw [pick_fr] at hp
    obtain ⟨x, hx, h6⟩ := Option.map_eq_some_iff.1 hp
    exact ⟨x, hx, h6, h3⟩

/-- How many events the first branches have. -/
def totK (L : List (List EvP)) (i : Nat) : Nat := ((L.take i).map List.length).sum
theorem totK_succ {L : List (List EvP)} {i : Nat} (h : i < L.length) : totK L (i + 1) = totK L i + (L.getD i []).length := by
  unfold totK
  rw [List.take_add_one, getD_rows h]
  simp
theorem totK_le (L : List (List EvP)) (i : Nat) : totK L i ≤ Mg.tot L := by
  unfold totK Mg.tot
  conv => rhs; rw [← List.take_append_drop i L]
  rw [List.map_append, List.sum_append]
  omega
theorem totK_all (L : List (List EvP)) : totK L L.length = Mg.tot L := by unfold totK Mg.tot; rw [List.take_length]

/-- What the document's Merge has when k events are told. -/
structure RfS (B : Nat) (w0 : World) (L : List (List EvP)) (xs : List (Nat × EvP)) (n k f : Nat) (had : List Nat) (v : Value) (W : World) : Prop where
  row : RowI W B (hadZ had)
  log : LogR (B + 1) W (fun b => b = B) v (evsK xs k)
  bel : Below w0.heap.size w0 W
  lt : B < W.heap.size
  hd : Hd L f had
  eq : had = hadK n xs k
  dr : xs.drop k = mq stE L f had ∧ k ≤ xs.length
  fk : f + k = Mg.tot L
theorem RfS.later {B : Nat} {w0 : World} {L : List (List EvP)} {xs : List (Nat × EvP)} {n k f : Nat} {had : List Nat} {v : Value} {W W' : World} (h : RfS B w0 L xs n k f had v W) (hb : Below W.heap.size W W') : RfS B w0 L xs n k f had v W' :=
  ⟨h.row.below hb, h.log.mv (Mv.of_below hb), h.bel.trans (hb.mono h.bel.size), Nat.lt_of_lt_of_le h.lt hb.size, h.hd, h.eq, h.dr, h.fk⟩

set_option maxHeartbeats 8000000 in
theorem rmerge_in (lv : Value) (L : List (List EvP)) (w : World) (hl : RREv w lv L) (hL1 : 1 ≤ L.length) (hL : L.length ≤ 64) (htot : Mg.tot L ≤ 100000) :
    Calls Try.prog 12 #[lv] w fun e w' => MergeC L w e w' := by
  unfold MergeC
  have HRL : Hid (RREv w lv L) := hl
  have HAT : Hid _ := fun x hx => mseq_at hl x hx
  have HLT : Hid _ := mseq_lt L
  have HLN : Hid _ := Nat.le_trans (mseq_len L) htot
  obtain ⟨la, lc, rfl, q1, q2, hcs⟩ := hl
  have HCS : Hid _ := hcs
  have HTK : Hid (∀ i, totK L i ≤ 100000) := fun i => Nat.le_trans (totK_le L i) htot
  have HTS : Hid (∀ i, i < L.length → totK L (i + 1) = totK L i + (L.getD i []).length) := fun i hi => totK_succ hi
  have HTA : Hid (totK L L.length = Mg.tot L) := totK_all L
  obtain ⟨xs, HX⟩ : ∃ xs, Hid (xs = mseq stE L) := ⟨_, rfl⟩
  rw [← HX.out] at HAT HLT HLN ⊢
  obtain ⟨n, HN⟩ : ∃ n, Hid (L.length = n) := ⟨_, rfl⟩
  rw [HN.out] at HAT HLT hL1 hL q1 HTA HTS ⊢
  obtain ⟨C, HC, hmk⟩ := make_ints n hL
  have HB0 : Hid (Below w.heap.size w (w.alloc (.cells C 3))) := (Below.refl _ _).alloc (Nat.le_refl _) _
  have HR0 : Hid (RowI (w.alloc (.cells C 3)) w.heap.size (hadZ (List.replicate n 0))) := by
    show RowI _ _ _
    unfold RowI
    rw [row_new, hadZ_zero, HC.out]
  have HZ0 : Hid ((w.alloc (.cells C 3)).heap.size = w.heap.size + 1) := by show _ = _; simp
  clear hcs htot HC
  have hg1 : ¬ (n : Int) < 1 := by omega
  have hg2 : ¬ (n : Int) > 64 := by omega
  go_enter Try.func12, Try.ntmps12
  go_wp2_with fail
  obtain ⟨B, HBe⟩ : ∃ B, Hid (w.heap.size = B) := ⟨_, rfl⟩
  rw [HBe.out] at HR0 HZ0
  rw [HBe.out]
  generalize w.alloc (.cells C 3) = w1 at *
  clear hmk hg1 hg2
  have HB0 : Hid (Below w.heap.size w w1) := HB0.out
  go_loopw [6, 7] (fun tv iv wr => ∃ i : Nat, i ≤ n ∧ iv = .int .i64 i ∧ tv = .int .i64 (totK L i : Nat) ∧ wr = w1) (fun _ iv _ => n - (intOf iv).toNat)
  case atStart => exact ⟨0, Nat.zero_le _, rfl, rfl, rfl⟩
  case round =>
    obtain ⟨i, hi, rfl, rfl, rfl⟩ := hrel
    by_cases hlt : i < n
    · obtain ⟨lb, lo, sv, rfl, c0, hrow⟩ := HCS.out i _ (getD_rows (by rw [HN.out]; exact hlt))
      have d0 := cell_later HB0.out c0
      obtain ⟨ra, rc, rfl⟩ := hrow.slice
      have HS2 : Hid _ := HTS.out i hlt
      have ht1 := HTK.out i
      have ht2 := HTK.out (i + 1)
      rw [HS2.out] at ht2
      clear c0 hrow
      generalize totK L i = t at *
      generalize (L.getD i []).length = ln at *
      go_wp2_with fail
      go_roundw
      case rel => exact ⟨i + 1, by omega, by go_num, by rw [HS2.out]; go_num, trivial⟩
      case measure => simp [intOf]; omega
    · obtain rfl : n = i := by omega
      have HT9 : Hid _ := HTA.out
      obtain ⟨tt, HTT⟩ : ∃ tt, Hid (Mg.tot L = tt) := ⟨_, rfl⟩
      have htt : tt ≤ 100000 := by have := HTK.out n; rw [HTA.out, HTT.out] at this; exact this
      rw [HTA.out, HTT.out]
      have H0 : Hid (RfS B w L xs n 0 tt (List.replicate n 0) (.slice none 0 0) wr) := by
        have hz := Hd.zero L
        rw [HTT.out, HN.out] at hz
        exact ⟨HR0.out, LogR.nil _ _ _, HB0.out, by have := HZ0.out; omega, hz, rfl, ⟨by rw [HX.out]; unfold mseq; rw [HTT.out, HN.out]; rfl, Nat.zero_le _⟩, by rw [HTT.out]; rfl⟩
      clear HR0 HTS HTA HTK HT9 hi hlt HX
      go_wp2_with fail
      go_loopw [8] (fun ov wx => ∃ (k f : Nat) (had : List Nat) (oa : Option Addr) (oc : Nat), ov = .slice oa k oc ∧ Hid (RfS B w L xs n k f had (.slice oa k oc) wx)) (fun ov _ => tt - lenV ov)
      case atStart => exact ⟨0, tt, _, none, 0, rfl, H0⟩
      case round =>
        obtain ⟨k, f, had, oa, oc, rfl, HS⟩ := hrel
        rename World => w2
        have hfk := HS.out.fk
        rw [HTT.out] at hfk
        clear H0
        by_cases hkt : k < tt
        · go_wp2_with fail
          go_loopw [9, 10] (fun zv iv w3 => ∃ (j : Nat) (z : Int), j ≤ n ∧ iv = .int .i64 ((j : Int) - 1) ∧ zv = .int .i64 z ∧ Hid (Lst L had n j z) ∧ Hid (RfS B w L xs n k f had (.slice oa k oc) w3)) (fun _ iv _ => (intOf iv + 1).toNat)
          case atStart => exact ⟨n, -1, Nat.le_refl _, rfl, rfl, .inl ⟨rfl, fun i h1 h2 => by omega⟩, HS⟩
          case round =>
            obtain ⟨j, z, hj, rfl, rfl, HZ, HS3⟩ := hrel
            rename World => w3
            clear HS
            have hml := HS3.out.dr.2
            have HSM : Hid (∀ i, had.getD i 0 ≤ 100000) := fun i => by have := HS3.out.hd.small i; rw [HTT.out] at this; omega
            have HHN : Hid (had.length = n) := HS3.out.hd.len.trans HN.out
            by_cases hj0 : j = 0
            · subst hj0
              rcases (id HZ.out : Lst L had n 0 z) with ⟨rfl, _⟩ | ⟨p, rfl, _⟩
              · have HNF : Hid _ := Lst.nope HN.out HZ.out
                have HK : Hid (k = xs.length) := by
                  have h1 := HS3.out.dr.1
                  have h2 : mq stE L f had = [] := by
                    cases f with
                    | zero => rfl
                    | succ f => rw [mq, HNF.out]
                  rw [h2] at h1
                  exact drop_end h1 HS3.out.dr.2
                clear HZ
                go_wp2_with fail
                go_ret2
                have hS := HS3.out
                rw [HK.out] at hS
                refine ⟨oa, oc, some ⟨B, 0, none⟩, n, by rw [← HK.out]; rfl, ⟨_, _, by rw [← HK.out] at hS ⊢; exact hS.log⟩, ?_, hS.bel⟩
                have h9 := hS.row.ri (by rw [hadZ_len, HHN.out]; omega)
                rw [hadZ_len, HHN.out] at h9
                rw [← hS.eq]
                exact h9
              · obtain ⟨x, hx, hxp, hpn⟩ := Lst.found HN.out HZ.out
                have hxm := List.mem_of_find?_eq_some hx
                obtain ⟨f', rfl, hHd⟩ := HS3.out.hd.next hxm
                have hdr := HS3.out.dr.1
                rw [mq, hx] at hdr
                obtain ⟨hx1, hx2, hx3⟩ := getElem_of_drop hdr
                have hxe := (fr_mem hxm).2
                obtain ⟨i9, e, sv⟩ := x
                dsimp only at hxp hxe hHd hx2
                subst hxp
                obtain ⟨hsl, hri⟩ := HAT.out _ (List.mem_of_getElem? hx1)
                dsimp only at hsl hri
                obtain ⟨sa, sc, rfl⟩ : ∃ sa sc, sv = .slice sa e.s.length sc := by obtain ⟨a, c, h, _⟩ := hri; exact ⟨a, c, h⟩
                obtain ⟨lb, lo, rv, rfl, c0, hrow⟩ := HCS.out i9 _ (getD_rows (by rw [HN.out]; exact hpn))
                obtain ⟨ra, rc, rfl, _, _, hrr⟩ := hrow
                obtain ⟨eb, eo, rfl, e0, e1, e2, e3, _⟩ := hrr _ _ hxe
                have d0 := cell_later HS3.out.bel c0
                have d1 := cell_later HS3.out.bel e0
                have d2 := cell_later HS3.out.bel e1
                have d3 := cell_later HS3.out.bel e2
                have d4 := cell_later HS3.out.bel e3
                obtain ⟨cR, fR⟩ := HS3.out.row.get i9 (by rw [hadZ_len, HHN.out]; exact hpn)
                rw [hadZ_get] at cR
                have hq1 := HSM.out i9
                have hq2 := (List.getElem?_eq_some_iff.1 hxe).1
                obtain ⟨a', c', W4, hrun, hl4, hk4, hb4, hs4⟩ := log_push (w0 := w) HS3.out.log (by rw [evsK_len HS3.out.dr.2]; have := HLN.out; omega) (by have := HS3.out.lt; omega) (fun b hb => by have := HS3.out.lt; have := HBe.out; omega) (by have := HBe.out; omega) HS3.out.bel e sa sc hri (by rw [hsl]; omega)
                rw [evsK_len HS3.out.dr.2] at hrun hl4
                have hrow4 : RowI W4 B (hadZ had) := (hk4 B HS3.out.lt (.inr rfl)).trans HS3.out.row
                obtain ⟨cR4, fR4⟩ := hrow4.get i9 (by rw [hadZ_len, HHN.out]; exact hpn)
                rw [hadZ_get] at cR4
                have HF9 : Hid (RfS B w L xs n (k + 1) f' (Mg.bump had i9) (.slice a' (k + 1) c') (W4.setCell ⟨B, i9, none⟩ (.int .i64 (((had.getD i9 0 : Nat) : Int) + 1)))) := by
                  have hr5 := hrow4.set i9 ((hadZ had).getD i9 0 + 1)
                  rw [hadZ_bump, hadZ_get] at hr5
                  refine ⟨hr5, ?_, hb4.setCell (p := ⟨B, i9, none⟩) (by show w.heap.size ≤ B; have := HBe.out; omega) _, by have := HS3.out.lt; simp; omega, hHd, by rw [HS3.out.eq, hadK_succ hx1], ⟨hx2, hx3⟩, by have := HS3.out.fk; omega⟩
                  rw [evsK_succ hx1]
                  exact LogR.kept hl4 (fun b _ hb => Below.heap_setCell W4 ⟨B, i9, none⟩ _ _ hb) (fun _ _ h => h) (by simp)
                have hk1 : k + 1 ≤ tt := by have := HS3.out.fk; rw [HTT.out] at this; omega
                clear HZ hx hxm hHd hdr hx1 hx2 hx3 hxe hri hsl c0 hrr e0 e1 e2 e3 hrow4 hl4 hk4 hb4 hs4 HS3
                generalize had.getD i9 0 = q at *
                generalize (L.getD i9 []).length = ln at *
                generalize e.k = ek at *
                generalize e.i = ei at *
                generalize e.t = et at *
                generalize e.s.length = en at *
                go_wp2_with (first
                  | (at_builtin; refine Lib.wpList_append_run _ rfl _ _ _ _ rfl _ _ rfl rfl _ _ hrun ?_))
                go_roundw
                case rel => exact ⟨k + 1, f', _, a', c', rfl, HF9⟩
                case measure => simp [lenV]; omega
            · obtain ⟨i, rfl⟩ : ∃ i, j = i + 1 := ⟨j - 1, by omega⟩
              rw [show ((i + 1 : Nat) : Int) - 1 = (i : Int) by omega]
              have hil : i < n := by omega
              obtain ⟨lb, lo, rv, rfl, c0, hrow⟩ := HCS.out i _ (getD_rows (by rw [HN.out]; exact hil))
              have d0 := cell_later HS3.out.bel c0
              obtain ⟨cR, fR⟩ := HS3.out.row.get i (by rw [hadZ_len, HHN.out]; exact hil)
              rw [hadZ_get] at cR
              have hq1 := HSM.out i
              obtain ⟨ra, rc, rfl, _, _, hrr⟩ := hrow
              by_cases hf : had.getD i 0 < (L.getD i []).length
              · obtain ⟨x, hx⟩ : ∃ x, (L.getD i [])[had.getD i 0]? = some x := ⟨_, List.getElem?_eq_getElem hf⟩
                have HCB : Hid (Mg.canB stE L had i = decide (Mg.Nx had x.1.s i)) := by show _ = _; unfold Mg.canB; rw [hx]; rfl
                obtain ⟨eb, eo, rfl, e0, e1, e2, e3, e4⟩ := hrr _ x hx
                have d1 := cell_later HS3.out.bel e0
                have d2 := cell_later HS3.out.bel e1
                have d3 := cell_later HS3.out.bel e2
                have d4 := cell_later HS3.out.bel e3
                have HWR : Hid (RI w3 (.slice (some ⟨B, 0, none⟩) n n) (hadZ had)) := by
                  have := HS3.out.row.ri (by rw [hadZ_len, HHN.out]; omega)
                  rw [hadZ_len, HHN.out] at this
                  exact this
                have HNX : Hid _ := rnext2_any _ _ had x.1 i w3 HWR.out (e4.later HS3.out.bel) (by rw [HHN.out]; exact hil) (by omega) (by rw [HHN.out]; exact hL)
                unfold EvV at HNX
                have hfi : ((had.getD i 0 : Nat) : Int) < ((L.getD i []).length : Int) := by omega
                have hdf : decide (((had.getD i 0 : Nat) : Int) < ((L.getD i []).length : Int)) = true := decide_eq_true hfi
                obtain ⟨e, sv⟩ := x
                dsimp only at *
                obtain ⟨sa, sc, rfl⟩ : ∃ sa sc, sv = .slice sa e.s.length sc := by obtain ⟨a, c, h, _⟩ := e4; exact ⟨a, c, h⟩
                clear e0 e1 e2 e3 e4 hrr hx c0 HWR
                generalize decide (Mg.Nx had e.s i) = q at *
                generalize had.getD i 0 = qq at *
                generalize (L.getD i []).length = ln at *
                generalize e.k = ek at *
                generalize e.i = ei at *
                generalize e.t = et at *
                generalize e.s.length = en at *
                cases q with
                | true =>
                  have HZ2 : Hid (Lst L had n i (i : Int)) := Lst.yes hil HCB.out
                  clear HZ HCB
                  go_wp2_with fail
                  refine Calls.mono HNX.out ?_
                  rintro y w4 ⟨rfl, hb4⟩
                  have HS4 : Hid _ := HS3.out.later hb4
                  clear hb4
                  go_wp2_with fail
                  go_roundw
                  case rel => exact ⟨i, i, by omega, rfl, rfl, HZ2, HS4⟩
                  case measure => simp [intOf]
                | false =>
                  have HZ2 : Hid (Lst L had n i z) := Lst.no HZ.out HCB.out
                  clear HZ HCB
                  go_wp2_with fail
                  refine Calls.mono HNX.out ?_
                  rintro y w4 ⟨rfl, hb4⟩
                  have HS4 : Hid _ := HS3.out.later hb4
                  clear hb4
                  go_wp2_with fail
                  go_roundw
                  case rel => exact ⟨i, z, by omega, rfl, rfl, HZ2, HS4⟩
                  case measure => simp [intOf]
              · have HCB : Hid (Mg.canB stE L had i = false) := by show _ = _; unfold Mg.canB; rw [List.getElem?_eq_none (by omega)]
                have HZ2 : Hid (Lst L had n i z) := Lst.no HZ.out HCB.out
                have hfi : ¬ ((had.getD i 0 : Nat) : Int) < ((L.getD i []).length : Int) := by omega
                have hdf : decide (((had.getD i 0 : Nat) : Int) < ((L.getD i []).length : Int)) = false := decide_eq_false hfi
                clear HZ HCB hrr c0
                generalize had.getD i 0 = qq at *
                generalize (L.getD i []).length = ln at *
                go_wp2_with fail
                go_roundw
                case rel => exact ⟨i, z, by omega, rfl, rfl, HZ2, HS3⟩
                case measure => simp [intOf]
        · have hf0 : f = 0 := by omega
          subst hf0
          have HK : Hid (k = xs.length) := by
            have h1 := HS.out.dr.1
            exact drop_end h1 HS.out.dr.2
          have HHN : Hid (had.length = n) := HS.out.hd.len.trans HN.out
          go_wp2_with fail
          go_ret2
          have hS := HS.out
          rw [HK.out] at hS
          refine ⟨oa, oc, some ⟨B, 0, none⟩, n, by rw [← HK.out]; rfl, ⟨_, _, by rw [← HK.out] at hS ⊢; exact hS.log⟩, ?_, hS.bel⟩
          have h9 := hS.row.ri (by rw [hadZ_len, HHN.out]; omega)
          rw [hadZ_len, HHN.out] at h9
          rw [← hS.eq]
          exact h9
end Go.Proofs.Ytamfpmpooaejkaa
