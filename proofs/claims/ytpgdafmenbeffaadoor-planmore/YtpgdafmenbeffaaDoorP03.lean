/- Texts of the seat, packed: SRf SMa SMb SMc SMd SMe SMf SWA. -/
import Derived.Test.YtpgdafmenbeffaaDoorP02
import GoSem.Core.Utf8
import Derived.Lib.Strings
import Derived.Test.YtpgdafmenbeffaaDoorRows
import Derived.WalkKit
import Derived.WalkLawsBesides
import Derived.WalkSpells
/- big: whether a saga is too big. -/
namespace Go.Proofs.YtpgdafmenbeffaaDoor.Sx

open Go.RowKit Go.Shelf

attribute [local go_sem] Oper.semAt_some

/-- Is it too big? -/
def bigL (l : List (Nat × Lab × Tr)) : Bool := decide (1000 < l.length) || l.any over

theorem bigL_perm {a b : List (Nat × Lab × Tr)} (h : a.Perm b) : bigL a = bigL b := by
  unfold bigL
  rw [h.length_eq, h.any_eq]

theorem bigL_true {a b : List (Nat × Lab × Tr)} (h : bigL a = true) : bigL (a ++ b) = true := by
  simp only [bigL, Bool.or_eq_true, decide_eq_true_eq, List.any_append, List.length_append] at *
  rcases h with h | h
  · exact .inl (by omega)
  · exact .inr (.inl h)

set_option maxRecDepth 1000000 in
set_option maxHeartbeats 4000000 in
theorem big_any (w : World) (x : ByteArray) (t : Tr) (av : Option Addr) (am ac : Nat) (ht : TAt (· < w.heap.size) w true t av 0 am) (hb : Bnd t) :
    Calls Tryd.prog 64 #[.agg #[.string x, .slice av am ac]] w fun e w' => e = .returned (.bool (bigL (fltn 1 t))) ∧ Below w.heap.size w w' := by
  refine (callsIn_wide (n := 5)).1 ?_
  refine callsIn_of_wp_marks Tryd.func64 rfl trivial ?_ rfl
  simp only [Tryd.ntmps64, List.size_toArray, List.length_cons, List.length_nil, Nat.reduceAdd, Nat.reduceSub, Array.replicate_succ, Array.replicate_zero, List.push_toArray, List.append_toArray, List.nil_append, List.cons_append]
  gi_wp2_with (refine ⟨trivial, ?_⟩; gi_at_call 65; refine (nodes_in Fence.wide _ trivial rfl _ _ _).mono ?_; rintro e w' ⟨rfl, rfl⟩)
  obtain ⟨Wl, hWl⟩ : ∃ Wl, (((w.alloc (.cells #[.string x, .slice av am ac] 24)).alloc (.cells #[.bool false] 4)).alloc (.cells #[.int .i64 0] 3)).alloc (.cells #[.string x, .slice av am ac] 24) = Wl := ⟨_, rfl⟩
  rw [hWl]
  have hz : Wl.heap.size = w.heap.size + 4 := by rw [← hWl]; simp
  have hrb : Wl.heap[w.heap.size + 1]? = some (.cells #[.bool false] 4 (0, 0)) := by
    rw [← hWl]
    refine row_alloc (row_alloc ?_ _) _
    have := row_new (w.alloc (.cells #[.string x, .slice av am ac] 24)) #[.bool false] 4
    rwa [World.size_alloc] at this
  have hcb : Wl.heap[w.heap.size + 2]? = some (.cells #[.int .i64 0] 3 (0, 0)) := by
    rw [← hWl]
    refine row_alloc ?_ _
    have := row_new ((w.alloc (.cells #[.string x, .slice av am ac] 24)).alloc (.cells #[.bool false] 4)) #[.int .i64 0] 3
    simpa using this
  have hgb : Wl.heap[w.heap.size + 3]? = some (.cells #[.string x, .slice av am ac] 24 (0, 0)) := by
    rw [← hWl]
    have := row_new (((w.alloc (.cells #[.string x, .slice av am ac] 24)).alloc (.cells #[.bool false] 4)).alloc (.cells #[.int .i64 0] 3)) #[.string x, .slice av am ac] 24
    simpa using this
  have hbl : Below w.heap.size w Wl := by
    rw [← hWl]
    exact ((((Below.refl _ w).alloc (Nat.le_refl _) _).alloc (by simp) _).alloc (by simp; omega) _).alloc (by simp; omega) _
  clear hWl
  have hseq := nodes1_in Fence.wide 4 trivial rfl (by omega) rfl w.heap.size (1 + t.dep) (w.heap.size + 3) w Wl t av am ac (fun k hk => hbl.block k hk) (by omega) ((cell_row hgb 1).trans rfl) ht (Nat.le_refl _) (by have := hb.dep; omega) hb.tw hb.sz
  refine range_mine (n := 5) rfl (by omega) (gf := 75) (lb := #[.pointer (some ⟨w.heap.size + 3, 0, none⟩)]) rfl trivial (enters_of Tryd.func75 (by kernel_rfl) rfl) hseq (by omega) (fun _ => rfl)
    (fun pre W => W.heap[w.heap.size + 2]? = some (.cells #[.int .i64 (pre.length : Int)] 3 (0, 0)) ∧ W.heap[w.heap.size + 1]? = some (.cells #[.bool false] 4 (0, 0)) ∧ bigL (pre.map Nd.key) = false ∧ Below w.heap.size w W)
    (fun pre W => W.heap[w.heap.size + 1]? = some (.cells #[.bool true] 4 (0, 0)) ∧ bigL (pre.map Nd.key) = true ∧ Below w.heap.size w W)
    (fun s A B hs hB => ⟨(hB.block _ (by omega)).trans hs.1, (hB.block _ (by omega)).trans hs.2.1, hs.2.2.1, hs.2.2.2.trans (hB.mono (by omega))⟩)
    (fun s A B hs hB => ⟨(hB.block _ (by omega)).trans hs.1, hs.2.1, hs.2.2.trans (hB.mono (by omega))⟩) ⟨hcb, hrb, rfl, hbl⟩ ?round ?done ?stop
  case round =>
    rintro l pre y W hV hN ⟨hc, hr, hL, hB⟩ hlt
    obtain ⟨yd, yl, ya, ysv, ysm, ysc, yav, yam, yac⟩ := y
    have hyd : yd ≤ 1 + t.dep := hV.2.2.1
    have hdb := hb.dep
    have hz0 := hB.size
    have hn := hb.cn
    have hln : pre.length < 1000000000 := by omega
    simp only [Nd.enc]
    simp only [Array.zip]
    gi_wp2
    refine ⟨⟨row_alloc hc _, row_alloc hr _, hL, hB.alloc hz0 _⟩, Kr.of_below ((Below.refl _ _).alloc (Nat.le_refl _) _) (by omega), ?_⟩
    rintro W2 ⟨hc2, hr2, hL2, hB2⟩ hk2
    have hc2' : W2.heap[w.heap.size + 1 + 1]? = some (.cells #[.int .i64 (pre.length : Int)] 3 (0, 0)) := hc2
    have c0 := (cell_row hc2' 0).trans rfl
    have f0 := froz_row hc2' 0
    have hn2 := (hk2.high W.heap.size (by omega) (by simp)).trans (row_new W #[.string ⟨yl.name.toArray⟩, .string ⟨yl.undo.toArray⟩, .slice ysv ysm ysc, .bool yl.sub, .bool yl.vital, .slice yav yam yac] 38)
    have s3 : ∀ v, (W2.setCell ⟨w.heap.size + 1 + 1, 0, none⟩ v).cell? ⟨W.heap.size, 3, none⟩ = some (.bool yl.sub) := fun v => (cell_row (row_other hn2 v (by omega)) 3).trans rfl
    have r0 : ∀ v, (W2.setCell ⟨w.heap.size + 1 + 1, 0, none⟩ v).cell? ⟨w.heap.size + 1, 0, none⟩ = some (.bool false) := fun v => (cell_row (row_other hr2 v (by omega)) 0).trans rfl
    have rf : ∀ v, (W2.setCell ⟨w.heap.size + 1 + 1, 0, none⟩ v).frozen? ⟨w.heap.size + 1, 0, none⟩ = false := fun v => froz_row (row_other hr2 v (by omega)) 0
    have hany : (pre.map Nd.key).any over = false := by
      simp only [bigL, Bool.or_eq_false_iff] at hL
      exact hL.2
    have hbq : bigL ((pre ++ [(⟨yd, yl, ya, ysv, ysm, ysc, yav, yam, yac⟩ : Nd)]).map Nd.key) = (decide (1000 < pre.length + 1) || (yl.sub && yd == 70)) := by
      simp [bigL, hany, over, Nd.key]
    have kk1 : ∀ v, Kr w.heap.size Wl.heap.size W2 (W2.setCell ⟨w.heap.size + 1 + 1, 0, none⟩ v) := fun v => Kr.setCell _ _ (by omega) (by omega)
    have bb1 : ∀ v, Below w.heap.size w (W2.setCell ⟨w.heap.size + 1 + 1, 0, none⟩ v) := fun v => hB2.setCell (p := ⟨w.heap.size + 1 + 1, 0, none⟩) (by show w.heap.size ≤ w.heap.size + 1 + 1; omega) _
    have finN : ∀ aa : Act, (decide (1000 < pre.length + 1) || (yl.sub && yd == 70)) = false → myPost w.heap.size Wl.heap.size
        (fun pre W => W.heap[w.heap.size + 2]? = some (.cells #[.int .i64 (pre.length : Int)] 3 (0, 0)) ∧ W.heap[w.heap.size + 1]? = some (.cells #[.bool false] 4 (0, 0)) ∧ bigL (pre.map Nd.key) = false ∧ Below w.heap.size w W)
        (fun pre W => W.heap[w.heap.size + 1]? = some (.cells #[.bool true] 4 (0, 0)) ∧ bigL (pre.map Nd.key) = true ∧ Below w.heap.size w W)
        (pre ++ [(⟨yd, yl, ya, ysv, ysm, ysc, yav, yam, yac⟩ : Nd)]) W2 .normal aa (W2.setCell ⟨w.heap.size + 1 + 1, 0, none⟩ (.int .i64 ((pre.length : Int) + 1))) := fun _ hq => by
      refine ⟨kk1 _, ?_, row_other hr2 _ (by omega), by rw [hbq]; exact hq, bb1 _⟩
      have := row_set hc2' 0 (.int .i64 ((pre.length : Int) + 1))
      simpa using this
    have finR : ∀ aa : Act, (decide (1000 < pre.length + 1) || (yl.sub && yd == 70)) = true → myPost w.heap.size Wl.heap.size
        (fun pre W => W.heap[w.heap.size + 2]? = some (.cells #[.int .i64 (pre.length : Int)] 3 (0, 0)) ∧ W.heap[w.heap.size + 1]? = some (.cells #[.bool false] 4 (0, 0)) ∧ bigL (pre.map Nd.key) = false ∧ Below w.heap.size w W)
        (fun pre W => W.heap[w.heap.size + 1]? = some (.cells #[.bool true] 4 (0, 0)) ∧ bigL (pre.map Nd.key) = true ∧ Below w.heap.size w W)
        (pre ++ [(⟨yd, yl, ya, ysv, ysm, ysc, yav, yam, yac⟩ : Nd)]) W2 .ret aa ((W2.setCell ⟨w.heap.size + 1 + 1, 0, none⟩ (.int .i64 ((pre.length : Int) + 1))).setCell ⟨w.heap.size + 1, 0, none⟩ (.bool true)) := fun _ hq => by
      exact ⟨(kk1 _).trans (Kr.setCell _ _ (by omega) (by omega)), row_set (row_other hr2 _ (by omega)) 0 _, by rw [hbq]; exact hq, (bb1 _).setCell (p := ⟨w.heap.size + 1, 0, none⟩) (by show w.heap.size ≤ w.heap.size + 1; omega) _⟩
    clear hbq hany hL hL2 hc2 hc2' hn2 hr hc
    by_cases h1 : 1000 < pre.length + 1
    · have h1' : (1000 : Int) < (pre.length : Int) + 1 := by omega
      gi_wp2
      exact finR _ (by simp [h1])
    · have h1' : decide ((1000 : Int) < (pre.length : Int) + 1) = false := by simp; omega
      have h1d : decide (1000 < pre.length + 1) = false := by simp; omega
      cases hs : yl.sub with
      | false =>
        rw [hs] at s3 finN
        gi_wp2
        exact finN _ (by simp [h1d])
      | true =>
        rw [hs] at s3 finN finR
        by_cases h7 : yd = 70
        · subst h7
          gi_wp2
          exact finR _ (by simp)
        · have h7' : ((yd : Int) == 70) = false := by simp; omega
          gi_wp2
          exact finN _ (by simp [h1d, h7])
  case done =>
    rintro xs W hS ⟨hc, hr, hL, hB⟩ hK
    have r0 := (cell_row hr 0).trans rfl
    have rf := froz_row hr 0
    have hbig : bigL (fltn 1 t) = false := by rw [← bigL_perm hS]; exact hL
    gi_wp2
    have hKs : (W.setCell ⟨w.heap.size + 1, 0, none⟩ (.bool false)).heap[Wl.heap.size]? = some (.deferred (some [])) := (Below.heap_setCell W ⟨w.heap.size + 1, 0, none⟩ _ _ (by show Wl.heap.size ≠ w.heap.size + 1; omega)).trans hK
    have hBs : Below w.heap.size w (W.setCell ⟨w.heap.size + 1, 0, none⟩ (.bool false)) := hB.setCell (p := ⟨w.heap.size + 1, 0, none⟩) (by show w.heap.size ≤ w.heap.size + 1; omega) _
    have hr' : ((W.setCell ⟨w.heap.size + 1, 0, none⟩ (.bool false)).putObj Wl.heap.size (.deferred none)).heap[w.heap.size + 1]? = some (.cells #[.bool false] 4 (0, 0)) := (World.putObj_heap_other (by omega)).trans (row_set hr 0 _)
    have r0' : ((W.setCell ⟨w.heap.size + 1, 0, none⟩ (.bool false)).putObj Wl.heap.size (.deferred none)).cell? ⟨w.heap.size + 1, 0, none⟩ = some (.bool false) := (cell_row hr' 0).trans rfl
    refine ⟨by simp, .inl ⟨_, _, rfl, run_takeDeferred hKs, ?_⟩⟩
    exact ⟨.bool false, by simp [results, Tryd.results64, go_sem, r0'], by rw [hbig], (hBs).trans (below_putObj _ _ _ (by omega) (Array.getElem?_eq_some_iff.1 hKs).1)⟩
  case stop =>
    rintro pre W ⟨rest, hP⟩ ⟨hr, hL, hB⟩ hK
    have r0 := (cell_row hr 0).trans rfl
    have hbig : bigL (fltn 1 t) = true := by rw [← bigL_perm hP]; exact bigL_true hL
    gi_wp2
    have hr' : (W.putObj Wl.heap.size (.deferred none)).heap[w.heap.size + 1]? = some (.cells #[.bool true] 4 (0, 0)) := (World.putObj_heap_other (by omega)).trans hr
    have r0' : (W.putObj Wl.heap.size (.deferred none)).cell? ⟨w.heap.size + 1, 0, none⟩ = some (.bool true) := (cell_row hr' 0).trans rfl
    refine ⟨by simp, .inl ⟨_, _, rfl, run_takeDeferred hK, ?_⟩⟩
    exact ⟨.bool true, by simp [results, Tryd.results64, go_sem, r0'], by rw [hbig], (hB).trans (below_putObj _ _ _ (by omega) (Array.getElem?_eq_some_iff.1 hK).1)⟩

end Go.Proofs.YtpgdafmenbeffaaDoor.Sx

/- Plain facts about code points and their bytes: nothing of the program is named here. -/
namespace Go.Proofs.YtpgdafmenbeffaaDoor.Sx

/-- Is a number a code point? -/
def isCp (r : Int) : Bool := decide (0 ≤ r ∧ r ≤ 1114111 ∧ (r < 55296 ∨ 57343 < r))

/-- The width of a number as a code point; 0 of what is none. -/
def wid (r : Int) : Int := if r < 0 then 0 else if r < 128 then 1 else if r < 2048 then 2 else if r < 55296 then 3 else if r < 57344 then 0 else if r < 65536 then 3 else if r < 1114112 then 4 else 0

/-- A number's bytes, by how great it is. -/
def encN (n : Nat) : List UInt8 :=
  if n < 128 then [UInt8.ofNat n]
  else if n < 2048 then [UInt8.ofNat (192 + n / 64), UInt8.ofNat (128 + n % 64)]
  else if n < 65536 then [UInt8.ofNat (224 + n / 4096), UInt8.ofNat (128 + n / 64 % 64), UInt8.ofNat (128 + n % 64)]
  else [UInt8.ofNat (240 + n / 262144), UInt8.ofNat (128 + n / 4096 % 64), UInt8.ofNat (128 + n / 64 % 64), UInt8.ofNat (128 + n % 64)]

/-- A code point's bytes. -/
def enc (r : Int) : List UInt8 := encN r.toNat

def encAll : List Int → List UInt8
  | [] => []
  | c :: cs => enc c ++ encAll cs

/-- At the beginning of these bytes stands no code point. -/
def NoCp (l : List UInt8) : Prop := ∀ c, isCp c = true → ¬ (enc c <+: l)

/-- A text's code points, and what is left from the first bad byte on. -/
structure Parts (l : List UInt8) (cs : List Int) (rest : List UInt8) : Prop where
  eq : l = encAll cs ++ rest
  cp : ∀ c ∈ cs, isCp c = true
  stop : rest = [] ∨ NoCp rest

theorem isCp_iff (r : Int) : isCp r = true ↔ (0 ≤ r ∧ r ≤ 1114111 ∧ (r < 55296 ∨ 57343 < r)) := by simp [isCp]

theorem ofNat_toNat (n : Nat) (h : n < 256) : (UInt8.ofNat n).toNat = n := by
  simp [Nat.mod_eq_of_lt h]

theorem valid_of (r : Int) (h : isCp r = true) : Utf8.valid r = true := by
  rw [isCp_iff] at h
  simp [Utf8.valid]
  omega

theorem enc_nat (n : Nat) : enc n = encN n := by
  rw [enc, Int.toNat_natCast]

theorem enc1 (n : Nat) (h : n < 128) : enc n = [UInt8.ofNat n] := by
  rw [enc_nat, encN, if_pos h]

theorem enc2 (n : Nat) (h0 : 128 ≤ n) (h : n < 2048) : enc n = [UInt8.ofNat (192 + n / 64), UInt8.ofNat (128 + n % 64)] := by
  rw [enc_nat, encN, if_neg (by omega), if_pos h]

theorem enc3 (n : Nat) (h0 : 2048 ≤ n) (h : n < 65536) : enc n = [UInt8.ofNat (224 + n / 4096), UInt8.ofNat (128 + n / 64 % 64), UInt8.ofNat (128 + n % 64)] := by
  rw [enc_nat, encN, if_neg (by omega), if_neg (by omega), if_pos h]

theorem enc4 (n : Nat) (h0 : 65536 ≤ n) : enc n = [UInt8.ofNat (240 + n / 262144), UInt8.ofNat (128 + n / 4096 % 64), UInt8.ofNat (128 + n / 64 % 64), UInt8.ofNat (128 + n % 64)] := by
  rw [enc_nat, encN, if_neg (by omega), if_neg (by omega), if_neg (by omega)]

/-- A code point is of one of four kinds. -/
theorem cp_cases (r : Int) (h : isCp r = true) : ∃ n : Nat, r = n ∧ (n < 128 ∨ (128 ≤ n ∧ n < 2048) ∨ (2048 ≤ n ∧ n < 65536 ∧ (n < 55296 ∨ 57343 < n)) ∨ (65536 ≤ n ∧ n < 1114112)) := by
  rw [isCp_iff] at h
  exact ⟨r.toNat, by omega, by omega⟩

theorem get_drop (s : ByteArray) (pos k : Nat) : s.get! (pos + k) = (s.data.toList.drop pos)[k]?.getD 0 := by
  rw [List.getElem?_drop]
  show s.data[pos + k]! = _
  by_cases h : pos + k < s.data.size
  · rw [getElem!_pos s.data (pos + k) h]
    rw [Array.getElem?_toList, Array.getElem?_eq_getElem h]
    rfl
  · rw [getElem!_neg s.data (pos + k) h]
    rw [Array.getElem?_toList, Array.getElem?_eq_none (by omega)]
    rfl

theorem in_drop (s : ByteArray) (pos k : Nat) : decide (pos + k < s.size) = decide (k < (s.data.toList.drop pos).length) := by
  rw [decide_eq_decide, List.length_drop]
  show pos + k < s.data.size ↔ _
  simp
  omega

theorem decode_cp (s : ByteArray) (pos : Nat) (c : Int) (t : List UInt8) (hl : s.data.toList.drop pos = enc c ++ t) (h : isCp c = true) : Utf8.decode s pos = (c.toNat, (enc c).length) := by
  unfold Utf8.decode Utf8.runeError
  simp only [get_drop, in_drop, hl]
  clear hl
  obtain ⟨n, rfl, hn⟩ := cp_cases c h
  rcases hn with hn | ⟨h1, h2⟩ | ⟨h1, h2, h3⟩ | ⟨h1, h2⟩
  · rw [enc1 n hn]
    have e0 := ofNat_toNat n (by omega)
    simp only [List.cons_append, List.nil_append, List.getElem?_cons_zero, Option.getD_some, e0]
    rw [if_pos hn]
    simp
  · rw [enc2 n h1 h2]
    have e0 := ofNat_toNat (192 + n / 64) (by omega)
    have e1 := ofNat_toNat (128 + n % 64) (by omega)
    simp only [List.cons_append, List.nil_append, List.getElem?_cons_zero, List.getElem?_cons_succ, Option.getD_some, e0, e1]
    rw [if_neg (by omega), if_pos (by simp; omega), if_pos (by omega)]
    simp
    omega
  · rw [enc3 n h1 h2]
    have e0 := ofNat_toNat (224 + n / 4096) (by omega)
    have e1 := ofNat_toNat (128 + n / 64 % 64) (by omega)
    have e2 := ofNat_toNat (128 + n % 64) (by omega)
    simp only [List.cons_append, List.nil_append, List.getElem?_cons_zero, List.getElem?_cons_succ, Option.getD_some, e0, e1, e2]
    have ec : (224 + n / 4096) % 16 * 4096 + (128 + n / 64 % 64) % 64 * 64 + (128 + n % 64) % 64 = n := by omega
    rw [ec]
    rw [if_neg (by omega), if_neg (by simp; omega), if_pos (by simp; omega), if_pos (by simp [valid_of _ h]; omega)]
    simp
  · rw [enc4 n h1]
    have e0 := ofNat_toNat (240 + n / 262144) (by omega)
    have e1 := ofNat_toNat (128 + n / 4096 % 64) (by omega)
    have e2 := ofNat_toNat (128 + n / 64 % 64) (by omega)
    have e3 := ofNat_toNat (128 + n % 64) (by omega)
    simp only [List.cons_append, List.nil_append, List.getElem?_cons_zero, List.getElem?_cons_succ, Option.getD_some, e0, e1, e2, e3]
    have ec : (240 + n / 262144) % 8 * 262144 + (128 + n / 4096 % 64) % 64 * 4096 + (128 + n / 64 % 64) % 64 * 64 + (128 + n % 64) % 64 = n := by omega
    rw [ec]
    rw [if_neg (by omega), if_neg (by simp; omega), if_neg (by simp; omega), if_pos (by simp; omega), if_pos (by simp [valid_of _ h]; omega)]
    simp

theorem cp_of_valid (n : Nat) (h : Utf8.valid n = true) : isCp n = true := by
  rw [isCp_iff]
  simp [Utf8.valid] at h
  omega

theorem byte_eq (a : UInt8) (n : Nat) (h : a.toNat = n) : UInt8.ofNat n = a := by
  apply UInt8.toNat_inj.1
  have := a.toNat_lt
  rw [ofNat_toNat n (by omega), h]

theorem pre_two (a b : UInt8) (t : List UInt8) (h1 : a.toNat / 32 = 6) (h2 : b.toNat / 64 = 2) (h3 : 128 ≤ a.toNat % 32 * 64 + b.toNat % 64) :
    ∃ c, isCp c = true ∧ enc c <+: a :: b :: t := by
  have ha := a.toNat_lt
  have hb := b.toNat_lt
  refine ⟨((a.toNat % 32 * 64 + b.toNat % 64 : Nat) : Int), by rw [isCp_iff]; omega, ?_⟩
  rw [enc2 _ (by omega) (by omega), byte_eq a _ (by omega), byte_eq b _ (by omega)]
  exact ⟨t, rfl⟩

theorem pre_three (a b c : UInt8) (t : List UInt8) (h1 : a.toNat / 16 = 14) (h2 : b.toNat / 64 = 2) (h4 : c.toNat / 64 = 2) (h3 : 2048 ≤ a.toNat % 16 * 4096 + b.toNat % 64 * 64 + c.toNat % 64)
    (hv : Utf8.valid ((a.toNat % 16 * 4096 + b.toNat % 64 * 64 + c.toNat % 64 : Nat) : Int) = true) : ∃ r, isCp r = true ∧ enc r <+: a :: b :: c :: t := by
  have ha := a.toNat_lt
  have hb := b.toNat_lt
  have hc := c.toNat_lt
  refine ⟨((a.toNat % 16 * 4096 + b.toNat % 64 * 64 + c.toNat % 64 : Nat) : Int), cp_of_valid _ hv, ?_⟩
  rw [enc3 _ (by omega) (by omega), byte_eq a _ (by omega), byte_eq b _ (by omega), byte_eq c _ (by omega)]
  exact ⟨t, rfl⟩

theorem pre_four (a b c d : UInt8) (t : List UInt8) (h1 : a.toNat / 8 = 30) (h2 : b.toNat / 64 = 2) (h4 : c.toNat / 64 = 2) (h5 : d.toNat / 64 = 2) (h3 : 65536 ≤ a.toNat % 8 * 262144 + b.toNat % 64 * 4096 + c.toNat % 64 * 64 + d.toNat % 64)
    (hv : Utf8.valid ((a.toNat % 8 * 262144 + b.toNat % 64 * 4096 + c.toNat % 64 * 64 + d.toNat % 64 : Nat) : Int) = true) : ∃ r, isCp r = true ∧ enc r <+: a :: b :: c :: d :: t := by
  have ha := a.toNat_lt
  have hb := b.toNat_lt
  have hc := c.toNat_lt
  have hd := d.toNat_lt
  refine ⟨((a.toNat % 8 * 262144 + b.toNat % 64 * 4096 + c.toNat % 64 * 64 + d.toNat % 64 : Nat) : Int), cp_of_valid _ hv, ?_⟩
  rw [enc4 _ (by omega), byte_eq a _ (by omega), byte_eq b _ (by omega), byte_eq c _ (by omega), byte_eq d _ (by omega)]
  exact ⟨t, rfl⟩

/-- Where a range tells another thing than the bad byte's answer, a code point stands. -/
theorem decode_good (s : ByteArray) (pos : Nat) (a : UInt8) (t : List UInt8) (hl : s.data.toList.drop pos = a :: t) (q : Nat) (h : Utf8.decode s pos ≠ (q, 1) ∨ a.toNat < 128) (hq : q = 65533) : ∃ c, isCp c = true ∧ enc c <+: a :: t := by
  by_cases h0 : a.toNat < 128
  · refine ⟨(a.toNat : Int), by rw [isCp_iff]; omega, ?_⟩
    rw [enc1 _ h0, byte_eq a _ rfl]
    exact ⟨t, rfl⟩
  have hd : Utf8.decode s pos ≠ (q, 1) := by
    rcases h with h | h
    · exact h
    · exact absurd h h0
  rw [hq] at hd
  revert hd
  unfold Utf8.decode Utf8.runeError
  simp only [get_drop, in_drop, hl]
  clear hl
  simp only [List.getElem?_cons_zero, Option.getD_some]
  generalize (65533, 1) = z
  rw [if_neg h0]
  split
  · rename_i h1
    split
    · rename_i h2
      intro _
      cases t with
      | nil => simp at h1
      | cons b t =>
        simp only [List.getElem?_cons_succ, List.getElem?_cons_zero, Option.getD_some] at h1 h2
        simp at h1
        exact pre_two a b t h1.1 h1.2 h2
    · intro hx; exact absurd rfl hx
  split
  · rename_i h1 h2
    clear h1
    split
    · rename_i h3
      intro _
      cases t with
      | nil => simp at h2
      | cons b t =>
        cases t with
        | nil => simp at h2
        | cons c t =>
          simp only [List.getElem?_cons_succ, List.getElem?_cons_zero, Option.getD_some] at h2 h3
          simp at h2
          simp only [Bool.and_eq_true, decide_eq_true_eq] at h3
          exact pre_three a b c t h2.1.1 h2.1.2 h2.2 h3.1 h3.2
    · intro hx; exact absurd rfl hx
  split
  · rename_i h1 h2 h3
    clear h1 h2
    split
    · rename_i h4
      intro _
      cases t with
      | nil => simp at h3
      | cons b t =>
        cases t with
        | nil => simp at h3
        | cons c t =>
          cases t with
          | nil => simp at h3
          | cons d t =>
            simp only [List.getElem?_cons_succ, List.getElem?_cons_zero, Option.getD_some] at h3 h4
            simp at h3
            simp only [Bool.and_eq_true, decide_eq_true_eq] at h4
            exact pre_four a b c d t h3.1.1.1 h3.1.1.2 h3.1.2 h3.2 h4.1 h4.2
    · intro hx; exact absurd rfl hx
  · intro hx; exact absurd rfl hx

theorem decode_none (s : ByteArray) (pos : Nat) (l : List UInt8) (hl : s.data.toList.drop pos = l) (h : NoCp l) (hne : l ≠ []) : Utf8.decode s pos = (65533, 1) := by
  cases l with
  | nil => exact absurd rfl hne
  | cons a t =>
    by_cases hd : Utf8.decode s pos = (65533, 1)
    · exact hd
    · obtain ⟨c, hc, hp⟩ := decode_good s pos a t hl 65533 (.inl hd) rfl
      exact absurd hp (h c hc)

end Go.Proofs.YtpgdafmenbeffaaDoor.Sx

/- Plain facts about texts and their code points: nothing of the program is named here. -/
namespace Go.Proofs.YtpgdafmenbeffaaDoor.Sx

theorem enc_len (c : Int) (h : isCp c = true) : ((enc c).length : Int) = wid c := by
  obtain ⟨n, rfl, hn⟩ := cp_cases c h
  rcases hn with hn | ⟨h1, h2⟩ | ⟨h1, h2, h3⟩ | ⟨h1, h2⟩
  · rw [enc1 n hn]
    unfold wid
    rw [if_neg (by omega), if_pos (by omega)]
    rfl
  · rw [enc2 n h1 h2]
    unfold wid
    rw [if_neg (by omega), if_neg (by omega), if_pos (by omega)]
    rfl
  · rw [enc3 n h1 h2]
    unfold wid
    rw [if_neg (by omega), if_neg (by omega), if_neg (by omega)]
    rcases h3 with h3 | h3
    · rw [if_pos (by omega)]
      rfl
    · rw [if_neg (by omega), if_neg (by omega), if_pos (by omega)]
      rfl
  · rw [enc4 n h1]
    unfold wid
    rw [if_neg (by omega), if_neg (by omega), if_neg (by omega), if_neg (by omega), if_neg (by omega), if_neg (by omega), if_pos (by omega)]
    rfl

theorem wid_bd (c : Int) (h : isCp c = true) : 1 ≤ wid c ∧ wid c ≤ 4 := by
  rw [isCp_iff] at h
  unfold wid
  repeat' split
  all_goals omega

theorem enc_pos (c : Int) (h : isCp c = true) : 1 ≤ (enc c).length ∧ (enc c).length ≤ 4 := by
  have h1 := enc_len c h
  have h2 := wid_bd c h
  omega

theorem cp_toNat (c : Int) (h : isCp c = true) : ((c.toNat : Nat) : Int) = c := by
  rw [isCp_iff] at h
  omega

theorem encAll_append (a b : List Int) : encAll (a ++ b) = encAll a ++ encAll b := by
  induction a with
  | nil => rfl
  | cons c a ih => simp [encAll, ih]

theorem encAll_one (c : Int) : encAll [c] = enc c := by simp [encAll]

theorem parts_exists_aux (n : Nat) : ∀ l : List UInt8, l.length ≤ n → ∃ cs rest, Parts l cs rest := by
  induction n with
  | zero =>
    intro l hl
    have : l = [] := List.eq_nil_of_length_eq_zero (by omega)
    exact ⟨[], l, by simp [encAll], by simp, .inl this⟩
  | succ n ih =>
    intro l hl
    by_cases h : ∃ c, isCp c = true ∧ enc c <+: l
    · obtain ⟨c, hc, t, ht⟩ := h
      have hp := enc_pos c hc
      have hlen : l.length = (enc c).length + t.length := by rw [← ht]; simp
      obtain ⟨cs, rest, p⟩ := ih t (by omega)
      refine ⟨c :: cs, rest, ?_, ?_, p.stop⟩
      · rw [← ht, p.eq]
        simp [encAll]
      · intro x hx
        rcases List.mem_cons.1 hx with rfl | hx
        · exact hc
        · exact p.cp x hx
    · refine ⟨[], l, by simp [encAll], by simp, .inr ?_⟩
      intro c hc hp
      exact h ⟨c, hc, hp⟩

theorem parts_exists (l : List UInt8) : ∃ cs rest, Parts l cs rest := parts_exists_aux l.length l (Nat.le_refl _)

/-- Two code points at one beginning are one. -/
theorem enc_unique (a b : Int) (l : List UInt8) (ha : isCp a = true) (hb : isCp b = true) (pa : enc a <+: l) (pb : enc b <+: l) : a = b := by
  obtain ⟨t, rfl⟩ := pa
  obtain ⟨u, hu⟩ := pb
  have h1 := decode_cp ⟨(enc a ++ t).toArray⟩ 0 a t (by simp) ha
  have h2 := decode_cp ⟨(enc a ++ t).toArray⟩ 0 b u (by rw [← hu]; simp) hb
  rw [h1] at h2
  have h3 := congrArg Prod.fst h2
  have h4 := cp_toNat a ha
  have h5 := cp_toNat b hb
  simp only at h3
  omega

theorem size_list (s : ByteArray) : s.data.toList.length = s.size := by
  show s.data.toList.length = s.data.size
  simp

theorem decode_at (s : ByteArray) (d todo : List Int) (c : Int) (rest : List UInt8) (h : s.data.toList = encAll (d ++ c :: todo) ++ rest) (hc : isCp c = true) :
    Utf8.decode s (encAll d).length = (c.toNat, (enc c).length) := by
  refine decode_cp s _ c (encAll todo ++ rest) ?_ hc
  rw [h, encAll_append]
  simp only [List.append_assoc, List.drop_left, encAll]

theorem decode_stop (s : ByteArray) (cs : List Int) (rest : List UInt8) (h : s.data.toList = encAll cs ++ rest) (hn : NoCp rest) (hne : rest ≠ []) :
    Utf8.decode s (encAll cs).length = (65533, 1) := by
  refine decode_none s _ rest ?_ hn hne
  rw [h, List.drop_left]

/-- Does a text begin with the bytes of the number fffd? -/
def hp (t : ByteArray) : Bool := decide (t.data.toList.take 3 = [239, 191, 189])

theorem enc_bad : enc 65533 = [239, 191, 189] := by decide +kernel

theorem hp_yes (s : ByteArray) (d todo : List Int) (rest : List UInt8) (h : s.data.toList = encAll (d ++ 65533 :: todo) ++ rest) :
    hp (s.extract (encAll d).length s.size) = true := by
  have hz := size_list s
  unfold hp
  rw [Lib.extract_data, h, encAll_append]
  simp only [List.append_assoc, List.drop_left, encAll, enc_bad]
  rw [h, encAll_append] at hz
  simp [encAll, enc_bad] at hz
  have e : s.size - (encAll d).length = 3 + (encAll todo).length + rest.length := by omega
  rw [e]
  simp [List.take_take]
  rw [show min 3 (3 + (encAll todo).length + rest.length) = 3 by omega]
  simp

theorem hp_no (s : ByteArray) (cs : List Int) (rest : List UInt8) (h : s.data.toList = encAll cs ++ rest) (hn : NoCp rest) :
    hp (s.extract (encAll cs).length s.size) = false := by
  unfold hp
  rw [decide_eq_false_iff_not]
  intro e
  rw [Lib.extract_data, h, List.drop_left, List.take_take] at e
  have h1 : enc 65533 <+: rest := by
    rw [enc_bad, ← e]
    exact List.take_prefix _ _
  exact hn 65533 (by decide) h1

end Go.Proofs.YtpgdafmenbeffaaDoor.Sx

/- Plain facts about the numbers that a text's first bytes may stand for. -/
namespace Go.Proofs.YtpgdafmenbeffaaDoor.Sx

/-- A text's byte as a number. -/
def bt (s : ByteArray) (i : Nat) : Nat := (s.data.toList.getD i 0).toNat

theorem bt_at (s : ByteArray) (i : Nat) (h : i < s.size) : s[i].toNat = bt s i := by
  have h2 : i < s.data.size := h
  unfold bt
  have e : s.data.toList.getD i 0 = s[i] := by
    rw [List.getD_eq_getElem?_getD, Array.getElem?_toList, Array.getElem?_eq_getElem h2]
    rfl
  rw [e]

theorem bt_lt (s : ByteArray) (i : Nat) : bt s i < 256 := by
  unfold bt
  exact UInt8.toNat_lt _

/-- What stands at a text's beginning: a code point of K bytes; or none: then K is 5. -/
def Target (l : List UInt8) (K : Nat) (c : Int) : Prop := (K = 5 ∧ NoCp l) ∨ (isCp c = true ∧ K = (enc c).length ∧ enc c <+: l)

end Go.Proofs.YtpgdafmenbeffaaDoor.Sx

/- The machine that tells a text's tokens, code point by code point, as plain mathematics: nothing of the program is named here. -/
namespace Go.Proofs.YtpgdafmenbeffaaDoor.Sx

/-- The class of a number: 0 Other, 1 Letter, 2 Digit, 3 Blank, 4 Mark. -/
def kl (r : Int) : Int :=
  if isCp r = false then 0 else if 128 ≤ r ∨ (97 ≤ r ∧ r ≤ 122) ∨ (65 ≤ r ∧ r ≤ 90) ∨ r = 95 then 1 else if 48 ≤ r ∧ r ≤ 57 then 2
  else if r = 9 ∨ r = 10 ∨ r = 13 ∨ r = 32 then 3 else if 32 < r ∧ r < 127 then 4 else 0

/-- Is a number one of the six marks? -/
def isMark (c : Int) : Bool := decide (c = 123 ∨ c = 125 ∨ c = 40 ∨ c = 41 ∨ c = 59 ∨ c = 44)

/-- A token: what it is, its bytes, its place. -/
structure Tok where
  kind : Int
  text : List UInt8
  at_ : Nat

/-- How far a text has been gone through: the tokens that are done, the name that may go on, whether a remark stands open. -/
structure Sc where
  done : List Tok
  cur : Option (Nat × List UInt8)
  remark : Bool

def curToks : Option (Nat × List UInt8) → List Tok
  | none => []
  | some p => [⟨1, p.2, p.1⟩]

def Sc.toks (s : Sc) : List Tok := s.done ++ curToks s.cur

def sc0 : Sc := ⟨[], none, false⟩

inductive Out where
  | ok (s : Sc)
  | err (p : Nat) (e : Int)

def letterS (s : Sc) (at_ : Nat) (c : Int) : Out :=
  match s.cur with
  | none => .ok ⟨s.done, some (at_, enc c), false⟩
  | some p => if p.1 + 24 < at_ + (enc c).length then .err p.1 5 else .ok ⟨s.done, some (p.1, p.2 ++ enc c), false⟩

def stepS (s : Sc) (at_ : Nat) (c : Int) : Out :=
  if s.remark = true then .ok ⟨s.done, s.cur, decide (c ≠ 10)⟩
  else if c = 35 then .ok ⟨s.toks, none, true⟩
  else if kl c = 3 then .ok ⟨s.toks, none, false⟩
  else if isMark c = true then .ok ⟨s.toks ++ [⟨2, enc c, at_⟩], none, false⟩
  else if kl c = 2 then (match s.cur with | none => .err at_ 10 | some _ => letterS s at_ c)
  else if kl c = 1 then letterS s at_ c
  else .err at_ 10

def goS (s : Sc) (at_ : Nat) : List Int → Out
  | [] => .ok s
  | c :: cs => match stepS s at_ c with
    | .ok s' => goS s' (at_ + (enc c).length) cs
    | .err p e => .err p e

theorem goS_append (a b : List Int) : ∀ (s : Sc) (p : Nat), goS s p (a ++ b) = match goS s p a with
    | .ok s' => goS s' (p + (encAll a).length) b
    | .err q e => .err q e := by
  induction a with
  | nil => intro s p; simp [goS, encAll]
  | cons c a ih =>
    intro s p
    simp only [List.cons_append, goS]
    cases h : stepS s p c with
    | ok s' =>
      simp only
      rw [ih]
      simp [encAll, Nat.add_assoc]
    | err q e => rfl

theorem goS_snoc_ok {s s' : Sc} {p : Nat} {d : List Int} (h : goS s p d = .ok s') (c : Int) : goS s p (d ++ [c]) = stepS s' (p + (encAll d).length) c := by
  rw [goS_append, h]
  simp only [goS]
  cases stepS s' (p + (encAll d).length) c <;> rfl

theorem goS_prefix {s s' : Sc} {p : Nat} {a b : List Int} (h : goS s p (a ++ b) = .ok s') : ∃ s1, goS s p a = .ok s1 ∧ goS s1 (p + (encAll a).length) b = .ok s' := by
  rw [goS_append] at h
  cases h1 : goS s p a with
  | ok s1 => rw [h1] at h; exact ⟨s1, rfl, h⟩
  | err q e => rw [h1] at h; cases h

/-- Induction from behind. -/
theorem snoc_ind {α : Type} {P : List α → Prop} (h0 : P []) (h1 : ∀ d c, P d → P (d ++ [c])) (l : List α) : P l := by
  have h : ∀ n, ∀ l : List α, l.length = n → P l := by
    intro n
    induction n with
    | zero => intro l hl; rw [List.eq_nil_of_length_eq_zero hl]; exact h0
    | succ n ih =>
      intro l hl
      have hne : l ≠ [] := by intro h; rw [h] at hl; cases hl
      rw [← List.dropLast_concat_getLast hne]
      exact h1 _ _ (ih _ (by rw [List.length_dropLast, hl]; rfl))
  exact h _ l rfl

theorem kl_name (c : Int) (h : kl c = 1 ∨ kl c = 2) : c ≠ 35 ∧ kl c ≠ 3 ∧ isMark c = false ∧ c ≠ 10 := by
  have h3 : kl c ≠ 3 := by omega
  unfold kl at h
  refine ⟨?_, h3, ?_, ?_⟩
  · rintro rfl; revert h; decide
  · unfold isMark
    rw [decide_eq_false_iff_not]
    rintro (rfl | rfl | rfl | rfl | rfl | rfl) <;> (revert h; decide)
  · rintro rfl; revert h; decide

theorem kl_mark (c : Int) (h : isMark c = true) : kl c = 4 ∧ c ≠ 35 ∧ enc c = [UInt8.ofNat c.toNat] ∧ isCp c = true ∧ 0 ≤ c ∧ c < 128 := by
  unfold isMark at h
  rw [decide_eq_true_eq] at h
  rcases h with rfl | rfl | rfl | rfl | rfl | rfl <;> decide +kernel

/-- The ways a step goes well. -/
theorem step_ok {s s' : Sc} {p : Nat} {c : Int} (h : stepS s p c = .ok s') :
    (s.remark = true ∧ s' = ⟨s.done, s.cur, decide (c ≠ 10)⟩) ∨
    (s.remark = false ∧ (c = 35 ∨ kl c = 3) ∧ s' = ⟨s.toks, none, decide (c = 35)⟩) ∨
    (s.remark = false ∧ isMark c = true ∧ s' = ⟨s.toks ++ [⟨2, enc c, p⟩], none, false⟩) ∨
    (s.remark = false ∧ s.cur = none ∧ kl c = 1 ∧ s' = ⟨s.done, some (p, enc c), false⟩) ∨
    (∃ q t, s.remark = false ∧ s.cur = some (q, t) ∧ (kl c = 1 ∨ kl c = 2) ∧ p + (enc c).length ≤ q + 24 ∧ s' = ⟨s.done, some (q, t ++ enc c), false⟩) := by
  have fin : s.remark = false → (kl c = 1 ∨ (kl c = 2 ∧ s.cur ≠ none)) → letterS s p c = .ok s' →
      (s.remark = false ∧ s.cur = none ∧ kl c = 1 ∧ s' = ⟨s.done, some (p, enc c), false⟩) ∨
      (∃ q t, s.remark = false ∧ s.cur = some (q, t) ∧ (kl c = 1 ∨ kl c = 2) ∧ p + (enc c).length ≤ q + 24 ∧ s' = ⟨s.done, some (q, t ++ enc c), false⟩) := by
    intro hr hk hl
    unfold letterS at hl
    split at hl
    · rename_i hc
      simp only [Out.ok.injEq] at hl
      rcases hk with hk | ⟨_, hn⟩
      · exact .inl ⟨hr, hc, hk, hl.symm⟩
      · exact absurd hc hn
    · rename_i q hc
      split at hl
      · cases hl
      · rename_i hle
        simp only [Out.ok.injEq] at hl
        exact .inr ⟨q.1, q.2, hr, hc, hk.imp id And.left, by omega, hl.symm⟩
  unfold stepS at h
  split at h
  · rename_i hr
    simp only [Out.ok.injEq] at h
    exact .inl ⟨hr, h.symm⟩
  rename_i hr
  have hr : s.remark = false := by simpa using hr
  split at h
  · rename_i hc
    simp only [Out.ok.injEq] at h
    exact .inr (.inl ⟨hr, .inl hc, by rw [← h]; simp [hc]⟩)
  rename_i hc
  split at h
  · rename_i hk
    simp only [Out.ok.injEq] at h
    exact .inr (.inl ⟨hr, .inr hk, by rw [← h]; simp [hc]⟩)
  split at h
  · rename_i hm
    simp only [Out.ok.injEq] at h
    exact .inr (.inr (.inl ⟨hr, hm, h.symm⟩))
  split at h
  · rename_i hk
    split at h
    · cases h
    · rename_i q hcur
      exact .inr (.inr (.inr (fin hr (.inr ⟨hk, by rw [hcur]; simp⟩) h)))
  split at h
  · rename_i hk
    exact .inr (.inr (.inr (fin hr (.inl hk) h)))
  · cases h

/-- The ways a step goes wrong. -/
theorem step_err {s : Sc} {p : Nat} {c : Int} {q : Nat} {e : Int} (h : stepS s p c = .err q e) :
    s.remark = false ∧ c ≠ 35 ∧ kl c ≠ 3 ∧ isMark c = false ∧
    ((q = p ∧ e = 10 ∧ ((kl c = 2 ∧ s.cur = none) ∨ (kl c ≠ 1 ∧ kl c ≠ 2))) ∨
     (∃ t, e = 5 ∧ s.cur = some (q, t) ∧ (kl c = 1 ∨ kl c = 2) ∧ q + 24 < p + (enc c).length)) := by
  have fin : (kl c = 1 ∨ kl c = 2) → letterS s p c = .err q e → ∃ t, e = 5 ∧ s.cur = some (q, t) ∧ (kl c = 1 ∨ kl c = 2) ∧ q + 24 < p + (enc c).length := by
    intro hk hl
    unfold letterS at hl
    split at hl
    · cases hl
    · rename_i x hc
      split at hl
      · rename_i hle
        simp only [Out.err.injEq] at hl
        obtain ⟨rfl, rfl⟩ := hl
        exact ⟨x.2, rfl, hc, hk, hle⟩
      · cases hl
  unfold stepS at h
  split at h
  · cases h
  rename_i hr
  have hr : s.remark = false := by simpa using hr
  split at h
  · cases h
  rename_i h35
  split at h
  · cases h
  rename_i h3
  split at h
  · cases h
  rename_i hm
  refine ⟨hr, h35, h3, by simpa using hm, ?_⟩
  split at h
  · rename_i hk
    split at h
    · rename_i hcur
      simp only [Out.err.injEq] at h
      exact .inl ⟨h.1.symm, h.2.symm, .inl ⟨hk, hcur⟩⟩
    · exact .inr (fin (.inr hk) h)
  rename_i hk2
  split at h
  · rename_i hk
    exact .inr (fin (.inl hk) h)
  · rename_i hk1
    simp only [Out.err.injEq] at h
    exact .inl ⟨h.1.symm, h.2.symm, .inr ⟨hk1, hk2⟩⟩

/-- A name's code point, where a name goes on. -/
theorem step_more (done : List Tok) (q : Nat) (t : List UInt8) (p : Nat) (c : Int) (hk : kl c = 1 ∨ kl c = 2) :
    stepS ⟨done, some (q, t), false⟩ p c = if q + 24 < p + (enc c).length then .err q 5 else .ok ⟨done, some (q, t ++ enc c), false⟩ := by
  obtain ⟨h1, h2, h3, _⟩ := kl_name c hk
  unfold stepS
  simp only [h1, h2, h3, if_false, Bool.false_eq_true]
  rcases hk with hk | hk
  · rw [if_neg (by omega), if_pos hk]
    rfl
  · rw [if_pos hk]
    rfl

/-- A Letter, where no name goes on. -/
theorem step_new (done : List Tok) (p : Nat) (c : Int) (hk : kl c = 1) : stepS ⟨done, none, false⟩ p c = .ok ⟨done, some (p, enc c), false⟩ := by
  obtain ⟨h1, h2, h3, _⟩ := kl_name c (.inl hk)
  unfold stepS
  simp only [h1, h2, h3, if_false, Bool.false_eq_true]
  rw [if_neg (by omega), if_pos hk]
  rfl

/-- In an open remark no name goes on. -/
theorem remark_cur : ∀ (d : List Int) (s : Sc), goS sc0 0 d = .ok s → s.remark = true → s.cur = none := by
  intro d
  induction d using snoc_ind with
  | h0 => intro s h _; simp only [goS, Out.ok.injEq] at h; rw [← h]; rfl
  | h1 d c ih =>
    intro s h hr
    obtain ⟨s1, h1, h2⟩ := goS_prefix h
    rw [goS_snoc_ok h1] at h
    rcases step_ok h with ⟨a, rfl⟩ | ⟨_, _, rfl⟩ | ⟨_, _, rfl⟩ | ⟨_, _, _, rfl⟩ | ⟨_, _, _, _, _, _, rfl⟩
    · exact ih s1 h1 a
    · rfl
    · rfl
    · cases hr
    · cases hr

/-- The name that goes on: its bytes are the last ones, and from its first byte on alone it is read the same. -/
theorem cur_inv : ∀ (d : List Int) (s : Sc), goS sc0 0 d = .ok s → ∀ p t, s.cur = some (p, t) →
    ∃ d1 d2, d = d1 ++ d2 ∧ t = encAll d2 ∧ p = (encAll d1).length ∧ (∃ s1, goS sc0 0 d1 = .ok s1) ∧ goS sc0 0 d2 = .ok ⟨[], some (0, t), false⟩ ∧ d2 ≠ [] := by
  intro d
  induction d using snoc_ind with
  | h0 => intro s h p t hc; simp only [goS, Out.ok.injEq] at h; rw [← h] at hc; cases hc
  | h1 d c ih =>
    intro s h p t hc
    obtain ⟨s1, h1, h2⟩ := goS_prefix h
    rw [goS_snoc_ok h1, Nat.zero_add] at h
    rcases step_ok h with ⟨a, rfl⟩ | ⟨_, _, rfl⟩ | ⟨_, _, rfl⟩ | ⟨_, _, hk, rfl⟩ | ⟨q, u, _, hcur, hk, hle, rfl⟩
    · rw [show s1.cur = none from remark_cur d s1 h1 a] at hc
      cases hc
    · cases hc
    · cases hc
    · simp only [Option.some.injEq, Prod.mk.injEq] at hc
      obtain ⟨rfl, rfl⟩ := hc
      refine ⟨d, [c], rfl, by simp [encAll], rfl, ⟨s1, h1⟩, ?_, by simp⟩
      simp only [goS, sc0, step_new [] 0 c hk]
    · simp only [Option.some.injEq, Prod.mk.injEq] at hc
      obtain ⟨rfl, rfl⟩ := hc
      obtain ⟨d1, d2, e1, e2, e3, e4, e5, e6⟩ := ih s1 h1 q u hcur
      refine ⟨d1, d2 ++ [c], by rw [e1]; simp, by rw [encAll_append, encAll_one, e2], e3, e4, ?_, by simp⟩
      rw [goS_snoc_ok e5, step_more _ _ _ _ _ hk]
      have hlen : (encAll d).length = (encAll d1).length + (encAll d2).length := by rw [e1, encAll_append, List.length_append]
      rw [if_neg (by omega)]

/-- What a text's tokens are: the answer, by the text's code points and what is left from the first bad byte on. -/
structure Res where
  toks : List Tok
  place : Nat
  err : Int

def lexR (cs : List Int) (rest : List UInt8) : Res :=
  match goS sc0 0 cs with
  | .err p e => ⟨[], p, e⟩
  | .ok s => if rest = [] then ⟨s.toks, (encAll cs).length, 0⟩ else ⟨[], (encAll cs).length, 4⟩

/-- The tokens are not more than the bytes. -/
theorem toks_len : ∀ (d : List Int), (∀ c ∈ d, isCp c = true) → ∀ s, goS sc0 0 d = .ok s → s.toks.length ≤ (encAll d).length := by
  intro d
  induction d using snoc_ind with
  | h0 => intro _ s h; simp only [goS, Out.ok.injEq] at h; rw [← h]; simp [Sc.toks, sc0, curToks]
  | h1 d c ih =>
    intro hcp s h
    obtain ⟨s1, h1, h2⟩ := goS_prefix h
    rw [goS_snoc_ok h1, Nat.zero_add] at h
    have hi := ih (fun x hx => hcp x (by simp [hx])) s1 h1
    have he := (enc_pos c (hcp c (by simp))).1
    rw [encAll_append, encAll_one, List.length_append]
    rcases step_ok h with ⟨a, rfl⟩ | ⟨_, _, rfl⟩ | ⟨_, _, rfl⟩ | ⟨_, hc, hk, rfl⟩ | ⟨q, u, _, hcur, hk, hle, rfl⟩
    · simp [Sc.toks] at hi ⊢; omega
    · simp [Sc.toks, curToks] at hi ⊢; omega
    · simp [Sc.toks, curToks] at hi ⊢; omega
    · simp [Sc.toks, curToks] at hi ⊢; omega
    · simp [Sc.toks, curToks, hcur] at hi ⊢; omega

end Go.Proofs.YtpgdafmenbeffaaDoor.Sx

/- Plain facts about the machine: where it stops, and what it has told behind a token's last byte. -/
namespace Go.Proofs.YtpgdafmenbeffaaDoor.Sx

theorem lexR_ok {cs : List Int} {st : Sc} (h : goS sc0 0 cs = .ok st) : lexR cs [] = ⟨st.toks, (encAll cs).length, 0⟩ := by
  unfold lexR
  rw [h]
  rfl

end Go.Proofs.YtpgdafmenbeffaaDoor.Sx

/- Plain facts about names: a name goes as far as Letters and Digits stand. -/
namespace Go.Proofs.YtpgdafmenbeffaaDoor.Sx

/-- Is a number a name's code point? -/
def isNm (c : Int) : Bool := decide (kl c = 1 ∨ kl c = 2)

theorem isNm_iff (c : Int) : isNm c = true ↔ (kl c = 1 ∨ kl c = 2) := by simp [isNm]

/-- A name that goes on. -/
theorem go_more (r : List Int) (hr : ∀ c ∈ r, isNm c = true) (hcp : ∀ c ∈ r, isCp c = true) : ∀ (done : List Tok) (q : Nat) (t : List UInt8) (p : Nat), p = q + t.length → t.length ≤ 24 →
    goS ⟨done, some (q, t), false⟩ p r = if q + 24 < p + (encAll r).length then .err q 5 else .ok ⟨done, some (q, t ++ encAll r), false⟩ := by
  induction r with
  | nil =>
    intro done q t p hp ht
    have h0 : (encAll []).length = 0 := rfl
    rw [if_neg (by omega)]
    simp [goS, encAll]
  | cons c r ih =>
    intro done q t p hp ht
    have hk := (isNm_iff c).1 (hr c (by simp))
    simp only [goS]
    rw [step_more _ _ _ _ _ hk]
    by_cases hb : q + 24 < p + (enc c).length
    · rw [if_pos hb, if_pos (by simp [encAll]; omega)]
    · rw [if_neg hb]
      simp only
      rw [ih (fun x hx => hr x (by simp [hx])) (fun x hx => hcp x (by simp [hx])) done q (t ++ enc c) (p + (enc c).length) (by simp; omega) (by simp; omega)]
      have e : p + (enc c).length + (encAll r).length = p + (encAll (c :: r)).length := by simp [encAll]; omega
      rw [e]
      simp [encAll]

/-- A name from its first code point on. -/
theorem go_name (c : Int) (r : List Int) (hc : kl c = 1) (hr : ∀ x ∈ r, isNm x = true) (hcp : ∀ x ∈ c :: r, isCp x = true) (done : List Tok) (p : Nat) :
    goS ⟨done, none, false⟩ p (c :: r) = if 24 < (encAll (c :: r)).length then .err p 5 else .ok ⟨done, some (p, encAll (c :: r)), false⟩ := by
  have hz := enc_pos c (hcp c (by simp))
  simp only [goS]
  rw [step_new done p c hc]
  simp only
  rw [go_more r hr (fun x hx => hcp x (by simp [hx])) done p (enc c) (p + (enc c).length) rfl (by omega)]
  have e : p + (enc c).length + (encAll r).length = p + (encAll (c :: r)).length := by simp [encAll]; omega
  rw [e]
  by_cases hb : 24 < (encAll (c :: r)).length
  · rw [if_pos hb, if_pos (by omega)]
  · rw [if_neg hb, if_neg (by omega)]
    simp [encAll]

end Go.Proofs.YtpgdafmenbeffaaDoor.Sx

/- Walks over glyph.Width and the document's Is and Width: what each answers of any number. -/
namespace Go.Proofs.YtpgdafmenbeffaaDoor.Sx

open Go.RowKit

theorem ret_int {k : IntKind} {a b : Int} (h : a = b) : Ending.returned (.int k a) = .returned (.int k b) := by rw [h]

theorem ret_bool {a b : Bool} (h : a = b) : Ending.returned (.bool a) = .returned (.bool b) := by rw [h]

set_option maxHeartbeats 800000 in
theorem gwidth_any (r : Int) (w : World) :
    Calls Tryd.prog 84 #[.int .i64 r] w fun e w' => e = .returned (.int .i64 (wid r)) ∧ w' = w.alloc (.cells #[.int .i64 r] 3) := by
  go_enter Tryd.func84, Tryd.ntmps84
  go_wp2
  all_goals go_ret
  all_goals refine ⟨ret_int ?_, rfl⟩
  all_goals unfold wid
  all_goals repeat' split
  all_goals omega

end Go.Proofs.YtpgdafmenbeffaaDoor.Sx

