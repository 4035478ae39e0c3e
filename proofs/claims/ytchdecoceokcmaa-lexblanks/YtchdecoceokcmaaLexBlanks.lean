/- For every list of texts and every bytes the law LexBlanks answers true: blanks and remarks between tokens turn no token but its place. No condition. -/
import Derived.Test.YtchdecoceokcmaaRows
import Derived.Test.YtchdecoceokcmaaWL
import Derived.Test.YtchdecoceokcmaaMi
import Derived.ProofKit
import Derived.OpenShut
import Derived.ShutString
import Derived.ChangeOld
import Derived.Deep.Strs
namespace Go.Proofs.Ytchdecoceokcmaa.lexBlanks
open Go.ChangeShapes Go.WideShapes Go.ChangeAt Go.RowKit
open Go.ChangeMaps (open_string shut_string)
set_option linter.unusedVariables false

theorem own : ownKnob Try.prog.godebug = none := by kernel_rfl
theorem laidOut : laidOutB Try.prog = true := by kernel_rfl

theorem reads_strs {w : World} {a : Addr} {len cap m : Nat} {Sx : Nat → ByteArray} (h : ∀ i, i < m → w.cell? (a.add i) = some (.string (Sx i)) ∧ (Sx i).size ≤ maxLen) (hm : len ≤ m) : ReadsS w (.slice (some a) len cap) ((List.range len).map Sx) := by
  refine ⟨some a, cap, by simp, fun i x hi => ?_⟩
  have hil : i < len := by have := (List.getElem?_eq_some_iff.1 hi).1; simpa using this
  have hx : x = Sx i := by simp [hil] at hi; exact hi.symm
  subst hx
  obtain ⟨b, off, spot⟩ := a
  have hspot : spot = none := by simpa [Addr.add] using World.cell?_spot (h 0 (by omega)).1
  subst hspot
  exact ⟨b, off, rfl, by rw [← Go.WideShapes.add_plain]; exact (h i (by omega)).1⟩

/-- A slice that reads as bytes. -/
def ReadsB (w : World) (v : Value) (zs : List Int) : Prop :=
  ∃ a cap, v = .slice a zs.length cap ∧ ∀ i z, zs[i]? = some z → (0 ≤ z ∧ z < 256) ∧ ∃ b off, a = some ⟨b, off, none⟩ ∧ w.cell? ⟨b, off + i, none⟩ = some (.int .u8 z)

set_option maxRecDepth 1000000 in
set_option maxHeartbeats 1000000 in
theorem walk_big (x y0 : Value) (xs : List ByteArray) (w : World) (hx : ReadsS w x xs) (h : 300 < xs.length) :
    Calls Try.prog 6 #[x, y0] w fun e w' => e = .returned (.bool true) ∧ Below w.heap.size w w' := by
  obtain ⟨a, ca, rfl, _⟩ := hx
  generalize xs.length = n at *
  go_enter Try.func6, Try.ntmps6
  go_wp2_with fail
  refine (lives_any _).mono ?_
  rintro e w1 ⟨rfl, hb1⟩
  go_wp2
  go_ret
  exact ⟨rfl, hb1⟩

set_option maxRecDepth 1000000 in
set_option maxHeartbeats 1000000 in
theorem walk_bad (x y0 : Value) (xs : List ByteArray) (w : World) (hx : ReadsS w x xs) (h : xs.length ≤ 300) (hbad : ∃ y ∈ xs, good y = false) :
    Calls Try.prog 6 #[x, y0] w fun e w' => e = .returned (.bool true) ∧ Below w.heap.size w w' := by
  have HT : Hid _ := texts_any x xs w hx h
  obtain ⟨a, ca, rfl, _⟩ := hx
  have hng : ¬ ∀ y ∈ xs, good y = true := by
    obtain ⟨y, hy, hb⟩ := hbad
    intro hall
    rw [hall y hy] at hb
    cases hb
  have HN : Hid _ := hng
  clear hng hbad
  generalize hn : xs.length = n at *
  clear hn
  go_enter Try.func6, Try.ntmps6
  go_wp2_with fail
  refine Calls.mono HT.out ?_
  rintro e w1 ⟨hb1, ⟨hall, _⟩ | ⟨_, rfl⟩⟩
  · exact absurd hall HN.out
  clear HT
  go_wp2_with fail
  refine (lives_any _).mono ?_
  rintro e w2 ⟨rfl, hb2⟩
  go_wp2
  go_ret
  exact ⟨rfl, hb1.trans (hb2.mono hb1.size)⟩


/-- The text of a part is put behind. -/
theorem push_text (ps : List (List Int × List Int × Int)) (j : Nat) (r : List Int) (k : Int) (sep y : ByteArray) (hs : sep.data.toList = encAll (sepc j)) (hy : y.data.toList = encAll r) :
    (⟨(encAll (flat ps)).toArray⟩ : ByteArray) ++ sep ++ y = ⟨(encAll (flat (ps ++ [(sepc j, r, k)]))).toArray⟩ := by
  apply ByteArray.ext
  apply Array.ext'
  rw [flat_snoc, encAll_append, encAll_append]
  have h1 : ∀ a b : ByteArray, (a ++ b).data.toList = a.data.toList ++ b.data.toList := fun a b => by simp
  rw [h1, h1, hs, hy]

/-- The law's own text as it grows. -/
def Grown2 (rk : List (List Int × Int)) (k : Nat) (sv : ByteArray) : Prop :=
  ∃ ps : List (List Int × List Int × Int), sv = ⟨(encAll (flat ps)).toArray⟩ ∧ (∀ x ∈ ps, ∃ j, x.1 = sepc j) ∧ ps.map (fun x => x.2) = rk.take k

theorem grown_step (rk : List (List Int × Int)) (k : Nat) (sv sep y : ByteArray) (h : Grown2 rk k sv) (j : Nat) (hs : sep.data.toList = encAll (sepc j)) (p : List Int × Int) (hp : rk[k]? = some p) (hy : y.data.toList = encAll p.1) : Grown2 rk (k + 1) (sv ++ sep ++ y) := by
  obtain ⟨ps, rfl, h2, h3⟩ := h
  refine ⟨ps ++ [(sepc j, p.1, p.2)], push_text ps j p.1 p.2 sep y hs hy, ?_, ?_⟩
  · intro x hx
    rcases List.mem_append.1 hx with hx | hx
    · exact h2 x hx
    · simp only [List.mem_singleton] at hx
      subst hx
      exact ⟨j, rfl⟩
  · rw [List.map_append, h3]
    obtain ⟨hk, he⟩ := List.getElem?_eq_some_iff.1 hp
    rw [List.take_succ_eq_append_getElem hk, he]
    rfl

theorem rem_six (z : Int) (h0 : 0 ≤ z) : z.tmod 6 = 0 ∨ z.tmod 6 = 1 ∨ z.tmod 6 = 2 ∨ z.tmod 6 = 3 ∨ z.tmod 6 = 4 ∨ z.tmod 6 = 5 := by
  rw [Int.tmod_eq_emod_of_nonneg h0]
  omega

set_option maxRecDepth 1000000 in
set_option maxHeartbeats 2000000 in
theorem walk_good (x y0 : Value) (xs : List ByteArray) (zs : List Int) (w : World) (hx : ReadsS w x xs) (hy : ReadsB w y0 zs) (h : xs.length ≤ 300) (hgood : ∀ y ∈ xs, good y = true) :
    Calls Try.prog 6 #[x, y0] w fun e w' => e = .returned (.bool true) ∧ Below w.heap.size w w' := by
  have HT : Hid _ := texts_any x xs w hx h
  obtain ⟨a, ca, rfl, hxr⟩ := hx
  obtain ⟨b, cb, rfl, hyr⟩ := hy
  obtain ⟨rk, hr1, hr2, hr3⟩ := good_toks xs hgood
  have hrl : rk.length = xs.length := by
    have := congrArg List.length hr2
    simp at this
    exact this.symm
  have HG : Hid _ := hgood
  have hml : (xs.map mkTok).length ≤ 100000 := by simp; omega
  have hrd : ∀ (k : Nat) (y : ByteArray), xs[k]? = some y → ∃ p, rk[k]? = some p ∧ y.data.toList = encAll p.1 := by
    intro k y hy
    have hk := (List.getElem?_eq_some_iff.1 hy).1
    have e := congrArg (fun l => l[k]?) hr1
    simp only [bys, List.getElem?_map, hy, Option.map_some] at e
    cases hp : rk[k]? with
    | none => rw [hp] at e; cases e
    | some p =>
      rw [hp] at e
      simp only [Option.map_some, Option.some.injEq] at e
      exact ⟨p, rfl, e⟩
  have HRD : Hid _ := hrd
  have HTOK : Hid _ := hr3
  have HXR : Hid _ := hxr
  have HYR : Hid _ := hyr
  have HFIN : Hid (∀ sv, Grown2 rk xs.length sv → sv.size ≤ 20000 ∧ ∃ U : List Tok, (∀ wx, Calls Try.prog 10 #[.string (sv ++ ⟨#[32, 35, 32, 116, 104, 101, 32, 101, 110, 100]⟩)] wx fun e w' => Lexed wx ⟨U, sv.size + 10, 0⟩ e w') ∧ (xs.map mkTok).length = U.length ∧ ∀ (i : Nat) (t u : Tok), (xs.map mkTok)[i]? = some t → U[i]? = some u → t.kind = u.kind ∧ t.text = u.text) := by
    rintro sv ⟨ps, rfl, h2, h3⟩
    rw [List.take_of_length_le (by omega)] at h3
    have hpl : ps.length ≤ 300 := by
      have := congrArg List.length h3
      simp at this
      omega
    have hps : ∀ x ∈ ps, (∃ j, x.1 = sepc j) ∧ IsTok x.2.1 x.2.2 := by
      intro x hx
      refine ⟨h2 x hx, hr3 x.2 ?_⟩
      rw [← h3]
      exact List.mem_map.2 ⟨x, hx, rfl⟩
    obtain ⟨hcp, hlen, hlen2, st, hg, hst⟩ := blanks_lex ps hps hpl
    have hsz : (⟨(encAll (flat ps)).toArray⟩ : ByteArray).size = (encAll (flat ps)).length := by show (encAll (flat ps)).toArray.size = _; simp
    have hdl : ((⟨(encAll (flat ps)).toArray⟩ : ByteArray) ++ ⟨#[32, 35, 32, 116, 104, 101, 32, 101, 110, 100]⟩).data.toList = encAll (flat ps ++ tailc) := by
      have h1 : ∀ a b : ByteArray, (a ++ b).data.toList = a.data.toList ++ b.data.toList := fun a b => by simp
      rw [h1, encAll_append]
      congr 1
    have hP : Parts ((⟨(encAll (flat ps)).toArray⟩ : ByteArray) ++ ⟨#[32, 35, 32, 116, 104, 101, 32, 101, 110, 100]⟩).data.toList (flat ps ++ tailc) [] := ⟨by rw [hdl]; simp, hcp, .inl rfl⟩
    have hsz2 : ((⟨(encAll (flat ps)).toArray⟩ : ByteArray) ++ ⟨#[32, 35, 32, 116, 104, 101, 32, 101, 110, 100]⟩).size = (encAll (flat ps)).length + 10 := by rw [← size_list, hdl, hlen2]
    have hstrip : (xs.map mkTok).map strip = st.toks.map strip := by
      rw [hst, hr2, ← h3]
      simp [strip]
    obtain ⟨q1, q2⟩ := strip_same hstrip
    refine ⟨by omega, st.toks, fun wx => ?_, q1, q2⟩
    have h := lex_any _ _ _ hP wx (by omega)
    rw [lexR_ok hg, hlen2, ← hsz] at h
    exact h
  have hgr0 : Grown2 rk 0 ⟨#[]⟩ := ⟨[], rfl, by simp, rfl⟩
  clear hgood hr1 hr2 hr3 hrl hxr hyr hrd
  have hmn : (xs.map mkTok).length = xs.length := by simp
  generalize hn : xs.length = n at *
  generalize hT : xs.map mkTok = T at *
  clear hT hmn
  generalize hzn : zs.length = zn at *
  have HN : Hid (xs.length = n) := hn
  have HZN : Hid (zs.length = zn) := hzn
  clear hn hzn
  go_enter Try.func6, Try.ntmps6
  go_wp2_with fail
  refine Calls.mono HT.out ?_
  rintro e w1 ⟨hb1, hcase⟩
  have hcase2 : ∃ v, e = .returned (.tuple #[v, .bool true]) ∧ w1.ownsRow w.heap.size 38 3 v T.length (tvs T) := by
    rcases hcase with ⟨_, hv⟩ | ⟨⟨y, hy, hb⟩, _⟩
    · exact hv
    · rw [HG.out y hy] at hb
      cases hb
  obtain ⟨v, rfl, hown1⟩ := hcase2
  have hR1 : ReadsT w1 v T := readsT_of_owns hown1
  have hvs : ∃ a n c, v = .slice a n c := by
    obtain ⟨a, c, hv, _⟩ := readsT_of_owns hown1
    exact ⟨a, _, c, hv⟩
  obtain ⟨va, vn, vc, rfl⟩ := hvs
  have HR1 : Hid (ReadsT w1 (.slice va vn vc) T) := hR1
  clear HT HG hown1 hcase hR1
  have hbl1 := Below.refl w1.heap.size w1
  go_wp2
  go_loopw [7, 8, 9] (fun sv iv _ wr => ∃ (k : Nat) (sb : ByteArray), k ≤ n ∧ Hid (Grown2 rk k sb) ∧ sv = .string sb ∧ iv = .int .i64 k ∧ sb.size ≤ 34 * k ∧ Below w1.heap.size w1 wr) (fun _ iv _ _ => n - (intOf iv).toNat)
  case atStart => exact ⟨0, ⟨#[]⟩, Nat.zero_le _, hgr0, rfl, rfl, by decide, hbl1⟩
  case round =>
    clear hgr0 hbl1
    obtain ⟨k, sb, hk, HGR, rfl, rfl, hsb, hbw⟩ := hrel
    have hzw := hbw.size
    have hbww := hb1.trans (hbw.mono hb1.size)
    by_cases hlt : k < n
    · obtain ⟨y, hy⟩ : ∃ y, xs[k]? = some y := ⟨_, List.getElem?_eq_getElem (by rw [HN.out]; exact hlt)⟩
      obtain ⟨bx, ox, rfl, cx0⟩ := HXR.out k y hy
      have cx := cell_later hbww cx0
      obtain ⟨p, hp1, hp2⟩ := HRD.out k y hy
      have hyz : y.size ≤ 24 := by
        rw [← size_list, hp2]
        exact (isTok_cp (HTOK.out p (List.mem_of_getElem? hp1))).2
      have HSZ : Hid (∀ sep : ByteArray, sep.size ≤ 10 → (sb ++ sep ++ y).size ≤ 34 * (k + 1)) := by
        intro sep hsep
        rw [ByteArray.size_append, ByteArray.size_append]
        omega
      have HST : Hid _ := fun sep j hs => grown_step rk k sb sep y HGR.out j hs p hp1 hp2
      have hbw1 : ∀ o, Below w1.heap.size w1 (wr.alloc o) := fun o => hbw.alloc hzw o
      have HBW1 : Hid _ := hbw1
      have hcxa : ∀ o, (wr.alloc o).cell? ⟨bx, ox + k, none⟩ = some (.string y) := fun o => cell_later ((Below.refl wr.heap.size wr).alloc (Nat.le_refl _) o) cx
      clear cx0 hy hp1 hp2 HFIN hbw hbw1
      by_cases hb : k < zn
      · obtain ⟨z, hz⟩ : ∃ z, zs[k]? = some z := ⟨_, List.getElem?_eq_getElem (by rw [HZN.out]; exact hb)⟩
        obtain ⟨⟨hz0, hz1⟩, bz, oz, rfl, cz0⟩ := HYR.out k z hz
        have cz := cell_later hbww cz0
        clear cz0 hz hbww
        rcases rem_six z hz0 with hq | hq | hq | hq | hq | hq
        · have HF : Hid _ := HST.out ⟨#[32]⟩ 0 (by decide +kernel)
          clear HST
          go_wp2
          go_region
          all_goals go_wp2
          all_goals go_roundw
          case rel => exact ⟨k + 1, _, by omega, HF.out, rfl, by go_num, HSZ.out _ (by decide), (HBW1.out _).drew⟩
          case measure => simp [intOf]; omega
        · have HF : Hid _ := HST.out ⟨#[10, 9]⟩ 1 (by decide +kernel)
          clear HST
          go_wp2
          go_region
          all_goals go_wp2
          all_goals go_roundw
          case rel => exact ⟨k + 1, _, by omega, HF.out, rfl, by go_num, HSZ.out _ (by decide), (HBW1.out _).drew⟩
          case measure => simp [intOf]; omega
        · have HF : Hid _ := HST.out ⟨#[35, 32, 115, 97, 103, 97, 32, 123, 59, 10]⟩ 2 (by decide +kernel)
          clear HST
          go_wp2
          go_region
          all_goals go_wp2
          all_goals go_roundw
          case rel => exact ⟨k + 1, _, by omega, HF.out, rfl, by go_num, HSZ.out _ (by decide), (HBW1.out _).drew⟩
          case measure => simp [intOf]; omega
        · have HF : Hid _ := HST.out ⟨#[13, 32]⟩ 3 (by decide +kernel)
          clear HST
          go_wp2
          go_region
          all_goals go_wp2
          all_goals go_roundw
          case rel => exact ⟨k + 1, _, by omega, HF.out, rfl, by go_num, HSZ.out _ (by decide), (HBW1.out _).drew⟩
          case measure => simp [intOf]; omega
        · have HF : Hid _ := HST.out ⟨#[32, 35, 195, 188, 33, 10, 32]⟩ 4 (by decide +kernel)
          clear HST
          go_wp2
          go_region
          all_goals go_wp2
          all_goals go_roundw
          case rel => exact ⟨k + 1, _, by omega, HF.out, rfl, by go_num, HSZ.out _ (by decide), (HBW1.out _).drew⟩
          case measure => simp [intOf]; omega
        · have HF : Hid _ := HST.out ⟨#[32, 32]⟩ 5 (by decide +kernel)
          clear HST
          go_wp2
          go_region
          all_goals go_wp2
          all_goals go_roundw
          case rel => exact ⟨k + 1, _, by omega, HF.out, rfl, by go_num, HSZ.out _ (by decide), (HBW1.out _).drew⟩
          case measure => simp [intOf]; omega
      · clear hbww
        have HF : Hid _ := HST.out ⟨#[32]⟩ 0 (by decide +kernel)
        clear HST
        go_wp2
        go_region
        all_goals go_wp2
        all_goals go_roundw
        case rel => exact ⟨k + 1, _, by omega, HF.out, rfl, by go_num, HSZ.out _ (by decide), (HBW1.out _).drew⟩
        case measure => simp [intOf]; omega
    · have hkn : k = n := by omega
      subst hkn
      obtain ⟨hsz, U, hlex, hu1, hu2⟩ := HFIN.out sb HGR.out
      have HLEX : Hid _ := hlex
      have HU1 : Hid _ := hu1
      have HU2 : Hid _ := hu2
      have HRW : Hid (ReadsT wr (.slice va vn vc) T) := ReadsT.later HR1.out hbw
      clear hlex hu1 hu2 HFIN HR1
      go_wp2_with fail
      refine Calls.mono (HLEX.out _) ?_
      rintro e w3 ⟨u, rfl, hown3, hb3⟩
      have HR3 : Hid (ReadsT w3 (.slice va vn vc) T) := ReadsT.later HRW.out hb3
      have HU : Hid (ReadsT w3 u U) := readsT_of_owns hown3
      have hb03 := hbww.trans (hb3.mono hbww.size)
      clear HLEX HRW hb3 hown3 hbww
      go_wp2_with fail
      refine (same_txt _ _ T U _ HR3.out HU.out hml HU1.out HU2.out).mono ?_
      rintro e w4 ⟨rfl, m, rfl⟩
      have hb04 := below_drewN hb03 m
      clear HR3 HU hb03 HU1 HU2
      generalize World.drewN _ m = w4 at *
      go_wp2_with fail
      refine (lives_any _).mono ?_
      rintro e w5 ⟨rfl, hb5⟩
      go_wp2
      go_ret
      exact ⟨rfl, hb04.trans (hb5.mono hb04.size)⟩

theorem walk (a0 : Option Addr) (len0 cap0 : Nat) (z0 : List ByteArray) (a1 : Option Addr) (len1 cap1 : Nat) (z1 : List Int) (w : World) (w0 : ReadsS w (.slice a0 len0 cap0) z0) (w1 : ReadsB w (.slice a1 len1 cap1) z1) :
    Calls Try.prog 6 #[.slice a0 len0 cap0, .slice a1 len1 cap1] w fun e w' => e = .returned (.bool true) ∧ Below w.heap.size w w' := by
  by_cases hb : 300 < z0.length
  · exact walk_big _ _ z0 w w0 hb
  · by_cases hg : ∀ y ∈ z0, good y = true
    · exact walk_good _ _ z0 z1 w w0 w1 (by omega) hg
    · refine walk_bad _ _ z0 w w0 (by omega) ?_
      apply Classical.byContradiction
      intro hn
      apply hg
      intro y hy
      cases hgy : good y with
      | true => rfl
      | false => exact absurd ⟨y, hy, hgy⟩ hn

theorem reads_u8s {w : World} {a : Addr} {len cap : Nat} {zs : List Int} (h : ∀ i, i < zs.length → w.cell? (a.add i) = some (.int .u8 (zs.getD i 0))) (hw : ∀ n ∈ zs, (Lit.int .u8 n).wf = true) (hl : len ≤ zs.length) : ReadsB w (.slice (some a) len cap) (zs.take len) := by
  have hlen : (zs.take len).length = len := by simp; omega
  refine ⟨some a, cap, by rw [hlen], fun i z hi => ?_⟩
  have hil : i < len := by have := (List.getElem?_eq_some_iff.1 hi).1; omega
  rw [List.getElem?_take, if_pos hil] at hi
  have hz : zs.getD i 0 = z := by rw [List.getD_eq_getElem?_getD, hi]; rfl
  have hwf := hw z (List.mem_of_getElem? hi)
  have hwf2 : 0 ≤ z ∧ z ≤ 255 := by simpa [Lit.wf, IntKind.min, IntKind.max, IntKind.signed, IntKind.bits] using hwf
  refine ⟨⟨hwf2.1, by omega⟩, ?_⟩
  obtain ⟨b, off, rfl, hc⟩ := ints_at h (by omega)
  exact ⟨b, off, rfl, by rw [hc i (by omega), hz]⟩

set_option maxRecDepth 100000 in
theorem lifted (os : Os) (started : os.Started) (H : Type) (enc : TypeId × Value → H) :
    ReturnsInHanded {} Try.checked os 6 .any (Rows.lexBlanksSpec.pre6 enc Try.prog Try.f6 Rows.lexBlanksRow.domain false) (Rows.lexBlanksSpec.post enc Try.prog Try.f6 false true false false) := by
  refine returnsInHanded_of_change (C := Try.checked) own started (by kernel_rfl) Try.func6
    (ChangeSpec.witness6 (enc := enc) (C := Try.checked) false ⟨#[], #[.slice none 0 0, .slice none 0 0], []⟩ 8 (by kernel_rfl) (by kernel_rfl) (by kernel_rfl) (by kernel_rfl)) ?_
  intro W base args ds gs before hval0 hW hcnd _
  have hval : ∀ (j : Nat) t v, Try.f6.params[j]? = some t → args[j]? = some v → Value.okWide Try.prog W .any base t v := hval0
  have hW' := hW
  obtain ⟨p, q, hA0, hV, rfl, hfz, hnd⟩ := hW
  have hA : DataW.TrodAll enc Try.prog W 0 (fun _ => true) true Try.f6.params.toList args.toList ds p := hA0
  rw [Try.params6] at hA hval
  obtain ⟨v0, vs0, d0, ds0, p0, q0, hargs, rfl, rfl, h0, r0⟩ := trodAll_cons hA
  obtain ⟨v1, vs1, d1, ds1, p1, q1, rfl, rfl, rfl, h1, r1⟩ := trodAll_cons r0
  obtain ⟨rfl, rfl, rfl⟩ := trodAll_nil r1
  obtain rfl : args = #[v0, v1] := by cases args; simp_all
  obtain ⟨rfl, rfl⟩ := trodVars_none hV
  obtain ⟨a0, len0, cap0, rfl⟩ := okWide_slice Try.underlying33 (hval 0 33 v0 rfl rfl)
  have k0 := h0
  have lt0 : ∀ x ∈ p0, x.block < W.heap.size := by obtain ⟨m, hm⟩ := k0; exact DataW.trod_lt m _ _ _ hm
  obtain ⟨z0, w0⟩ : ∃ xs, ReadsS W (.slice a0 len0 cap0) xs := by
    obtain ⟨fuel, hf⟩ := h0
    rcases Go.Deep.open_strs Try.underlying33 Try.underlying9 (by kernel_rfl) hf with ⟨hcs, _⟩ | ⟨x, l, c, m, Sx, hcs, _, hl, hm, hmm, _, hcell⟩
    · simp [Value.cells] at hcs
      obtain ⟨rfl, rfl, rfl⟩ := hcs
      exact ⟨[], none, 0, rfl, by simp⟩
    · simp [Value.cells] at hcs
      obtain ⟨rfl, rfl, rfl⟩ := hcs
      exact ⟨_, reads_strs hcell (by rw [hmm]; split <;> omega)⟩
  obtain ⟨a1, len1, cap1, rfl⟩ := okWide_slice Try.underlying40 (hval 1 40 v1 rfl rfl)
  have k1 := h1
  have lt1 : ∀ x ∈ p1, x.block < W.heap.size := by obtain ⟨m, hm⟩ := k1; exact DataW.trod_lt m _ _ _ hm
  obtain ⟨z1, w1⟩ : ∃ zs, ReadsB W (.slice a1 len1 cap1) zs := by
    obtain ⟨fuel, hf⟩ := h1
    rcases open_ints Try.underlying40 Try.underlying5 (by kernel_rfl) hf with ⟨hcs, _⟩ | ⟨x, l, c, zs, hcs, _, hl, hm, hz, _, hcell, hwz⟩
    · simp [Value.cells] at hcs
      obtain ⟨rfl, rfl, rfl⟩ := hcs
      exact ⟨[], none, 0, rfl, by simp⟩
    · simp [Value.cells] at hcs
      obtain ⟨rfl, rfl, rfl⟩ := hcs
      exact ⟨_, reads_u8s hcell hwz (by rw [hz]; split <;> omega)⟩
  clear hA0 hval0
  refine (walk a0 len0 cap0 z0 a1 len1 cap1 z1 W w0 w1).mono fun e W' ⟨he, bel⟩ => ?_
  subst he
  exact ⟨_, rfl, _, _, _, [], _, [], hW', trodAll_mk1 (shut_bool Try.underlying4 _), (trodAll_cons_mk (Below.trod laidOut (by kernel_rfl) (of_decide_eq_true (by kernel_rfl)) k0 bel lt0) (trodAll_cons_mk (Below.trod laidOut (by kernel_rfl) (of_decide_eq_true (by kernel_rfl)) k1 bel lt1) trodAll_mk0)), rfl, bel.frame _, fun h => by cases h⟩

theorem over : Rows.lexBlanksRow.holds Try.pinned (OpenSpec.ofChange Rows.lexBlanksSpec) :=
  OpenClaim.holds_of_wide 6 Try.f6 rfl rfl rfl rfl rfl rfl rfl ⟨rfl, rfl, rfl, rfl, rfl⟩ rfl rfl rfl rfl rfl (by kernel_rfl) Try.func6 (by kernel_rfl)
    (of_decide_eq_true (by kernel_rfl)) (by unfold Func.isWrapper; first | (rw [if_pos (by decide +kernel)]; kernel_rfl) | (rw [if_neg (by decide +kernel)]; exact ⟨rfl, rfl⟩))
    (fun os started H enc _ => lifted os started H enc)
end Go.Proofs.Ytchdecoceokcmaa.lexBlanks
namespace Go.Proofs.Ytchdecoceokcmaa

theorem lexBlanks_holds : Rows.LexBlanksSaid := lexBlanks.over
#print axioms lexBlanks_holds
end Go.Proofs.Ytchdecoceokcmaa
