/- Texts of the seat, packed: Tq Ts Tu. -/
import Derived.Test.YtpgdafmenbeffaaDoorP35
import Derived.Test.YtpgdafmenbeffaaDoorP08
import Derived.Test.YtpgdafmenbeffaaDoorP25
import Derived.Test.YtpgdafmenbeffaaDoorP31
/- For PlanMore: a saga with a step more, in memory and plain. -/
namespace Go.Proofs.YtpgdafmenbeffaaDoor
open Go.RowKit Go.Shelf Go.Proofs.YtpgdafmenbeffaaDoor.Sx
set_option linter.unusedVariables false

theorem short_fair (t : Tr) : szA t ≤ t.pc ∧ (t.short → t.pc ≤ 100000 → AllL (fun l => l.name.length ≤ 1000000 ∧ l.after.length ≤ 100000 ∧ ∀ z ∈ l.after, z.length ≤ 1000000) t) := by
  induction t with
  | e => exact ⟨Nat.le_refl _, fun _ _ => trivial⟩
  | b x r ih1 ih2 =>
    refine ⟨by have := ih1.1; have := ih2.1; simp only [szA, Tr.pc]; omega, fun h hp => ?_⟩
    simp only [Tr.pc] at hp
    exact ⟨ih1.2 h.1 (by omega), ih2.2 h.2 (by omega)⟩
  | n l s r ih1 ih2 =>
    refine ⟨by have := ih1.1; have := ih2.1; simp only [szA, Tr.pc]; omega, fun h hp => ?_⟩
    simp only [Tr.pc] at hp
    obtain ⟨⟨h1, h2, h3⟩, h4, h5⟩ := h
    exact ⟨⟨by omega, by omega, fun z hz => by have := h3 z hz; omega⟩, ih1.2 h4 (by omega), ih2.2 h5 (by omega)⟩

theorem few_fair {t : Tr} (h : t.pc ≤ 1000) (hs : t.short) : Fair t := Fair.of (by have := (short_fair t).1; omega) ((short_fair t).2 hs (by omega))

theorem plan_count {x : By} {t : Tr} {its : List It} (h : planT x t = some its) : (its.length : Int) = ((fltn 1 t).length : Int) + 1 ∧ codeS x t = 0 := by
  obtain ⟨hfit, _, _, he⟩ := planT_parts h
  have hlen : its.length = cntA t + 1 := by rw [he, its2_len, xsT_len]
  simp only [fitS, Bool.and_eq_true, decide_eq_true_eq] at hfit
  have hc := hfit.1
  have hr : rightS x t = true := by
    unfold codeS at hc
    split at hc
    · assumption
    · cases hc
  have hok : okL (fltn 1 t) = true := by
    unfold rightS at hr
    simp only [Bool.and_eq_true] at hr
    exact hr.2
  have := cnt_flat t 1 hok
  exact ⟨by omega, hc⟩

theorem plan_fairI {x : By} {t : Tr} {its : List It} (h : planT x t = some its) (hF : Fair t) (hx : x.length ≤ 1000000) : FairI its := by
  obtain ⟨hfit, _, _, he⟩ := planT_parts h
  have hcnt := fit_cnt hfit
  refine ⟨fun z hz => ?_, fun z hz => ?_⟩
  · obtain ⟨j, hj⟩ := List.mem_iff_getElem?.1 hz
    cases j with
    | zero =>
      rw [he, its2_root] at hj
      cases hj
      exact hx
    | succ j =>
      have hjl : j < (xsT t 0 0 0).length := by
        have := (List.getElem?_eq_some_iff.1 hj).1
        rw [he, its2_len] at this
        omega
      obtain ⟨y, hy⟩ : ∃ y, (xsT t 0 0 0)[j]? = some y := ⟨_, List.getElem?_eq_getElem hjl⟩
      obtain ⟨z', hz', hb, _⟩ := its2_at x t.len _ j y hy
      rw [← he, hj] at hz'
      cases hz'
      have hname : z.name = y.lab.name := congrArg It.name hb
      rw [hname]
      exact (hF.lab y (List.mem_of_getElem? hy)).1
  · rw [he] at hz
    have := (its2_after x t.len (xsT t 0 0 0) _ z hz).1
    rw [xsT_len] at this
    omega

theorem plan_short {x : By} {t : Tr} {its : List It} (h : planT x t = some its) : its.length ≤ 64 := by
  obtain ⟨hfit, _, _, he⟩ := planT_parts h
  have hcnt := fit_cnt hfit
  rw [he, its2_len, xsT_len]
  omega


theorem plan_len {x : By} {t : Tr} {its : List It} (h : planT x t = some its) : 0 < t.len := by
  have hc := (plan_count h).2
  have hr : rightS x t = true := by
    unfold codeS at hc
    split at hc
    · assumption
    · cases hc
  unfold rightS at hr
  simp only [Bool.and_eq_true, decide_eq_true_eq] at hr
  exact hr.1.1.2

/-- The names of nodes. -/
def namesT : Tr → List By
  | .e => []
  | .b _ _ => []
  | .n l _ r => l.name :: namesT r

/-- The nodes of the last body. -/
def lastT : Tr → Tr
  | .e => .e
  | .b x r => if r = .e then x else lastT r
  | .n _ _ _ => .e

/-- The step that is added: it leans on all nodes of the last body. -/
def stepL (nm : By) (t : Tr) : Lab := ⟨nm, [117], namesT (lastT t), false, false⟩

theorem names_len {t : Tr} (h : Kd false t) : (namesT t).length = t.len := by
  induction t with
  | e => rfl
  | b x r _ _ => exact absurd h.1 (by decide)
  | n l s r _ ih => show (namesT r).length + 1 = r.len + 1; rw [ih h.2.2]

/-- Bodies, or nodes, in memory, as the values of a row. -/
theorem TAt.vrd {P : Nat → Prop} {w : World} (t : Tr) : ∀ (k : Bool) (a : Option Addr) (i n : Nat), TAt P w k t a i n → 0 < t.len → ∃ vs b off, a = some ⟨b, off, none⟩ ∧ VRd P w k t vs ∧ ∀ j u, vs.flatten[j]? = some u → w.cell? ⟨b, off + i * wide k + j, none⟩ = some u := by
  induction t with
  | e => intro k a i n _ h; exact absurd h (by decide)
  | b x r _ ih2 =>
    rintro k a i n ⟨rfl, _, ⟨b, off, v, m, c, rfl, hp, hc, hx⟩, hr⟩ _
    by_cases hl : 0 < r.len
    · obtain ⟨vs, b2, off2, he, hv, hcs⟩ := ih2 _ _ _ _ hr hl
      simp only [Option.some.injEq, Addr.mk.injEq] at he
      obtain ⟨rfl, rfl, _⟩ := he
      refine ⟨[.slice v m c] :: vs, b, off, rfl, ⟨rfl, v, m, c, vs, rfl, hx, hv⟩, fun j u hj => ?_⟩
      cases j with
      | zero =>
        simp at hj
        subst hj
        simpa [wide] using hc
      | succ j =>
        have := hcs j u (by simpa using hj)
        simp only [wide, if_true] at this ⊢
        rw [show off + i * 1 + (j + 1) = off + (i + 1) * 1 + j by omega]
        exact this
    · have hre : r = .e := by
        cases r with
        | e => rfl
        | b _ _ => exact absurd (Nat.succ_pos _) hl
        | n _ _ _ => exact absurd (Nat.succ_pos _) hl
      subst hre
      refine ⟨[[.slice v m c]], b, off, rfl, ⟨rfl, v, m, c, [], rfl, hx, rfl⟩, fun j u hj => ?_⟩
      cases j with
      | zero =>
        simp at hj
        subst hj
        simpa [wide] using hc
      | succ j => simp at hj
  | n l s r _ ih2 =>
    rintro k a i n ⟨rfl, _, ⟨b, off, sv, sm, sc, av, am, ac, rfl, hp, c0, c1, c2, c3, c4, c5, hs, ht⟩, hr⟩ _
    have six : ∀ j u, j < 6 → ([Value.string ⟨l.name.toArray⟩, Value.string ⟨l.undo.toArray⟩, .slice sv sm sc, .bool l.sub, .bool l.vital, .slice av am ac] : List Value)[j]? = some u → w.cell? ⟨b, off + i * 6 + j, none⟩ = some u := by
      intro j u hj hu
      match j, hj with
      | 0, _ => simp at hu; subst hu; exact c0
      | 1, _ => simp at hu; subst hu; exact c1
      | 2, _ => simp at hu; subst hu; exact c2
      | 3, _ => simp at hu; subst hu; exact c3
      | 4, _ => simp at hu; subst hu; exact c4
      | 5, _ => simp at hu; subst hu; exact c5
    by_cases hl : 0 < r.len
    · obtain ⟨vs, b2, off2, he, hv, hcs⟩ := ih2 _ _ _ _ hr hl
      simp only [Option.some.injEq, Addr.mk.injEq] at he
      obtain ⟨rfl, rfl, _⟩ := he
      refine ⟨[Value.string ⟨l.name.toArray⟩, Value.string ⟨l.undo.toArray⟩, .slice sv sm sc, .bool l.sub, .bool l.vital, .slice av am ac] :: vs, b, off, rfl, ⟨rfl, sv, sm, sc, av, am, ac, vs, rfl, hs, ht, hv⟩, fun j u hj => ?_⟩
      simp only [wide, Bool.false_eq_true, if_false] at hcs ⊢
      by_cases hj6 : j < 6
      · rw [List.flatten_cons, List.getElem?_append_left (by simpa using hj6)] at hj
        exact six j u hj6 hj
      · rw [List.flatten_cons, List.getElem?_append_right (by simpa using hj6)] at hj
        have := hcs (j - 6) u (by simpa using hj)
        rw [show off + i * 6 + j = off + (i + 1) * 6 + (j - 6) by omega]
        exact this
    · have hre : r = .e := by
        cases r with
        | e => rfl
        | b _ _ => exact absurd (Nat.succ_pos _) hl
        | n _ _ _ => exact absurd (Nat.succ_pos _) hl
      subst hre
      refine ⟨[[Value.string ⟨l.name.toArray⟩, Value.string ⟨l.undo.toArray⟩, .slice sv sm sc, .bool l.sub, .bool l.vital, .slice av am ac]], b, off, rfl, ⟨rfl, sv, sm, sc, av, am, ac, [], rfl, hs, ht, rfl⟩, fun j u hj => ?_⟩
      simp only [wide, Bool.false_eq_true, if_false] at ⊢
      have hj6 : j < 6 := by have := (List.getElem?_eq_some_iff.1 hj).1; simpa using this
      exact six j u hj6 (by simpa using hj)

/-- The name of a node, in memory. -/
theorem TAt.name {P : Nat → Prop} {w : World} (t : Tr) : ∀ (a : Option Addr) (i n : Nat), TAt P w false t a i n → ∀ j nm, (namesT t)[j]? = some nm → ∃ b off, a = some ⟨b, off, none⟩ ∧ P b ∧ w.cell? ⟨b, off + (i + j) * 6, none⟩ = some (.string ⟨nm.toArray⟩) := by
  induction t with
  | e => intro a i n _ j nm hj; simp [namesT] at hj
  | b x r _ _ => intro a i n _ j nm hj; simp [namesT] at hj
  | n l s r _ ih2 =>
    rintro a i n ⟨_, _, ⟨b, off, sv, sm, sc, av, am, ac, rfl, hp, c0, _⟩, hr⟩ j nm hj
    cases j with
    | zero =>
      simp [namesT] at hj
      subst hj
      exact ⟨b, off, rfl, hp, c0⟩
    | succ j =>
      obtain ⟨b2, off2, he, hp2, hc⟩ := ih2 _ _ _ hr j nm (by simpa [namesT] using hj)
      refine ⟨b2, off2, he, hp2, ?_⟩
      rw [show i + (j + 1) = i + 1 + j by omega]
      exact hc

/-- A node more, behind the values of nodes. -/
theorem VRd.moreN {P : Nat → Prop} {w : World} (lab : Lab) (sv : Option Addr) (sm sc : Nat) (hs : SAt P w lab.after sv sm) (t : Tr) : ∀ (vs : List (List Value)), VRd P w false t vs → VRd P w false (addN lab t) (vs ++ [[Value.string ⟨lab.name.toArray⟩, Value.string ⟨lab.undo.toArray⟩, .slice sv sm sc, .bool lab.sub, .bool lab.vital, .slice none 0 0]]) := by
  induction t with
  | e =>
    intro vs h
    cases (show vs = [] from h)
    exact ⟨rfl, sv, sm, sc, none, 0, 0, [], rfl, hs, rfl, rfl⟩
  | b x r _ _ => intro vs h; exact absurd h.1 (by decide)
  | n l s r _ ih2 =>
    rintro vs ⟨_, sv1, sm1, sc1, av, am, ac, rest, rfl, h1, h2, h3⟩
    exact ⟨rfl, sv1, sm1, sc1, av, am, ac, _, rfl, h1, h2, ih2 rest h3⟩

/-- The last one of the values of bodies. -/
theorem VRd.last {P : Nat → Prop} {w : World} (t : Tr) : ∀ (vs : List (List Value)), VRd P w true t vs → 0 < t.len → ∃ init bv bm bc, vs = init ++ [[.slice bv bm bc]] ∧ TAt P w false (lastT t) bv 0 bm ∧
    ∀ (Q : Nat → Prop) (w' : World) (lab : Lab) (nv : Option Addr) (nn nc : Nat), Keeps P w w' → (∀ b, P b → b < w.heap.size → Q b) → TAt Q w' false (addN lab (lastT t)) nv 0 nn → VRd Q w' true (addB lab t) (init ++ [[.slice nv nn nc]]) := by
  induction t with
  | e => intro vs _ h; exact absurd h (by decide)
  | n l s r _ _ => intro vs h _; exact absurd h.1 (by decide)
  | b x r _ ih =>
    rintro vs ⟨_, v, m, c, rest, rfl, hx, hr⟩ _
    by_cases hre : r = .e
    · subst hre
      cases (show rest = [] from hr)
      refine ⟨[], v, m, c, rfl, ?_, fun Q w' lab nv nn nc _ _ hn => ?_⟩
      · unfold lastT
        rw [if_pos rfl]
        exact hx
      · unfold lastT at hn
        rw [if_pos rfl] at hn
        unfold addB
        rw [if_pos rfl]
        exact ⟨rfl, nv, nn, nc, [], rfl, hn, rfl⟩
    · have hl : 0 < r.len := by
        cases r with
        | e => exact absurd rfl hre
        | b _ _ => exact Nat.succ_pos _
        | n _ _ _ => exact Nat.succ_pos _
      obtain ⟨init, bv, bm, bc, rfl, h1, h2⟩ := ih rest hr hl
      have e1 : lastT (.b x r) = lastT r := by rw [lastT, if_neg hre]
      refine ⟨[.slice v m c] :: init, bv, bm, bc, rfl, by rw [e1]; exact h1, fun Q w' lab nv nn nc hk hq hn => ?_⟩
      rw [e1] at hn
      have e2 : addB lab (.b x r) = .b x (addB lab r) := by rw [addB, if_neg hre]
      rw [e2]
      exact ⟨rfl, v, m, c, _, rfl, hx.keep hk hq x _ _ _ _, h2 Q w' lab nv nn nc hk hq hn⟩

theorem addN_pc (l : Lab) (t : Tr) : Kd false t → (addN l t).pc = t.pc + 1 + l.after.length := by
  induction t with
  | e => intro _; simp [addN, Tr.pc]
  | b x r _ _ => intro h; exact absurd h.1 (by decide)
  | n m s r _ ih => intro h; simp only [addN, Tr.pc]; rw [ih h.2.2]; omega

theorem addB_pc (l : Lab) (t : Tr) : Kd true t → (addB l t).pc ≤ t.pc + 1 + l.after.length := by
  induction t with
  | e => intro _; simp [addB, Tr.pc]
  | n m s r _ _ => intro h; exact absurd h.1 (by decide)
  | b x r _ ih =>
    intro h
    unfold addB
    split
    · simp only [Tr.pc]; rw [addN_pc l x h.2.1]; omega
    · have := ih h.2.2; simp only [Tr.pc]; omega

theorem addN_short {l : Lab} (hl : l.name.length ≤ 200 ∧ l.undo.length ≤ 200 ∧ ∀ y ∈ l.after, y.length ≤ 200) (t : Tr) : t.short → (addN l t).short := by
  induction t with
  | e => intro _; exact ⟨hl, trivial, trivial⟩
  | b x r _ _ => intro h; exact h
  | n m s r _ ih => intro h; exact ⟨h.1, h.2.1, ih h.2.2⟩

theorem addB_short {l : Lab} (hl : l.name.length ≤ 200 ∧ l.undo.length ≤ 200 ∧ ∀ y ∈ l.after, y.length ≤ 200) (t : Tr) : t.short → (addB l t).short := by
  induction t with
  | e => intro _; trivial
  | n m s r _ _ => intro h; exact h
  | b x r _ ih =>
    intro h
    unfold addB
    split
    · exact ⟨addN_short hl x h.1, trivial⟩
    · exact ⟨h.1, ih h.2⟩

theorem names_short (t : Tr) : t.short → (∀ y ∈ namesT t, y.length ≤ 200) ∧ (namesT t).length ≤ t.pc := by
  induction t with
  | e => intro _; exact ⟨fun y hy => by simp [namesT] at hy, by simp [namesT]⟩
  | b x r _ _ => intro _; exact ⟨fun y hy => by simp [namesT] at hy, by simp [namesT]⟩
  | n m s r _ ih =>
    intro h
    obtain ⟨h1, h2⟩ := ih h.2.2
    refine ⟨fun y hy => ?_, ?_⟩
    · rcases List.mem_cons.1 hy with rfl | hy
      · exact h.1.1
      · exact h1 y hy
    · simp only [namesT, List.length_cons, Tr.pc]; omega

theorem last_short (t : Tr) : t.short → (lastT t).short ∧ (lastT t).pc ≤ t.pc := by
  induction t with
  | e => intro _; exact ⟨trivial, Nat.le_refl _⟩
  | n m s r _ _ => intro _; exact ⟨trivial, by simp [lastT, Tr.pc]⟩
  | b x r _ ih =>
    intro h
    unfold lastT
    split
    · exact ⟨h.1, by simp only [Tr.pc]; omega⟩
    · obtain ⟨h1, h2⟩ := ih h.2
      exact ⟨h1, by simp only [Tr.pc]; omega⟩

theorem more_fair {t : Tr} {nm : By} (hn : nm.length ≤ 100) (hk : Kd true t) (hp : t.pc ≤ 1000) (hs : t.short) : Fair (addB (stepL nm t) t) ∧ (namesT (lastT t)).length ≤ 1000 := by
  obtain ⟨h1, h2⟩ := last_short t hs
  obtain ⟨h3, h4⟩ := names_short _ h1
  have hsh := addB_short (l := stepL nm t) ⟨by show nm.length ≤ 200; omega, by show ([117] : By).length ≤ 200; decide, h3⟩ t hs
  have hpc := addB_pc (stepL nm t) t hk
  have h5 : (stepL nm t).after.length ≤ 1000 := by show (namesT (lastT t)).length ≤ 1000; omega
  exact ⟨Fair.of (by have := (short_fair (addB (stepL nm t) t)).1; omega) ((short_fair _).2 hsh (by omega)), h5⟩

theorem last_kd {t : Tr} : Kd true t → Kd false (lastT t) := by
  induction t with
  | e => intro _; trivial
  | n m s r _ _ => intro h; exact absurd h.1 (by decide)
  | b x r _ ih =>
    intro h
    unfold lastT
    split
    · exact h.2.1
    · exact ih h.2.2

/-- Over tells nothing of the step that was added. -/
theorem more_none {x : By} {t : Tr} {l : Lab} {its its' : List It} (h : planT x t = some its) (hk : Kd true t) (h' : planT x (addB l t) = some its') : (∃ z, its' = its ++ [z]) ∧ overI its' (its.length : Int) = [] := by
  obtain ⟨h1, h2⟩ := more_plan h hk (plan_len h) h'
  refine ⟨h1, ?_⟩
  unfold overI
  split
  · rename_i hs
    obtain ⟨p, hp⟩ := Option.isSome_iff_exists.1 hs
    obtain ⟨_, _, _, _, W, o, hw⟩ := right_facts hp
    have hov : ovT its' = Dg.reachL W o := by
      unfold ovT
      rw [hw]
    rw [hov]
    exact more_over (ov_of hw) h2
  · rfl

/-- The first items of a plan. -/
theorem RdIt.front {w : World} {a : Option Addr} {n c : Nat} {its : List It} {z : It} (h : RdIt w (.slice a n c) (its ++ [z])) (m : Nat) (hm : m = its.length) : RdIt w (.slice a m c) its := by
  subst hm
  obtain ⟨a', c', he, hc, hr⟩ := h
  simp only [Value.slice.injEq] at he
  obtain ⟨rfl, _, rfl⟩ := he
  refine ⟨a, c, rfl, by rw [List.length_append] at hc; omega, fun i y hi => ?_⟩
  exact hr i y (by rw [List.getElem?_append_left (List.getElem?_eq_some_iff.1 hi).1]; exact hi)
end Go.Proofs.YtpgdafmenbeffaaDoor

/- For PlanMore: the saga with a step more, in memory. -/
namespace Go.Proofs.YtpgdafmenbeffaaDoor
open Go.RowKit Go.Shelf Go.Proofs.YtpgdafmenbeffaaDoor.Sx
set_option linter.unusedVariables false

theorem last_len {t : Tr} (h : fitB t = true) (hk : Kd true t) (hl : 0 < t.len) : 0 < (lastT t).len ∧ (lastT t).len ≤ 1000 := by
  induction t with
  | e => exact absurd hl (by decide)
  | n m s r _ _ => exact absurd hk.1 (by decide)
  | b x r _ ih =>
    unfold lastT
    split
    · simp only [fitB, Bool.and_eq_true, decide_eq_true_eq] at h
      omega
    · rename_i hr
      have hl2 : 0 < r.len := by
        cases r with
        | e => exact absurd rfl hr
        | b _ _ => exact Nat.succ_pos _
        | n _ _ _ => exact Nat.succ_pos _
      simp only [fitB, Bool.and_eq_true, decide_eq_true_eq] at h
      exact ih h.2 hk.2.2 hl2

theorem plan_last {x : By} {t : Tr} {its : List It} (h : planT x t = some its) (hk : Kd true t) : t.len ≤ 4 ∧ 0 < (lastT t).len ∧ (lastT t).len ≤ 1000 := by
  have hf := planT_fit h
  have hl := plan_len h
  simp only [fitS, fits, Bool.and_eq_true, decide_eq_true_eq] at hf
  exact ⟨hf.2.2.2.1.1, last_len hf.2.2.2.1.2 hk hl⟩

theorem append_bodies {w : World} {ops : Array Oper} {rest : List Oper} {o : Oper} {a : Act} {Q : Exit → Act → World → Prop} (hgd : o.guard = none) (s x : Operand)
    (ho : o.op = .call { callee := .builtin .append, args := #[s, x], argTypes := #[22, 22] }) (base g : Nat) (hs : a.eval s = .slice (some ⟨g, 0, none⟩) 0 0) (hown : w.ownsRow base 35 1 (.slice (some ⟨g, 0, none⟩) 0 0) 0 [])
    (ad : Addr) (n c : Nat) (vals : List Value) (hx : a.eval x = .slice (some ad) n c) (hl : vals.length = n) (hc : ∀ j u, vals[j]? = some u → w.cell? (ad.add j) = some u) (h1 : ∀ u ∈ vals, u.oneCell' = true) (hn : n ≤ 1000) (hbase : base ≤ w.heap.size)
    (h : ∀ g' cap' w', w'.ownsRow base 35 1 (.slice (some ⟨g', 0, none⟩) n cap') n vals → Below base w w' → wpList Tryd.prog ops Q rest (a.put o.dst (.slice (some ⟨g', 0, none⟩) n cap')) w') : wpList Tryd.prog ops Q (o :: rest) a w := by
  obtain ⟨i0, hi, hz0, hz1, hz2⟩ := info_parts inf71
  refine wpList_append_own _ hgd s x 22 ho base 35 i0 _ 1 24 Tryd.underlying22 hi hz0 hz1 hz2 rfl (by decide) _ 0 _ hs hown ad n c vals hx (by rw [hl, Nat.mul_one]) hc h1 (by unfold maxLen; omega) (by omega) hbase ?_
  intro v' w' h2 h3 h4
  rw [Nat.zero_add, List.nil_append] at h2
  rcases h2.2 with ⟨rfl, h5⟩ | ⟨g', cap', cur, rfl, hrest⟩
  · have h6 := h4.1 rfl
    simp at h6
  · exact h g' cap' w' h2 (Below.grown (Below.refl _ _) h3 hbase (fun k hk => (hown.lt k hk).1))

theorem own_made (w : World) (e size : Nat) : (w.alloc (.cells #[] e)).ownsRow w.heap.size e size (.slice (some ⟨w.heap.size, 0, none⟩) 0 0) 0 [] :=
  ⟨by simp, .inr ⟨w.heap.size, 0, #[], rfl, Nat.le_refl _, Dg.row_new _ _ _, Nat.le_refl _, Nat.zero_le _, by simp, by simp⟩⟩

def nmS (l : List By) : List Value := l.map fun y => .string ⟨y.toArray⟩

theorem SAt_row {A B : World} {base k uc : Nat} {ua : Option Addr} {l : List By} {P : Nat → Prop} (ho : A.ownsRow base 9 1 (.slice ua k uc) k (nmS l)) (hl : l.length = k) (hk : ∀ b, (Value.slice ua k uc).ownBlock = some b → B.heap[b]? = A.heap[b]? ∧ P b) : SAt P B l ua k := by
  refine ⟨hl.symm, fun i x hi => ?_⟩
  have hil : i < k := by have := (List.getElem?_eq_some_iff.1 hi).1; omega
  rcases ho.2 with ⟨h0, h1⟩ | ⟨g, cap, cur, he, _⟩
  · omega
  · cases he
    obtain ⟨h1, h2⟩ := hk g rfl
    refine ⟨g, 0, rfl, h2, ?_⟩
    rw [World.cell?_of_block (a := ⟨g, 0 + i, none⟩) h1, Nat.zero_add, ho.cellAt i (by omega)]
    simp [nmS, hi]

/-- What is known while the names are gathered. -/
structure MoS (w7 : World) (n7 : Nat) (nm : By) (wr : World) (sv : Value) : Prop where
  bel : Below n7 w7 wr
  nd : wr.heap[n7]? = some (.cells #[.string ⟨nm.toArray⟩, .string ⟨#[117]⟩, sv, .bool false, .bool false, .slice none 0 0] 38 (0, 0))

section
variable {w7 wr w' : World} {n7 : Nat} {nm : By} {sv : Value}

theorem MoS.lt (h : MoS w7 n7 nm wr sv) : n7 < wr.heap.size := (Array.getElem?_eq_some_iff.1 h.nd).1
theorem MoS.later (h : MoS w7 n7 nm wr sv) (hb : Below wr.heap.size wr w') : MoS w7 n7 nm w' sv := ⟨h.bel.trans (hb.mono (Nat.le_of_lt h.lt)), (hb.block _ h.lt).trans h.nd⟩
theorem MoS.grow (h : MoS w7 n7 nm wr sv) {row : Option Nat} (hg : wr.grownBy w' row) (hr : ∀ b, row = some b → n7 < b) : MoS w7 n7 nm w' sv :=
  ⟨h.bel.grown hg (Nat.le_of_lt h.lt) (fun k hk => Nat.le_of_lt (hr k hk)), (hg.block _ h.lt (fun e => by have := hr _ e.symm; omega)).trans h.nd⟩
theorem MoS.put (h : MoS w7 n7 nm wr sv) (u : Value) : MoS w7 n7 nm (wr.setCell ⟨n7, 2, none⟩ u) u :=
  ⟨h.bel.setCell (p := ⟨n7, 2, none⟩) (Nat.le_refl _) _, Dg.row_set h.nd 2 u⟩
end

/-- Slots that are set one after another. -/
def setAll (tm : Array Value) : List (Nat × Value) → Array Value
  | [] => tm
  | (d, v) :: r => setAll (tm.setIfInBounds d v) r

/-- A region that draws, ended the same way in all its orders. -/
theorem region_then {P : Program} {id : Nat} {ops : Array Oper} {dr : Bool} {Q : Exit → Act → World → Prop} {K : Act → World → Prop} {a : Act} {w : World} (D : List Nat) (F : List Value → World → Prop)
    (h : (Code.region id ops dr).wp P (fun e a' w' => e = .normal ∧ ∃ us : List Value, us.length = D.length ∧ a' = { tmps := setAll a.tmps (D.zip us), defers := a.defers } ∧ F us w') a w)
    (h2 : ∀ (us : List Value) (w' : World), us.length = D.length → F us w' → K { tmps := setAll a.tmps (D.zip us), defers := a.defers } w') : (Code.region id ops dr).wp P (Exit.then K Q) a w := by
  refine wp_mono h ?_
  rintro e a' w' ⟨rfl, us, hl, rfl, hF⟩
  exact h2 us w' hl hF

theorem own_low {w : World} {B B' : Nat} {e size : Nat} {v : Value} {n : Nat} {xs : List Value} (h : w.ownsRow B e size v n xs) (hB : B' ≤ B) : w.ownsRow B' e size v n xs := by
  obtain ⟨h1, h2⟩ := h
  refine ⟨h1, ?_⟩
  rcases h2 with h2 | ⟨g, cap, cur, a, b, c⟩
  · exact .inl h2
  · exact .inr ⟨g, cap, cur, a, by omega, c⟩

theorem list13 {α : Type} (us : List α) (h : us.length = 13) : ∃ a0 a1 a2 a3 a4 a5 a6 a7 a8 a9 a10 a11 a12 : α, us = [a0, a1, a2, a3, a4, a5, a6, a7, a8, a9, a10, a11, a12] :=
  match us, h with
  | [a0, a1, a2, a3, a4, a5, a6, a7, a8, a9, a10, a11, a12], _ => ⟨a0, a1, a2, a3, a4, a5, a6, a7, a8, a9, a10, a11, a12, rfl⟩

/-- A node's cells are added to a row of the call's own. -/
theorem app_nodes (U : World) (B g bm bc nb noff : Nat) (vals : List Value) (hown : U.ownsRow B 38 6 (.slice (some ⟨g, 0, none⟩) 0 0) 0 []) (hl : vals.length = bm * 6) (hc : ∀ j u, vals[j]? = some u → U.cell? ((⟨nb, noff, none⟩ : Addr).add j) = some u) (h1 : ∀ u ∈ vals, u.oneCell' = true) (hn : bm ≤ 1000) (hB : B ≤ U.heap.size) :
    ∃ a7 c7 W7, (Builtin.append_ #[33, 33] 33 #[.slice (some ⟨g, 0, none⟩) 0 0, .slice (some ⟨nb, noff, none⟩) bm bc]).run Tryd.prog U = .ok (.slice a7 bm c7) W7 ∧ W7.ownsRow B 38 6 (.slice a7 bm c7) bm vals ∧ U.grownBy W7 (some g) := by
  obtain ⟨i0, hi0, hz0, hz1, hz2⟩ := info_parts inf68
  obtain ⟨u', W', hr, ho, hg, _, _⟩ := run_append_own_at (P := Tryd.prog) U B 33 33 38 i0 _ 6 _ Tryd.underlying33 hi0 hz0 hz1 hz2 rfl (by decide) _ 0 _ hown ⟨nb, noff, none⟩ bm bc vals hl hc h1 (by unfold maxLen; omega) (by omega) hB
  rw [Nat.zero_add, List.nil_append] at ho
  obtain ⟨a7, c7, rfl⟩ := own_slice ho
  exact ⟨a7, c7, W', hr, ho, hg⟩

theorem app_node (U : World) (B bm c7 p : Nat) (a7 : Option Addr) (vals : List Value) (v0 v1 v2 v3 v4 v5 : Value) (hown : U.ownsRow B 38 6 (.slice a7 bm c7) bm vals) (hrow : U.heap[p]? = some (.cells #[v0, v1, v2, v3, v4, v5] 38 (0, 0))) (h1 : ∀ u ∈ [v0, v1, v2, v3, v4, v5], u.oneCell' = true) (hn : bm ≤ 1000) (hB : B ≤ U.heap.size) :
    ∃ a c W, (Builtin.append_ #[33, 33] 33 #[.slice a7 bm c7, .slice (some ⟨p, 0, none⟩) 1 1]).run Tryd.prog U = .ok (.slice a (bm + 1) c) W ∧ W.ownsRow B 38 6 (.slice a (bm + 1) c) (bm + 1) (vals ++ [v0, v1, v2, v3, v4, v5]) ∧ U.grownBy W (Value.slice a7 bm c7).ownBlock := by
  obtain ⟨i0, hi0, hz0, hz1, hz2⟩ := info_parts inf68
  have hcl : ∀ (j : Nat) (u : Value), ([v0, v1, v2, v3, v4, v5] : List Value)[j]? = some u → U.cell? ((⟨p, 0, none⟩ : Addr).add j) = some u := by
    intro j u hj
    rw [Go.WideShapes.add_plain, Nat.zero_add, Dg.cell_row hrow, ← Array.getElem?_toList]
    exact hj
  obtain ⟨u', W', hr, ho, hg, _, _⟩ := run_append_own_at (P := Tryd.prog) U B 33 33 38 i0 _ 6 _ Tryd.underlying33 hi0 hz0 hz1 hz2 rfl (by decide) _ bm _ hown ⟨p, 0, none⟩ 1 1 [v0, v1, v2, v3, v4, v5] rfl hcl h1 (by unfold maxLen; omega) (by omega) hB
  obtain ⟨a, c, rfl⟩ := own_slice ho
  exact ⟨a, c, W', hr, ho, hg⟩

theorem below_grown {k : Nat} {A B C : World} {row : Option Nat} (h : Below k A B) (hg : B.grownBy C row) (hr : ∀ b, row = some b → k ≤ b) (hk : k ≤ B.heap.size) : Below k A C := h.grown hg hk hr

theorem flat_len {P : Nat → Prop} {w : World} {k : Bool} {t : Tr} {vs : List (List Value)} (h : VRd P w k t vs) : vs.flatten.length = t.len * wide k := by
  rw [(h.cells t).1, h.len t]

/-- The saga with a step more stands in memory. -/
theorem more_tat {w w6 W : World} {t : Tr} {nm : By} {vs : List (List Value)} {gl tl lc bm : Nat} {init : List (List Value)} {bv : Option Addr} {bc : Nat} {nvs : List (List Value)} {nv : Option Addr} {nc : Nat} {sv : Option Addr} {sc : Nat}
    (hl : t.len = tl) (h0 : 0 < tl) (hv : VRd (· < w.heap.size) w true t vs) (he : vs = init ++ [[.slice bv bm bc]])
    (hmk : ∀ (Q : Nat → Prop) (w' : World) (lab : Lab) (nv : Option Addr) (nn nc : Nat), Keeps (· < w.heap.size) w w' → (∀ b, b < w.heap.size → b < w.heap.size → Q b) → TAt Q w' false (addN lab (lastT t)) nv 0 nn → VRd Q w' true (addB lab t) (init ++ [[.slice nv nn nc]]))
    (hB6 : Below w.heap.size w w6) (hrow : w6.ownsRow w.heap.size 35 1 (.slice (some ⟨gl, 0, none⟩) tl lc) tl vs.flatten) (hB : Below w6.heap.size w6 W)
    (hnv : VRd (· < w.heap.size) w false (lastT t) nvs) (hnl : nvs.length = bm)
    (hown : W.ownsRow w6.heap.size 38 6 (.slice nv (bm + 1) nc) (bm + 1) (nvs.flatten ++ [.string ⟨nm.toArray⟩, .string ⟨#[117]⟩, .slice sv bm sc, .bool false, .bool false, .slice none 0 0]))
    (hs : SAt (fun b => w6.heap.size ≤ b ∧ b < W.heap.size) W (namesT (lastT t)) sv bm) :
    TAt (· < (W.setCell ⟨gl, tl - 1, none⟩ (.slice nv (bm + 1) nc)).heap.size) (W.setCell ⟨gl, tl - 1, none⟩ (.slice nv (bm + 1) nc)) true (addB (stepL nm t) t) (some ⟨gl, 0, none⟩) 0 tl ∧ Below w.heap.size w (W.setCell ⟨gl, tl - 1, none⟩ (.slice nv (bm + 1) nc)) := by
  have hgl := hrow.lt gl rfl
  obtain ⟨WR, hWR⟩ : ∃ WR, WR = W.setCell ⟨gl, tl - 1, none⟩ (.slice nv (bm + 1) nc) := ⟨_, rfl⟩
  have hsz : WR.heap.size = W.heap.size := by rw [hWR]; simp
  have hbW : Below w.heap.size w W := hB6.trans (hB.mono hB6.size)
  have hbR : Below w.heap.size w WR := by rw [hWR]; exact hbW.setCell (p := ⟨gl, tl - 1, none⟩) hgl.1 _
  have hoth : ∀ b, b ≠ gl → WR.heap[b]? = W.heap[b]? := fun b hb => by rw [hWR]; exact Below.heap_setCell _ _ _ _ hb
  have hzW := hB.size
  rw [← hWR]
  refine ⟨?_, hbR⟩
  have hkW : Keeps (· < w.heap.size) w WR := fun b hb _ => hbR.block b hb
  have hnv2 : VRd (· < WR.heap.size) WR false (addN (stepL nm t) (lastT t)) (nvs ++ [[Value.string ⟨nm.toArray⟩, Value.string ⟨#[117]⟩, .slice sv bm sc, .bool false, .bool false, .slice none 0 0]]) := by
    refine VRd.moreN (stepL nm t) sv bm sc ?_ (lastT t) nvs (VRd.keep hkW (fun b hb _ => Nat.lt_of_lt_of_le hb hbR.size) _ _ _ hnv)
    exact SAt.keep hs (fun b hb _ => hoth b (by have := hb.1; omega)) (fun b hb _ => by rw [hsz]; exact hb.2)
  have hown2 : WR.ownsRow w6.heap.size 38 6 (.slice nv (bm + 1) nc) (nvs ++ [[Value.string ⟨nm.toArray⟩, Value.string ⟨#[117]⟩, .slice sv bm sc, .bool false, .bool false, .slice none 0 0]]).length (nvs ++ [[Value.string ⟨nm.toArray⟩, Value.string ⟨#[117]⟩, .slice sv bm sc, .bool false, .bool false, .slice none 0 0]]).flatten := by
    have e1 : (nvs ++ [[Value.string ⟨nm.toArray⟩, Value.string ⟨#[117]⟩, .slice sv bm sc, .bool false, .bool false, .slice none 0 0]]).length = bm + 1 := by rw [List.length_append, hnl]; rfl
    have e2 : (nvs ++ [[Value.string ⟨nm.toArray⟩, Value.string ⟨#[117]⟩, .slice sv bm sc, .bool false, .bool false, .slice none 0 0]]).flatten = nvs.flatten ++ [.string ⟨nm.toArray⟩, .string ⟨#[117]⟩, .slice sv bm sc, .bool false, .bool false, .slice none 0 0] := by rw [List.flatten_append]; simp
    rw [e1, e2]
    exact own_agree (G := fun b => b ≠ gl) (fun b hb => hoth b hb) hown (fun b hb => by have := (hown.lt b hb).1; omega)
  obtain ⟨a9, c9, h9, hT9⟩ := VRd.own hnv2 hown2 (fun g hg => by rw [hsz]; exact (hown.lt g hg).2)
  have hlast : (addN (stepL nm t) (lastT t)).len = bm + 1 := by
    have := hnv2.len
    rw [← this, List.length_append, hnl]
    rfl
  rw [hlast] at h9 hT9
  simp only [Value.slice.injEq] at h9
  obtain ⟨rfl, _, rfl⟩ := h9
  have hV := hmk (· < WR.heap.size) WR (stepL nm t) nv (bm + 1) nc hkW (fun b hb _ => Nat.lt_of_lt_of_le hb hbR.size) hT9
  have hil : init.flatten.length = tl - 1 := by
    have h7 := flat_len hv
    rw [he, List.flatten_append, List.length_append, hl, show wide true = 1 from rfl, Nat.mul_one, show ([[Value.slice bv bm bc]] : List (List Value)).flatten.length = 1 from rfl] at h7
    omega
  have hvl : (init ++ [[Value.slice nv (bm + 1) nc]]).length = tl := by
    have h7 := hv.len
    rw [he, hl, List.length_append] at h7
    rw [List.length_append]
    exact h7
  have hat := VRd.at (w := WR) gl (by rw [hsz]; omega) _ true _ 0 hV (fun j u hj => by
    simp only [wide, if_true, Nat.zero_mul, Nat.zero_add]
    have hcW : ∀ j u, vs.flatten[j]? = some u → W.cell? ⟨gl, j, none⟩ = some u := fun j u hj => by
      have h6 : w6.cell? ⟨gl, j, none⟩ = some u := by
        have hjl : j < tl := by have := (List.getElem?_eq_some_iff.1 hj).1; rw [flat_len hv, hl] at this; simpa [wide] using this
        rw [hrow.cellAt j (by omega)]
        exact hj
      exact Dg.cell_later hB h6
    rw [List.flatten_append] at hj
    by_cases hjl : j < tl - 1
    · rw [List.getElem?_append_left (by omega)] at hj
      have h5 := hcW j u (by rw [he, List.flatten_append, List.getElem?_append_left (by omega)]; exact hj)
      rw [hWR, World.cell?_setCell_other _ _ _ _ (by intro h; cases h; omega)]
      exact h5
    · have hj0 : j = tl - 1 := by
        have := (List.getElem?_eq_some_iff.1 hj).1
        rw [List.length_append, hil] at this
        simp at this
        omega
      subst hj0
      rw [List.getElem?_append_right (by omega), hil, Nat.sub_self] at hj
      simp at hj
      subst hj
      have h5 := hcW (tl - 1) (.slice bv bm bc) (by rw [he, List.flatten_append, List.getElem?_append_right (by omega), hil, Nat.sub_self]; simp)
      rw [hWR, World.cell?_setCell_same' _ _ _ (by rw [h5]; rfl)])
  rw [hvl, Nat.zero_add] at hat
  exact hat
end Go.Proofs.YtpgdafmenbeffaaDoor

/- For PlanMore: what the last calls answer. -/
namespace Go.Proofs.YtpgdafmenbeffaaDoor
open Go.RowKit Go.Shelf Go.Proofs.YtpgdafmenbeffaaDoor.Sx
set_option linter.unusedVariables false

theorem plan_after {x : By} {t : Tr} {its : List It} (h : planT x t = some its) : ∀ z ∈ its, z.after.length ≤ 100000 := by
  obtain ⟨hfit, _, _, he⟩ := planT_parts h
  have hcnt := fit_cnt hfit
  intro z hz
  rw [he] at hz
  have := (its2_after x t.len (xsT t 0 0 0) _ z hz).1
  rw [xsT_len] at this
  omega

set_option maxRecDepth 1000000 in
theorem cut_items {w : World} {a : Option Addr} {n c m : Nat} {its : List It} {z : It} (h : RdIt w (.slice a n c) (its ++ [z])) (hm : m = its.length) (hs : m ≤ 1000) (wx : World) :
    (Instr.sliceAt 27 (.slice a n c) none (some (.int .i64 (m : Int))) none).run Tryd.prog wx = .ok (.slice a m c) wx := by
  obtain ⟨a', c', he, hc, hr⟩ := h
  simp only [Value.slice.injEq] at he
  obtain ⟨rfl, _, rfl⟩ := he
  rw [List.length_append] at hc
  simp only [List.length_cons, List.length_nil] at hc
  obtain ⟨y, hy⟩ : ∃ y, (its ++ [z])[0]? = some y := ⟨_, List.getElem?_eq_getElem (by simp)⟩
  obtain ⟨b, off, _, _, _, rfl, _⟩ := hr 0 y hy
  rw [run_sliceAt_slice wx 27 _ _ _ _ Tryd.underlying27, run_slice_h wx 27 (some ⟨b, off, none⟩) n c Tryd.underlying27 .i64 m (by omega) (by omega)]
  have h8 : (sizeOf (Tryd.prog.elem 27)).run Tryd.prog wx = .ok 8 wx := by kernel_rfl
  rw [h8]
  have hc0 : ¬ c = 0 := by omega
  simp [sliced, hc0, Go.WideShapes.add_plain]

/-- The last calls of PlanMore: what is known ahead of them is known behind them. -/
theorem more_in (hLv : ∀ wx : World, Dg.Tab wx → Calls Tryd.prog 5 #[] wx fun e w' => e = .returned (.bool true) ∧ Below wx.heap.size wx w') (W0 : World) (B5 B11 n5 c5 c11 : Nat) (v5 v11 : Option Addr) (x : By) (t t2 : Tr) (its : List It) (z : It) (hT : Dg.Tab W0)
    (hP : planT x t = some its) (hP2 : planT x t2 = some (its ++ [z])) (hF2 : Fair t2) (hx : x.length ≤ 1000000) (hO : overI (its ++ [z]) (its.length : Int) = []) (hn5 : its.length = n5) (hn64 : n5 ≤ 64)
    (h5 : RdIt W0 (.slice v5 n5 c5) its) (h11 : RdIt W0 (.slice v11 (n5 + 1) c11) (its ++ [z])) :
    (∀ wx : World, (Below W0.heap.size W0 wx ∧ wx.cell? ⟨B11, 0, none⟩ = some (.slice v11 (n5 + 1) c11) ∧ wx.cell? ⟨B5, 0, none⟩ = some (.slice v5 n5 c5)) → Calls Tryd.prog 7 #[.agg #[.slice v11 n5 c11], .agg #[.slice v5 n5 c5]] wx fun e w' => e = .returned (.bool true) ∧ (Below W0.heap.size W0 w' ∧ w'.cell? ⟨B11, 0, none⟩ = some (.slice v11 (n5 + 1) c11) ∧ w'.cell? ⟨B5, 0, none⟩ = some (.slice v5 n5 c5))) ∧
    (∀ wx : World, (Below W0.heap.size W0 wx ∧ wx.cell? ⟨B11, 0, none⟩ = some (.slice v11 (n5 + 1) c11) ∧ wx.cell? ⟨B5, 0, none⟩ = some (.slice v5 n5 c5)) → Calls Tryd.prog 8 #[.agg #[.slice v11 (n5 + 1) c11], .int .i64 (n5 : Int)] wx fun e w' => ∃ a c, e = .returned (.slice a 0 c) ∧ (Below W0.heap.size W0 w' ∧ w'.cell? ⟨B11, 0, none⟩ = some (.slice v11 (n5 + 1) c11) ∧ w'.cell? ⟨B5, 0, none⟩ = some (.slice v5 n5 c5))) ∧
    (∀ wx : World, (Below W0.heap.size W0 wx ∧ wx.cell? ⟨B11, 0, none⟩ = some (.slice v11 (n5 + 1) c11) ∧ wx.cell? ⟨B5, 0, none⟩ = some (.slice v5 n5 c5)) → Calls Tryd.prog 5 #[] wx fun e w' => e = .returned (.bool true) ∧ (Below W0.heap.size W0 w' ∧ w'.cell? ⟨B11, 0, none⟩ = some (.slice v11 (n5 + 1) c11) ∧ w'.cell? ⟨B5, 0, none⟩ = some (.slice v5 n5 c5))) := by
  have K : ∀ w1 w2 : World, (Below W0.heap.size W0 w1 ∧ w1.cell? ⟨B11, 0, none⟩ = some (.slice v11 (n5 + 1) c11) ∧ w1.cell? ⟨B5, 0, none⟩ = some (.slice v5 n5 c5)) → Below w1.heap.size w1 w2 → (Below W0.heap.size W0 w2 ∧ w2.cell? ⟨B11, 0, none⟩ = some (.slice v11 (n5 + 1) c11) ∧ w2.cell? ⟨B5, 0, none⟩ = some (.slice v5 n5 c5)) := by
    rintro w1 w2 ⟨h1, h2, h3⟩ hb
    exact ⟨h1.trans (hb.mono h1.size), Dg.cell_later hb h2, Dg.cell_later hb h3⟩
  refine ⟨?_, ?_, ?_⟩
  · intro wx hS
    refine Calls.mono (planSame_any its _ _ wx (RdIt.front (h11.later hS.1) n5 hn5.symm) (h5.later hS.1) (by omega) (plan_after hP)) ?_
    rintro e w' ⟨h, hb⟩
    exact ⟨h, K _ _ hS hb⟩
  · intro wx hS
    refine Calls.mono (OverP_any (its ++ [z]) _ (n5 : Int) wx (h11.later hS.1) (plan_fairI hP2 hF2 hx) (hT.later hS.1)) ?_
    rintro e w' ⟨hb, u, rfl, hu⟩
    rw [← hn5, hO] at hu
    obtain ⟨a, c, rfl, _⟩ := hu
    exact ⟨a, c, rfl, K _ _ hS hb⟩
  · intro wx hS
    refine Calls.mono (hLv wx (hT.later hS.1)) ?_
    rintro e w' ⟨h, hb⟩
    exact ⟨h, K _ _ hS hb⟩
end Go.Proofs.YtpgdafmenbeffaaDoor

