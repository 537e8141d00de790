/-
  A change folded into changes, and the rows that they make: plainly.
-/
import Derived.Test.YtmbllmhpnopbdaaFFChp
import Derived.Test.YtmbllmhpnopbdaaFFFcp
import Derived.Test.YtmbllmhpnopbdaaFFFsh

namespace Go.Proofs.Ytmbllmhpnopbdaa
open Go.RowKit Go.Maps
set_option linter.unusedVariables false

theorem key_bef {c : Chg} (h : chQ c = 0) {r : Rw} (hr : befR c = some r) : (r.t = kT c ∧ r.k = kK c) ∧ rwF r = 0 := by
  obtain ⟨_, h2, h3, _⟩ := chQ_zero h
  unfold befR at hr
  split at hr
  · rename_i hw
    cases hr
    refine ⟨?_, h3 hw⟩
    unfold kT kK
    by_cases hi : c.is = true
    · rw [if_pos hi, if_pos hi]; exact h2 hw hi
    · rw [if_neg hi, if_neg hi]; exact ⟨rfl, rfl⟩
  · cases hr
theorem key_aft {c : Chg} (h : chQ c = 0) {r : Rw} (hr : aftR c = some r) : (r.t = kT c ∧ r.k = kK c) ∧ rwF r = 0 := by
  obtain ⟨_, _, _, h4⟩ := chQ_zero h
  unfold aftR at hr
  split at hr
  · rename_i hi
    cases hr
    refine ⟨?_, h4 hi⟩
    unfold kT kK
    rw [if_pos hi, if_pos hi]; exact ⟨rfl, rfl⟩
  · cases hr
theorem rsF_of : ∀ (l : List Rw) (p : Option Rw), (∀ r ∈ l, rwF r = 0) → l.Pairwise rLt → (∀ q, p = some q → ∀ r ∈ l, rLt q r) → rsF p l = 0
  | [], _, _, _, _ => rfl
  | r :: l, p, h1, h2, h3 => by
    obtain ⟨p1, p2⟩ := List.pairwise_cons.1 h2
    have hok : rsOk p r = true := by
      cases p with
      | none => rfl
      | some q => exact (befB_iff _ _ _ _).2 (h3 q rfl r (by simp))
    rw [rsF_cons, if_pos (h1 r (by simp)), if_pos hok]
    exact rsF_of l (some r) (fun x hx => h1 x (by simp [hx])) p2 (fun q hq x hx => by cases hq; exact p1 x hx)
theorem rowsQ_of {rs : List Rw} (h0 : rs.length ≤ 60) (h1 : ∀ r ∈ rs, rwF r = 0) (h2 : rs.Pairwise rLt) : rowsQ rs = 0 := by
  unfold rowsQ
  rw [if_neg (by omega)]
  exact rsF_of rs none h1 h2 (fun q hq => by cases hq)
theorem srt_ne {cs : List Chg} (h : cs.Pairwise (fun a b => kLt a b = true)) : cs.Pairwise (fun a b => ¬ (kT a = kT b ∧ kK a = kK b)) :=
  h.imp fun {a b} h e => by rw [kLt_iff] at h; omega
/-- A row of each change: rising, and each found by its key. -/
theorem fm_rows (G : Chg → Option Rw) : ∀ (cs : List Chg), cs.Pairwise (fun a b => kLt a b = true) → (∀ c ∈ cs, ∀ r, G c = some r → (r.t = kT c ∧ r.k = kK c) ∧ rwF r = 0) → (cs.filterMap G).Pairwise rLt ∧ (∀ r ∈ cs.filterMap G, rwF r = 0) ∧ ∀ x y, fR (cs.filterMap G) x y = (fK cs x y).bind G
  | [], _, _ => ⟨List.Pairwise.nil, by simp, fun x y => rfl⟩
  | c :: l, hs, hg => by
    obtain ⟨p1, p2⟩ := List.pairwise_cons.1 hs
    obtain ⟨i1, i2, i3⟩ := fm_rows G l p2 (fun d hd => hg d (by simp [hd]))
    have hn : fK l (kT c) (kK c) = none := fK_none fun z hz e => by have := kLt_iff.1 (p1 z hz); omega
    cases hr : G c with
    | none =>
      have e : (c :: l).filterMap G = l.filterMap G := by rw [List.filterMap_cons, hr]
      rw [e]
      refine ⟨i1, i2, fun x y => ?_⟩
      rw [fK_cons]
      by_cases k : kT c = x ∧ kK c = y
      · obtain ⟨rfl, rfl⟩ := k
        rw [if_pos ⟨rfl, rfl⟩, i3, hn]
        show none = G c
        rw [hr]
      · rw [if_neg k, i3]
    | some r =>
      have e : (c :: l).filterMap G = r :: l.filterMap G := by rw [List.filterMap_cons, hr]
      obtain ⟨⟨e1, e2⟩, e3⟩ := hg c (by simp) r hr
      rw [e]
      refine ⟨List.pairwise_cons.2 ⟨fun s hs => ?_, i1⟩, fun s hs => ?_, fun x y => ?_⟩
      · obtain ⟨d, hd, hds⟩ := List.mem_filterMap.1 hs
        obtain ⟨⟨f1, f2⟩, _⟩ := hg d (by simp [hd]) s hds
        have := kLt_iff.1 (p1 d hd)
        unfold rLt
        omega
      · rcases List.mem_cons.1 hs with rfl | hs
        · exact e3
        · exact i2 s hs
      · rw [fK_cons]
        by_cases k : kT c = x ∧ kK c = y
        · obtain ⟨rfl, rfl⟩ := k
          rw [if_pos ⟨rfl, rfl⟩]
          show fR (r :: l.filterMap G) (kT c) (kK c) = G c
          rw [hr]
          unfold fR
          simp [e1, e2]
        · rw [if_neg k, ← i3]
          unfold fR
          rw [List.find?_cons_of_neg]
          simp only [Bool.and_eq_true, decide_eq_true_eq]
          rw [e1, e2]
          exact k
/-- The rows ahead of changes and behind them. -/
def bfL (cs : List Chg) : List Rw := cs.filterMap befR
def afL (cs : List Chg) : List Rw := cs.filterMap aftR
structure Fld (cs : List Chg) (c : Chg) (r : List Chg) : Prop where
  len : cs.length ≤ 12
  q : ∀ x ∈ cs, alQ x = 0
  s : cs.Pairwise (fun a b => kLt a b = true)
  c0 : alQ c = 0
  see : seeR c cs = some r
theorem Fld.of {cs : List Chg} {c : Chg} (hl : cs.length ≤ 12) (h : fcQ cs c = 0) : Fld cs c (fcL cs c) := by
  unfold fcQ at h
  split at h
  · rename_i h1
    obtain ⟨_, hq, hs⟩ := fdQ_zero h1
    split at h
    · rename_i h2
      split at h
      · rename_i h3
        refine ⟨hl, hq, hs, h2, ?_⟩
        unfold fcL
        rw [if_pos h1, if_pos h2]
        rw [fdR_see hs] at h3 ⊢
        obtain ⟨r, hr⟩ := Option.isSome_iff_exists.1 h3
        rw [hr]; rfl
      · exact absurd h (by decide)
    · rename_i h2; exact absurd h h2
  · rename_i h1; exact absurd h h1
theorem Fld.ch {cs : List Chg} {c : Chg} {r : List Chg} (h : Fld cs c r) : ∀ x ∈ cs, chQ x = 0 := fun x hx => (alQ_zero (h.q x hx)).1
theorem Fld.bf {cs : List Chg} {c : Chg} {r : List Chg} (h : Fld cs c r) : rowsQ (bfL cs) = 0 ∧ ∀ x y, fR (bfL cs) x y = (fK cs x y).bind befR := by
  obtain ⟨h1, h2, h3⟩ := fm_rows befR cs h.s fun x hx r hr => key_bef (h.ch x hx) hr
  have hl : (bfL cs).length ≤ cs.length := List.length_filterMap_le _ _
  have := h.len
  exact ⟨rowsQ_of (by omega) h2 h1, h3⟩
theorem Fld.af {cs : List Chg} {c : Chg} {r : List Chg} (h : Fld cs c r) : rowsQ (afL cs) = 0 ∧ ∀ x y, fR (afL cs) x y = (fK cs x y).bind aftR := by
  obtain ⟨h1, h2, h3⟩ := fm_rows aftR cs h.s fun x hx r hr => key_aft (h.ch x hx) hr
  have hl : (afL cs).length ≤ cs.length := List.length_filterMap_le _ _
  have := h.len
  exact ⟨rowsQ_of (by omega) h2 h1, h3⟩
/-- Changes done to the rows ahead of them: the rows behind. -/
theorem Fld.first {cs : List Chg} {c : Chg} {r : List Chg} (h : Fld cs c r) : acQ (bfL cs) cs = 0 ∧ acL (bfL cs) cs = afL cs := by
  obtain ⟨b1, b2⟩ := h.bf
  obtain ⟨a1, a2⟩ := h.af
  obtain ⟨L, e, hL, f1, f2⟩ := apR_all cs (bfL cs) (rowsQ_ris b1).1 h.ch (srt_ne h.s) (fun x hx => by rw [b2, fK_mem h.s hx]; rfl)
  have hE : L = afL cs := ris_ext hL (rowsQ_ris a1).1 fun x y => by
    rw [a2]
    cases hf : fK cs x y with
    | some z =>
      obtain ⟨hz, rfl, rfl⟩ := fK_some hf
      rw [f1 z hz]; rfl
    | none =>
      rw [f2 x y (fun z hz k => by
        obtain ⟨rfl, rfl⟩ := k
        rw [fK_mem h.s hz] at hf
        cases hf), b2, hf]
      rfl
  subst hE
  have hq : acQ (bfL cs) cs = 0 := by rw [acQ_end b1 e, if_neg (by have := (rowsQ_ris a1).2; omega)]
  exact ⟨hq, by unfold acL; rw [if_pos hq, e]⟩
theorem Fld.step {cs : List Chg} {c : Chg} {r : List Chg} (h : Fld cs c r) : stepF (fK cs) c = some (fK r) := by
  rw [← see_step h.c0 h.q h.s, h.see]; rfl
theorem Fld.srt {cs : List Chg} {c : Chg} {r : List Chg} (h : Fld cs c r) : r.Pairwise (fun a b => kLt a b = true) := see_sorted h.c0 h.q h.s h.see
/-- What stands in what is folded. -/
theorem see_mem {c : Chg} : ∀ {l r : List Chg}, seeR c l = some r → ∀ z ∈ r, z ∈ l ∨ z = c ∨ ∃ x ∈ l, z = joinC x c
  | [], r, h, z, hz => by
    simp only [seeR, Option.some.injEq] at h
    subst h
    simp at hz
    exact .inr (.inl hz)
  | x :: l, r, h, z, hz => by
    unfold seeR at h
    split at h
    · obtain ⟨r', hr', rfl⟩ := Option.map_eq_some_iff.1 h
      rcases List.mem_cons.1 hz with rfl | hz
      · exact .inl (by simp)
      · rcases see_mem hr' z hz with h1 | h1 | ⟨y, hy, h1⟩
        · exact .inl (by simp [h1])
        · exact .inr (.inl h1)
        · exact .inr (.inr ⟨y, by simp [hy], h1⟩)
    · split at h
      · cases h
        rcases List.mem_cons.1 hz with rfl | hz
        · exact .inr (.inl rfl)
        · exact .inl hz
      · split at h
        · cases h
          split at hz
          · exact .inl (by simp [hz])
          · rcases List.mem_cons.1 hz with rfl | hz
            · exact .inr (.inr ⟨x, by simp, rfl⟩)
            · exact .inl (by simp [hz])
        · cases h
theorem see_new {c : Chg} : ∀ {l r : List Chg}, seeR c l = some r → (∀ x ∈ l, ¬ (kT x = kT c ∧ kK x = kK c)) → r.length = l.length + 1
  | [], r, h, _ => by
    simp only [seeR, Option.some.injEq] at h
    subst h; rfl
  | x :: l, r, h, hn => by
    unfold seeR at h
    split at h
    · obtain ⟨r', hr', rfl⟩ := Option.map_eq_some_iff.1 h
      rw [List.length_cons, List.length_cons, see_new hr' fun y hy => hn y (by simp [hy])]
    · rename_i h1
      split at h
      · cases h; simp
      · rename_i h2
        have h1 : ¬ (kT x < kT c ∨ (kT x = kT c ∧ kK x < kK c)) := fun e => h1 (kLt_iff.2 e)
        have h2 : ¬ (kT c < kT x ∨ (kT c = kT x ∧ kK c < kK x)) := fun e => h2 (kLt_iff.2 e)
        exact absurd ⟨by omega, by omega⟩ (hn x (by simp))
theorem onB_iff {x c : Chg} (h : onB x c = true) : befR c = aftR x := by
  unfold onB at h
  unfold befR aftR
  cases hw : c.was <;> cases hi : x.is <;> rw [hw, hi] at h <;> simp at h ⊢
  exact rwEq_iff.1 h
theorem nth_join {x c : Chg} (h : nthB (joinC x c) = true) : befR x = aftR c := by
  unfold nthB joinC at h
  unfold befR aftR
  cases hw : x.was <;> cases hi : c.is <;> simp [hw, hi] at h ⊢
  exact rwEq_iff.1 h
theorem chQ_join {x c : Chg} (hx : alQ x = 0) (hc : alQ c = 0) (ht : kT x = kT c ∧ kK x = kK c) (hn : nthB (joinC x c) = false) : chQ (joinC x c) = 0 := by
  have h1 := (alQ_zero hx).1
  have h2 := (alQ_zero hc).1
  obtain ⟨_, _, x3, _⟩ := chQ_zero h1
  obtain ⟨_, _, _, c4⟩ := chQ_zero h2
  refine chQ_of ?_ (fun hw hi => ?_) x3 c4
  · unfold nthB joinC at hn
    show x.was = true ∨ c.is = true
    cases hw : x.was <;> cases hi : c.is <;> simp [hw, hi] at hn ⊢
  · have e1 := (key_bef h1 (r := x.b) (by unfold befR; rw [if_pos (show x.was = true from hw)])).1
    have e2 := (key_aft h2 (r := c.a) (by unfold aftR; rw [if_pos (show c.is = true from hi)])).1
    exact ⟨e1.1.trans (ht.1.trans e2.1.symm), e1.2.trans (ht.2.trans e2.2.symm)⟩
/-- Is the row ahead of the change among the rows behind the others? -/
def fndB (cs : List Chg) (c : Chg) : Bool := cs.any fun x => x.is && rwEq x.a c.b
theorem Fld.found {cs : List Chg} {c : Chg} {r : List Chg} (h : Fld cs c r) (hw : c.was = true) (hf : fndB cs c = true) : ∃ x, fK cs (kT c) (kK c) = some x := by
  obtain ⟨x, hx, e⟩ := List.any_eq_true.1 hf
  simp only [Bool.and_eq_true] at e
  have e1 := (key_aft (h.ch x hx) (r := x.a) (by unfold aftR; rw [if_pos e.1])).1
  have e2 := (key_bef (alQ_zero h.c0).1 (r := c.b) (by unfold befR; rw [if_pos hw])).1
  rw [rwEq_iff.1 e.2] at e1
  refine ⟨x, ?_⟩
  rw [← e2.1, ← e2.2, e1.1, e1.2]
  exact fK_mem h.s hx
theorem Fld.lost {cs : List Chg} {c : Chg} {r : List Chg} (h : Fld cs c r) (hw : c.was = true) (hf : fndB cs c = false) : r.length = cs.length + 1 := by
  refine see_new h.see fun x hx e => ?_
  have hfx := fK_mem h.s hx
  rw [e.1, e.2] at hfx
  have hs := h.step
  unfold stepF at hs
  rw [hfx] at hs
  simp only at hs
  split at hs
  · rename_i ho
    have hb := onB_iff ho
    unfold befR aftR at hb
    rw [if_pos hw] at hb
    split at hb
    · rename_i hi
      have : fndB cs c = true := List.any_eq_true.2 ⟨x, hx, by simp only [Bool.and_eq_true]; exact ⟨hi, rwEq_iff.2 (Option.some.inj hb).symm⟩⟩
      rw [hf] at this; cases this
    · cases hb
  · cases hs
/-- Folded or one behind the other: the same rows. -/
theorem Fld.both {cs : List Chg} {c : Chg} {r : List Chg} (h : Fld cs c r) (hH : c.was = true → fndB cs c = true) : acQ (afL cs) [c] = 0 ∧ acQ (bfL cs) r = 0 ∧ acL (bfL cs) r = acL (afL cs) [c] := by
  obtain ⟨b1, b2⟩ := h.bf
  obtain ⟨a1, a2⟩ := h.af
  have hc := (alQ_zero h.c0).1
  have hs := h.step
  have hsr := h.srt
  -- the change that is folded: nothing is there, or what it goes on from
  have key : (fK cs (kT c) (kK c) = none ∧ befR c = none ∧ fK r = updC (fK cs) (kT c) (kK c) (some c)) ∨ ∃ x, x ∈ cs ∧ fK cs (kT c) (kK c) = some x ∧ (kT x = kT c ∧ kK x = kK c) ∧ befR c = aftR x ∧ fK r = updC (fK cs) (kT c) (kK c) (if nthB (joinC x c) = true then none else some (joinC x c)) := by
    unfold stepF at hs
    split at hs
    · rename_i hf
      refine .inl ⟨hf, ?_, (Option.some.inj hs).symm⟩
      unfold befR
      by_cases hw : c.was = true
      · obtain ⟨x, hx⟩ := h.found hw (hH hw)
        rw [hf] at hx; cases hx
      · rw [if_neg hw]
    · rename_i x hf
      obtain ⟨hx, k⟩ := fK_some hf
      split at hs
      · rename_i ho
        exact .inr ⟨x, hx, hf, k, onB_iff ho, (Option.some.inj hs).symm⟩
      · cases hs
  have fitA : fR (afL cs) (kT c) (kK c) = befR c := by
    rw [a2]
    rcases key with ⟨hf, hb, _⟩ | ⟨x, _, hf, _, hb, _⟩
    · rw [hf, hb]; rfl
    · rw [hf, hb]; rfl
  have eA : apR (afL cs) [c] = (0, doL (afL cs) c) := by rw [apR_cons, if_pos hc, if_pos (fitB_of fitA)]; rfl
  have okA := doL_ok (rowsQ_ris a1).1 hc
  have lenA : (doL (afL cs) c).length ≤ 60 := by
    have hl : (afL cs).length ≤ cs.length := List.length_filterMap_le _ _
    have h12 := h.len
    rw [doL_len (rowsQ_ris a1).1]
    have h1 : (if (fR (afL cs) (kT c) (kK c)).isSome = true then (afL cs).length - 1 else (afL cs).length) ≤ (afL cs).length := by split <;> omega
    have h2 : (if c.is = true then 1 else 0) ≤ 1 := by split <;> omega
    omega
  have hz : ∀ z ∈ r, chQ z = 0 ∧ befR z = fR (bfL cs) (kT z) (kK z) := fun z hz => by
    have hfz := fK_mem hsr hz
    rw [b2]
    rcases key with ⟨hf, hb, hr⟩ | ⟨x, hx, hf, k, hb, hr⟩
    · rw [hr] at hfz
      unfold updC at hfz
      split at hfz
      · rename_i e
        cases hfz
        exact ⟨hc, by rw [hf, hb]; rfl⟩
      · rw [hfz]
        exact ⟨h.ch z (fK_some hfz).1, rfl⟩
    · rw [hr] at hfz
      unfold updC at hfz
      split at hfz
      · rename_i e
        split at hfz
        · cases hfz
        · rename_i hn
          have hzj := Option.some.inj hfz
          subst hzj
          rw [e.1, e.2, hf]
          exact ⟨chQ_join (h.q x hx) h.c0 k (by simpa using hn), rfl⟩
      · rw [hfz]
        exact ⟨h.ch z (fK_some hfz).1, rfl⟩
  obtain ⟨L, e, hL, f1, f2⟩ := apR_all r (bfL cs) (rowsQ_ris b1).1 (fun z h => (hz z h).1) (srt_ne hsr) (fun z h => (hz z h).2.symm)
  have hE : L = doL (afL cs) c := ris_ext hL okA fun x y => by
    rw [fR_doL (rowsQ_ris a1).1 hc, a2]
    cases hf : fK r x y with
    | some z =>
      obtain ⟨hzr, rfl, rfl⟩ := fK_some hf
      rw [f1 z hzr]
      rcases key with ⟨_, _, hr⟩ | ⟨w, _, _, _, _, hr⟩
      · rw [hr] at hf
        unfold updC at hf
        split at hf
        · rename_i e
          cases hf
          rw [if_pos e]; rfl
        · rename_i e
          rw [if_neg e, hf]; rfl
      · rw [hr] at hf
        unfold updC at hf
        split at hf
        · rename_i e
          split at hf
          · cases hf
          · have hzj := Option.some.inj hf
            rw [if_pos e, ← hzj]; rfl
        · rename_i e
          rw [if_neg e, hf]; rfl
    | none =>
      rw [f2 x y (fun z hzr k => by
        obtain ⟨rfl, rfl⟩ := k
        rw [fK_mem hsr hzr] at hf
        cases hf), b2]
      rcases key with ⟨_, _, hr⟩ | ⟨w, _, hw, _, _, hr⟩
      · rw [hr] at hf
        unfold updC at hf
        split at hf
        · cases hf
        · rename_i e
          rw [if_neg e, hf]; rfl
      · rw [hr] at hf
        unfold updC at hf
        split at hf
        · rename_i e
          split at hf
          · rename_i hn
            rw [if_pos e, e.1, e.2, hw]
            exact nth_join hn
          · cases hf
        · rename_i e
          rw [if_neg e, hf]; rfl
  subst hE
  have qa : acQ (afL cs) [c] = 0 := by rw [acQ_end a1 eA, if_neg (by omega)]
  have qb : acQ (bfL cs) r = 0 := by rw [acQ_end b1 e, if_neg (by omega)]
  exact ⟨qa, qb, by unfold acL; rw [if_pos qa, if_pos qb, e, eA]⟩
theorem Fld.short {cs : List Chg} {c : Chg} {r : List Chg} (h : Fld cs c r) (hs : ShC cs) (h1 : c.b.s.size ≤ 9) (h2 : c.a.s.size ≤ 9) : ShC r := fun z hz => by
  rcases see_mem h.see z hz with hz | rfl | ⟨x, hx, rfl⟩
  · exact hs z hz
  · exact ⟨h1, h2⟩
  · exact ⟨(hs x hx).1, h2⟩
theorem Fld.few {cs : List Chg} {c : Chg} {r : List Chg} (h : Fld cs c r) : r.length ≤ 13 := by
  have := see_len h.see
  have := h.len
  omega

end Go.Proofs.Ytmbllmhpnopbdaa
