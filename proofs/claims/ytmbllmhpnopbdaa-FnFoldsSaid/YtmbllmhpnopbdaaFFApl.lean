/-
  Changes done to rows, plainly.
-/
import Derived.Test.YtmbllmhpnopbdaaFFChw
import Derived.Test.YtmbllmhpnopbdaaFFCbf
import Derived.Test.YtmbllmhpnopbdaaFFHlp

namespace Go.Proofs.Ytmbllmhpnopbdaa
open Go.RowKit Go.Maps
set_option linter.unusedVariables false

def ltB (a b : Rw) : Bool := decide (a.t < b.t ∨ (a.t = b.t ∧ a.k < b.k))
theorem ltB_iff {a b : Rw} : ltB a b = true ↔ rLt a b := by unfold ltB rLt; simp
/-- r put where it belongs. -/
def putL (rs : List Rw) (r : Rw) : List Rw := rs.takeWhile (ltB · r) ++ [r] ++ rs.dropWhile (ltB · r)
theorem take_while {rs : List Rw} {r : Rw} : ∀ {j : Nat}, j ≤ rs.length → (∀ x ∈ rs.take j, rLt x r) → (∀ x, rs[j]? = some x → ¬ rLt x r) → rs.takeWhile (ltB · r) = rs.take j ∧ rs.dropWhile (ltB · r) = rs.drop j := by
  induction rs with
  | nil => intro j _ _ _; simp
  | cons x l ih =>
    intro j hj h1 h2
    cases j with
    | zero =>
      have := h2 x rfl
      have hb : ltB x r = false := by cases h : ltB x r with | false => rfl | true => exact absurd (ltB_iff.1 h) this
      simp [List.takeWhile, List.dropWhile, hb]
    | succ j =>
      have hb : ltB x r = true := ltB_iff.2 (h1 x (by simp))
      obtain ⟨e1, e2⟩ := ih (j := j) (by simpa using hj) (fun y hy => h1 y (by rw [List.take_succ_cons]; exact List.mem_cons_of_mem _ hy)) (fun y hy => h2 y (by rw [List.getElem?_cons_succ]; exact hy))
      simp [hb, e1, e2]
theorem PutAt.eq {rs new : List Rw} {r : Rw} (h : PutAt rs r new) : new = putL rs r := by
  obtain ⟨j, h1, h2, h3, rfl⟩ := h
  obtain ⟨e1, e2⟩ := take_while h1 h2 h3
  unfold putL
  rw [e1, e2]
theorem putL_at (rs : List Rw) (r : Rw) : PutAt rs r (putL rs r) := by
  obtain ⟨new, h⟩ := putAt_ex r rs
  rw [← h.eq]; exact h
/-- Without the row of a key. -/
def delL (rs : List Rw) (t k : Int) : List Rw := rs.filter fun x => !(decide (x.t = t) && decide (x.k = k))
def fitB (rs : List Rw) (c : Chg) : Bool := match fR rs (kT c) (kK c) with
  | none => !c.was
  | some r => c.was && rwEq r c.b
def doL (rs : List Rw) (c : Chg) : List Rw := if c.is = true then putL (delL rs (kT c) (kK c)) c.a else delL rs (kT c) (kK c)
/-- Changes done one behind the other. -/
def apR : List Rw → List Chg → Int × List Rw
  | rs, [] => (0, rs)
  | rs, c :: l => if chQ c = 0 then (if fitB rs c = true then apR (doL rs c) l else (8, [])) else (chQ c, [])
theorem apR_cons (rs : List Rw) (c : Chg) (l : List Chg) : apR rs (c :: l) = if chQ c = 0 then (if fitB rs c = true then apR (doL rs c) l else (8, [])) else (chQ c, []) := rfl

/-- Rows that rise, with keys that are in bounds. -/
def RisL (rs : List Rw) : Prop := rs.Pairwise rLt ∧ ∀ r ∈ rs, (0 ≤ r.t ∧ r.t ≤ 3) ∧ (1 ≤ r.k ∧ r.k ≤ 99)
theorem delL_sorted {rs : List Rw} (h : rs.Pairwise rLt) (t k : Int) : (delL rs t k).Pairwise rLt := h.sublist List.filter_sublist
theorem delL_mem {rs : List Rw} {t k : Int} {x : Rw} : x ∈ delL rs t k ↔ x ∈ rs ∧ ¬ (x.t = t ∧ x.k = k) := by
  unfold delL
  rw [List.mem_filter]
  refine and_congr_right fun _ => ?_
  by_cases e1 : x.t = t <;> by_cases e2 : x.k = k <;> simp [e1, e2]
theorem fR_ext {rs rs' : List Rw} (hu : Uniq rs) (hu' : Uniq rs') {x y : Int} (h : ∀ r, r ∈ rs ∧ r.t = x ∧ r.k = y ↔ r ∈ rs' ∧ r.t = x ∧ r.k = y) : fR rs x y = fR rs' x y := by
  have one : ∀ (l : List Rw), Uniq l → ∀ r s, r ∈ l → s ∈ l → r.t = s.t ∧ r.k = s.k → r = s := fun l hl r s hr hs e => by
    obtain ⟨i, hi⟩ := List.getElem?_of_mem hr
    obtain ⟨j, hj⟩ := List.getElem?_of_mem hs
    have := uniq_eq hl hi hj e
    subst this
    rw [hi] at hj; exact Option.some.inj hj
  cases h1 : fR rs x y with
  | none =>
    cases h2 : fR rs' x y with
    | none => rfl
    | some r =>
      obtain ⟨m, e1, e2⟩ := fR_mem h2
      have := (h r).2 ⟨m, e1, e2⟩
      exact absurd ⟨this.2.1, this.2.2⟩ (fR_none.1 h1 r this.1)
  | some r =>
    obtain ⟨m, e1, e2⟩ := fR_mem h1
    have h3 := (h r).1 ⟨m, e1, e2⟩
    cases h2 : fR rs' x y with
    | none => exact absurd ⟨h3.2.1, h3.2.2⟩ (fR_none.1 h2 r h3.1)
    | some s =>
      obtain ⟨m', f1, f2⟩ := fR_mem h2
      rw [one rs' hu' r s h3.1 m' ⟨e1.trans f1.symm, e2.trans f2.symm⟩]
theorem doL_ok {rs : List Rw} {c : Chg} (h : RisL rs) (hq : chQ c = 0) : RisL (doL rs c) := by
  obtain ⟨_, h2, h3, h4⟩ := chQ_zero hq
  have hd : RisL (delL rs (kT c) (kK c)) := ⟨delL_sorted h.1 _ _, fun r hr => h.2 r (delL_mem.1 hr).1⟩
  unfold doL
  split
  · rename_i hi
    have hp := putL_at (delL rs (kT c) (kK c)) c.a
    refine ⟨hp.sorted hd.1 fun x hx e => (delL_mem.1 hx).2 ?_, fun r hr => ?_⟩
    · unfold kT kK; rw [if_pos hi, if_pos hi]; exact e
    · rcases List.mem_cons.1 (hp.perm.mem_iff.1 hr) with rfl | hr
      · exact rwF_zero (h4 hi)
      · exact hd.2 r hr
  · exact hd
/-- The row of each key behind a change. -/
theorem fR_doL {rs : List Rw} {c : Chg} (h : RisL rs) (hq : chQ c = 0) (x y : Int) : fR (doL rs c) x y = if x = kT c ∧ y = kK c then (if c.is = true then some c.a else none) else fR rs x y := by
  have hu := uniq_of h.1
  have hu' := uniq_of (doL_ok h hq).1
  have hmem : ∀ r, r ∈ doL rs c ↔ (r ∈ rs ∧ ¬ (r.t = kT c ∧ r.k = kK c)) ∨ (c.is = true ∧ r = c.a) := fun r => by
    unfold doL
    split
    · rename_i hi
      rw [(putL_at (delL rs (kT c) (kK c)) c.a).perm.mem_iff, List.mem_cons, delL_mem]
      constructor
      · rintro (rfl | h)
        · exact .inr ⟨hi, rfl⟩
        · exact .inl h
      · rintro (h | ⟨_, rfl⟩)
        · exact .inr h
        · exact .inl rfl
    · rename_i hi
      rw [delL_mem]
      constructor
      · exact .inl
      · rintro (h | ⟨h, _⟩)
        · exact h
        · exact absurd h hi
  by_cases hk : x = kT c ∧ y = kK c
  · rw [if_pos hk]
    by_cases hi : c.is = true
    · rw [if_pos hi]
      have ha : c.a.t = x ∧ c.a.k = y := by obtain ⟨rfl, rfl⟩ := hk; unfold kT kK; rw [if_pos hi, if_pos hi]; exact ⟨rfl, rfl⟩
      have h1 : Uniq [c.a] := List.pairwise_singleton _ _
      rw [fR_ext hu' h1 (x := x) (y := y) (fun r => by
        rw [hmem]
        constructor
        · rintro ⟨h | ⟨_, rfl⟩, e1, e2⟩
          · exact absurd ⟨e1.trans hk.1, e2.trans hk.2⟩ h.2
          · exact ⟨by simp, e1, e2⟩
        · rintro ⟨h, e⟩
          simp at h
          exact ⟨.inr ⟨hi, h⟩, e⟩)]
      unfold fR
      simp [ha.1, ha.2]
    · rw [if_neg hi]
      refine fR_none.2 fun r hr e => ?_
      rcases (hmem r).1 hr with h | h
      · exact h.2 ⟨e.1.trans hk.1, e.2.trans hk.2⟩
      · exact hi h.1
  · rw [if_neg hk]
    refine fR_ext hu' hu fun r => ?_
    rw [hmem]
    constructor
    · rintro ⟨h | ⟨hi, rfl⟩, e1, e2⟩
      · exact ⟨h.1, e1, e2⟩
      · exact absurd ⟨e1.symm.trans (by unfold kT; rw [if_pos hi]), e2.symm.trans (by unfold kK; rw [if_pos hi])⟩ hk
    · rintro ⟨h, e1, e2⟩
      exact ⟨.inl ⟨h, fun e => hk ⟨e1.symm.trans e.1, e2.symm.trans e.2⟩⟩, e1, e2⟩
theorem delL_none {rs : List Rw} {t k : Int} (h : fR rs t k = none) : delL rs t k = rs := by
  unfold delL
  rw [List.filter_eq_self]
  intro r hr
  have := fR_none.1 h r hr
  simp only [Bool.not_eq_true', Bool.and_eq_false_iff, decide_eq_false_iff_not]
  by_cases e : r.t = t
  · exact .inr fun e2 => this ⟨e, e2⟩
  · exact .inl e
theorem delL_len {rs : List Rw} (hu : Uniq rs) {t k : Int} {r : Rw} (h : fR rs t k = some r) : (delL rs t k).length + 1 = rs.length := by
  induction rs with
  | nil => simp [fR] at h
  | cons x l ih =>
    obtain ⟨hx, hl⟩ := List.pairwise_cons.1 hu
    by_cases e : x.t = t ∧ x.k = k
    · have hn : fR l t k = none := fR_none.2 fun y hy e2 => hx y hy ⟨e.1.trans e2.1.symm, e.2.trans e2.2.symm⟩
      have : delL (x :: l) t k = delL l t k := by unfold delL; rw [List.filter_cons_of_neg (by simp [e])]
      rw [this, delL_none hn]; rfl
    · have hs : fR l t k = some r := by
        unfold fR at h ⊢
        rw [List.find?_cons_of_neg (by simpa using e)] at h
        exact h
      have : delL (x :: l) t k = x :: delL l t k := by unfold delL; rw [List.filter_cons_of_pos (by by_cases e1 : x.t = t <;> by_cases e2 : x.k = k <;> simp [e1, e2] at e ⊢)]
      rw [this, List.length_cons, List.length_cons, ih hl hs]
theorem doL_len {rs : List Rw} {c : Chg} (h : RisL rs) : (doL rs c).length = (if (fR rs (kT c) (kK c)).isSome = true then rs.length - 1 else rs.length) + (if c.is = true then 1 else 0) := by
  have hp : ∀ l r, (putL l r).length = l.length + 1 := fun l r => by rw [(putL_at l r).perm.length_eq, List.length_cons]
  unfold doL
  cases hf : fR rs (kT c) (kK c) with
  | none =>
    rw [delL_none hf]
    split <;> simp [hp]
  | some r =>
    have := delL_len (uniq_of h.1) hf
    split <;> simp [hp] <;> omega
/-- Rows with bounded keys are not many. -/
theorem RisL.len {rs : List Rw} (h : RisL rs) : rs.length ≤ 400 := by
  have h1 : (rs.map fun r => r.t * 100 + r.k).Pairwise (fun a b => a < b) := by
    rw [List.pairwise_map]
    refine h.1.imp_of_mem fun {a b} ha hb hl => ?_
    have := h.2 a ha
    have := h.2 b hb
    unfold rLt at hl
    omega
  have key : ∀ (l : List Int) (lo : Int), l.Pairwise (fun a b => a < b) → (∀ x ∈ l, lo ≤ x ∧ x < 400) → (l.length : Int) ≤ max 0 (400 - lo) := by
    intro l
    induction l with
    | nil => intro lo _ _; simp; omega
    | cons x l ih =>
      intro lo hp hb
      obtain ⟨p1, p2⟩ := List.pairwise_cons.1 hp
      have := ih (x + 1) p2 fun y hy => ⟨by have := p1 y hy; omega, (hb y (List.mem_cons_of_mem _ hy)).2⟩
      have := hb x (by simp)
      rw [List.length_cons]
      omega
  have := key _ 0 h1 fun x hx => by
    obtain ⟨r, hr, rfl⟩ := List.mem_map.1 hx
    have := h.2 r hr
    omega
  rw [List.length_map] at this
  omega

end Go.Proofs.Ytmbllmhpnopbdaa
