/-
  Changes folded, plainly.
-/
import Derived.Test.YtmbllmhpnopbdaaFFApl
import Derived.Test.YtmbllmhpnopbdaaFFChp
import Derived.Test.YtmbllmhpnopbdaaFFChw

namespace Go.Proofs.Ytmbllmhpnopbdaa
open Go.RowKit Go.Maps
set_option linter.unusedVariables false

/-- The key of a is ahead of that of b. -/
def kLt (a b : Chg) : Bool := decide (kT a < kT b ∨ (kT a = kT b ∧ kK a < kK b))
theorem kLt_iff {a b : Chg} : kLt a b = true ↔ (kT a < kT b ∨ (kT a = kT b ∧ kK a < kK b)) := by unfold kLt; simp
theorem kLt_trans {a b c : Chg} (h : kLt a b = true) (h' : kLt b c = true) : kLt a c = true := by rw [kLt_iff] at *; omega
/-- The code of a list, p being the change ahead of it. -/
def flQ : Option Chg → List Chg → Int
  | _, [] => 0
  | p, c :: l => if alQ c = 0 then (if p.all (fun x => kLt x c) = true then flQ (some c) l else 1) else alQ c
def fdQ (cs : List Chg) : Int := if 60 < cs.length then 2 else flQ none cs
def prv (cs : List Chg) (j : Nat) : Option Chg := if j = 0 then none else cs[j - 1]?
theorem prv_zero (cs : List Chg) : prv cs 0 = none := rfl
theorem prv_succ (cs : List Chg) (j : Nat) : prv cs (j + 1) = cs[j]? := rfl
theorem flQ_at {cs : List Chg} {j : Nat} {c : Chg} (h : cs[j]? = some c) : flQ (prv cs j) (cs.drop j) = if alQ c = 0 then (if (prv cs j).all (fun x => kLt x c) = true then flQ (prv cs (j + 1)) (cs.drop (j + 1)) else 1) else alQ c := by
  obtain ⟨hj, e⟩ := List.getElem?_eq_some_iff.1 h
  rw [List.drop_eq_getElem_cons hj, e, flQ, prv_succ, h]
theorem flQ_end {cs : List Chg} (p : Option Chg) {j : Nat} (h : cs.length ≤ j) : flQ p (cs.drop j) = 0 := by rw [List.drop_of_length_le h]; rfl

theorem flQ_zero : ∀ {cs : List Chg} {p : Option Chg}, flQ p cs = 0 → (∀ c ∈ cs, alQ c = 0) ∧ cs.Pairwise (fun a b => kLt a b = true) ∧ ∀ x, p = some x → ∀ c ∈ cs, kLt x c = true
  | [], p, _ => by simp
  | c :: l, p, h => by
    rw [flQ] at h
    by_cases h0 : alQ c = 0
    · rw [if_pos h0] at h
      by_cases h1 : p.all (fun x => kLt x c) = true
      · rw [if_pos h1] at h
        obtain ⟨a1, a2, a3⟩ := flQ_zero h
        refine ⟨fun x hx => ?_, List.pairwise_cons.2 ⟨fun x hx => a3 c rfl x hx, a2⟩, fun x hp y hy => ?_⟩
        · rcases List.mem_cons.1 hx with rfl | hx
          · exact h0
          · exact a1 x hx
        · subst hp
          have hxc : kLt x c = true := by simpa using h1
          rcases List.mem_cons.1 hy with rfl | hy
          · exact hxc
          · exact kLt_trans hxc (a3 c rfl y hy)
      · rw [if_neg h1] at h; cases h
    · rw [if_neg h0] at h; exact absurd h h0
/-- Whether c goes on behind x, and what comes of both. -/
def onB (x c : Chg) : Bool := (c.was == x.is) && (!c.was || rwEq c.b x.a)
def joinC (x c : Chg) : Chg := ⟨x.was, x.b, c.is, c.a⟩
/-- The model's loop. -/
def fdR (c : Chg) : List Chg → Bool → Option (List Chg)
  | [], dn => some (if dn = true then [] else [c])
  | x :: l, dn =>
    if (kLt x c || kLt c x) = true then (fdR c l (dn || kLt c x)).map (fun r => (if (!dn && kLt c x) = true then [c] else []) ++ x :: r)
    else if onB x c = true then (if nthB (joinC x c) = true then fdR c l true else (fdR c l true).map (joinC x c :: ·)) else none
/-- The same of rising changes. -/
def seeR (c : Chg) : List Chg → Option (List Chg)
  | [] => some [c]
  | x :: l => if kLt x c = true then (seeR c l).map (x :: ·) else if kLt c x = true then some (c :: x :: l) else if onB x c = true then some (if nthB (joinC x c) = true then l else joinC x c :: l) else none

theorem fdR_true {c : Chg} : ∀ {l : List Chg}, (∀ x ∈ l, kLt c x = true) → fdR c l true = some l
  | [], _ => rfl
  | x :: l, h => by
    rw [fdR, if_pos (by rw [h x (by simp)]; simp), Bool.true_or, fdR_true (fun y hy => h y (by simp [hy]))]
    simp
theorem fdR_see {c : Chg} : ∀ {l : List Chg}, l.Pairwise (fun a b => kLt a b = true) → fdR c l false = seeR c l
  | [], _ => rfl
  | x :: l, h => by
    obtain ⟨h1, h2⟩ := List.pairwise_cons.1 h
    rw [fdR, seeR]
    by_cases hx : kLt x c = true
    · have hc : kLt c x = false := by
        cases hh : kLt c x with
        | false => rfl
        | true => rw [kLt_iff] at hx hh; omega
      rw [if_pos (by rw [hx]; simp), if_pos hx, hc, Bool.or_false, fdR_see h2]
      simp
    · rw [if_neg hx]
      by_cases hc : kLt c x = true
      · rw [if_pos (by rw [hc]; simp), if_pos hc, hc, Bool.or_true, fdR_true (fun y hy => kLt_trans hc (h1 y hy))]
        simp
      · rw [if_neg (by simp [hx, hc]), if_neg hc]
        have hl : ∀ y ∈ l, kLt c y = true := fun y hy => by
          have := h1 y hy
          rw [kLt_iff] at *
          omega
        rw [fdR_true hl]
        by_cases ho : onB x c = true
        · rw [if_pos ho, if_pos ho]
          by_cases hn : nthB (joinC x c) = true
          · rw [if_pos hn, if_pos hn]
          · rw [if_neg hn, if_neg hn]; rfl
        · rw [if_neg ho, if_neg ho]

theorem key_join {x c : Chg} (hx : alQ x = 0) (hc : alQ c = 0) (ht : kT x = kT c) (hk : kK x = kK c) (ho : onB x c = true) (hn : nthB (joinC x c) = false) : kT (joinC x c) = kT c ∧ kK (joinC x c) = kK c := by
  by_cases hi : c.is = true
  · unfold kT kK joinC
    simp only [hi, if_true]
    exact ⟨trivial, trivial⟩
  · have hi' : c.is = false := by simpa using hi
    have hw : x.was = true := by
      unfold nthB joinC at hn
      simp only [hi'] at hn
      cases hh : x.was with
      | true => rfl
      | false => rw [hh] at hn; simp at hn
    obtain ⟨_, h2, _, _⟩ := chQ_zero (alQ_zero hx).1
    rw [← ht, ← hk]
    unfold kT kK joinC
    simp only [hi', Bool.false_eq_true, if_false]
    by_cases hxi : x.is = true
    · simp only [hxi, if_true]
      exact h2 hw hxi
    · have : x.is = false := by simpa using hxi
      simp only [this, Bool.false_eq_true, if_false]
      exact ⟨trivial, trivial⟩

/-- The change of a key. -/
def fK (cs : List Chg) (x y : Int) : Option Chg := cs.find? fun z => decide (kT z = x) && decide (kK z = y)
def updC (f : Int → Int → Option Chg) (x y : Int) (v : Option Chg) : Int → Int → Option Chg := fun a b => if a = x ∧ b = y then v else f a b
theorem fK_nil (x y : Int) : fK [] x y = none := rfl
theorem fK_cons (z : Chg) (l : List Chg) (x y : Int) : fK (z :: l) x y = if kT z = x ∧ kK z = y then some z else fK l x y := by
  unfold fK
  rw [List.find?_cons]
  by_cases h : kT z = x ∧ kK z = y
  · rw [if_pos h]; simp [h]
  · rw [if_neg h]
    split
    · next h1 => simp at h1; exact absurd h1 h
    · rfl
theorem fK_some {cs : List Chg} {x y : Int} {z : Chg} (h : fK cs x y = some z) : z ∈ cs ∧ kT z = x ∧ kK z = y := by
  unfold fK at h
  have h2 := List.find?_some h
  simp at h2
  exact ⟨List.mem_of_find?_eq_some h, h2.1, h2.2⟩
theorem fK_none {cs : List Chg} {x y : Int} (h : ∀ z ∈ cs, ¬ (kT z = x ∧ kK z = y)) : fK cs x y = none := by
  unfold fK
  rw [List.find?_eq_none]
  intro z hz
  have := h z hz
  simpa using this
theorem fK_mem {cs : List Chg} (hs : cs.Pairwise (fun a b => kLt a b = true)) {z : Chg} (hz : z ∈ cs) : fK cs (kT z) (kK z) = some z := by
  induction cs with
  | nil => cases hz
  | cons a l ih =>
    obtain ⟨h1, h2⟩ := List.pairwise_cons.1 hs
    rw [fK_cons]
    rcases List.mem_cons.1 hz with rfl | hz
    · rw [if_pos ⟨rfl, rfl⟩]
    · rw [if_neg (fun e => by have := h1 z hz; rw [kLt_iff] at this; omega)]
      exact ih h2 hz
/-- What becomes of the changes by their keys. -/
def stepF (f : Int → Int → Option Chg) (c : Chg) : Option (Int → Int → Option Chg) := match f (kT c) (kK c) with
  | none => some (updC f (kT c) (kK c) (some c))
  | some x => if onB x c = true then some (updC f (kT c) (kK c) (if nthB (joinC x c) = true then none else some (joinC x c))) else none

theorem see_keys {c : Chg} (hc : alQ c = 0) : ∀ {l r : List Chg}, (∀ x ∈ l, alQ x = 0) → seeR c l = some r → ∀ z ∈ r, (∃ x ∈ l, kT z = kT x ∧ kK z = kK x) ∨ (kT z = kT c ∧ kK z = kK c)
  | [], r, _, h, z, hz => by
    cases h
    simp at hz
    subst hz
    exact .inr ⟨rfl, rfl⟩
  | x :: l, r, ha, h, z, hz => by
    rw [seeR] at h
    by_cases hx : kLt x c = true
    · rw [if_pos hx] at h
      obtain ⟨r', hr', rfl⟩ := Option.map_eq_some_iff.1 h
      rcases List.mem_cons.1 hz with rfl | hz
      · exact .inl ⟨z, by simp, rfl, rfl⟩
      · rcases see_keys hc (fun y hy => ha y (by simp [hy])) hr' z hz with ⟨y, hy, e⟩ | e
        · exact .inl ⟨y, by simp [hy], e⟩
        · exact .inr e
    · rw [if_neg hx] at h
      by_cases hcx : kLt c x = true
      · rw [if_pos hcx] at h
        cases h
        rcases List.mem_cons.1 hz with rfl | hz
        · exact .inr ⟨rfl, rfl⟩
        · exact .inl ⟨z, hz, rfl, rfl⟩
      · rw [if_neg hcx] at h
        have hk : kT x = kT c ∧ kK x = kK c := by rw [kLt_iff] at hx hcx; omega
        by_cases ho : onB x c = true
        · rw [if_pos ho] at h
          cases h
          by_cases hn : nthB (joinC x c) = true
          · rw [if_pos hn] at hz
            exact .inl ⟨z, by simp [hz], rfl, rfl⟩
          · rw [if_neg hn] at hz
            rcases List.mem_cons.1 hz with rfl | hz
            · exact .inr (key_join (ha x (by simp)) hc hk.1 hk.2 ho (by simpa using hn))
            · exact .inl ⟨z, by simp [hz], rfl, rfl⟩
        · rw [if_neg ho] at h; cases h

theorem see_sorted {c : Chg} (hc : alQ c = 0) : ∀ {l r : List Chg}, (∀ x ∈ l, alQ x = 0) → l.Pairwise (fun a b => kLt a b = true) → seeR c l = some r → r.Pairwise (fun a b => kLt a b = true)
  | [], r, _, _, h => by cases h; simp
  | x :: l, r, ha, hs, h => by
    obtain ⟨h1, h2⟩ := List.pairwise_cons.1 hs
    rw [seeR] at h
    by_cases hx : kLt x c = true
    · rw [if_pos hx] at h
      obtain ⟨r', hr', rfl⟩ := Option.map_eq_some_iff.1 h
      refine List.pairwise_cons.2 ⟨fun z hz => ?_, see_sorted hc (fun y hy => ha y (by simp [hy])) h2 hr'⟩
      rcases see_keys hc (fun y hy => ha y (by simp [hy])) hr' z hz with ⟨y, hy, e⟩ | e
      · have := h1 y hy
        rw [kLt_iff] at *
        omega
      · rw [kLt_iff] at *
        omega
    · rw [if_neg hx] at h
      by_cases hcx : kLt c x = true
      · rw [if_pos hcx] at h
        cases h
        refine List.pairwise_cons.2 ⟨fun z hz => ?_, hs⟩
        rcases List.mem_cons.1 hz with rfl | hz
        · exact hcx
        · exact kLt_trans hcx (h1 z hz)
      · rw [if_neg hcx] at h
        have hk : kT x = kT c ∧ kK x = kK c := by rw [kLt_iff] at hx hcx; omega
        by_cases ho : onB x c = true
        · rw [if_pos ho] at h
          cases h
          by_cases hn : nthB (joinC x c) = true
          · rw [if_pos hn]; exact h2
          · rw [if_neg hn]
            obtain ⟨e1, e2⟩ := key_join (ha x (by simp)) hc hk.1 hk.2 ho (by simpa using hn)
            refine List.pairwise_cons.2 ⟨fun z hz => ?_, h2⟩
            have := h1 z hz
            rw [kLt_iff] at *
            omega
        · rw [if_neg ho] at h; cases h

theorem see_step {c : Chg} (hc : alQ c = 0) : ∀ {l : List Chg}, (∀ x ∈ l, alQ x = 0) → l.Pairwise (fun a b => kLt a b = true) → (seeR c l).map fK = stepF (fK l) c
  | [], _, _ => by
    unfold stepF
    simp only [seeR, fK_nil, Option.map_some]
    congr 1
    funext x y
    rw [fK_cons, fK_nil]
    unfold updC
    by_cases h : kT c = x ∧ kK c = y
    · rw [if_pos h, if_pos ⟨h.1.symm, h.2.symm⟩]
    · rw [if_neg h, if_neg (fun e => h ⟨e.1.symm, e.2.symm⟩), fK_nil]
  | x :: l, ha, hs => by
    obtain ⟨h1, h2⟩ := List.pairwise_cons.1 hs
    have ih := see_step hc (fun y hy => ha y (by simp [hy])) h2
    rw [seeR]
    by_cases hx : kLt x c = true
    · have hne : ¬ (kT x = kT c ∧ kK x = kK c) := by rw [kLt_iff] at hx; omega
      rw [if_pos hx, Option.map_map]
      have e1 : (fK ∘ fun r => x :: r) = fun r => updC (fK r) (kT x) (kK x) (some x) := by
        funext r a b
        show fK (x :: r) a b = _
        rw [fK_cons]
        unfold updC
        by_cases h : kT x = a ∧ kK x = b
        · rw [if_pos h, if_pos ⟨h.1.symm, h.2.symm⟩]
        · rw [if_neg h, if_neg (fun e => h ⟨e.1.symm, e.2.symm⟩)]
      have e2 : (Option.map (fun r => updC (fK r) (kT x) (kK x) (some x)) (seeR c l)) = (stepF (fK l) c).map (fun f => updC f (kT x) (kK x) (some x)) := by rw [← ih, Option.map_map]; rfl
      rw [e1, e2]
      have e3 : fK (x :: l) (kT c) (kK c) = fK l (kT c) (kK c) := by rw [fK_cons, if_neg hne]
      have e4 : ∀ v, updC (updC (fK l) (kT c) (kK c) v) (kT x) (kK x) (some x) = updC (fK (x :: l)) (kT c) (kK c) v := fun v => by
        funext a b
        unfold updC
        rw [fK_cons]
        by_cases ha' : a = kT x ∧ b = kK x
        · rw [if_pos ha', if_neg (fun e => hne ⟨ha'.1.symm.trans e.1, ha'.2.symm.trans e.2⟩), if_pos ⟨ha'.1.symm, ha'.2.symm⟩]
        · rw [if_neg ha', if_neg (fun e : kT x = a ∧ kK x = b => ha' ⟨e.1.symm, e.2.symm⟩)]
      unfold stepF
      rw [e3]
      cases hf : fK l (kT c) (kK c) with
      | none => simp only [Option.map_some]; rw [e4]
      | some z =>
        simp only
        by_cases ho : onB z c = true
        · rw [if_pos ho, if_pos ho, Option.map_some, e4]
        · rw [if_neg ho, if_neg ho]; rfl
    · rw [if_neg hx]
      by_cases hcx : kLt c x = true
      · rw [if_pos hcx]
        have hno : fK (x :: l) (kT c) (kK c) = none := fK_none fun z hz e => by
          rcases List.mem_cons.1 hz with rfl | hz
          · rw [kLt_iff] at hcx; omega
          · have := h1 z hz
            rw [kLt_iff] at hcx this; omega
        unfold stepF
        rw [hno, Option.map_some]
        simp only
        congr 1
        funext a b
        rw [fK_cons]
        unfold updC
        by_cases h : kT c = a ∧ kK c = b
        · rw [if_pos h, if_pos ⟨h.1.symm, h.2.symm⟩]
        · rw [if_neg h, if_neg (fun e => h ⟨e.1.symm, e.2.symm⟩)]
      · rw [if_neg hcx]
        have hk : kT x = kT c ∧ kK x = kK c := by rw [kLt_iff] at hx hcx; omega
        have hsome : fK (x :: l) (kT c) (kK c) = some x := by rw [fK_cons, if_pos hk]
        have hln : fK l (kT c) (kK c) = none := fK_none fun z hz e => by
          have := h1 z hz
          rw [kLt_iff] at this; omega
        unfold stepF
        rw [hsome]
        simp only
        by_cases ho : onB x c = true
        · rw [if_pos ho, if_pos ho, Option.map_some]
          congr 1
          by_cases hn : nthB (joinC x c) = true
          · rw [if_pos hn, if_pos hn]
            funext a b
            unfold updC
            rw [fK_cons]
            by_cases h : a = kT c ∧ b = kK c
            · rw [if_pos h, h.1, h.2, hln]
            · rw [if_neg h, if_neg (fun e => h ⟨e.1.symm.trans hk.1, e.2.symm.trans hk.2⟩)]
          · rw [if_neg hn, if_neg hn]
            obtain ⟨e1, e2⟩ := key_join (ha x (by simp)) hc hk.1 hk.2 ho (by simpa using hn)
            funext a b
            unfold updC
            rw [fK_cons, fK_cons, e1, e2, hk.1, hk.2]
            by_cases h : a = kT c ∧ b = kK c
            · rw [if_pos h, if_pos ⟨h.1.symm, h.2.symm⟩]
            · rw [if_neg h, if_neg (fun e => h ⟨e.1.symm, e.2.symm⟩), if_neg (fun e => h ⟨e.1.symm, e.2.symm⟩)]
        · rw [if_neg ho, if_neg ho]; rfl

/-- What FoldChange answers. -/
def fcQ (cs : List Chg) (c : Chg) : Int := if fdQ cs = 0 then (if alQ c = 0 then (if (fdR c cs false).isSome = true then 0 else 8) else alQ c) else fdQ cs
def fcL (cs : List Chg) (c : Chg) : List Chg := if fdQ cs = 0 then (if alQ c = 0 then (fdR c cs false).getD [] else []) else []
theorem fdQ_zero {cs : List Chg} (h : fdQ cs = 0) : cs.length ≤ 60 ∧ (∀ c ∈ cs, alQ c = 0) ∧ cs.Pairwise (fun a b => kLt a b = true) := by
  unfold fdQ at h
  split at h
  · cases h
  · next h1 =>
    obtain ⟨a, b, _⟩ := flQ_zero h
    exact ⟨by omega, a, b⟩
theorem see_len {c : Chg} : ∀ {l r : List Chg}, seeR c l = some r → r.length ≤ l.length + 1
  | [], r, h => by cases h; simp
  | x :: l, r, h => by
    rw [seeR] at h
    split at h
    · obtain ⟨r', hr', rfl⟩ := Option.map_eq_some_iff.1 h
      have := see_len hr'
      simp; omega
    · split at h
      · cases h; simp
      · split at h
        · cases h
          split <;> simp
          omega
        · cases h

/-- Both lists are one. -/
theorem fold_unique {r cs : List Chg} {ys : List K3} {F : Int → Int → Option Chg} (hs : r.Pairwise (fun a b => kLt a b = true)) (hk : ∀ z ∈ r, Kw (kT z) (kK z)) (hF : fK r = F) (hr : Rise ys) (hd : ys.Nodup) (hm : ∀ x : K3, x ∈ ys ↔ (F x.x x.y).isSome = true) (hc : cs.map Option.some = ys.map fun x => F x.x x.y) : cs = r := by
  subst hF
  have hP1 : (r.map fun z => (kT z, kK z)).Pairwise fun a b : Int × Int => a.1 < b.1 ∨ (a.1 = b.1 ∧ a.2 < b.2) := by
    rw [List.pairwise_map]
    exact hs.imp fun {a b} h => kLt_iff.1 h
  have hP2 : (ys.map k2P).Pairwise fun a b : Int × Int => a.1 < b.1 ∨ (a.1 = b.1 ∧ a.2 < b.2) := by
    rw [List.pairwise_map]
    refine (rise_lt hr hd).imp fun {a b} h => ?_
    unfold ltK at h
    simpa [k2P] using h
  have nd : ∀ l : List (Int × Int), (l.Pairwise fun a b : Int × Int => a.1 < b.1 ∨ (a.1 = b.1 ∧ a.2 < b.2)) → l.Nodup := fun l hl => hl.imp fun {a b} h e => by subst e; omega
  have hE : ys.map k2P = r.map fun z => (kT z, kK z) := by
    refine List.Perm.eq_of_pairwise (le := fun a b : Int × Int => a.1 < b.1 ∨ (a.1 = b.1 ∧ a.2 < b.2)) (fun a b _ _ h1 h2 => by omega) hP2 hP1 ((List.perm_ext_iff_of_nodup (nd _ hP2) (nd _ hP1)).2 fun q => ?_)
    constructor
    · intro hq
      obtain ⟨x, hx, rfl⟩ := List.mem_map.1 hq
      obtain ⟨z, hz⟩ := Option.isSome_iff_exists.1 ((hm x).1 hx)
      obtain ⟨h1, h2, h3⟩ := fK_some hz
      exact List.mem_map.2 ⟨z, h1, by unfold k2P; rw [h2, h3]⟩
    · intro hq
      obtain ⟨z, hz, rfl⟩ := List.mem_map.1 hq
      exact List.mem_map.2 ⟨⟨kT z, kK z, hk z hz⟩, (hm _).2 (by rw [fK_mem hs hz]; rfl), rfl⟩
  have h1 : cs.map Option.some = r.map Option.some := by
    rw [hc]
    have e1 : (ys.map fun x => fK r x.x x.y) = (ys.map k2P).map fun q => fK r q.1 q.2 := by rw [List.map_map]; rfl
    rw [e1, hE, List.map_map]
    refine List.map_congr_left fun z hz => ?_
    exact fK_mem hs hz
  have h2 := congrArg (List.filterMap id) h1
  simpa using h2

end Go.Proofs.Ytmbllmhpnopbdaa
