/-
  Rows that rise: plain facts. How long a table's texts may be.
-/
import Derived.Test.YtmnnkgcknkhgdaaGreatDoorRby
namespace Go.Proofs.YtmnnkgcknkhgdaaGreatDoor
open Go.RowKit
set_option linter.unusedVariables false

/-- One row ahead of another. -/
def rLt (a b : Rw) : Prop := a.t < b.t ∨ (a.t = b.t ∧ a.k < b.k)

theorem befB_iff (t k u l : Int) : befB t k u l = true ↔ t < u ∨ (t = u ∧ k < l) := by simp [befB]
theorem rLt.trans {a b c : Rw} (h : rLt a b) (k : rLt b c) : rLt a c := by unfold rLt at *; omega

def rsOk (p : Option Rw) (r : Rw) : Bool := match p with | none => true | some q => rwB q r

theorem rsF_cons (p : Option Rw) (r : Rw) (l : List Rw) : rsF p (r :: l) = if rwF r = 0 then (if rsOk p r = true then rsF (some r) l else 1) else rwF r := rfl

theorem rsF_zero : ∀ (l : List Rw) (p : Option Rw), rsF p l = 0 → (∀ r ∈ l, rwF r = 0) ∧ l.Pairwise rLt ∧ ∀ q, p = some q → ∀ r ∈ l, rLt q r
  | [], _, _ => ⟨by simp, List.Pairwise.nil, by simp⟩
  | r :: l, p, h => by
    rw [rsF_cons] at h
    by_cases h1 : rwF r = 0
    · rw [if_pos h1] at h
      by_cases h2 : rsOk p r = true
      · rw [if_pos h2] at h
        obtain ⟨i1, i2, i3⟩ := rsF_zero l (some r) h
        have i3 := i3 r rfl
        refine ⟨?_, List.pairwise_cons.2 ⟨i3, i2⟩, ?_⟩
        · intro x hx
          rcases List.mem_cons.1 hx with rfl | hx
          · exact h1
          · exact i1 x hx
        · intro q hq x hx
          subst hq
          have hq : rLt q r := (befB_iff _ _ _ _).1 h2
          rcases List.mem_cons.1 hx with rfl | hx
          · exact hq
          · exact hq.trans (i3 x hx)
      · rw [if_neg h2] at h
        exact absurd h (by decide)
    · rw [if_neg h1] at h
      exact absurd h h1

/-- The row of a key. -/
def fR (rs : List Rw) (x y : Int) : Option Rw := rs.find? fun r => decide (r.t = x) && decide (r.k = y)

/-- No two rows of one key. -/
def Uniq (rs : List Rw) : Prop := rs.Pairwise fun a b => ¬ (a.t = b.t ∧ a.k = b.k)

theorem uniq_of {rs : List Rw} (h : rs.Pairwise rLt) : Uniq rs := h.imp fun {a b} h1 h2 => by unfold rLt at h1; omega

theorem uniq_eq {rs : List Rw} (hu : Uniq rs) {i j : Nat} {x y : Rw} (hx : rs[i]? = some x) (hy : rs[j]? = some y) (h : x.t = y.t ∧ x.k = y.k) : i = j := by
  obtain ⟨hi, e1⟩ := List.getElem?_eq_some_iff.1 hx
  obtain ⟨hj, e2⟩ := List.getElem?_eq_some_iff.1 hy
  rcases Nat.lt_trichotomy i j with hl | hl | hl
  · have := List.pairwise_iff_getElem.1 hu i j hi hj hl
    rw [e1, e2] at this; exact absurd h this
  · exact hl
  · have := List.pairwise_iff_getElem.1 hu j i hj hi hl
    rw [e1, e2] at this; exact absurd ⟨h.1.symm, h.2.symm⟩ this

theorem fR_mem {rs : List Rw} {t k : Int} {r : Rw} (h : fR rs t k = some r) : r ∈ rs ∧ r.t = t ∧ r.k = k := by
  unfold fR at h
  have h2 := List.find?_some h
  simp at h2
  exact ⟨List.mem_of_find?_eq_some h, h2.1, h2.2⟩

theorem fR_none {rs : List Rw} {t k : Int} : fR rs t k = none ↔ ∀ x ∈ rs, ¬ (x.t = t ∧ x.k = k) := by
  unfold fR
  rw [List.find?_eq_none]
  simp

/-- What l6At tells, and the row of that key. -/
theorem AtP.f {rs : List Rw} (hu : Uniq rs) {t k r : Int} (h : AtP rs t k r) : (r = -1 ∧ fR rs t k = none) ∨ ∃ (i : Nat) (x : Rw), r = i ∧ rs[i]? = some x ∧ fR rs t k = some x := by
  rcases h with ⟨rfl, h⟩ | ⟨i, x, rfl, hx, e1, e2⟩
  · exact .inl ⟨rfl, fR_none.2 h⟩
  · refine .inr ⟨i, x, rfl, hx, ?_⟩
    cases hf : fR rs t k with
    | none => exact absurd ⟨e1, e2⟩ (fR_none.1 hf x (List.mem_of_getElem? hx))
    | some y =>
      obtain ⟨hm, f1, f2⟩ := fR_mem hf
      obtain ⟨j, hj⟩ := List.getElem?_of_mem hm
      have := uniq_eq hu hx hj ⟨e1.trans f1.symm, e2.trans f2.symm⟩
      subst this
      rw [hx] at hj; exact hj.symm


/-- Rows without a fault. -/
theorem rowsQ_ok {rs : List Rw} (h : rowsQ rs = 0) : rs.length ≤ 60 ∧ Uniq rs ∧ ∀ r ∈ rs, rngB r.t r.k r.v = true := by
  unfold rowsQ at h
  split at h
  · exact absurd h (by decide)
  · obtain ⟨h1, h2, _⟩ := rsF_zero rs none h
    refine ⟨by omega, uniq_of h2, fun r hr => ?_⟩
    have := h1 r hr
    unfold rwF faultI at this
    split at this
    · rename_i hb; exact hb
    · exact absurd this (by decide)
theorem rng_val {t k v : Int} (h : rngB t k v = true) : 0 ≤ v ∧ v ≤ 100000 ∧ 0 ≤ t ∧ t ≤ 3 ∧ 1 ≤ k ∧ k ≤ 99 := by
  simp only [rngB, inW, Bool.and_eq_true, decide_eq_true_eq] at h
  omega

/-- How long a text of a table may be: the Val of the row that tells it. -/
def lonF (rs : List Rw) (t : Int) : Option Int := (fR rs 0 t).map (·.v)
/-- The code of LongestIn behind the rows' own, and its value. -/
def lonQ (rs : List Rw) (t : Int) : Int := if inW t 1 3 = true then (match lonF rs t with | none => 4 | some _ => 0) else 3
def lonV (rs : List Rw) (t : Int) : Int := if inW t 1 3 = true then (lonF rs t).getD 0 else 0
/-- What LongestIn answers. -/
def liQ (rs : List Rw) (t : Int) : Int := if rowsQ rs = 0 then lonQ rs t else rowsQ rs
def liV (rs : List Rw) (t : Int) : Int := if rowsQ rs = 0 then lonV rs t else 0
theorem lonF_val {rs : List Rw} (h : rowsQ rs = 0) {t v : Int} (hv : lonF rs t = some v) : 0 ≤ v ∧ v ≤ 100000 := by
  unfold lonF at hv
  cases hf : fR rs 0 t with
  | none => rw [hf] at hv; simp at hv
  | some r =>
    rw [hf] at hv
    simp at hv
    have := rng_val ((rowsQ_ok h).2.2 r (fR_mem hf).1)
    omega

end Go.Proofs.YtmnnkgcknkhgdaaGreatDoor

