/-
  Small helpers: numbers that are keys, cells beside a map, a row put somewhere.
-/
import Derived.Test.YtmbllmhpnopbdaaFFKvs
import Derived.Test.YtmbllmhpnopbdaaFFCbf
import Derived.Test.YtmbllmhpnopbdaaFFLpt

namespace Go.Proofs.Ytmbllmhpnopbdaa
open Go.RowKit Go.Maps
set_option linter.unusedVariables false

def small (z : Int) : Prop := 0 ≤ z ∧ z ≤ 100000
theorem small_wf {z : Int} (h : small z) : (Lit.int .i64 z).wf = true := by
  obtain ⟨h1, h2⟩ := h
  simp [Lit.wf, IntKind.min, IntKind.max, IntKind.bits, IntKind.signed]
  omega
theorem kw_small {x y : Int} (h : small x) (h' : small y) : Kw x y := ⟨small_wf h, small_wf h'⟩
theorem cell_turn {w w' : World} {tb : Nat} (ht : w.mapTurned w' tb) {p : Addr} {v : Value} (h : w.cell? p = some v) : w'.cell? p = some v := by
  have g := ht.grown
  obtain ⟨es, clock, es', clock', hb, rfl⟩ := ht
  have hne : p.block ≠ tb := by
    intro e
    unfold World.cell? at h
    rw [e, hb] at h
    simp at h
  rw [World.cell?_of_block (w := w) (g.block p.block (World.block_lt_of_cell? w _ h) (fun e => hne (by injection e)))]; exact h
theorem putAt_ex (r : Rw) : ∀ rs : List Rw, ∃ new, PutAt rs r new
  | [] => ⟨_, 0, Nat.le_refl _, by simp, by simp, rfl⟩
  | x :: l => by
    by_cases h : rLt x r
    · obtain ⟨_, j, h1, h2, h3, _⟩ := putAt_ex r l
      refine ⟨_, j + 1, by simpa using h1, ?_, ?_, rfl⟩
      · intro y hy
        rw [List.take_succ_cons] at hy
        rcases List.mem_cons.1 hy with rfl | hy
        · exact h
        · exact h2 y hy
      · intro y hy
        rw [List.getElem?_cons_succ] at hy
        exact h3 y hy
    · refine ⟨_, 0, Nat.zero_le _, by simp, ?_, rfl⟩
      intro y hy
      simp at hy
      subst hy
      exact h

theorem uniq_of {rs : List Rw} (h : rs.Pairwise rLt) : Uniq rs := h.imp fun {a b} h1 h2 => by unfold rLt at h1; omega
theorem fR_mem {rs : List Rw} {t k : Int} {r : Rw} (h : fR rs t k = some r) : r ∈ rs ∧ r.t = t ∧ r.k = k := by
  unfold fR at h
  have h2 := List.find?_some h
  simp at h2
  exact ⟨List.mem_of_find?_eq_some h, h2.1, h2.2⟩
theorem fR_none {rs : List Rw} {t k : Int} : fR rs t k = none ↔ ∀ x ∈ rs, ¬ (x.t = t ∧ x.k = k) := by
  unfold fR
  rw [List.find?_eq_none]
  simp
theorem uniq_eq {rs : List Rw} (hu : Uniq rs) {i j : Nat} {x y : Rw} (hx : rs[i]? = some x) (hy : rs[j]? = some y) (h : x.t = y.t ∧ x.k = y.k) : i = j := by
  obtain ⟨hi, e1⟩ := List.getElem?_eq_some_iff.1 hx
  obtain ⟨hj, e2⟩ := List.getElem?_eq_some_iff.1 hy
  rcases Nat.lt_trichotomy i j with hl | hl | hl
  · have := List.pairwise_iff_getElem.1 hu i j hi hj hl
    rw [e1, e2] at this; exact absurd h this
  · exact hl
  · have := List.pairwise_iff_getElem.1 hu j i hj hi hl
    rw [e1, e2] at this; exact absurd ⟨h.1.symm, h.2.symm⟩ this

theorem turned_below {w w' : World} {b B : Nat} (h : w.mapTurned w' b) (hB : B ≤ b) (hs : b < w.heap.size) : Below B w w' := by
  have g := h.grown
  exact ⟨g.os, g.tape, g.output, g.size, fun k hk => g.block k (by omega) (fun e => by injection e with e; omega)⟩

theorem rLt.trans {a b c : Rw} (h : rLt a b) (k : rLt b c) : rLt a c := by unfold rLt at *; omega

def rsOk (p : Option Rw) (r : Rw) : Bool := match p with | none => true | some q => rwB q r
theorem rsF_cons (p : Option Rw) (r : Rw) (l : List Rw) : rsF p (r :: l) = if rwF r = 0 then (if rsOk p r = true then rsF (some r) l else 1) else rwF r := rfl

theorem rsF_zero : ∀ (l : List Rw) (p : Option Rw), rsF p l = 0 → (∀ r ∈ l, rwF r = 0) ∧ l.Pairwise rLt ∧ ∀ q, p = some q → ∀ r ∈ l, rLt q r
  | [], _, _ => ⟨by simp, List.Pairwise.nil, by simp⟩
  | r :: l, p, h => by
    rw [rsF_cons] at h
    by_cases h1 : rwF r = 0
    · rw [if_pos h1] at h
      by_cases h2 : rsOk p r = true
      · rw [if_pos h2] at h
        obtain ⟨i1, i2, i3⟩ := rsF_zero l (some r) h
        have i3 := i3 r rfl
        refine ⟨?_, List.pairwise_cons.2 ⟨i3, i2⟩, ?_⟩
        · intro x hx
          rcases List.mem_cons.1 hx with rfl | hx
          · exact h1
          · exact i1 x hx
        · intro q hq x hx
          subst hq
          have hq : rLt q r := (befB_iff _ _ _ _).1 h2
          rcases List.mem_cons.1 hx with rfl | hx
          · exact hq
          · exact hq.trans (i3 x hx)
      · rw [if_neg h2] at h
        exact absurd h (by decide)
    · rw [if_neg h1] at h
      exact absurd h h1

theorem rowsQ_zero {rs : List Rw} (h : rowsQ rs = 0) : rs.length ≤ 60 ∧ rs.Pairwise rLt ∧ ∀ r ∈ rs, Kw r.t r.k := by
  unfold rowsQ at h
  split at h
  · exact absurd h (by decide)
  · obtain ⟨h1, h2, _⟩ := rsF_zero rs none h
    refine ⟨by omega, h2, fun r hr => ?_⟩
    have := h1 r hr
    unfold rwF faultI at this
    split at this
    · rename_i hb
      simp only [rngB, inW, Bool.and_eq_true, decide_eq_true_eq] at hb
      exact kw_small (by unfold small; omega) (by unfold small; omega)
    · exact absurd this (by decide)

theorem Rs.turn {α : Type} {enc : α → List Value} {k : Nat} {w w' : World} {a : Option Addr} {xs : List α} (h : Rs enc k w a xs) {tb : Nat} (ht : w.mapTurned w' tb) : Rs enc k w' a xs := by
  rcases h with h | ⟨b, off, ha, hc⟩
  · exact .inl h
  · exact .inr ⟨b, off, ha, fun i x hx j u hu => cell_turn ht (hc i x hx j u hu)⟩

end Go.Proofs.Ytmbllmhpnopbdaa
