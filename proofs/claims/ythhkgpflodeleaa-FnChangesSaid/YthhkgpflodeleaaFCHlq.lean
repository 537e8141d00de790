/-
  Where a row of a key stands (plain facts).
-/
import Derived.Test.YthhkgpflodeleaaFCApl
import Derived.Test.YthhkgpflodeleaaFCRby
import Derived.Test.YthhkgpflodeleaaFCChq

namespace Go.Proofs.Ythhkgpflodeleaa
open Go.RowKit Go.Maps
set_option linter.unusedVariables false

theorem atP_uniq {rs : List Rw} (hu : Uniq rs) {t k r r' : Int} (h : AtP rs t k r) (h' : AtP rs t k r') : r = r' := by
  rcases h with ⟨rfl, h⟩ | ⟨i, x, rfl, hx, e1, e2⟩
  · rcases h' with ⟨rfl, _⟩ | ⟨j, y, rfl, hy, f1, f2⟩
    · rfl
    · exact absurd ⟨f1, f2⟩ (h y (List.mem_of_getElem? hy))
  · rcases h' with ⟨rfl, h'⟩ | ⟨j, y, rfl, hy, f1, f2⟩
    · exact absurd ⟨e1, e2⟩ (h' x (List.mem_of_getElem? hx))
    · rw [uniq_eq hu hx hy ⟨e1.trans f1.symm, e2.trans f2.symm⟩]
theorem atP_ex (rs : List Rw) (t k : Int) : ∃ r, AtP rs t k r := by
  by_cases h : ∃ x ∈ rs, x.t = t ∧ x.k = k
  · obtain ⟨x, hx, e⟩ := h
    obtain ⟨i, hi⟩ := List.getElem?_of_mem hx
    exact ⟨i, .inr ⟨i, x, rfl, hi, e.1, e.2⟩⟩
  · exact ⟨-1, .inl ⟨rfl, fun x hx e => h ⟨x, hx, e⟩⟩⟩
theorem AtP.f {rs : List Rw} (hu : Uniq rs) {t k r : Int} (h : AtP rs t k r) : (r = -1 ∧ fR rs t k = none) ∨ ∃ (i : Nat) (x : Rw), r = i ∧ rs[i]? = some x ∧ fR rs t k = some x := by
  rcases h with ⟨rfl, h⟩ | ⟨i, x, rfl, hx, e1, e2⟩
  · exact .inl ⟨rfl, fR_none.2 h⟩
  · refine .inr ⟨i, x, rfl, hx, ?_⟩
    cases hf : fR rs t k with
    | none => exact absurd ⟨e1, e2⟩ (fR_none.1 hf x (List.mem_of_getElem? hx))
    | some y =>
      obtain ⟨hm, f1, f2⟩ := fR_mem hf
      obtain ⟨j, hj⟩ := List.getElem?_of_mem hm
      have := uniq_eq hu hx hj ⟨e1.trans f1.symm, e2.trans f2.symm⟩
      subst this
      rw [hx] at hj; exact hj.symm

theorem l6At_at (a : Option Addr) (rs : List Rw) (n c : Nat) (t k r : Int) (w : World) (hn : rs.length = n) (hm : n ≤ 100000) (hr : Rs rwE 4 w a rs) (hu : Uniq rs) (hA : AtP rs t k r) (m : Nat) :
    Calls Try.prog 41 #[.slice a n c, .int .i64 t, .int .i64 k] (w.drewN m) fun e w' => e = .returned (.int .i64 r) ∧ w' = w.drewN m :=
  (l6At_any a rs n c t k (w.drewN m) hn hm (hr.below (w' := w.drewN m) (B := w.heap.size) ⟨rfl, rfl, rfl, Nat.le_refl _, fun _ _ => rfl⟩ (Nat.le_refl _))).mono (by
    rintro e w' ⟨r', rfl, h, rfl⟩
    exact ⟨by rw [atP_uniq hu h hA], rfl⟩)

theorem ownsRow_some {w : World} {base e size : Nat} {v : Value} {n : Nat} {xs : List Value} (h : w.ownsRow base e size v n xs) (hb : v.ownBlock ≠ none) : ∃ g cap, v = .slice (some ⟨g, 0, none⟩) n cap := by
  rcases h.2 with ⟨rfl, _⟩ | ⟨g, cap, cur, rfl, _⟩
  · exact absurd rfl hb
  · exact ⟨g, cap, rfl⟩

end Go.Proofs.Ythhkgpflodeleaa
