/-
  The contract of fault: the fault of a page as the program asks it.
-/
import Derived.Test.YtcjkjenebnodbaaDWr
import Derived.Test.YtcjkjenebnodbaaDCom
namespace Go.Proofs.Ytcjkjenebnodbaa.Dr
open Go.RowKit
set_option linter.unusedVariables false

def headB (zs : List Int) : Bool := decide (16 < nb zs 0) || decide (nb zs 1 < 2 + 2 * nb zs 0) || decide (64 < nb zs 1)
def wrgS (zs : List Int) (s : Nat) : Bool := wrongB (nb zs 1) (nb zs (2 + 2 * s)) (nb zs (3 + 2 * s))
/-- Is one of the first k slots wrong? -/
def wrgN (zs : List Int) : Nat → Bool
  | 0 => false
  | k + 1 => wrgN zs k || wrgS zs k
def faultP (zs : List Int) : Int := if headB zs = true then 3 else if wrgN zs (nb zs 0) = true then 3 else if (comB zs (nb zs 0) || endB zs) = true then 8 else 0

theorem wrgN_more (zs : List Int) (k : Nat) (h : wrgN zs k = true) : ∀ m, wrgN zs (k + m) = true
  | 0 => h
  | m + 1 => by rw [← Nat.add_assoc, wrgN, wrgN_more zs k h m]; rfl
theorem wrgN_at (zs : List Int) : ∀ k, wrgN zs k = false → ∀ s, s < k → wrgS zs s = false
  | 0, _, s, hs => by omega
  | k + 1, h, s, hs => by
    rw [wrgN, Bool.or_eq_false_iff] at h
    by_cases e : s = k
    · rw [e]; exact h.2
    · exact wrgN_at zs k h.1 s (by omega)
theorem wrongB_end (low p l : Nat) (h : wrongB low p l = false) : p + l ≤ 64 := by
  unfold wrongB at h
  by_cases h1 : p = 0 ∧ l = 0
  · omega
  · have : (p == 0 && l == 0) = false := by simp; omega
    rw [this] at h
    simp at h
    omega

def PgS (w : World) (zs : List Int) (V : World) : Prop := Arr V w.heap.size zs ∧ Below w.heap.size w V
theorem pgKeep {w : World} {zs : List Int} {W V : World} (h : PgS w zs W) (hb : Below W.heap.size W V) : PgS w zs V := ⟨h.1.grown hb, h.2.trans (hb.mono h.2.size)⟩

end Go.Proofs.Ytcjkjenebnodbaa.Dr

