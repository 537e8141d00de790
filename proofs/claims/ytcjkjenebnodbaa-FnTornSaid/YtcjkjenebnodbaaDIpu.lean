/-
  The contract of the program's PutSlot.
-/
import Derived.Test.YtcjkjenebnodbaaDIps
namespace Go.Proofs.Ytcjkjenebnodbaa.Dr
open Go.RowKit
set_option linter.unusedVariables false

theorem psKeep {w W V : World} {b : Nat} {ys : List Int} {x : Nat} {q s : Int} {v : Value} (h : Arr W b ys ∧ PRes W x q s v ∧ Below w.heap.size w W) (hb : Below W.heap.size W V) : Arr V b ys ∧ PRes V x q s v ∧ Below w.heap.size w V :=
  ⟨h.1.grown hb, h.2.1.grown hb, h.2.2.trans (hb.mono h.2.2.size)⟩

theorem wrapU (x : Int) (h0 : 0 ≤ x) (h1 : x ≤ 1000) : IntKind.u64.wrap x = x := by
  rw [IntKind.wrap_u64]
  omega

theorem PRes.turned {lo hi b : Nat} {w w' : World} {q s : Int} {v : Value} (h : PRes w b q s v) (ht : Turned lo hi w w') (hn : b < lo ∨ hi ≤ b) : PRes w' b q s v :=
  ⟨ht.cell h.c0 (by simp only; omega), ht.cell h.c1 (by simp only; omega), ht.cell h.c2 (by simp only; omega), (ht.frozen h.c0 (by simp only; omega)).trans h.f0, (ht.frozen h.c1 (by simp only; omega)).trans h.f1, (ht.frozen h.c2 (by simp only; omega)).trans h.f2⟩

theorem putS_le (zs : List Int) : putS zs ≤ nb zs 0 := by have := firstE_le zs (nb zs 0) 0; unfold putS; omega

end Go.Proofs.Ytcjkjenebnodbaa.Dr

