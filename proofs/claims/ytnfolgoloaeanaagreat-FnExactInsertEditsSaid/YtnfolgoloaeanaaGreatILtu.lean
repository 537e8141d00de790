/-
  The model's l7Turn, where a page that is there is turned.
-/
import Derived.Test.YtnfolgoloaeanaaGreatIMae

namespace Go.Proofs.YtnfolgoloaeanaaGreat
open Go.RowKit
set_option linter.unusedVariables false

theorem Gb.rd {base : Nat} {w : World} {a : Option Addr} {n c : Nat} {xs : List Int} (h : Gb base w (.slice a n c) xs) : Reads w a xs := by
  obtain ⟨a', c', f, e, hb, _⟩ := h.one
  injection e with e1 e2 e3
  rw [e1]
  exact hb.reads
end Go.Proofs.YtnfolgoloaeanaaGreat

