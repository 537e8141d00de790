/-
  The law FnExactFreeIn answers true at all bytes.
-/
import Derived.Test.YtcadkclppejdgaaSum
namespace Go.Proofs.Ytcadkclppejdgaa
open Go.RowKit
set_option linter.unusedVariables false

def freeN (zs : List Int) : Nat := 62 - 2 * nb zs 0 - lens zs (nb zs 0)
def freeOf (zs : List Int) : Int := if fltOf zs = 0 then (freeN zs : Int) else 0

/-- Block b holds the two cells of an IntResult, and may be written. -/
structure IRes (w : World) (b : Nat) (q v : Int) : Prop where
  c0 : w.cell? ⟨b, 0, none⟩ = some (.int .i64 q)
  c1 : w.cell? ⟨b, 1, none⟩ = some (.int .i64 v)
  f0 : w.frozen? ⟨b, 0, none⟩ = false
  f1 : w.frozen? ⟨b, 1, none⟩ = false
theorem IRes.lt {b : Nat} {w : World} {q v : Int} (h : IRes w b q v) : b < w.heap.size := World.block_lt_of_cell? w _ h.c0
theorem IRes.below {b : Nat} {w w' : World} {q v : Int} (h : IRes w b q v) (hb : Below w.heap.size w w') : IRes w' b q v :=
  ⟨(hb.cell (p := ⟨b, 0, none⟩) h.lt).trans h.c0, (hb.cell (p := ⟨b, 1, none⟩) h.lt).trans h.c1, (hb.frozen (p := ⟨b, 0, none⟩) h.lt).trans h.f0, (hb.frozen (p := ⟨b, 1, none⟩) h.lt).trans h.f1⟩

def freeV (zs : List Int) : Value := .agg #[.int .i64 (fltOf zs), .int .i64 (freeOf zs)]

end Go.Proofs.Ytcadkclppejdgaa

