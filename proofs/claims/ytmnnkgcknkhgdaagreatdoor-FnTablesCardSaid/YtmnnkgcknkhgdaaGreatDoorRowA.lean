/-
  The contracts of what compares two rows: szRow, toRow, and both IsBefore, for every row and in whatever memory; each lays new blocks alone.
-/
import Derived.Test.YtmnnkgcknkhgdaaGreatDoorRows
import Derived.WalkKit
import Derived.WalkSpells
import Derived.WalkLawsBesides
import Derived.Handy
import Derived.BigQuiet
namespace Go.Proofs.YtmnnkgcknkhgdaaGreatDoor
open Go.RowKit

/-- Block b holds the four cells of a row. -/
structure RowAt (w : World) (b : Nat) (t k v : Int) (s : ByteArray) : Prop where
  c0 : w.cell? ⟨b, 0, none⟩ = some (.int .i64 t)
  c1 : w.cell? ⟨b, 1, none⟩ = some (.int .i64 k)
  c2 : w.cell? ⟨b, 2, none⟩ = some (.int .i64 v)
  c3 : w.cell? ⟨b, 3, none⟩ = some (.string s)

theorem rowAt_below {B b : Nat} {w w' : World} {t k v : Int} {s : ByteArray} (hb : Below B w w') (hlt : b < B) (h : RowAt w b t k v s) : RowAt w' b t k v s :=
  ⟨(hb.cell (p := ⟨b, 0, none⟩) hlt).trans h.c0, (hb.cell (p := ⟨b, 1, none⟩) hlt).trans h.c1, (hb.cell (p := ⟨b, 2, none⟩) hlt).trans h.c2, (hb.cell (p := ⟨b, 3, none⟩) hlt).trans h.c3⟩

theorem below_draws {B : Nat} {a w : World} (h : Below B a w) (n : Nat) : Below B a (w.drewN n) := ⟨h.os, h.tape, h.output, h.size, h.block⟩

end Go.Proofs.YtmnnkgcknkhgdaaGreatDoor


