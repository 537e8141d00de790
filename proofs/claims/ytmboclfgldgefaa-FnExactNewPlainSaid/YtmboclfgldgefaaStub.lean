/-
  The contracts of PackStub and of its model: both make the same bytes, in new memory, with the same code.
-/
import Derived.Test.YtmboclfgldgefaaRowC
import Derived.Test.YtmboclfgldgefaaBy
namespace Go.Proofs.Ytmboclfgldgefaa
open Go.RowKit

def stubB (p s : Int) : Bool := inW p 0 11 && inW s 0 15
def stubCode (p s : Int) : Int := if stubB p s = true then 0 else 3
def stubBytes (p s : Int) : List Int := if stubB p s = true then [1, p, s] else []
theorem stubBytes_small (p s : Int) : (stubBytes p s).length ≤ 3 := by unfold stubBytes; split <;> simp

theorem bytesIn_three {lo hi b : Nat} {w : World} {x y z : Int} (hlo : lo ≤ b) (hhi : b < hi) (h0 : w.cell? ⟨b, 0, none⟩ = some (.int .u8 x)) (h1 : w.cell? ⟨b, 1, none⟩ = some (.int .u8 y)) (h2 : w.cell? ⟨b, 2, none⟩ = some (.int .u8 z))
    (f0 : w.frozen? ⟨b, 0, none⟩ = false) (f1 : w.frozen? ⟨b, 1, none⟩ = false) (f2 : w.frozen? ⟨b, 2, none⟩ = false) : BytesIn lo hi w (some ⟨b, 0, none⟩) [x, y, z] := by
  refine .inr ⟨b, 0, rfl, hlo, hhi, fun i hi => ?_, fun i hi => ?_⟩
  · match i, hi with
    | 0, _ => exact h0
    | 1, _ => exact h1
    | 2, _ => exact h2
  · match i, hi with
    | 0, _ => exact f0
    | 1, _ => exact f1
    | 2, _ => exact f2

theorem inW_bounds {n lo hi : Int} (h : inW n lo hi = true) : lo ≤ n ∧ n ≤ hi := by simpa [inW] using h

end Go.Proofs.Ytmboclfgldgefaa




