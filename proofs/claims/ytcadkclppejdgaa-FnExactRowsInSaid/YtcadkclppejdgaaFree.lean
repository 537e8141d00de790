/-
  The contracts of free, firstEmpty and endsEmpty.
-/
import Derived.Test.YtcadkclppejdgaaSp
namespace Go.Proofs.Ytcadkclppejdgaa
open Go.RowKit

/-- A whole page is read. -/
theorem wpList_loadPg {ops : Array Oper} {rest : List Oper} {o : Oper} {a : Act} {w : World} {Q : Exit → Act → World → Prop} (hgd : o.guard = none) (x : Operand) (ho : o.op = .load 167 x)
    (g : Nat) (hx : a.eval x = .pointer (some ⟨g, 0, none⟩)) (zs : List Int) (hA : Arr w g zs)
    (h : wpList Try.prog ops Q rest (a.put o.dst (.agg (pgC zs))) w) : wpList Try.prog ops Q (o :: rest) a w :=
  wpList_load_row hgd 167 x ho g hx 167 (pgC zs) (0, 0) _ hA.row Try.underlying167 rfl (by rw [pgC_size, hA.len]; exact info57) h

/-- How long the cells of the first k slots are together. -/
def lens (zs : List Int) : Nat → Nat
  | 0 => 0
  | k + 1 => lens zs k + nb zs (3 + 2 * k)

theorem lens_le (zs : List Int) : ∀ k m, lens zs k ≤ lens zs (k + m)
  | _, 0 => Nat.le_refl _
  | k, m + 1 => by rw [← Nat.add_assoc, lens]; have := lens_le zs k m; omega

/-- Is slot s empty? -/
def empB (zs : List Int) (s : Nat) : Bool := nb zs (2 + 2 * s) == 0 && nb zs (3 + 2 * s) == 0
/-- The first empty slot from k on, of m; k + m, where there is none. -/
def firstE (zs : List Int) (k : Nat) : Nat → Nat
  | 0 => k
  | m + 1 => if empB zs k = true then k else firstE zs (k + 1) m

end Go.Proofs.Ytcadkclppejdgaa

