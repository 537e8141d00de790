/-
  The contracts of endsEmpty and isSpanWrong.
-/
import Derived.Test.YtpoccjlngbdjlaaDFree
namespace Go.Proofs.Ytpoccjlngbdjlaa.Dr
open Go.RowKit
set_option linter.unusedVariables false

/-- A whole page is read, where its guard says yes. -/
theorem wpList_loadPgW {ops : Array Oper} {rest : List Oper} {o : Oper} {a : Act} {w : World} {Q : Exit → Act → World → Prop} (hw : Region.wanted o (yielded ops a.tmps) = true) (x : Operand) (ho : o.op = .load 58 x)
    (g : Nat) (hx : a.eval x = .pointer (some ⟨g, 0, none⟩)) (zs : List Int) (hA : Arr w g zs)
    (h : wpList Try.prog ops Q rest (a.put o.dst (.agg (pgC zs))) w) : wpList Try.prog ops Q (o :: rest) a w :=
  BigFrame.wpList_want hw fun _ hK => wp_load_row 58 x ho g hx 58 (pgC zs) (0, 0) _ hA.row Try.underlying58 rfl (by rw [pgC_size, hA.len]; exact info57) (hK _ _ h)

/-- Has the page slots, and is the last one empty? -/
def endB (zs : List Int) : Bool := decide (0 < nb zs 0) && empB zs (nb zs 0 - 1)

/-- Is what a slot tells no place of a cell? -/
def wrongB (low p l : Nat) : Bool := !(p == 0 && l == 0) && (p == 0 || l == 0 || decide (p < low) || decide (64 < p + l))

/-- A whole page is read, in a region that draws its order. -/
theorem yieldsIf_loadPg {ops : Array Oper} {S : World → Prop} {op : Oper} {a : Act} (hw : Region.wanted op (yielded ops a.tmps) = true) (x : Operand) (ho : op.op = .load 58 x)
    (b : Nat) (hx : a.eval x = .pointer (some ⟨b, 0, none⟩)) (zs : List Int) (hS : ∀ w, S w → Arr w b zs) : YieldsIf Try.prog ops S op (.agg (pgC zs)) a :=
  .inl ⟨hw, fun w hw' => by
    unfold execOp
    simp only [ho, hx, Instr.loadAt, Instr.sureAddr, Sem.run_bind, Sem.run_pure, Result.andThen_ok, run_loadVar_row w b 58 58 (pgC zs) (0, 0) _ (hS w hw').row Try.underlying58 rfl (by rw [pgC_size, (hS w hw').len]; exact info57)]⟩

/-- What isSpanWrong knows while it asks. -/
def SpW (w : World) (zs : List Int) (x p l : Nat) (W : World) : Prop :=
  W.cell? ⟨x, 0, none⟩ = some (.int .u64 p) ∧ W.cell? ⟨x, 1, none⟩ = some (.int .u64 l) ∧ Arr W w.heap.size zs ∧ Below w.heap.size w W
theorem SpW.keep {w : World} {zs : List Int} {x p l : Nat} {W V : World} (h : SpW w zs x p l W) (hb : Below W.heap.size W V) : SpW w zs x p l V :=
  ⟨(hb.cell (p := ⟨x, 0, none⟩) (World.block_lt_of_cell? W _ h.1)).trans h.1, (hb.cell (p := ⟨x, 1, none⟩) (World.block_lt_of_cell? W _ h.2.1)).trans h.2.1, h.2.2.1.grown hb, h.2.2.2.trans (hb.mono h.2.2.2.size)⟩

end Go.Proofs.Ytpoccjlngbdjlaa.Dr
