/-
  The contract of writeCell: a cell is copied into a page, and its slot tells it.
-/
import Derived.Test.YtcjkjenebnodbaaDPut
import Derived.Laws.CopyOwn
namespace Go.Proofs.Ytcjkjenebnodbaa.Dr
open Go.RowKit
set_option linter.unusedVariables false

/-- Bytes are copied into a page. -/
theorem wp_copyPg {o : Oper} {a : Act} {w : World} {K : Act → World → Prop} {Q : Exit → Act → World → Prop} (d s : Operand)
    (ho : o.op = .call { callee := .builtin .copy, args := #[d, s], argTypes := #[22, 22] })
    (b off n dCap : Nat) (ad : Addr) (sCap : Nat) (hd : a.eval d = .slice (some ⟨b, off, none⟩) n dCap) (hs : a.eval s = .slice (some ad) n sCap)
    (zs cs : List Int) (hA : Arr w b zs) (hn : cs.length = n) (hsrc : ∀ j v, (cs.map (Value.int .u8))[j]? = some v → w.cell? (ad.add j) = some v) (hfit : off + n ≤ 64)
    (h : K (a.put o.dst (goInt n)) (w.setRow b (pgC (splice zs off cs)))) : o.wp Try.prog a w K Q := by
  have hinf : (Try.prog.info? 5).map (·.size) = some 1 := by kernel_rfl
  have hrun := run_copy_row (P := Try.prog) w 22 22 o.type 5 b off n dCap ad n sCap (pgC zs) 58 (cs.map (Value.int .u8)) Try.underlying22 hinf hA.row (by simp [hn]) hsrc (by rw [pgC_size, hA.len, List.length_map, hn]; exact hfit) (fun v hv => by
    rw [List.mem_map] at hv
    obtain ⟨z, _, rfl⟩ := hv
    rfl)
  have e : ((pgC zs).toList.take off ++ cs.map (Value.int .u8) ++ (pgC zs).toList.drop (off + (cs.map (Value.int .u8)).length)).toArray = pgC (splice zs off cs) := by
    simp [pgC, splice]
  rw [e, List.length_map, hn] at hrun
  unfold Oper.wp
  simp [execOp, ho, resolve, invoke, builtin, hd, hs, hrun, Result.andThen]
  exact h

def WcS (w : World) (b y p n : Nat) (V : World) : Prop := V.cell? ⟨y, 0, none⟩ = some (.int .u64 p) ∧ V.cell? ⟨y, 1, none⟩ = some (.int .u64 n) ∧ (∃ ys, Arr V b ys) ∧ Turned b (b + 1) w V
theorem wcKeep {w : World} {b y p n : Nat} {W V : World} (h : WcS w b y p n W) (hb : Below W.heap.size W V) : WcS w b y p n V := by
  obtain ⟨h1, h2, ⟨ys, h3⟩, h4⟩ := h
  have hy : y < W.heap.size := World.block_lt_of_cell? W _ h1
  exact ⟨(hb.cell (p := ⟨y, 0, none⟩) hy).trans h1, (hb.cell (p := ⟨y, 1, none⟩) hy).trans h2, ⟨ys, h3.grown hb⟩, h4.trans (Turned.ofBelow hb)⟩

end Go.Proofs.Ytcjkjenebnodbaa.Dr

