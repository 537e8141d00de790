/-
  The contract of loadPage: a page as an array of its own, and its fault.
-/
import Derived.Test.YtcjkjenebnodbaaDModF
namespace Go.Proofs.Ytcjkjenebnodbaa.Dr
open Go.RowKit
set_option linter.unusedVariables false

theorem pgC_one (ys : List Int) : (pgC ys).all (·.oneCell') = true := by
  unfold pgC
  exact all_oneCell_toArray (fun v hv => by
    rw [List.mem_map] at hv
    obtain ⟨z, _, rfl⟩ := hv
    rfl)
theorem Arr.put {w : World} {g : Nat} {zs ys : List Int} (h : Arr w g zs) (hl : ys.length = 64) : Arr (w.setRow g (pgC ys)) g ys := ⟨hl, setRow_heap w g _ _ _ _ h.row⟩
theorem setRow_other (w : World) (g k : Nat) (cs : Array Value) (h : k ≠ g) : (w.setRow g cs).heap[k]? = w.heap[k]? := by
  unfold World.setRow
  simp only
  rw [Array.getElem?_modify, if_neg (fun e => h e.symm)]
theorem setRow_size (w : World) (g : Nat) (cs : Array Value) : (w.setRow g cs).heap.size = w.heap.size := by unfold World.setRow; simp
theorem setRow_below {B : Nat} {w w' : World} (h : Below B w w') {g : Nat} (hg : B ≤ g) (cs : Array Value) : Below B w (w'.setRow g cs) :=
  ⟨h.os, h.tape, h.output, by rw [setRow_size]; exact h.size, fun k hk => (setRow_other w' g k cs (by omega)).trans (h.block k hk)⟩

/-- What loadPage knows while it asks for the fault. -/
def LdS (w : World) (zs : List Int) (x y : Nat) (V : World) : Prop := (∃ ys, Arr V x ys) ∧ Arr V y zs ∧ Below w.heap.size w V
theorem ldKeep {w : World} {zs : List Int} {x y : Nat} {W V : World} (h : LdS w zs x y W) (hb : Below W.heap.size W V) : LdS w zs x y V := ⟨⟨_, h.1.choose_spec.grown hb⟩, h.2.1.grown hb, h.2.2.trans (hb.mono h.2.2.size)⟩

theorem Reads.range {w : World} {b off : Nat} {zs : List Int} (hr : Reads w (some ⟨b, off, none⟩) zs) : w.rangeAt b off (zs.map (Value.int .u8)) := by
  intro j v hv
  rw [List.getElem?_map] at hv
  cases hz : zs[j]? with
  | none => rw [hz] at hv; cases hv
  | some z =>
    rw [hz] at hv
    simp only [Option.map_some, Option.some.injEq] at hv
    subst hv
    rcases hr with hr | ⟨b', off', ha, hc⟩
    · rw [hr] at hz; simp at hz
    · simp only [Option.some.injEq, Addr.mk.injEq, and_true] at ha
      obtain ⟨rfl, rfl⟩ := ha
      rw [hc j (List.getElem?_eq_some_iff.1 hz).1, List.getD, hz]
      rfl

theorem Arr.row_other {w : World} {b g : Nat} {zs : List Int} (h : Arr w b zs) (hn : b ≠ g) (cs : Array Value) : Arr (w.setRow g cs) b zs := ⟨h.len, (setRow_other w g b cs hn).trans h.row⟩

end Go.Proofs.Ytcjkjenebnodbaa.Dr

