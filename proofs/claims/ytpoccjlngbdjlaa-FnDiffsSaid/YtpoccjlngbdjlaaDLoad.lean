/-
  The contract of loadPage: a page as an array of its own, and its fault.
-/
import Derived.Test.YtpoccjlngbdjlaaDModF
namespace Go.Proofs.Ytpoccjlngbdjlaa.Dr
open Go.RowKit
set_option linter.unusedVariables false

theorem pgC_one (ys : List Int) : (pgC ys).all (·.oneCell') = true := by
  unfold pgC
  exact all_oneCell_toArray (fun v hv => by
    rw [List.mem_map] at hv
    obtain ⟨z, _, rfl⟩ := hv
    rfl)
/-- A whole page is written. -/
theorem wpList_storePg {ops : Array Oper} {rest : List Oper} {o : Oper} {a : Act} {w : World} {Q : Exit → Act → World → Prop} (hgd : o.guard = none) (x y : Operand) (ho : o.op = .store 58 x y)
    (g : Nat) (ys : List Int) (hx : a.eval x = .pointer (some ⟨g, 0, none⟩)) (hy : a.eval y = .agg (pgC ys)) (hl : ys.length = 64) (zs : List Int) (hA : Arr w g zs)
    (h : wpList Try.prog ops Q rest (a.put o.dst undef) (w.setRow g (pgC ys))) : wpList Try.prog ops Q (o :: rest) a w :=
  wpList_store_row hgd 58 x y ho g (pgC ys) hx hy 58 (pgC zs) hA.row (by rw [pgC_size, hl]; exact info57) (by rw [pgC_size, pgC_size, hA.len, hl]) (pgC_one ys) h
theorem Arr.put {w : World} {g : Nat} {zs ys : List Int} (h : Arr w g zs) (hl : ys.length = 64) : Arr (w.setRow g (pgC ys)) g ys := ⟨hl, setRow_heap w g _ _ _ _ h.row⟩
theorem setRow_other (w : World) (g k : Nat) (cs : Array Value) (h : k ≠ g) : (w.setRow g cs).heap[k]? = w.heap[k]? := by
  unfold World.setRow
  simp only
  rw [Array.getElem?_modify, if_neg (fun e => h e.symm)]
theorem setRow_size (w : World) (g : Nat) (cs : Array Value) : (w.setRow g cs).heap.size = w.heap.size := by unfold World.setRow; simp
theorem setRow_below {B : Nat} {w w' : World} (h : Below B w w') {g : Nat} (hg : B ≤ g) (cs : Array Value) : Below B w (w'.setRow g cs) :=
  ⟨h.os, h.tape, h.output, by rw [setRow_size]; exact h.size, fun k hk => (setRow_other w' g k cs (by omega)).trans (h.block k hk)⟩

theorem built57 : Try.prog.built 58 [] = some (pgC (filled 0 0)) := by kernel_rfl
/-- A page of zeros is made. -/
theorem wpList_buildPg {ops : Array Oper} {rest : List Oper} {o : Oper} {a : Act} {w : World} {Q : Exit → Act → World → Prop} (hgd : o.guard = none) (ho : o.op = .build 58 #[])
    (h : wpList Try.prog ops Q rest (a.put o.dst (.agg (pgC (filled 0 0)))) w) : wpList Try.prog ops Q (o :: rest) a w := by
  have e : Try.prog.built 58 ((#[] : Array (Nat × Operand)).map fun (i, x) => (i, a.eval x)).toList = some (pgC (filled 0 0)) := by rw [Array.map_empty]; exact built57
  exact wpList_build hgd 58 #[] ho (by rw [e]; rfl) (by rw [e]; exact h)

theorem Arr.loadVar {w : World} {b : Nat} {zs : List Int} (h : Arr w b zs) : (loadVar 58 ⟨b, 0, none⟩).run Try.prog w = .ok (.agg (pgC zs)) w :=
  run_loadVar_row w b 58 58 (pgC zs) (0, 0) _ h.row Try.underlying58 rfl (by rw [pgC_size, h.len]; exact info57)

/-- What loadPage knows while it asks for the fault. -/
def LdS (w : World) (zs : List Int) (x y : Nat) (V : World) : Prop := (∃ ys, Arr V x ys) ∧ Arr V y zs ∧ Below w.heap.size w V
theorem ldKeep {w : World} {zs : List Int} {x y : Nat} {W V : World} (h : LdS w zs x y W) (hb : Below W.heap.size W V) : LdS w zs x y V := ⟨⟨_, h.1.choose_spec.grown hb⟩, h.2.1.grown hb, h.2.2.trans (hb.mono h.2.2.size)⟩

theorem Reads.range {w : World} {b off : Nat} {zs : List Int} (hr : Reads w (some ⟨b, off, none⟩) zs) : w.rangeAt b off (zs.map (Value.int .u8)) := by
  intro j v hv
  rw [List.getElem?_map] at hv
  cases hz : zs[j]? with
  | none => rw [hz] at hv; cases hv
  | some z =>
    rw [hz] at hv
    simp only [Option.map_some, Option.some.injEq] at hv
    subst hv
    rcases hr with hr | ⟨b', off', ha, hc⟩
    · rw [hr] at hz; simp at hz
    · simp only [Option.some.injEq, Addr.mk.injEq, and_true] at ha
      obtain ⟨rfl, rfl⟩ := ha
      rw [hc j (List.getElem?_eq_some_iff.1 hz).1, List.getD, hz]
      rfl

/-- A slice of 64 bytes as a pointer to a page. -/
theorem wpList_arrayAt {ops : Array Oper} {rest : List Oper} {o : Oper} {a : Act} {w : World} {Q : Exit → Act → World → Prop} (hgd : o.guard = none) (x : Operand) (ho : o.op = .sliceToArrayPointer 58 x)
    (ad : Option Addr) (c : Nat) (hx : a.eval x = .slice ad 64 c) (h : wpList Try.prog ops Q rest (a.put o.dst (.pointer ad)) w) : wpList Try.prog ops Q (o :: rest) a w :=
  wpList_plain hgd fun _ hK => by
    unfold Oper.wp execOp
    simp only [ho, hx, Instr.arrayAt, Sem.run_bind, run_underlying Try.underlying58, Result.andThen_ok, Nat.lt_irrefl, if_false, Sem.run_pure]
    exact hK _ _ h
theorem wp_storePg {o : Oper} {a : Act} {w : World} {K : Act → World → Prop} {Q : Exit → Act → World → Prop} (x y : Operand) (ho : o.op = .store 58 x y)
    (g : Nat) (ys : List Int) (hx : a.eval x = .pointer (some ⟨g, 0, none⟩)) (hy : a.eval y = .agg (pgC ys)) (hl : ys.length = 64) (zs : List Int) (hA : Arr w g zs)
    (h : K (a.put o.dst undef) (w.setRow g (pgC ys))) : o.wp Try.prog a w K Q :=
  wp_store_row 58 x y ho g (pgC ys) hx hy 58 (pgC zs) hA.row (by rw [pgC_size, hl]; exact info57) (by rw [pgC_size, pgC_size, hA.len, hl]) (pgC_one ys) h
theorem Arr.row_other {w : World} {b g : Nat} {zs : List Int} (h : Arr w b zs) (hn : b ≠ g) (cs : Array Value) : Arr (w.setRow g cs) b zs := ⟨h.len, (setRow_other w g b cs hn).trans h.row⟩

end Go.Proofs.Ytpoccjlngbdjlaa.Dr
