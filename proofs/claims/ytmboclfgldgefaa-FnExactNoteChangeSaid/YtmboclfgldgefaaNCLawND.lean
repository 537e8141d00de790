/-
  The law FnExactNoteChange, of a change as a value.
-/
import Derived.Test.YtmboclfgldgefaaNCLawNC
import Derived.OpenShut

namespace Go.Proofs.Ytmboclfgldgefaa
open Go.ChangeShapes Go.WideShapes Go.ChangeAt Go.RowKit Go.Joins
set_option linter.unusedVariables false

def chV (x : Chg) : Value := .agg #[.bool x.was, .int .i64 x.b.t, .int .i64 x.b.k, .int .i64 x.b.v, .string x.b.s, .bool x.is, .int .i64 x.a.t, .int .i64 x.a.k, .int .i64 x.a.v, .string x.a.s]
set_option maxRecDepth 100000 in
theorem open_chg {H : Type} {enc : TypeId × Value → H} {W : World} {base bs : Nat} {held : Bool} {v : Value} {d : DataW H} {p : List MemPlace} (hv : Value.okWide Try.prog W .any base 54 v)
    (h : DataW.Trod enc Try.prog W bs (fun _ => true) held 54 v d p) : ∃ x : Chg, v = chV x ∧ x.b.s.size ≤ maxLen ∧ x.a.s.size ≤ maxLen := by
  obtain ⟨cs, rfl, hsz⟩ := okWide_struct Try.underlying54 hv
  have c10 : Try.prog.cellsOf 54 = 10 := by kernel_rfl
  rw [c10] at hsz
  obtain ⟨fuel, h2⟩ := h
  obtain ⟨l⟩ := cs
  have hl : l.length = 10 := by simpa using hsz
  obtain ⟨v0, v1, v2, v3, v4, v5, v6, v7, v8, v9, rfl⟩ := ten l hl
  have h2 : DataW.trod enc Try.prog W bs (fun _ => true) held fuel 54 [v0, v1, v2, v3, v4, v5, v6, v7, v8, v9] = some (d, p) := h2
  obtain ⟨xs, k, hk, hxy, _, hxl, hf⟩ := DataW.trod_struct Try.underlying54 h2
  have hx4 : xs.length = 4 := hxl
  clear hxl
  obtain ⟨y0, y1, y2, y3, rfl⟩ := four xs hx4
  have g0 := hf 0 _ rfl
  have g1 := hf 1 _ rfl
  have g2 := hf 2 _ rfl
  have g3 := hf 3 _ rfl
  have c4 : Try.prog.cellsOf 4 = 1 := by kernel_rfl
  have c85 : Try.prog.cellsOf 52 = 4 := by kernel_rfl
  simp [c4, c85] at g0 g1 g2 g3
  obtain ⟨t0, e0, _⟩ := DataW.trod_bool Try.underlying4 g0
  obtain ⟨q1, a1, a2, a3, a4, a5⟩ := open_row4 g1
  obtain ⟨t2, e2, _⟩ := DataW.trod_bool Try.underlying4 g2
  obtain ⟨q3, d1, d2, d3, d4, d5⟩ := open_row4 g3
  simp only [List.cons.injEq, and_true] at e0 e2
  subst e0 e2 a1 a2 a3 a4 d1 d2 d3 d4
  exact ⟨⟨t0, q1, t2, q3⟩, rfl, a5, d5⟩

theorem lawNoteChangeX_any (a : Option Addr) (n c : Nat) (xs : List TxV) (t : Int) (x : Chg) (w : World) (h : IsTxs w a n xs) (ht : (Lit.int .i64 t).wf = true) (hx : x.b.s.size ≤ maxLen ∧ x.a.s.size ≤ maxLen) :
    Calls Try.prog 5 #[.slice a n c, .int .i64 t, chV x] w fun e w' => e = .returned (.bool true) ∧ Below w.heap.size w w' := lawNoteChange_any a n c xs t x.was x.b.t x.b.k x.b.v x.b.s x.is x.a.t x.a.k x.a.v x.a.s w h hx.1 hx.2

end Go.Proofs.Ytmboclfgldgefaa
