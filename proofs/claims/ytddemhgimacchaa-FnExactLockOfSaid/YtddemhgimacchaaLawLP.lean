/-
  A key that came in.
-/
import Derived.Test.YtddemhgimacchaaLawLO
namespace Go.Proofs.Ytddemhgimacchaa
open Go.ChangeShapes Go.WideShapes Go.RowKit
set_option linter.unusedVariables false
set_option maxRecDepth 20000

theorem open_key {H : Type} {enc : TypeId × Value → H} {W : World} {base bs : Nat} {held : Bool} {v : Value} {d : DataW H} {p : List MemPlace} (hv : Value.okWide Try.prog W .any base 57 v)
    (h : DataW.Trod enc Try.prog W bs (fun _ => true) held 57 v d p) : ∃ x y, v = .agg #[.int .i64 x, .int .i64 y] := by
  obtain ⟨cs, rfl, hsz⟩ := okWide_struct Try.underlying57 hv
  have c2 : Try.prog.cellsOf 57 = 2 := by kernel_rfl
  rw [c2] at hsz
  obtain ⟨fuel, h2⟩ := h
  obtain ⟨l⟩ := cs
  have hl : l.length = 2 := by simpa using hsz
  obtain ⟨v0, v1, rfl⟩ := two2 l hl
  have h2 : DataW.trod enc Try.prog W bs (fun _ => true) held fuel 57 [v0, v1] = some (d, p) := h2
  obtain ⟨xs, k, hk, hxy, _, hxl, hf⟩ := DataW.trod_struct Try.underlying57 h2
  have hx2 : xs.length = 2 := hxl
  clear hxl
  obtain ⟨y0, y1, rfl⟩ := two2 xs hx2
  have g0 := hf 0 _ rfl
  have g1 := hf 1 _ rfl
  have c1 : Try.prog.cellsOf 2 = 1 := by kernel_rfl
  simp [c1] at g0 g1
  obtain ⟨t0, e0, _, _⟩ := DataW.trod_int Try.underlying2 g0
  obtain ⟨t1, e1, _, _⟩ := DataW.trod_int Try.underlying2 g1
  simp only [List.cons.injEq, and_true] at e0 e1
  subst e0 e1
  exact ⟨t0, t1, rfl⟩
theorem lawLockOfX_any (a : Option Addr) (n c : Nat) (xs : List TxV) (x y : Int) (w : World) (h : IsTxs w a n xs) (_ : True) :
    Calls Try.prog 6 #[.slice a n c, .agg #[.int .i64 x, .int .i64 y]] w fun e w' => e = .returned (.bool true) ∧ Below w.heap.size w w' := lawLockOf_any a n c xs x y w h

end Go.Proofs.Ytddemhgimacchaa

