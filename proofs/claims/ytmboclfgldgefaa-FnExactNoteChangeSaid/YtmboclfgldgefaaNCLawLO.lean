/-
  Both LockOf; the law FnExactLockOf answers true.
-/
import Derived.Test.YtmboclfgldgefaaNCLawTX

namespace Go.Proofs.Ytmboclfgldgefaa
open Go.ChangeShapes Go.WideShapes Go.RowKit Go.Maps
set_option linter.unusedVariables false
set_option maxRecDepth 20000

def loQ (xs : List TxV) (x y : Int) : Int := if txsQ xs = 0 then (if keyB ⟨x, y⟩ = true then 0 else 3) else txsQ xs
def loV (xs : List TxV) (x y : Int) : Int := if loQ xs x y = 0 then lkr xs ⟨x, y⟩ else 0
/-- Two cells of an answer, new; and as they are kept. -/
structure R2f (w : World) (b : Nat) : Prop where
  c0 : w.cell? ⟨b, 0, none⟩ = some (.int .i64 0)
  c1 : w.cell? ⟨b, 1, none⟩ = some (.int .i64 0)
  f0 : w.frozen? ⟨b, 0, none⟩ = false
  f1 : w.frozen? ⟨b, 1, none⟩ = false
theorem R2f.lt {w : World} {b : Nat} (h : R2f w b) : b < w.heap.size := World.block_lt_of_cell? w _ h.c0
theorem R2f.below {w w' : World} {b : Nat} (h : R2f w b) (hb : Below w.heap.size w w') : R2f w' b :=
  ⟨(hb.cell (p := ⟨b, 0, none⟩) h.lt).trans h.c0, (hb.cell (p := ⟨b, 1, none⟩) h.lt).trans h.c1, (hb.frozen (p := ⟨b, 0, none⟩) h.lt).trans h.f0, (hb.frozen (p := ⟨b, 1, none⟩) h.lt).trans h.f1⟩
structure R2 (w : World) (b : Nat) (p q : Int) : Prop where
  c0 : w.cell? ⟨b, 0, none⟩ = some (.int .i64 p)
  c1 : w.cell? ⟨b, 1, none⟩ = some (.int .i64 q)
theorem R2.lt {w : World} {b : Nat} {p q : Int} (h : R2 w b p q) : b < w.heap.size := World.block_lt_of_cell? w _ h.c0
theorem R2.below {w w' : World} {b : Nat} {p q : Int} (h : R2 w b p q) (hb : Below w.heap.size w w') : R2 w' b p q :=
  ⟨(hb.cell (p := ⟨b, 0, none⟩) h.lt).trans h.c0, (hb.cell (p := ⟨b, 1, none⟩) h.lt).trans h.c1⟩
theorem below_s2 {w W : World} {b : Nat} (g : Below w.heap.size w W) (hb : w.heap.size ≤ b) (u v : Value) : Below w.heap.size w ((W.setCell ⟨b, 0, none⟩ u).setCell ⟨b, 1, none⟩ v) :=
  g.trans (Turned.toBelow (lo := b) (hi := b + 1) (((Turned.refl _ _ W).setCell (p := ⟨b, 0, none⟩) (Nat.le_refl _) (Nat.lt_succ_self _) _).setCell (p := ⟨b, 1, none⟩) (Nat.le_refl _) (Nat.lt_succ_self _) _) g.size hb)

set_option maxHeartbeats 400000 in
theorem eqIntResult_same (p q : Int) (w : World) : Calls Try.prog 22 #[.agg #[.int .i64 p, .int .i64 q], .agg #[.int .i64 p, .int .i64 q]] w fun e w' => e = .returned (.bool true) ∧ Below w.heap.size w w' := by
  go_enter Try.func22, Try.ntmps22
  go_wp2
  go_ret
  exact ⟨rfl, by go_grown⟩
/-- What the drawn region of the law keeps. -/
structure LoS (D : World) (b : Nat) (x y : Int) (V : World) : Prop where
  c : R2 V b x y
  g : Below D.heap.size D V
theorem LoS.up {D : World} {b : Nat} {x y : Int} {V V' : World} (h : LoS D b x y V) (hb : Below V.heap.size V V') : LoS D b x y V' := ⟨h.c.below hb, h.g.trans (hb.mono h.g.size)⟩
theorem LoS.turned {D : World} {b : Nat} {x y : Int} {V V' : World} (h : LoS D b x y V) {ab : Nat} (ht : Turned ab (ab + 1) V V') (hd : D.heap.size ≤ ab) (hDV : D.heap.size ≤ V.heap.size) (hb : b < D.heap.size) : LoS D b x y V' := by
  have hg := ht.toBelow (B := D.heap.size) hDV hd
  exact ⟨⟨(hg.cell (p := ⟨b, 0, none⟩) hb).trans h.c.c0, (hg.cell (p := ⟨b, 1, none⟩) hb).trans h.c.c1⟩, h.g.trans hg⟩

end Go.Proofs.Ytmboclfgldgefaa
