/-
  Picked.
-/
import Derived.Test.YtmbllmhpnopbdaaFFChg
import Derived.Test.YtmbllmhpnopbdaaFFCbf
import Derived.Test.YtmbllmhpnopbdaaFFRwg
import Derived.Deep.RegionHeld

namespace Go.Proofs.Ytmbllmhpnopbdaa
open Go.RowKit Go.Maps
set_option linter.unusedVariables false

open Go.RowKit Go.Maps
set_option linter.unusedVariables false

/-- Ten cells written. -/
def put10 (w : World) (b o : Nat) (x : Chg) : World := (((((((((w.setCell ⟨b, o, none⟩ (.bool x.was)).setCell ⟨b, o + 1, none⟩ (.int .i64 x.b.t)).setCell ⟨b, o + 2, none⟩ (.int .i64 x.b.k)).setCell ⟨b, o + 3, none⟩ (.int .i64 x.b.v)).setCell ⟨b, o + 4, none⟩ (.string x.b.s)).setCell ⟨b, o + 5, none⟩ (.bool x.is)).setCell ⟨b, o + 6, none⟩ (.int .i64 x.a.t)).setCell ⟨b, o + 7, none⟩ (.int .i64 x.a.k)).setCell ⟨b, o + 8, none⟩ (.int .i64 x.a.v)).setCell ⟨b, o + 9, none⟩ (.string x.a.s)
theorem Rs.chgAt {w : World} {b off : Nat} {xs : List Chg} (h : Rs chE 10 w (some ⟨b, off, none⟩) xs) {i : Nat} {x : Chg} (hx : xs[i]? = some x) : ChC w b (off + i * 10) x := by
  obtain ⟨b', off', ha, hc⟩ := h.chg hx
  simp only [Option.some.injEq, Addr.mk.injEq, and_true] at ha
  obtain ⟨rfl, rfl⟩ := ha
  exact hc

theorem ChC.turned {w w' : World} {b o lo hi : Nat} {x : Chg} (h : ChC w b o x) (t : Turned lo hi w w') (hn : b < lo ∨ hi ≤ b) : ChC w' b o x :=
  ⟨t.cell h.c0 hn, t.cell h.c1 hn, t.cell h.c2 hn, t.cell h.c3 hn, t.cell h.c4 hn, t.cell h.c5 hn, t.cell h.c6 hn, t.cell h.c7 hn, t.cell h.c8 hn, t.cell h.c9 hn⟩

end Go.Proofs.Ytmbllmhpnopbdaa

/-
  An answer's two cells, a literal of one change, a store of an answer: the new block and the new world told as letters.
-/
namespace Go.Proofs.Ytmbllmhpnopbdaa
open Go.RowKit
set_option linter.unusedVariables false
set_option maxRecDepth 20000

theorem wp_alloc_rr {o : Oper} {a : Act} {w : World} {K : Act → World → Prop} {Q : Exit → Act → World → Prop} (ho : o.op = .alloc 36)
    (h : ∀ W b, RsO W b → Below w.heap.size w W → b = w.heap.size → b < W.heap.size → K (a.put o.dst (.pointer (some ⟨b, 0, none⟩))) W) : o.wp Try.prog a w K Q := by
  have h2 := h _ _ (RsO.new w) (by go_grown) rfl (by simp)
  clear h
  obtain ⟨dst, op, ty, pos, after, guard⟩ := o
  dsimp only at ho h2
  subst ho
  unfold Oper.wp
  go_simp
  unfold Act.put at h2
  exact h2
theorem wp_lit_ch {o : Oper} {a : Act} {w : World} {K : Act → World → Prop} {Q : Exit → Act → World → Prop} (x : Nat) (y : Chg) (ho : o.op = .buildSlice 24 1 #[(0, .tmp x)]) (hx : a.tmps[x]?.getD undef = chV y)
    (h : ∀ W b, Rs chE 10 W (some ⟨b, 0, none⟩) [y] → Below w.heap.size w W → K (a.put o.dst (.slice (some ⟨b, 0, none⟩) 1 1)) W) : o.wp Try.prog a w K Q := by
  have h2 := h _ _ (rs_one (enc := chE) w y 28) (by go_grown)
  clear h
  obtain ⟨dst, op, ty, pos, after, guard⟩ := o
  dsimp only at ho h2
  subst ho
  unfold chV at hx
  unfold Oper.wp
  go_simp
  unfold Act.put chE at h2
  exact h2
theorem wp_store_rr {o : Oper} {a : Act} {w : World} {K : Act → World → Prop} {Q : Exit → Act → World → Prop} (p x : Nat) (ab : Nat) (q : Int) (pa : Option Addr) (na ca : Nat) (hd : o.dst = none) (ho : o.op = .store 36 (.tmp p) (.tmp x)) (hp : a.tmps[p]?.getD undef = .pointer (some ⟨ab, 0, none⟩)) (hx : a.tmps[x]?.getD undef = .agg #[.int .i64 q, .slice pa na ca]) (hO : RsO w ab)
    (h : ∀ W, W.cell? ⟨ab, 0, none⟩ = some (.int .i64 q) → W.cell? ⟨ab, 1, none⟩ = some (.slice pa na ca) → Turned ab (ab + 1) w W → K a W) : o.wp Try.prog a w K Q := by
  obtain ⟨a0, a1, f0, f1⟩ := hO
  have h2 := h ((w.setCell ⟨ab, 0, none⟩ (.int .i64 q)).setCell ⟨ab, 1, none⟩ (.slice pa na ca)) (by simp [go_sem, a0]) (by simp [go_sem, a1]) (((Turned.refl _ _ _).setCell (p := ⟨ab, 0, none⟩) (Nat.le_refl _) (Nat.lt_succ_self _) _).setCell (p := ⟨ab, 1, none⟩) (Nat.le_refl _) (Nat.lt_succ_self _) _)
  obtain ⟨dst, op, ty, pos, after, guard⟩ := o
  clear h
  dsimp only at ho hd
  subst ho
  subst hd
  unfold Oper.wp
  go_simp
  exact h2

end Go.Proofs.Ytmbllmhpnopbdaa
