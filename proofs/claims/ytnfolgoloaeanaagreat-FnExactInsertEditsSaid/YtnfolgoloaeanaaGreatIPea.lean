/-
  The program's pageAt at a page that is there; withPage, where a page is turned.
-/
import Derived.Test.YtnfolgoloaeanaaGreatIMae
import Derived.Test.YtnfolgoloaeanaaGreatILtu

namespace Go.Proofs.YtnfolgoloaeanaaGreat
open Go.RowKit
set_option linter.unusedVariables false

set_option maxHeartbeats 1000000 in
theorem pageAt_old (gp pn n k : Nat) (y : Value) (w : World) (hp : pn < n) (hc : w.cell? ⟨gp, pn, none⟩ = some y) :
    Calls Tryz.prog 103 #[.slice (some ⟨gp, 0, none⟩) n k, .int .i64 pn] w fun e w' => e = .returned (.tuple #[y, .bool true]) ∧ w' = w := by
  have hpi : (pn : Int) < (n : Int) := by omega
  go_enter Tryz.func103, Tryz.ntmps103
  go_wp2_with fail
  refine bodyPost_ret (v := .tuple #[y, .bool true]) (by simp [results, Tryz.results103, go_sem]) rfl ?_
  exact ⟨rfl, rfl⟩

set_option maxHeartbeats 1000000 in
theorem withPage_set (gp pn n k : Nat) (y u : Value) (w : World) (hp : pn < n) (hc : w.cell? ⟨gp, pn, none⟩ = some y) (hf : w.frozen? ⟨gp, pn, none⟩ = false) (hu : ∃ a l c, u = .slice a l c) :
    Calls Tryz.prog 141 #[.slice (some ⟨gp, 0, none⟩) n k, .int .i64 pn, u] w fun e w' => e = .returned (.slice (some ⟨gp, 0, none⟩) n k) ∧ w' = w.setCell ⟨gp, pn, none⟩ u := by
  obtain ⟨a, l, c, rfl⟩ := hu
  have hpi : (pn : Int) < (n : Int) := by omega
  have dn : (((pn : Nat) : Int) == (n : Int)) = false := by
    have : ¬ ((pn : Int) = (n : Int)) := by omega
    simpa using this
  go_enter Tryz.func141, Tryz.ntmps141
  go_wp2_with fail
  go_ret
  exact ⟨rfl, rfl⟩

end Go.Proofs.YtnfolgoloaeanaaGreat

/-
  The program's putEdit, where a page that is there is turned.
-/
namespace Go.Proofs.YtnfolgoloaeanaaGreat
open Go.RowKit
set_option linter.unusedVariables false

theorem TurnS.ofGrown {S : Nat → Prop} {w w' : World} {row : Option Nat} (h : w.grownBy w' row) (hs : ∀ g, row = some g → S g) : TurnS S w w' := ⟨h.os, h.tape, h.output, h.size, fun k hk hn => h.block k hk (fun e => hn (hs k e.symm))⟩

end Go.Proofs.YtnfolgoloaeanaaGreat

/-
  Pages that are turned, with the edits so far, beside blocks that stay as they are.
-/
namespace Go.Proofs.YtnfolgoloaeanaaGreat
open Go.RowKit
set_option linter.unusedVariables false

/-- HpS, and the blocks of sb are none of its blocks, and hold B. -/
structure HpX (sb : Nat → Prop) (B : Nat → Option Obj) (n₀ : Nat) (X : World) (ob : Nat) (es : List (Int × List Int)) (ps : List (List Int)) (x1 : Option Addr) (k1 : Nat) (V1 : List Value) (x2 : Option Addr) (k2 : Nat) (V2 : List Value) (V : World) : Prop extends HpS n₀ X ob es ps x1 k1 V1 x2 k2 V2 V where
  m1 : ∀ g, sb g → ¬ blkP (.slice x1 es.length k1) V1 g
  m2 : ∀ g, sb g → ¬ blkP (.slice x2 ps.length k2) V2 g
  m3 : ∀ g, sb g → g ≠ ob
  b : ∀ g, sb g → V.heap[g]? = B g
  ls : ∀ g, sb g → g < V.heap.size
section
variable {sb : Nat → Prop} {B : Nat → Option Obj} {n₀ : Nat} {X : World} {ob : Nat} {es : List (Int × List Int)} {ps : List (List Int)} {x1 : Option Addr} {k1 : Nat} {V1 : List Value} {x2 : Option Addr} {k2 : Nat} {V2 : List Value} {V V' : World}
theorem HpX.sz (h : HpX sb B n₀ X ob es ps x1 k1 V1 x2 k2 V2 V) : n₀ ≤ V.heap.size := h.toHpS.sz
theorem HpX.below (h : HpX sb B n₀ X ob es ps x1 k1 V1 x2 k2 V2 V) (hb : Below V.heap.size V V') : HpX sb B n₀ X ob es ps x1 k1 V1 x2 k2 V2 V' :=
  ⟨h.toHpS.below hb, h.m1, h.m2, h.m3, fun g hg => (hb.block g (h.ls g hg)).trans (h.b g hg), fun g hg => Nat.lt_of_lt_of_le (h.ls g hg) hb.size⟩
theorem HpX.pages (h : HpX sb B n₀ X ob es ps x1 k1 V1 x2 k2 V2 V) {qs : List (List Int)} {x3 : Option Addr} {k3 : Nat} {V3 : List Value} {row : Option Nat} (hg : V.grownBy V' row) (hr : ∀ g, row = some g → blkP (.slice x2 ps.length k2) V2 g) (hp : PgB n₀ V' (.slice x3 qs.length k3) qs V3) (hs : SepV V3) (hb : ∀ g, blkP (.slice x3 qs.length k3) V3 g → blkP (.slice x2 ps.length k2) V2 g ∨ (¬ blkP (.slice x1 es.length k1) V1 g ∧ g ≠ ob)) (hb2 : ∀ g, blkP (.slice x3 qs.length k3) V3 g → blkP (.slice x2 ps.length k2) V2 g ∨ ¬ sb g) : HpX sb B n₀ X ob es qs x1 k1 V1 x3 k3 V3 (V'.setCell ⟨ob, 0, none⟩ (.slice x3 qs.length k3)) := by
  refine ⟨h.toHpS.pages hg hr hp hs hb, h.m1, fun g hS hh => ?_, h.m3, fun g hS => ?_, fun g hS => ?_⟩
  · rcases hb2 g hh with h1 | h1
    · exact h.m2 g hS h1
    · exact h1 hS
  · rw [Below.heap_setCell _ _ _ _ (fun e => h.m3 g hS (by simpa using e))]
    exact (hg.block g (h.ls g hS) (fun e => h.m2 g hS (hr g e.symm))).trans (h.b g hS)
  · rw [World.size_setCell]; exact Nat.lt_of_lt_of_le (h.ls g hS) hg.size
theorem HpX.edit (h : HpX sb B n₀ X ob es ps x1 k1 V1 x2 k2 V2 V) {p : Int} {zs : List Int} {u : Value} {x3 : Option Addr} {k3 : Nat} (hu : Gb n₀ V u zs) (hfr : ∀ g, u.ownBlock = some g → ¬ blkP (.slice x1 es.length k1) V1 g ∧ ¬ blkP (.slice x2 ps.length k2) V2 g ∧ g ≠ ob) (hfs : ∀ g, u.ownBlock = some g → ¬ sb g) (hrow : V'.ownsRow n₀ 133 2 (.slice x3 (es.length + 1) k3) (es.length + 1) (edC es V1 ++ [.int .i64 p, u])) (hg : V.grownBy V' (Value.slice x1 es.length k1).ownBlock) (hv : (Value.slice x3 (es.length + 1) k3).ownBlock = (Value.slice x1 es.length k1).ownBlock ∨ (Value.slice x3 (es.length + 1) k3).ownBlock = some V.heap.size) : HpX sb B n₀ X ob (es ++ [(p, zs)]) ps x3 k3 (V1 ++ [u]) x2 k2 V2 (V'.setCell ⟨ob, 1, none⟩ (.slice x3 (es.length + 1) k3)) := by
  have hl : (es ++ [(p, zs)]).length = es.length + 1 := by simp
  refine ⟨h.toHpS.edit hu hfr hrow hg hv, fun g hS hh => ?_, h.m2, h.m3, fun g hS => ?_, fun g hS => ?_⟩
  · rw [hl] at hh
    rcases blk_append hh hv with h1 | h1 | h1
    · exact h.m1 g hS h1
    · have := h.ls g hS; omega
    · exact hfs g h1 hS
  · rw [Below.heap_setCell _ _ _ _ (fun e => h.m3 g hS (by simpa using e))]
    exact (hg.block g (h.ls g hS) (fun e => h.m1 g hS (.inl e.symm))).trans (h.b g hS)
  · rw [World.size_setCell]; exact Nat.lt_of_lt_of_le (h.ls g hS) hg.size
end
theorem HpX.setPage {sb : Nat → Prop} {B : Nat → Option Obj} {n₀ : Nat} {X : World} {ob : Nat} {es : List (Int × List Int)} {ps : List (List Int)} {x1 : Option Addr} {k1 : Nat} {V1 : List Value} {gp k2 : Nat} {V2 : List Value} {V : World} (h : HpX sb B n₀ X ob es ps x1 k1 V1 (some ⟨gp, 0, none⟩) k2 V2 V) {u : Value} {zs : List Int} {i : Nat} (hi : i < ps.length) (hu : Gb n₀ V u zs) (hfr : ∀ g, u.ownBlock = some g → ¬ blkP (.slice x1 es.length k1) V1 g ∧ ¬ blkP (.slice (some ⟨gp, 0, none⟩) ps.length k2) V2 g ∧ g ≠ ob) (hfs : ∀ g, u.ownBlock = some g → ¬ sb g) : HpX sb B n₀ X ob es (ps.set i zs) x1 k1 V1 (some ⟨gp, 0, none⟩) k2 (V2.set i u) (V.setCell ⟨gp, i, none⟩ u) := by
  have hl : (ps.set i zs).length = ps.length := List.length_set
  refine ⟨h.toHpS.setPage hi hu hfr, h.m1, fun g hS hh => ?_, h.m3, fun g hS => ?_, fun g hS => by rw [World.size_setCell]; exact h.ls g hS⟩
  · rw [hl] at hh
    rcases hh with h1 | ⟨y, hy, h1⟩
    · exact h.m2 g hS (.inl h1)
    · rcases List.mem_or_eq_of_mem_set hy with h2 | rfl
      · exact h.m2 g hS (.inr ⟨y, h2, h1⟩)
      · exact hfs g h1 hS
  · rw [Below.heap_setCell _ _ _ _ (fun e => h.m2 g hS (.inl (by have : g = gp := by simpa using e
                                                                 rw [this]; rfl)))]
    exact h.b g hS
section
variable {sb : Nat → Prop} {B : Nat → Option Obj} {n₀ : Nat} {X : World} {ob : Nat} {es : List (Int × List Int)} {ps : List (List Int)} {x1 : Option Addr} {k1 : Nat} {V1 : List Value} {x2 : Option Addr} {k2 : Nat} {V2 : List Value} {V W : World}
/-- What stands there of the bytes in a block of sb. -/
theorem HpX.rd (h : HpX sb B n₀ X ob es ps x1 k1 V1 x2 k2 V2 V) {cb so : Nat} {cs : List Int} (hc : sb cb) (hW : W.heap[cb]? = B cb) (hr : Reads W (some ⟨cb, so, none⟩) cs) : Reads V (some ⟨cb, so, none⟩) cs := by
  rcases hr with h0 | ⟨b, o, e, hc'⟩
  · exact .inl h0
  · cases e
    exact .inr ⟨_, _, rfl, fun k hk => (World.cell?_of_block (a := ⟨cb, so + k, none⟩) ((h.b cb hc).trans hW.symm)).trans (hc' k hk)⟩
/-- The same, told by the world as it is. -/
theorem HpX.now (h : HpX sb B n₀ X ob es ps x1 k1 V1 x2 k2 V2 V) : HpX sb (fun g => V.heap[g]?) n₀ X ob es ps x1 k1 V1 x2 k2 V2 V := ⟨h.toHpS, h.m1, h.m2, h.m3, fun _ _ => rfl, h.ls⟩
/-- A block of sb is written. -/
theorem HpX.put (h : HpX sb B n₀ X ob es ps x1 k1 V1 x2 k2 V2 V) {g o : Nat} (hg : sb g) (hn : n₀ ≤ g) (u : Value) : HpX sb (fun q => (V.setCell ⟨g, o, none⟩ u).heap[q]?) n₀ X ob es ps x1 k1 V1 x2 k2 V2 (V.setCell ⟨g, o, none⟩ u) := by
  have g2 := grownOut V g o u
  refine ⟨⟨⟨h.a.e.kept g2 (fun q hh e => by cases e; exact h.m1 _ hg hh), h.a.p.kept g2 (fun q hh e => by cases e; exact h.m2 _ hg hh), h.a.s1, h.a.s2, h.a.d⟩, h.o.grown g2 (fun e => by cases e; exact h.m3 _ hg rfl), h.n1, h.n2, h.g.grown g2 h.sz (fun q e => by cases e; exact hn), h.l⟩, h.m1, h.m2, h.m3, fun _ _ => rfl, fun q hq => by rw [World.size_setCell]; exact h.ls q hq⟩
end

end Go.Proofs.YtnfolgoloaeanaaGreat

