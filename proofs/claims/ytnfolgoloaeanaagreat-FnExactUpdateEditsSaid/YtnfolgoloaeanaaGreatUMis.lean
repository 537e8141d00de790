/-
  The model's l7Insert and InsertEdits.
-/
import Derived.Test.YtnfolgoloaeanaaGreatUDeb
import Derived.Test.YtnfolgoloaeanaaGreatUBy
import Derived.LoopN
import Derived.Test.YtnfolgoloaeanaaGreatUIpl

namespace Go.Proofs.YtnfolgoloaeanaaGreat
open Go.RowKit
set_option linter.unusedVariables false
set_option maxRecDepth 20000


theorem RowC.at0 {w : World} {b : Nat} {t k v : Int} {s : ByteArray} (h : RowC w b 0 ⟨t, k, v, s⟩) : RowAt w b t k v s := ⟨h.c0, h.c1, h.c2, h.c3⟩
theorem AePost.of {q q' : Int} {es es' : List (Int × List Int)} {qs qs' : List (List Int)} {v1 v2 : Value} {V1 V2 : List Value} {w w' : World} (hq : q = q') (h1 : es = es') (h2 : qs = qs') (hg : Below w.heap.size w w') (hA : Ans w.heap.size w' v1 es' V1 v2 qs' V2) : AePost q es qs w (.returned (.agg #[.int .i64 q', v1, v2])) w' := by
  subst hq h1 h2
  exact ⟨_, _, _, _, rfl, hg, hA⟩
/-- An answer handed on through the result's own cells. -/
theorem Ans.res {n₀ m rb : Nat} {w : World} {v1 v2 : Value} {es : List (Int × List Int)} {qs : List (List Int)} {V1 V2 : List Value} (h : Ans n₀ w v1 es V1 v2 qs V2) (hm : m ≤ n₀) (hr : rb < n₀) (q : Int) : Ans m (((w.setCell ⟨rb, 0, none⟩ (.int .i64 q)).setCell ⟨rb, 1, none⟩ v1).setCell ⟨rb, 2, none⟩ v2) v1 es V1 v2 qs V2 := by
  have h1 : ∀ g, blkP v1 V1 g → some rb ≠ some g := fun g hg e => by have := (h.e.lt hg).1; cases e; omega
  have h2 : ∀ g, blkP v2 V2 g → some rb ≠ some g := fun g hg e => by have := (h.p.lt hg).1; cases e; omega
  exact (((h.base hm).kept (grownOut w rb 0 _) h1 h2).kept (grownOut _ rb 1 _) h1 h2).kept (grownOut _ rb 2 _) h1 h2


def orC (x y : Int) : Int := if x = 0 then y else x
set_option maxHeartbeats 400000 in
theorem or64_any (b : Nat) (x y : Int) (w : World) (h0 : w.cell? ⟨b, 0, none⟩ = some (.int .i64 x)) (h1 : w.cell? ⟨b, 1, none⟩ = some (.int .i64 y)) :
    Calls Tryz.prog 49 #[.slice (some ⟨b, 0, none⟩) 2 2] w fun e w' => e = .returned (.int .i64 (orC x y)) ∧ w' = w := by
  by_cases hx : x = 0
  · subst hx
    by_cases hy : y = 0
    · subst hy
      have e : orC 0 0 = 0 := rfl
      rw [e]
      clear e
      go_enter Tryz.func49, Tryz.ntmps49
      go_wp2_with fail
      refine wp_loop_rounds 3 ?_
      rw [rounds_succ]
      go_wp2_with fail
      rw [rounds_succ]
      go_wp2_with fail
      rw [rounds_succ]
      go_wp2_with fail
      go_ret
      exact ⟨rfl, rfl⟩
    · have e : orC 0 y = y := rfl
      rw [e]
      clear e
      go_enter Tryz.func49, Tryz.ntmps49
      go_wp2_with fail
      refine wp_loop_rounds 3 ?_
      rw [rounds_succ]
      go_wp2_with fail
      rw [rounds_succ]
      go_wp2_with fail
      go_ret
      exact ⟨rfl, rfl⟩
  · have e : orC x y = x := by unfold orC; simp [hx]
    rw [e]
    clear e
    go_enter Tryz.func49, Tryz.ntmps49
    go_wp2_with fail
    refine wp_loop_rounds 3 ?_
    rw [rounds_succ]
    go_wp2_with fail
    go_ret
    exact ⟨rfl, rfl⟩

theorem orC_zero {x y : Int} : orC x y = 0 ↔ x = 0 ∧ y = 0 := by
  unfold orC
  split
  · rename_i h; exact ⟨fun e => ⟨h, e⟩, fun e => e.2⟩
  · rename_i h; exact ⟨fun e => absurd e h, fun e => absurd e.1 h⟩


set_option maxHeartbeats 1000000 in
theorem answer_full (ob : Nat) (w : World) :
    Calls Tryz.prog 55 #[.pointer (some ⟨ob, 0, none⟩), .bool false] w fun e w' => e = .returned (.agg #[.int .i64 9, .slice none 0 0, .slice none 0 0]) ∧ Below w.heap.size w w' := by
  go_enter Tryz.func55, Tryz.ntmps55
  go_wp2
  refine bodyPost_ret (v := .agg #[.int .i64 9, .slice none 0 0, .slice none 0 0]) (by simp [results, Tryz.results55, go_sem]) rfl ?_
  exact ⟨rfl, by go_grown⟩

structure IsS (Y : World) (b : Nat) (t k v : Int) (s : ByteArray) (V : World) : Prop where
  c : RowAt V b t k v s
  g : Below Y.heap.size Y V
theorem IsS.up {Y : World} {b : Nat} {t k v : Int} {s : ByteArray} {V V' : World} (h : IsS Y b t k v s V) (hb : Below V.heap.size V V') : IsS Y b t k v s V' :=
  ⟨rowAt_below hb (World.block_lt_of_cell? V _ h.c.1) h.c, h.g.trans (hb.mono h.g.size)⟩

end Go.Proofs.YtnfolgoloaeanaaGreat

