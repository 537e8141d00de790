/-
  cmp.Or of codes; answers of ChangesOf compared, marked, looked through; isNoChange.
-/
import Derived.Test.YtddemhgimacchaaHdc
namespace Go.Proofs.Ytddemhgimacchaa
open Go.RowKit
set_option linter.unusedVariables false

def orI (x y : Int) : Int := if x = 0 then y else x
set_option maxHeartbeats 400000 in
theorem or64_any (b : Nat) (x y : Int) (w : World) (h0 : w.cell? ⟨b, 0, none⟩ = some (.int .i64 x)) (h1 : w.cell? ⟨b, 1, none⟩ = some (.int .i64 y)) :
    Calls Try.prog 57 #[.slice (some ⟨b, 0, none⟩) 2 2] w fun e w' => e = .returned (.int .i64 (orI x y)) ∧ w' = w := by
  by_cases hx : x = 0
  · subst hx
    by_cases hy : y = 0
    · subst hy
      have e : orI 0 0 = 0 := rfl
      rw [e]
      clear e
      go_enter Try.func57, Try.ntmps57
      go_wp2_with fail
      refine wp_loop_rounds 3 ?_
      rw [rounds_succ]
      go_wp2_with fail
      rw [rounds_succ]
      go_wp2_with fail
      rw [rounds_succ]
      go_wp2_with fail
      go_ret
      exact ⟨rfl, rfl⟩
    · have e : orI 0 y = y := rfl
      rw [e]
      clear e
      go_enter Try.func57, Try.ntmps57
      go_wp2_with fail
      refine wp_loop_rounds 3 ?_
      rw [rounds_succ]
      go_wp2_with fail
      rw [rounds_succ]
      go_wp2_with fail
      go_ret
      exact ⟨rfl, rfl⟩
  · have e : orI x y = x := by unfold orI; simp [hx]
    rw [e]
    clear e
    go_enter Try.func57, Try.ntmps57
    go_wp2_with fail
    refine wp_loop_rounds 3 ?_
    rw [rounds_succ]
    go_wp2_with fail
    go_ret
    exact ⟨rfl, rfl⟩

set_option maxHeartbeats 1000000 in
theorem eqChangesResult_same (q : Int) (a a' : Option Addr) (rs : List Chg) (n c d : Nat) (w : World) (hn : rs.length = n) (hm : n ≤ 1000) (hx : Rs chE 10 w a rs) (hy : Rs chE 10 w a' rs) :
    Calls Try.prog 48 #[.agg #[.int .i64 q, .slice a n c], .agg #[.int .i64 q, .slice a' n d]] w fun e w' => e = .returned (.bool true) ∧ Below w.heap.size w w' := by
  have gX : Below w.heap.size w ((w.alloc (.cells #[.int .i64 q, .slice a n c] 29)).alloc (.cells #[.int .i64 q, .slice a' n d] 29)) := by go_grown
  have hcon := eqChangeS_same a a' rs n c d _ hn (by omega) (hx.below gX (Nat.le_refl _)) (hy.below gX (Nat.le_refl _))
  clear hx hy hn
  go_enter Try.func48, Try.ntmps48
  go_wp2_with (go_at_call 49; refine hcon.mono ?_; rintro e w' ⟨rfl, g⟩)
  go_ret
  exact ⟨rfl, gX.trans (g.mono gX.size)⟩

set_option maxHeartbeats 1000000 in
theorem markChangesResult_any (q : Int) (a : Option Addr) (lo hi : Nat) (rs : List Chg) (n c : Nat) (w : World) (hn : rs.length = n) (hm : n ≤ 1000) (ha : SlIn chE 10 lo hi w a rs) :
    Calls Try.prog 51 #[.agg #[.int .i64 q, .slice a n c], .int .i64 1] w fun e w' => e = .returned (.int .i64 ((1 + 10 * n : Nat) : Int)) ∧ Turned lo hi w w' ∧ SlIn chE 10 lo hi w' a ((List.range n).map (mkC 1)) := by
  have gX : Below w.heap.size w (w.alloc (.cells #[.int .i64 q, .slice a n c] 29)) := by go_grown
  have hcon := markChangeS_any a lo hi rs n c 1 _ hn hm (by omega) (by omega) (ha.below gX)
  have tX : Turned lo hi w (w.alloc (.cells #[.int .i64 q, .slice a n c] 29)) := Turned.ofBelow gX
  clear ha hn gX
  obtain ⟨r, hr⟩ : ∃ r : Int, r = ((1 + 10 * n : Nat) : Int) := ⟨_, rfl⟩
  rw [← hr] at hcon ⊢
  clear hr
  go_enter Try.func51, Try.ntmps51
  go_wp2_with (go_at_call 50; refine hcon.mono ?_; rintro e w' ⟨rfl, t, h⟩)
  go_ret
  exact ⟨rfl, tX.trans t, h⟩

set_option maxHeartbeats 1000000 in
theorem heldChangesResult_any (q : Int) (a : Option Addr) (n c : Nat) (w : World) (hm : n ≤ 1000) (ha : Rs chE 10 w a ((List.range n).map (mkC 1))) :
    Calls Try.prog 52 #[.agg #[.int .i64 q, .slice a n c], .int .i64 1] w fun e w' => e = .returned (.int .i64 ((1 + 10 * n : Nat) : Int)) ∧ Below w.heap.size w w' := by
  have gX : Below w.heap.size w (w.alloc (.cells #[.int .i64 q, .slice a n c] 29)) := by go_grown
  have hcon := heldChangeS_any a n c 1 _ hm (by omega) (by omega) (ha.below gX (Nat.le_refl _))
  clear ha
  obtain ⟨r, hr⟩ : ∃ r : Int, r = ((1 + 10 * n : Nat) : Int) := ⟨_, rfl⟩
  have hr0 : ¬ r < 0 := by omega
  rw [← hr] at hcon ⊢
  clear hr
  go_enter Try.func52, Try.ntmps52
  go_wp2_with (go_at_call 113; refine hcon.mono ?_; rintro e w' ⟨rfl, g⟩)
  go_ret
  exact ⟨rfl, gX.trans (g.mono gX.size)⟩


/-- Whether a change is none. -/
def noC (x : Chg) : Prop := x.was = true ∧ x.is = true ∧ x.b = x.a

end Go.Proofs.Ytddemhgimacchaa

