/-
  Pages marked: markByteSS; the results of RowsIn compared, marked, looked through.
-/
import Derived.Test.YtmnnkgcknkhgdaaMks
namespace Go.Proofs.Ytmnnkgcknkhgdaa
open Go.RowKit
set_option linter.unusedVariables false

theorem Turned.widen {lo hi lo' hi' : Nat} {w w' : World} (h : Turned lo hi w w') (h1 : lo' ≤ lo) (h2 : hi ≤ hi') : Turned lo' hi' w w' := ⟨h.os, h.tape, h.output, h.size, fun k hk hn => h.block k hk (by omega)⟩

/-- Block b holds an answer of RowsIn. -/
structure RsC (w : World) (b : Nat) (q : Int) (a : Option Addr) (n c : Nat) : Prop where
  c0 : w.cell? ⟨b, 0, none⟩ = some (.int .i64 q)
  c1 : w.cell? ⟨b, 1, none⟩ = some (.slice a n c)
theorem RsC.lt {w : World} {b : Nat} {q : Int} {a : Option Addr} {n c : Nat} (h : RsC w b q a n c) : b < w.heap.size := World.block_lt_of_cell? w _ h.c0
theorem RsC.turned {w w' : World} {b : Nat} {q : Int} {a : Option Addr} {n c lo hi : Nat} (h : RsC w b q a n c) (ht : Turned lo hi w w') (hn : b < lo ∨ hi ≤ b) : RsC w' b q a n c := ⟨ht.cell h.c0 hn, ht.cell h.c1 hn⟩
theorem RsC.below {w w' : World} {b : Nat} {q : Int} {a : Option Addr} {n c : Nat} (h : RsC w b q a n c) (hb : Below w.heap.size w w') : RsC w' b q a n c := h.turned (Turned.ofBelow (lo := 0) (hi := 0) hb) (.inr (Nat.zero_le _))

set_option maxHeartbeats 1000000 in
theorem eqRowsResult_same (q : Int) (a a' : Option Addr) (rs : List Rw) (n c d : Nat) (w : World) (hn : rs.length = n) (hm : n ≤ 1000) (hx : Rs rwE 4 w a rs) (hy : Rs rwE 4 w a' rs) :
    Calls Try.prog 8 #[.agg #[.int .i64 q, .slice a n c], .agg #[.int .i64 q, .slice a' n d]] w fun e w' => e = .returned (.bool true) ∧ Below w.heap.size w w' := by
  have gX : Below w.heap.size w ((w.alloc (.cells #[.int .i64 q, .slice a n c] 26)).alloc (.cells #[.int .i64 q, .slice a' n d] 26)) := by go_grown
  have hcon := eqRowS_same a a' rs n c d _ hn (by omega) (hx.below gX (Nat.le_refl _)) (hy.below gX (Nat.le_refl _))
  clear hx hy hn
  go_enter Try.func8, Try.ntmps8
  go_wp2_with (go_at_call 9; refine hcon.mono ?_; rintro e w' ⟨rfl, g⟩)
  go_ret
  exact ⟨rfl, gX.trans (g.mono gX.size)⟩

set_option maxHeartbeats 1000000 in
theorem markRowsResult_any (q : Int) (a : Option Addr) (lo hi : Nat) (rs : List Rw) (n c : Nat) (w : World) (hn : rs.length = n) (hm : n ≤ 1000) (ha : SlIn rwE 4 lo hi w a rs) :
    Calls Try.prog 11 #[.agg #[.int .i64 q, .slice a n c], .int .i64 1] w fun e w' => e = .returned (.int .i64 ((1 + 4 * n : Nat) : Int)) ∧ Turned lo hi w w' ∧ SlIn rwE 4 lo hi w' a ((List.range n).map (mkR 1)) := by
  have gX : Below w.heap.size w (w.alloc (.cells #[.int .i64 q, .slice a n c] 26)) := by go_grown
  have hcon := markRowS_any a lo hi rs n c 1 _ hn hm (by omega) (by omega) (ha.below gX)
  have tX : Turned lo hi w (w.alloc (.cells #[.int .i64 q, .slice a n c] 26)) := Turned.ofBelow gX
  clear ha hn gX
  obtain ⟨r, hr⟩ : ∃ r : Int, r = ((1 + 4 * n : Nat) : Int) := ⟨_, rfl⟩
  rw [← hr] at hcon ⊢
  clear hr
  go_enter Try.func11, Try.ntmps11
  go_wp2_with (go_at_call 10; refine hcon.mono ?_; rintro e w' ⟨rfl, t, h⟩)
  go_ret
  exact ⟨rfl, tX.trans t, h⟩

set_option maxHeartbeats 1000000 in
theorem heldRowsResult_any (q : Int) (a : Option Addr) (n c : Nat) (w : World) (hm : n ≤ 1000) (ha : Rs rwE 4 w a ((List.range n).map (mkR 1))) :
    Calls Try.prog 12 #[.agg #[.int .i64 q, .slice a n c], .int .i64 1] w fun e w' => e = .returned (.int .i64 ((1 + 4 * n : Nat) : Int)) ∧ Below w.heap.size w w' := by
  have gX : Below w.heap.size w (w.alloc (.cells #[.int .i64 q, .slice a n c] 26)) := by go_grown
  have hcon := heldRowS_any a n c 1 _ hm (by omega) (by omega) (ha.below gX (Nat.le_refl _))
  clear ha
  obtain ⟨r, hr⟩ : ∃ r : Int, r = ((1 + 4 * n : Nat) : Int) := ⟨_, rfl⟩
  have hr0 : ¬ r < 0 := by omega
  rw [← hr] at hcon ⊢
  clear hr
  go_enter Try.func12, Try.ntmps12
  go_wp2_with (go_at_call 22; refine hcon.mono ?_; rintro e w' ⟨rfl, g⟩)
  go_ret
  exact ⟨rfl, gX.trans (g.mono gX.size)⟩

end Go.Proofs.Ytmnnkgcknkhgdaa

