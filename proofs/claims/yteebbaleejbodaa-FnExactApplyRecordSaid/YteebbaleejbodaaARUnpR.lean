/-
  The contract of the model's l1Read: what it tells of all bytes.
-/
import Derived.Test.YteebbaleejbodaaARUnp

namespace Go.Proofs.Yteebbaleejbodaa
open Go.RowKit

set_option maxHeartbeats 1000000 in
theorem l1Read_stub (b off c : Nat) (y z : Int) (w : World) (h0 : w.cell? ⟨b, off, none⟩ = some (.int .u8 1)) (h1 : w.cell? ⟨b, off + 1, none⟩ = some (.int .u8 y)) (h2 : w.cell? ⟨b, off + 2, none⟩ = some (.int .u8 z)) (y0 : 0 ≤ y) (y1 : y ≤ 255) (z0 : 0 ≤ z) (z1 : z ≤ 255) :
    Calls Try.prog 157 #[.slice (some ⟨b, off, none⟩) 3 c] w fun e w' => e = .returned (.tuple #[.agg #[.int .i64 0, .int .i64 1, .int .i64 y, .int .i64 z, .int .i64 0, .int .i64 0, .int .i64 0, .string ⟨#[]⟩], .bool (stubB y z)]) ∧ Below w.heap.size w w' := by
  have hlt : b < w.heap.size := World.block_lt_of_cell? w _ h0
  go_enter Try.func157, Try.ntmps157
  go_wp2_with fail
  have HS : Hid (∀ W : World, Below w.heap.size w W → W.cell? ⟨b, off + 1, none⟩ = some (.int .u8 y) ∧ W.cell? ⟨b, off + 2, none⟩ = some (.int .u8 z)) := fun W hb =>
    ⟨(hb.cell (p := ⟨b, off + 1, none⟩) hlt).trans h1, (hb.cell (p := ⟨b, off + 2, none⟩) hlt).trans h2⟩
  go_region_held (fun W => W.cell? ⟨b, off + 1, none⟩ = some (.int .u8 y) ∧ W.cell? ⟨b, off + 2, none⟩ = some (.int .u8 z)) (exact HS.out _ (by go_grown)) (fail)
  rw [show IntKind.i64.wrap y = y from by rw [IntKind.wrap_i64]; omega, show IntKind.i64.wrap z = z from by rw [IntKind.wrap_i64]; omega]
  go_wp2_with fail
  go_region_held (fun W => W.cell? ⟨w.heap.size + 1, 0, none⟩ = some (.int .i64 0) ∧ W.cell? ⟨w.heap.size + 1, 1, none⟩ = some (.int .i64 1) ∧ W.cell? ⟨w.heap.size + 1, 2, none⟩ = some (.int .i64 y) ∧ W.cell? ⟨w.heap.size + 1, 3, none⟩ = some (.int .i64 z) ∧ W.cell? ⟨w.heap.size + 1, 4, none⟩ = some (.int .i64 0) ∧ W.cell? ⟨w.heap.size + 1, 5, none⟩ = some (.int .i64 0) ∧ W.cell? ⟨w.heap.size + 1, 6, none⟩ = some (.int .i64 0) ∧ W.cell? ⟨w.heap.size + 1, 7, none⟩ = some (.string ⟨#[]⟩)) (go_keep) (first | (go_at_call 177; refine (l1Place_any _ _ _).mono ?_; rintro e w' ⟨rfl, rfl⟩))
  all_goals
    go_wp2_with fail
    refine bodyPost_ret (v := .tuple #[.agg #[.int .i64 0, .int .i64 1, .int .i64 y, .int .i64 z, .int .i64 0, .int .i64 0, .int .i64 0, .string ⟨#[]⟩], .bool (stubB y z)]) (by simp [results, Try.results157, go_sem]) rfl ?_
    exact ⟨rfl, by go_grown⟩

set_option maxHeartbeats 400000 in
theorem l1Read_short (a : Option Addr) (n c : Nat) (w : World) (h6 : n < 6) (h3 : n ≠ 3) :
    Calls Try.prog 157 #[.slice a n c] w fun e w' => e = .returned (.tuple #[.agg #[.int .i64 0, .int .i64 0, .int .i64 0, .int .i64 0, .int .i64 0, .int .i64 0, .int .i64 0, .string ⟨#[]⟩], .bool false]) ∧ Below w.heap.size w w' := by
  have d3 : ((n : Int) == 3) = false := by simp; omega
  have d6 : (n : Int) < 6 := by omega
  go_enter Try.func157, Try.ntmps157
  go_wp2_with fail
  refine bodyPost_ret (v := .tuple #[.agg #[.int .i64 0, .int .i64 0, .int .i64 0, .int .i64 0, .int .i64 0, .int .i64 0, .int .i64 0, .string ⟨#[]⟩], .bool false]) (by simp [results, Try.results157, go_sem]) rfl ?_
  exact ⟨rfl, by go_grown⟩

set_option maxHeartbeats 400000 in
theorem l1Read_three (b off c : Nat) (x : Int) (w : World) (h0 : w.cell? ⟨b, off, none⟩ = some (.int .u8 x)) (hx : x ≠ 1) :
    Calls Try.prog 157 #[.slice (some ⟨b, off, none⟩) 3 c] w fun e w' => e = .returned (.tuple #[.agg #[.int .i64 0, .int .i64 0, .int .i64 0, .int .i64 0, .int .i64 0, .int .i64 0, .int .i64 0, .string ⟨#[]⟩], .bool false]) ∧ Below w.heap.size w w' := by
  have hlt : b < w.heap.size := World.block_lt_of_cell? w _ h0
  have d3 : (x == 1) = false := by simpa using hx
  clear hx
  go_enter Try.func157, Try.ntmps157
  go_wp2_with fail
  refine bodyPost_ret (v := .tuple #[.agg #[.int .i64 0, .int .i64 0, .int .i64 0, .int .i64 0, .int .i64 0, .int .i64 0, .int .i64 0, .string ⟨#[]⟩], .bool false]) (by simp [results, Try.results157, go_sem]) rfl ?_
  exact ⟨rfl, by go_grown⟩

set_option maxHeartbeats 400000 in
theorem l1Read_flag (b off n c : Nat) (x : Int) (w : World) (h0 : w.cell? ⟨b, off, none⟩ = some (.int .u8 x)) (h6 : 6 ≤ n) (hx : x = 1 ∨ 2 < x) :
    Calls Try.prog 157 #[.slice (some ⟨b, off, none⟩) n c] w fun e w' => e = .returned (.tuple #[.agg #[.int .i64 0, .int .i64 0, .int .i64 0, .int .i64 0, .int .i64 0, .int .i64 0, .int .i64 0, .string ⟨#[]⟩], .bool false]) ∧ Below w.heap.size w w' := by
  have hlt : b < w.heap.size := World.block_lt_of_cell? w _ h0
  have d3 : ((n : Int) == 3) = false := by simp; omega
  have d6 : decide ((n : Int) < 6) = false := by simp; omega
  have e0 : (0 : Int) < (n : Int) := by omega
  rcases hx with rfl | hx
  · go_enter Try.func157, Try.ntmps157
    go_wp2_with fail
    refine bodyPost_ret (v := .tuple #[.agg #[.int .i64 0, .int .i64 0, .int .i64 0, .int .i64 0, .int .i64 0, .int .i64 0, .int .i64 0, .string ⟨#[]⟩], .bool false]) (by simp [results, Try.results157, go_sem]) rfl ?_
    exact ⟨rfl, by go_grown⟩
  · have d1 : (x == 1) = false := by simp; omega
    go_enter Try.func157, Try.ntmps157
    go_wp2_with fail
    refine bodyPost_ret (v := .tuple #[.agg #[.int .i64 0, .int .i64 0, .int .i64 0, .int .i64 0, .int .i64 0, .int .i64 0, .int .i64 0, .string ⟨#[]⟩], .bool false]) (by simp [results, Try.results157, go_sem]) rfl ?_
    exact ⟨rfl, by go_grown⟩

set_option maxHeartbeats 400000 in
theorem l1Read_size (b off n c : Nat) (x z5 : Int) (w : World) (h0 : w.cell? ⟨b, off, none⟩ = some (.int .u8 x)) (h5 : w.cell? ⟨b, off + 5, none⟩ = some (.int .u8 z5)) (h6 : 6 ≤ n) (hx : x = 0 ∨ x = 2) (hz : 0 ≤ z5) (hz' : z5 ≤ 255) (hn : (n : Int) ≠ 6 + z5) :
    Calls Try.prog 157 #[.slice (some ⟨b, off, none⟩) n c] w fun e w' => e = .returned (.tuple #[.agg #[.int .i64 0, .int .i64 0, .int .i64 0, .int .i64 0, .int .i64 0, .int .i64 0, .int .i64 0, .string ⟨#[]⟩], .bool false]) ∧ Below w.heap.size w w' := by
  have hlt : b < w.heap.size := World.block_lt_of_cell? w _ h0
  have d3 : ((n : Int) == 3) = false := by simp; omega
  have d6 : decide ((n : Int) < 6) = false := by simp; omega
  have e0 : (0 : Int) < (n : Int) := by omega
  have e5 : (5 : Int) < (n : Int) := by omega
  have dn : ((n : Int) != 6 + z5) = true := by simpa using hn
  clear hn
  rcases hx with rfl | rfl
  all_goals
    go_enter Try.func157, Try.ntmps157
    go_wp2_with fail
    refine bodyPost_ret (v := .tuple #[.agg #[.int .i64 0, .int .i64 0, .int .i64 0, .int .i64 0, .int .i64 0, .int .i64 0, .int .i64 0, .string ⟨#[]⟩], .bool false]) (by simp [results, Try.results157, go_sem]) rfl ?_
    exact ⟨rfl, by go_grown⟩

set_option maxHeartbeats 2000000 in
theorem l1Read_row (b off n c : Nat) (z0 z1 z2 z3 z4 z5 : Int) (s : ByteArray) (w : World) (h0 : w.cell? ⟨b, off, none⟩ = some (.int .u8 z0)) (h1 : w.cell? ⟨b, off + 1, none⟩ = some (.int .u8 z1)) (h2 : w.cell? ⟨b, off + 2, none⟩ = some (.int .u8 z2))
    (h3 : w.cell? ⟨b, off + 3, none⟩ = some (.int .u8 z3)) (h4 : w.cell? ⟨b, off + 4, none⟩ = some (.int .u8 z4)) (h5 : w.cell? ⟨b, off + 5, none⟩ = some (.int .u8 z5))
    (hx : (z0 == 1) = false ∧ z0 ≤ 2 ∧ 0 ≤ z0) (u1 : 0 ≤ z1 ∧ z1 ≤ 255) (u2 : 0 ≤ z2 ∧ z2 ≤ 255) (u3 : 0 ≤ z3 ∧ z3 ≤ 255) (u4 : 0 ≤ z4 ∧ z4 ≤ 255) (u5 : 0 ≤ z5 ∧ z5 ≤ 255)
    (hn : (n : Int) = 6 + z5) (hc : 6 < c) (hs : s.size ≤ maxLen)
    (hcv : ∀ w' : World, (∀ i, i < n → w'.cell? ⟨b, off + i, none⟩ = w.cell? ⟨b, off + i, none⟩) → (convert 106 9 (.slice (some ⟨b, off + 6, none⟩) (n - 6) (c - 6))).run Try.prog w' = .ok (.string s) w') :
    Calls Try.prog 157 #[.slice (some ⟨b, off, none⟩) n c] w fun e w' => Below w.heap.size w w' ∧ e = .returned (.tuple #[.agg #[.int .i64 0, .int .i64 z0, .int .i64 0, .int .i64 0, .int .i64 z1, .int .i64 z2, .int .i64 (z3 * 256 + z4), .string s], .bool (faultI z1 z2 (z3 * 256 + z4) s == 0)]) := by
  have hlt : b < w.heap.size := World.block_lt_of_cell? w _ h0
  have d3 : ((n : Int) == 3) = false := by simp; omega
  have d1 : decide ((n : Int) < 6) = false := by simp; omega
  have d2 : ((n : Int) != 6 + z5) = false := by simp; omega
  have e5 : (5 : Int) < (n : Int) := by omega
  have e1 : (1 : Int) < (n : Int) := by omega
  have e2 : (2 : Int) < (n : Int) := by omega
  have e3 : (3 : Int) < (n : Int) := by omega
  have e4 : (4 : Int) < (n : Int) := by omega
  have e6 : (6 : Int) ≤ (n : Int) := by omega
  have e0 : (0 : Int) < (n : Int) := by omega
  have ec : ¬ (c = 6) := by omega
  obtain ⟨dx, b0, a0⟩ := hx
  have dx2 : decide (2 < z0) = false := by simp; omega
  obtain ⟨a1, b1⟩ := u1
  obtain ⟨a2, b2⟩ := u2
  obtain ⟨a3, b3⟩ := u3
  obtain ⟨a4, b4⟩ := u4
  obtain ⟨a5, b5⟩ := u5
  clear hn
  have HS : Hid (∀ W : World, Below w.heap.size w W → (W.cell? ⟨b, off + 1, none⟩ = some (.int .u8 z1) ∧ W.cell? ⟨b, off + 2, none⟩ = some (.int .u8 z2) ∧ W.cell? ⟨b, off + 3, none⟩ = some (.int .u8 z3) ∧ W.cell? ⟨b, off + 4, none⟩ = some (.int .u8 z4) ∧ (convert 106 9 (.slice (some ⟨b, off + 6, none⟩) (n - 6) (c - 6))).run Try.prog W = .ok (.string s) W)) := fun W hb =>
    ⟨(hb.cell (p := ⟨b, off + 1, none⟩) hlt).trans h1, (hb.cell (p := ⟨b, off + 2, none⟩) hlt).trans h2, (hb.cell (p := ⟨b, off + 3, none⟩) hlt).trans h3, (hb.cell (p := ⟨b, off + 4, none⟩) hlt).trans h4, hcv W fun i _ => hb.cell (p := ⟨b, off + i, none⟩) hlt⟩
  clear hcv
  go_enter Try.func157, Try.ntmps157
  go_wp2_with fail
  go_region_held (fun W => (W.cell? ⟨b, off + 1, none⟩ = some (.int .u8 z1) ∧ W.cell? ⟨b, off + 2, none⟩ = some (.int .u8 z2) ∧ W.cell? ⟨b, off + 3, none⟩ = some (.int .u8 z3) ∧ W.cell? ⟨b, off + 4, none⟩ = some (.int .u8 z4) ∧ (convert 106 9 (.slice (some ⟨b, off + 6, none⟩) (n - 6) (c - 6))).run Try.prog W = .ok (.string s) W)) (exact HS.out _ (by go_grown)) (fail)
  have q1 : IntKind.i64.wrap z1 = z1 := by rw [IntKind.wrap_i64]; omega
  have q2 : IntKind.i64.wrap z2 = z2 := by rw [IntKind.wrap_i64]; omega
  have q3 : IntKind.i64.wrap z3 = z3 := by rw [IntKind.wrap_i64]; omega
  have q4 : IntKind.i64.wrap z4 = z4 := by rw [IntKind.wrap_i64]; omega
  have q5 : IntKind.i64.wrap (z3 * 256) = z3 * 256 := by rw [IntKind.wrap_i64]; omega
  have q6 : IntKind.i64.wrap (z3 * 256 + z4) = z3 * 256 + z4 := by rw [IntKind.wrap_i64]; omega
  rw [q1, q2, q3, q4, q5, q6]
  clear q1 q2 q3 q4 q5 q6 HS
  go_wp2_with fail
  have hne : ¬ (w.heap.size = b) := by omega
  have hne2 : ¬ (w.heap.size + 1 = b) := by omega
  have HS : Hid (∀ W : World, Below w.heap.size w W → W.cell? ⟨b, off, none⟩ = some (.int .u8 z0)) := fun W hb => (hb.cell (p := ⟨b, off, none⟩) hlt).trans h0
  clear h0 h1 h2 h3 h4 h5
  go_region_held (fun W => W.cell? ⟨b, off, none⟩ = some (.int .u8 z0) ∧ W.cell? ⟨w.heap.size + 1, 0, none⟩ = some (.int .i64 z1) ∧ W.cell? ⟨w.heap.size + 1, 1, none⟩ = some (.int .i64 z2) ∧ W.cell? ⟨w.heap.size + 1, 2, none⟩ = some (.int .i64 (z3 * 256 + z4)) ∧ W.cell? ⟨w.heap.size + 1, 3, none⟩ = some (.string s)) (exact ⟨HS.out _ (by go_grown), by simp [go_sem], by simp [go_sem], by simp [go_sem], by simp [go_sem]⟩) (first | (go_at_call 99; refine (l1Fault_any _ z1 z2 (z3 * 256 + z4) s _ ?_ hs).mono ?_; exact ⟨by simp [go_sem], by simp [go_sem], by simp [go_sem], by simp [go_sem]⟩; rintro e w' ⟨rfl, rfl⟩))
  all_goals
    rw [show IntKind.i64.wrap z0 = z0 from by rw [IntKind.wrap_i64]; omega]
    go_wp2_with fail
    refine bodyPost_ret (v := .tuple #[.agg #[.int .i64 0, .int .i64 z0, .int .i64 0, .int .i64 0, .int .i64 z1, .int .i64 z2, .int .i64 (z3 * 256 + z4), .string s], .bool (faultI z1 z2 (z3 * 256 + z4) s == 0)]) (by simp [results, Try.results157, go_sem]) rfl ?_
    exact ⟨by go_grown, rfl⟩

set_option maxHeartbeats 2000000 in
theorem l1Read_six (b off : Nat) (z0 z1 z2 z3 z4 : Int) (s : ByteArray) (w : World) (h0 : w.cell? ⟨b, off, none⟩ = some (.int .u8 z0)) (h1 : w.cell? ⟨b, off + 1, none⟩ = some (.int .u8 z1)) (h2 : w.cell? ⟨b, off + 2, none⟩ = some (.int .u8 z2))
    (h3 : w.cell? ⟨b, off + 3, none⟩ = some (.int .u8 z3)) (h4 : w.cell? ⟨b, off + 4, none⟩ = some (.int .u8 z4)) (h5 : w.cell? ⟨b, off + 5, none⟩ = some (.int .u8 0))
    (hx : (z0 == 1) = false ∧ z0 ≤ 2 ∧ 0 ≤ z0) (u1 : 0 ≤ z1 ∧ z1 ≤ 255) (u2 : 0 ≤ z2 ∧ z2 ≤ 255) (u3 : 0 ≤ z3 ∧ z3 ≤ 255) (u4 : 0 ≤ z4 ∧ z4 ≤ 255)
    (hs : s.size ≤ maxLen)
    (hcv : ∀ w' : World, (∀ i, i < 6 → w'.cell? ⟨b, off + i, none⟩ = w.cell? ⟨b, off + i, none⟩) → (convert 106 9 (.slice (some ⟨b, off, none⟩) 0 0)).run Try.prog w' = .ok (.string s) w') :
    Calls Try.prog 157 #[.slice (some ⟨b, off, none⟩) 6 6] w fun e w' => Below w.heap.size w w' ∧ e = .returned (.tuple #[.agg #[.int .i64 0, .int .i64 z0, .int .i64 0, .int .i64 0, .int .i64 z1, .int .i64 z2, .int .i64 (z3 * 256 + z4), .string s], .bool (faultI z1 z2 (z3 * 256 + z4) s == 0)]) := by
  have hlt : b < w.heap.size := World.block_lt_of_cell? w _ h0
  obtain ⟨dx, b0, a0⟩ := hx
  have dx2 : decide (2 < z0) = false := by simp; omega
  obtain ⟨a1, b1⟩ := u1
  obtain ⟨a2, b2⟩ := u2
  obtain ⟨a3, b3⟩ := u3
  obtain ⟨a4, b4⟩ := u4
  have HS : Hid (∀ W : World, Below w.heap.size w W → (W.cell? ⟨b, off + 1, none⟩ = some (.int .u8 z1) ∧ W.cell? ⟨b, off + 2, none⟩ = some (.int .u8 z2) ∧ W.cell? ⟨b, off + 3, none⟩ = some (.int .u8 z3) ∧ W.cell? ⟨b, off + 4, none⟩ = some (.int .u8 z4) ∧ (convert 106 9 (.slice (some ⟨b, off, none⟩) 0 0)).run Try.prog W = .ok (.string s) W)) := fun W hb =>
    ⟨(hb.cell (p := ⟨b, off + 1, none⟩) hlt).trans h1, (hb.cell (p := ⟨b, off + 2, none⟩) hlt).trans h2, (hb.cell (p := ⟨b, off + 3, none⟩) hlt).trans h3, (hb.cell (p := ⟨b, off + 4, none⟩) hlt).trans h4, hcv W fun i _ => hb.cell (p := ⟨b, off + i, none⟩) hlt⟩
  clear hcv
  go_enter Try.func157, Try.ntmps157
  go_wp2_with fail
  go_region_held (fun W => (W.cell? ⟨b, off + 1, none⟩ = some (.int .u8 z1) ∧ W.cell? ⟨b, off + 2, none⟩ = some (.int .u8 z2) ∧ W.cell? ⟨b, off + 3, none⟩ = some (.int .u8 z3) ∧ W.cell? ⟨b, off + 4, none⟩ = some (.int .u8 z4) ∧ (convert 106 9 (.slice (some ⟨b, off, none⟩) 0 0)).run Try.prog W = .ok (.string s) W)) (exact HS.out _ (by go_grown)) (fail)
  have q1 : IntKind.i64.wrap z1 = z1 := by rw [IntKind.wrap_i64]; omega
  have q2 : IntKind.i64.wrap z2 = z2 := by rw [IntKind.wrap_i64]; omega
  have q3 : IntKind.i64.wrap z3 = z3 := by rw [IntKind.wrap_i64]; omega
  have q4 : IntKind.i64.wrap z4 = z4 := by rw [IntKind.wrap_i64]; omega
  have q5 : IntKind.i64.wrap (z3 * 256) = z3 * 256 := by rw [IntKind.wrap_i64]; omega
  have q6 : IntKind.i64.wrap (z3 * 256 + z4) = z3 * 256 + z4 := by rw [IntKind.wrap_i64]; omega
  rw [q1, q2, q3, q4, q5, q6]
  clear q1 q2 q3 q4 q5 q6 HS
  go_wp2_with fail
  have hne : ¬ (w.heap.size = b) := by omega
  have hne2 : ¬ (w.heap.size + 1 = b) := by omega
  have HS : Hid (∀ W : World, Below w.heap.size w W → W.cell? ⟨b, off, none⟩ = some (.int .u8 z0)) := fun W hb => (hb.cell (p := ⟨b, off, none⟩) hlt).trans h0
  clear h0 h1 h2 h3 h4 h5
  go_region_held (fun W => W.cell? ⟨b, off, none⟩ = some (.int .u8 z0) ∧ W.cell? ⟨w.heap.size + 1, 0, none⟩ = some (.int .i64 z1) ∧ W.cell? ⟨w.heap.size + 1, 1, none⟩ = some (.int .i64 z2) ∧ W.cell? ⟨w.heap.size + 1, 2, none⟩ = some (.int .i64 (z3 * 256 + z4)) ∧ W.cell? ⟨w.heap.size + 1, 3, none⟩ = some (.string s)) (exact ⟨HS.out _ (by go_grown), by simp [go_sem], by simp [go_sem], by simp [go_sem], by simp [go_sem]⟩) (first | (go_at_call 99; refine (l1Fault_any _ z1 z2 (z3 * 256 + z4) s _ ?_ hs).mono ?_; exact ⟨by simp [go_sem], by simp [go_sem], by simp [go_sem], by simp [go_sem]⟩; rintro e w' ⟨rfl, rfl⟩))
  all_goals
    rw [show IntKind.i64.wrap z0 = z0 from by rw [IntKind.wrap_i64]; omega]
    go_wp2_with fail
    refine bodyPost_ret (v := .tuple #[.agg #[.int .i64 0, .int .i64 z0, .int .i64 0, .int .i64 0, .int .i64 z1, .int .i64 z2, .int .i64 (z3 * 256 + z4), .string s], .bool (faultI z1 z2 (z3 * 256 + z4) s == 0)]) (by simp [results, Try.results157, go_sem]) rfl ?_
    exact ⟨by go_grown, rfl⟩

end Go.Proofs.Yteebbaleejbodaa

/-
  The contract of UnpackCell: what it tells of all bytes, as a function of the bytes.
-/
namespace Go.Proofs.Yteebbaleejbodaa
open Go.RowKit

/-- What UnpackCell tells. -/
structure Cel where
  q : Int
  f : Int
  p : Int
  l : Int
  t : Int
  k : Int
  v : Int
  s : ByteArray

def celV (r : Cel) : Value := .agg #[.int .i64 r.q, .int .i64 r.f, .int .i64 r.p, .int .i64 r.l, .int .i64 r.t, .int .i64 r.k, .int .i64 r.v, .string r.s]
def errC : Cel := ⟨5, 0, 0, 0, 0, 0, 0, ⟨#[]⟩⟩
def textC (zs : List Int) : ByteArray := strOfNums (zs.drop 6)
def stubC (zs : List Int) : Cel := if zs.length = 3 ∧ stubB (zs.getD 1 0) (zs.getD 2 0) = true then ⟨0, 1, zs.getD 1 0, zs.getD 2 0, 0, 0, 0, ⟨#[]⟩⟩ else errC
def rowC (zs : List Int) : Cel :=
  if 6 ≤ zs.length ∧ (zs.length : Int) = 6 + zs.getD 5 0 ∧ faultI (zs.getD 1 0) (zs.getD 2 0) (zs.getD 3 0 * 256 + zs.getD 4 0) (textC zs) = 0
  then ⟨0, zs.getD 0 0, 0, 0, zs.getD 1 0, zs.getD 2 0, zs.getD 3 0 * 256 + zs.getD 4 0, textC zs⟩ else errC
def unp (zs : List Int) : Cel := if zs = [] then errC else if zs.getD 0 0 = 1 then stubC zs else if zs.getD 0 0 = 0 ∨ zs.getD 0 0 = 2 then rowC zs else errC

theorem celV_form (r : Cel) : ∃ q f p l t k v s, r = Cel.mk q f p l t k v s := ⟨_, _, _, _, _, _, _, _, rfl⟩

theorem getD_range {zs : List Int} (hz : ∀ z ∈ zs, 0 ≤ z ∧ z ≤ 255) (i : Nat) : 0 ≤ zs.getD i 0 ∧ zs.getD i 0 ≤ 255 := by
  by_cases h : i < zs.length
  · have : zs.getD i 0 = zs[i] := by simp [List.getD, h]
    rw [this]; exact hz _ (List.getElem_mem h)
  · have : zs.getD i 0 = 0 := by simp [List.getD, List.getElem?_eq_none (Nat.le_of_not_lt h)]
    rw [this]; omega

theorem getD_drop6 (zs : List Int) (i : Nat) : (zs.drop 6).getD i 0 = zs.getD (6 + i) 0 := by simp [List.getD, List.getElem?_drop]

theorem textC_size (zs : List Int) : (textC zs).size = zs.length - 6 := by rw [textC, strOfNums_size, List.length_drop]

theorem unpackStub_any (a : Option Addr) (zs : List Int) (n c : Nat) (w : World) (hn : zs.length = n) (ha : Reads w a zs) (hz : ∀ z ∈ zs, 0 ≤ z ∧ z ≤ 255) :
    Calls Try.prog 205 #[.slice a n c] w fun e w' => e = .returned (celV (stubC zs)) ∧ Below w.heap.size w w' := by
  by_cases h3 : n = 3
  · subst h3
    rcases ha with ha | ⟨b, off, rfl, hc⟩
    · rw [ha] at hn; simp at hn
    have r1 := getD_range hz 1
    have r2 := getD_range hz 2
    by_cases hy : zs.getD 1 0 < 12
    · by_cases hw : zs.getD 2 0 < 16
      · have e : stubC zs = ⟨0, 1, zs.getD 1 0, zs.getD 2 0, 0, 0, 0, ⟨#[]⟩⟩ := by rw [stubC, if_pos ⟨hn, by simp [stubB, inW]; simp at r1 r2 hy hw; omega⟩]
        rw [e]
        exact unpackStub_ok b off c _ _ w (hc 1 (by omega)) (hc 2 (by omega)) r1.1 hy r2.1 hw
      · have e : stubC zs = errC := by rw [stubC, if_neg (fun h => by have := h.2; simp [stubB, inW] at this; simp at hw; omega)]
        rw [e]
        exact unpackStub_slot b off c _ _ w (hc 1 (by omega)) (hc 2 (by omega)) hy (by omega)
    · have e : stubC zs = errC := by rw [stubC, if_neg (fun h => by have := h.2; simp [stubB, inW] at this; simp at hy; omega)]
      rw [e]
      exact unpackStub_page b off c _ w (hc 1 (by omega)) (by omega)
  · have e : stubC zs = errC := by rw [stubC, if_neg (fun h => by omega)]
    rw [e]
    exact unpackStub_len a n c w h3

theorem unpackRow_any (a : Option Addr) (zs : List Int) (n c : Nat) (w : World) (hn : zs.length = n) (hnc : n ≤ c) (ha : Reads w a zs) (hz : ∀ z ∈ zs, 0 ≤ z ∧ z ≤ 255) :
    Calls Try.prog 206 #[.slice a n c] w fun e w' => e = .returned (celV (rowC zs)) ∧ Below w.heap.size w w' := by
  by_cases h6 : n < 6
  · have e : rowC zs = errC := by rw [rowC, if_neg (fun h => by omega)]
    rw [e]
    exact unpackRow_len a n c w h6
  · rcases ha with ha | ⟨b, off, rfl, hc⟩
    · rw [ha] at hn; simp at hn; omega
    have r0 := getD_range hz 0
    have r1 := getD_range hz 1
    have r2 := getD_range hz 2
    have r3 := getD_range hz 3
    have r4 := getD_range hz 4
    have r5 := getD_range hz 5
    have h0 := hc 0 (by omega)
    rw [Nat.add_zero] at h0
    by_cases hl : (n : Int) = 6 + zs.getD 5 0
    · have hsz : (textC zs).size ≤ maxLen := by rw [textC_size]; unfold maxLen; omega
      have key : (if faultI (zs.getD 1 0) (zs.getD 2 0) (zs.getD 3 0 * 256 + zs.getD 4 0) (textC zs) = 0 then .agg #[.int .i64 0, .int .i64 (zs.getD 0 0), .int .i64 0, .int .i64 0, .int .i64 (zs.getD 1 0), .int .i64 (zs.getD 2 0), .int .i64 (zs.getD 3 0 * 256 + zs.getD 4 0), .string (textC zs)] else .agg #[.int .i64 5, .int .i64 0, .int .i64 0, .int .i64 0, .int .i64 0, .int .i64 0, .int .i64 0, .string ⟨#[]⟩]) = celV (rowC zs) := by
        rw [rowC]
        by_cases hq : faultI (zs.getD 1 0) (zs.getD 2 0) (zs.getD 3 0 * 256 + zs.getD 4 0) (textC zs) = 0
        · rw [if_pos hq, if_pos ⟨by omega, by omega, hq⟩]; rfl
        · rw [if_neg hq, if_neg (fun h => hq h.2.2)]; rfl
      by_cases h7 : 6 < c
      · refine (unpackRow_row b off n c _ _ _ _ _ _ (textC zs) w h0 (hc 1 (by omega)) (hc 2 (by omega)) (hc 3 (by omega)) (hc 4 (by omega)) (hc 5 (by omega)) r0 r1 r2 r3 r4 r5 hl h7 hsz ?_).mono ?_
        · intro w' hw
          exact run_convert_bytes_arg w' 106 5 Try.underlying106 Try.underlying5 b (off + 6) (n - 6) (c - 6) (zs.drop 6) (by rw [List.length_drop]; omega) (fun i hi => by rw [show off + 6 + i = off + (6 + i) from by omega, hw (6 + i) (by omega), hc (6 + i) (by omega), getD_drop6]) 9 Try.underlying9
        · rintro e w' ⟨hb, rfl⟩
          exact ⟨by rw [key], hb⟩
      · have e6 : n = 6 := by omega
        have ec : c = 6 := by omega
        subst e6 ec
        have h5 := hc 5 (by omega)
        have z5 : zs.getD 5 0 = 0 := by omega
        rw [z5] at h5
        have htx : textC zs = ByteArray.empty := by rw [textC, List.drop_eq_nil_of_le (by omega)]; rfl
        refine (unpackRow_six b off _ _ _ _ _ (textC zs) w h0 (hc 1 (by omega)) (hc 2 (by omega)) (hc 3 (by omega)) (hc 4 (by omega)) h5 r0 r1 r2 r3 r4 hsz ?_).mono ?_
        · intro w' _
          have h := run_convert_bytes_arg w' 106 5 Try.underlying106 Try.underlying5 b off 0 0 [] rfl (fun i hi => absurd hi (Nat.not_lt_zero _)) 9 Try.underlying9
          rw [htx]
          exact h
        · rintro e w' ⟨hb, rfl⟩
          exact ⟨by rw [key], hb⟩
    · have e : rowC zs = errC := by rw [rowC, if_neg (fun h => hl (by omega))]
      rw [e]
      exact unpackRow_size b off n c _ w (hc 5 (by omega)) r5.1 r5.2 (by omega) hl

set_option maxHeartbeats 400000 in
theorem implUnpackCell_none (a : Option Addr) (c : Nat) (w : World) :
    Calls Try.prog 190 #[.slice a 0 c] w fun e w' => e = .returned (.agg #[.int .i64 5, .int .i64 0, .int .i64 0, .int .i64 0, .int .i64 0, .int .i64 0, .int .i64 0, .string ⟨#[]⟩]) ∧ Below w.heap.size w w' := by
  go_enter Try.func190, Try.ntmps190
  go_wp2_with fail
  go_returns
  exact ⟨rfl, by go_grown⟩

set_option maxHeartbeats 400000 in
theorem implUnpackCell_stub (b off : Nat) (zs : List Int) (n c : Nat) (w : World) (hn : zs.length = n) (ha : Reads w (some ⟨b, off, none⟩) zs) (hz : ∀ z ∈ zs, 0 ≤ z ∧ z ≤ 255) (h0 : w.cell? ⟨b, off, none⟩ = some (.int .u8 1)) (hpos : (0 : Int) < (n : Int)) :
    Calls Try.prog 190 #[.slice (some ⟨b, off, none⟩) n c] w fun e w' => e = .returned (celV (stubC zs)) ∧ Below w.heap.size w w' := by
  have hlt : b < w.heap.size := World.block_lt_of_cell? w _ h0
  have d0 : ((n : Int) == 0) = false := by simp; omega
  obtain ⟨q, f, p, l, t, k, v, s, hr⟩ := celV_form (stubC zs)
  have HR : Hid (stubC zs = Cel.mk q f p l t k v s) := hr
  clear hr
  go_enter Try.func190, Try.ntmps190
  go_wp2_with fail
  refine (unpackStub_any _ zs n c _ hn (ha.below (B := w.heap.size) (by go_grown) (Nat.le_refl _)) hz).mono ?_
  rintro e w1 ⟨rfl, hb⟩
  rw [HR.out]
  simp only [celV]
  obtain ⟨o0, o1, o2, o3, o4, o5, o6, o7, g0, g1, g2, g3, g4, g5, g6, g7⟩ : CelOwn w1 w.heap.size := CelOwn.below ⟨by simp [go_sem], by simp [go_sem], by simp [go_sem], by simp [go_sem], by simp [go_sem], by simp [go_sem], by simp [go_sem], by simp [go_sem], by simp [go_sem], by simp [go_sem], by simp [go_sem], by simp [go_sem], by simp [go_sem], by simp [go_sem], by simp [go_sem], by simp [go_sem]⟩ hb (by simp)
  have g1 : Below w.heap.size w w1 := Below.trans (by go_grown) (hb.mono (by simp))
  clear hb
  go_wp2_with fail
  refine bodyPost_ret (v := .agg #[.int .i64 q, .int .i64 f, .int .i64 p, .int .i64 l, .int .i64 t, .int .i64 k, .int .i64 v, .string s]) (by simp [results, Try.results190, go_sem, o0, o1, o2, o3, o4, o5, o6, o7]) rfl ?_
  exact ⟨by rw [HR.out]; rfl, by go_grown⟩

set_option maxHeartbeats 400000 in
theorem implUnpackCell_row (b off : Nat) (zs : List Int) (n c : Nat) (x : Int) (w : World) (hn : zs.length = n) (hnc : n ≤ c) (ha : Reads w (some ⟨b, off, none⟩) zs) (hz : ∀ z ∈ zs, 0 ≤ z ∧ z ≤ 255) (h0 : w.cell? ⟨b, off, none⟩ = some (.int .u8 x)) (hx : x = 0 ∨ x = 2) (hpos : (0 : Int) < (n : Int)) :
    Calls Try.prog 190 #[.slice (some ⟨b, off, none⟩) n c] w fun e w' => e = .returned (celV (rowC zs)) ∧ Below w.heap.size w w' := by
  have hlt : b < w.heap.size := World.block_lt_of_cell? w _ h0
  have d0 : ((n : Int) == 0) = false := by simp; omega
  obtain ⟨q, f, p, l, t, k, v, s, hr⟩ := celV_form (rowC zs)
  have HR : Hid (rowC zs = Cel.mk q f p l t k v s) := hr
  clear hr
  rcases hx with rfl | rfl
  all_goals
    go_enter Try.func190, Try.ntmps190
    go_wp2_with fail
    refine (unpackRow_any _ zs n c _ hn hnc (ha.below (B := w.heap.size) (by go_grown) (Nat.le_refl _)) hz).mono ?_
    rintro e w1 ⟨rfl, hb⟩
    rw [HR.out]
    simp only [celV]
    obtain ⟨o0, o1, o2, o3, o4, o5, o6, o7, g0, g1, g2, g3, g4, g5, g6, g7⟩ : CelOwn w1 w.heap.size := CelOwn.below ⟨by simp [go_sem], by simp [go_sem], by simp [go_sem], by simp [go_sem], by simp [go_sem], by simp [go_sem], by simp [go_sem], by simp [go_sem], by simp [go_sem], by simp [go_sem], by simp [go_sem], by simp [go_sem], by simp [go_sem], by simp [go_sem], by simp [go_sem], by simp [go_sem]⟩ hb (by simp)
    have g1 : Below w.heap.size w w1 := Below.trans (by go_grown) (hb.mono (by simp))
    clear hb
    go_wp2_with fail
    refine bodyPost_ret (v := .agg #[.int .i64 q, .int .i64 f, .int .i64 p, .int .i64 l, .int .i64 t, .int .i64 k, .int .i64 v, .string s]) (by simp [results, Try.results190, go_sem, o0, o1, o2, o3, o4, o5, o6, o7]) rfl ?_
    exact ⟨by rw [HR.out]; rfl, by go_grown⟩

set_option maxHeartbeats 400000 in
theorem implUnpackCell_flag (b off : Nat) (n c : Nat) (x : Int) (w : World) (h0 : w.cell? ⟨b, off, none⟩ = some (.int .u8 x)) (x0 : x ≠ 0) (x1 : x ≠ 1) (x2 : x ≠ 2) (hpos : (0 : Int) < (n : Int)) :
    Calls Try.prog 190 #[.slice (some ⟨b, off, none⟩) n c] w fun e w' => e = .returned (.agg #[.int .i64 5, .int .i64 0, .int .i64 0, .int .i64 0, .int .i64 0, .int .i64 0, .int .i64 0, .string ⟨#[]⟩]) ∧ Below w.heap.size w w' := by
  have hlt : b < w.heap.size := World.block_lt_of_cell? w _ h0
  have d : ((n : Int) == 0) = false := by simp; omega
  have d0 : (x == 0) = false := by simpa using x0
  have d1 : (x == 1) = false := by simpa using x1
  have d2 : (x == 2) = false := by simpa using x2
  clear x0 x1 x2
  go_enter Try.func190, Try.ntmps190
  go_wp2_with fail
  go_returns
  exact ⟨rfl, by go_grown⟩

theorem implUnpackCell_any (a : Option Addr) (zs : List Int) (n c : Nat) (w : World) (hn : zs.length = n) (hnc : n ≤ c) (ha : Reads w a zs) (hz : ∀ z ∈ zs, 0 ≤ z ∧ z ≤ 255) :
    Calls Try.prog 190 #[.slice a n c] w fun e w' => e = .returned (celV (unp zs)) ∧ Below w.heap.size w w' := by
  have ha' := ha
  rcases ha with ha | ⟨b, off, rfl, hc⟩
  · subst ha
    simp at hn
    subst hn
    exact implUnpackCell_none a c w
  · by_cases h0 : zs = []
    · subst h0
      simp at hn
      subst hn
      exact implUnpackCell_none _ c w
    · have hpos : 0 < n := by have := List.length_pos_iff.2 h0; omega
      have hc0 := hc 0 (by omega)
      rw [Nat.add_zero] at hc0
      by_cases h1 : zs.getD 0 0 = 1
      · rw [unp, if_neg h0, if_pos h1]
        rw [h1] at hc0
        exact implUnpackCell_stub b off zs n c w hn ha' hz hc0 (by omega)
      · by_cases h2 : zs.getD 0 0 = 0 ∨ zs.getD 0 0 = 2
        · rw [unp, if_neg h0, if_neg h1, if_pos h2]
          exact implUnpackCell_row b off zs n c _ w hn hnc ha' hz hc0 h2 (by omega)
        · rw [unp, if_neg h0, if_neg h1, if_neg h2]
          exact implUnpackCell_flag b off n c _ w hc0 (fun h => h2 (.inl h)) h1 (fun h => h2 (.inr h)) (by omega)

end Go.Proofs.Yteebbaleejbodaa
