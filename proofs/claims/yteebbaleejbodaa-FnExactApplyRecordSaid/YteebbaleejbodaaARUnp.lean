/-
  The contracts of unpackStub, unpackRow: what they tell of all bytes.
-/
import Derived.Test.YteebbaleejbodaaARBy
import Derived.Test.YteebbaleejbodaaARFla

namespace Go.Proofs.Yteebbaleejbodaa
open Go.RowKit

/-- Block b holds a zero CellResult that may be written. -/
structure CelOwn (w : World) (b : Nat) : Prop where
  c0 : w.cell? ⟨b, 0, none⟩ = some (.int .i64 0)
  c1 : w.cell? ⟨b, 1, none⟩ = some (.int .i64 0)
  c2 : w.cell? ⟨b, 2, none⟩ = some (.int .i64 0)
  c3 : w.cell? ⟨b, 3, none⟩ = some (.int .i64 0)
  c4 : w.cell? ⟨b, 4, none⟩ = some (.int .i64 0)
  c5 : w.cell? ⟨b, 5, none⟩ = some (.int .i64 0)
  c6 : w.cell? ⟨b, 6, none⟩ = some (.int .i64 0)
  c7 : w.cell? ⟨b, 7, none⟩ = some (.string ⟨#[]⟩)
  f0 : w.frozen? ⟨b, 0, none⟩ = false
  f1 : w.frozen? ⟨b, 1, none⟩ = false
  f2 : w.frozen? ⟨b, 2, none⟩ = false
  f3 : w.frozen? ⟨b, 3, none⟩ = false
  f4 : w.frozen? ⟨b, 4, none⟩ = false
  f5 : w.frozen? ⟨b, 5, none⟩ = false
  f6 : w.frozen? ⟨b, 6, none⟩ = false
  f7 : w.frozen? ⟨b, 7, none⟩ = false

theorem CelOwn.below {B b : Nat} {w w' : World} (h : CelOwn w b) (hb : Below B w w') (hlt : b < B) : CelOwn w' b :=
  ⟨(hb.cell (p := ⟨b, 0, none⟩) hlt).trans h.c0, (hb.cell (p := ⟨b, 1, none⟩) hlt).trans h.c1, (hb.cell (p := ⟨b, 2, none⟩) hlt).trans h.c2, (hb.cell (p := ⟨b, 3, none⟩) hlt).trans h.c3, (hb.cell (p := ⟨b, 4, none⟩) hlt).trans h.c4, (hb.cell (p := ⟨b, 5, none⟩) hlt).trans h.c5, (hb.cell (p := ⟨b, 6, none⟩) hlt).trans h.c6, (hb.cell (p := ⟨b, 7, none⟩) hlt).trans h.c7, (hb.frozen (p := ⟨b, 0, none⟩) hlt).trans h.f0, (hb.frozen (p := ⟨b, 1, none⟩) hlt).trans h.f1, (hb.frozen (p := ⟨b, 2, none⟩) hlt).trans h.f2, (hb.frozen (p := ⟨b, 3, none⟩) hlt).trans h.f3, (hb.frozen (p := ⟨b, 4, none⟩) hlt).trans h.f4, (hb.frozen (p := ⟨b, 5, none⟩) hlt).trans h.f5, (hb.frozen (p := ⟨b, 6, none⟩) hlt).trans h.f6, (hb.frozen (p := ⟨b, 7, none⟩) hlt).trans h.f7⟩

theorem or256_nat (x y : Nat) (hx : x < 256) (hy : y < 256) : bits BinOp.or IntKind.i64 ((x * 256 : Nat) : Int) (y : Int) = ((x * 256 + y : Nat) : Int) := by
  have h1 : x * 256 ||| y = x * 256 + y := by
    have h := Nat.shiftLeft_add_eq_or_of_lt (i := 8) (b := y) (by omega) x
    rw [Nat.shiftLeft_eq] at h
    simpa using h.symm
  show IntKind.i64.wrap ((BitVec.ofInt 64 ((x * 256 : Nat) : Int) ||| BitVec.ofInt 64 (y : Int)).toNat : Int) = _
  have e1 : (BitVec.ofInt 64 ((x * 256 : Nat) : Int)).toNat = x * 256 := by simp [BitVec.toNat_ofInt]; omega
  have e2 : (BitVec.ofInt 64 (y : Int)).toNat = y := by simp; omega
  rw [BitVec.toNat_or, e1, e2, h1, IntKind.wrap_i64]
  omega
theorem or256 (x y : Int) (x0 : 0 ≤ x) (x1 : x ≤ 255) (y0 : 0 ≤ y) (y1 : y ≤ 255) : bits BinOp.or IntKind.i64 (x * 256) y = x * 256 + y := by
  obtain ⟨m, rfl⟩ := Int.eq_ofNat_of_zero_le x0
  obtain ⟨n, rfl⟩ := Int.eq_ofNat_of_zero_le y0
  have h := or256_nat m n (by omega) (by omega)
  simpa using h

set_option maxHeartbeats 400000 in
theorem unpackStub_len (a : Option Addr) (n c : Nat) (w : World) (h : n ≠ 3) :
    Calls Try.prog 205 #[.slice a n c] w fun e w' => e = .returned (.agg #[.int .i64 5, .int .i64 0, .int .i64 0, .int .i64 0, .int .i64 0, .int .i64 0, .int .i64 0, .string ⟨#[]⟩]) ∧ Below w.heap.size w w' := by
  have d : ((n : Int) != 3) = true := by simp; omega
  go_enter Try.func205, Try.ntmps205
  go_wp2_with fail
  go_returns
  exact ⟨rfl, by go_grown⟩

set_option maxHeartbeats 400000 in
theorem unpackStub_page (b off c : Nat) (y : Int) (w : World) (h1 : w.cell? ⟨b, off + 1, none⟩ = some (.int .u8 y)) (y1 : 12 ≤ y) :
    Calls Try.prog 205 #[.slice (some ⟨b, off, none⟩) 3 c] w fun e w' => e = .returned (.agg #[.int .i64 5, .int .i64 0, .int .i64 0, .int .i64 0, .int .i64 0, .int .i64 0, .int .i64 0, .string ⟨#[]⟩]) ∧ Below w.heap.size w w' := by
  have hlt : b < w.heap.size := World.block_lt_of_cell? w _ h1
  go_enter Try.func205, Try.ntmps205
  go_wp2_with fail
  go_returns
  exact ⟨rfl, by go_grown⟩

set_option maxHeartbeats 400000 in
theorem unpackStub_slot (b off c : Nat) (y z : Int) (w : World) (h1 : w.cell? ⟨b, off + 1, none⟩ = some (.int .u8 y)) (h2 : w.cell? ⟨b, off + 2, none⟩ = some (.int .u8 z)) (y1 : y < 12) (z1 : 16 ≤ z) :
    Calls Try.prog 205 #[.slice (some ⟨b, off, none⟩) 3 c] w fun e w' => e = .returned (.agg #[.int .i64 5, .int .i64 0, .int .i64 0, .int .i64 0, .int .i64 0, .int .i64 0, .int .i64 0, .string ⟨#[]⟩]) ∧ Below w.heap.size w w' := by
  have hlt : b < w.heap.size := World.block_lt_of_cell? w _ h1
  have dy : decide (12 ≤ y) = false := by simp; omega
  go_enter Try.func205, Try.ntmps205
  go_wp2_with fail
  go_returns
  exact ⟨rfl, by go_grown⟩

set_option maxHeartbeats 400000 in
theorem unpackStub_ok (b off c : Nat) (y z : Int) (w : World) (h1 : w.cell? ⟨b, off + 1, none⟩ = some (.int .u8 y)) (h2 : w.cell? ⟨b, off + 2, none⟩ = some (.int .u8 z)) (y0 : 0 ≤ y) (y1 : y < 12) (z0 : 0 ≤ z) (z1 : z < 16) :
    Calls Try.prog 205 #[.slice (some ⟨b, off, none⟩) 3 c] w fun e w' => e = .returned (.agg #[.int .i64 0, .int .i64 1, .int .i64 y, .int .i64 z, .int .i64 0, .int .i64 0, .int .i64 0, .string ⟨#[]⟩]) ∧ Below w.heap.size w w' := by
  have hlt : b < w.heap.size := World.block_lt_of_cell? w _ h1
  go_enter Try.func205, Try.ntmps205
  go_wp2_with fail
  go_region
  go_wp2_with fail
  go_returns
  exact ⟨rfl, by go_grown⟩

set_option maxHeartbeats 400000 in
theorem unpackRow_len (a : Option Addr) (n c : Nat) (w : World) (h : n < 6) :
    Calls Try.prog 206 #[.slice a n c] w fun e w' => e = .returned (.agg #[.int .i64 5, .int .i64 0, .int .i64 0, .int .i64 0, .int .i64 0, .int .i64 0, .int .i64 0, .string ⟨#[]⟩]) ∧ Below w.heap.size w w' := by
  have d : (n : Int) < 6 := by omega
  go_enter Try.func206, Try.ntmps206
  go_wp2_with fail
  go_returns
  exact ⟨rfl, by go_grown⟩

set_option maxHeartbeats 400000 in
theorem unpackRow_size (b off n c : Nat) (z5 : Int) (w : World) (h5 : w.cell? ⟨b, off + 5, none⟩ = some (.int .u8 z5)) (hz : 0 ≤ z5) (hz' : z5 ≤ 255) (h6 : 6 ≤ n) (hn : (n : Int) ≠ 6 + z5) :
    Calls Try.prog 206 #[.slice (some ⟨b, off, none⟩) n c] w fun e w' => e = .returned (.agg #[.int .i64 5, .int .i64 0, .int .i64 0, .int .i64 0, .int .i64 0, .int .i64 0, .int .i64 0, .string ⟨#[]⟩]) ∧ Below w.heap.size w w' := by
  have hlt : b < w.heap.size := World.block_lt_of_cell? w _ h5
  have d1 : ¬ ((n : Int) < 6) := by omega
  have d2 : ((n : Int) != 6 + z5) = true := by simpa using hn
  have e5 : (5 : Int) < (n : Int) := by omega
  clear hn
  go_enter Try.func206, Try.ntmps206
  go_wp2_with fail
  go_returns
  exact ⟨rfl, by go_grown⟩

set_option maxHeartbeats 1000000 in
theorem unpackRow_row (b off n c : Nat) (z0 z1 z2 z3 z4 z5 : Int) (s : ByteArray) (w : World) (h0 : w.cell? ⟨b, off, none⟩ = some (.int .u8 z0)) (h1 : w.cell? ⟨b, off + 1, none⟩ = some (.int .u8 z1)) (h2 : w.cell? ⟨b, off + 2, none⟩ = some (.int .u8 z2))
    (h3 : w.cell? ⟨b, off + 3, none⟩ = some (.int .u8 z3)) (h4 : w.cell? ⟨b, off + 4, none⟩ = some (.int .u8 z4)) (h5 : w.cell? ⟨b, off + 5, none⟩ = some (.int .u8 z5))
    (u0 : 0 ≤ z0 ∧ z0 ≤ 255) (u1 : 0 ≤ z1 ∧ z1 ≤ 255) (u2 : 0 ≤ z2 ∧ z2 ≤ 255) (u3 : 0 ≤ z3 ∧ z3 ≤ 255) (u4 : 0 ≤ z4 ∧ z4 ≤ 255) (u5 : 0 ≤ z5 ∧ z5 ≤ 255)
    (hn : (n : Int) = 6 + z5) (hc : 6 < c) (hs : s.size ≤ maxLen)
    (hcv : ∀ w' : World, (∀ i, i < n → w'.cell? ⟨b, off + i, none⟩ = w.cell? ⟨b, off + i, none⟩) → (convert 106 9 (.slice (some ⟨b, off + 6, none⟩) (n - 6) (c - 6))).run Try.prog w' = .ok (.string s) w') :
    Calls Try.prog 206 #[.slice (some ⟨b, off, none⟩) n c] w fun e w' => Below w.heap.size w w' ∧ e = .returned (if faultI z1 z2 (z3 * 256 + z4) s = 0 then .agg #[.int .i64 0, .int .i64 z0, .int .i64 0, .int .i64 0, .int .i64 z1, .int .i64 z2, .int .i64 (z3 * 256 + z4), .string s] else .agg #[.int .i64 5, .int .i64 0, .int .i64 0, .int .i64 0, .int .i64 0, .int .i64 0, .int .i64 0, .string ⟨#[]⟩]) := by
  have hlt : b < w.heap.size := World.block_lt_of_cell? w _ h0
  have d1 : ¬ ((n : Int) < 6) := by omega
  have d2 : ((n : Int) != 6 + z5) = false := by simp; omega
  have e5 : (5 : Int) < (n : Int) := by omega
  have e1 : (1 : Int) < (n : Int) := by omega
  have e2 : (2 : Int) < (n : Int) := by omega
  have e3 : (3 : Int) < (n : Int) := by omega
  have e4 : (4 : Int) < (n : Int) := by omega
  have e6 : (6 : Int) ≤ (n : Int) := by omega
  have e0 : (0 : Int) < (n : Int) := by omega
  have ec : ¬ (c = 6) := by omega
  obtain ⟨a0, b0⟩ := u0
  obtain ⟨a1, b1⟩ := u1
  obtain ⟨a2, b2⟩ := u2
  obtain ⟨a3, b3⟩ := u3
  obtain ⟨a4, b4⟩ := u4
  obtain ⟨a5, b5⟩ := u5
  clear hn
  have HS : Hid (∀ W : World, Below w.heap.size w W → (W.cell? ⟨b, off + 1, none⟩ = some (.int .u8 z1) ∧ W.cell? ⟨b, off + 2, none⟩ = some (.int .u8 z2) ∧ W.cell? ⟨b, off + 3, none⟩ = some (.int .u8 z3) ∧ W.cell? ⟨b, off + 4, none⟩ = some (.int .u8 z4) ∧ (convert 106 9 (.slice (some ⟨b, off + 6, none⟩) (n - 6) (c - 6))).run Try.prog W = .ok (.string s) W)) := fun W hb =>
    ⟨(hb.cell (p := ⟨b, off + 1, none⟩) hlt).trans h1, (hb.cell (p := ⟨b, off + 2, none⟩) hlt).trans h2, (hb.cell (p := ⟨b, off + 3, none⟩) hlt).trans h3, (hb.cell (p := ⟨b, off + 4, none⟩) hlt).trans h4, hcv W fun i _ => hb.cell (p := ⟨b, off + i, none⟩) hlt⟩
  clear hcv
  go_enter Try.func206, Try.ntmps206
  go_wp2_with fail
  go_region_held (fun W => (W.cell? ⟨b, off + 1, none⟩ = some (.int .u8 z1) ∧ W.cell? ⟨b, off + 2, none⟩ = some (.int .u8 z2) ∧ W.cell? ⟨b, off + 3, none⟩ = some (.int .u8 z3) ∧ W.cell? ⟨b, off + 4, none⟩ = some (.int .u8 z4) ∧ (convert 106 9 (.slice (some ⟨b, off + 6, none⟩) (n - 6) (c - 6))).run Try.prog W = .ok (.string s) W)) (exact HS.out _ (by go_grown)) (fail)
  have q1 : IntKind.i64.wrap z1 = z1 := by rw [IntKind.wrap_i64]; omega
  have q2 : IntKind.i64.wrap z2 = z2 := by rw [IntKind.wrap_i64]; omega
  have q3 : IntKind.i64.wrap z3 = z3 := by rw [IntKind.wrap_i64]; omega
  have q4 : IntKind.i64.wrap z4 = z4 := by rw [IntKind.wrap_i64]; omega
  have q5 : IntKind.i64.wrap (z3 * 256) = z3 * 256 := by rw [IntKind.wrap_i64]; omega
  have q6 : bits BinOp.or IntKind.i64 (z3 * 256) z4 = z3 * 256 + z4 := or256 z3 z4 a3 b3 a4 b4
  rw [q1, q2, q3, q4, q5, q6]
  clear q1 q2 q3 q4 q5 q6
  go_wp2_with fail
  refine (implRowFault_any z1 z2 (z3 * 256 + z4) s _ hs).mono ?_
  rintro e w1 ⟨rfl, hb⟩
  have hO : CelOwn w1 w.heap.size := CelOwn.below ⟨by simp [go_sem], by simp [go_sem], by simp [go_sem], by simp [go_sem], by simp [go_sem], by simp [go_sem], by simp [go_sem], by simp [go_sem], by simp [go_sem], by simp [go_sem], by simp [go_sem], by simp [go_sem], by simp [go_sem], by simp [go_sem], by simp [go_sem], by simp [go_sem]⟩ hb (by simp; omega)
  have hR : RowAt w1 (w.heap.size + 1) z1 z2 (z3 * 256 + z4) s := rowAt_below hb (by simp) ⟨by simp [go_sem], by simp [go_sem], by simp [go_sem], by simp [go_sem]⟩
  have g1 : Below w.heap.size w w1 := Below.trans (by go_grown) (hb.mono (by simp; omega))
  have hz1 : w.heap.size + 1 < w1.heap.size := by have := hb.size; simp at this; omega
  clear hb HS
  have h0' : w1.cell? ⟨b, off, none⟩ = some (.int .u8 z0) := (g1.cell (p := ⟨b, off, none⟩) hlt).trans h0
  clear h0 h1 h2 h3 h4 h5
  by_cases hq : faultI z1 z2 (z3 * 256 + z4) s = 0
  · have HQ : Hid (faultI z1 z2 (z3 * 256 + z4) s = 0) := hq
    rw [hq]
    clear hq
    obtain ⟨o0, o1, o2, o3, o4, o5, o6, o7, g0, g1, g2, g3, g4, g5, g6, g7⟩ := hO
    obtain ⟨r0, r1, r2, r3⟩ := hR
    have hne : ¬ (w.heap.size = b) := by omega
    go_wp2_with fail
    go_region_held (fun W => W.cell? ⟨b, off, none⟩ = some (.int .u8 z0) ∧ W.cell? ⟨w.heap.size + 1, 0, none⟩ = some (.int .i64 z1) ∧ W.cell? ⟨w.heap.size + 1, 1, none⟩ = some (.int .i64 z2) ∧ W.cell? ⟨w.heap.size + 1, 2, none⟩ = some (.int .i64 (z3 * 256 + z4)) ∧ W.cell? ⟨w.heap.size + 1, 3, none⟩ = some (.string s)) (go_keep) (fail)
    rw [show IntKind.i64.wrap z0 = z0 from by rw [IntKind.wrap_i64]; omega]
    go_wp2_with fail
    refine bodyPost_ret (v := .agg #[.int .i64 0, .int .i64 z0, .int .i64 0, .int .i64 0, .int .i64 z1, .int .i64 z2, .int .i64 (z3 * 256 + z4), .string s]) (by simp [results, Try.results206, go_sem, o0, o1, o2, o3, o4, o5, o6, o7]) rfl ?_
    exact ⟨by go_grown, by first | rfl | rw [if_pos HQ.out]⟩
  · have HQ : Hid (¬ faultI z1 z2 (z3 * 256 + z4) s = 0) := hq
    have hq' : (faultI z1 z2 (z3 * 256 + z4) s != 0) = true := by simpa using hq
    clear hq
    obtain ⟨o0, o1, o2, o3, o4, o5, o6, o7, g0, g1, g2, g3, g4, g5, g6, g7⟩ := hO
    go_wp2_with fail
    refine bodyPost_ret (v := .agg #[.int .i64 5, .int .i64 0, .int .i64 0, .int .i64 0, .int .i64 0, .int .i64 0, .int .i64 0, .string ⟨#[]⟩]) (by simp [results, Try.results206, go_sem, o0, o1, o2, o3, o4, o5, o6, o7]) rfl ?_
    exact ⟨by go_grown, by first | rfl | rw [if_neg HQ.out]⟩

set_option maxHeartbeats 1000000 in
theorem unpackRow_six (b off : Nat) (z0 z1 z2 z3 z4 : Int) (s : ByteArray) (w : World) (h0 : w.cell? ⟨b, off, none⟩ = some (.int .u8 z0)) (h1 : w.cell? ⟨b, off + 1, none⟩ = some (.int .u8 z1)) (h2 : w.cell? ⟨b, off + 2, none⟩ = some (.int .u8 z2))
    (h3 : w.cell? ⟨b, off + 3, none⟩ = some (.int .u8 z3)) (h4 : w.cell? ⟨b, off + 4, none⟩ = some (.int .u8 z4)) (h5 : w.cell? ⟨b, off + 5, none⟩ = some (.int .u8 0))
    (u0 : 0 ≤ z0 ∧ z0 ≤ 255) (u1 : 0 ≤ z1 ∧ z1 ≤ 255) (u2 : 0 ≤ z2 ∧ z2 ≤ 255) (u3 : 0 ≤ z3 ∧ z3 ≤ 255) (u4 : 0 ≤ z4 ∧ z4 ≤ 255)
    (hs : s.size ≤ maxLen)
    (hcv : ∀ w' : World, (∀ i, i < 6 → w'.cell? ⟨b, off + i, none⟩ = w.cell? ⟨b, off + i, none⟩) → (convert 106 9 (.slice (some ⟨b, off, none⟩) 0 0)).run Try.prog w' = .ok (.string s) w') :
    Calls Try.prog 206 #[.slice (some ⟨b, off, none⟩) 6 6] w fun e w' => Below w.heap.size w w' ∧ e = .returned (if faultI z1 z2 (z3 * 256 + z4) s = 0 then .agg #[.int .i64 0, .int .i64 z0, .int .i64 0, .int .i64 0, .int .i64 z1, .int .i64 z2, .int .i64 (z3 * 256 + z4), .string s] else .agg #[.int .i64 5, .int .i64 0, .int .i64 0, .int .i64 0, .int .i64 0, .int .i64 0, .int .i64 0, .string ⟨#[]⟩]) := by
  have hlt : b < w.heap.size := World.block_lt_of_cell? w _ h0
  obtain ⟨a0, b0⟩ := u0
  obtain ⟨a1, b1⟩ := u1
  obtain ⟨a2, b2⟩ := u2
  obtain ⟨a3, b3⟩ := u3
  obtain ⟨a4, b4⟩ := u4
  have HS : Hid (∀ W : World, Below w.heap.size w W → (W.cell? ⟨b, off + 1, none⟩ = some (.int .u8 z1) ∧ W.cell? ⟨b, off + 2, none⟩ = some (.int .u8 z2) ∧ W.cell? ⟨b, off + 3, none⟩ = some (.int .u8 z3) ∧ W.cell? ⟨b, off + 4, none⟩ = some (.int .u8 z4) ∧ (convert 106 9 (.slice (some ⟨b, off, none⟩) 0 0)).run Try.prog W = .ok (.string s) W)) := fun W hb =>
    ⟨(hb.cell (p := ⟨b, off + 1, none⟩) hlt).trans h1, (hb.cell (p := ⟨b, off + 2, none⟩) hlt).trans h2, (hb.cell (p := ⟨b, off + 3, none⟩) hlt).trans h3, (hb.cell (p := ⟨b, off + 4, none⟩) hlt).trans h4, hcv W fun i _ => hb.cell (p := ⟨b, off + i, none⟩) hlt⟩
  clear hcv
  go_enter Try.func206, Try.ntmps206
  go_wp2_with fail
  go_region_held (fun W => (W.cell? ⟨b, off + 1, none⟩ = some (.int .u8 z1) ∧ W.cell? ⟨b, off + 2, none⟩ = some (.int .u8 z2) ∧ W.cell? ⟨b, off + 3, none⟩ = some (.int .u8 z3) ∧ W.cell? ⟨b, off + 4, none⟩ = some (.int .u8 z4) ∧ (convert 106 9 (.slice (some ⟨b, off, none⟩) 0 0)).run Try.prog W = .ok (.string s) W)) (exact HS.out _ (by go_grown)) (fail)
  have q1 : IntKind.i64.wrap z1 = z1 := by rw [IntKind.wrap_i64]; omega
  have q2 : IntKind.i64.wrap z2 = z2 := by rw [IntKind.wrap_i64]; omega
  have q3 : IntKind.i64.wrap z3 = z3 := by rw [IntKind.wrap_i64]; omega
  have q4 : IntKind.i64.wrap z4 = z4 := by rw [IntKind.wrap_i64]; omega
  have q5 : IntKind.i64.wrap (z3 * 256) = z3 * 256 := by rw [IntKind.wrap_i64]; omega
  have q6 : bits BinOp.or IntKind.i64 (z3 * 256) z4 = z3 * 256 + z4 := or256 z3 z4 a3 b3 a4 b4
  rw [q1, q2, q3, q4, q5, q6]
  clear q1 q2 q3 q4 q5 q6
  go_wp2_with fail
  refine (implRowFault_any z1 z2 (z3 * 256 + z4) s _ hs).mono ?_
  rintro e w1 ⟨rfl, hb⟩
  have hO : CelOwn w1 w.heap.size := CelOwn.below ⟨by simp [go_sem], by simp [go_sem], by simp [go_sem], by simp [go_sem], by simp [go_sem], by simp [go_sem], by simp [go_sem], by simp [go_sem], by simp [go_sem], by simp [go_sem], by simp [go_sem], by simp [go_sem], by simp [go_sem], by simp [go_sem], by simp [go_sem], by simp [go_sem]⟩ hb (by simp; omega)
  have hR : RowAt w1 (w.heap.size + 1) z1 z2 (z3 * 256 + z4) s := rowAt_below hb (by simp) ⟨by simp [go_sem], by simp [go_sem], by simp [go_sem], by simp [go_sem]⟩
  have g1 : Below w.heap.size w w1 := Below.trans (by go_grown) (hb.mono (by simp; omega))
  have hz1 : w.heap.size + 1 < w1.heap.size := by have := hb.size; simp at this; omega
  clear hb HS
  have h0' : w1.cell? ⟨b, off, none⟩ = some (.int .u8 z0) := (g1.cell (p := ⟨b, off, none⟩) hlt).trans h0
  clear h0 h1 h2 h3 h4 h5
  by_cases hq : faultI z1 z2 (z3 * 256 + z4) s = 0
  · have HQ : Hid (faultI z1 z2 (z3 * 256 + z4) s = 0) := hq
    rw [hq]
    clear hq
    obtain ⟨o0, o1, o2, o3, o4, o5, o6, o7, g0, g1, g2, g3, g4, g5, g6, g7⟩ := hO
    obtain ⟨r0, r1, r2, r3⟩ := hR
    have hne : ¬ (w.heap.size = b) := by omega
    go_wp2_with fail
    go_region_held (fun W => W.cell? ⟨b, off, none⟩ = some (.int .u8 z0) ∧ W.cell? ⟨w.heap.size + 1, 0, none⟩ = some (.int .i64 z1) ∧ W.cell? ⟨w.heap.size + 1, 1, none⟩ = some (.int .i64 z2) ∧ W.cell? ⟨w.heap.size + 1, 2, none⟩ = some (.int .i64 (z3 * 256 + z4)) ∧ W.cell? ⟨w.heap.size + 1, 3, none⟩ = some (.string s)) (go_keep) (fail)
    rw [show IntKind.i64.wrap z0 = z0 from by rw [IntKind.wrap_i64]; omega]
    go_wp2_with fail
    refine bodyPost_ret (v := .agg #[.int .i64 0, .int .i64 z0, .int .i64 0, .int .i64 0, .int .i64 z1, .int .i64 z2, .int .i64 (z3 * 256 + z4), .string s]) (by simp [results, Try.results206, go_sem, o0, o1, o2, o3, o4, o5, o6, o7]) rfl ?_
    exact ⟨by go_grown, by first | rfl | rw [if_pos HQ.out]⟩
  · have HQ : Hid (¬ faultI z1 z2 (z3 * 256 + z4) s = 0) := hq
    have hq' : (faultI z1 z2 (z3 * 256 + z4) s != 0) = true := by simpa using hq
    clear hq
    obtain ⟨o0, o1, o2, o3, o4, o5, o6, o7, g0, g1, g2, g3, g4, g5, g6, g7⟩ := hO
    go_wp2_with fail
    refine bodyPost_ret (v := .agg #[.int .i64 5, .int .i64 0, .int .i64 0, .int .i64 0, .int .i64 0, .int .i64 0, .int .i64 0, .string ⟨#[]⟩]) (by simp [results, Try.results206, go_sem, o0, o1, o2, o3, o4, o5, o6, o7]) rfl ?_
    exact ⟨by go_grown, by first | rfl | rw [if_neg HQ.out]⟩

end Go.Proofs.Yteebbaleejbodaa
