/-
  RecordText: the program's and the model's.
-/
import Derived.Test.YtcjkjenebnodbaaDoorSLtx
import Derived.Test.YtcjkjenebnodbaaDoorSRok
import Derived.Test.YtcjkjenebnodbaaDoorSRee

namespace Go.Proofs.YtcjkjenebnodbaaDoor
open Go.RowKit
set_option linter.unusedVariables false

/-- The word of a kind. -/
def wdOf (k : Int) : ByteArray := if k = 1 then ⟨#[98, 101, 103, 105, 110]⟩ else if k = 2 then ⟨#[100, 101, 108, 116, 97]⟩ else if k = 3 then ⟨#[99, 111, 109, 112]⟩ else if k = 4 then ⟨#[105, 109, 97, 103, 101]⟩ else if k = 5 then ⟨#[99, 111, 109, 109, 105, 116]⟩ else ⟨#[97, 98, 111, 114, 116]⟩
/-- A record's line. -/
def txOf (k tx pg : Int) (n : Nat) (Z : Nat → List Int) : ByteArray := if k = 2 ∨ k = 3 ∨ k = 4 then txtS (wdOf k) (three tx.toNat pg.toNat (took Z n)) 3 else txtS (wdOf k) (one tx.toNat) 1
/-- What RecordText answers. -/
def txB (k tx pg : Int) (n : Nat) (P : Nat → Int) (Z : Nat → List Int) : ByteArray := if recQ k tx pg n P Z = 0 then txOf k tx pg n Z else ⟨#[]⟩

theorem image_tx {tx pg : Int} {n : Nat} {P : Nat → Int} {Z : Nat → List Int} (h : recQ 4 tx pg n P Z = 0) : tx = 0 := by
  unfold recQ at h
  rw [if_neg (by decide), if_neg (by decide), if_pos rfl] at h
  split at h
  · cases h
  · rename_i h0; exact Decidable.not_not.1 h0

set_option maxHeartbeats 1000000 in
theorem implRecordText_bad (k tx pg : Int) (a : Option Addr) (n c : Nat) (P : Nat → Int) (A : Nat → Option Addr) (C : Nat → Nat) (Z : Nat → List Int) (w : World) (hm : n + took Z n ≤ 1048576) (hz : Hid (∀ i, i < n → (Z i).length ≤ 1048576)) (hr : RunsRead w a n P A C Z) (hq : recQ k tx pg n P Z ≠ 0) :
    Calls Tryd.prog 15 #[.agg #[.int .i64 k, .int .i64 tx, .int .i64 pg, .slice a n c]] w fun e w' => e = .returned (.agg #[.int .i64 (recQ k tx pg n P Z), .string ⟨#[]⟩]) ∧ Below w.heap.size w w' := by
  have HR : Hid (RunsRead w a n P A C Z) := hr
  obtain ⟨q, hqe⟩ : ∃ q, q = recQ k tx pg n P Z := ⟨_, rfl⟩
  have HQ : Hid (recQ k tx pg n P Z = q) := hqe.symm
  rw [← hqe] at hq ⊢
  have hqb : (q != 0) = true := by simpa using hq
  clear hr hqe hq
  go_enter Tryd.func15, Tryd.ntmps15
  go_upto_region 1 with (fail)
  generalize hY : World.alloc _ _ = Y
  have g : Below w.heap.size w Y := by rw [← hY]; go_grown
  have hB : RcAt Y w.heap.size k tx pg a n c := by rw [← hY]; exact ⟨by simp [go_sem], by simp [go_sem], by simp [go_sem], by simp [go_sem]⟩
  have y0 : Y.cell? ⟨w.heap.size + 1, 0, none⟩ = some (.int .i64 0) := by rw [← hY]; simp [go_sem]
  have y1 : Y.cell? ⟨w.heap.size + 1, 1, none⟩ = some (.string ⟨#[]⟩) := by rw [← hY]; simp [go_sem]
  have v0 : Y.frozen? ⟨w.heap.size + 1, 0, none⟩ = false := by rw [← hY]; simp [go_sem]
  have v1 : Y.frozen? ⟨w.heap.size + 1, 1, none⟩ = false := by rw [← hY]; simp [go_sem]
  have hs : w.heap.size + 2 ≤ Y.heap.size := by rw [← hY]; simp
  clear hY
  have hO : OutT Y (w.heap.size + 1) := ⟨y0, y1, v0, v1⟩
  clear y0 y1 v0 v1
  obtain ⟨c0, c1, c2, c3⟩ := hB
  go_wp2_with fail
  refine (implRecordFault_any k tx pg a n c P A C Z _ (by omega) hz (HR.out.below g (Nat.le_refl _))).mono ?_
  rintro e w1 ⟨rfl, g1⟩
  rw [HQ.out]
  have hO := hO.below g1
  have g : Below w.heap.size w w1 := g.trans (g1.mono g.size)
  clear g1 c0 c1 c2 c3
  obtain ⟨r0, r1, r2, r3⟩ := hO
  go_wp2_with fail
  refine bodyPost_ret (v := .agg #[.int .i64 q, .string ⟨#[]⟩]) (by simp [results, Tryd.results15, go_sem, r0, r1]) rfl ?_
  exact ⟨rfl, by go_grown⟩

theorem implRecordText_any (k tx pg : Int) (a : Option Addr) (n c : Nat) (P : Nat → Int) (A : Nat → Option Addr) (C : Nat → Nat) (Z : Nat → List Int) (w : World) (hm : n + took Z n ≤ 1048576) (hz : Hid (∀ i, i < n → (Z i).length ≤ 1048576)) (hr : RunsRead w a n P A C Z) (hT : Tab w) :
    Calls Tryd.prog 15 #[.agg #[.int .i64 k, .int .i64 tx, .int .i64 pg, .slice a n c]] w fun e w' => e = .returned (.agg #[.int .i64 (recQ k tx pg n P Z), .string (txB k tx pg n P Z)]) ∧ Below w.heap.size w w' := by
  by_cases hq : recQ k tx pg n P Z = 0
  · obtain ⟨k1, k6, t0, t9, p0, p9, hf⟩ := rec_ok hq
    have htk := (rf_ok hf).2.2
    obtain ⟨x, rfl⟩ : ∃ x : Nat, tx = x := ⟨tx.toNat, by omega⟩
    obtain ⟨y, rfl⟩ : ∃ y : Nat, pg = y := ⟨pg.toNat, by omega⟩
    have hB : txB k x y n P Z = txOf k x y n Z := by unfold txB; rw [if_pos hq]
    rw [hB, hq]
    obtain rfl | rfl | rfl | rfl | rfl | rfl : k = 1 ∨ k = 2 ∨ k = 3 ∨ k = 4 ∨ k = 5 ∨ k = 6 := by omega
    · exact implRecordText_1 x y a n c P A C Z w hm hz hr hq (by omega) (by omega) (by omega) hT
    · exact implRecordText_2 x y a n c P A C Z w hm hz hr hq (by omega) (by omega) (by omega) hT
    · exact implRecordText_3 x y a n c P A C Z w hm hz hr hq (by omega) (by omega) (by omega) hT
    · have h0 := image_tx hq
      obtain rfl : x = 0 := by omega
      exact implRecordText_4 0 y a n c P A C Z w hm hz hr hq (by omega) (by omega) (by omega) hT
    · exact implRecordText_5 x y a n c P A C Z w hm hz hr hq (by omega) (by omega) (by omega) hT
    · exact implRecordText_6 x y a n c P A C Z w hm hz hr hq (by omega) (by omega) (by omega) hT
  · have hB : txB k tx pg n P Z = ⟨#[]⟩ := by unfold txB; rw [if_neg hq]
    rw [hB]
    exact implRecordText_bad k tx pg a n c P A C Z w hm hz hr hq

theorem l4Text_any (b : Nat) (k tx pg : Int) (a : Option Addr) (n c : Nat) (P : Nat → Int) (A : Nat → Option Addr) (C : Nat → Nat) (Z : Nat → List Int) (w : World) (hm : n + took Z n ≤ 1048576) (hr : RunsRead w a n P A C Z) (h : RcAt w b k tx pg a n c) (hq : recQ k tx pg n P Z = 0) :
    Calls Tryd.prog 39 #[.pointer (some ⟨b, 0, none⟩)] w fun e w' => e = .returned (.string (txOf k tx pg n Z)) ∧ Below w.heap.size w w' := by
  obtain ⟨k1, k6, t0, t9, p0, p9, hf⟩ := rec_ok hq
  have htk := (rf_ok hf).2.2
  obtain ⟨x, rfl⟩ : ∃ x : Nat, tx = x := ⟨tx.toNat, by omega⟩
  obtain ⟨y, rfl⟩ : ∃ y : Nat, pg = y := ⟨pg.toNat, by omega⟩
  obtain rfl | rfl | rfl | rfl | rfl | rfl : k = 1 ∨ k = 2 ∨ k = 3 ∨ k = 4 ∨ k = 5 ∨ k = 6 := by omega
  · exact l4Text_1 b x y a n c P A C Z w hm hr h (by omega) (by omega) (by omega)
  · exact l4Text_2 b x y a n c P A C Z w hm hr h (by omega) (by omega) (by omega)
  · exact l4Text_3 b x y a n c P A C Z w hm hr h (by omega) (by omega) (by omega)
  · exact l4Text_4 b x y a n c P A C Z w hm hr h (by omega) (by omega) (by omega)
  · exact l4Text_5 b x y a n c P A C Z w hm hr h (by omega) (by omega) (by omega)
  · exact l4Text_6 b x y a n c P A C Z w hm hr h (by omega) (by omega) (by omega)

set_option maxHeartbeats 1000000 in
theorem specRecordText_any (k tx pg : Int) (a : Option Addr) (n c : Nat) (P : Nat → Int) (A : Nat → Option Addr) (C : Nat → Nat) (Z : Nat → List Int) (w : World) (hm : n + took Z n ≤ 1048576) (hz : Hid (∀ i, i < n → (Z i).length ≤ 1048576)) (hr : RunsRead w a n P A C Z) :
    Calls Tryd.prog 16 #[.agg #[.int .i64 k, .int .i64 tx, .int .i64 pg, .slice a n c]] w fun e w' => e = .returned (.agg #[.int .i64 (recQ k tx pg n P Z), .string (txB k tx pg n P Z)]) ∧ Below w.heap.size w w' := by
  have HR : Hid (RunsRead w a n P A C Z) := hr
  obtain ⟨q, hqe⟩ : ∃ q, q = recQ k tx pg n P Z := ⟨_, rfl⟩
  have HQ : Hid (recQ k tx pg n P Z = q) := hqe.symm
  have HB : Hid (txB k tx pg n P Z = if q = 0 then txOf k tx pg n Z else ⟨#[]⟩) := by show _ = _; rw [hqe]; rfl
  rw [← hqe]
  clear hr hqe
  go_enter Tryd.func16, Tryd.ntmps16
  go_upto_region 1 with (fail)
  generalize hY : World.alloc _ _ = Y
  have g : Below w.heap.size w Y := by rw [← hY]; go_grown
  have hB : RcAt Y w.heap.size k tx pg a n c := by rw [← hY]; exact ⟨by simp [go_sem], by simp [go_sem], by simp [go_sem], by simp [go_sem]⟩
  have y0 : Y.cell? ⟨w.heap.size + 1, 0, none⟩ = some (.int .i64 0) := by rw [← hY]; simp [go_sem]
  have y1 : Y.cell? ⟨w.heap.size + 1, 1, none⟩ = some (.string ⟨#[]⟩) := by rw [← hY]; simp [go_sem]
  have v0 : Y.frozen? ⟨w.heap.size + 1, 0, none⟩ = false := by rw [← hY]; simp [go_sem]
  have v1 : Y.frozen? ⟨w.heap.size + 1, 1, none⟩ = false := by rw [← hY]; simp [go_sem]
  have hs : w.heap.size + 2 ≤ Y.heap.size := by rw [← hY]; simp
  clear hY
  have hO : OutT Y (w.heap.size + 1) := ⟨y0, y1, v0, v1⟩
  clear y0 y1 v0 v1
  go_wp2_with fail
  refine (l4Fault_any _ k tx pg a n c P A C Z _ (by omega) hz (HR.out.below g (Nat.le_refl _)) hB).mono ?_
  rintro e w1 ⟨rfl, qq, rfl⟩
  rw [HQ.out]
  have g1 : Below Y.heap.size Y (Y.drewN qq) := below_draws (Below.refl _ _) _
  have hO := hO.below g1
  have hB := hB.up g1
  have g : Below w.heap.size w (Y.drewN qq) := g.trans (g1.mono g.size)
  clear g1
  generalize Y.drewN qq = X at hO hB g ⊢
  by_cases h0 : q = 0
  · have HB1 : Hid (txB k tx pg n P Z = txOf k tx pg n Z) := by show _ = _; rw [HB.out, if_pos h0]
    clear HB
    subst h0
    go_wp2_with fail
    refine (l4Text_any _ k tx pg a n c P A C Z _ hm (HR.out.below g (Nat.le_refl _)) hB HQ.out).mono ?_
    rintro e w2 ⟨rfl, g1⟩
    have hO := hO.below g1
    have g : Below w.heap.size w w2 := g.trans (g1.mono g.size)
    clear g1
    obtain ⟨r0, r1, r2, r3⟩ := hO
    generalize txOf k tx pg n Z = T at HB1 ⊢
    go_wp2_with fail
    refine bodyPost_ret (v := .agg #[.int .i64 0, .string T]) (by simp [results, Tryd.results16, go_sem, r0, r1]) rfl ?_
    exact ⟨by rw [HB1.out], by go_grown⟩
  · have HB : Hid (txB k tx pg n P Z = ⟨#[]⟩) := by show _ = _; rw [HB.out, if_neg h0]
    have hqb : (q != 0) = true := by simpa using h0
    obtain ⟨r0, r1, r2, r3⟩ := hO
    go_wp2_with fail
    refine bodyPost_ret (v := .agg #[.int .i64 q, .string ⟨#[]⟩]) (by simp [results, Tryd.results16, go_sem, r0, r1]) rfl ?_
    exact ⟨by rw [HB.out], by go_grown⟩

set_option maxHeartbeats 400000 in
theorem eqTextResult_same (q : Int) (T : ByteArray) (w : World) :
    Calls Tryd.prog 19 #[.agg #[.int .i64 q, .string T], .agg #[.int .i64 q, .string T]] w fun e w' => e = .returned (.bool true) ∧ Below w.heap.size w w' := by
  go_enter Tryd.func19, Tryd.ntmps19
  go_wp2_with fail
  go_ret
  exact ⟨rfl, by go_grown⟩

end Go.Proofs.YtcjkjenebnodbaaDoor
