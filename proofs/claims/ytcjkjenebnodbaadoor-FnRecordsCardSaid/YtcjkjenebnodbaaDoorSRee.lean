/-
  Records in memory: szRecord, toRecord, eqRecord, markRecord, heldRecord; the law FnExactRecordFault.
-/
import Derived.Test.YtcjkjenebnodbaaDoorSRed
import Derived.Test.YtcjkjenebnodbaaDoorSRok

namespace Go.Proofs.YtcjkjenebnodbaaDoor
open Go.RowKit
set_option linter.unusedVariables false

set_option maxHeartbeats 400000 in
theorem szRecord_any (k tx pg : Int) (a : Option Addr) (n c : Nat) (P : Nat → Int) (A : Nat → Option Addr) (C : Nat → Nat) (Z : Nat → List Int) (w : World) (hm : n ≤ 9223372036854775807) (hz : ∀ i, i < n → (Z i).length ≤ 9223372036854775807) (hr : RunsRead w a n P A C Z) :
    Calls Tryd.prog 17 #[.agg #[.int .i64 k, .int .i64 tx, .int .i64 pg, .slice a n c], .int .i64 1048576] w fun e w' => (∃ r : Int, e = .returned (.int .i64 r) ∧ (0 ≤ r → n + took Z n ≤ 1048576)) ∧ Below w.heap.size w w' := by
  have HR : Hid (RunsRead w a n P A C Z) := hr
  have HZ : Hid (∀ i, i < n → (Z i).length ≤ 9223372036854775807) := hz
  clear hr hz
  go_enter Tryd.func17, Tryd.ntmps17
  go_wp2_with fail
  refine (szRunS_any a n c P A C Z _ hm HZ.out (HR.out.below (by go_grown) (Nat.le_refl _))).mono ?_
  rintro e w' ⟨⟨r, rfl, hl⟩, hb⟩
  have g : Below w.heap.size w w' := Below.trans (by go_grown) (hb.mono (by simp))
  have HL : Hid (0 ≤ r → n + took Z n ≤ 1048576) := hl
  clear hb hl
  by_cases h0 : r < 0
  · go_wp2_with fail
    go_ret
    exact ⟨⟨-1, rfl, by omega⟩, g⟩
  · have h0 : ¬ (r < 0) := h0
    go_wp2_with fail
    go_ret
    exact ⟨⟨r, rfl, HL.out⟩, g⟩

set_option maxHeartbeats 1000000 in
theorem toRecord_any (k tx pg : Int) (a : Option Addr) (n c : Nat) (P : Nat → Int) (A : Nat → Option Addr) (C : Nat → Nat) (Z : Nat → List Int) (w : World) (hm : n + took Z n ≤ 1048576) (hr : RunsRead w a n P A C Z) :
    Calls Tryd.prog 18 #[.agg #[.int .i64 k, .int .i64 tx, .int .i64 pg, .slice a n c]] w fun e w' => ∃ b A' F', e = .returned (.agg #[.int .i64 k, .int .i64 tx, .int .i64 pg, .slice (some ⟨b, 0, none⟩) n n]) ∧ Below w.heap.size w w' ∧ Own w.heap.size w'.heap.size w' b n P A' (fun i => (Z i).length) Z F' := by
  have HR : Hid (RunsRead w a n P A C Z) := hr
  clear hr
  go_enter Tryd.func18, Tryd.ntmps18
  go_upto_region 5 with (fail)
  generalize hY : World.alloc _ _ = Y
  have g : Below w.heap.size w Y := by rw [← hY]; go_grown
  have hs : Y.heap.size = w.heap.size + 3 := by rw [← hY]; simp
  have x3 : Y.cell? ⟨w.heap.size, 3, none⟩ = some (.slice a n c) := by rw [← hY]; simp [go_sem]
  have y0 : Y.cell? ⟨w.heap.size + 1, 0, none⟩ = some (.int .i64 0) := by rw [← hY]; simp [go_sem]
  have y1 : Y.cell? ⟨w.heap.size + 1, 1, none⟩ = some (.int .i64 0) := by rw [← hY]; simp [go_sem]
  have y2 : Y.cell? ⟨w.heap.size + 1, 2, none⟩ = some (.int .i64 0) := by rw [← hY]; simp [go_sem]
  have y3 : Y.cell? ⟨w.heap.size + 1, 3, none⟩ = some (.slice none 0 0) := by rw [← hY]; simp [go_sem]
  have z0 : Y.cell? ⟨w.heap.size + 1 + 1, 0, none⟩ = some (.int .i64 k) := by rw [← hY]; simp [go_sem]
  have z1 : Y.cell? ⟨w.heap.size + 1 + 1, 1, none⟩ = some (.int .i64 tx) := by rw [← hY]; simp [go_sem]
  have z2 : Y.cell? ⟨w.heap.size + 1 + 1, 2, none⟩ = some (.int .i64 pg) := by rw [← hY]; simp [go_sem]
  have z3 : Y.cell? ⟨w.heap.size + 1 + 1, 3, none⟩ = some (.slice none 0 0) := by rw [← hY]; simp [go_sem]
  have v0 : Y.frozen? ⟨w.heap.size + 1, 0, none⟩ = false := by rw [← hY]; simp [go_sem]
  have v1 : Y.frozen? ⟨w.heap.size + 1, 1, none⟩ = false := by rw [← hY]; simp [go_sem]
  have v2 : Y.frozen? ⟨w.heap.size + 1, 2, none⟩ = false := by rw [← hY]; simp [go_sem]
  have v3 : Y.frozen? ⟨w.heap.size + 1, 3, none⟩ = false := by rw [← hY]; simp [go_sem]
  have u3 : Y.frozen? ⟨w.heap.size + 1 + 1, 3, none⟩ = false := by rw [← hY]; simp [go_sem]
  clear hY
  have hr := HR.out.below g (Nat.le_refl _)
  go_wp2_with fail
  refine (toRunS_any a n c P A C Z _ hm hr).mono ?_
  rintro e w' ⟨rfl, g', A', F', ho⟩
  rw [hs] at ho ⊢
  have hs' := g'.size
  have g2 : Below w.heap.size w w' := g.trans (g'.mono g.size)
  have y0 := (g'.cell (p := ⟨w.heap.size + 1, 0, none⟩) (by simp only; omega)).trans y0
  have y1 := (g'.cell (p := ⟨w.heap.size + 1, 1, none⟩) (by simp only; omega)).trans y1
  have y2 := (g'.cell (p := ⟨w.heap.size + 1, 2, none⟩) (by simp only; omega)).trans y2
  have y3 := (g'.cell (p := ⟨w.heap.size + 1, 3, none⟩) (by simp only; omega)).trans y3
  have z0 := (g'.cell (p := ⟨w.heap.size + 1 + 1, 0, none⟩) (by simp only; omega)).trans z0
  have z1 := (g'.cell (p := ⟨w.heap.size + 1 + 1, 1, none⟩) (by simp only; omega)).trans z1
  have z2 := (g'.cell (p := ⟨w.heap.size + 1 + 1, 2, none⟩) (by simp only; omega)).trans z2
  have z3 := (g'.cell (p := ⟨w.heap.size + 1 + 1, 3, none⟩) (by simp only; omega)).trans z3
  have v0 := (g'.frozen (p := ⟨w.heap.size + 1, 0, none⟩) (by simp only; omega)).trans v0
  have v1 := (g'.frozen (p := ⟨w.heap.size + 1, 1, none⟩) (by simp only; omega)).trans v1
  have v2 := (g'.frozen (p := ⟨w.heap.size + 1, 2, none⟩) (by simp only; omega)).trans v2
  have v3 := (g'.frozen (p := ⟨w.heap.size + 1, 3, none⟩) (by simp only; omega)).trans v3
  have u3 := (g'.frozen (p := ⟨w.heap.size + 1 + 1, 3, none⟩) (by simp only; omega)).trans u3
  have HO : Hid (Own (w.heap.size + 3) w'.heap.size w' (w.heap.size + 3) n P A' (fun i => (Z i).length) Z F') := ho
  clear g g' hs hs' x3 ho hr
  go_wp2_with fail
  refine bodyPost_ret (v := .agg #[.int .i64 k, .int .i64 tx, .int .i64 pg, .slice (some ⟨w.heap.size + 3, 0, none⟩) n n]) (by simp [results, Tryd.results18, go_sem, *]) rfl ?_
  have hsz : w.heap.size + 3 ≤ w'.heap.size := by have := HO.out.h0; omega
  refine ⟨_, A', F', rfl, by go_grown, ?_⟩
  have T : Turned (w.heap.size + 1) (w.heap.size + 3) w' _ := (((((Turned.refl _ _ w').setCell (p := ⟨w.heap.size + 1 + 1, 3, none⟩) (by simp) (by simp) (.slice (some ⟨w.heap.size + 3, 0, none⟩) n n)).setCell (p := ⟨w.heap.size + 1, 0, none⟩) (by simp) (by simp) (.int .i64 k)).setCell (p := ⟨w.heap.size + 1, 1, none⟩) (by simp) (by simp) (.int .i64 tx)).setCell (p := ⟨w.heap.size + 1, 2, none⟩) (by simp) (by simp) (.int .i64 pg)).setCell (p := ⟨w.heap.size + 1, 3, none⟩) (by simp) (by simp) (.slice (some ⟨w.heap.size + 3, 0, none⟩) n n)
  exact (HO.out.turned T (.inr (Nat.le_refl _))).mono (by omega) (by simp)

set_option maxHeartbeats 1000000 in
theorem eqRecord_same (k tx pg : Int) (x y n c d : Nat) (P : Nat → Int) (A B : Nat → Option Addr) (C D : Nat → Nat) (Z : Nat → List Int) (F G : Nat → Nat) (la ua lb ub : Nat) (w : World) (hm : n + took Z n ≤ 1048576) (hx : Own la ua w x n P A C Z F) (hy : Own lb ub w y n P B D Z G) :
    Calls Tryd.prog 20 #[.agg #[.int .i64 k, .int .i64 tx, .int .i64 pg, .slice (some ⟨x, 0, none⟩) n c], .agg #[.int .i64 k, .int .i64 tx, .int .i64 pg, .slice (some ⟨y, 0, none⟩) n d]] w fun e w' => e = .returned (.bool true) ∧ Below w.heap.size w w' := by
  have HX : Hid (Own la ua w x n P A C Z F) := hx
  have HY : Hid (Own lb ub w y n P B D Z G) := hy
  clear hx hy
  go_enter Tryd.func20, Tryd.ntmps20
  go_wp2_with fail
  refine (eqRunS_same x y n c d P A B C D Z F G la ua lb ub _ hm (HX.out.below (by go_grown)) (HY.out.below (by go_grown))).mono ?_
  rintro e w' ⟨rfl, hb⟩
  have g : Below w.heap.size w w' := Below.trans (by go_grown) (hb.mono (by simp; omega))
  clear hb
  go_wp2_with fail
  go_ret
  exact ⟨rfl, g⟩

end Go.Proofs.YtcjkjenebnodbaaDoor

/-
  The sum of bytes: the program's and the model's.
-/
namespace Go.Proofs.YtcjkjenebnodbaaDoor
open Go.RowKit
set_option linter.unusedVariables false

/-- The sum of the first j bytes. -/
def sumN (zs : List Int) : Nat → Nat
  | 0 => 1
  | j + 1 => (sumN zs j * 31 + (zs.getD j 0).toNat) % 65521

theorem sumN_lt (zs : List Int) : ∀ j, sumN zs j < 65521
  | 0 => by simp [sumN]
  | j + 1 => by simp only [sumN]; exact Nat.mod_lt _ (by decide)

set_option maxHeartbeats 400000 in
theorem l4Sum_any (a : Option Addr) (n c : Nat) (zs : List Int) (w : World) (hn : zs.length = n) (hm : n ≤ 140737488351232) (hr : Reads w a zs) (hz : ∀ z ∈ zs, 0 ≤ z ∧ z ≤ 255) :
    Calls Tryd.prog 47 #[.slice a n c] w fun e w' => e = .returned (.int .i64 (sumN zs n)) ∧ w' = w := by
  by_cases h0 : n = 0
  · subst h0
    go_enter Tryd.func47, Tryd.ntmps47
    go_wp2
    go_rounds 1
    go_ret
    exact ⟨rfl, rfl⟩
  rcases hr with hr | ⟨b, off, rfl, hc⟩
  · rw [hr] at hn; simp at hn; omega
  have HC : Hid (∀ i, i < zs.length → w.cell? ⟨b, off + i, none⟩ = some (.int .u8 (zs.getD i 0))) := hc
  have HB : Hid (∀ i, i < n → 0 ≤ zs.getD i 0 ∧ zs.getD i 0 ≤ 255) := fun i hi => hz _ (by simp [List.getD, List.getElem?_eq_getElem (show i < zs.length by omega)])
  clear hc hz
  go_enter Tryd.func47, Tryd.ntmps47
  go_wp2
  go_loop [4, 3] (fun i s => ∃ j : Nat, j ≤ n ∧ i = .int .i64 j ∧ s = .int .i64 (sumN zs j)) (fun i _ => n - (intOf i).toNat)
  case atStart => exact ⟨0, Nat.zero_le _, rfl, rfl⟩
  case round =>
    obtain ⟨j, hj, rfl, rfl⟩ := hrel
    by_cases hlt : j < n
    · have h1 := HC.out j (by omega)
      obtain ⟨b0, b1⟩ := HB.out j hlt
      have hs := sumN_lt zs j
      obtain ⟨s, hsv⟩ : ∃ s, s = sumN zs j := ⟨_, rfl⟩
      obtain ⟨x, hxv⟩ : ∃ x : Nat, (x : Int) = zs.getD j 0 := ⟨(zs.getD j 0).toNat, by omega⟩
      have HS : Hid (sumN zs (j + 1) = (s * 31 + x) % 65521) := by show _ = _; simp only [sumN]; rw [← hsv, ← hxv]; rfl
      rw [← hsv] at hs ⊢
      rw [← hxv] at h1 b0 b1
      have hx : x ≤ 255 := by omega
      clear hsv hxv b0 b1
      have hjn : (j : Int) < (n : Int) := by omega
      have e1 : IntKind.i64.wrap ((s : Int) * 31) = (s : Int) * 31 := by rw [IntKind.wrap_i64]; omega
      have e2 : IntKind.i64.wrap ((s : Int) * 31 + (x : Int)) = (s : Int) * 31 + (x : Int) := by rw [IntKind.wrap_i64]; omega
      go_wp2
      go_round
      case rel => exact ⟨j + 1, by omega, by go_num, by rw [HS.out]; congr 1⟩
      case measure => simp [intOf]; omega
    · have e : j = n := by omega
      subst e
      go_wp2
      go_ret
      exact ⟨rfl, rfl⟩

set_option maxHeartbeats 400000 in
theorem sumOf_any (a : Option Addr) (n c : Nat) (zs : List Int) (w : World) (hn : zs.length = n) (hm : n ≤ 140737488351232) (hr : Reads w a zs) (hz : ∀ z ∈ zs, 0 ≤ z ∧ z ≤ 255) :
    Calls Tryd.prog 53 #[.slice a n c] w fun e w' => e = .returned (.int .u32 (sumN zs n)) ∧ w' = w := by
  by_cases h0 : n = 0
  · subst h0
    go_enter Tryd.func53, Tryd.ntmps53
    go_wp2
    go_rounds 1
    go_ret
    exact ⟨rfl, rfl⟩
  rcases hr with hr | ⟨b, off, rfl, hc⟩
  · rw [hr] at hn; simp at hn; omega
  have HC : Hid (∀ i, i < zs.length → w.cell? ⟨b, off + i, none⟩ = some (.int .u8 (zs.getD i 0))) := hc
  have HB : Hid (∀ i, i < n → 0 ≤ zs.getD i 0 ∧ zs.getD i 0 ≤ 255) := fun i hi => hz _ (by simp [List.getD, List.getElem?_eq_getElem (show i < zs.length by omega)])
  clear hc hz
  go_enter Tryd.func53, Tryd.ntmps53
  go_wp2
  go_loop [8, 3] (fun i s => ∃ j : Nat, j ≤ n ∧ i = .int .i64 j ∧ s = .int .u32 (sumN zs j)) (fun i _ => n - (intOf i).toNat)
  case atStart => exact ⟨0, Nat.zero_le _, rfl, rfl⟩
  case round =>
    obtain ⟨j, hj, rfl, rfl⟩ := hrel
    by_cases hlt : j < n
    · have h1 := HC.out j (by omega)
      obtain ⟨b0, b1⟩ := HB.out j hlt
      have hs := sumN_lt zs j
      obtain ⟨s, hsv⟩ : ∃ s, s = sumN zs j := ⟨_, rfl⟩
      obtain ⟨x, hxv⟩ : ∃ x : Nat, (x : Int) = zs.getD j 0 := ⟨(zs.getD j 0).toNat, by omega⟩
      have HS : Hid (sumN zs (j + 1) = (s * 31 + x) % 65521) := by show _ = _; simp only [sumN]; rw [← hsv, ← hxv]; rfl
      rw [← hsv] at hs ⊢
      rw [← hxv] at h1 b0 b1
      have hx : x ≤ 255 := by omega
      clear hsv hxv b0 b1
      have hjn : (j : Int) < (n : Int) := by omega
      go_wp2
      go_round
      case rel => exact ⟨j + 1, by omega, by go_num, by rw [HS.out]; congr 1⟩
      case measure => simp [intOf]; omega
    · have e : j = n := by omega
      subst e
      go_wp2
      go_ret
      exact ⟨rfl, rfl⟩

end Go.Proofs.YtcjkjenebnodbaaDoor
