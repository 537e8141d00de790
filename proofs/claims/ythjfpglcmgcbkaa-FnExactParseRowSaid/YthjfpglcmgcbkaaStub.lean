/-
  The contracts of PackStub and of its model: both make the same bytes, in new memory, with the same code.
-/
import Derived.Test.YthjfpglcmgcbkaaRowC
import Derived.Test.YthjfpglcmgcbkaaBy
namespace Go.Proofs.Ythjfpglcmgcbkaa
open Go.RowKit

def stubB (p s : Int) : Bool := inB p 0 11 && inB s 0 15
def stubCode (p s : Int) : Int := if stubB p s = true then 0 else 3
def stubBytes (p s : Int) : List Int := if stubB p s = true then [1, p, s] else []
theorem stubBytes_small (p s : Int) : (stubBytes p s).length ≤ 3 := by unfold stubBytes; split <;> simp

theorem bytesIn_three {lo hi b : Nat} {w : World} {x y z : Int} (hlo : lo ≤ b) (hhi : b < hi) (h0 : w.cell? ⟨b, 0, none⟩ = some (.int .u8 x)) (h1 : w.cell? ⟨b, 1, none⟩ = some (.int .u8 y)) (h2 : w.cell? ⟨b, 2, none⟩ = some (.int .u8 z))
    (f0 : w.frozen? ⟨b, 0, none⟩ = false) (f1 : w.frozen? ⟨b, 1, none⟩ = false) (f2 : w.frozen? ⟨b, 2, none⟩ = false) : BytesIn lo hi w (some ⟨b, 0, none⟩) [x, y, z] := by
  refine .inr ⟨b, 0, rfl, hlo, hhi, fun i hi => ?_, fun i hi => ?_⟩
  · match i, hi with
    | 0, _ => exact h0
    | 1, _ => exact h1
    | 2, _ => exact h2
  · match i, hi with
    | 0, _ => exact f0
    | 1, _ => exact f1
    | 2, _ => exact f2

theorem inB_bounds {n lo hi : Int} (h : inB n lo hi = true) : lo ≤ n ∧ n ≤ hi := by simpa [inB] using h

set_option maxHeartbeats 400000 in
theorem implPackStub_any (p s : Int) (w : World) :
    Calls Try.prog 15 #[.int .i64 p, .int .i64 s] w fun e w' => ∃ a c, e = .returned (.agg #[.int .i64 (stubCode p s), .slice a (stubBytes p s).length c]) ∧ Below w.heap.size w w' ∧ BytesIn w.heap.size w'.heap.size w' a (stubBytes p s) := by
  cases h1 : inB p 0 11
  · have e0 : stubB p s = false := by simp [stubB, h1]
    have e1 : stubCode p s = 3 := by simp [stubCode, e0]
    have e2 : stubBytes p s = [] := by simp [stubBytes, e0]
    rw [e1, e2]
    clear e0 e1 e2
    go_enter Try.func15, Try.ntmps15
    go_wp2_with (go_at_call 45; refine (isWithin_any _ _ _ _).mono ?_; rintro e w' ⟨rfl, rfl⟩)
    go_returns
    exact ⟨_, _, rfl, by go_grown, .inl rfl⟩
  cases h2 : inB s 0 15
  · have e0 : stubB p s = false := by simp [stubB, h2]
    have e1 : stubCode p s = 3 := by simp [stubCode, e0]
    have e2 : stubBytes p s = [] := by simp [stubBytes, e0]
    rw [e1, e2]
    clear e0 e1 e2
    go_enter Try.func15, Try.ntmps15
    go_wp2_with (go_at_call 45; refine (isWithin_any _ _ _ _).mono ?_; rintro e w' ⟨rfl, rfl⟩)
    go_returns
    exact ⟨_, _, rfl, by go_grown, .inl rfl⟩
  · have e0 : stubB p s = true := by simp [stubB, h1, h2]
    have e1 : stubCode p s = 0 := by simp [stubCode, e0]
    have e2 : stubBytes p s = [1, p, s] := by simp [stubBytes, e0]
    rw [e1, e2]
    clear e0 e1 e2
    obtain ⟨p0, p1⟩ := inB_bounds h1
    obtain ⟨s0, s1⟩ := inB_bounds h2
    go_enter Try.func15, Try.ntmps15
    go_wp2_with (go_at_call 45; refine (isWithin_any _ _ _ _).mono ?_; rintro e w' ⟨rfl, rfl⟩)
    go_returns
    exact ⟨_, _, rfl, by go_grown, bytesIn_three (by omega) (by simp) (by simp [go_sem]) (by simp [go_sem]) (by simp [go_sem]) (by simp [go_sem]) (by simp [go_sem]) (by simp [go_sem])⟩

set_option maxHeartbeats 400000 in
theorem l1Place_any (p s : Int) (w : World) : Calls Try.prog 47 #[.int .i64 p, .int .i64 s] w fun e w' => e = .returned (.bool (stubB p s)) ∧ w' = w := by
  cases h1 : inB p 0 11
  · have e0 : stubB p s = false := by simp [stubB, h1]
    rw [e0]
    clear e0
    go_enter Try.func47, Try.ntmps47
    go_wp2_with (go_at_call 58; refine (l1In_any _ _ _ _).mono ?_; rintro e w' ⟨rfl, rfl⟩)
    go_ret
    exact ⟨rfl, rfl⟩
  · have e0 : stubB p s = inB s 0 15 := by simp [stubB, h1]
    rw [e0]
    clear e0
    go_enter Try.func47, Try.ntmps47
    go_wp2_with (go_at_call 58; refine (l1In_any _ _ _ _).mono ?_; rintro e w' ⟨rfl, rfl⟩)
    go_ret
    exact ⟨rfl, rfl⟩

set_option maxHeartbeats 400000 in
theorem l1Stub_any (p s : Int) (w : World) (p0 : 0 ≤ p) (p1 : p ≤ 11) (s0 : 0 ≤ s) (s1 : s ≤ 15) :
    Calls Try.prog 41 #[.int .i64 p, .int .i64 s] w fun e w' => e = .returned (.slice (some ⟨w.heap.size, 0, none⟩) 3 3) ∧ Below w.heap.size w w' ∧ BytesIn w.heap.size w'.heap.size w' (some ⟨w.heap.size, 0, none⟩) [1, p, s] := by
  go_enter Try.func41, Try.ntmps41
  go_wp2
  go_ret
  exact ⟨rfl, by go_grown, bytesIn_three (by omega) (by simp) (by simp [go_sem]) (by simp [go_sem]) (by simp [go_sem]) (by simp [go_sem]) (by simp [go_sem]) (by simp [go_sem])⟩

set_option maxHeartbeats 400000 in
theorem specPackStub_any (p s : Int) (w : World) :
    Calls Try.prog 18 #[.int .i64 p, .int .i64 s] w fun e w' => ∃ a c, e = .returned (.agg #[.int .i64 (stubCode p s), .slice a (stubBytes p s).length c]) ∧ Below w.heap.size w w' ∧ BytesIn w.heap.size w'.heap.size w' a (stubBytes p s) := by
  cases e0 : stubB p s
  · have e1 : stubCode p s = 3 := by simp [stubCode, e0]
    have e2 : stubBytes p s = [] := by simp [stubBytes, e0]
    rw [e1, e2]
    clear e1 e2
    go_enter Try.func18, Try.ntmps18
    go_wp2_with (go_at_call 47; refine (l1Place_any _ _ _).mono ?_; rintro e w' ⟨rfl, rfl⟩)
    go_returns
    exact ⟨_, _, rfl, by go_grown, .inl rfl⟩
  · have e1 : stubCode p s = 0 := by simp [stubCode, e0]
    have e2 : stubBytes p s = [1, p, s] := by simp [stubBytes, e0]
    rw [e1, e2]
    clear e1 e2
    have hb : inB p 0 11 = true ∧ inB s 0 15 = true := by simpa [stubB] using e0
    obtain ⟨p0, p1⟩ := inB_bounds hb.1
    obtain ⟨s0, s1⟩ := inB_bounds hb.2
    clear hb
    go_enter Try.func18, Try.ntmps18
    go_wp2_with (go_at_call 47; refine (l1Place_any _ _ _).mono ?_; rintro e w' ⟨rfl, rfl⟩)
    refine (l1Stub_any p s _ p0 p1 s0 s1).mono ?_
    rintro e w' ⟨rfl, hb, hy⟩
    simp only [World.size_alloc] at hy
    have q0 : w'.cell? ⟨w.heap.size, 0, none⟩ = some (.int .i64 0) := (hb.cell (p := ⟨w.heap.size, 0, none⟩) (by simp)).trans (by simp [go_sem])
    have q1 : w'.cell? ⟨w.heap.size, 1, none⟩ = some (.slice none 0 0) := (hb.cell (p := ⟨w.heap.size, 1, none⟩) (by simp)).trans (by simp [go_sem])
    have f0 : w'.frozen? ⟨w.heap.size, 0, none⟩ = false := (hb.frozen (p := ⟨w.heap.size, 0, none⟩) (by simp)).trans (by simp [go_sem])
    have f1 : w'.frozen? ⟨w.heap.size, 1, none⟩ = false := (hb.frozen (p := ⟨w.heap.size, 1, none⟩) (by simp)).trans (by simp [go_sem])
    have hz : w.heap.size < w'.heap.size := by have := hb.size; simp at this; omega
    have g : Below w.heap.size w w' := Below.trans (by go_grown) (hb.mono (by simp))
    clear hb
    go_wp2_with fail
    refine bodyPost_ret (v := .agg #[.int .i64 0, .slice (some ⟨w.heap.size + 1, 0, none⟩) 3 3]) (by simp [results, Try.results18, go_sem, q0, q1]) rfl ?_
    refine ⟨_, _, rfl, by go_grown, BytesIn.mono (BytesIn.setCell (BytesIn.setCell hy ?_ _) ?_ _) ?_ ?_⟩ <;> simp

end Go.Proofs.Ythjfpglcmgcbkaa
