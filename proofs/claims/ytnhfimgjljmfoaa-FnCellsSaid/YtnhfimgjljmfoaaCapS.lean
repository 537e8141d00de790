/-
  PackStub once more, with what is said of the capacity of its bytes; and how long a text is that bytes are read as.
-/
import Derived.Test.YtnhfimgjljmfoaaCells
import Derived.Test.YtnhfimgjljmfoaaDrawU
namespace Go.Proofs.Ytnhfimgjljmfoaa
open Go.RowKit

set_option maxHeartbeats 400000 in
theorem implPackStub_cap (p s : Int) (w : World) :
    Calls Try.prog 15 #[.int .i64 p, .int .i64 s] w fun e w' => ∃ a c, e = .returned (.agg #[.int .i64 (stubCode p s), .slice a (stubBytes p s).length c]) ∧ (stubBytes p s).length ≤ c ∧ Below w.heap.size w w' ∧ BytesIn w.heap.size w'.heap.size w' a (stubBytes p s) := by
  cases h1 : inB p 0 11
  · have e0 : stubB p s = false := by simp [stubB, h1]
    have e1 : stubCode p s = 3 := by simp [stubCode, e0]
    have e2 : stubBytes p s = [] := by simp [stubBytes, e0]
    rw [e1, e2]
    clear e0 e1 e2
    go_enter Try.func15, Try.ntmps15
    go_wp2_with (go_at_call 45; refine (isWithin_any _ _ _ _).mono ?_; rintro e w' ⟨rfl, rfl⟩)
    go_returns
    exact ⟨_, _, rfl, by simp, by go_grown, .inl rfl⟩
  cases h2 : inB s 0 15
  · have e0 : stubB p s = false := by simp [stubB, h2]
    have e1 : stubCode p s = 3 := by simp [stubCode, e0]
    have e2 : stubBytes p s = [] := by simp [stubBytes, e0]
    rw [e1, e2]
    clear e0 e1 e2
    go_enter Try.func15, Try.ntmps15
    go_wp2_with (go_at_call 45; refine (isWithin_any _ _ _ _).mono ?_; rintro e w' ⟨rfl, rfl⟩)
    go_returns
    exact ⟨_, _, rfl, by simp, by go_grown, .inl rfl⟩
  · have e0 : stubB p s = true := by simp [stubB, h1, h2]
    have e1 : stubCode p s = 0 := by simp [stubCode, e0]
    have e2 : stubBytes p s = [1, p, s] := by simp [stubBytes, e0]
    rw [e1, e2]
    clear e0 e1 e2
    obtain ⟨p0, p1⟩ := inB_bounds h1
    obtain ⟨s0, s1⟩ := inB_bounds h2
    go_enter Try.func15, Try.ntmps15
    go_wp2_with (go_at_call 45; refine (isWithin_any _ _ _ _).mono ?_; rintro e w' ⟨rfl, rfl⟩)
    go_returns
    exact ⟨_, _, rfl, by simp, by go_grown, bytesIn_three (by omega) (by simp) (by simp [go_sem]) (by simp [go_sem]) (by simp [go_sem]) (by simp [go_sem]) (by simp [go_sem]) (by simp [go_sem])⟩

theorem unp_size (ys : List Int) : (unp ys).s.size ≤ ys.length := by
  have h0 : errC.s.size = 0 := rfl
  unfold unp
  split
  · rw [h0]; exact Nat.zero_le _
  · split
    · unfold stubC
      split
      · exact Nat.zero_le _
      · rw [h0]; exact Nat.zero_le _
    · split
      · unfold rowC
        split
        · show (textC ys).size ≤ _
          rw [textC_size]; omega
        · rw [h0]; exact Nat.zero_le _
      · rw [h0]; exact Nat.zero_le _

theorem stub_range (p s : Int) : ∀ z ∈ stubBytes p s, 0 ≤ z ∧ z ≤ 255 := by
  intro z hz
  unfold stubBytes at hz
  split at hz
  · rename_i h
    simp [stubB, inB] at h
    simp at hz
    omega
  · simp at hz

theorem pack_range (f t k v : Int) (s : ByteArray) : ∀ z ∈ packBytes f t k v s, 0 ≤ z ∧ z ≤ 255 := by
  intro z hz
  unfold packBytes at hz
  split at hz
  · rename_i h
    have hf : f = 0 ∨ f = 2 := by
      unfold packCode at h
      split at h
      · assumption
      · omega
    have hq : faultI t k v s = 0 := by rw [packCode, if_pos hf] at h; exact h
    obtain ⟨ht, hk, hv, hs, _⟩ := fault_zero hq
    exact cellBytes_range f t k v s (by omega) (by omega) ht hk hv hs z hz
  · simp at hz

end Go.Proofs.Ytnhfimgjljmfoaa
