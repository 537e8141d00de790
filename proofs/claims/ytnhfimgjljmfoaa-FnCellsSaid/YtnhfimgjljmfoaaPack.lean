/-
  The contracts of PackRow and of its model: both make the same bytes, in new memory, with the same code.
-/
import Derived.Test.YtnhfimgjljmfoaaCell
namespace Go.Proofs.Ytnhfimgjljmfoaa
open Go.RowKit

def packCode (f t k v : Int) (s : ByteArray) : Int := if f = 0 ∨ f = 2 then faultI t k v s else 1
def packBytes (f t k v : Int) (s : ByteArray) : List Int := if packCode f t k v s = 0 then cellBytes f t k v s else []

theorem cellBytes_length (f t k v : Int) (s : ByteArray) : (cellBytes f t k v s).length = 6 + s.size := by
  simp [cellBytes]; omega

theorem fault_zero {t k v : Int} {s : ByteArray} (h : faultI t k v s = 0) : (0 ≤ t ∧ t ≤ 3) ∧ (1 ≤ k ∧ k ≤ 99) ∧ (0 ≤ v ∧ v ≤ 999) ∧ s.size ≤ 8 ∧ txtB s = true := by
  unfold faultI at h
  by_cases h1 : rngB t k v = true
  · by_cases h2 : txtB s = true
    · simp [rngB, inB] at h1
      refine ⟨by omega, by omega, by omega, ?_, h2⟩
      simp [txtB] at h2
      exact h2.1
    · simp [h1, h2] at h
  · simp [h1] at h

theorem packBytes_small (f t k v : Int) (s : ByteArray) : (packBytes f t k v s).length ≤ 14 := by
  unfold packBytes
  split
  · rename_i h
    unfold packCode at h
    split at h
    · have := (fault_zero h).2.2.2.1
      rw [cellBytes_length]; omega
    · omega
  · simp

/-- Block b holds the cells of a BytesResult that may be written. -/
structure ResOwn (w : World) (b : Nat) (q : Int) (v : Value) : Prop where
  c0 : w.cell? ⟨b, 0, none⟩ = some (.int .i64 q)
  c1 : w.cell? ⟨b, 1, none⟩ = some v
  f0 : w.frozen? ⟨b, 0, none⟩ = false
  f1 : w.frozen? ⟨b, 1, none⟩ = false

theorem ResOwn.below {B b : Nat} {w w' : World} {q : Int} {v : Value} (h : ResOwn w b q v) (hb : Below B w w') (hlt : b < B) : ResOwn w' b q v :=
  ⟨(hb.cell (p := ⟨b, 0, none⟩) hlt).trans h.c0, (hb.cell (p := ⟨b, 1, none⟩) hlt).trans h.c1, (hb.frozen (p := ⟨b, 0, none⟩) hlt).trans h.f0, (hb.frozen (p := ⟨b, 1, none⟩) hlt).trans h.f1⟩

set_option maxHeartbeats 400000 in
theorem implPackRow_flag (f t k v : Int) (s : ByteArray) (w : World) (h0 : f ≠ 0) (h2 : f ≠ 2) :
    Calls Try.prog 16 #[.int .i64 f, .agg #[.int .i64 t, .int .i64 k, .int .i64 v, .string s]] w fun e w' => e = .returned (.agg #[.int .i64 1, .slice none 0 0]) ∧ Below w.heap.size w w' := by
  have d0 : (f == 0) = false := by simpa using h0
  have d2 : (f == 2) = false := by simpa using h2
  go_enter Try.func16, Try.ntmps16
  go_wp2_with fail
  go_returns
  exact ⟨rfl, by go_grown⟩

set_option maxHeartbeats 400000 in
theorem implPackRow_fault (f t k v : Int) (s : ByteArray) (w : World) (hf : f = 0 ∨ f = 2) (hs : s.size ≤ maxLen) (hq : (faultI t k v s != 0) = true) :
    Calls Try.prog 16 #[.int .i64 f, .agg #[.int .i64 t, .int .i64 k, .int .i64 v, .string s]] w fun e w' => e = .returned (.agg #[.int .i64 (faultI t k v s), .slice none 0 0]) ∧ Below w.heap.size w w' := by
  rcases hf with rfl | rfl
  all_goals
    go_enter Try.func16, Try.ntmps16
    go_wp2_with fail
    refine (implRowFault_any t k v s _ hs).mono ?_
    rintro e w1 ⟨rfl, hb⟩
    obtain ⟨r0, r1, r2, r3⟩ : ResOwn w1 (w.heap.size + 1) 0 (.slice none 0 0) := ResOwn.below ⟨by simp [go_sem], by simp [go_sem], by simp [go_sem], by simp [go_sem]⟩ hb (by simp)
    have g : Below w.heap.size w w1 := Below.trans (by go_grown) (hb.mono (by simp; omega))
    have hz : w.heap.size + 1 < w1.heap.size := by have := hb.size; simp at this; omega
    clear hb
    go_wp2_with fail
    refine bodyPost_ret (v := .agg #[.int .i64 (faultI t k v s), .slice none 0 0]) (by simp [results, Try.results16, go_sem, r0, r1]) rfl ?_
    exact ⟨rfl, by go_grown⟩

set_option maxHeartbeats 400000 in
theorem implPackRow_ok (f t k v : Int) (s : ByteArray) (w : World) (hf : f = 0 ∨ f = 2) (hs : s.size ≤ maxLen) (hq : faultI t k v s = 0) :
    Calls Try.prog 16 #[.int .i64 f, .agg #[.int .i64 t, .int .i64 k, .int .i64 v, .string s]] w fun e w' => ∃ g c, e = .returned (.agg #[.int .i64 0, .slice (some ⟨g, 0, none⟩) (6 + s.size) c]) ∧ Below w.heap.size w w' ∧ BytesIn w.heap.size w'.heap.size w' (some ⟨g, 0, none⟩) (cellBytes f t k v s) := by
  obtain ⟨⟨t0, t1⟩, ⟨k0, k1⟩, ⟨v0, v1⟩, h8, _⟩ := fault_zero hq
  have HQ : Hid (faultI t k v s = 0) := hq
  clear hq
  rcases hf with rfl | rfl
  all_goals
    go_enter Try.func16, Try.ntmps16
    go_wp2_with fail
    refine (implRowFault_any t k v s _ hs).mono ?_
    rintro e w1 ⟨rfl, hb⟩
    rw [HQ.out]
    obtain ⟨r0, r1, r2, r3⟩ : ResOwn w1 (w.heap.size + 1) 0 (.slice none 0 0) := ResOwn.below ⟨by simp [go_sem], by simp [go_sem], by simp [go_sem], by simp [go_sem]⟩ hb (by simp)
    obtain ⟨p0, p1, p2, p3⟩ : RowAt w1 w.heap.size t k v s := rowAt_below hb (by simp; omega) ⟨by simp [go_sem], by simp [go_sem], by simp [go_sem], by simp [go_sem]⟩
    have g : Below w.heap.size w w1 := Below.trans (by go_grown) (hb.mono (by simp; omega))
    have hz : w.heap.size + 1 < w1.heap.size := by have := hb.size; simp at this; omega
    clear hb
    go_wp2_with fail
    refine (rowCell_any _ t k v s _ (by omega) (by omega) t0 t1 k0 k1 v0 v1 h8).mono ?_
    rintro e w2 ⟨x, c, rfl, hb2, hy⟩
    obtain ⟨r0, r1, r2, r3⟩ : ResOwn w2 (w.heap.size + 1) 0 (.slice none 0 0) := ResOwn.below ⟨r0, r1, r2, r3⟩ hb2 hz
    have g2 : Below w.heap.size w w2 := g.trans (hb2.mono (by omega))
    have hz2 : w.heap.size + 1 < w2.heap.size := by have := hb2.size; omega
    have hy2 : BytesIn (w.heap.size + 2) w2.heap.size w2 (some ⟨x, 0, none⟩) _ := hy.mono (by omega) (Nat.le_refl _)
    clear hb2 hy g hz
    go_wp2_with fail
    refine bodyPost_ret (v := .agg #[.int .i64 0, .slice (some ⟨x, 0, none⟩) (6 + s.size) c]) (by simp [results, Try.results16, go_sem, r0, r1]) rfl ?_
    refine ⟨x, c, rfl, by go_grown, BytesIn.mono (BytesIn.setCell (BytesIn.setCell hy2 ?_ _) ?_ _) ?_ ?_⟩ <;> simp

theorem implPackRow_any (f t k v : Int) (s : ByteArray) (w : World) (hs : s.size ≤ maxLen) :
    Calls Try.prog 16 #[.int .i64 f, .agg #[.int .i64 t, .int .i64 k, .int .i64 v, .string s]] w fun e w' => ∃ a c, e = .returned (.agg #[.int .i64 (packCode f t k v s), .slice a (packBytes f t k v s).length c]) ∧ Below w.heap.size w w' ∧ BytesIn w.heap.size w'.heap.size w' a (packBytes f t k v s) := by
  by_cases hf : f = 0 ∨ f = 2
  · by_cases hq : faultI t k v s = 0
    · have e1 : packCode f t k v s = 0 := by simp [packCode, hf, hq]
      have e2 : packBytes f t k v s = cellBytes f t k v s := by simp [packBytes, e1]
      refine (implPackRow_ok f t k v s w hf hs hq).mono ?_
      rintro e w' ⟨g, c, rfl, hb, hy⟩
      rw [e1, e2, cellBytes_length]
      exact ⟨_, _, rfl, hb, hy⟩
    · have e1 : packCode f t k v s = faultI t k v s := by simp [packCode, hf]
      have e2 : packBytes f t k v s = [] := by simp [packBytes, e1, hq]
      refine (implPackRow_fault f t k v s w hf hs (by simpa using hq)).mono ?_
      rintro e w' ⟨rfl, hb⟩
      rw [e1, e2]
      exact ⟨_, _, rfl, hb, .inl rfl⟩
  · have e1 : packCode f t k v s = 1 := by simp [packCode, hf]
    have e2 : packBytes f t k v s = [] := by simp [packBytes, e1]
    refine (implPackRow_flag f t k v s w (by omega) (by omega)).mono ?_
    rintro e w' ⟨rfl, hb⟩
    rw [e1, e2]
    exact ⟨_, _, rfl, hb, .inl rfl⟩

set_option maxHeartbeats 400000 in
theorem specPackRow_flag (f t k v : Int) (s : ByteArray) (w : World) (h0 : f ≠ 0) (h2 : f ≠ 2) :
    Calls Try.prog 20 #[.int .i64 f, .agg #[.int .i64 t, .int .i64 k, .int .i64 v, .string s]] w fun e w' => e = .returned (.agg #[.int .i64 1, .slice none 0 0]) ∧ Below w.heap.size w w' := by
  have d0 : (f != 0) = true := by simpa using h0
  have d2 : (f != 2) = true := by simpa using h2
  go_enter Try.func20, Try.ntmps20
  go_wp2_with fail
  go_returns
  exact ⟨rfl, by go_grown⟩

set_option maxHeartbeats 400000 in
theorem specPackRow_fault (f t k v : Int) (s : ByteArray) (w : World) (hf : f = 0 ∨ f = 2) (hs : s.size ≤ maxLen) (hq : (faultI t k v s != 0) = true) :
    Calls Try.prog 20 #[.int .i64 f, .agg #[.int .i64 t, .int .i64 k, .int .i64 v, .string s]] w fun e w' => e = .returned (.agg #[.int .i64 (faultI t k v s), .slice none 0 0]) ∧ Below w.heap.size w w' := by
  rcases hf with rfl | rfl
  all_goals
    go_enter Try.func20, Try.ntmps20
    go_wp2_with fail
    refine (l1Fault_any _ t k v s _ ?_ hs).mono ?_
    · exact ⟨by simp [go_sem], by simp [go_sem], by simp [go_sem], by simp [go_sem]⟩
    rintro e w1 ⟨rfl, rfl⟩
    go_wp2_with fail
    go_returns
    exact ⟨rfl, by go_grown⟩

set_option maxHeartbeats 400000 in
theorem specPackRow_ok (f t k v : Int) (s : ByteArray) (w : World) (hf : f = 0 ∨ f = 2) (hs : s.size ≤ maxLen) (hq : faultI t k v s = 0) :
    Calls Try.prog 20 #[.int .i64 f, .agg #[.int .i64 t, .int .i64 k, .int .i64 v, .string s]] w fun e w' => ∃ g c, e = .returned (.agg #[.int .i64 0, .slice (some ⟨g, 0, none⟩) (6 + s.size) c]) ∧ Below w.heap.size w w' ∧ BytesIn w.heap.size w'.heap.size w' (some ⟨g, 0, none⟩) (cellBytes f t k v s) := by
  obtain ⟨⟨t0, t1⟩, ⟨k0, k1⟩, ⟨v0, v1⟩, h8, _⟩ := fault_zero hq
  have HQ : Hid (faultI t k v s = 0) := hq
  clear hq
  rcases hf with rfl | rfl
  all_goals
    go_enter Try.func20, Try.ntmps20
    go_wp2_with fail
    refine (l1Fault_any _ t k v s _ ?_ hs).mono ?_
    · exact ⟨by simp [go_sem], by simp [go_sem], by simp [go_sem], by simp [go_sem]⟩
    rintro e w1 ⟨rfl, rfl⟩
    rw [HQ.out]
    go_wp2_with fail
    refine (l1Cell_any _ t k v s _ _ (by omega) (by omega) t0 t1 k0 k1 v0 v1 h8 ?_).mono ?_
    · exact ⟨by simp [go_sem], by simp [go_sem], by simp [go_sem], by simp [go_sem]⟩
    rintro e w2 ⟨x, c, rfl, hb2, hy⟩
    obtain ⟨r0, r1, r2, r3⟩ : ResOwn w2 (w.heap.size + 1) 0 (.slice none 0 0) := ResOwn.below ⟨by simp [go_sem], by simp [go_sem], by simp [go_sem], by simp [go_sem]⟩ hb2 (by simp)
    have g2 : Below w.heap.size w w2 := Below.trans (by go_grown) (hb2.mono (by simp; omega))
    have hz2 : w.heap.size + 1 < w2.heap.size := by have := hb2.size; simp at this; omega
    have hy2 : BytesIn (w.heap.size + 2) w2.heap.size w2 (some ⟨x, 0, none⟩) _ := hy.mono (by simp) (Nat.le_refl _)
    clear hb2 hy
    go_wp2_with fail
    refine bodyPost_ret (v := .agg #[.int .i64 0, .slice (some ⟨x, 0, none⟩) (6 + s.size) c]) (by simp [results, Try.results20, go_sem, r0, r1]) rfl ?_
    refine ⟨x, c, rfl, by go_grown, BytesIn.mono (BytesIn.setCell (BytesIn.setCell hy2 ?_ _) ?_ _) ?_ ?_⟩ <;> simp

theorem specPackRow_any (f t k v : Int) (s : ByteArray) (w : World) (hs : s.size ≤ maxLen) :
    Calls Try.prog 20 #[.int .i64 f, .agg #[.int .i64 t, .int .i64 k, .int .i64 v, .string s]] w fun e w' => ∃ a c, e = .returned (.agg #[.int .i64 (packCode f t k v s), .slice a (packBytes f t k v s).length c]) ∧ Below w.heap.size w w' ∧ BytesIn w.heap.size w'.heap.size w' a (packBytes f t k v s) := by
  by_cases hf : f = 0 ∨ f = 2
  · by_cases hq : faultI t k v s = 0
    · have e1 : packCode f t k v s = 0 := by simp [packCode, hf, hq]
      have e2 : packBytes f t k v s = cellBytes f t k v s := by simp [packBytes, e1]
      refine (specPackRow_ok f t k v s w hf hs hq).mono ?_
      rintro e w' ⟨g, c, rfl, hb, hy⟩
      rw [e1, e2, cellBytes_length]
      exact ⟨_, _, rfl, hb, hy⟩
    · have e1 : packCode f t k v s = faultI t k v s := by simp [packCode, hf]
      have e2 : packBytes f t k v s = [] := by simp [packBytes, e1, hq]
      refine (specPackRow_fault f t k v s w hf hs (by simpa using hq)).mono ?_
      rintro e w' ⟨rfl, hb⟩
      rw [e1, e2]
      exact ⟨_, _, rfl, hb, .inl rfl⟩
  · have e1 : packCode f t k v s = 1 := by simp [packCode, hf]
    have e2 : packBytes f t k v s = [] := by simp [packBytes, e1]
    refine (specPackRow_flag f t k v s w (by omega) (by omega)).mono ?_
    rintro e w' ⟨rfl, hb⟩
    rw [e1, e2]
    exact ⟨_, _, rfl, hb, .inl rfl⟩

end Go.Proofs.Ytnhfimgjljmfoaa
