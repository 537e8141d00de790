/-
  The law FnExactIsBefore answers true at every two rows.
-/
import Derived.Test.YtnhfimgjljmfoaaRowB
import Derived.Deep.RegionHeld
namespace Go.Proofs.Ytnhfimgjljmfoaa
open Go.RowKit

/-- Behind the call's start w0: block a holds the one row, block b the other one; nothing that was there has turned. -/
def TwoRows (w0 : World) (a b : Nat) (t k v : Int) (s : ByteArray) (u l x : Int) (r : ByteArray) (w' : World) : Prop :=
  w'.cell? ⟨a, 0, none⟩ = some (.int .i64 t) ∧ w'.cell? ⟨a, 1, none⟩ = some (.int .i64 k) ∧ w'.cell? ⟨a, 2, none⟩ = some (.int .i64 v) ∧ w'.cell? ⟨a, 3, none⟩ = some (.string s) ∧
  w'.cell? ⟨b, 0, none⟩ = some (.int .i64 u) ∧ w'.cell? ⟨b, 1, none⟩ = some (.int .i64 l) ∧ w'.cell? ⟨b, 2, none⟩ = some (.int .i64 x) ∧ w'.cell? ⟨b, 3, none⟩ = some (.string r) ∧
  a < w'.heap.size ∧ b < w'.heap.size ∧ Below w0.heap.size w0 w'

theorem two_keep {w0 : World} {a b : Nat} {t k v : Int} {s : ByteArray} {u l x : Int} {r : ByteArray} {w1 w2 : World} (hb : Below w1.heap.size w1 w2) (h : TwoRows w0 a b t k v s u l x r w1) : TwoRows w0 a b t k v s u l x r w2 := by
  obtain ⟨p0, p1, p2, p3, q0, q1, q2, q3, ha, hb', hg⟩ := h
  have hz := hb.size
  have hz0 := hg.size
  exact ⟨(hb.cell (p := ⟨a, 0, none⟩) ha).trans p0, (hb.cell (p := ⟨a, 1, none⟩) ha).trans p1, (hb.cell (p := ⟨a, 2, none⟩) ha).trans p2, (hb.cell (p := ⟨a, 3, none⟩) ha).trans p3,
    (hb.cell (p := ⟨b, 0, none⟩) hb').trans q0, (hb.cell (p := ⟨b, 1, none⟩) hb').trans q1, (hb.cell (p := ⟨b, 2, none⟩) hb').trans q2, (hb.cell (p := ⟨b, 3, none⟩) hb').trans q3,
    by omega, by omega, hg.trans (hb.mono (by omega))⟩

theorem two_drew {w0 : World} {a b : Nat} {t k v : Int} {s : ByteArray} {u l x : Int} {r : ByteArray} {w1 : World} (h : TwoRows w0 a b t k v s u l x r w1) : TwoRows w0 a b t k v s u l x r w1.drew := by
  obtain ⟨p0, p1, p2, p3, q0, q1, q2, q3, ha, hb', hg⟩ := h
  exact ⟨p0, p1, p2, p3, q0, q1, q2, q3, ha, hb', hg.drew⟩

set_option maxHeartbeats 1000000 in
theorem lawIsBefore_fits (t k v : Int) (s : ByteArray) (u l x : Int) (r : ByteArray) (w : World) (hs : s.size + r.size ≤ 1048576) :
    Calls Try.prog 5 #[.agg #[.int .i64 t, .int .i64 k, .int .i64 v, .string s], .agg #[.int .i64 u, .int .i64 l, .int .i64 x, .string r]] w fun e w' => e = .returned (.bool true) ∧ Below w.heap.size w w' := by
  go_enter Try.func5, Try.ntmps5
  go_wp2_with fail
  refine (szRow_fits t k v s _ _ ?_ ?_).mono ?_
  · omega
  · omega
  rintro e w1 ⟨rfl, hb1⟩
  obtain ⟨p0, p1, p2, p3⟩ : RowAt w1 w.heap.size t k v s := rowAt_below hb1 (by simp; try omega) ⟨by simp [go_sem], by simp [go_sem], by simp [go_sem], by simp [go_sem]⟩
  obtain ⟨q0, q1, q2, q3⟩ : RowAt w1 (w.heap.size + 1) u l x r := rowAt_below hb1 (by simp; try omega) ⟨by simp [go_sem], by simp [go_sem], by simp [go_sem], by simp [go_sem]⟩
  have hz1 : w.heap.size + 2 ≤ w1.heap.size := by have := hb1.size; simp at this; omega
  have g1 : Below w.heap.size w w1 := Below.trans (by go_grown) (hb1.mono (by simp; omega))
  clear hb1
  go_wp2_with fail
  refine (szRow_fits u l x r _ _ ?_ ?_).mono ?_
  · omega
  · omega
  rintro e w2 ⟨rfl, hb2⟩
  obtain ⟨p0, p1, p2, p3⟩ : RowAt w2 w.heap.size t k v s := rowAt_below hb2 (by omega) ⟨p0, p1, p2, p3⟩
  obtain ⟨q0, q1, q2, q3⟩ : RowAt w2 (w.heap.size + 1) u l x r := rowAt_below hb2 (by omega) ⟨q0, q1, q2, q3⟩
  have hz2 : w.heap.size + 2 ≤ w2.heap.size := by have := hb2.size; omega
  have g2 : Below w.heap.size w w2 := g1.trans (hb2.mono (by omega))
  clear hb2 g1 hz1
  have h3 : ¬ (1048576 - (s.size : Int) - (r.size : Int) < 0) := by omega
  go_wp2_with fail
  have hT : TwoRows w w.heap.size (w.heap.size + 1) t k v s u l x r w2 := ⟨p0, p1, p2, p3, q0, q1, q2, q3, by omega, by omega, g2⟩
  go_region_held (fun w' => w'.cell? ⟨w.heap.size, 0, none⟩ = some (.int .i64 t) ∧ w'.cell? ⟨w.heap.size, 1, none⟩ = some (.int .i64 k) ∧ w'.cell? ⟨w.heap.size, 2, none⟩ = some (.int .i64 v) ∧ w'.cell? ⟨w.heap.size, 3, none⟩ = some (.string s) ∧
      w'.cell? ⟨w.heap.size + 1, 0, none⟩ = some (.int .i64 u) ∧ w'.cell? ⟨w.heap.size + 1, 1, none⟩ = some (.int .i64 l) ∧ w'.cell? ⟨w.heap.size + 1, 2, none⟩ = some (.int .i64 x) ∧ w'.cell? ⟨w.heap.size + 1, 3, none⟩ = some (.string r) ∧
      w.heap.size < w'.heap.size ∧ w.heap.size + 1 < w'.heap.size ∧ Below w.heap.size w w')
    (first | exact two_keep hb (by assumption) | exact two_drew hT)
    (first | (go_at_call 23; refine (toRow_any _ _ _ _ _).mono ?_; rintro e w' ⟨rfl, hb⟩) | (go_at_call 25; refine (specIsBefore_any _ _ _ _ _ _ _ _ _).mono ?_; rintro e w' ⟨rfl, hb⟩))
  have hT2 : TwoRows w w.heap.size (w.heap.size + 1) t k v s u l x r w' := by assumption
  clear hT hb
  go_wp2_with fail
  go_region_held (fun w' => w'.cell? ⟨w.heap.size, 0, none⟩ = some (.int .i64 t) ∧ w'.cell? ⟨w.heap.size, 1, none⟩ = some (.int .i64 k) ∧ w'.cell? ⟨w.heap.size, 2, none⟩ = some (.int .i64 v) ∧ w'.cell? ⟨w.heap.size, 3, none⟩ = some (.string s) ∧
      w'.cell? ⟨w.heap.size + 1, 0, none⟩ = some (.int .i64 u) ∧ w'.cell? ⟨w.heap.size + 1, 1, none⟩ = some (.int .i64 l) ∧ w'.cell? ⟨w.heap.size + 1, 2, none⟩ = some (.int .i64 x) ∧ w'.cell? ⟨w.heap.size + 1, 3, none⟩ = some (.string r) ∧
      w.heap.size < w'.heap.size ∧ w.heap.size + 1 < w'.heap.size ∧ Below w.heap.size w w')
    (first | exact two_keep hb (by assumption) | exact two_drew hT2)
    (first | (go_at_call 23; refine (toRow_any _ _ _ _ _).mono ?_; rintro e w' ⟨rfl, hb⟩) | (go_at_call 26; refine (implIsBefore_any _ _ _ _ _ _ _ _ _).mono ?_; rintro e w' ⟨rfl, hb⟩))
  have hT3 : TwoRows w w.heap.size (w.heap.size + 1) t k v s u l x r w' := by assumption
  clear hT2 hb
  go_wp2_with fail
  go_ret
  exact ⟨rfl, hT3.2.2.2.2.2.2.2.2.2.2⟩

set_option maxHeartbeats 400000 in
theorem lawIsBefore_first (t k v : Int) (s : ByteArray) (u l x : Int) (r : ByteArray) (w : World) (hm : s.size ≤ maxLen) (hs : 1048576 < s.size) :
    Calls Try.prog 5 #[.agg #[.int .i64 t, .int .i64 k, .int .i64 v, .string s], .agg #[.int .i64 u, .int .i64 l, .int .i64 x, .string r]] w fun e w' => e = .returned (.bool true) ∧ Below w.heap.size w w' := by
  go_enter Try.func5, Try.ntmps5
  go_wp2_with fail
  refine (szRow_over t k v s _ _ hm ?_ ?_ ?_).mono ?_
  · omega
  · omega
  · omega
  rintro e w1 ⟨rfl, hb1⟩
  have g1 : Below w.heap.size w w1 := Below.trans (by go_grown) (hb1.mono (by simp; omega))
  clear hb1
  go_wp2_with fail
  go_ret
  exact ⟨rfl, g1⟩

set_option maxHeartbeats 400000 in
theorem lawIsBefore_second (t k v : Int) (s : ByteArray) (u l x : Int) (r : ByteArray) (w : World) (hm : r.size ≤ maxLen) (hs : s.size ≤ 1048576) (hr : 1048576 < s.size + r.size) :
    Calls Try.prog 5 #[.agg #[.int .i64 t, .int .i64 k, .int .i64 v, .string s], .agg #[.int .i64 u, .int .i64 l, .int .i64 x, .string r]] w fun e w' => e = .returned (.bool true) ∧ Below w.heap.size w w' := by
  go_enter Try.func5, Try.ntmps5
  go_wp2_with fail
  refine (szRow_fits t k v s _ _ ?_ ?_).mono ?_
  · omega
  · omega
  rintro e w1 ⟨rfl, hb1⟩
  obtain ⟨q0, q1, q2, q3⟩ : RowAt w1 (w.heap.size + 1) u l x r := rowAt_below hb1 (by simp; try omega) ⟨by simp [go_sem], by simp [go_sem], by simp [go_sem], by simp [go_sem]⟩
  have hz1 : w.heap.size + 2 ≤ w1.heap.size := by have := hb1.size; simp at this; omega
  have g1 : Below w.heap.size w w1 := Below.trans (by go_grown) (hb1.mono (by simp; omega))
  clear hb1
  go_wp2_with fail
  refine (szRow_over u l x r _ _ hm ?_ ?_ ?_).mono ?_
  · omega
  · omega
  · omega
  rintro e w2 ⟨rfl, hb2⟩
  have g2 : Below w.heap.size w w2 := g1.trans (hb2.mono (by omega))
  clear hb2
  go_wp2_with fail
  go_ret
  exact ⟨rfl, g2⟩

theorem lawIsBefore_any (t k v : Int) (s : ByteArray) (u l x : Int) (r : ByteArray) (w : World) (hs : s.size ≤ maxLen) (hr : r.size ≤ maxLen) :
    Calls Try.prog 5 #[.agg #[.int .i64 t, .int .i64 k, .int .i64 v, .string s], .agg #[.int .i64 u, .int .i64 l, .int .i64 x, .string r]] w fun e w' => e = .returned (.bool true) ∧ Below w.heap.size w w' := by
  by_cases h1 : 1048576 < s.size
  · exact lawIsBefore_first t k v s u l x r w hs h1
  · by_cases h2 : 1048576 < s.size + r.size
    · exact lawIsBefore_second t k v s u l x r w hr (by omega) h2
    · exact lawIsBefore_fits t k v s u l x r w (by omega)

end Go.Proofs.Ytnhfimgjljmfoaa
