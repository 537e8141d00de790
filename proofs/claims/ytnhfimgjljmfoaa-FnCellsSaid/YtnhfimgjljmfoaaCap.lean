/-
  The contracts of rowCell, l1Cell, PackRow once more, with what is said of the capacity of their bytes; and of l1Stub at wider numbers.
-/
import Derived.Test.YtnhfimgjljmfoaaPack
import Derived.Test.YtnhfimgjljmfoaaStub
namespace Go.Proofs.Ytnhfimgjljmfoaa
open Go.RowKit

theorem ownsRow_cap {w : World} {base e n g cap : Nat} {xs : List Value} (h : w.ownsRow base e 1 (.slice (some ⟨g, 0, none⟩) n cap) n xs) : n ≤ cap := by
  rcases h.2 with ⟨h1, _⟩ | ⟨g', cap', cur, h1, _, _, hle, _⟩
  · cases h1
  · cases h1
    exact hle

set_option maxHeartbeats 400000 in
theorem rowCell_cap (f t k v : Int) (s : ByteArray) (w : World) (f0 : 0 ≤ f) (f1 : f ≤ 2) (t0 : 0 ≤ t) (t1 : t ≤ 3) (k0 : 1 ≤ k) (k1 : k ≤ 99) (v0 : 0 ≤ v) (v1 : v ≤ 999) (hs : s.size ≤ 8) :
    Calls Try.prog 46 #[.int .i64 f, .agg #[.int .i64 t, .int .i64 k, .int .i64 v, .string s]] w fun e w' =>
      ∃ g c, e = .returned (.slice (some ⟨g, 0, none⟩) (6 + s.size) c) ∧ 6 + s.size ≤ c ∧ Below w.heap.size w w' ∧ BytesIn w.heap.size w'.heap.size w' (some ⟨g, 0, none⟩) (cellBytes f t k v s) := by
  obtain ⟨i0, hi, hz0, hz1, hz2⟩ := info5
  have ha := and255 v v0 v1
  go_enter Try.func46, Try.ntmps46
  go_wp2_with (at_builtin; go_must (refine Lib.wpList_append_own_string _ rfl _ _ 22 9 rfl (w.heap.size + 1) 5 i0 Try.underlying22 Try.underlying9 hi hz0 hz1 hz2 (.slice (some ⟨w.heap.size + 1, 0, none⟩) 6 6) 6 [.int .u8 f, .int .u8 t, .int .u8 k, .int .u8 (v / 256), .int .u8 (v % 256), .int .u8 s.size] rfl ?c1 s rfl ?c3 ?c4 ?c5 ?_))
  case c1 =>
    have h := World.ownsRow_lit (base := w.heap.size + 1) (e := 5) (size := 1) (w.alloc (.cells #[.int .i64 t, .int .i64 k, .int .i64 v, .string s] 26)) #[.int .u8 f, .int .u8 t, .int .u8 k, .int .u8 (v / 256), .int .u8 (v % 256), .int .u8 s.size] 6 (by simp) (by unfold maxLen; omega) rfl
    simp only [World.size_alloc] at h
    exact h
  case c3 => unfold maxLen; omega
  case c4 => omega
  case c5 => simp
  intro v' w' hown hgrow _
  obtain ⟨g, cap, hv⟩ := Joins.ownsRow_form hown (by omega)
  subst hv
  have hcap := ownsRow_cap hown
  have hB : Below w.heap.size w w' := Below.grown (B := w.heap.size) (by go_grown) hgrow (by simp; omega) (fun k hk => by simp [Value.ownBlock] at hk; omega)
  have hY : BytesIn w.heap.size w'.heap.size w' (some ⟨g, 0, none⟩) (cellBytes f t k v s) := by
    refine BytesIn.mono (bytesIn_owns (base := w.heap.size + 1) (e := 5) (n := 6 + s.size) (cap := cap) ?_) (by omega) (Nat.le_refl _)
    rw [show (cellBytes f t k v s).map (Value.int .u8) = _ from by rw [cellBytes, List.map_append, ← strCells_ints]]
    exact hown
  clear hown hgrow
  go_wp2_with fail
  go_ret
  exact ⟨g, cap, rfl, hcap, hB, hY⟩

set_option maxHeartbeats 1000000 in
theorem l1Cell_cap (f t k v : Int) (s : ByteArray) (b : Nat) (w : World) (f0 : 0 ≤ f) (f1 : f ≤ 2) (t0 : 0 ≤ t) (t1 : t ≤ 3) (k0 : 1 ≤ k) (k1 : k ≤ 99) (v0 : 0 ≤ v) (v1 : v ≤ 999) (hs : s.size ≤ 8) (h : RowAt w b t k v s) :
    Calls Try.prog 38 #[.int .i64 f, .pointer (some ⟨b, 0, none⟩)] w fun e w' =>
      ∃ g c, e = .returned (.slice (some ⟨g, 0, none⟩) (6 + s.size) c) ∧ 6 + s.size ≤ c ∧ Below w.heap.size w w' ∧ BytesIn w.heap.size w'.heap.size w' (some ⟨g, 0, none⟩) (cellBytes f t k v s) := by
  obtain ⟨i0, hi, hz0, hz1, hz2⟩ := info5
  obtain ⟨c0, c1, c2, c3⟩ := h
  have hlt : b < w.heap.size := World.block_lt_of_cell? w _ c0
  have kc := fun (w : World) (s : ByteArray) => run_bytes_of_string (P := Try.prog) w 9 22 5 s Try.underlying9 Try.underlying22 Try.underlying5
  go_enter Try.func38, Try.ntmps38
  go_wp2_with fail
  go_region_held (fun w' => w'.cell? ⟨b, 0, none⟩ = some (.int .i64 t) ∧ w'.cell? ⟨b, 1, none⟩ = some (.int .i64 k) ∧ w'.cell? ⟨b, 2, none⟩ = some (.int .i64 v) ∧ w'.cell? ⟨b, 3, none⟩ = some (.string s)) (go_keep) (fail)
  go_wp2_with (at_builtin; go_must (refine wpList_append_own _ rfl _ _ 22 rfl w.heap.size 5 i0 (.int .u8 0) 1 1 Try.underlying22 hi hz0 hz1 hz2 rfl (by decide) (.slice (some ⟨w.heap.size, 0, none⟩) 6 6) 6 [.int .u8 f, .int .u8 t, .int .u8 k, .int .u8 (v / 256), .int .u8 (v % 256), .int .u8 s.size] rfl ?c1 ⟨w.heap.size + 1, 0, none⟩ s.size _ (Lib.strCells s) rfl ?c2 ?c3 ?c4 ?c5 ?c6 ?c7 ?_))
  case c1 =>
    repeat (refine ownsRow_drew ?_)
    exact World.ownsRow.alloc (World.ownsRow_lit (base := w.heap.size) (e := 5) (size := 1) w #[.int .u8 f, .int .u8 t, .int .u8 k, .int .u8 (v / 256), .int .u8 (v % 256), .int .u8 s.size] 6 (Nat.le_refl _) (by unfold maxLen; omega) rfl) _
  case c2 => rw [Lib.strCells_length, Nat.mul_one]
  case c3 =>
    intro j u hj
    exact bytesRow_cell _ s _ _ _ _ (by simp) j u hj
  case c4 => intro u hu; simp [Lib.strCells] at hu; obtain ⟨x, _, rfl⟩ := hu; rfl
  case c5 => unfold maxLen; omega
  case c6 => omega
  case c7 => simp; omega
  intro v' w' hown hgrow _
  obtain ⟨g, cap, hv⟩ := Joins.ownsRow_form hown (by omega)
  subst hv
  have hcap := ownsRow_cap hown
  have hB : Below w.heap.size w w' := Below.grown (B := w.heap.size) (by go_grown) hgrow (by simp; omega) (fun k hk => by simp [Value.ownBlock] at hk; omega)
  have hY : BytesIn w.heap.size w'.heap.size w' (some ⟨g, 0, none⟩) (cellBytes f t k v s) := by
    refine bytesIn_owns (e := 5) (n := 6 + s.size) (cap := cap) ?_
    rw [show (cellBytes f t k v s).map (Value.int .u8) = _ from by rw [cellBytes, List.map_append, ← strCells_ints]]
    exact hown
  clear hown hgrow
  go_wp2_with fail
  go_ret
  exact ⟨g, cap, rfl, hcap, hB, hY⟩

set_option maxHeartbeats 400000 in
theorem implPackRow_okCap (f t k v : Int) (s : ByteArray) (w : World) (hf : f = 0 ∨ f = 2) (hs : s.size ≤ maxLen) (hq : faultI t k v s = 0) :
    Calls Try.prog 16 #[.int .i64 f, .agg #[.int .i64 t, .int .i64 k, .int .i64 v, .string s]] w fun e w' => ∃ g c, e = .returned (.agg #[.int .i64 0, .slice (some ⟨g, 0, none⟩) (6 + s.size) c]) ∧ 6 + s.size ≤ c ∧ Below w.heap.size w w' ∧ BytesIn w.heap.size w'.heap.size w' (some ⟨g, 0, none⟩) (cellBytes f t k v s) := by
  obtain ⟨⟨t0, t1⟩, ⟨k0, k1⟩, ⟨v0, v1⟩, h8, _⟩ := fault_zero hq
  have HQ : Hid (faultI t k v s = 0) := hq
  clear hq
  rcases hf with rfl | rfl
  all_goals
    go_enter Try.func16, Try.ntmps16
    go_wp2_with fail
    refine (implRowFault_any t k v s _ hs).mono ?_
    rintro e w1 ⟨rfl, hb⟩
    rw [HQ.out]
    obtain ⟨r0, r1, r2, r3⟩ : ResOwn w1 (w.heap.size + 1) 0 (.slice none 0 0) := ResOwn.below ⟨by simp [go_sem], by simp [go_sem], by simp [go_sem], by simp [go_sem]⟩ hb (by simp)
    obtain ⟨p0, p1, p2, p3⟩ : RowAt w1 w.heap.size t k v s := rowAt_below hb (by simp; omega) ⟨by simp [go_sem], by simp [go_sem], by simp [go_sem], by simp [go_sem]⟩
    have g : Below w.heap.size w w1 := Below.trans (by go_grown) (hb.mono (by simp; omega))
    have hz : w.heap.size + 1 < w1.heap.size := by have := hb.size; simp at this; omega
    clear hb
    go_wp2_with fail
    refine (rowCell_cap _ t k v s _ (by omega) (by omega) t0 t1 k0 k1 v0 v1 h8).mono ?_
    rintro e w2 ⟨x, c, rfl, hcap, hb2, hy⟩
    obtain ⟨r0, r1, r2, r3⟩ : ResOwn w2 (w.heap.size + 1) 0 (.slice none 0 0) := ResOwn.below ⟨r0, r1, r2, r3⟩ hb2 hz
    have g2 : Below w.heap.size w w2 := g.trans (hb2.mono (by omega))
    have hz2 : w.heap.size + 1 < w2.heap.size := by have := hb2.size; omega
    have hy2 : BytesIn (w.heap.size + 2) w2.heap.size w2 (some ⟨x, 0, none⟩) _ := hy.mono (by omega) (Nat.le_refl _)
    clear hb2 hy g hz
    go_wp2_with fail
    refine bodyPost_ret (v := .agg #[.int .i64 0, .slice (some ⟨x, 0, none⟩) (6 + s.size) c]) (by simp [results, Try.results16, go_sem, r0, r1]) rfl ?_
    refine ⟨x, c, rfl, hcap, by go_grown, BytesIn.mono (BytesIn.setCell (BytesIn.setCell hy2 ?_ _) ?_ _) ?_ ?_⟩ <;> simp

theorem implPackRow_cap (f t k v : Int) (s : ByteArray) (w : World) (hs : s.size ≤ maxLen) :
    Calls Try.prog 16 #[.int .i64 f, .agg #[.int .i64 t, .int .i64 k, .int .i64 v, .string s]] w fun e w' => ∃ a c, e = .returned (.agg #[.int .i64 (packCode f t k v s), .slice a (packBytes f t k v s).length c]) ∧ (packBytes f t k v s).length ≤ c ∧ Below w.heap.size w w' ∧ BytesIn w.heap.size w'.heap.size w' a (packBytes f t k v s) := by
  by_cases hf : f = 0 ∨ f = 2
  · by_cases hq : faultI t k v s = 0
    · have e1 : packCode f t k v s = 0 := by simp [packCode, hf, hq]
      have e2 : packBytes f t k v s = cellBytes f t k v s := by simp [packBytes, e1]
      refine (implPackRow_okCap f t k v s w hf hs hq).mono ?_
      rintro e w' ⟨g, c, rfl, hcap, hb, hy⟩
      rw [e1, e2, cellBytes_length]
      exact ⟨_, _, rfl, hcap, hb, hy⟩
    · have e1 : packCode f t k v s = faultI t k v s := by simp [packCode, hf]
      have e2 : packBytes f t k v s = [] := by simp [packBytes, e1, hq]
      refine (implPackRow_fault f t k v s w hf hs (by simpa using hq)).mono ?_
      rintro e w' ⟨rfl, hb⟩
      rw [e1, e2]
      exact ⟨_, _, rfl, Nat.zero_le _, hb, .inl rfl⟩
  · have e1 : packCode f t k v s = 1 := by simp [packCode, hf]
    have e2 : packBytes f t k v s = [] := by simp [packBytes, e1]
    refine (implPackRow_flag f t k v s w (by omega) (by omega)).mono ?_
    rintro e w' ⟨rfl, hb⟩
    rw [e1, e2]
    exact ⟨_, _, rfl, Nat.zero_le _, hb, .inl rfl⟩

set_option maxHeartbeats 400000 in
theorem l1Stub_wide (p s : Int) (w : World) (p0 : 0 ≤ p) (p1 : p ≤ 255) (s0 : 0 ≤ s) (s1 : s ≤ 255) :
    Calls Try.prog 41 #[.int .i64 p, .int .i64 s] w fun e w' => e = .returned (.slice (some ⟨w.heap.size, 0, none⟩) 3 3) ∧ Below w.heap.size w w' ∧ BytesIn w.heap.size w'.heap.size w' (some ⟨w.heap.size, 0, none⟩) [1, p, s] := by
  go_enter Try.func41, Try.ntmps41
  go_wp2
  go_ret
  exact ⟨rfl, by go_grown, bytesIn_three (by omega) (by simp) (by simp [go_sem]) (by simp [go_sem]) (by simp [go_sem]) (by simp [go_sem]) (by simp [go_sem]) (by simp [go_sem])⟩

set_option maxHeartbeats 400000 in
theorem lwBig_any (a : Option Addr) (n c : Nat) (w : World) : Calls Try.prog 10 #[.slice a n c] w fun e w' => e = .returned (.bool (decide ((1048576 : Int) < (n : Int)))) ∧ w' = w := by
  go_enter Try.func10, Try.ntmps10
  go_wp2
  go_ret
  exact ⟨rfl, rfl⟩

end Go.Proofs.Ytnhfimgjljmfoaa
