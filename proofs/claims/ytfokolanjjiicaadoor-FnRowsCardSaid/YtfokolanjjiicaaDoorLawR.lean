/-
  ParseRow and its law, out of the contract of scanRow (which is a premise here, not yet proved).
-/
import Derived.Test.YtfokolanjjiicaaDoorPRow
namespace Go.Proofs.YtfokolanjjiicaaDoor
open Go.RowKit

/-- What scanRow has to tell of a text: with true and no fault just the row that its words are; else they are none. -/
def ScanOk (s : ByteArray) (t k v : Int) (x : ByteArray) (ok : Bool) : Prop :=
  (ok = true ∧ faultI t k v x = 0 ∧ wordsRow (cutSt s (s.size + 1)).1 = ⟨t, k, v, x, true⟩) ∨ (¬ (ok = true ∧ faultI t k v x = 0) ∧ (wordsRow (cutSt s (s.size + 1)).1).ok = false)

/-- The contract of scanRow. -/
def ScanSaid : Prop := ∀ (s : ByteArray) (w : World), s.size ≤ 1048576 →
  Calls Tryd.prog 23 #[.string s] w fun e w' => ∃ t k v x ok, e = .returned (.tuple #[.agg #[.int .i64 t, .int .i64 k, .int .i64 v, .string x], .bool ok]) ∧ ByteArray.size x ≤ maxLen ∧ ScanOk s t k v x ok ∧ Below w.heap.size w w'

set_option maxHeartbeats 1000000 in
theorem implParseRow_of (hscan : ScanSaid) (s : ByteArray) (w : World) (hs : s.size ≤ 1048576) :
    Calls Tryd.prog 7 #[.string s] w fun e w' => e = .returned (parseV (wordsRow (cutSt s (s.size + 1)).1)) ∧ Below w.heap.size w w' := by
  go_enter Tryd.func7, Tryd.ntmps7
  go_wp2_with fail
  refine (hscan s _ hs).mono ?_
  rintro e w2 ⟨t, k, v, x, ok, rfl, hx, hsc, g2⟩
  have hR2 : RRes w2 w.heap.size := RRes.below ⟨by simp [go_sem], by simp [go_sem], by simp [go_sem], by simp [go_sem], by simp [go_sem], by simp [go_sem], by simp [go_sem], by simp [go_sem], by simp [go_sem], by simp [go_sem]⟩ g2 (by simp)
  have g : Below w.heap.size w w2 := Below.trans (by go_grown) (g2.mono (by simp))
  have hlt2 : w.heap.size < w2.heap.size := World.block_lt_of_cell? w2 _ hR2.c0
  clear g2
  go_upto_region 2 with (fail)
  generalize hX : w2.alloc (.cells #[.int .i64 t, .int .i64 k, .int .i64 v, .string x] 26) = X
  have hRow : RowAt X w2.heap.size t k v x := by rw [← hX]; exact ⟨by simp [go_sem], by simp [go_sem], by simp [go_sem], by simp [go_sem]⟩
  have hRX : RRes X w.heap.size := by rw [← hX]; exact hR2.below (B := w2.heap.size) (by go_grown) hlt2
  have gX : Below w.heap.size w X := by rw [← hX]; exact g.alloc g.size _
  generalize w2.heap.size = b3 at hRow hlt2
  clear hX hR2 g
  have hne : ¬ (b3 = w.heap.size) := by omega
  cases ok
  · have HU : Hid (parseV (wordsRow (cutSt s (s.size + 1)).1) = .agg #[.int .i64 5, .int .i64 0, .int .i64 0, .int .i64 0, .string ⟨#[]⟩]) := by
      rcases hsc with ⟨h, _⟩ | ⟨_, h⟩
      · cases h
      · show parseV _ = _; rw [parseV, h]; rfl
    clear hsc
    obtain ⟨o0, o1, o2, o3, o4, g0, g1, g2, g3, g4⟩ := hRX
    go_wp2_with fail
    refine bodyPost_ret (v := .agg #[.int .i64 5, .int .i64 0, .int .i64 0, .int .i64 0, .string ⟨#[]⟩]) (by simp [results, Tryd.results7, go_sem, o0, o1, o2, o3, o4]) rfl ?_
    exact ⟨by rw [HU.out], by go_grown⟩
  · have h3lt : b3 < X.heap.size := World.block_lt_of_cell? X _ hRow.c0
    by_cases hq : faultI t k v x = 0
    · have HU : Hid (parseV (wordsRow (cutSt s (s.size + 1)).1) = .agg #[.int .i64 0, .int .i64 t, .int .i64 k, .int .i64 v, .string x]) := by
        rcases hsc with ⟨_, _, h⟩ | ⟨h, _⟩
        · show parseV _ = _; rw [h]; rfl
        · exact absurd ⟨rfl, hq⟩ h
      have HQ : Hid (faultI t k v x = 0) := hq
      clear hsc hq
      obtain ⟨r0, r1, r2, r3⟩ := hRow
      go_wp2_with fail
      refine (implRowFault_any t k v x _ hx).mono ?_
      rintro e w4 ⟨rfl, gb⟩
      rw [HQ.out]
      obtain ⟨r0, r1, r2, r3⟩ : RowAt w4 b3 t k v x := rowAt_below gb h3lt ⟨r0, r1, r2, r3⟩
      obtain ⟨o0, o1, o2, o3, o4, g0, g1, g2, g3, g4⟩ := hRX.below gb (World.block_lt_of_cell? X _ hRX.c0)
      have gY : Below w.heap.size w w4 := gX.trans (gb.mono gX.size)
      clear gb hRX gX
      go_wp2_with fail
      refine bodyPost_ret (v := .agg #[.int .i64 0, .int .i64 t, .int .i64 k, .int .i64 v, .string x]) (by simp [results, Tryd.results7, go_sem, o0, o1, o2, o3, o4]) rfl ?_
      exact ⟨by rw [HU.out], by go_grown⟩
    · have HU : Hid (parseV (wordsRow (cutSt s (s.size + 1)).1) = .agg #[.int .i64 5, .int .i64 0, .int .i64 0, .int .i64 0, .string ⟨#[]⟩]) := by
        rcases hsc with ⟨_, h, _⟩ | ⟨_, h⟩
        · exact absurd h hq
        · show parseV _ = _; rw [parseV, h]; rfl
      have dq : (faultI t k v x != 0) = true := by simpa using hq
      clear hsc hq
      obtain ⟨r0, r1, r2, r3⟩ := hRow
      go_wp2_with fail
      refine (implRowFault_any t k v x _ hx).mono ?_
      rintro e w4 ⟨rfl, gb⟩
      obtain ⟨o0, o1, o2, o3, o4, g0, g1, g2, g3, g4⟩ := hRX.below gb (World.block_lt_of_cell? X _ hRX.c0)
      have gY : Below w.heap.size w w4 := gX.trans (gb.mono gX.size)
      clear gb hRX gX
      go_wp2_with fail
      refine bodyPost_ret (v := .agg #[.int .i64 5, .int .i64 0, .int .i64 0, .int .i64 0, .string ⟨#[]⟩]) (by simp [results, Tryd.results7, go_sem, o0, o1, o2, o3, o4]) rfl ?_
      exact ⟨by rw [HU.out], by go_grown⟩

theorem parseV_form (r : WRow) : ∃ q t k v x, parseV r = .agg #[.int .i64 q, .int .i64 t, .int .i64 k, .int .i64 v, .string x] := by
  unfold parseV
  split
  · exact ⟨_, _, _, _, _, rfl⟩
  · exact ⟨_, _, _, _, _, rfl⟩

end Go.Proofs.YtfokolanjjiicaaDoor
