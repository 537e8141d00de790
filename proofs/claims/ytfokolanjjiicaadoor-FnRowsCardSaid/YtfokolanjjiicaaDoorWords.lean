/-
  The contract of the model's l1Words: what row words are.
-/
import Derived.Test.YtfokolanjjiicaaDoorNumS
import Derived.Test.YtfokolanjjiicaaDoorDraw
import Derived.Deep.Cut
import Derived.Deep.RegionHeld
namespace Go.Proofs.YtfokolanjjiicaaDoor
open Go.RowKit

def allDigB (s : ByteArray) : Bool := (List.range s.size).all fun i => digB (byteAt s i)
theorem allDigB_iff (s : ByteArray) : allDigB s = true ↔ allDig s := by simp [allDigB, allDig]
/-- The number that a word is; -1: it is none. -/
def wordNum (s : ByteArray) : Int := if (1 ≤ s.size ∧ s.size ≤ 4 ∧ ¬ (1 < s.size ∧ byteAt s 0 = 48)) ∧ allDigB s = true then numOf s 0 s.size else -1

theorem l1Number_any (s : ByteArray) (w : World) (hs : s.size ≤ 1048576) :
    Calls Tryd.prog 35 #[.string s] w fun e w' => e = .returned (.int .i64 (wordNum s)) ∧ w' = w := by
  by_cases h : numForm s
  · refine (l1Number_loop s w h).mono ?_
    rintro e w' ⟨hh, rfl⟩
    refine ⟨?_, rfl⟩
    rcases hh with ⟨ha, rfl⟩ | ⟨ha, rfl⟩
    · rw [wordNum, if_pos ⟨h, (allDigB_iff s).2 ha⟩]
    · rw [wordNum, if_neg (fun hh => ha ((allDigB_iff s).1 hh.2))]
  · refine (l1Number_form s w hs h).mono ?_
    rintro e w' ⟨rfl, rfl⟩
    refine ⟨?_, rfl⟩
    rw [wordNum, if_neg (fun hh => h hh.1)]

set_option maxHeartbeats 400000 in
theorem l1Words_few (a : Option Addr) (n c : Nat) (w : World) (h3 : n ≠ 3) (h4 : n ≠ 4) :
    Calls Tryd.prog 25 #[.slice a n c] w fun e w' => e = .returned (.tuple #[.agg #[.int .i64 0, .int .i64 0, .int .i64 0, .string ⟨#[]⟩], .bool false]) ∧ Below w.heap.size w w' := by
  have d3 : ((n : Int) != 3) = true := by simp; omega
  have d4 : ((n : Int) != 4) = true := by simp; omega
  go_enter Tryd.func25, Tryd.ntmps25
  go_wp2_with fail
  refine bodyPost_ret (v := .tuple #[.agg #[.int .i64 0, .int .i64 0, .int .i64 0, .string ⟨#[]⟩], .bool false]) (by simp [results, Tryd.results25, go_sem]) rfl ?_
  exact ⟨rfl, by go_grown⟩

set_option maxHeartbeats 2000000 in
theorem l1Words_three (g c : Nat) (x y z : ByteArray) (w : World) (h0 : w.cell? ⟨g, 0, none⟩ = some (.string x)) (h1 : w.cell? ⟨g, 1, none⟩ = some (.string y)) (h2 : w.cell? ⟨g, 2, none⟩ = some (.string z)) (hx : x.size ≤ 1048576) (hy : y.size ≤ 1048576) (hz : z.size ≤ 1048576) :
    Calls Tryd.prog 25 #[.slice (some ⟨g, 0, none⟩) 3 c] w fun e w' => e = .returned (.tuple #[.agg #[.int .i64 (wordNum x), .int .i64 (wordNum y), .int .i64 (wordNum z), .string ⟨#[]⟩], .bool (faultI (wordNum x) (wordNum y) (wordNum z) ⟨#[]⟩ == 0)]) ∧ Below w.heap.size w w' := by
  have hlt : g < w.heap.size := World.block_lt_of_cell? w _ h0
  have HS : Hid (∀ V : World, Below w.heap.size w V → V.cell? ⟨g, 0, none⟩ = some (.string x) ∧ V.cell? ⟨g, 1, none⟩ = some (.string y) ∧ V.cell? ⟨g, 2, none⟩ = some (.string z)) := fun V hb =>
    ⟨(hb.cell (p := ⟨g, 0, none⟩) hlt).trans h0, (hb.cell (p := ⟨g, 1, none⟩) hlt).trans h1, (hb.cell (p := ⟨g, 2, none⟩) hlt).trans h2⟩
  go_enter Tryd.func25, Tryd.ntmps25
  go_upto_region 3 with (fail)
  go_cut [4] from 5 (fun s4 wc => s4 = .pointer (some ⟨w.heap.size + 1, 0, none⟩) ∧ RowOwn wc w.heap.size 0 0 0 ⟨#[]⟩ ∧ RowAt wc (w.heap.size + 1) (wordNum x) (wordNum y) (wordNum z) ⟨#[]⟩ ∧ Below w.heap.size w wc)
  case first =>
    first
    | go_region_held (fun V => V.cell? ⟨g, 0, none⟩ = some (.string x) ∧ V.cell? ⟨g, 1, none⟩ = some (.string y) ∧ V.cell? ⟨g, 2, none⟩ = some (.string z)) (exact HS.out _ (by go_grown))
        (first | (go_at_call_of 35 x; refine (l1Number_any x _ hx).mono ?_; rintro e w' ⟨rfl, rfl⟩) | (go_at_call_of 35 y; refine (l1Number_any y _ hy).mono ?_; rintro e w' ⟨rfl, rfl⟩) | (go_at_call_of 35 z; refine (l1Number_any z _ hz).mono ?_; rintro e w' ⟨rfl, rfl⟩))
    all_goals
      go_wp2_with fail
      go_meet
      case rel => exact ⟨rfl, ⟨⟨by simp [go_sem], by simp [go_sem], by simp [go_sem], by simp [go_sem]⟩, by simp [go_sem], by simp [go_sem], by simp [go_sem], by simp [go_sem]⟩, ⟨by simp [go_sem], by simp [go_sem], by simp [go_sem], by simp [go_sem]⟩, by go_grown⟩
  case rest =>
    obtain ⟨rfl, ⟨⟨o0, o1, o2, o3⟩, g0, g1, g2, g3⟩, hR, hB⟩ := hcut
    clear HS h0 h1 h2
    have hs0 : (⟨#[]⟩ : ByteArray).size ≤ maxLen := Nat.zero_le _
    have hRd := hR
    obtain ⟨r0, r1, r2, r3⟩ := hR
    have hltc : w.heap.size + 1 < wc.heap.size := World.block_lt_of_cell? wc _ r0
    have HRd : Hid (RowAt wc (w.heap.size + 1) (wordNum x) (wordNum y) (wordNum z) ⟨#[]⟩) := hRd
    clear hRd
    go_wp2_with fail
    go_region_held (fun U => U.cell? ⟨w.heap.size + 1, 0, none⟩ = some (.int .i64 (wordNum x)) ∧ U.cell? ⟨w.heap.size + 1, 1, none⟩ = some (.int .i64 (wordNum y)) ∧ U.cell? ⟨w.heap.size + 1, 2, none⟩ = some (.int .i64 (wordNum z)) ∧ U.cell? ⟨w.heap.size + 1, 3, none⟩ = some (.string ⟨#[]⟩)) (go_keep) (first | (go_at_call 28; refine (l1Fault_any _ (wordNum x) (wordNum y) (wordNum z) ⟨#[]⟩ _ ?_ hs0).mono ?_; exact ⟨by simp [go_sem, *], by simp [go_sem, *], by simp [go_sem, *], by simp [go_sem, *]⟩; rintro e w' ⟨rfl, rfl⟩))
    all_goals
      go_wp2_with fail
      refine bodyPost_ret (v := .tuple #[.agg #[.int .i64 (wordNum x), .int .i64 (wordNum y), .int .i64 (wordNum z), .string ⟨#[]⟩], .bool (faultI (wordNum x) (wordNum y) (wordNum z) ⟨#[]⟩ == 0)]) (by simp [results, Tryd.results25, go_sem, o0, o1, o2, o3]) rfl ?_
      exact ⟨rfl, by go_grown⟩

end Go.Proofs.YtfokolanjjiicaaDoor
