/-
  The contract of the model's l1Words at four words.
-/
import Derived.Test.YtfokolanjjiicaaDoorWords
import Derived.Test.YtfokolanjjiicaaDoorDraw
import Derived.Deep.Cut
import Derived.Deep.RegionHeld
namespace Go.Proofs.YtfokolanjjiicaaDoor
open Go.RowKit

set_option maxHeartbeats 2000000 in
theorem l1Words_four (g c : Nat) (x y z s : ByteArray) (w : World) (h0 : w.cell? ⟨g, 0, none⟩ = some (.string x)) (h1 : w.cell? ⟨g, 1, none⟩ = some (.string y)) (h2 : w.cell? ⟨g, 2, none⟩ = some (.string z)) (h3 : w.cell? ⟨g, 3, none⟩ = some (.string s)) (hx : x.size ≤ 1048576) (hy : y.size ≤ 1048576) (hz : z.size ≤ 1048576) (hs : s.size ≤ 1048576) :
    Calls Tryd.prog 25 #[.slice (some ⟨g, 0, none⟩) 4 c] w fun e w' => e = .returned (.tuple #[.agg #[.int .i64 (wordNum x), .int .i64 (wordNum y), .int .i64 (wordNum z), .string s], .bool (faultI (wordNum x) (wordNum y) (wordNum z) s == 0 && !s.toList.isEmpty)]) ∧ Below w.heap.size w w' := by
  have hlt : g < w.heap.size := World.block_lt_of_cell? w _ h0
  have HS : Hid (∀ V : World, Below w.heap.size w V → V.cell? ⟨g, 0, none⟩ = some (.string x) ∧ V.cell? ⟨g, 1, none⟩ = some (.string y) ∧ V.cell? ⟨g, 2, none⟩ = some (.string z)) := fun V hb =>
    ⟨(hb.cell (p := ⟨g, 0, none⟩) hlt).trans h0, (hb.cell (p := ⟨g, 1, none⟩) hlt).trans h1, (hb.cell (p := ⟨g, 2, none⟩) hlt).trans h2⟩
  go_enter Tryd.func25, Tryd.ntmps25
  go_upto_region 3 with (fail)
  go_cut [4] from 5 (fun s4 wc => s4 = .pointer (some ⟨w.heap.size + 1, 0, none⟩) ∧ RowOwn wc w.heap.size 0 0 0 ⟨#[]⟩ ∧ RowOwn wc (w.heap.size + 1) (wordNum x) (wordNum y) (wordNum z) ⟨#[]⟩ ∧ Below w.heap.size w wc)
  case first =>
    first
    | go_region_held (fun V => V.cell? ⟨g, 0, none⟩ = some (.string x) ∧ V.cell? ⟨g, 1, none⟩ = some (.string y) ∧ V.cell? ⟨g, 2, none⟩ = some (.string z)) (exact HS.out _ (by go_grown))
        (first | (go_at_call_of 35 x; refine (l1Number_any x _ hx).mono ?_; rintro e w' ⟨rfl, rfl⟩) | (go_at_call_of 35 y; refine (l1Number_any y _ hy).mono ?_; rintro e w' ⟨rfl, rfl⟩) | (go_at_call_of 35 z; refine (l1Number_any z _ hz).mono ?_; rintro e w' ⟨rfl, rfl⟩))
    all_goals
      go_wp2_with fail
      go_meet
      case rel => exact ⟨rfl, ⟨⟨by simp [go_sem], by simp [go_sem], by simp [go_sem], by simp [go_sem]⟩, by simp [go_sem], by simp [go_sem], by simp [go_sem], by simp [go_sem]⟩, ⟨⟨by simp [go_sem], by simp [go_sem], by simp [go_sem], by simp [go_sem]⟩, by simp [go_sem], by simp [go_sem], by simp [go_sem], by simp [go_sem]⟩, by go_grown⟩
  case rest =>
    obtain ⟨rfl, ⟨⟨o0, o1, o2, o3⟩, g0, g1, g2, g3⟩, ⟨⟨r0, r1, r2, r3⟩, k0, k1, k2, k3⟩, hB⟩ := hcut
    have hsm : s.size ≤ maxLen := by unfold maxLen; omega
    have hc3 : wc.cell? ⟨g, 3, none⟩ = some (.string s) := (hB.cell (p := ⟨g, 3, none⟩) hlt).trans h3
    clear HS h0 h1 h2 h3
    have hltc : w.heap.size + 1 < wc.heap.size := World.block_lt_of_cell? wc _ r0
    go_upto_region 6 with (fail)
    generalize hX : wc.setCell ⟨w.heap.size + 1, 3, none⟩ (.string s) = X
    have p0 : X.cell? ⟨w.heap.size + 1, 0, none⟩ = some (.int .i64 (wordNum x)) := by rw [← hX]; simp [go_sem, r0]
    have p1 : X.cell? ⟨w.heap.size + 1, 1, none⟩ = some (.int .i64 (wordNum y)) := by rw [← hX]; simp [go_sem, r1]
    have p2 : X.cell? ⟨w.heap.size + 1, 2, none⟩ = some (.int .i64 (wordNum z)) := by rw [← hX]; simp [go_sem, r2]
    have p3 : X.cell? ⟨w.heap.size + 1, 3, none⟩ = some (.string s) := by rw [← hX]; simp [go_sem, r3]
    have hBX : Below w.heap.size w X := by rw [← hX]; exact hB.setCell (by simp) _
    have hOX : RowOwn X w.heap.size 0 0 0 ⟨#[]⟩ := by rw [← hX]; exact ⟨⟨by simp [go_sem, o0], by simp [go_sem, o1], by simp [go_sem, o2], by simp [go_sem, o3]⟩, by simp [g0], by simp [g1], by simp [g2], by simp [g3]⟩
    clear hX r0 r1 r2 r3 o0 o1 o2 o3 g0 g1 g2 g3 k0 k1 k2 k3 hB hc3
    obtain ⟨⟨o0, o1, o2, o3⟩, g0, g1, g2, g3⟩ := hOX
    by_cases hq : faultI (wordNum x) (wordNum y) (wordNum z) s = 0
    · have HQ : Hid (faultI (wordNum x) (wordNum y) (wordNum z) s = 0) := hq
      clear hq
      go_region_held (fun U => U.cell? ⟨w.heap.size + 1, 0, none⟩ = some (.int .i64 (wordNum x)) ∧ U.cell? ⟨w.heap.size + 1, 1, none⟩ = some (.int .i64 (wordNum y)) ∧ U.cell? ⟨w.heap.size + 1, 2, none⟩ = some (.int .i64 (wordNum z)) ∧ U.cell? ⟨w.heap.size + 1, 3, none⟩ = some (.string s)) (go_keep) (first | (go_at_call 28; refine (l1Fault_any _ (wordNum x) (wordNum y) (wordNum z) s _ ?_ hsm).mono ?_; exact ⟨by simp [go_sem, *], by simp [go_sem, *], by simp [go_sem, *], by simp [go_sem, *]⟩; rintro e w' ⟨rfl, rfl⟩; rw [HQ.out]))
      all_goals
        go_wp2_with fail
        refine bodyPost_ret (v := .tuple #[.agg #[.int .i64 (wordNum x), .int .i64 (wordNum y), .int .i64 (wordNum z), .string s], .bool (!s.toList.isEmpty)]) (by simp [results, Tryd.results25, go_sem, o0, o1, o2, o3]) rfl ?_
        exact ⟨by rw [HQ.out]; rfl, by go_grown⟩
    · have hq' : (faultI (wordNum x) (wordNum y) (wordNum z) s == 0) = false := beq_eq_false_iff_ne.2 hq
      have HQ : Hid ((faultI (wordNum x) (wordNum y) (wordNum z) s == 0) = false) := hq'
      clear hq
      refine wp_region_held_drew (S := fun U => U.cell? ⟨w.heap.size + 1, 0, none⟩ = some (.int .i64 (wordNum x)) ∧ U.cell? ⟨w.heap.size + 1, 1, none⟩ = some (.int .i64 (wordNum y)) ∧ U.cell? ⟨w.heap.size + 1, 2, none⟩ = some (.int .i64 (wordNum z)) ∧ U.cell? ⟨w.heap.size + 1, 3, none⟩ = some (.string s)) (by kernel_rfl) ⟨p0, p1, p2, p3⟩ (fun hHeld => ?_)
      refine wpAnyH_take (i := 0) (v := .agg #[.int .i64 (wordNum x), .int .i64 (wordNum y), .int .i64 (wordNum z), .string s]) rfl (by kernel_rfl) (by kernel_rfl) (by kernel_rfl) (fun _ _ _ h => h) (Or.inl ⟨by kernel_rfl, fun u hSw => by (try dsimp only at hSw); go_simp; try with_reducible rfl⟩) hHeld ?_
      try simp only [List.getElem_toArray]
      try simp only [List.getElem_cons_succ]
      try simp only [List.getElem_cons_zero]
      try simp only [Act.put]
      try simp only [List.setIfInBounds_toArray]
      try simp only [List.set]
      refine wpAnyH_ready (rs := [1]) (by kernel_rfl) (by simp) ?_
      refine AllReadyH.cons rfl (fun K hK => ?_) AllReadyH.nil
      go_simp
      go_wp2_with (go_at_call 28; refine (l1Fault_any _ (wordNum x) (wordNum y) (wordNum z) s _ ?_ hsm).mono ?_; exact ⟨by simp [go_sem, *], by simp [go_sem, *], by simp [go_sem, *], by simp [go_sem, *]⟩; rintro e w' ⟨rfl, rfl⟩)
      refine hK.out _ _ ⟨by simp [*], by simp [*], by simp [*], by simp [*]⟩ (fun hHeld => ?_)
      clear hK K
      refine wpAnyH_take (i := 2) (v := .bool false) rfl (by kernel_rfl) (by kernel_rfl) (by kernel_rfl) (fun _ _ _ h => h) (Or.inl ⟨by kernel_rfl, fun u hSw => by (try dsimp only at hSw); go_simp; try with_reducible rfl⟩) hHeld ?_
      try simp only [List.getElem_toArray]
      try simp only [List.getElem_cons_succ]
      try simp only [List.getElem_cons_zero]
      try simp only [Act.put]
      try simp only [List.setIfInBounds_toArray]
      try simp only [List.set]
      refine wpAnyH_take (i := 3) (v := .bool false) rfl (by kernel_rfl) (by kernel_rfl) (by kernel_rfl) (fun _ _ _ h => h) (Or.inl ⟨by kernel_rfl, fun u hSw => by (try dsimp only at hSw); go_simp; try with_reducible rfl⟩) hHeld ?_
      try simp only [List.getElem_toArray]
      try simp only [List.getElem_cons_succ]
      try simp only [List.getElem_cons_zero]
      try simp only [Act.put]
      try simp only [List.setIfInBounds_toArray]
      try simp only [List.set]
      refine wpAnyH_take (i := 4) (v := undef) rfl (by kernel_rfl) (by kernel_rfl) (by kernel_rfl) (fun _ _ _ h => h) (Or.inr ⟨by kernel_rfl, rfl⟩) hHeld ?_
      try simp only [List.getElem_toArray]
      try simp only [List.getElem_cons_succ]
      try simp only [List.getElem_cons_zero]
      try simp only [Act.put]
      try simp only [List.setIfInBounds_toArray]
      try simp only [List.set]
      refine wpAnyH_take (i := 5) (v := undef) rfl (by kernel_rfl) (by kernel_rfl) (by kernel_rfl) (fun _ _ _ h => h) (Or.inr ⟨by kernel_rfl, rfl⟩) hHeld ?_
      try simp only [List.getElem_toArray]
      try simp only [List.getElem_cons_succ]
      try simp only [List.getElem_cons_zero]
      try simp only [Act.put]
      try simp only [List.setIfInBounds_toArray]
      try simp only [List.set]
      refine wpAnyH_take (i := 6) (v := undef) rfl (by kernel_rfl) (by kernel_rfl) (by kernel_rfl) (fun _ _ _ h => h) (Or.inr ⟨by kernel_rfl, rfl⟩) hHeld ?_
      try simp only [List.getElem_toArray]
      try simp only [List.getElem_cons_succ]
      try simp only [List.getElem_cons_zero]
      try simp only [Act.put]
      try simp only [List.setIfInBounds_toArray]
      try simp only [List.set]
      refine wpAnyH_take (i := 7) (v := .bool false) rfl (by kernel_rfl) (by kernel_rfl) (by kernel_rfl) (fun _ _ _ h => h) (Or.inl ⟨by kernel_rfl, fun u hSw => by (try dsimp only at hSw); go_simp; try with_reducible rfl⟩) hHeld ?_
      try simp only [List.getElem_toArray]
      try simp only [List.getElem_cons_succ]
      try simp only [List.getElem_cons_zero]
      try simp only [Act.put]
      try simp only [List.setIfInBounds_toArray]
      try simp only [List.set]
      refine wpAnyH_ready (rs := [8]) (by kernel_rfl) (by simp) ?_
      refine AllReadyH.cons rfl (fun K hK => ?_) AllReadyH.nil
      go_simp
      refine hK.out _ _ ⟨by go_keep, by go_keep, by go_keep, by go_keep⟩ (fun hHeld => ?_)
      clear hK K
      refine wpAnyH_take (i := 9) (v := .bool false) rfl (by kernel_rfl) (by kernel_rfl) (by kernel_rfl) (fun _ _ _ h => h) (Or.inl ⟨by kernel_rfl, fun u hSw => by (try dsimp only at hSw); go_simp; try with_reducible rfl⟩) hHeld ?_
      try simp only [List.getElem_toArray]
      try simp only [List.getElem_cons_succ]
      try simp only [List.getElem_cons_zero]
      try simp only [Act.put]
      try simp only [List.setIfInBounds_toArray]
      try simp only [List.set]
      refine wpAnyH_done (by kernel_rfl) ?_ _
      go_wp2_with fail
      refine bodyPost_ret (v := .tuple #[.agg #[.int .i64 (wordNum x), .int .i64 (wordNum y), .int .i64 (wordNum z), .string s], .bool false]) (by simp [results, Tryd.results25, go_sem, o0, o1, o2, o3]) rfl ?_
      exact ⟨by rw [HQ.out]; rfl, by go_grown⟩

end Go.Proofs.YtfokolanjjiicaaDoor
