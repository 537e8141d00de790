/-
  The model's ReadLog.
-/
import Derived.Test.YtcjkjenebnodbaaRlh
import Derived.Test.YtcjkjenebnodbaaRck
namespace Go.Proofs.Ytcjkjenebnodbaa
open Go.RowKit
set_option linter.unusedVariables false

set_option maxRecDepth 10000 in
set_option maxHeartbeats 1000000 in
theorem specReadLog_any (zs : List Int) (a : Option Addr) (cap : Nat) (w : World) (hm : zs.length ≤ 1048576) (hcap : zs.length ≤ cap) (hcm : cap ≤ 9223372036854775807) (hf : Reads w a zs) (hz : ∀ z ∈ zs, 0 ≤ z ∧ z ≤ 255) :
    Calls Try.prog 29 #[.slice a zs.length cap] w fun e w' => RlPost w zs e w' := by
  by_cases hbig : 16000 < zs.length
  · have HE : Hid (rlQ zs = 2 ∧ rlU zs = 0 ∧ rlN zs = 0) := ⟨by unfold rlQ; rw [if_pos hbig], by unfold rlU; rw [if_pos hbig], by unfold rlN; rw [if_pos hbig]⟩
    have hb : (16000 : Int) < (zs.length : Int) := by omega
    clear hf hz
    go_enter Try.func29, Try.ntmps29
    go_wp2_with fail
    refine bodyPost_ret (v := .agg #[.int .i64 2, .int .i64 0, .slice none 0 0]) (by simp [results, Try.results29, go_sem]) rfl ?_
    unfold RlPost
    rw [HE.out.1, HE.out.2.1, HE.out.2.2]
    exact ⟨none, 0, fun _ => ⟨none, 0, fun _ => none, fun _ => 0, fun _ => 0, 0, 0⟩, rfl, by go_grown, .inl rfl, Nat.le_refl _, by omega⟩
  · have HE : Hid (rlQ zs = 0 ∧ rlU zs = logU zs ∧ rlN zs = lgN zs) := ⟨by unfold rlQ; rw [if_neg hbig], by unfold rlU; rw [if_neg hbig], by unfold rlN; rw [if_neg hbig]⟩
    have hb : ¬ ((16000 : Int) < (zs.length : Int)) := by omega
    have HC : Hid (∀ X, Below w.heap.size w X → Calls Try.prog 89 #[.slice a zs.length cap] X fun e w' => L5Post X zs e w') := fun X g => l5Read_any zs a cap X hm hcap hcm (hf.below g (Nat.le_refl _)) hz
    have HPo : Hid (∀ X e w', L5Post X zs e w' → ∃ a c D, e = .returned (.tuple #[.slice a (lgN zs) c, .int .i64 (logU zs)]) ∧ Below X.heap.size X w' ∧ Rlt X.heap.size w' (.slice a (lgN zs) c) (lgN zs) (lgR zs) D) := fun X e w' h => by
      obtain ⟨v, D, h1, h2, h3⟩ := h
      obtain ⟨av, cv, hv⟩ := h3.form
      subst hv
      exact ⟨av, cv, D, h1, h2, h3⟩
    clear hf hz
    generalize logU zs = u at HE HPo
    generalize lgN zs = n at HE HPo
    go_enter Try.func29, Try.ntmps29
    go_upto_region 1 with (fail)
    generalize hY : World.alloc w _ = Y
    have g : Below w.heap.size w Y := by rw [← hY]; go_grown
    have hs : Y.heap.size = w.heap.size + 1 := by rw [← hY]; simp
    have a0 : Y.cell? ⟨w.heap.size, 0, none⟩ = some (.int .i64 0) := by rw [← hY]; simp [go_sem]
    have a1 : Y.cell? ⟨w.heap.size, 1, none⟩ = some (.int .i64 0) := by rw [← hY]; simp [go_sem]
    have a2 : Y.cell? ⟨w.heap.size, 2, none⟩ = some (.slice none 0 0) := by rw [← hY]; simp [go_sem]
    have f0 : Y.frozen? ⟨w.heap.size, 0, none⟩ = false := by rw [← hY]; simp [go_sem]
    have f1 : Y.frozen? ⟨w.heap.size, 1, none⟩ = false := by rw [← hY]; simp [go_sem]
    have f2 : Y.frozen? ⟨w.heap.size, 2, none⟩ = false := by rw [← hY]; simp [go_sem]
    clear hY
    go_wp2_with fail
    refine (HC.out _ g).mono ?_
    intro e w2 hp
    obtain ⟨av, cv, D, rfl, g2, hR⟩ := HPo.out _ _ _ hp
    have hcv := hR.cap
    have f0 := (g2.frozen (World.block_lt_of_cell? Y _ a0)).trans f0
    have f1 := (g2.frozen (World.block_lt_of_cell? Y _ a1)).trans f1
    have f2 := (g2.frozen (World.block_lt_of_cell? Y _ a2)).trans f2
    have a0 := cellUp g2 a0
    have a1 := cellUp g2 a1
    have a2 := cellUp g2 a2
    have hs2 := g2.size
    rw [hs] at hR
    have HO : Hid (OwnRS (w.heap.size + 1) w2.heap.size w2 av n (lgR zs) D) := hR.ownAt
    have g := g.trans (g2.mono g.size)
    clear g2 hp hR
    go_wp2_with fail
    refine bodyPost_ret (v := .agg #[.int .i64 0, .int .i64 u, .slice av n cv]) (by simp [results, Try.results29, go_sem, *]) rfl ?_
    unfold RlPost
    rw [HE.out.1, HE.out.2.1, HE.out.2.2]
    refine ⟨av, cv, D, rfl, by go_grown, ?_, hcv.1, hcv.2⟩
    have T : Turned w.heap.size (w.heap.size + 1) w2 _ := (((Turned.refl _ _ w2).setCell (p := ⟨w.heap.size, 0, none⟩) (by simp) (by simp) (.int .i64 0)).setCell (p := ⟨w.heap.size, 1, none⟩) (by simp) (by simp) (.int .i64 u)).setCell (p := ⟨w.heap.size, 2, none⟩) (by simp) (by simp) (.slice av n cv)
    exact (HO.out.turned T (.inr (Nat.le_refl _))).mono (by omega) (by simp)

/-- Records that were read are few and small. -/
theorem lgR_small (zs : List Int) (i : Nat) : (lgR zs i).n + took (lgR zs i).Z (lgR zs i).n ≤ 1048576 := by
  show nR (from' zs i) + took (rZ (from' zs i)) (nR (from' zs i)) ≤ 1048576
  unfold nR
  split
  · rename_i h
    have h1 := rf_ok (rec_ok h.2.1).2.2.2.2.2.2
    omega
  · simp [took]
theorem lgR_took (zs : List Int) : ∀ j, j ≤ lgN zs → tookR (lgR zs) j ≤ lp zs j
  | 0, _ => Nat.le_refl _
  | j + 1, h => by
    have ih := lgR_took zs j (by omega)
    have hk := lg_ok zs j (by omega)
    have h1 := ok_len hk
    have h2 : (rdB (from' zs j)).length = 7 + 2 * cnt (from' zs j) + took (rZ (from' zs j)) (cnt (from' zs j)) := packB_len _ _ _ _ _ _
    have h3 := (rr_yes hk).2.2.2.2.2
    have h4 : tookR (lgR zs) (j + 1) = tookR (lgR zs) j + 3 + nR (from' zs j) + took (rZ (from' zs j)) (nR (from' zs j)) := rfl
    have h5 : lp zs (j + 1) = lp zs j + len0 (from' zs j) := rfl
    rw [h4, h5, h3]
    omega
theorem rlN_small (zs : List Int) : rlN zs ≤ 1048576 ∧ tookR (lgR zs) (rlN zs) ≤ 8000000 := by
  unfold rlN
  split
  · simp [tookR]
  · have h1 := lgN_le zs
    have h2 := lgR_took zs (lgN zs) (Nat.le_refl _)
    have h3 := (lp_le zs (lgN zs) (Nat.le_refl _)).2
    omega

end Go.Proofs.Ytcjkjenebnodbaa
