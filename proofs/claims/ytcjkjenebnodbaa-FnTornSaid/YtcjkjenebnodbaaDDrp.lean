/-
  The contract of the model's l2Drop: a page without a fault.
-/
import Derived.Test.YtcjkjenebnodbaaDSet
namespace Go.Proofs.Ytcjkjenebnodbaa.Dr
open Go.RowKit
set_option linter.unusedVariables false

/-- A page with slot s emptied, that tells m slots. -/
def drP (zs : List Int) (s m : Nat) : List Int := (spanSet zs s 0 0).set 0 (m : Int)

theorem drP_ln {zs : List Int} (h : IsPg zs) (s m j : Nat) (hs : s < 16) : ln (drP zs s m) j = if j = s then 0 else ln zs j := by
  have hlen : (spanSet zs s 0 0).length = 64 := by simp [spanSet, h.len]
  have B : byt (drP zs s m) (3 + 2 * j) = if j = s then ((0 : Nat) : Int) else byt zs (3 + 2 * j) := by
    unfold drP
    rw [byt_set _ _ _ _ (by omega), byt_span _ _ _ _ _ (by rw [h.len]; omega), if_neg (by omega)]
    by_cases e : j = s
    · subst e; rw [if_pos rfl, if_pos rfl]
    · rw [if_neg (by omega), if_neg (by omega), if_neg e]
  split
  · rename_i e
    rw [if_pos e] at B
    exact nb_nat B
  · rename_i e
    rw [if_neg e] at B
    exact nb_of_byt B

theorem drP_start {zs : List Int} (h : IsPg zs) (s : Nat) (hs : s < 16) : drP zs s (nb zs 0) = spanSet zs s 0 0 := by
  have hlen : (spanSet zs s 0 0).length = 64 := by simp [spanSet, h.len]
  unfold drP
  apply byt_ext (by simp)
  intro i hi
  rw [byt_set _ _ _ _ (by omega)]
  split
  · rename_i e
    rw [e, byt_span _ _ _ _ _ (by rw [h.len]; omega), if_neg (by omega), if_neg (by omega), nb_byt h]
  · rfl

theorem drP_set (zs : List Int) (s m j : Nat) : (drP zs s m).set 0 (j : Int) = drP zs s j := by simp [drP]

theorem isPg_drP {zs : List Int} (h : IsPg zs) (s m : Nat) (hm : m ≤ 16) : IsPg (drP zs s m) := isPg_set (isPg_span h s 0 0 (by omega) (by omega)) 0 m (by omega)

theorem drP_head {zs : List Int} (h : IsPg zs) (s m : Nat) : (drP zs s m).getD 0 0 = (m : Int) := by
  have hlen : (spanSet zs s 0 0).length = 64 := by simp [spanSet, h.len]
  have : byt (drP zs s m) 0 = (m : Int) := by unfold drP; rw [byt_set _ _ _ _ (by omega), if_pos rfl]
  exact this

def headOf (w : World) (g : Nat) : Nat := match w.cell? ⟨g, 0, none⟩ with | some (.int _ z) => z.toNat | _ => 0

set_option maxHeartbeats 4000000 in
theorem l2Drop_any (a : Option Addr) (zs : List Int) (c s : Nat) (w : World) (hr : Reads w a zs) (h : Fine zs) (hs : s < nb zs 0) :
    Calls Try.prog 136 #[.slice a 64 c, .int .i64 s] w fun e w' => Below w.heap.size w w' ∧ ∃ g dd ys, e = .returned (.slice (some ⟨g, 0, none⟩) 64 dd) ∧ 64 ≤ dd ∧ w.heap.size ≤ g ∧ Sl64 w' g ys ∧ Fine ys := by
  have hfew := h.few
  have hs16 : s < 16 := by omega
  have HD : Hid (∀ m, m ≤ nb zs 0 → (0 < m → m - 1 ≠ s ∧ ln zs (m - 1) ≠ 0) → Fine (drP zs s m)) := fun m hm hl => (dirs_drop h.dirs hs hm hl).fine
  have HN : Hid (s < nb zs 0) := hs
  obtain ⟨k, hk⟩ : ∃ k, k = nb zs 0 := ⟨_, rfl⟩
  have HK : Hid (nb zs 0 = k) := hk.symm
  rw [← hk] at hfew
  clear hs hk
  go_enter Try.func136, Try.ntmps136
  go_wp2_with fail
  refine (l2Copy_any a zs c _ hr h.pg.len).mono ?_
  rintro e w2 ⟨g, dd, rfl, hdd, gB, hgw, hA⟩
  have c0 := hA.cell (2 + 2 * s) (by omega)
  have f0 := hA.frozen (2 + 2 * s)
  go_upto_region 3 with (fail)
  have hA1 := hA.set (2 + 2 * s) (by omega) 0
  have gB1 := gB.setCell (p := ⟨g, 2 + 2 * s, none⟩) hgw (.int .u8 0)
  clear c0 f0
  generalize w2.setCell ⟨g, 2 + 2 * s, none⟩ (.int .u8 0) = V1 at hA1 gB1 ⊢
  have c0 := hA1.cell (3 + 2 * s) (by omega)
  have f0 := hA1.frozen (3 + 2 * s)
  go_wp2_with fail
  have hA2 := hA1.set (3 + 2 * s) (by omega) 0
  have gB2 := gB1.setCell (p := ⟨g, 3 + 2 * s, none⟩) hgw (.int .u8 0)
  clear c0 f0 hA1 gB1 hA gB
  generalize V1.setCell ⟨g, 3 + 2 * s, none⟩ (.int .u8 0) = V2 at hA2 gB2 ⊢
  have hA3 : Sl64 V2 g (drP zs s k) := by rw [← HK.out, drP_start h.pg s hs16]; exact hA2
  clear hA2
  go_loopw [31] (fun _ wr => ∃ m : Nat, m ≤ k ∧ Sl64 wr g (drP zs s m) ∧ Below w.heap.size w wr) (fun _ wr => headOf wr g)
  case atStart => exact ⟨k, Nat.le_refl _, hA3, gB2⟩
  case round =>
    obtain ⟨m, hm, hA, gW⟩ := hrel
    clear hA3 gB2
    have c0 := hA.cell 0 (by omega)
    rw [drP_head h.pg] at c0
    have hm16 : m ≤ 16 := by omega
    have hIs := isPg_drP h.pg s m hm16
    have hRd : Reads wr (some ⟨g, 0, none⟩) (drP zs s m) := (hA.bytes (Nat.le_refl _) (Nat.lt_succ_self _)).reads
    cases m with
    | zero =>
      have HF : Hid (Fine (drP zs s 0)) := HD.out 0 (Nat.zero_le _) (fun h0 => absurd h0 (Nat.lt_irrefl _))
      go_wp2_with fail
      go_ret
      exact ⟨gW, g, dd, _, rfl, hdd, hgw, hA, HF.out⟩
    | succ j =>
      have hj1 : ((j + 1 : Nat) : Int) - 1 = (j : Int) := by omega
      have hj0 : (0 : Int) < ((j + 1 : Nat) : Int) := by omega
      go_wp2_with fail
      refine (l2Size_any (some ⟨g, 0, none⟩) (drP zs s (j + 1)) dd j wr hRd hIs (by omega)).mono ?_
      rintro e w' ⟨rfl, hw'⟩
      subst w'
      have hy := drP_ln h.pg s (j + 1) j hs16
      simp only [ln] at hy
      obtain ⟨y, hyy⟩ : ∃ y, y = nb (drP zs s (j + 1)) (3 + 2 * j) := ⟨_, rfl⟩
      rw [← hyy] at hy ⊢
      have HY : Hid (y = if j = s then 0 else nb zs (3 + 2 * j)) := hy
      clear hyy hy
      cases y with
      | zero =>
        have f0 := hA.frozen 0
        have hA4 : Sl64 (wr.setCell ⟨g, 0, none⟩ (.int .u8 (j : Int))) g (drP zs s j) := by have := hA.set 0 (by omega) (j : Int); rwa [drP_set] at this
        have gW4 := gW.setCell (p := ⟨g, 0, none⟩) hgw (.int .u8 (j : Int))
        have hm1 : headOf wr g = j + 1 := by unfold headOf; rw [c0]; simp only; omega
        have hm2 : headOf (wr.setCell ⟨g, 0, none⟩ (.int .u8 (j : Int))) g = j := by unfold headOf; rw [World.cell?_setCell_same _ _ _ c0]; simp only; omega
        have HM : Hid (headOf (wr.setCell ⟨g, 0, none⟩ (.int .u8 (j : Int))) g < headOf wr g) := by show _ < _; omega
        clear hm1 hm2 hRd
        go_wp2_with fail
        go_roundw
        case rel => exact ⟨j, by omega, hA4, gW4⟩
        case measure => exact HM.out
      | succ y =>
        have HF : Hid (Fine (drP zs s (j + 1))) := by
          refine HD.out (j + 1) (by rw [HK.out]; exact hm) (fun _ => ?_)
          have hy := HY.out
          rw [Nat.add_sub_cancel]
          split at hy
          · cases hy
          · rename_i hne
            exact ⟨hne, by simp only [ln]; omega⟩
        clear hRd
        go_wp2_with fail
        go_ret
        exact ⟨gW, g, dd, _, rfl, hdd, hgw, hA, HF.out⟩

end Go.Proofs.Ytcjkjenebnodbaa.Dr

