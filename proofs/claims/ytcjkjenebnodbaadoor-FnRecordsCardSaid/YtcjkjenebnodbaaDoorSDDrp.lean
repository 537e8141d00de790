/-
  The contract of the model's l2Drop: a page without a fault.
-/
import Derived.Test.YtcjkjenebnodbaaDoorSDKec
import Derived.Test.YtcjkjenebnodbaaDoorSDCopy

namespace Go.Proofs.YtcjkjenebnodbaaDoor.Dr
open Go.RowKit
set_option linter.unusedVariables false

/-- A page with slot s emptied, that tells m slots. -/
def drP (zs : List Int) (s m : Nat) : List Int := (spanSet zs s 0 0).set 0 (m : Int)

theorem drP_ln {zs : List Int} (h : IsPg zs) (s m j : Nat) (hs : s < 16) : ln (drP zs s m) j = if j = s then 0 else ln zs j := by
  have hlen : (spanSet zs s 0 0).length = 64 := by simp [spanSet, h.len]
  have B : byt (drP zs s m) (3 + 2 * j) = if j = s then ((0 : Nat) : Int) else byt zs (3 + 2 * j) := by
    unfold drP
    rw [byt_set _ _ _ _ (by omega), byt_span _ _ _ _ _ (by rw [h.len]; omega), if_neg (by omega)]
    by_cases e : j = s
    · subst e; rw [if_pos rfl, if_pos rfl]
    · rw [if_neg (by omega), if_neg (by omega), if_neg e]
  split
  · rename_i e
    rw [if_pos e] at B
    exact nb_nat B
  · rename_i e
    rw [if_neg e] at B
    exact nb_of_byt B

theorem drP_start {zs : List Int} (h : IsPg zs) (s : Nat) (hs : s < 16) : drP zs s (nb zs 0) = spanSet zs s 0 0 := by
  have hlen : (spanSet zs s 0 0).length = 64 := by simp [spanSet, h.len]
  unfold drP
  apply byt_ext (by simp)
  intro i hi
  rw [byt_set _ _ _ _ (by omega)]
  split
  · rename_i e
    rw [e, byt_span _ _ _ _ _ (by rw [h.len]; omega), if_neg (by omega), if_neg (by omega), nb_byt h]
  · rfl

theorem drP_set (zs : List Int) (s m j : Nat) : (drP zs s m).set 0 (j : Int) = drP zs s j := by simp [drP]

theorem isPg_drP {zs : List Int} (h : IsPg zs) (s m : Nat) (hm : m ≤ 16) : IsPg (drP zs s m) := isPg_set (isPg_span h s 0 0 (by omega) (by omega)) 0 m (by omega)

theorem drP_head {zs : List Int} (h : IsPg zs) (s m : Nat) : (drP zs s m).getD 0 0 = (m : Int) := by
  have hlen : (spanSet zs s 0 0).length = 64 := by simp [spanSet, h.len]
  have : byt (drP zs s m) 0 = (m : Int) := by unfold drP; rw [byt_set _ _ _ _ (by omega), if_pos rfl]
  exact this

def headOf (w : World) (g : Nat) : Nat := match w.cell? ⟨g, 0, none⟩ with | some (.int _ z) => z.toNat | _ => 0

set_option maxHeartbeats 4000000 in
theorem l2Drop_any (a : Option Addr) (zs : List Int) (c s : Nat) (w : World) (hr : Reads w a zs) (h : Fine zs) (hs : s < nb zs 0) :
    Calls Tryd.prog 77 #[.slice a 64 c, .int .i64 s] w fun e w' => Below w.heap.size w w' ∧ ∃ g dd ys, e = .returned (.slice (some ⟨g, 0, none⟩) 64 dd) ∧ 64 ≤ dd ∧ w.heap.size ≤ g ∧ Sl64 w' g ys ∧ Fine ys := by
  have hfew := h.few
  have hs16 : s < 16 := by omega
  have HD : Hid (∀ m, m ≤ nb zs 0 → (0 < m → m - 1 ≠ s ∧ ln zs (m - 1) ≠ 0) → Fine (drP zs s m)) := fun m hm hl => (dirs_drop h.dirs hs hm hl).fine
  have HN : Hid (s < nb zs 0) := hs
  obtain ⟨k, hk⟩ : ∃ k, k = nb zs 0 := ⟨_, rfl⟩
  have HK : Hid (nb zs 0 = k) := hk.symm
  rw [← hk] at hfew
  clear hs hk
  go_enter Tryd.func77, Tryd.ntmps77
  go_wp2_with fail
  refine (l2Copy_any a zs c _ hr h.pg.len).mono ?_
  rintro e w2 ⟨g, dd, rfl, hdd, gB, hgw, hA⟩
  have c0 := hA.cell (2 + 2 * s) (by omega)
  have f0 := hA.frozen (2 + 2 * s)
  go_upto_region 3 with (fail)
  have hA1 := hA.set (2 + 2 * s) (by omega) 0
  have gB1 := gB.setCell (p := ⟨g, 2 + 2 * s, none⟩) hgw (.int .u8 0)
  clear c0 f0
  generalize w2.setCell ⟨g, 2 + 2 * s, none⟩ (.int .u8 0) = V1 at hA1 gB1 ⊢
  have c0 := hA1.cell (3 + 2 * s) (by omega)
  have f0 := hA1.frozen (3 + 2 * s)
  go_wp2_with fail
  have hA2 := hA1.set (3 + 2 * s) (by omega) 0
  have gB2 := gB1.setCell (p := ⟨g, 3 + 2 * s, none⟩) hgw (.int .u8 0)
  clear c0 f0 hA1 gB1 hA gB
  generalize V1.setCell ⟨g, 3 + 2 * s, none⟩ (.int .u8 0) = V2 at hA2 gB2 ⊢
  have hA3 : Sl64 V2 g (drP zs s k) := by rw [← HK.out, drP_start h.pg s hs16]; exact hA2
  clear hA2
  go_loopw [31] (fun _ wr => ∃ m : Nat, m ≤ k ∧ Sl64 wr g (drP zs s m) ∧ Below w.heap.size w wr) (fun _ wr => headOf wr g)
  case atStart => exact ⟨k, Nat.le_refl _, hA3, gB2⟩
  case round =>
    obtain ⟨m, hm, hA, gW⟩ := hrel
    clear hA3 gB2
    have c0 := hA.cell 0 (by omega)
    rw [drP_head h.pg] at c0
    have hm16 : m ≤ 16 := by omega
    have hIs := isPg_drP h.pg s m hm16
    have hRd : Reads wr (some ⟨g, 0, none⟩) (drP zs s m) := (hA.bytes (Nat.le_refl _) (Nat.lt_succ_self _)).reads
    cases m with
    | zero =>
      have HF : Hid (Fine (drP zs s 0)) := HD.out 0 (Nat.zero_le _) (fun h0 => absurd h0 (Nat.lt_irrefl _))
      go_wp2_with fail
      go_ret
      exact ⟨gW, g, dd, _, rfl, hdd, hgw, hA, HF.out⟩
    | succ j =>
      have hj1 : ((j + 1 : Nat) : Int) - 1 = (j : Int) := by omega
      have hj0 : (0 : Int) < ((j + 1 : Nat) : Int) := by omega
      go_wp2_with fail
      refine (l2Size_any (some ⟨g, 0, none⟩) (drP zs s (j + 1)) dd j wr hRd hIs (by omega)).mono ?_
      rintro e w' ⟨rfl, hw'⟩
      subst w'
      have hy := drP_ln h.pg s (j + 1) j hs16
      simp only [ln] at hy
      obtain ⟨y, hyy⟩ : ∃ y, y = nb (drP zs s (j + 1)) (3 + 2 * j) := ⟨_, rfl⟩
      rw [← hyy] at hy ⊢
      have HY : Hid (y = if j = s then 0 else nb zs (3 + 2 * j)) := hy
      clear hyy hy
      cases y with
      | zero =>
        have f0 := hA.frozen 0
        have hA4 : Sl64 (wr.setCell ⟨g, 0, none⟩ (.int .u8 (j : Int))) g (drP zs s j) := by have := hA.set 0 (by omega) (j : Int); rwa [drP_set] at this
        have gW4 := gW.setCell (p := ⟨g, 0, none⟩) hgw (.int .u8 (j : Int))
        have hm1 : headOf wr g = j + 1 := by unfold headOf; rw [c0]; simp only; omega
        have hm2 : headOf (wr.setCell ⟨g, 0, none⟩ (.int .u8 (j : Int))) g = j := by unfold headOf; rw [World.cell?_setCell_same _ _ _ c0]; simp only; omega
        have HM : Hid (headOf (wr.setCell ⟨g, 0, none⟩ (.int .u8 (j : Int))) g < headOf wr g) := by show _ < _; omega
        clear hm1 hm2 hRd
        go_wp2_with fail
        go_roundw
        case rel => exact ⟨j, by omega, hA4, gW4⟩
        case measure => exact HM.out
      | succ y =>
        have HF : Hid (Fine (drP zs s (j + 1))) := by
          refine HD.out (j + 1) (by rw [HK.out]; exact hm) (fun _ => ?_)
          have hy := HY.out
          rw [Nat.add_sub_cancel]
          split at hy
          · cases hy
          · rename_i hne
            exact ⟨hne, by simp only [ln]; omega⟩
        clear hRd
        go_wp2_with fail
        go_ret
        exact ⟨gW, g, dd, _, rfl, hdd, hgw, hA, HF.out⟩

end Go.Proofs.YtcjkjenebnodbaaDoor.Dr

/-
  The contracts of what draws: numbers, picks, rows out of the bytes of a code: whatever they are, each is within its bounds.
-/
namespace Go.Proofs.YtcjkjenebnodbaaDoor.Dr
open Go.RowKit

/-- Block b holds a source: the slice of a code's bytes, and how many were read. -/
structure SrcAt (w : World) (b : Nat) (a : Option Addr) (n c : Nat) (zs : List Int) (i : Int) : Prop where
  c0 : w.cell? ⟨b, 0, none⟩ = some (.slice a n c)
  c1 : w.cell? ⟨b, 1, none⟩ = some (.int .i64 i)
  f1 : w.frozen? ⟨b, 1, none⟩ = false
  rd : Reads w a zs
  far : ∀ p, a = some p → zs ≠ [] → p.block < b
  hn : zs.length = n
  hm : n ≤ 1048576
  hz : ∀ z ∈ zs, 0 ≤ z ∧ z ≤ 255
  i0 : 0 ≤ i
  i1 : i ≤ 100000

theorem SrcAt.turned {w w' : World} {b : Nat} {a : Option Addr} {n c : Nat} {zs : List Int} {i j : Int} (h : SrcAt w b a n c zs i) (ht : Turned b (b + 1) w w') (hc : w'.cell? ⟨b, 0, none⟩ = some (.slice a n c)) (hj : w'.cell? ⟨b, 1, none⟩ = some (.int .i64 j)) (hf : w'.frozen? ⟨b, 1, none⟩ = false) (j0 : 0 ≤ j) (j1 : j ≤ 100000) : SrcAt w' b a n c zs j := by
  refine ⟨hc, hj, hf, ?_, h.far, h.hn, h.hm, h.hz, j0, j1⟩
  rcases h.rd with hr | ⟨x, o, ha, hcs⟩
  · exact .inl hr
  · refine .inr ⟨x, o, ha, fun k hk => ht.cell (hcs k hk) (.inl ?_)⟩
    have hf := h.far ⟨x, o, none⟩ ha (by intro e; rw [e] at hk; simp at hk)
    exact hf

theorem SrcAt.stepped {w : World} {b : Nat} {a : Option Addr} {n c : Nat} {zs : List Int} {i : Int} (h : SrcAt w b a n c zs i) (i9 : i ≤ 99999) (q : Nat) : Turned b (b + 1) w ((w.setCell ⟨b, 1, none⟩ (.int .i64 (i + 1))).drewN q) ∧ SrcAt ((w.setCell ⟨b, 1, none⟩ (.int .i64 (i + 1))).drewN q) b a n c zs (i + 1) := by
  have ht : Turned b (b + 1) w ((w.setCell ⟨b, 1, none⟩ (.int .i64 (i + 1))).drewN q) := by
    have h1 := (Turned.refl b (b + 1) w).setCell (p := ⟨b, 1, none⟩) (Nat.le_refl _) (by simp) (.int .i64 (i + 1))
    exact ⟨h1.os, h1.tape, h1.output, h1.size, h1.block⟩
  have i0 := h.i0
  refine ⟨ht, h.turned ht ?_ ?_ ?_ (by omega) (by omega)⟩
  · show (w.setCell ⟨b, 1, none⟩ (.int .i64 (i + 1))).cell? ⟨b, 0, none⟩ = _
    rw [World.cell?_setCell_other _ _ _ _ (by simp)]
    exact h.c0
  · show (w.setCell ⟨b, 1, none⟩ (.int .i64 (i + 1))).cell? ⟨b, 1, none⟩ = _
    exact World.cell?_setCell_same _ _ _ h.c1
  · show (w.setCell ⟨b, 1, none⟩ (.int .i64 (i + 1))).frozen? ⟨b, 1, none⟩ = _
    rw [World.frozen?_setCell]
    exact h.f1

set_option maxHeartbeats 400000 in
theorem l1Next_nil (b : Nat) (a : Option Addr) (c : Nat) (zs : List Int) (i m : Int) (w : World) (h : SrcAt w b a 0 c zs i) (i9 : i ≤ 99999) (m0 : 1 ≤ m) (m1 : m ≤ 65536) :
    Calls Tryd.prog 25 #[.pointer (some ⟨b, 0, none⟩), .int .i64 m] w fun e w' => (∃ r, e = .returned (.int .i64 r) ∧ 0 ≤ r ∧ r < m) ∧ Turned b (b + 1) w w' ∧ SrcAt w' b a 0 c zs (i + 1) := by
  have hS := h.stepped i9 0
  obtain ⟨c0, c1, f1, _, _, _, _, _, i0, _⟩ := h
  have HS : Hid (Turned b (b + 1) w ((w.setCell ⟨b, 1, none⟩ (.int .i64 (i + 1))).drewN 0) ∧ SrcAt ((w.setCell ⟨b, 1, none⟩ (.int .i64 (i + 1))).drewN 0) b a 0 c zs (i + 1)) := hS
  clear hS
  have hm0 : ¬ (m = 0) := by omega
  have hr0 : 0 ≤ i * 7 % m := Int.emod_nonneg _ (by omega)
  have hr1 : i * 7 % m < m := Int.emod_lt_of_pos _ (by omega)
  go_enter Tryd.func25, Tryd.ntmps25
  go_wp2
  go_ret
  exact ⟨⟨_, rfl, hr0, hr1⟩, HS.out⟩

set_option maxHeartbeats 400000 in
theorem l1Next_small (b x o n : Nat) (c : Nat) (zs : List Int) (i m : Int) (w : World) (h : SrcAt w b (some ⟨x, o, none⟩) n c zs i) (i9 : i ≤ 99999) (m0 : 1 ≤ m) (m1 : m ≤ 200) (hp : 0 < n)
    (y : Int) (y0 : 0 ≤ y) (y1 : y ≤ 255) (hy : w.cell? ⟨x, o + (i % n).toNat, none⟩ = some (.int .u8 y)) (hx : x < b) :
    Calls Tryd.prog 25 #[.pointer (some ⟨b, 0, none⟩), .int .i64 m] w fun e w' => (∃ r, e = .returned (.int .i64 r) ∧ 0 ≤ r ∧ r < m) ∧ Turned b (b + 1) w w' ∧ SrcAt w' b (some ⟨x, o, none⟩) n c zs (i + 1) := by
  have HS : Hid (∀ q, Turned b (b + 1) w ((w.setCell ⟨b, 1, none⟩ (.int .i64 (i + 1))).drewN q) ∧ SrcAt ((w.setCell ⟨b, 1, none⟩ (.int .i64 (i + 1))).drewN q) b (some ⟨x, o, none⟩) n c zs (i + 1)) := h.stepped i9
  obtain ⟨c0, c1, f1, _, _, _, hn, _, i0, _⟩ := h
  have hne : ¬ (b = x) := by omega
  have hm0 : ¬ (m = 0) := by omega
  have hn0 : ((n : Int) == 0) = false := by simp; omega
  have hq0 : 0 ≤ i % (n : Int) := Int.emod_nonneg _ (by omega)
  have hq1 : i % (n : Int) < (n : Int) := Int.emod_lt_of_pos _ (by omega)
  have hd0 : 0 ≤ i / (n : Int) := Int.ediv_nonneg i0 (by omega)
  have hd1 : i / (n : Int) ≤ 99999 := Int.le_trans (Int.ediv_le_self _ i0) i9
  have hr0 : 0 ≤ (y + i / (n : Int) * 37) % m := Int.emod_nonneg _ (by omega)
  have hr1 : (y + i / (n : Int) * 37) % m < m := Int.emod_lt_of_pos _ (by omega)
  go_enter Tryd.func25, Tryd.ntmps25
  go_wp2
  go_quiet (fail)
  go_wp2
  go_ret
  exact ⟨⟨_, rfl, hr0, hr1⟩, HS.out _⟩

set_option maxHeartbeats 400000 in
theorem l1Next_big (b x o n : Nat) (c : Nat) (zs : List Int) (i m : Int) (w : World) (h : SrcAt w b (some ⟨x, o, none⟩) n c zs i) (i9 : i ≤ 99999) (m0 : 200 < m) (m1 : m ≤ 65536) (hp : 0 < n)
    (y z : Int) (y0 : 0 ≤ y) (y1 : y ≤ 255) (z0 : 0 ≤ z) (z1 : z ≤ 255) (hy : w.cell? ⟨x, o + (i % n).toNat, none⟩ = some (.int .u8 y)) (hz : w.cell? ⟨x, o + ((i + 1) % n).toNat, none⟩ = some (.int .u8 z)) (hx : x < b) :
    Calls Tryd.prog 25 #[.pointer (some ⟨b, 0, none⟩), .int .i64 m] w fun e w' => (∃ r, e = .returned (.int .i64 r) ∧ 0 ≤ r ∧ r < m) ∧ Turned b (b + 1) w w' ∧ SrcAt w' b (some ⟨x, o, none⟩) n c zs (i + 1) := by
  have HS : Hid (∀ q, Turned b (b + 1) w ((w.setCell ⟨b, 1, none⟩ (.int .i64 (i + 1))).drewN q) ∧ SrcAt ((w.setCell ⟨b, 1, none⟩ (.int .i64 (i + 1))).drewN q) b (some ⟨x, o, none⟩) n c zs (i + 1)) := h.stepped i9
  obtain ⟨c0, c1, f1, _, _, _, hn, _, i0, _⟩ := h
  have hne : ¬ (b = x) := by omega
  have hm0 : ¬ (m = 0) := by omega
  have hn0 : ((n : Int) == 0) = false := by simp; omega
  have hq0 : 0 ≤ i % (n : Int) := Int.emod_nonneg _ (by omega)
  have hq1 : i % (n : Int) < (n : Int) := Int.emod_lt_of_pos _ (by omega)
  have hp0 : 0 ≤ (i + 1) % (n : Int) := Int.emod_nonneg _ (by omega)
  have hp1 : (i + 1) % (n : Int) < (n : Int) := Int.emod_lt_of_pos _ (by omega)
  have hd0 : 0 ≤ i / (n : Int) := Int.ediv_nonneg i0 (by omega)
  have hd1 : i / (n : Int) ≤ 99999 := Int.le_trans (Int.ediv_le_self _ i0) i9
  have hr0 : 0 ≤ ((y + i / (n : Int) * 37) * 251 + z * 13 + i) % m := Int.emod_nonneg _ (by omega)
  have hr1 : ((y + i / (n : Int) * 37) * 251 + z * 13 + i) % m < m := Int.emod_lt_of_pos _ (by omega)
  go_enter Tryd.func25, Tryd.ntmps25
  go_wp2
  go_quiet (fail)
  go_wp2
  go_quiet (fail)
  go_wp2
  go_ret
  exact ⟨⟨_, rfl, hr0, hr1⟩, HS.out _⟩

theorem l1Next_any (b : Nat) (a : Option Addr) (n c : Nat) (zs : List Int) (i m : Int) (w : World) (h : SrcAt w b a n c zs i) (i9 : i ≤ 99999) (m0 : 1 ≤ m) (m1 : m ≤ 65536) :
    Calls Tryd.prog 25 #[.pointer (some ⟨b, 0, none⟩), .int .i64 m] w fun e w' => (∃ r, e = .returned (.int .i64 r) ∧ 0 ≤ r ∧ r < m) ∧ Turned b (b + 1) w w' ∧ SrcAt w' b a n c zs (i + 1) := by
  have hn := h.hn
  by_cases h0 : n = 0
  · subst h0
    exact l1Next_nil b a c zs i m w h i9 m0 m1
  · have hne : zs ≠ [] := by intro e; rw [e] at hn; simp at hn; omega
    rcases h.rd with hr | ⟨x, o, rfl, hc⟩
    · exact absurd hr hne
    have hx : x < b := h.far ⟨x, o, none⟩ rfl hne
    have i0 := h.i0
    have key : ∀ j : Int, 0 ≤ j → ∃ y, 0 ≤ y ∧ y ≤ 255 ∧ w.cell? ⟨x, o + (j % (n : Int)).toNat, none⟩ = some (.int .u8 y) := fun j _ => by
      have hq0 : 0 ≤ j % (n : Int) := Int.emod_nonneg _ (by omega)
      have hq1 : j % (n : Int) < (n : Int) := Int.emod_lt_of_pos _ (by omega)
      have hl : (j % (n : Int)).toNat < zs.length := by omega
      have hv := hc _ hl
      have hg : zs.getD (j % (n : Int)).toNat 0 = zs[(j % (n : Int)).toNat] := by simp [List.getD, hl]
      have hz := h.hz _ (List.getElem_mem hl)
      exact ⟨_, by rw [hg]; exact hz.1, by rw [hg]; exact hz.2, hv⟩
    obtain ⟨y, y0, y1, hy⟩ := key i i0
    by_cases hb : m ≤ 200
    · exact l1Next_small b x o n c zs i m w h i9 m0 hb (by omega) y y0 y1 hy hx
    · obtain ⟨z, z0, z1, hz⟩ := key (i + 1) (by omega)
      exact l1Next_big b x o n c zs i m w h i9 (by omega) m1 (by omega) y z y0 y1 z0 z1 hy hz hx

end Go.Proofs.YtcjkjenebnodbaaDoor.Dr
