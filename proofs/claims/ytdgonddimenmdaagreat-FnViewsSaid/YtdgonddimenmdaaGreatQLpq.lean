/-
  The contract of the model's l2Put where the cell is put, with its capacity; and where it is or isn't: a page without a fault, or a code.
-/
import Derived.Test.YtdgonddimenmdaaGreatQKec
import Derived.Test.YtdgonddimenmdaaGreatQCopy

namespace Go.Proofs.YtdgonddimenmdaaGreat
set_option maxRecDepth 20000
open Go.RowKit
set_option linter.unusedVariables false

set_option maxHeartbeats 4000000 in
theorem l2Put_cap (a : Option Addr) (zs cs : List Int) (c sb so n d : Nat) (w : World) (hr : Reads w a zs) (h : Fine zs) (hn : cs.length = n) (h1 : 1 ≤ n) (hcell : Reads w (some ⟨sb, so, none⟩) cs) (hq : putQ zs n = 0) :
    Calls Tryz.prog 34 #[.slice a 64 c, .slice (some ⟨sb, so, none⟩) n d] w fun e w' => ∃ g dd, e = .returned (.tuple #[.slice (some ⟨g, 0, none⟩) 64 dd, .int .i64 (putS zs), .int .i64 0]) ∧ 64 ≤ dd ∧ Below w.heap.size w w' ∧ w.heap.size ≤ g ∧ Sl64 w' g (putP zs cs) := by
  have hq' : ¬ (putS zs = nb zs 0 ∧ 16 ≤ nb zs 0) ∧ n + putMore zs ≤ freeN zs ∧ n + (2 + 2 * putM zs) ≤ nb zs 1 := by
    unfold putQ at hq
    split at hq
    · cases hq
    · split at hq
      · cases hq
      · split at hq
        · cases hq
        · exact ⟨by assumption, by omega, by omega⟩
  obtain ⟨hs, hfr, hlo⟩ := hq'
  obtain ⟨p, hp⟩ : ∃ p, nb zs 1 = p + n := ⟨nb zs 1 - n, by omega⟩
  obtain ⟨k, hk⟩ : ∃ k, k = nb zs 0 := ⟨_, rfl⟩
  obtain ⟨s, hsv⟩ : ∃ s, s = putS zs := ⟨_, rfl⟩
  obtain ⟨f, hf⟩ : ∃ f, f = freeN zs := ⟨_, rfl⟩
  have hsle : s ≤ k := by rw [hsv, hk]; have := firstE_le zs (nb zs 0) 0; unfold putS; omega
  have hlb := h.low
  have hkf := h.few
  have HK : Hid (nb zs 0 = k) := hk.symm
  have HS : Hid (firstE zs 0 (nb zs 0) = s) := hsv.symm
  have HFr : Hid (freeN zs = f) := hf.symm
  have HLo : Hid (nb zs 1 = p + n) := hp
  have HNl : Hid (cs.length = n) := hn
  rw [← hk] at hkf
  rw [hp] at hlb hlo
  rw [← hf] at hfr
  have hf64 : f ≤ 64 := by rw [hf]; unfold freeN; omega
  by_cases hsk : s = k
  · have hmo : putMore zs = 2 := by unfold putMore; rw [← hsv, ← hk, if_pos hsk]
    have hmm : putM zs = k + 1 := by unfold putM; rw [← hsv, ← hk, if_pos hsk]
    have hk16 : k < 16 := by rw [← hsv, ← hk] at hs; omega
    rw [hmo] at hfr
    rw [hmm] at hlo
    have HE : Hid (putP zs cs = spanSet (splice ((zs.set 0 ((s : Int) + 1)).set 1 (p : Int)) p cs) s p n) := by
      show _ = _
      unfold putP
      rw [hmm, hn, hp, Nat.add_sub_cancel, ← hsv, hsk]
      rfl
    rw [← hsv]
    clear hs hk hsv hf hmo hmm hp hn
    subst hsk
    have hd16 : decide ((16 : Int) ≤ (s : Int)) = false := by simp; omega
    have hi16 : ¬ (16 : Int) ≤ (s : Int) := by omega
    go_enter Tryz.func34, Tryz.ntmps34
    go_wp2_with fail
    refine (l2Empty_any a zs c _ hr h).mono ?_
    rintro e w' ⟨rfl, hw'⟩
    subst w'
    rw [HS.out]
    go_wp2_with fail
    refine (l2Count_any a zs c _ hr h.pg).mono ?_
    rintro e w' ⟨rfl, hw'⟩
    subst w'
    rw [HK.out]
    go_wp2_with fail
    refine (l2Free_any a zs c _ hr h).mono ?_
    rintro e w' ⟨rfl, hw'⟩
    subst w'
    rw [HFr.out]
    have df : ¬ (f : Int) < (n : Int) + 2 := by omega
    have df2 : decide ((f : Int) < (n : Int) + 2) = false := by simpa using df
    go_wp2_with fail
    refine (l2Low_any a zs c _ hr h.pg).mono ?_
    rintro e w' ⟨rfl, hw'⟩
    subst w'
    rw [HLo.out]
    have dl : ¬ (p : Int) < 2 + 2 * ((s : Int) + 1) := by omega
    have dl2 : decide ((p : Int) < 2 + 2 * ((s : Int) + 1)) = false := by simpa using dl
    have hpn : ((p + n : Nat) : Int) - (n : Int) = (p : Int) := by omega
    go_wp2_with fail
    refine (l2Copy_any a zs c _ hr h.pg.len).mono ?_
    rintro e w2 ⟨g, dd, rfl, hdd, gB, hgw, hA⟩
    have hsrc := hcell.below gB (Nat.le_refl _)
    have c0 := hA.cell 0 (by omega)
    have f0 := hA.frozen 0
    go_upto_region 16 with (fail)
    have hA1 := hA.set 0 (by omega) ((s : Int) + 1)
    have gB1 := gB.setCell (p := ⟨g, 0, none⟩) hgw (.int .u8 ((s : Int) + 1))
    have hsr1 : Reads (w2.setCell ⟨g, 0, none⟩ (.int .u8 ((s : Int) + 1))) (some ⟨sb, so, none⟩) cs := hcell.below gB1 (Nat.le_refl _)
    clear c0 f0
    generalize w2.setCell ⟨g, 0, none⟩ (.int .u8 ((s : Int) + 1)) = V1 at hA1 gB1 hsr1 ⊢
    have c0 := hA1.cell 1 (by omega)
    have f0 := hA1.frozen 1
    go_upto_region 17 with (fail)
    have hA2 := hA1.set 1 (by omega) (p : Int)
    have gB2 := gB1.setCell (p := ⟨g, 1, none⟩) hgw (.int .u8 (p : Int))
    have hsr2 : Reads (V1.setCell ⟨g, 1, none⟩ (.int .u8 (p : Int))) (some ⟨sb, so, none⟩) cs := hcell.below gB2 (Nat.le_refl _)
    clear c0 f0 hA1 gB1 hsr1 hA hsrc
    generalize V1.setCell ⟨g, 1, none⟩ (.int .u8 (p : Int)) = V2 at hA2 gB2 hsr2 ⊢
    go_wp2_with fail
    refine (l2Stand_any g dd s p n sb so d _ cs _ hA2 hdd HNl.out h1 (by omega) (by omega) hsr2).mono ?_
    rintro e w9 ⟨rfl, ht9, hA9⟩
    have gB9 := gB2.trans (ht9.toBelow gB2.size hgw)
    clear ht9 hA2 gB2 hsr2
    go_wp2_with fail
    go_ret3
    refine ⟨g, dd, rfl, hdd, gB9, hgw, ?_⟩
    rw [HE.out]
    exact hA9
  · have hmo : putMore zs = 0 := by unfold putMore; rw [← hsv, ← hk, if_neg hsk]
    have hmm : putM zs = k := by unfold putM; rw [← hsv, ← hk, if_neg hsk]
    rw [hmo] at hfr
    rw [hmm] at hlo
    have HE : Hid (putP zs cs = spanSet (splice ((zs.set 0 (k : Int)).set 1 (p : Int)) p cs) s p n) := by
      show _ = _
      unfold putP
      rw [hmm, hn, hp, Nat.add_sub_cancel, ← hsv]
    rw [← hsv]
    clear hs hk hsv hf hmo hmm hp hn
    have hde : ((s : Int) == (k : Int)) = false := by simp; omega
    go_enter Tryz.func34, Tryz.ntmps34
    go_wp2_with fail
    refine (l2Empty_any a zs c _ hr h).mono ?_
    rintro e w' ⟨rfl, hw'⟩
    subst w'
    rw [HS.out]
    go_wp2_with fail
    refine (l2Count_any a zs c _ hr h.pg).mono ?_
    rintro e w' ⟨rfl, hw'⟩
    subst w'
    rw [HK.out]
    go_wp2_with fail
    refine (l2Free_any a zs c _ hr h).mono ?_
    rintro e w' ⟨rfl, hw'⟩
    subst w'
    rw [HFr.out]
    have df : ¬ (f : Int) < (n : Int) + 0 := by omega
    have df2 : decide ((f : Int) < (n : Int) + 0) = false := by simpa using df
    go_wp2_with fail
    refine (l2Low_any a zs c _ hr h.pg).mono ?_
    rintro e w' ⟨rfl, hw'⟩
    subst w'
    rw [HLo.out]
    have dl : ¬ (p : Int) < 2 + 2 * (k : Int) := by omega
    have dl2 : decide ((p : Int) < 2 + 2 * (k : Int)) = false := by simpa using dl
    have hpn : ((p + n : Nat) : Int) - (n : Int) = (p : Int) := by omega
    go_wp2_with fail
    refine (l2Copy_any a zs c _ hr h.pg.len).mono ?_
    rintro e w2 ⟨g, dd, rfl, hdd, gB, hgw, hA⟩
    have hsrc := hcell.below gB (Nat.le_refl _)
    have c0 := hA.cell 0 (by omega)
    have f0 := hA.frozen 0
    go_upto_region 16 with (fail)
    have hA1 := hA.set 0 (by omega) (k : Int)
    have gB1 := gB.setCell (p := ⟨g, 0, none⟩) hgw (.int .u8 (k : Int))
    have hsr1 : Reads (w2.setCell ⟨g, 0, none⟩ (.int .u8 (k : Int))) (some ⟨sb, so, none⟩) cs := hcell.below gB1 (Nat.le_refl _)
    clear c0 f0
    generalize w2.setCell ⟨g, 0, none⟩ (.int .u8 (k : Int)) = V1 at hA1 gB1 hsr1 ⊢
    have c0 := hA1.cell 1 (by omega)
    have f0 := hA1.frozen 1
    go_upto_region 17 with (fail)
    have hA2 := hA1.set 1 (by omega) (p : Int)
    have gB2 := gB1.setCell (p := ⟨g, 1, none⟩) hgw (.int .u8 (p : Int))
    have hsr2 : Reads (V1.setCell ⟨g, 1, none⟩ (.int .u8 (p : Int))) (some ⟨sb, so, none⟩) cs := hcell.below gB2 (Nat.le_refl _)
    clear c0 f0 hA1 gB1 hsr1 hA hsrc
    generalize V1.setCell ⟨g, 1, none⟩ (.int .u8 (p : Int)) = V2 at hA2 gB2 hsr2 ⊢
    go_wp2_with fail
    refine (l2Stand_any g dd s p n sb so d _ cs _ hA2 hdd HNl.out h1 (by omega) (by omega) hsr2).mono ?_
    rintro e w9 ⟨rfl, ht9, hA9⟩
    have gB9 := gB2.trans (ht9.toBelow gB2.size hgw)
    clear ht9 hA2 gB2 hsr2
    go_wp2_with fail
    go_ret3
    refine ⟨g, dd, rfl, hdd, gB9, hgw, ?_⟩
    rw [HE.out]
    exact hA9

theorem l2Put_or (a : Option Addr) (zs cs : List Int) (c sb so n d : Nat) (w : World) (hr : Reads w a zs) (h : Fine zs) (hn : cs.length = n) (h1 : 1 ≤ n) (h64 : n ≤ 64) (hb : ∀ z ∈ cs, 0 ≤ z ∧ z ≤ 255) (hcell : Reads w (some ⟨sb, so, none⟩) cs) :
    Calls Tryz.prog 34 #[.slice a 64 c, .slice (some ⟨sb, so, none⟩) n d] w fun e w' => Below w.heap.size w w' ∧ ((∃ q : Int, q ≠ 0 ∧ e = .returned (.tuple #[.slice none 0 0, .int .i64 0, .int .i64 q])) ∨ ∃ g dd ys s, e = .returned (.tuple #[.slice (some ⟨g, 0, none⟩) 64 dd, .int .i64 s, .int .i64 0]) ∧ 64 ≤ dd ∧ w.heap.size ≤ g ∧ Sl64 w' g ys ∧ Fine ys) := by
  by_cases hs : putS zs = nb zs 0 ∧ 16 ≤ nb zs 0
  · refine (l2Put_many a zs c _ n d w hr h hs).mono ?_
    rintro e w' ⟨rfl, rfl⟩
    exact ⟨Below.refl _ _, .inl ⟨2, by decide, rfl⟩⟩
  · by_cases hfull : freeN zs < n + putMore zs ∨ nb zs 1 < n + (2 + 2 * putM zs)
    · refine (l2Put_full a zs c _ n d w hr h (by omega) hs hfull).mono ?_
      rintro e w' ⟨rfl, rfl⟩
      exact ⟨Below.refl _ _, .inl ⟨_, by split <;> decide, rfl⟩⟩
    · have hq : putQ zs n = 0 := by
        unfold putQ
        rw [if_neg hs, if_neg (by omega), if_neg (by omega)]
      have hF := fine_put h hb (by omega) (by rw [hn]; exact hq)
      refine (l2Put_cap a zs cs c sb so n d w hr h hn h1 hcell hq).mono ?_
      rintro e w' ⟨g, dd, rfl, hdd, gB, hgw, hA⟩
      exact ⟨gB, .inr ⟨g, dd, _, _, rfl, hdd, hgw, hA, hF⟩⟩

end Go.Proofs.YtdgonddimenmdaaGreat

/-
  The contracts of what draws: numbers, picks, rows out of the bytes of a code: whatever they are, each is within its bounds.
-/
namespace Go.Proofs.YtdgonddimenmdaaGreat
open Go.RowKit

/-- Block b holds a source: the slice of a code's bytes, and how many were read. -/
structure SrcAt (w : World) (b : Nat) (a : Option Addr) (n c : Nat) (zs : List Int) (i : Int) : Prop where
  c0 : w.cell? ⟨b, 0, none⟩ = some (.slice a n c)
  c1 : w.cell? ⟨b, 1, none⟩ = some (.int .i64 i)
  f1 : w.frozen? ⟨b, 1, none⟩ = false
  rd : Reads w a zs
  far : ∀ p, a = some p → zs ≠ [] → p.block < b
  hn : zs.length = n
  hm : n ≤ 1048576
  hz : ∀ z ∈ zs, 0 ≤ z ∧ z ≤ 255
  i0 : 0 ≤ i
  i1 : i ≤ 1000

theorem SrcAt.turned {w w' : World} {b : Nat} {a : Option Addr} {n c : Nat} {zs : List Int} {i j : Int} (h : SrcAt w b a n c zs i) (ht : Turned b (b + 1) w w') (hc : w'.cell? ⟨b, 0, none⟩ = some (.slice a n c)) (hj : w'.cell? ⟨b, 1, none⟩ = some (.int .i64 j)) (hf : w'.frozen? ⟨b, 1, none⟩ = false) (j0 : 0 ≤ j) (j1 : j ≤ 1000) : SrcAt w' b a n c zs j := by
  refine ⟨hc, hj, hf, ?_, h.far, h.hn, h.hm, h.hz, j0, j1⟩
  rcases h.rd with hr | ⟨x, o, ha, hcs⟩
  · exact .inl hr
  · refine .inr ⟨x, o, ha, fun k hk => ht.cell (hcs k hk) (.inl ?_)⟩
    have hf := h.far ⟨x, o, none⟩ ha (by intro e; rw [e] at hk; simp at hk)
    exact hf

theorem SrcAt.stepped {w : World} {b : Nat} {a : Option Addr} {n c : Nat} {zs : List Int} {i : Int} (h : SrcAt w b a n c zs i) (i9 : i ≤ 999) (q : Nat) : Turned b (b + 1) w ((w.setCell ⟨b, 1, none⟩ (.int .i64 (i + 1))).drewN q) ∧ SrcAt ((w.setCell ⟨b, 1, none⟩ (.int .i64 (i + 1))).drewN q) b a n c zs (i + 1) := by
  have ht : Turned b (b + 1) w ((w.setCell ⟨b, 1, none⟩ (.int .i64 (i + 1))).drewN q) := by
    have h1 := (Turned.refl b (b + 1) w).setCell (p := ⟨b, 1, none⟩) (Nat.le_refl _) (by simp) (.int .i64 (i + 1))
    exact ⟨h1.os, h1.tape, h1.output, h1.size, h1.block⟩
  have i0 := h.i0
  refine ⟨ht, h.turned ht ?_ ?_ ?_ (by omega) (by omega)⟩
  · show (w.setCell ⟨b, 1, none⟩ (.int .i64 (i + 1))).cell? ⟨b, 0, none⟩ = _
    rw [World.cell?_setCell_other _ _ _ _ (by simp)]
    exact h.c0
  · show (w.setCell ⟨b, 1, none⟩ (.int .i64 (i + 1))).cell? ⟨b, 1, none⟩ = _
    exact World.cell?_setCell_same _ _ _ h.c1
  · show (w.setCell ⟨b, 1, none⟩ (.int .i64 (i + 1))).frozen? ⟨b, 1, none⟩ = _
    rw [World.frozen?_setCell]
    exact h.f1

set_option maxHeartbeats 400000 in
theorem l1Next_nil (b : Nat) (a : Option Addr) (c : Nat) (zs : List Int) (i m : Int) (w : World) (h : SrcAt w b a 0 c zs i) (i9 : i ≤ 999) (m0 : 1 ≤ m) (m1 : m ≤ 65536) :
    Calls Tryz.prog 27 #[.pointer (some ⟨b, 0, none⟩), .int .i64 m] w fun e w' => (∃ r, e = .returned (.int .i64 r) ∧ 0 ≤ r ∧ r < m) ∧ Turned b (b + 1) w w' ∧ SrcAt w' b a 0 c zs (i + 1) := by
  have hS := h.stepped i9 0
  obtain ⟨c0, c1, f1, _, _, _, _, _, i0, _⟩ := h
  have HS : Hid (Turned b (b + 1) w ((w.setCell ⟨b, 1, none⟩ (.int .i64 (i + 1))).drewN 0) ∧ SrcAt ((w.setCell ⟨b, 1, none⟩ (.int .i64 (i + 1))).drewN 0) b a 0 c zs (i + 1)) := hS
  clear hS
  have hm0 : ¬ (m = 0) := by omega
  have hr0 : 0 ≤ i * 7 % m := Int.emod_nonneg _ (by omega)
  have hr1 : i * 7 % m < m := Int.emod_lt_of_pos _ (by omega)
  go_enter Tryz.func27, Tryz.ntmps27
  go_wp2
  go_ret
  exact ⟨⟨_, rfl, hr0, hr1⟩, HS.out⟩

set_option maxHeartbeats 400000 in
theorem l1Next_small (b x o n : Nat) (c : Nat) (zs : List Int) (i m : Int) (w : World) (h : SrcAt w b (some ⟨x, o, none⟩) n c zs i) (i9 : i ≤ 999) (m0 : 1 ≤ m) (m1 : m ≤ 200) (hp : 0 < n)
    (y : Int) (y0 : 0 ≤ y) (y1 : y ≤ 255) (hy : w.cell? ⟨x, o + (i % n).toNat, none⟩ = some (.int .u8 y)) (hx : x < b) :
    Calls Tryz.prog 27 #[.pointer (some ⟨b, 0, none⟩), .int .i64 m] w fun e w' => (∃ r, e = .returned (.int .i64 r) ∧ 0 ≤ r ∧ r < m) ∧ Turned b (b + 1) w w' ∧ SrcAt w' b (some ⟨x, o, none⟩) n c zs (i + 1) := by
  have HS : Hid (∀ q, Turned b (b + 1) w ((w.setCell ⟨b, 1, none⟩ (.int .i64 (i + 1))).drewN q) ∧ SrcAt ((w.setCell ⟨b, 1, none⟩ (.int .i64 (i + 1))).drewN q) b (some ⟨x, o, none⟩) n c zs (i + 1)) := h.stepped i9
  obtain ⟨c0, c1, f1, _, _, _, hn, _, i0, _⟩ := h
  have hne : ¬ (b = x) := by omega
  have hm0 : ¬ (m = 0) := by omega
  have hn0 : ((n : Int) == 0) = false := by simp; omega
  have hq0 : 0 ≤ i % (n : Int) := Int.emod_nonneg _ (by omega)
  have hq1 : i % (n : Int) < (n : Int) := Int.emod_lt_of_pos _ (by omega)
  have hd0 : 0 ≤ i / (n : Int) := Int.ediv_nonneg i0 (by omega)
  have hd1 : i / (n : Int) ≤ 999 := Int.le_trans (Int.ediv_le_self _ i0) i9
  have hr0 : 0 ≤ (y + i / (n : Int) * 37) % m := Int.emod_nonneg _ (by omega)
  have hr1 : (y + i / (n : Int) * 37) % m < m := Int.emod_lt_of_pos _ (by omega)
  go_enter Tryz.func27, Tryz.ntmps27
  go_wp2
  go_quiet (fail)
  go_wp2
  go_ret
  exact ⟨⟨_, rfl, hr0, hr1⟩, HS.out _⟩

set_option maxHeartbeats 400000 in
theorem l1Next_big (b x o n : Nat) (c : Nat) (zs : List Int) (i m : Int) (w : World) (h : SrcAt w b (some ⟨x, o, none⟩) n c zs i) (i9 : i ≤ 999) (m0 : 200 < m) (m1 : m ≤ 65536) (hp : 0 < n)
    (y z : Int) (y0 : 0 ≤ y) (y1 : y ≤ 255) (z0 : 0 ≤ z) (z1 : z ≤ 255) (hy : w.cell? ⟨x, o + (i % n).toNat, none⟩ = some (.int .u8 y)) (hz : w.cell? ⟨x, o + ((i + 1) % n).toNat, none⟩ = some (.int .u8 z)) (hx : x < b) :
    Calls Tryz.prog 27 #[.pointer (some ⟨b, 0, none⟩), .int .i64 m] w fun e w' => (∃ r, e = .returned (.int .i64 r) ∧ 0 ≤ r ∧ r < m) ∧ Turned b (b + 1) w w' ∧ SrcAt w' b (some ⟨x, o, none⟩) n c zs (i + 1) := by
  have HS : Hid (∀ q, Turned b (b + 1) w ((w.setCell ⟨b, 1, none⟩ (.int .i64 (i + 1))).drewN q) ∧ SrcAt ((w.setCell ⟨b, 1, none⟩ (.int .i64 (i + 1))).drewN q) b (some ⟨x, o, none⟩) n c zs (i + 1)) := h.stepped i9
  obtain ⟨c0, c1, f1, _, _, _, hn, _, i0, _⟩ := h
  have hne : ¬ (b = x) := by omega
  have hm0 : ¬ (m = 0) := by omega
  have hn0 : ((n : Int) == 0) = false := by simp; omega
  have hq0 : 0 ≤ i % (n : Int) := Int.emod_nonneg _ (by omega)
  have hq1 : i % (n : Int) < (n : Int) := Int.emod_lt_of_pos _ (by omega)
  have hp0 : 0 ≤ (i + 1) % (n : Int) := Int.emod_nonneg _ (by omega)
  have hp1 : (i + 1) % (n : Int) < (n : Int) := Int.emod_lt_of_pos _ (by omega)
  have hd0 : 0 ≤ i / (n : Int) := Int.ediv_nonneg i0 (by omega)
  have hd1 : i / (n : Int) ≤ 999 := Int.le_trans (Int.ediv_le_self _ i0) i9
  have hr0 : 0 ≤ ((y + i / (n : Int) * 37) * 251 + z * 13 + i) % m := Int.emod_nonneg _ (by omega)
  have hr1 : ((y + i / (n : Int) * 37) * 251 + z * 13 + i) % m < m := Int.emod_lt_of_pos _ (by omega)
  go_enter Tryz.func27, Tryz.ntmps27
  go_wp2
  go_quiet (fail)
  go_wp2
  go_quiet (fail)
  go_wp2
  go_ret
  exact ⟨⟨_, rfl, hr0, hr1⟩, HS.out _⟩

theorem l1Next_any (b : Nat) (a : Option Addr) (n c : Nat) (zs : List Int) (i m : Int) (w : World) (h : SrcAt w b a n c zs i) (i9 : i ≤ 999) (m0 : 1 ≤ m) (m1 : m ≤ 65536) :
    Calls Tryz.prog 27 #[.pointer (some ⟨b, 0, none⟩), .int .i64 m] w fun e w' => (∃ r, e = .returned (.int .i64 r) ∧ 0 ≤ r ∧ r < m) ∧ Turned b (b + 1) w w' ∧ SrcAt w' b a n c zs (i + 1) := by
  have hn := h.hn
  by_cases h0 : n = 0
  · subst h0
    exact l1Next_nil b a c zs i m w h i9 m0 m1
  · have hne : zs ≠ [] := by intro e; rw [e] at hn; simp at hn; omega
    rcases h.rd with hr | ⟨x, o, rfl, hc⟩
    · exact absurd hr hne
    have hx : x < b := h.far ⟨x, o, none⟩ rfl hne
    have i0 := h.i0
    have key : ∀ j : Int, 0 ≤ j → ∃ y, 0 ≤ y ∧ y ≤ 255 ∧ w.cell? ⟨x, o + (j % (n : Int)).toNat, none⟩ = some (.int .u8 y) := fun j _ => by
      have hq0 : 0 ≤ j % (n : Int) := Int.emod_nonneg _ (by omega)
      have hq1 : j % (n : Int) < (n : Int) := Int.emod_lt_of_pos _ (by omega)
      have hl : (j % (n : Int)).toNat < zs.length := by omega
      have hv := hc _ hl
      have hg : zs.getD (j % (n : Int)).toNat 0 = zs[(j % (n : Int)).toNat] := by simp [List.getD, hl]
      have hz := h.hz _ (List.getElem_mem hl)
      exact ⟨_, by rw [hg]; exact hz.1, by rw [hg]; exact hz.2, hv⟩
    obtain ⟨y, y0, y1, hy⟩ := key i i0
    by_cases hb : m ≤ 200
    · exact l1Next_small b x o n c zs i m w h i9 m0 hb (by omega) y y0 y1 hy hx
    · obtain ⟨z, z0, z1, hz⟩ := key (i + 1) (by omega)
      exact l1Next_big b x o n c zs i m w h i9 (by omega) m1 (by omega) y z y0 y1 z0 z1 hy hz hx

end Go.Proofs.YtdgonddimenmdaaGreat
