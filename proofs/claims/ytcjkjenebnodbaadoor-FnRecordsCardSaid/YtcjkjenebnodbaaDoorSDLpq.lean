/-
  The contract of the model's l2Put where the cell is put, with its capacity; and where it is or isn't: a page without a fault, or a code.
-/
import Derived.Test.YtcjkjenebnodbaaDoorSDKec

namespace Go.Proofs.YtcjkjenebnodbaaDoor.Dr
open Go.RowKit
set_option linter.unusedVariables false

set_option maxHeartbeats 4000000 in
theorem l2Put_cap (a : Option Addr) (zs cs : List Int) (c sb so n d : Nat) (w : World) (hr : Reads w a zs) (h : Fine zs) (hn : cs.length = n) (h1 : 1 ≤ n) (hcell : Reads w (some ⟨sb, so, none⟩) cs) (hq : putQ zs n = 0) :
    Calls Tryd.prog 81 #[.slice a 64 c, .slice (some ⟨sb, so, none⟩) n d] w fun e w' => ∃ g dd, e = .returned (.tuple #[.slice (some ⟨g, 0, none⟩) 64 dd, .int .i64 (putS zs), .int .i64 0]) ∧ 64 ≤ dd ∧ Below w.heap.size w w' ∧ w.heap.size ≤ g ∧ Sl64 w' g (putP zs cs) := by
  have hq' : ¬ (putS zs = nb zs 0 ∧ 16 ≤ nb zs 0) ∧ n + putMore zs ≤ freeN zs ∧ n + (2 + 2 * putM zs) ≤ nb zs 1 := by
    unfold putQ at hq
    split at hq
    · cases hq
    · split at hq
      · cases hq
      · split at hq
        · cases hq
        · exact ⟨by assumption, by omega, by omega⟩
  obtain ⟨hs, hfr, hlo⟩ := hq'
  obtain ⟨p, hp⟩ : ∃ p, nb zs 1 = p + n := ⟨nb zs 1 - n, by omega⟩
  obtain ⟨k, hk⟩ : ∃ k, k = nb zs 0 := ⟨_, rfl⟩
  obtain ⟨s, hsv⟩ : ∃ s, s = putS zs := ⟨_, rfl⟩
  obtain ⟨f, hf⟩ : ∃ f, f = freeN zs := ⟨_, rfl⟩
  have hsle : s ≤ k := by rw [hsv, hk]; have := firstE_le zs (nb zs 0) 0; unfold putS; omega
  have hlb := h.low
  have hkf := h.few
  have HK : Hid (nb zs 0 = k) := hk.symm
  have HS : Hid (firstE zs 0 (nb zs 0) = s) := hsv.symm
  have HFr : Hid (freeN zs = f) := hf.symm
  have HLo : Hid (nb zs 1 = p + n) := hp
  have HNl : Hid (cs.length = n) := hn
  rw [← hk] at hkf
  rw [hp] at hlb hlo
  rw [← hf] at hfr
  have hf64 : f ≤ 64 := by rw [hf]; unfold freeN; omega
  by_cases hsk : s = k
  · have hmo : putMore zs = 2 := by unfold putMore; rw [← hsv, ← hk, if_pos hsk]
    have hmm : putM zs = k + 1 := by unfold putM; rw [← hsv, ← hk, if_pos hsk]
    have hk16 : k < 16 := by rw [← hsv, ← hk] at hs; omega
    rw [hmo] at hfr
    rw [hmm] at hlo
    have HE : Hid (putP zs cs = spanSet (splice ((zs.set 0 ((s : Int) + 1)).set 1 (p : Int)) p cs) s p n) := by
      show _ = _
      unfold putP
      rw [hmm, hn, hp, Nat.add_sub_cancel, ← hsv, hsk]
      rfl
    rw [← hsv]
    clear hs hk hsv hf hmo hmm hp hn
    subst hsk
    have hd16 : decide ((16 : Int) ≤ (s : Int)) = false := by simp; omega
    have hi16 : ¬ (16 : Int) ≤ (s : Int) := by omega
    go_enter Tryd.func81, Tryd.ntmps81
    go_wp2_with fail
    refine (l2Empty_any a zs c _ hr h).mono ?_
    rintro e w' ⟨rfl, hw'⟩
    subst w'
    rw [HS.out]
    go_wp2_with fail
    refine (l2Count_any a zs c _ hr h.pg).mono ?_
    rintro e w' ⟨rfl, hw'⟩
    subst w'
    rw [HK.out]
    go_wp2_with fail
    refine (l2Free_any a zs c _ hr h).mono ?_
    rintro e w' ⟨rfl, hw'⟩
    subst w'
    rw [HFr.out]
    have df : ¬ (f : Int) < (n : Int) + 2 := by omega
    have df2 : decide ((f : Int) < (n : Int) + 2) = false := by simpa using df
    go_wp2_with fail
    refine (l2Low_any a zs c _ hr h.pg).mono ?_
    rintro e w' ⟨rfl, hw'⟩
    subst w'
    rw [HLo.out]
    have dl : ¬ (p : Int) < 2 + 2 * ((s : Int) + 1) := by omega
    have dl2 : decide ((p : Int) < 2 + 2 * ((s : Int) + 1)) = false := by simpa using dl
    have hpn : ((p + n : Nat) : Int) - (n : Int) = (p : Int) := by omega
    go_wp2_with fail
    refine (l2Copy_any a zs c _ hr h.pg.len).mono ?_
    rintro e w2 ⟨g, dd, rfl, hdd, gB, hgw, hA⟩
    have hsrc := hcell.below gB (Nat.le_refl _)
    have c0 := hA.cell 0 (by omega)
    have f0 := hA.frozen 0
    go_upto_region 16 with (fail)
    have hA1 := hA.set 0 (by omega) ((s : Int) + 1)
    have gB1 := gB.setCell (p := ⟨g, 0, none⟩) hgw (.int .u8 ((s : Int) + 1))
    have hsr1 : Reads (w2.setCell ⟨g, 0, none⟩ (.int .u8 ((s : Int) + 1))) (some ⟨sb, so, none⟩) cs := hcell.below gB1 (Nat.le_refl _)
    clear c0 f0
    generalize w2.setCell ⟨g, 0, none⟩ (.int .u8 ((s : Int) + 1)) = V1 at hA1 gB1 hsr1 ⊢
    have c0 := hA1.cell 1 (by omega)
    have f0 := hA1.frozen 1
    go_upto_region 17 with (fail)
    have hA2 := hA1.set 1 (by omega) (p : Int)
    have gB2 := gB1.setCell (p := ⟨g, 1, none⟩) hgw (.int .u8 (p : Int))
    have hsr2 : Reads (V1.setCell ⟨g, 1, none⟩ (.int .u8 (p : Int))) (some ⟨sb, so, none⟩) cs := hcell.below gB2 (Nat.le_refl _)
    clear c0 f0 hA1 gB1 hsr1 hA hsrc
    generalize V1.setCell ⟨g, 1, none⟩ (.int .u8 (p : Int)) = V2 at hA2 gB2 hsr2 ⊢
    go_wp2_with fail
    refine (l2Stand_any g dd s p n sb so d _ cs _ hA2 hdd HNl.out h1 (by omega) (by omega) hsr2).mono ?_
    rintro e w9 ⟨rfl, ht9, hA9⟩
    have gB9 := gB2.trans (ht9.toBelow gB2.size hgw)
    clear ht9 hA2 gB2 hsr2
    go_wp2_with fail
    go_ret3
    refine ⟨g, dd, rfl, hdd, gB9, hgw, ?_⟩
    rw [HE.out]
    exact hA9
  · have hmo : putMore zs = 0 := by unfold putMore; rw [← hsv, ← hk, if_neg hsk]
    have hmm : putM zs = k := by unfold putM; rw [← hsv, ← hk, if_neg hsk]
    rw [hmo] at hfr
    rw [hmm] at hlo
    have HE : Hid (putP zs cs = spanSet (splice ((zs.set 0 (k : Int)).set 1 (p : Int)) p cs) s p n) := by
      show _ = _
      unfold putP
      rw [hmm, hn, hp, Nat.add_sub_cancel, ← hsv]
    rw [← hsv]
    clear hs hk hsv hf hmo hmm hp hn
    have hde : ((s : Int) == (k : Int)) = false := by simp; omega
    go_enter Tryd.func81, Tryd.ntmps81
    go_wp2_with fail
    refine (l2Empty_any a zs c _ hr h).mono ?_
    rintro e w' ⟨rfl, hw'⟩
    subst w'
    rw [HS.out]
    go_wp2_with fail
    refine (l2Count_any a zs c _ hr h.pg).mono ?_
    rintro e w' ⟨rfl, hw'⟩
    subst w'
    rw [HK.out]
    go_wp2_with fail
    refine (l2Free_any a zs c _ hr h).mono ?_
    rintro e w' ⟨rfl, hw'⟩
    subst w'
    rw [HFr.out]
    have df : ¬ (f : Int) < (n : Int) + 0 := by omega
    have df2 : decide ((f : Int) < (n : Int) + 0) = false := by simpa using df
    go_wp2_with fail
    refine (l2Low_any a zs c _ hr h.pg).mono ?_
    rintro e w' ⟨rfl, hw'⟩
    subst w'
    rw [HLo.out]
    have dl : ¬ (p : Int) < 2 + 2 * (k : Int) := by omega
    have dl2 : decide ((p : Int) < 2 + 2 * (k : Int)) = false := by simpa using dl
    have hpn : ((p + n : Nat) : Int) - (n : Int) = (p : Int) := by omega
    go_wp2_with fail
    refine (l2Copy_any a zs c _ hr h.pg.len).mono ?_
    rintro e w2 ⟨g, dd, rfl, hdd, gB, hgw, hA⟩
    have hsrc := hcell.below gB (Nat.le_refl _)
    have c0 := hA.cell 0 (by omega)
    have f0 := hA.frozen 0
    go_upto_region 16 with (fail)
    have hA1 := hA.set 0 (by omega) (k : Int)
    have gB1 := gB.setCell (p := ⟨g, 0, none⟩) hgw (.int .u8 (k : Int))
    have hsr1 : Reads (w2.setCell ⟨g, 0, none⟩ (.int .u8 (k : Int))) (some ⟨sb, so, none⟩) cs := hcell.below gB1 (Nat.le_refl _)
    clear c0 f0
    generalize w2.setCell ⟨g, 0, none⟩ (.int .u8 (k : Int)) = V1 at hA1 gB1 hsr1 ⊢
    have c0 := hA1.cell 1 (by omega)
    have f0 := hA1.frozen 1
    go_upto_region 17 with (fail)
    have hA2 := hA1.set 1 (by omega) (p : Int)
    have gB2 := gB1.setCell (p := ⟨g, 1, none⟩) hgw (.int .u8 (p : Int))
    have hsr2 : Reads (V1.setCell ⟨g, 1, none⟩ (.int .u8 (p : Int))) (some ⟨sb, so, none⟩) cs := hcell.below gB2 (Nat.le_refl _)
    clear c0 f0 hA1 gB1 hsr1 hA hsrc
    generalize V1.setCell ⟨g, 1, none⟩ (.int .u8 (p : Int)) = V2 at hA2 gB2 hsr2 ⊢
    go_wp2_with fail
    refine (l2Stand_any g dd s p n sb so d _ cs _ hA2 hdd HNl.out h1 (by omega) (by omega) hsr2).mono ?_
    rintro e w9 ⟨rfl, ht9, hA9⟩
    have gB9 := gB2.trans (ht9.toBelow gB2.size hgw)
    clear ht9 hA2 gB2 hsr2
    go_wp2_with fail
    go_ret3
    refine ⟨g, dd, rfl, hdd, gB9, hgw, ?_⟩
    rw [HE.out]
    exact hA9

theorem l2Put_or (a : Option Addr) (zs cs : List Int) (c sb so n d : Nat) (w : World) (hr : Reads w a zs) (h : Fine zs) (hn : cs.length = n) (h1 : 1 ≤ n) (h64 : n ≤ 64) (hb : ∀ z ∈ cs, 0 ≤ z ∧ z ≤ 255) (hcell : Reads w (some ⟨sb, so, none⟩) cs) :
    Calls Tryd.prog 81 #[.slice a 64 c, .slice (some ⟨sb, so, none⟩) n d] w fun e w' => Below w.heap.size w w' ∧ ((∃ q : Int, q ≠ 0 ∧ e = .returned (.tuple #[.slice none 0 0, .int .i64 0, .int .i64 q])) ∨ ∃ g dd ys s, e = .returned (.tuple #[.slice (some ⟨g, 0, none⟩) 64 dd, .int .i64 s, .int .i64 0]) ∧ 64 ≤ dd ∧ w.heap.size ≤ g ∧ Sl64 w' g ys ∧ Fine ys) := by
  by_cases hs : putS zs = nb zs 0 ∧ 16 ≤ nb zs 0
  · refine (l2Put_many a zs c _ n d w hr h hs).mono ?_
    rintro e w' ⟨rfl, rfl⟩
    exact ⟨Below.refl _ _, .inl ⟨2, by decide, rfl⟩⟩
  · by_cases hfull : freeN zs < n + putMore zs ∨ nb zs 1 < n + (2 + 2 * putM zs)
    · refine (l2Put_full a zs c _ n d w hr h (by omega) hs hfull).mono ?_
      rintro e w' ⟨rfl, rfl⟩
      exact ⟨Below.refl _ _, .inl ⟨_, by split <;> decide, rfl⟩⟩
    · have hq : putQ zs n = 0 := by
        unfold putQ
        rw [if_neg hs, if_neg (by omega), if_neg (by omega)]
      have hF := fine_put h hb (by omega) (by rw [hn]; exact hq)
      refine (l2Put_cap a zs cs c sb so n d w hr h hn h1 hcell hq).mono ?_
      rintro e w' ⟨g, dd, rfl, hdd, gB, hgw, hA⟩
      exact ⟨gB, .inr ⟨g, dd, _, _, rfl, hdd, hgw, hA, hF⟩⟩

end Go.Proofs.YtcjkjenebnodbaaDoor.Dr
