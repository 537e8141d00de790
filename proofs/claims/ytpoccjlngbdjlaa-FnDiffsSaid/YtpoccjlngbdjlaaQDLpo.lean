/-
  The contract of the model's l2Put where the cell is put.
-/
import Derived.Test.YtpoccjlngbdjlaaQDLpu

namespace Go.Proofs.Ytpoccjlngbdjlaa.Dr
open Go.RowKit
set_option linter.unusedVariables false

set_option maxHeartbeats 4000000 in
theorem l2Put_ok (a : Option Addr) (zs cs : List Int) (c sb so n d : Nat) (w : World) (hr : Reads w a zs) (h : Fine zs) (hn : cs.length = n) (h1 : 1 ≤ n) (hcell : Reads w (some ⟨sb, so, none⟩) cs) (hq : putQ zs n = 0) :
    Calls Try.prog 68 #[.slice a 64 c, .slice (some ⟨sb, so, none⟩) n d] w fun e w' => ∃ g dd, e = .returned (.tuple #[.slice (some ⟨g, 0, none⟩) 64 dd, .int .i64 (putS zs), .int .i64 0]) ∧ Below w.heap.size w w' ∧ w.heap.size ≤ g ∧ Sl64 w' g (putP zs cs) := by
  have hq' : ¬ (putS zs = nb zs 0 ∧ 16 ≤ nb zs 0) ∧ n + putMore zs ≤ freeN zs ∧ n + (2 + 2 * putM zs) ≤ nb zs 1 := by
    unfold putQ at hq
    split at hq
    · cases hq
    · split at hq
      · cases hq
      · split at hq
        · cases hq
        · exact ⟨by assumption, by omega, by omega⟩
  obtain ⟨hs, hfr, hlo⟩ := hq'
  obtain ⟨p, hp⟩ : ∃ p, nb zs 1 = p + n := ⟨nb zs 1 - n, by omega⟩
  obtain ⟨k, hk⟩ : ∃ k, k = nb zs 0 := ⟨_, rfl⟩
  obtain ⟨s, hsv⟩ : ∃ s, s = putS zs := ⟨_, rfl⟩
  obtain ⟨f, hf⟩ : ∃ f, f = freeN zs := ⟨_, rfl⟩
  have hsle : s ≤ k := by rw [hsv, hk]; have := firstE_le zs (nb zs 0) 0; unfold putS; omega
  have hlb := h.low
  have hkf := h.few
  have HK : Hid (nb zs 0 = k) := hk.symm
  have HS : Hid (firstE zs 0 (nb zs 0) = s) := hsv.symm
  have HFr : Hid (freeN zs = f) := hf.symm
  have HLo : Hid (nb zs 1 = p + n) := hp
  have HNl : Hid (cs.length = n) := hn
  rw [← hk] at hkf
  rw [hp] at hlb hlo
  rw [← hf] at hfr
  have hf64 : f ≤ 64 := by rw [hf]; unfold freeN; omega
  by_cases hsk : s = k
  · have hmo : putMore zs = 2 := by unfold putMore; rw [← hsv, ← hk, if_pos hsk]
    have hmm : putM zs = k + 1 := by unfold putM; rw [← hsv, ← hk, if_pos hsk]
    have hk16 : k < 16 := by rw [← hsv, ← hk] at hs; omega
    rw [hmo] at hfr
    rw [hmm] at hlo
    have HE : Hid (putP zs cs = spanSet (splice ((zs.set 0 ((s : Int) + 1)).set 1 (p : Int)) p cs) s p n) := by
      show _ = _
      unfold putP
      rw [hmm, hn, hp, Nat.add_sub_cancel, ← hsv, hsk]
      rfl
    rw [← hsv]
    clear hs hk hsv hf hmo hmm hp hn
    subst hsk
    have hd16 : decide ((16 : Int) ≤ (s : Int)) = false := by simp; omega
    have hi16 : ¬ (16 : Int) ≤ (s : Int) := by omega
    go_enter Try.func68, Try.ntmps68
    go_wp2_with fail
    refine (l2Empty_any a zs c _ hr h).mono ?_
    rintro e w' ⟨rfl, hw'⟩
    subst w'
    rw [HS.out]
    go_wp2_with fail
    refine (l2Count_any a zs c _ hr h.pg).mono ?_
    rintro e w' ⟨rfl, hw'⟩
    subst w'
    rw [HK.out]
    go_wp2_with fail
    refine (l2Free_any a zs c _ hr h).mono ?_
    rintro e w' ⟨rfl, hw'⟩
    subst w'
    rw [HFr.out]
    have df : ¬ (f : Int) < (n : Int) + 2 := by omega
    have df2 : decide ((f : Int) < (n : Int) + 2) = false := by simpa using df
    go_wp2_with fail
    refine (l2Low_any a zs c _ hr h.pg).mono ?_
    rintro e w' ⟨rfl, hw'⟩
    subst w'
    rw [HLo.out]
    have dl : ¬ (p : Int) < 2 + 2 * ((s : Int) + 1) := by omega
    have dl2 : decide ((p : Int) < 2 + 2 * ((s : Int) + 1)) = false := by simpa using dl
    have hpn : ((p + n : Nat) : Int) - (n : Int) = (p : Int) := by omega
    go_wp2_with fail
    refine (l2Copy_any a zs c _ hr h.pg.len).mono ?_
    rintro e w2 ⟨g, dd, rfl, hdd, gB, hgw, hA⟩
    have hsrc := hcell.below gB (Nat.le_refl _)
    have c0 := hA.cell 0 (by omega)
    have f0 := hA.frozen 0
    go_upto_region 16 with (fail)
    have hA1 := hA.set 0 (by omega) ((s : Int) + 1)
    have gB1 := gB.setCell (p := ⟨g, 0, none⟩) hgw (.int .u8 ((s : Int) + 1))
    have hsr1 : Reads (w2.setCell ⟨g, 0, none⟩ (.int .u8 ((s : Int) + 1))) (some ⟨sb, so, none⟩) cs := hcell.below gB1 (Nat.le_refl _)
    clear c0 f0
    generalize w2.setCell ⟨g, 0, none⟩ (.int .u8 ((s : Int) + 1)) = V1 at hA1 gB1 hsr1 ⊢
    have c0 := hA1.cell 1 (by omega)
    have f0 := hA1.frozen 1
    go_upto_region 17 with (fail)
    have hA2 := hA1.set 1 (by omega) (p : Int)
    have gB2 := gB1.setCell (p := ⟨g, 1, none⟩) hgw (.int .u8 (p : Int))
    have hsr2 : Reads (V1.setCell ⟨g, 1, none⟩ (.int .u8 (p : Int))) (some ⟨sb, so, none⟩) cs := hcell.below gB2 (Nat.le_refl _)
    clear c0 f0 hA1 gB1 hsr1 hA hsrc
    generalize V1.setCell ⟨g, 1, none⟩ (.int .u8 (p : Int)) = V2 at hA2 gB2 hsr2 ⊢
    go_wp2_with fail
    refine (l2Stand_any g dd s p n sb so d _ cs _ hA2 hdd HNl.out h1 (by omega) (by omega) hsr2).mono ?_
    rintro e w9 ⟨rfl, ht9, hA9⟩
    have gB9 := gB2.trans (ht9.toBelow gB2.size hgw)
    clear ht9 hA2 gB2 hsr2
    go_wp2_with fail
    go_ret3
    refine ⟨g, dd, rfl, gB9, hgw, ?_⟩
    rw [HE.out]
    exact hA9
  · have hmo : putMore zs = 0 := by unfold putMore; rw [← hsv, ← hk, if_neg hsk]
    have hmm : putM zs = k := by unfold putM; rw [← hsv, ← hk, if_neg hsk]
    rw [hmo] at hfr
    rw [hmm] at hlo
    have HE : Hid (putP zs cs = spanSet (splice ((zs.set 0 (k : Int)).set 1 (p : Int)) p cs) s p n) := by
      show _ = _
      unfold putP
      rw [hmm, hn, hp, Nat.add_sub_cancel, ← hsv]
    rw [← hsv]
    clear hs hk hsv hf hmo hmm hp hn
    have hde : ((s : Int) == (k : Int)) = false := by simp; omega
    go_enter Try.func68, Try.ntmps68
    go_wp2_with fail
    refine (l2Empty_any a zs c _ hr h).mono ?_
    rintro e w' ⟨rfl, hw'⟩
    subst w'
    rw [HS.out]
    go_wp2_with fail
    refine (l2Count_any a zs c _ hr h.pg).mono ?_
    rintro e w' ⟨rfl, hw'⟩
    subst w'
    rw [HK.out]
    go_wp2_with fail
    refine (l2Free_any a zs c _ hr h).mono ?_
    rintro e w' ⟨rfl, hw'⟩
    subst w'
    rw [HFr.out]
    have df : ¬ (f : Int) < (n : Int) + 0 := by omega
    have df2 : decide ((f : Int) < (n : Int) + 0) = false := by simpa using df
    go_wp2_with fail
    refine (l2Low_any a zs c _ hr h.pg).mono ?_
    rintro e w' ⟨rfl, hw'⟩
    subst w'
    rw [HLo.out]
    have dl : ¬ (p : Int) < 2 + 2 * (k : Int) := by omega
    have dl2 : decide ((p : Int) < 2 + 2 * (k : Int)) = false := by simpa using dl
    have hpn : ((p + n : Nat) : Int) - (n : Int) = (p : Int) := by omega
    go_wp2_with fail
    refine (l2Copy_any a zs c _ hr h.pg.len).mono ?_
    rintro e w2 ⟨g, dd, rfl, hdd, gB, hgw, hA⟩
    have hsrc := hcell.below gB (Nat.le_refl _)
    have c0 := hA.cell 0 (by omega)
    have f0 := hA.frozen 0
    go_upto_region 16 with (fail)
    have hA1 := hA.set 0 (by omega) (k : Int)
    have gB1 := gB.setCell (p := ⟨g, 0, none⟩) hgw (.int .u8 (k : Int))
    have hsr1 : Reads (w2.setCell ⟨g, 0, none⟩ (.int .u8 (k : Int))) (some ⟨sb, so, none⟩) cs := hcell.below gB1 (Nat.le_refl _)
    clear c0 f0
    generalize w2.setCell ⟨g, 0, none⟩ (.int .u8 (k : Int)) = V1 at hA1 gB1 hsr1 ⊢
    have c0 := hA1.cell 1 (by omega)
    have f0 := hA1.frozen 1
    go_upto_region 17 with (fail)
    have hA2 := hA1.set 1 (by omega) (p : Int)
    have gB2 := gB1.setCell (p := ⟨g, 1, none⟩) hgw (.int .u8 (p : Int))
    have hsr2 : Reads (V1.setCell ⟨g, 1, none⟩ (.int .u8 (p : Int))) (some ⟨sb, so, none⟩) cs := hcell.below gB2 (Nat.le_refl _)
    clear c0 f0 hA1 gB1 hsr1 hA hsrc
    generalize V1.setCell ⟨g, 1, none⟩ (.int .u8 (p : Int)) = V2 at hA2 gB2 hsr2 ⊢
    go_wp2_with fail
    refine (l2Stand_any g dd s p n sb so d _ cs _ hA2 hdd HNl.out h1 (by omega) (by omega) hsr2).mono ?_
    rintro e w9 ⟨rfl, ht9, hA9⟩
    have gB9 := gB2.trans (ht9.toBelow gB2.size hgw)
    clear ht9 hA2 gB2 hsr2
    go_wp2_with fail
    go_ret3
    refine ⟨g, dd, rfl, gB9, hgw, ?_⟩
    rw [HE.out]
    exact hA9

end Go.Proofs.Ytpoccjlngbdjlaa.Dr

/-
  The contracts of cellFault and of the model's l2Bad.
-/
namespace Go.Proofs.Ytpoccjlngbdjlaa.Dr
open Go.RowKit
set_option linter.unusedVariables false
/-- The fault of a cell of n bytes. -/
def cellQ (n : Nat) : Int := if inR n 1 20 = true then 0 else 1

end Go.Proofs.Ytpoccjlngbdjlaa.Dr

/-
  The contract of the model's PutSlot.
-/
namespace Go.Proofs.Ytpoccjlngbdjlaa.Dr
open Go.RowKit
set_option linter.unusedVariables false

/-- What PutSlot answers: its code, its slot, its page. -/
def psQ (zs : List Int) (n : Nat) : Int := if fltOf zs = 0 then (if inR n 1 20 = true then putQ zs n else 1) else fltOf zs
def psS (zs : List Int) (n : Nat) : Int := if psQ zs n = 0 then (putS zs : Int) else 0
def psB (zs cs : List Int) : List Int := if psQ zs cs.length = 0 then putP zs cs else []

theorem PRes.grown {b : Nat} {w w' : World} {q s : Int} {v : Value} (h : PRes w b q s v) (hb : Below w.heap.size w w') : PRes w' b q s v := h.below hb h.lt

end Go.Proofs.Ytpoccjlngbdjlaa.Dr

/-
  The contract of loadPageAndCell.
-/
namespace Go.Proofs.Ytpoccjlngbdjlaa.Dr
open Go.RowKit
set_option linter.unusedVariables false

/-- The fault of bytes and of a cell of m bytes. -/
def lcQ (zs : List Int) (m : Nat) : Int := if fltOf zs = 0 then cellQ m else fltOf zs

end Go.Proofs.Ytpoccjlngbdjlaa.Dr

/-
  The contract of PutSlot (under way), and plain facts for it.
-/
namespace Go.Proofs.Ytpoccjlngbdjlaa.Dr
open Go.RowKit
set_option linter.unusedVariables false

theorem splice_set1 (zs cs : List Int) (p : Nat) (v : Int) (hp : 1 < p) (hl : p + cs.length ≤ zs.length) : (splice zs p cs).set 1 v = splice (zs.set 1 v) p cs := by
  unfold splice
  rw [List.set_append_left _ _ (by simp; omega), List.take_set, List.drop_set_of_lt (by omega)]

theorem span_set1 (zs : List Int) (s p l : Nat) (v : Int) : (spanSet zs s p l).set 1 v = spanSet (zs.set 1 v) s p l := by
  unfold spanSet
  rw [List.set_comm _ _ (by omega), List.set_comm _ _ (by omega : 2 + 2 * s ≠ 1)]

theorem nb_set0_low (zs : List Int) (v : Int) : nb (zs.set 0 v) 1 = nb zs 1 := nb_set_other 0 1 v (by omega)

theorem aheadP_putP (zs cs : List Int) (h : IsPg zs) (hp : cs.length + 1 < nb zs 1) (h64 : nb zs 1 ≤ 64) : aheadP (zs.set 0 ((putM zs : Nat) : Int)) (putS zs) cs = putP zs cs := by
  unfold aheadP putP
  rw [nb_set0_low, span_set1, splice_set1 _ _ _ _ (by omega) (by rw [List.length_set, h.len]; omega)]

end Go.Proofs.Ytpoccjlngbdjlaa.Dr
