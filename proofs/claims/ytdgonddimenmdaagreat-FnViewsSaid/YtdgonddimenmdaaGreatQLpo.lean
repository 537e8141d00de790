/-
  The contract of the model's l2Put where the cell is put.
-/
import Derived.Test.YtdgonddimenmdaaGreatQPut

namespace Go.Proofs.YtdgonddimenmdaaGreat
set_option maxRecDepth 20000
open Go.RowKit
set_option linter.unusedVariables false

set_option maxHeartbeats 4000000 in
theorem l2Put_ok (a : Option Addr) (zs cs : List Int) (c sb so n d : Nat) (w : World) (hr : Reads w a zs) (h : Fine zs) (hn : cs.length = n) (h1 : 1 ≤ n) (hcell : Reads w (some ⟨sb, so, none⟩) cs) (hq : putQ zs n = 0) :
    Calls Tryz.prog 34 #[.slice a 64 c, .slice (some ⟨sb, so, none⟩) n d] w fun e w' => ∃ g dd, e = .returned (.tuple #[.slice (some ⟨g, 0, none⟩) 64 dd, .int .i64 (putS zs), .int .i64 0]) ∧ Below w.heap.size w w' ∧ w.heap.size ≤ g ∧ Sl64 w' g (putP zs cs) := by
  have hq' : ¬ (putS zs = nb zs 0 ∧ 16 ≤ nb zs 0) ∧ n + putMore zs ≤ freeN zs ∧ n + (2 + 2 * putM zs) ≤ nb zs 1 := by
    unfold putQ at hq
    split at hq
    · cases hq
    · split at hq
      · cases hq
      · split at hq
        · cases hq
        · exact ⟨by assumption, by omega, by omega⟩
  obtain ⟨hs, hfr, hlo⟩ := hq'
  obtain ⟨p, hp⟩ : ∃ p, nb zs 1 = p + n := ⟨nb zs 1 - n, by omega⟩
  obtain ⟨k, hk⟩ : ∃ k, k = nb zs 0 := ⟨_, rfl⟩
  obtain ⟨s, hsv⟩ : ∃ s, s = putS zs := ⟨_, rfl⟩
  obtain ⟨f, hf⟩ : ∃ f, f = freeN zs := ⟨_, rfl⟩
  have hsle : s ≤ k := by rw [hsv, hk]; have := firstE_le zs (nb zs 0) 0; unfold putS; omega
  have hlb := h.low
  have hkf := h.few
  have HK : Hid (nb zs 0 = k) := hk.symm
  have HS : Hid (firstE zs 0 (nb zs 0) = s) := hsv.symm
  have HFr : Hid (freeN zs = f) := hf.symm
  have HLo : Hid (nb zs 1 = p + n) := hp
  have HNl : Hid (cs.length = n) := hn
  rw [← hk] at hkf
  rw [hp] at hlb hlo
  rw [← hf] at hfr
  have hf64 : f ≤ 64 := by rw [hf]; unfold freeN; omega
  by_cases hsk : s = k
  · have hmo : putMore zs = 2 := by unfold putMore; rw [← hsv, ← hk, if_pos hsk]
    have hmm : putM zs = k + 1 := by unfold putM; rw [← hsv, ← hk, if_pos hsk]
    have hk16 : k < 16 := by rw [← hsv, ← hk] at hs; omega
    rw [hmo] at hfr
    rw [hmm] at hlo
    have HE : Hid (putP zs cs = spanSet (splice ((zs.set 0 ((s : Int) + 1)).set 1 (p : Int)) p cs) s p n) := by
      show _ = _
      unfold putP
      rw [hmm, hn, hp, Nat.add_sub_cancel, ← hsv, hsk]
      rfl
    rw [← hsv]
    clear hs hk hsv hf hmo hmm hp hn
    subst hsk
    have hd16 : decide ((16 : Int) ≤ (s : Int)) = false := by simp; omega
    have hi16 : ¬ (16 : Int) ≤ (s : Int) := by omega
    go_enter Tryz.func34, Tryz.ntmps34
    go_wp2_with fail
    refine (l2Empty_any a zs c _ hr h).mono ?_
    rintro e w' ⟨rfl, hw'⟩
    subst w'
    rw [HS.out]
    go_wp2_with fail
    refine (l2Count_any a zs c _ hr h.pg).mono ?_
    rintro e w' ⟨rfl, hw'⟩
    subst w'
    rw [HK.out]
    go_wp2_with fail
    refine (l2Free_any a zs c _ hr h).mono ?_
    rintro e w' ⟨rfl, hw'⟩
    subst w'
    rw [HFr.out]
    have df : ¬ (f : Int) < (n : Int) + 2 := by omega
    have df2 : decide ((f : Int) < (n : Int) + 2) = false := by simpa using df
    go_wp2_with fail
    refine (l2Low_any a zs c _ hr h.pg).mono ?_
    rintro e w' ⟨rfl, hw'⟩
    subst w'
    rw [HLo.out]
    have dl : ¬ (p : Int) < 2 + 2 * ((s : Int) + 1) := by omega
    have dl2 : decide ((p : Int) < 2 + 2 * ((s : Int) + 1)) = false := by simpa using dl
    have hpn : ((p + n : Nat) : Int) - (n : Int) = (p : Int) := by omega
    go_wp2_with fail
    refine (l2Copy_any a zs c _ hr h.pg.len).mono ?_
    rintro e w2 ⟨g, dd, rfl, hdd, gB, hgw, hA⟩
    have hsrc := hcell.below gB (Nat.le_refl _)
    have c0 := hA.cell 0 (by omega)
    have f0 := hA.frozen 0
    go_upto_region 16 with (fail)
    have hA1 := hA.set 0 (by omega) ((s : Int) + 1)
    have gB1 := gB.setCell (p := ⟨g, 0, none⟩) hgw (.int .u8 ((s : Int) + 1))
    have hsr1 : Reads (w2.setCell ⟨g, 0, none⟩ (.int .u8 ((s : Int) + 1))) (some ⟨sb, so, none⟩) cs := hcell.below gB1 (Nat.le_refl _)
    clear c0 f0
    generalize w2.setCell ⟨g, 0, none⟩ (.int .u8 ((s : Int) + 1)) = V1 at hA1 gB1 hsr1 ⊢
    have c0 := hA1.cell 1 (by omega)
    have f0 := hA1.frozen 1
    go_upto_region 17 with (fail)
    have hA2 := hA1.set 1 (by omega) (p : Int)
    have gB2 := gB1.setCell (p := ⟨g, 1, none⟩) hgw (.int .u8 (p : Int))
    have hsr2 : Reads (V1.setCell ⟨g, 1, none⟩ (.int .u8 (p : Int))) (some ⟨sb, so, none⟩) cs := hcell.below gB2 (Nat.le_refl _)
    clear c0 f0 hA1 gB1 hsr1 hA hsrc
    generalize V1.setCell ⟨g, 1, none⟩ (.int .u8 (p : Int)) = V2 at hA2 gB2 hsr2 ⊢
    go_wp2_with fail
    refine (l2Stand_any g dd s p n sb so d _ cs _ hA2 hdd HNl.out h1 (by omega) (by omega) hsr2).mono ?_
    rintro e w9 ⟨rfl, ht9, hA9⟩
    have gB9 := gB2.trans (ht9.toBelow gB2.size hgw)
    clear ht9 hA2 gB2 hsr2
    go_wp2_with fail
    go_ret3
    refine ⟨g, dd, rfl, gB9, hgw, ?_⟩
    rw [HE.out]
    exact hA9
  · have hmo : putMore zs = 0 := by unfold putMore; rw [← hsv, ← hk, if_neg hsk]
    have hmm : putM zs = k := by unfold putM; rw [← hsv, ← hk, if_neg hsk]
    rw [hmo] at hfr
    rw [hmm] at hlo
    have HE : Hid (putP zs cs = spanSet (splice ((zs.set 0 (k : Int)).set 1 (p : Int)) p cs) s p n) := by
      show _ = _
      unfold putP
      rw [hmm, hn, hp, Nat.add_sub_cancel, ← hsv]
    rw [← hsv]
    clear hs hk hsv hf hmo hmm hp hn
    have hde : ((s : Int) == (k : Int)) = false := by simp; omega
    go_enter Tryz.func34, Tryz.ntmps34
    go_wp2_with fail
    refine (l2Empty_any a zs c _ hr h).mono ?_
    rintro e w' ⟨rfl, hw'⟩
    subst w'
    rw [HS.out]
    go_wp2_with fail
    refine (l2Count_any a zs c _ hr h.pg).mono ?_
    rintro e w' ⟨rfl, hw'⟩
    subst w'
    rw [HK.out]
    go_wp2_with fail
    refine (l2Free_any a zs c _ hr h).mono ?_
    rintro e w' ⟨rfl, hw'⟩
    subst w'
    rw [HFr.out]
    have df : ¬ (f : Int) < (n : Int) + 0 := by omega
    have df2 : decide ((f : Int) < (n : Int) + 0) = false := by simpa using df
    go_wp2_with fail
    refine (l2Low_any a zs c _ hr h.pg).mono ?_
    rintro e w' ⟨rfl, hw'⟩
    subst w'
    rw [HLo.out]
    have dl : ¬ (p : Int) < 2 + 2 * (k : Int) := by omega
    have dl2 : decide ((p : Int) < 2 + 2 * (k : Int)) = false := by simpa using dl
    have hpn : ((p + n : Nat) : Int) - (n : Int) = (p : Int) := by omega
    go_wp2_with fail
    refine (l2Copy_any a zs c _ hr h.pg.len).mono ?_
    rintro e w2 ⟨g, dd, rfl, hdd, gB, hgw, hA⟩
    have hsrc := hcell.below gB (Nat.le_refl _)
    have c0 := hA.cell 0 (by omega)
    have f0 := hA.frozen 0
    go_upto_region 16 with (fail)
    have hA1 := hA.set 0 (by omega) (k : Int)
    have gB1 := gB.setCell (p := ⟨g, 0, none⟩) hgw (.int .u8 (k : Int))
    have hsr1 : Reads (w2.setCell ⟨g, 0, none⟩ (.int .u8 (k : Int))) (some ⟨sb, so, none⟩) cs := hcell.below gB1 (Nat.le_refl _)
    clear c0 f0
    generalize w2.setCell ⟨g, 0, none⟩ (.int .u8 (k : Int)) = V1 at hA1 gB1 hsr1 ⊢
    have c0 := hA1.cell 1 (by omega)
    have f0 := hA1.frozen 1
    go_upto_region 17 with (fail)
    have hA2 := hA1.set 1 (by omega) (p : Int)
    have gB2 := gB1.setCell (p := ⟨g, 1, none⟩) hgw (.int .u8 (p : Int))
    have hsr2 : Reads (V1.setCell ⟨g, 1, none⟩ (.int .u8 (p : Int))) (some ⟨sb, so, none⟩) cs := hcell.below gB2 (Nat.le_refl _)
    clear c0 f0 hA1 gB1 hsr1 hA hsrc
    generalize V1.setCell ⟨g, 1, none⟩ (.int .u8 (p : Int)) = V2 at hA2 gB2 hsr2 ⊢
    go_wp2_with fail
    refine (l2Stand_any g dd s p n sb so d _ cs _ hA2 hdd HNl.out h1 (by omega) (by omega) hsr2).mono ?_
    rintro e w9 ⟨rfl, ht9, hA9⟩
    have gB9 := gB2.trans (ht9.toBelow gB2.size hgw)
    clear ht9 hA2 gB2 hsr2
    go_wp2_with fail
    go_ret3
    refine ⟨g, dd, rfl, gB9, hgw, ?_⟩
    rw [HE.out]
    exact hA9

end Go.Proofs.YtdgonddimenmdaaGreat

/-
  The contracts of cellFault and of the model's l2Bad.
-/
namespace Go.Proofs.YtdgonddimenmdaaGreat
set_option maxRecDepth 20000
open Go.RowKit
set_option linter.unusedVariables false

/-- The fault of a cell of n bytes. -/
def cellQ (n : Nat) : Int := if inR n 1 20 = true then 0 else 1

end Go.Proofs.YtdgonddimenmdaaGreat

/-
  The contract of the model's PutSlot.
-/
namespace Go.Proofs.YtdgonddimenmdaaGreat
set_option maxRecDepth 20000
open Go.RowKit
set_option linter.unusedVariables false

/-- What PutSlot answers: its code, its slot, its page. -/
def psQ (zs : List Int) (n : Nat) : Int := if fltOf zs = 0 then (if inR n 1 20 = true then putQ zs n else 1) else fltOf zs
def psS (zs : List Int) (n : Nat) : Int := if psQ zs n = 0 then (putS zs : Int) else 0
def psB (zs cs : List Int) : List Int := if psQ zs cs.length = 0 then putP zs cs else []

theorem PRes.grown {b : Nat} {w w' : World} {q s : Int} {v : Value} (h : PRes w b q s v) (hb : Below w.heap.size w w') : PRes w' b q s v := h.below hb h.lt

end Go.Proofs.YtdgonddimenmdaaGreat

/-
  The contract of loadPageAndCell.
-/
namespace Go.Proofs.YtdgonddimenmdaaGreat
set_option maxRecDepth 20000
open Go.RowKit
set_option linter.unusedVariables false

/-- The fault of bytes and of a cell of m bytes. -/
def lcQ (zs : List Int) (m : Nat) : Int := if fltOf zs = 0 then cellQ m else fltOf zs

end Go.Proofs.YtdgonddimenmdaaGreat

/-
  The contract of PutSlot (under way), and plain facts for it.
-/
namespace Go.Proofs.YtdgonddimenmdaaGreat
set_option maxRecDepth 20000
open Go.RowKit
set_option linter.unusedVariables false

theorem splice_set1 (zs cs : List Int) (p : Nat) (v : Int) (hp : 1 < p) (hl : p + cs.length ≤ zs.length) : (splice zs p cs).set 1 v = splice (zs.set 1 v) p cs := by
  unfold splice
  rw [List.set_append_left _ _ (by simp; omega), List.take_set, List.drop_set_of_lt (by omega)]

theorem span_set1 (zs : List Int) (s p l : Nat) (v : Int) : (spanSet zs s p l).set 1 v = spanSet (zs.set 1 v) s p l := by
  unfold spanSet
  rw [List.set_comm _ _ (by omega), List.set_comm _ _ (by omega : 2 + 2 * s ≠ 1)]

theorem nb_set0_low (zs : List Int) (v : Int) : nb (zs.set 0 v) 1 = nb zs 1 := nb_set_other 0 1 v (by omega)

theorem aheadP_putP (zs cs : List Int) (h : IsPg zs) (hp : cs.length + 1 < nb zs 1) (h64 : nb zs 1 ≤ 64) : aheadP (zs.set 0 ((putM zs : Nat) : Int)) (putS zs) cs = putP zs cs := by
  unfold aheadP putP
  rw [nb_set0_low, span_set1, splice_set1 _ _ _ _ (by omega) (by rw [List.length_set, h.len]; omega)]

end Go.Proofs.YtdgonddimenmdaaGreat

/-
  Plain facts on compacted pages: the program's and the model's way lead to one page.
-/
namespace Go.Proofs.YtdgonddimenmdaaGreat
set_option maxRecDepth 20000
open Go.RowKit
set_option linter.unusedVariables false

theorem byt_splice (zs cs : List Int) (p i : Nat) (hl : p + cs.length ≤ zs.length) : byt (splice zs p cs) i = if p ≤ i ∧ i < p + cs.length then byt cs (i - p) else byt zs i := by
  unfold byt splice
  simp only [List.getD]
  have ht : (zs.take p).length = p := by rw [List.length_take]; omega
  by_cases h1 : i < p
  · rw [if_neg (by omega), List.getElem?_append_left (by omega), List.getElem?_take, if_pos h1]
  · rw [List.getElem?_append_right (by omega), ht]
    by_cases h2 : i < p + cs.length
    · rw [if_pos (by omega), List.getElem?_append_left (by omega)]
    · rw [if_neg (by omega), List.getElem?_append_right (by omega), List.getElem?_drop, show p + cs.length + (i - p - cs.length) = i by omega]
theorem byt_set (zs : List Int) (j i : Nat) (v : Int) (hj : j < zs.length) : byt (zs.set j v) i = if i = j then v else byt zs i := by
  unfold byt
  simp only [List.getD, List.getElem?_set]
  by_cases h : j = i
  · subst h; simp [hj]
  · rw [if_neg h, if_neg (fun e => h e.symm)]
theorem byt_span (zs : List Int) (s p l i : Nat) (hs : 3 + 2 * s < zs.length) : byt (spanSet zs s p l) i = if i = 3 + 2 * s then (l : Int) else if i = 2 + 2 * s then (p : Int) else byt zs i := by
  unfold spanSet
  rw [byt_set _ _ _ _ (by rw [List.length_set]; exact hs), byt_set _ _ _ _ (by omega)]
theorem byt_filled (i : Nat) : byt (filled 0 0) i = 0 := filled_zero 0 i
theorem byt_ext {xs ys : List Int} (h : xs.length = ys.length) (he : ∀ i, i < xs.length → byt xs i = byt ys i) : xs = ys := by
  apply List.ext_getElem h
  intro i h1 h2
  have := he i h1
  simpa [byt, List.getD, h1, h2] using this

theorem length_span (zs : List Int) (s p l : Nat) : (spanSet zs s p l).length = zs.length := by simp [spanSet]

/-- The program's page behind k slots. -/
def cpP (zs : List Int) : Nat → List Int
  | 0 => ((filled 0 0).set 0 (byt zs 0)).set 1 64
  | k + 1 => if empB zs k = true then cpP zs k else aheadP (cpP zs k) k (cellOf zs k)
/-- The model's page behind k slots. -/
def cmM (zs : List Int) : Nat → List Int
  | 0 => splice (filled 0 0) 0 (zs.take (2 + 2 * nb zs 0))
  | k + 1 => if empB zs k = true then cmM zs k else spanSet (splice (cmM zs k) (64 - lens zs (k + 1)) (cellOf zs k)) k (64 - lens zs (k + 1)) (nb zs (3 + 2 * k))

/-- What both know behind k slots. -/
structure Both (zs : List Int) (k : Nat) : Prop where
  pg : IsPg (cpP zs k)
  ln : (cmM zs k).length = 64
  low : nb (cpP zs k) 1 = 64 - lens zs k
  eq : ∀ i, i ≠ 1 → (i < 2 + 2 * k ∨ 2 + 2 * nb zs 0 ≤ i) → byt (cmM zs k) i = byt (cpP zs k) i
  dm : ∀ i, 2 + 2 * k ≤ i → i < 2 + 2 * nb zs 0 → byt (cmM zs k) i = byt zs i
  dp : ∀ i, 2 + 2 * k ≤ i → i < 2 + 2 * nb zs 0 → byt (cpP zs k) i = 0

theorem cellOf_bd {zs : List Int} (h : IsPg zs) (s : Nat) : ∀ z ∈ cellOf zs s, 0 ≤ z ∧ z ≤ 255 := fun z hz => h.bd z (List.mem_of_mem_drop (List.mem_of_mem_take hz))

theorem both_all {zs : List Int} (h : Fine zs) : ∀ k, k ≤ nb zs 0 → Both zs k
  | 0, _ => by
    have hz := h.pg.len
    have hfew := h.few
    have b0 := byt_bd h.pg.bd 0
    have hf : (filled 0 0).length = 64 := rfl
    refine ⟨⟨by simp [cpP, hf], fun z hz => ?_⟩, ?_, ?_, fun i h1 h2 => ?_, fun i h1 h2 => ?_, fun i h1 h2 => ?_⟩
    · simp only [cpP] at hz
      rcases List.mem_or_eq_of_mem_set hz with h1 | h1
      · rcases List.mem_or_eq_of_mem_set h1 with h2 | h2
        · simp [filled] at h2; omega
        · omega
      · omega
    · simp only [cmM]
      rw [length_splice _ _ _ (by simp [hf]; omega)]
      exact hf
    · simp only [cpP, nb, lens]
      rw [byt_set _ _ _ _ (by rw [List.length_set, hf]; omega), if_pos rfl]
      rfl
    · simp only [cmM, cpP]
      rw [byt_splice _ _ _ _ (by simp [hf]; omega), byt_set _ _ _ _ (by rw [List.length_set, hf]; omega), byt_set _ _ _ _ (by rw [hf]; omega), if_neg h1, byt_filled]
      by_cases e : i = 0
      · subst e
        rw [if_pos (by simp; omega), if_pos rfl]
        simp only [byt, List.getD, Nat.sub_zero, List.getElem?_take]
        rw [if_pos (by omega)]
      · rw [if_neg (by simp; omega), if_neg e]
    · simp only [cmM]
      rw [byt_splice _ _ _ _ (by simp [hf]; omega), if_pos (by simp; omega)]
      simp only [byt, List.getD, Nat.sub_zero, List.getElem?_take]
      rw [if_pos h2]
    · simp only [cpP]
      rw [byt_set _ _ _ _ (by rw [List.length_set, hf]; omega), byt_set _ _ _ _ (by rw [hf]; omega), if_neg (by omega), if_neg (by omega), byt_filled]
  | k + 1, hk => by
    have ih := both_all h k (by omega)
    have hz := h.pg.len
    have hfew := h.few
    have hsum := h.sum
    have hle := lens_le zs (k + 1) (nb zs 0 - (k + 1))
    rw [show k + 1 + (nb zs 0 - (k + 1)) = nb zs 0 by omega] at hle
    have hlk : lens zs (k + 1) = lens zs k + nb zs (3 + 2 * k) := rfl
    by_cases he : empB zs k = true
    · have e1 : cpP zs (k + 1) = cpP zs k := by simp only [cpP]; rw [if_pos he]
      have e2 : cmM zs (k + 1) = cmM zs k := by simp only [cmM]; rw [if_pos he]
      have hem : nb zs (2 + 2 * k) = 0 ∧ nb zs (3 + 2 * k) = 0 := by simpa [empB] using he
      rw [show nb zs (3 + 2 * k) = 0 from hem.2] at hlk
      refine ⟨by rw [e1]; exact ih.pg, by rw [e2]; exact ih.ln, by rw [e1, hlk]; exact ih.low, fun i h1 h2 => ?_, fun i h1 h2 => by rw [e2]; exact ih.dm i (by omega) h2, fun i h1 h2 => by rw [e1]; exact ih.dp i (by omega) h2⟩
      rw [e1, e2]
      by_cases e : i = 2 + 2 * k ∨ i = 3 + 2 * k
      · rw [ih.dm i (by omega) (by omega), ih.dp i (by omega) (by omega), nb_byt h.pg i]
        rcases e with rfl | rfl
        · rw [hem.1]; rfl
        · rw [hem.2]; rfl
      · exact ih.eq i h1 (by omega)
    · have hcl := cellOf_length h k (by omega)
      have e1 : cpP zs (k + 1) = aheadP (cpP zs k) k (cellOf zs k) := by simp only [cpP]; rw [if_neg he]
      have e2 : cmM zs (k + 1) = spanSet (splice (cmM zs k) (64 - lens zs (k + 1)) (cellOf zs k)) k (64 - lens zs (k + 1)) (nb zs (3 + 2 * k)) := by simp only [cmM]; rw [if_neg he]
      obtain ⟨p, hp⟩ : ∃ p, p = 64 - lens zs (k + 1) := ⟨_, rfl⟩
      have hpl : nb (cpP zs k) 1 - (cellOf zs k).length = p := by rw [ih.low, hcl, hp]; omega
      have hpn : p + (cellOf zs k).length ≤ 64 := by rw [hcl]; omega
      have hpd : 2 + 2 * nb zs 0 ≤ p := by omega
      rw [← hp] at e2
      have e1' : cpP zs (k + 1) = (spanSet (splice (cpP zs k) p (cellOf zs k)) k p (cellOf zs k).length).set 1 (p : Int) := by rw [e1]; unfold aheadP; rw [hpl]
      have hl1 : (splice (cpP zs k) p (cellOf zs k)).length = 64 := by rw [length_splice _ _ _ (by rw [ih.pg.len]; exact hpn)]; exact ih.pg.len
      have hl2 : (splice (cmM zs k) p (cellOf zs k)).length = 64 := by rw [length_splice _ _ _ (by rw [ih.ln]; exact hpn)]; exact ih.ln
      have bp : ∀ i, byt (cpP zs (k + 1)) i = if i = 1 then (p : Int) else if i = 3 + 2 * k then ((cellOf zs k).length : Int) else if i = 2 + 2 * k then (p : Int) else if p ≤ i ∧ i < p + (cellOf zs k).length then byt (cellOf zs k) (i - p) else byt (cpP zs k) i := fun i => by
        rw [e1', byt_set _ _ _ _ (by rw [length_span, hl1]; omega), byt_span _ _ _ _ _ (by rw [hl1]; omega), byt_splice _ _ _ _ (by rw [ih.pg.len]; exact hpn)]
      have bm : ∀ i, byt (cmM zs (k + 1)) i = if i = 3 + 2 * k then ((cellOf zs k).length : Int) else if i = 2 + 2 * k then (p : Int) else if p ≤ i ∧ i < p + (cellOf zs k).length then byt (cellOf zs k) (i - p) else byt (cmM zs k) i := fun i => by
        rw [e2, byt_span _ _ _ _ _ (by rw [hl2]; omega), byt_splice _ _ _ _ (by rw [ih.ln]; exact hpn), hcl]
      refine ⟨?_, by rw [e2, length_span]; exact hl2, ?_, fun i h1 h2 => ?_, fun i h1 h2 => ?_, fun i h1 h2 => ?_⟩
      · rw [e1']
        exact isPg_set (isPg_span (isPg_splice ih.pg (cellOf_bd h.pg k) hpn) k p _ (by omega) (by omega)) 1 p (by omega)
      · unfold nb
        rw [bp 1, if_pos rfl, ← hp]
        rfl
      · rw [bp, bm, if_neg h1]
        by_cases a1 : i = 3 + 2 * k
        · rw [if_pos a1, if_pos a1]
        · rw [if_neg a1, if_neg a1]
          by_cases a2 : i = 2 + 2 * k
          · rw [if_pos a2, if_pos a2]
          · rw [if_neg a2, if_neg a2]
            by_cases a3 : p ≤ i ∧ i < p + (cellOf zs k).length
            · rw [if_pos a3, if_pos a3]
            · rw [if_neg a3, if_neg a3]
              exact ih.eq i h1 (by omega)
      · rw [bm, if_neg (by omega), if_neg (by omega), if_neg (by omega)]
        exact ih.dm i (by omega) h2
      · rw [bp, if_neg (by omega), if_neg (by omega), if_neg (by omega), if_neg (by omega)]
        exact ih.dp i (by omega) h2

theorem both_end {zs : List Int} (h : Fine zs) : (cmM zs (nb zs 0)).set 1 ((64 - lens zs (nb zs 0) : Nat) : Int) = cpP zs (nb zs 0) := by
  have hb := both_all h (nb zs 0) (Nat.le_refl _)
  apply byt_ext
  · rw [List.length_set, hb.ln, hb.pg.len]
  · intro i hi
    rw [byt_set _ _ _ _ (by rw [hb.ln]; omega)]
    by_cases e : i = 1
    · subst e
      rw [if_pos rfl, nb_byt hb.pg, hb.low]
    · rw [if_neg e]
      exact hb.eq i e (by omega)

end Go.Proofs.YtdgonddimenmdaaGreat

/-
  The contract of the program's PutSlot.
-/
namespace Go.Proofs.YtdgonddimenmdaaGreat
set_option maxRecDepth 20000
open Go.RowKit
set_option linter.unusedVariables false

theorem psKeep {w W V : World} {b : Nat} {ys : List Int} {x : Nat} {q s : Int} {v : Value} (h : Arr W b ys ∧ PRes W x q s v ∧ Below w.heap.size w W) (hb : Below W.heap.size W V) : Arr V b ys ∧ PRes V x q s v ∧ Below w.heap.size w V :=
  ⟨h.1.grown hb, h.2.1.grown hb, h.2.2.trans (hb.mono h.2.2.size)⟩

theorem wrapU (x : Int) (h0 : 0 ≤ x) (h1 : x ≤ 1000) : IntKind.u64.wrap x = x := by
  rw [IntKind.wrap_u64]
  omega

theorem PRes.turned {lo hi b : Nat} {w w' : World} {q s : Int} {v : Value} (h : PRes w b q s v) (ht : Turned lo hi w w') (hn : b < lo ∨ hi ≤ b) : PRes w' b q s v :=
  ⟨ht.cell h.c0 (by simp only; omega), ht.cell h.c1 (by simp only; omega), ht.cell h.c2 (by simp only; omega), (ht.frozen h.c0 (by simp only; omega)).trans h.f0, (ht.frozen h.c1 (by simp only; omega)).trans h.f1, (ht.frozen h.c2 (by simp only; omega)).trans h.f2⟩

theorem putS_le (zs : List Int) : putS zs ≤ nb zs 0 := by have := firstE_le zs (nb zs 0) 0; unfold putS; omega

end Go.Proofs.YtdgonddimenmdaaGreat
