/-
  The contract of the model's l2Put where the cell is put, with its capacity; and where it is or isn't: a page without a fault, or a code.
-/
import Derived.Test.YtnfolgoloaeanaaGreatUDpc
import Derived.Test.YtnfolgoloaeanaaGreatUMce
import Derived.Test.YtnfolgoloaeanaaGreatULpu

namespace Go.Proofs.YtnfolgoloaeanaaGreat
set_option maxRecDepth 20000
open Go.RowKit
set_option linter.unusedVariables false

set_option maxHeartbeats 4000000 in
theorem l2Put_cap (a : Option Addr) (zs cs : List Int) (c sb so n d : Nat) (w : World) (hr : Reads w a zs) (h : Fine zs) (hn : cs.length = n) (h1 : 1 ≤ n) (hcell : Reads w (some ⟨sb, so, none⟩) cs) (hq : putQ zs n = 0) :
    Calls Tryz.prog 146 #[.slice a 64 c, .slice (some ⟨sb, so, none⟩) n d] w fun e w' => ∃ g dd, e = .returned (.tuple #[.slice (some ⟨g, 0, none⟩) 64 dd, .int .i64 (putS zs), .int .i64 0]) ∧ 64 ≤ dd ∧ Below w.heap.size w w' ∧ w.heap.size ≤ g ∧ Sl64 w' g (putP zs cs) := by
  have hq' : ¬ (putS zs = nb zs 0 ∧ 16 ≤ nb zs 0) ∧ n + putMore zs ≤ freeN zs ∧ n + (2 + 2 * putM zs) ≤ nb zs 1 := by
    unfold putQ at hq
    split at hq
    · cases hq
    · split at hq
      · cases hq
      · split at hq
        · cases hq
        · exact ⟨by assumption, by omega, by omega⟩
  obtain ⟨hs, hfr, hlo⟩ := hq'
  obtain ⟨p, hp⟩ : ∃ p, nb zs 1 = p + n := ⟨nb zs 1 - n, by omega⟩
  obtain ⟨k, hk⟩ : ∃ k, k = nb zs 0 := ⟨_, rfl⟩
  obtain ⟨s, hsv⟩ : ∃ s, s = putS zs := ⟨_, rfl⟩
  obtain ⟨f, hf⟩ : ∃ f, f = freeN zs := ⟨_, rfl⟩
  have hsle : s ≤ k := by rw [hsv, hk]; have := firstE_le zs (nb zs 0) 0; unfold putS; omega
  have hlb := h.low
  have hkf := h.few
  have HK : Hid (nb zs 0 = k) := hk.symm
  have HS : Hid (firstE zs 0 (nb zs 0) = s) := hsv.symm
  have HFr : Hid (freeN zs = f) := hf.symm
  have HLo : Hid (nb zs 1 = p + n) := hp
  have HNl : Hid (cs.length = n) := hn
  rw [← hk] at hkf
  rw [hp] at hlb hlo
  rw [← hf] at hfr
  have hf64 : f ≤ 64 := by rw [hf]; unfold freeN; omega
  by_cases hsk : s = k
  · have hmo : putMore zs = 2 := by unfold putMore; rw [← hsv, ← hk, if_pos hsk]
    have hmm : putM zs = k + 1 := by unfold putM; rw [← hsv, ← hk, if_pos hsk]
    have hk16 : k < 16 := by rw [← hsv, ← hk] at hs; omega
    rw [hmo] at hfr
    rw [hmm] at hlo
    have HE : Hid (putP zs cs = spanSet (splice ((zs.set 0 ((s : Int) + 1)).set 1 (p : Int)) p cs) s p n) := by
      show _ = _
      unfold putP
      rw [hmm, hn, hp, Nat.add_sub_cancel, ← hsv, hsk]
      rfl
    rw [← hsv]
    clear hs hk hsv hf hmo hmm hp hn
    subst hsk
    have hd16 : decide ((16 : Int) ≤ (s : Int)) = false := by simp; omega
    have hi16 : ¬ (16 : Int) ≤ (s : Int) := by omega
    go_enter Tryz.func146, Tryz.ntmps146
    go_wp2_with fail
    refine (l2Empty_any a zs c _ hr h).mono ?_
    rintro e w' ⟨rfl, hw'⟩
    subst w'
    rw [HS.out]
    go_wp2_with fail
    refine (l2Count_any a zs c _ hr h.pg).mono ?_
    rintro e w' ⟨rfl, hw'⟩
    subst w'
    rw [HK.out]
    go_wp2_with fail
    refine (l2Free_any a zs c _ hr h).mono ?_
    rintro e w' ⟨rfl, hw'⟩
    subst w'
    rw [HFr.out]
    have df : ¬ (f : Int) < (n : Int) + 2 := by omega
    have df2 : decide ((f : Int) < (n : Int) + 2) = false := by simpa using df
    go_wp2_with fail
    refine (l2Low_any a zs c _ hr h.pg).mono ?_
    rintro e w' ⟨rfl, hw'⟩
    subst w'
    rw [HLo.out]
    have dl : ¬ (p : Int) < 2 + 2 * ((s : Int) + 1) := by omega
    have dl2 : decide ((p : Int) < 2 + 2 * ((s : Int) + 1)) = false := by simpa using dl
    have hpn : ((p + n : Nat) : Int) - (n : Int) = (p : Int) := by omega
    go_wp2_with fail
    refine (l2Copy_any a zs c _ hr h.pg.len).mono ?_
    rintro e w2 ⟨g, dd, rfl, hdd, gB, hgw, hA⟩
    have hsrc := hcell.below gB (Nat.le_refl _)
    have c0 := hA.cell 0 (by omega)
    have f0 := hA.frozen 0
    go_upto_region 16 with (fail)
    have hA1 := hA.set 0 (by omega) ((s : Int) + 1)
    have gB1 := gB.setCell (p := ⟨g, 0, none⟩) hgw (.int .u8 ((s : Int) + 1))
    have hsr1 : Reads (w2.setCell ⟨g, 0, none⟩ (.int .u8 ((s : Int) + 1))) (some ⟨sb, so, none⟩) cs := hcell.below gB1 (Nat.le_refl _)
    clear c0 f0
    generalize w2.setCell ⟨g, 0, none⟩ (.int .u8 ((s : Int) + 1)) = V1 at hA1 gB1 hsr1 ⊢
    have c0 := hA1.cell 1 (by omega)
    have f0 := hA1.frozen 1
    go_upto_region 17 with (fail)
    have hA2 := hA1.set 1 (by omega) (p : Int)
    have gB2 := gB1.setCell (p := ⟨g, 1, none⟩) hgw (.int .u8 (p : Int))
    have hsr2 : Reads (V1.setCell ⟨g, 1, none⟩ (.int .u8 (p : Int))) (some ⟨sb, so, none⟩) cs := hcell.below gB2 (Nat.le_refl _)
    clear c0 f0 hA1 gB1 hsr1 hA hsrc
    generalize V1.setCell ⟨g, 1, none⟩ (.int .u8 (p : Int)) = V2 at hA2 gB2 hsr2 ⊢
    go_wp2_with fail
    refine (l2Stand_any g dd s p n sb so d _ cs _ hA2 hdd HNl.out h1 (by omega) (by omega) hsr2).mono ?_
    rintro e w9 ⟨rfl, ht9, hA9⟩
    have gB9 := gB2.trans (ht9.toBelow gB2.size hgw)
    clear ht9 hA2 gB2 hsr2
    go_wp2_with fail
    go_ret3
    refine ⟨g, dd, rfl, hdd, gB9, hgw, ?_⟩
    rw [HE.out]
    exact hA9
  · have hmo : putMore zs = 0 := by unfold putMore; rw [← hsv, ← hk, if_neg hsk]
    have hmm : putM zs = k := by unfold putM; rw [← hsv, ← hk, if_neg hsk]
    rw [hmo] at hfr
    rw [hmm] at hlo
    have HE : Hid (putP zs cs = spanSet (splice ((zs.set 0 (k : Int)).set 1 (p : Int)) p cs) s p n) := by
      show _ = _
      unfold putP
      rw [hmm, hn, hp, Nat.add_sub_cancel, ← hsv]
    rw [← hsv]
    clear hs hk hsv hf hmo hmm hp hn
    have hde : ((s : Int) == (k : Int)) = false := by simp; omega
    go_enter Tryz.func146, Tryz.ntmps146
    go_wp2_with fail
    refine (l2Empty_any a zs c _ hr h).mono ?_
    rintro e w' ⟨rfl, hw'⟩
    subst w'
    rw [HS.out]
    go_wp2_with fail
    refine (l2Count_any a zs c _ hr h.pg).mono ?_
    rintro e w' ⟨rfl, hw'⟩
    subst w'
    rw [HK.out]
    go_wp2_with fail
    refine (l2Free_any a zs c _ hr h).mono ?_
    rintro e w' ⟨rfl, hw'⟩
    subst w'
    rw [HFr.out]
    have df : ¬ (f : Int) < (n : Int) + 0 := by omega
    have df2 : decide ((f : Int) < (n : Int) + 0) = false := by simpa using df
    go_wp2_with fail
    refine (l2Low_any a zs c _ hr h.pg).mono ?_
    rintro e w' ⟨rfl, hw'⟩
    subst w'
    rw [HLo.out]
    have dl : ¬ (p : Int) < 2 + 2 * (k : Int) := by omega
    have dl2 : decide ((p : Int) < 2 + 2 * (k : Int)) = false := by simpa using dl
    have hpn : ((p + n : Nat) : Int) - (n : Int) = (p : Int) := by omega
    go_wp2_with fail
    refine (l2Copy_any a zs c _ hr h.pg.len).mono ?_
    rintro e w2 ⟨g, dd, rfl, hdd, gB, hgw, hA⟩
    have hsrc := hcell.below gB (Nat.le_refl _)
    have c0 := hA.cell 0 (by omega)
    have f0 := hA.frozen 0
    go_upto_region 16 with (fail)
    have hA1 := hA.set 0 (by omega) (k : Int)
    have gB1 := gB.setCell (p := ⟨g, 0, none⟩) hgw (.int .u8 (k : Int))
    have hsr1 : Reads (w2.setCell ⟨g, 0, none⟩ (.int .u8 (k : Int))) (some ⟨sb, so, none⟩) cs := hcell.below gB1 (Nat.le_refl _)
    clear c0 f0
    generalize w2.setCell ⟨g, 0, none⟩ (.int .u8 (k : Int)) = V1 at hA1 gB1 hsr1 ⊢
    have c0 := hA1.cell 1 (by omega)
    have f0 := hA1.frozen 1
    go_upto_region 17 with (fail)
    have hA2 := hA1.set 1 (by omega) (p : Int)
    have gB2 := gB1.setCell (p := ⟨g, 1, none⟩) hgw (.int .u8 (p : Int))
    have hsr2 : Reads (V1.setCell ⟨g, 1, none⟩ (.int .u8 (p : Int))) (some ⟨sb, so, none⟩) cs := hcell.below gB2 (Nat.le_refl _)
    clear c0 f0 hA1 gB1 hsr1 hA hsrc
    generalize V1.setCell ⟨g, 1, none⟩ (.int .u8 (p : Int)) = V2 at hA2 gB2 hsr2 ⊢
    go_wp2_with fail
    refine (l2Stand_any g dd s p n sb so d _ cs _ hA2 hdd HNl.out h1 (by omega) (by omega) hsr2).mono ?_
    rintro e w9 ⟨rfl, ht9, hA9⟩
    have gB9 := gB2.trans (ht9.toBelow gB2.size hgw)
    clear ht9 hA2 gB2 hsr2
    go_wp2_with fail
    go_ret3
    refine ⟨g, dd, rfl, hdd, gB9, hgw, ?_⟩
    rw [HE.out]
    exact hA9


theorem Sl64.turned {w w' : World} {g lo hi : Nat} {zs : List Int} (h : Sl64 w g zs) (ht : Turned lo hi w w') (hn : g < lo ∨ hi ≤ g) : Sl64 w' g zs := ⟨h.len, by obtain ⟨tl, hh⟩ := h.row; exact ⟨tl, (ht.block g h.lt (by omega)).trans hh⟩⟩

set_option maxHeartbeats 4000000 in
theorem l2Compact_any (a : Option Addr) (zs : List Int) (c : Nat) (w : World) (hr : Reads w a zs) (h : Fine zs) (hc : 64 ≤ c) :
    Calls Tryz.prog 177 #[.slice a 64 c] w fun e w' => ∃ g, e = .returned (.slice (some ⟨g, 0, none⟩) 64 64) ∧ Below w.heap.size w w' ∧ w.heap.size ≤ g ∧ Sl64 w' g (cpP zs (nb zs 0)) := by
  obtain ⟨i0, hi, hz0, hz1, hz2⟩ := info5
  have hfew := h.few
  have hsum := h.sum
  have hlz := h.pg.len
  have HR : Hid (Reads w a zs) := hr
  obtain ⟨b, off, rfl⟩ : ∃ b off, a = some ⟨b, off, none⟩ := by
    rcases hr with hr | ⟨b, off, ha, _⟩
    · rw [hr] at hlz; simp at hlz
    · exact ⟨b, off, ha⟩
  obtain ⟨n, hn⟩ : ∃ n, n = nb zs 0 := ⟨_, rfl⟩
  have HN : Hid (nb zs 0 = n) := hn.symm
  have hcl0 : Hid (∀ k, k < n → (cellOf zs k).length = nb zs (3 + 2 * k)) := fun k hk => cellOf_length h k (by rw [← hn]; exact hk)
  have hplace : Hid (∀ k, k < n → (nb zs (2 + 2 * k) = 0 ∧ nb zs (3 + 2 * k) = 0) ∨ (nb zs (2 + 2 * k) ≠ 0 ∧ nb zs (3 + 2 * k) ≠ 0 ∧ nb zs 1 ≤ nb zs (2 + 2 * k) ∧ nb zs (2 + 2 * k) + nb zs (3 + 2 * k) ≤ 64)) := fun k hk => h.place k (by rw [← hn]; exact hk)
  have hlens : Hid (∀ k, k ≤ n → lens zs k ≤ 62) := fun k hk => by
    have := lens_le zs k (n - k)
    rw [show k + (n - k) = nb zs 0 by omega] at this
    omega
  have HEnd : Hid ((cmM zs n).set 1 ((64 - lens zs n : Nat) : Int) = cpP zs n) := by show _ = _; rw [hn]; exact both_end h
  rw [← hn] at hfew
  obtain ⟨m, hm⟩ : ∃ m, m = 2 + 2 * n := ⟨_, rfl⟩
  have hsrc0 : Hid (∀ V, Below w.heap.size w V → Reads V (some ⟨b, off, none⟩) (zs.take m)) := fun V hV => by
    have h1 := (HR.out.below hV (Nat.le_refl _)).cell 0 m (by omega)
    rwa [Nat.add_zero, List.drop_zero] at h1
  have htl : (zs.take m).length = m := by rw [List.length_take]; omega
  have HTL : Hid ((zs.take m).length = m) := htl
  have HM0 : Hid (cmM zs 0 = splice (filled 0 0) 0 (zs.take m)) := by show _ = _; simp only [cmM]; rw [← hn, ← hm]
  have hm64 : m ≤ 64 := by omega
  have i1 : (2 : Int) + 2 * (n : Int) ≤ (c : Int) := by omega
  have i2 : ((2 : Int) + 2 * (n : Int)).toNat = m := by omega
  clear htl hsum hn hr hm
  go_enter Tryz.func177, Tryz.ntmps177
  go_wp2_with fail
  refine (l2Count_any (some ⟨b, off, none⟩) zs c _ HR.out h.pg).mono ?_
  rintro e w' ⟨rfl, hw'⟩
  subst w'
  rw [HN.out]
  go_upto_region 3 with (at_make; refine wpList_make_full _ rfl _ _ 22 rfl w.heap.size 5 i0 (.int .u8 0) 1 Tryz.underlying22 hi hz0 hz1 .i64 .i64 _ _ 64 rfl rfl rfl rfl ?c1 ?c2 (Nat.le_refl _) ?_)
  case c1 => rw [hz2]; omega
  case c2 => unfold maxLen; omega
  intro w1 hown hg
  have hB : Below w.heap.size w w1 := Below.grown (Below.refl _ _) hg (Nat.le_refl _) (fun k hk => by cases hk)
  have hS0 : Sl64 w1 w.heap.size (filled 0 0) := by
    rcases hown.2 with ⟨_, h0⟩ | ⟨g, cap, cur, hv, hg0, hgr, hcap, _, _, htk⟩
    · cases h0
    · simp only [Value.slice.injEq, Option.some.injEq, Addr.mk.injEq, and_true, true_and] at hv
      obtain ⟨rfl, rfl⟩ := hv
      refine ⟨rfl, cur.toList.drop (64 * 1), ?_⟩
      have e1 : (filled 0 0).map (Value.int .u8) = (madeCells #[Value.int .u8 0] 64).toList := by kernel_rfl
      rw [e1, ← htk, List.take_append_drop]
      exact hgr
  clear hown hg hi hz0 hz1 hz2
  have hlt1 := hS0.lt
  obtain ⟨g, hgv⟩ : ∃ g, g = w.heap.size := ⟨_, rfl⟩
  have hinf : (Tryz.prog.info? 5).map (·.size) = some 1 := by kernel_rfl
  obtain ⟨tl, ht⟩ := hS0.row
  have hput := hS0.put 0 (zs.take m) (by rw [HTL.out]; omega) tl ht
  have hsrc := reads_src (hsrc0.out _ hB)
  have hmin : ((zs.take m).map (Value.int .u8)).length = Nat.min m 64 := by rw [List.length_map, HTL.out]; show m = min m 64; omega
  have hfit : 0 + ((zs.take m).map (Value.int .u8)).length ≤ ((filled 0 0).map (Value.int .u8) ++ tl).toArray.size := by rw [List.length_map, HTL.out]; simp [filled]; omega
  have hone : ∀ v ∈ (zs.take m).map (Value.int .u8), v.oneCell' = true := fun v hv => by
    rw [List.mem_map] at hv
    obtain ⟨z, _, rfl⟩ := hv
    rfl
  have HSrc : Hid (∀ j u, ((zs.take m).map (Value.int .u8))[j]? = some u → w1.cell? ((⟨b, off, none⟩ : Addr).add j) = some u) := hsrc
  have HMin : Hid (((zs.take m).map (Value.int .u8)).length = Nat.min m 64) := hmin
  have HFit : Hid (0 + ((zs.take m).map (Value.int .u8)).length ≤ ((filled 0 0).map (Value.int .u8) ++ tl).toArray.size) := hfit
  have HOne : Hid (∀ v ∈ (zs.take m).map (Value.int .u8), v.oneCell' = true) := hone
  have HT : Hid (w1.heap[w.heap.size]? = some (.cells ((filled 0 0).map (Value.int .u8) ++ tl).toArray 5)) := ht
  have HPut : Hid (Sl64 (w1.setRow w.heap.size (((filled 0 0).map (Value.int .u8) ++ tl).toArray.toList.take 0 ++ (zs.take m).map (Value.int .u8) ++ ((filled 0 0).map (Value.int .u8) ++ tl).toArray.toList.drop (0 + ((zs.take m).map (Value.int .u8)).length)).toArray) w.heap.size (splice (filled 0 0) 0 (zs.take m))) := hput
  clear hsrc hmin hfit hone ht hput hS0
  go_upto_region 3 with (fail)
  go_upto_region 4 with (refine wpList_copy_own rfl _ _ 22 22 rfl 5 Tryz.underlying22 hinf w.heap.size 0 64 64 ⟨b, off, none⟩ m c rfl rfl _ 5 HT.out ((zs.take m).map (Value.int .u8)) HMin.out HSrc.out HFit.out HOne.out ?_)
  rw [← List.append_assoc]
  have hP := HPut.out
  rw [← HM0.out] at hP
  have htP : ∀ cs', Turned w.heap.size (w.heap.size + 1) w1 (w1.setRow w.heap.size cs') := fun cs' => ⟨rfl, rfl, rfl, by rw [setRow_size]; exact Nat.le_refl _, fun k hk hn => setRow_other _ _ k _ (by omega)⟩
  have htP := htP (((filled 0 0).map (Value.int .u8) ++ tl).toArray.toList.take 0 ++ (zs.take m).map (Value.int .u8) ++ ((filled 0 0).map (Value.int .u8) ++ tl).toArray.toList.drop (0 + ((zs.take m).map (Value.int .u8)).length)).toArray
  generalize hV : w1.setRow w.heap.size _ = V at hP htP ⊢
  have g0 : Below w.heap.size w V := hB.trans (htP.toBelow hB.size (Nat.le_refl _))
  clear hV HPut HT HFit HSrc HMin HOne htP hB
  go_wp2_with fail
  go_loopw [6, 5] (fun i at_ wr => ∃ k : Nat, k ≤ n ∧ i = .int .i64 k ∧ at_ = .int .i64 ((64 - lens zs k : Nat) : Int) ∧ Sl64 wr w.heap.size (cmM zs k) ∧ Below w.heap.size w wr) (fun i _ _ => n - (intOf i).toNat)
  case atStart => exact ⟨0, Nat.zero_le _, rfl, rfl, hP, g0⟩
  case round =>
    obtain ⟨k, hk, rfl, rfl, hS, g⟩ := hrel
    clear hP g0
    by_cases hlt2 : k < n
    · have hkn : (k : Int) < (n : Int) := by omega
      go_wp2_with fail
      refine (l2Size_any (some ⟨b, off, none⟩) zs c k _ (HR.out.below g (Nat.le_refl _)) h.pg (by omega)).mono ?_
      rintro e w' ⟨rfl, hw'⟩
      subst w'
      obtain ⟨l, hl⟩ : ∃ l, l = nb zs (3 + 2 * k) := ⟨_, rfl⟩
      have hplk := hplace.out k hlt2
      have hlk := hlens.out (k + 1) (by omega)
      have hlk1 : lens zs (k + 1) = lens zs k + l := by rw [hl]; rfl
      have hclk := hcl0.out k hlt2
      rw [← hl] at hplk hclk
      have HEmp : Hid (empB zs k = (nb zs (2 + 2 * k) == 0 && l == 0)) := by show _ = _; unfold empB; rw [← hl]
      have HL : Hid (nb zs (3 + 2 * k) = l) := hl.symm
      rw [← hl]
      by_cases hl0 : l = 0
      · have HE : Hid (cmM zs (k + 1) = cmM zs k ∧ lens zs (k + 1) = lens zs k) := by
          refine ⟨?_, by omega⟩
          simp only [cmM]
          rw [if_pos (by rw [HEmp.out]; simp; omega)]
        clear hplk hlk hlk1 hclk HEmp hl HL
        subst hl0
        go_wp2_with fail
        go_roundw
        case rel => exact ⟨k + 1, by omega, by go_num, by rw [HE.out.2], by rw [HE.out.1]; exact hS, g⟩
        case measure => simp [intOf]; omega
      · have hem : empB zs k = false := by rw [HEmp.out]; simp; omega
        obtain ⟨p, hp⟩ : ∃ p, p = 64 - lens zs (k + 1) := ⟨_, rfl⟩
        obtain ⟨L, hL⟩ : ∃ L, L = 64 - lens zs k := ⟨_, rfl⟩
        have hLp : L = p + l := by omega
        have HE : Hid (cmM zs (k + 1) = spanSet (splice (cmM zs k) p (cellOf zs k)) k p l) := by
          show _ = _
          simp only [cmM]
          rw [if_neg (by rw [hem]; simp), ← hp, HL.out]
        have HP : Hid (64 - lens zs (k + 1) = p) := hp.symm
        have dl : ((l : Int) == 0) = false := by simp; omega
        have hl1 : 1 ≤ l := by omega
        have hp64 : p + l ≤ 64 := by omega
        rw [← hL]
        have HLp : Hid (L = p + l) := hLp
        subst hLp
        have HCL : Hid ((cellOf zs k).length = l) := hclk
        clear hplk hlk hlk1 hclk HEmp hl hL hp
        go_wp2_with fail
        refine (l2Cell_any (some ⟨b, off, none⟩) zs c k _ (HR.out.below g (Nat.le_refl _)) h hc (by rw [HN.out]; exact hlt2) hem).mono ?_
        rintro e w2 ⟨a2, d2, rfl, g2, y2⟩
        rw [HL.out]
        have hS2 := hS.grown g2
        have g : Below w.heap.size w w2 := g.trans (g2.mono g.size)
        clear g2 hS hem
        obtain ⟨sb, so, rfl⟩ : ∃ sb so, a2 = some ⟨sb, so, none⟩ := by
          rcases y2 with h0 | ⟨sb, so, hb, _⟩
          · have := HCL.out; rw [h0] at this; simp at this; omega
          · exact ⟨sb, so, hb⟩
        have hr2 := y2.reads
        clear y2
        have hsub : (p : Int) + (l : Int) - (l : Int) = (p : Int) := by omega
        go_wp2_with fail
        refine (l2Stand_any w.heap.size 64 k p l sb so d2 _ (cellOf zs k) _ hS2 (Nat.le_refl _) HCL.out hl1 hp64 (by omega) hr2).mono ?_
        rintro e w3 ⟨rfl, t3, hS3⟩
        have g : Below w.heap.size w w3 := g.trans (t3.toBelow g.size (Nat.le_refl _))
        have HS3 : Hid (Sl64 w3 w.heap.size (cmM zs (k + 1))) := by show Sl64 _ _ _; rw [HE.out]; exact hS3
        clear t3 hS3 hS2 hr2
        go_wp2_with fail
        go_roundw
        case rel => exact ⟨k + 1, by omega, by go_num, by rw [HP.out], HS3.out, g⟩
        case measure => simp [intOf]; omega
    · have e : k = n := by omega
      subst e
      have hlk := hlens.out k (Nat.le_refl _)
      obtain ⟨L, hL⟩ : ∃ L, L = 64 - lens zs k := ⟨_, rfl⟩
      have HL : Hid (64 - lens zs k = L) := hL.symm
      have hL64 : L ≤ 64 := by omega
      rw [← hL]
      clear hL hlk
      have c1 := hS.cell 1 (by omega)
      have f1 := hS.frozen 1
      have hLm : (L : Int) % 256 = L := by omega
      go_wp2_with fail
      go_ret
      refine ⟨w.heap.size, rfl, g.setCell (by simp) _, Nat.le_refl _, ?_⟩
      rw [HN.out, ← HEnd.out, HL.out]
      exact hS.set 1 (by omega) _

end Go.Proofs.YtnfolgoloaeanaaGreat

