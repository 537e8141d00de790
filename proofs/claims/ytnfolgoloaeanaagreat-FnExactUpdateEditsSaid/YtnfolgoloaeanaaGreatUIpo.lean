/-
  The contract of the program's PutSlot once more: its page stands in a block of its own.
-/
import Derived.Test.YtnfolgoloaeanaaGreatUDrf
import Derived.Test.YtnfolgoloaeanaaGreatUMce

namespace Go.Proofs.YtnfolgoloaeanaaGreat
set_option maxRecDepth 20000
open Go.RowKit
set_option linter.unusedVariables false

/-- A page handed back: in a block of its own, or none. -/
def PoP (w w' : World) (a : Option Addr) (d : Nat) (q : Int) (B : List Int) : Prop := (q = 0 → ∃ g, a = some ⟨g, 0, none⟩ ∧ d = 64 ∧ w.heap.size ≤ g ∧ Arr w' g B) ∧ (q ≠ 0 → a = none ∧ d = 0 ∧ B = [])
theorem PoP.bad {w w' : World} {q : Int} {B : List Int} (h : q ≠ 0) (hB : B = []) : PoP w w' none 0 q B := ⟨fun e => absurd e h, fun _ => ⟨rfl, rfl, hB⟩⟩
theorem PoP.ok {w w' : World} {g : Nat} {q : Int} {B : List Int} (h : q = 0) (hg : w.heap.size ≤ g) (hA : Arr w' g B) : PoP w w' (some ⟨g, 0, none⟩) 64 q B := ⟨fun _ => ⟨g, rfl, rfl, hg, hA⟩, fun e => absurd h e⟩

set_option maxHeartbeats 4000000 in
theorem implPutSlot_own (a : Option Addr) (zs : List Int) (n c : Nat) (cb : Option Addr) (cs : List Int) (m d : Nat) (w : World) (hn : zs.length = n) (hm : n ≤ 1048576) (hnc : n ≤ c) (hr : Reads w a zs) (hz : ∀ z ∈ zs, 0 ≤ z ∧ z ≤ 255) (hml : cs.length = m) (hmm : m ≤ 1048576) (hrc : Reads w cb cs) (hcz : ∀ z ∈ cs, 0 ≤ z ∧ z ≤ 255) :
    Calls Tryz.prog 104 #[.slice a n c, .slice cb m d] w fun e w' => ∃ a' d', e = .returned (.agg #[.int .i64 (psQ zs m), .int .i64 (psS zs m), .slice a' (psB zs cs).length d']) ∧ Below w.heap.size w w' ∧ PoP w w' a' d' (psQ zs m) (psB zs cs) := by
  have hX : PRes (w.alloc (.cells #[.int .i64 0, .int .i64 0, .slice none 0 0] 146)) w.heap.size 0 0 (.slice none 0 0) := ⟨by simp [go_sem], by simp [go_sem], by simp [go_sem], by simp [go_sem], by simp [go_sem], by simp [go_sem]⟩
  have g : Below w.heap.size w (w.alloc (.cells #[.int .i64 0, .int .i64 0, .slice none 0 0] 146)) := by go_grown
  have hr := hr.below g (Nat.le_refl _)
  have HC : Hid (Reads w cb cs) := hrc
  clear hrc
  obtain ⟨X, hX0⟩ : ∃ X, w.alloc (.cells #[.int .i64 0, .int .i64 0, .slice none 0 0] 146) = X := ⟨_, rfl⟩
  rw [hX0] at hX g hr
  have bad : ∀ q, psQ zs m = q → q ≠ 0 → psS zs m = 0 ∧ psB zs cs = [] := fun q h1 h2 => by
    constructor
    · unfold psS; rw [h1, if_neg h2]
    · unfold psB; rw [hml, h1, if_neg h2]
  go_enter Tryz.func104, Tryz.ntmps104
  go_wp2_with fail
  refine (loadPageAndCell_any a zs n c cb m d _ hn hm hnc hr hz hmm).mono ?_
  rintro e w1 ⟨rfl, g1⟩
  have hX1 := hX.grown g1
  have g : Below w.heap.size w w1 := g.trans (g1.mono g.size)
  clear hX0 hX g1 hr
  have hpl := pg_len zs
  obtain ⟨ys, hys⟩ : ∃ ys, ys = pg zs := ⟨_, rfl⟩
  have HY : Hid (ys = pg zs) := hys
  rw [← hys] at hpl ⊢
  clear hys
  go_upto_region 2 with (refine wpList_storePg rfl _ _ rfl _ ys rfl rfl hpl (filled 0 0) (arr_new _ (filled 0 0) rfl) ?_)
  generalize hZ : World.setRow _ w1.heap.size (pgC ys) = Z
  have hA : Arr Z w1.heap.size ys := by rw [← hZ]; exact (arr_new w1 (filled 0 0) rfl).put hpl
  have gZ : Below w1.heap.size w1 Z := by rw [← hZ]; exact setRow_below ((Below.refl _ _).alloc (Nat.le_refl _) _) (Nat.le_refl _) _
  have hX2 := hX1.grown gZ
  have g : Below w.heap.size w Z := g.trans (gZ.mono g.size)
  have hlt := hX1.lt
  clear hZ gZ hX1
  generalize w1.heap.size = b at hA hlt
  by_cases hq : lcQ zs m = 0
  · have hq2 : fltOf zs = 0 ∧ inR m 1 20 = true := by
      unfold lcQ cellQ at hq
      by_cases e : fltOf zs = 0
      · rw [if_pos e] at hq
        refine ⟨e, ?_⟩
        by_cases e2 : inR m 1 20 = true
        · exact e2
        · rw [if_neg e2] at hq; cases hq
      · rw [if_neg e] at hq; exact absurd hq e
    have hF := fine_of hz hq2.1
    have hyz : ys = zs := by rw [HY.out, pg, if_pos hF.pg.len]
    subst hyz
    have HQ : Hid (psQ ys m = putQ ys m) := by show _ = _; unfold psQ; rw [if_pos hq2.1, if_pos hq2.2]
    have hm1 : 1 ≤ m ∧ m ≤ 20 := by have := hq2.2; simp [inR] at this; omega
    obtain ⟨hm1, hm2⟩ := hm1
    rw [hq]
    clear hq hq2
    have hfew := hF.few
    have hroom := hF.sum
    have hsl := putS_le ys
    obtain ⟨s, hs⟩ : ∃ s, s = putS ys := ⟨_, rfl⟩
    obtain ⟨k, hk⟩ : ∃ k, k = nb ys 0 := ⟨_, rfl⟩
    have HS : Hid (firstE ys 0 (nb ys 0) = s) := hs.symm
    have HN : Hid (nb ys 0 = k) := hk.symm
    rw [← hs, ← hk] at hsl
    have hk16 : k ≤ 16 := by rw [hk]; exact hfew
    go_wp2_with (refine wpList_loadPg rfl _ rfl _ rfl ys (by assumption) ?_)
    refine (firstEmpty_any ys _ hF.pg hfew).mono ?_
    rintro e w2 ⟨rfl, g2⟩
    rw [HS.out]
    have hX3 := hX2.grown g2
    have hA3 := hA.grown g2
    have g : Below w.heap.size w w2 := g.trans (g2.mono g.size)
    clear g2 hX2 hA
    by_cases hs16 : s = 16
    · have HQ2 : Hid (psQ ys m = 2) := by show _ = _; rw [HQ.out]; unfold putQ; rw [if_pos (by rw [← hs, ← hk]; omega)]
      have HB : Hid (psS ys m = 0 ∧ psB ys cs = []) := bad 2 HQ2.out (by decide)
      clear bad hs hk hA3
      subst hs16
      obtain ⟨c0, c1, c2, f0, f1, f2⟩ := hX3
      go_wp2_with fail
      refine bodyPost_ret (v := .agg #[.int .i64 2, .int .i64 0, .slice none 0 0]) (by simp [results, Tryz.results104, go_sem, c0, c1, c2]) rfl ?_
      exact ⟨none, 0, by rw [HQ2.out, HB.out.1, HB.out.2]; rfl, by go_grown, PoP.bad (by rw [HQ2.out]; decide) HB.out.2⟩
    have hs15 : s ≤ 15 := by omega
    have d16 : ((s : Int) == 16) = false := by simp; omega
    obtain ⟨M, hM⟩ : ∃ M, M = putM ys := ⟨_, rfl⟩
    obtain ⟨more, hmore⟩ : ∃ more, more = putMore ys := ⟨_, rfl⟩
    obtain ⟨fr, hfr⟩ : ∃ fr, fr = freeN ys := ⟨_, rfl⟩
    have HM : Hid (max (k : Int) ((s : Int) + 1) = (M : Int)) := by show _ = _; rw [hM]; unfold putM; rw [← hs, ← hk]; split <;> omega
    have hMm : 2 * M = 2 * k + more ∧ M ≤ 17 := by rw [hM, hmore]; unfold putM putMore; rw [← hs, ← hk]; split <;> omega
    obtain ⟨hMm, hM17⟩ := hMm
    have HFr : Hid (62 - 2 * nb ys 0 - lens ys (nb ys 0) = fr) := by show _ = _; rw [hfr]; rfl
    have hfr64 : fr ≤ 64 := by rw [hfr]; unfold freeN; omega
    have HQ3 : Hid (psQ ys m = if fr < m + more then 9 else if nb ys 1 < m + (2 + 2 * M) then 8 else 0) := by
      show _ = _
      rw [HQ.out]
      unfold putQ
      rw [if_neg (by rw [← hs, ← hk]; omega), hfr, hmore, hM]
    have hMle : M ≤ 16 := by rw [hM]; unfold putM; rw [← hs, ← hk]; split <;> omega
    have HP : Hid (aheadP (ys.set 0 ((M : Nat) : Int)) s cs = putP ys cs ∨ ¬ (m + 1 < nb ys 1)) := by
      show _ ∨ _
      by_cases e : m + 1 < nb ys 1
      · left
        rw [hM, hs]
        exact aheadP_putP ys cs hF.pg (by rw [hml]; exact e) hF.low
      · exact .inr e
    have HPS : Hid (psQ ys m = 0 → psS ys m = (s : Int) ∧ psB ys cs = putP ys cs) := fun e => by
      constructor
      · unfold psS; rw [if_pos e, hs]
      · unfold psB; rw [hml, if_pos e]
    clear hM hmore hfr hs hk hs16
    have hkS : (k : Int) ≤ 16 := by omega
    go_upto_region 7 with (fail)
    go_wp2_with (refine wpList_loadPg rfl _ rfl _ rfl ys (by assumption) ?_)
    refine (slots_any ys _ hF.pg).mono ?_
    rintro e w3 ⟨rfl, g3⟩
    rw [HN.out]
    have hX := hX3.grown g3
    have hA := hA3.grown g3
    have g : Below w.heap.size w w3 := g.trans (g3.mono g.size)
    clear g3 hX3 hA3
    go_upto_region 8 with (fail)
    rw [show (if (k : Int) < (s : Int) + 1 then (s : Int) + 1 else (k : Int)) = (M : Int) by rw [← HM.out]; split <;> omega]
    obtain ⟨D, hD⟩ : ∃ D, D = 2 + 2 * M := ⟨_, rfl⟩
    obtain ⟨E, hE⟩ : ∃ E, E = 2 + 2 * k := ⟨_, rfl⟩
    have HD : Hid (2 + 2 * M = D) := hD.symm
    have HE : Hid (2 + 2 * k = E) := hE.symm
    have HMm : Hid (2 * M = 2 * k + more) := hMm
    have hw1 : IntKind.u64.wrap ((m : Int) + (D : Int)) = (m : Int) + D := wrapU _ (by omega) (by omega)
    have hw2 : IntKind.u64.wrap ((m : Int) + (D : Int) - (E : Int)) = (m : Int) + more := by rw [wrapU _ (by omega) (by omega)]; omega
    have hD40 : D ≤ 40 := by omega
    clear hD hE hMm
    refine wp_region_held_drew (S := fun V => Arr V b ys ∧ PRes V w.heap.size 0 0 (.slice none 0 0) ∧ Below w.heap.size w V) (by kernel_rfl) (psKeep ⟨hA, hX, g⟩ (Below.refl _ _).drew) (fun hHeld => ?_)
    clear hA hX g
    refine tkH (i := 0) (v := .agg (pgC ys)) rfl (yieldsIf_loadPg (by kernel_rfl) _ rfl b rfl ys (fun W hS => hS.1)) hHeld ?_
    try simp only [Act.put, tdy]
    refine tkH (i := 2) (v := .int .u64 m) rfl (Or.inl ⟨by kernel_rfl, fun u hSw => by (try dsimp only at hSw); go_simp; try with_reducible rfl⟩) hHeld ?_
    try simp only [Act.put, tdy]
    refine tkH (i := 3) (v := .int .u64 M) rfl (Or.inl ⟨by kernel_rfl, fun u hSw => by (try dsimp only at hSw); go_simp; try with_reducible rfl⟩) hHeld ?_
    try simp only [Act.put, tdy]
    refine tkH (i := 6) (v := .agg (pgC ys)) rfl (yieldsIf_loadPg (by kernel_rfl) _ rfl b rfl ys (fun W hS => hS.1)) hHeld ?_
    try simp only [Act.put, tdy]
    refine wpAnyH_ready (rs := [1]) (by kernel_rfl) (by simp) ?_
    refine AllReadyH.cons rfl (fun K hK => ?_) AllReadyH.nil
    go_simp
    go_wp2_with (go_at_call 152; refine (free_any ys _ hF.pg hfew hroom).mono ?_; rintro e w' ⟨rfl, hb⟩; rw [HFr.out])
    refine hK.out _ _ (psKeep hHeld hb) (fun hHeld => ?_)
    clear hK K
    try simp only [Act.put, tdy]
    refine wpAnyH_ready (rs := [4]) (by kernel_rfl) (by simp) ?_
    refine AllReadyH.cons rfl (fun K hK => ?_) AllReadyH.nil
    go_simp
    go_wp2_with (go_at_call 153; refine (dirEnd_any M _ (by omega)).mono ?_; rintro e w' ⟨rfl, hb⟩; subst w'; rw [HD.out])
    refine hK.out _ _ (psKeep hHeld (Below.refl _ _)) (fun hHeld => ?_)
    clear hK K
    try simp only [Act.put, tdy]
    refine tkH (i := 5) (v := .int .u64 ((m : Int) + D)) rfl (Or.inl ⟨by kernel_rfl, fun u hSw => by (try dsimp only at hSw); go_simp; try with_reducible rfl⟩) hHeld ?_
    try simp only [Act.put, tdy]
    refine wpAnyH_ready (rs := [7]) (by kernel_rfl) (by simp) ?_
    refine AllReadyH.cons rfl (fun K hK => ?_) AllReadyH.nil
    go_simp
    go_wp2_with (go_at_call 151; refine (slots_any ys _ hF.pg).mono ?_; rintro e w' ⟨rfl, hb⟩; rw [HN.out])
    refine hK.out _ _ (psKeep hHeld hb) (fun hHeld => ?_)
    clear hK K
    try simp only [Act.put, tdy]
    refine wpAnyH_ready (rs := [8]) (by kernel_rfl) (by simp) ?_
    refine AllReadyH.cons rfl (fun K hK => ?_) AllReadyH.nil
    go_simp
    go_wp2_with (go_at_call 153; refine (dirEnd_any k _ (by omega)).mono ?_; rintro e w' ⟨rfl, hb⟩; subst w'; rw [HE.out])
    refine hK.out _ _ (psKeep hHeld (Below.refl _ _)) (fun hHeld => ?_)
    clear hK K
    try simp only [Act.put, tdy]
    refine tkH (i := 9) (v := .int .u64 ((m : Int) + more)) rfl (Or.inl ⟨by kernel_rfl, fun u hSw => by (try dsimp only at hSw); go_simp; try with_reducible rfl⟩) hHeld ?_
    try simp only [Act.put, tdy]
    refine tkH (i := 10) (v := .bool (decide ((fr : Int) < (m : Int) + more))) rfl (Or.inl ⟨by kernel_rfl, fun u hSw => by (try dsimp only at hSw); go_simp; try with_reducible rfl⟩) hHeld ?_
    try simp only [Act.put, tdy]
    refine wpAnyH_done (by kernel_rfl) ?_ _
    obtain ⟨hA, hX, g⟩ := hHeld

    have HB : Hid (psQ ys m ≠ 0 → psS ys m = 0 ∧ psB ys cs = []) := fun e => bad _ rfl e
    clear bad
    by_cases hfull : fr < m + more
    · have HQ2 : Hid (psQ ys m = 9) := by show _ = _; rw [HQ3.out, if_pos hfull]
      have HB : Hid (psS ys m = 0 ∧ psB ys cs = []) := HB.out (by rw [HQ2.out]; decide)
      have dd : decide ((fr : Int) < (m : Int) + more) = true := by simp; omega
      rw [dd]
      clear hfull dd hA
      obtain ⟨c0, c1, c2, f0, f1, f2⟩ := hX
      go_wp2_with fail
      refine bodyPost_ret (v := .agg #[.int .i64 9, .int .i64 0, .slice none 0 0]) (by simp [results, Tryz.results104, go_sem, c0, c1, c2]) rfl ?_
      exact ⟨none, 0, by rw [HQ2.out, HB.out.1, HB.out.2]; rfl, by go_grown, PoP.bad (by rw [HQ2.out]; decide) HB.out.2⟩
    have dd : decide ((fr : Int) < (m : Int) + more) = false := by simp; omega
    rw [dd]
    clear dd hw1 hw2
    obtain ⟨L, hL⟩ : ∃ L, L = nb ys 1 := ⟨_, rfl⟩
    have HL : Hid (nb ys 1 = L) := hL.symm
    have hL64 : L ≤ 64 := by rw [hL]; exact hF.low
    have hdirL : 2 + 2 * k ≤ L := by rw [hL, ← HN.out]; exact hF.dir
    clear hL
    go_wp2_with (refine wpList_loadPg rfl _ rfl _ rfl ys (by assumption) ?_)
    refine (low_any ys _ hF.pg).mono ?_
    rintro e w4 ⟨rfl, g4⟩
    rw [HL.out]
    have hX := hX.grown g4
    have hA := hA.grown g4
    have g : Below w.heap.size w w4 := g.trans (g4.mono g.size)
    clear g4
    go_wp2_with fail
    refine (dirEnd_any M _ (by omega)).mono ?_
    rintro e w' ⟨rfl, hw'⟩
    subst w'
    rw [HD.out]
    have hD := HD.out
    by_cases hst : L < D + m
    · have HQ2 : Hid (psQ ys m = 8) := by show _ = _; rw [HQ3.out, if_neg hfull, if_pos (by rw [HL.out]; omega)]
      have HB : Hid (psS ys m = 0 ∧ psB ys cs = []) := HB.out (by rw [HQ2.out]; decide)
      have dd : (L : Int) < (D : Int) + m := by omega
      clear hfull hst hA hD
      obtain ⟨c0, c1, c2, f0, f1, f2⟩ := hX
      go_wp2_with fail
      refine bodyPost_ret (v := .agg #[.int .i64 8, .int .i64 0, .slice none 0 0]) (by simp [results, Tryz.results104, go_sem, c0, c1, c2]) rfl ?_
      exact ⟨none, 0, by rw [HQ2.out, HB.out.1, HB.out.2]; rfl, by go_grown, PoP.bad (by rw [HQ2.out]; decide) HB.out.2⟩
    have HQ2 : Hid (psQ ys m = 0) := by show _ = _; rw [HQ3.out, if_neg hfull, if_neg (by rw [HL.out]; omega)]
    have HPS : Hid (psS ys m = (s : Int) ∧ psB ys cs = putP ys cs) := HPS.out HQ2.out
    have HPP : Hid (aheadP (ys.set 0 ((M : Nat) : Int)) s cs = putP ys cs) := by
      rcases HP.out with h | h
      · exact h
      · exact absurd (show m + 1 < nb ys 1 by rw [HL.out]; omega) h
    have dd : ¬ ((L : Int) < (D : Int) + m) := by omega
    have hmL : m ≤ L := by omega
    have hPg : IsPg (ys.set 0 ((M : Nat) : Int)) := isPg_set hF.pg 0 M (by omega)
    have hlow' : nb (ys.set 0 ((M : Nat) : Int)) 1 = L := by rw [nb_set0_low, HL.out]
    have HLo : Hid (nb (ys.set 0 ((M : Nat) : Int)) 1 = L) := hlow'
    obtain ⟨sb, so, rfl⟩ : ∃ sb so, cb = some ⟨sb, so, none⟩ := by
      rcases HC.out with h0 | ⟨sb, so, hb, _⟩
      · rw [h0] at hml; simp at hml; omega
      · exact ⟨sb, so, hb⟩
    clear hD hst hfull HB HP HQ3 HQ hlow'
    have a0 := hA.cell 0 (by omega)
    have a1 := hA.frozen 0
    have hM256 : (M : Int) % 256 = M := by omega
    go_upto_region 13 with (fail)
    generalize hV : World.setCell w4 _ _ = V
    have hAV : Arr V b (ys.set 0 ((M : Nat) : Int)) := by rw [← hV]; exact hA.set 0 _
    have hXV : PRes V w.heap.size 0 0 (.slice none 0 0) := by
      rw [← hV]
      exact hX.turned (lo := b) (hi := b + 1) ((Turned.refl _ _ _).setCell (p := ⟨b, 0, none⟩) (Nat.le_refl _) (Nat.lt_succ_self _) _) (.inl hlt)
    have gV : Below w.heap.size w V := by rw [← hV]; exact g.setCell (by simp; omega) _
    clear hV hA hX g a0 a1
    have hrc := HC.out.below gV (Nat.le_refl _)
    go_wp2_with fail
    refine (writeAhead_any b s m sb so d _ cs _ hAV hPg hcz hml hm1 (by rw [HLo.out]; omega) (by rw [HLo.out]; omega) (by omega) hrc).mono ?_
    rintro e w5 ⟨rfl, t5, hA5⟩
    rw [HPP.out] at hA5
    have hX5 := hXV.turned t5 (.inl hlt)
    have g5 : Below w.heap.size w w5 := gV.trans (t5.toBelow gV.size (by omega))
    have hb5 := hA5.lt
    have hx5 := hX5.lt
    have HA5 : Hid (Arr (((w5.setCell ⟨w.heap.size, 0, none⟩ (.int .i64 0)).setCell ⟨w.heap.size, 1, none⟩ (.int .i64 s)).setCell ⟨w.heap.size, 2, none⟩ (.slice (some ⟨b, 0, none⟩) 64 64)) b (putP ys cs)) := ((hA5.other _ _ (by simp; omega)).other _ _ (by simp; omega)).other _ _ (by simp; omega)
    have hlen := hA5.len
    have HLen : Hid ((putP ys cs).length = 64) := hlen
    clear hlen hA5 hXV gV hAV hrc t5
    obtain ⟨c0, c1, c2, f0, f1, f2⟩ := hX5
    go_wp2_with fail
    refine bodyPost_ret (v := .agg #[.int .i64 0, .int .i64 s, .slice (some ⟨b, 0, none⟩) 64 64]) (by simp [results, Tryz.results104, go_sem, c0, c1, c2]) rfl ?_
    exact ⟨some ⟨b, 0, none⟩, 64, by rw [HQ2.out, HPS.out.1, HPS.out.2, HLen.out], by go_grown, PoP.ok HQ2.out (by omega) (by rw [HPS.out.2]; exact HA5.out)⟩
  · obtain ⟨q, hqq⟩ : ∃ q, q = lcQ zs m := ⟨_, rfl⟩
    have HQ : Hid (psQ zs m = q) := by
      show _ = _
      rw [hqq]
      unfold psQ lcQ cellQ
      unfold lcQ cellQ at hq
      by_cases e : fltOf zs = 0
      · rw [if_pos e, if_pos e]
        rw [if_pos e] at hq
        by_cases e2 : inR m 1 20 = true
        · rw [if_pos e2] at hq; exact absurd rfl hq
        · rw [if_neg e2, if_neg e2]
      · rw [if_neg e, if_neg e]
    have HB : Hid (psS zs m = 0 ∧ psB zs cs = []) := bad q HQ.out (by rw [hqq]; exact hq)
    have dq : (q != 0) = true := by rw [hqq]; simpa using hq
    rw [← hqq]
    clear hq hqq bad hA
    obtain ⟨c0, c1, c2, f0, f1, f2⟩ := hX2
    go_wp2_with fail
    refine bodyPost_ret (v := .agg #[.int .i64 q, .int .i64 0, .slice none 0 0]) (by simp [results, Tryz.results104, go_sem, c0, c1, c2]) rfl ?_
    exact ⟨none, 0, by rw [HQ.out, HB.out.1, HB.out.2]; rfl, by go_grown, PoP.bad (by rw [HQ.out]; simpa using dq) HB.out.2⟩


set_option maxHeartbeats 4000000 in
theorem implCompactPage_own (a : Option Addr) (zs : List Int) (n c : Nat) (w : World) (hn : zs.length = n) (hm : n ≤ 1048576) (hnc : n ≤ c) (hr : Reads w a zs) (hz : ∀ z ∈ zs, 0 ≤ z ∧ z ≤ 255) :
    Calls Tryz.prog 156 #[.slice a n c] w fun e w' => ∃ a' d', e = .returned (.agg #[.int .i64 (cqQ zs), .int .i64 0, .slice a' (cqB zs).length d']) ∧ Below w.heap.size w w' ∧ PoP w w' a' d' (cqQ zs) (cqB zs) := by
  have hX : PRes (w.alloc (.cells #[.int .i64 0, .int .i64 0, .slice none 0 0] 146)) w.heap.size 0 0 (.slice none 0 0) := ⟨by simp [go_sem], by simp [go_sem], by simp [go_sem], by simp [go_sem], by simp [go_sem], by simp [go_sem]⟩
  have g : Below w.heap.size w (w.alloc (.cells #[.int .i64 0, .int .i64 0, .slice none 0 0] 146)) := by go_grown
  have hr := hr.below g (Nat.le_refl _)
  obtain ⟨X, hX0⟩ : ∃ X, w.alloc (.cells #[.int .i64 0, .int .i64 0, .slice none 0 0] 146) = X := ⟨_, rfl⟩
  rw [hX0] at hX g hr
  go_enter Tryz.func156, Tryz.ntmps156
  go_wp2_with fail
  refine (loadPage_all a zs n c _ hn hm hnc hr hz).mono ?_
  rintro e w1 ⟨rfl, g1⟩
  have hX1 := hX.grown g1
  have g : Below w.heap.size w w1 := g.trans (g1.mono g.size)
  clear hX0 hX g1 hr
  have hpl := pg_len zs
  obtain ⟨ys, hys⟩ : ∃ ys, ys = pg zs := ⟨_, rfl⟩
  have HY : Hid (ys = pg zs) := hys
  rw [← hys] at hpl ⊢
  clear hys
  go_upto_region 2 with (refine wpList_storePg rfl _ _ rfl _ ys rfl rfl hpl (filled 0 0) (arr_new _ (filled 0 0) rfl) ?_)
  generalize hZ : World.setRow _ w1.heap.size (pgC ys) = Z
  have hA : Arr Z w1.heap.size ys := by rw [← hZ]; exact (arr_new w1 (filled 0 0) rfl).put hpl
  have gZ : Below w1.heap.size w1 Z := by rw [← hZ]; exact setRow_below ((Below.refl _ _).alloc (Nat.le_refl _) _) (Nat.le_refl _) _
  have hX2 := hX1.grown gZ
  have g : Below w.heap.size w Z := g.trans (gZ.mono g.size)
  have hlt := hX1.lt
  clear hZ gZ hX1
  generalize w1.heap.size = b at hA hlt
  by_cases hq : fltOf zs = 0
  · have hF := fine_of hz hq
    have hyz : ys = zs := by rw [HY.out, pg, if_pos hF.pg.len]
    subst hyz
    have HQ : Hid (cqQ ys = 0 ∧ cqB ys = cpP ys (nb ys 0)) := by refine ⟨hq, ?_⟩; unfold cqB; rw [if_pos hq]
    rw [hq]
    clear hq
    have hfew := hF.few
    have hsum := hF.sum
    obtain ⟨n0, hn0⟩ : ∃ n0, n0 = nb ys 0 := ⟨_, rfl⟩
    have HN : Hid (nb ys 0 = n0) := hn0.symm
    have hBo : Hid (∀ k, k ≤ n0 → Both ys k) := fun k hk => both_all hF k (by rw [← hn0]; exact hk)
    have hcl0 : Hid (∀ k, k < n0 → (cellOf ys k).length = nb ys (3 + 2 * k)) := fun k hk => cellOf_length hF k (by rw [← hn0]; exact hk)
    have hplace : Hid (∀ k, k < n0 → (nb ys (2 + 2 * k) = 0 ∧ nb ys (3 + 2 * k) = 0) ∨ (nb ys (2 + 2 * k) ≠ 0 ∧ nb ys (3 + 2 * k) ≠ 0 ∧ nb ys 1 ≤ nb ys (2 + 2 * k) ∧ nb ys (2 + 2 * k) + nb ys (3 + 2 * k) ≤ 64)) := fun k hk => hF.place k (by rw [← hn0]; exact hk)
    have hlens : Hid (∀ k, k < n0 → lens ys k + nb ys (3 + 2 * k) ≤ 62) := fun k hk => by
      have := lens_le ys (k + 1) (n0 - (k + 1))
      rw [show k + 1 + (n0 - (k + 1)) = nb ys 0 by omega] at this
      have h2 : lens ys (k + 1) = lens ys k + nb ys (3 + 2 * k) := rfl
      omega
    rw [← hn0] at hfew
    clear hn0 hsum
    have hAlt := hA.lt
    go_upto_region 5 with (fail)
    generalize hV : World.alloc Z _ = V
    have hP : Arr V Z.heap.size (filled 0 0) := by rw [← hV]; exact arr_new Z (filled 0 0) rfl
    have gV : Below Z.heap.size Z V := by rw [← hV]; exact (Below.refl _ _).alloc (Nat.le_refl _) _
    have hS : CpS w b ys V := ⟨hA.grown gV, hX2.grown gV, g.trans (gV.mono g.size)⟩
    clear hV gV hA hX2 g
    generalize Z.heap.size = pb at hP hAlt
    have hpb : w.heap.size < b ∧ b < pb := ⟨hlt, hAlt⟩
    have q0 := hP.cell 0 (by omega)
    have q1 := hP.cell 1 (by omega)
    have v0 := hP.frozen 0
    have v1 := hP.frozen 1
    have a0 := hS.a.at 0 (by omega)
    have hpb0 : pb ≠ b := by omega
    go_upto_region 6 with (fail)
    generalize hV2 : World.setCell _ _ _ = V2
    have hP2 : Arr V2 pb (cpP ys 0) := by rw [← hV2]; exact (hP.set 0 _).set 1 _
    have t2 : Turned pb (pb + 1) V V2 := by rw [← hV2]; exact ((Turned.refl _ _ _).setCell (p := ⟨pb, 0, none⟩) (Nat.le_refl _) (Nat.lt_succ_self _) _).setCell (p := ⟨pb, 1, none⟩) (Nat.le_refl _) (Nat.lt_succ_self _) _
    have hS2 := hS.turned t2 hpb
    clear hV2 t2 q0 q1 v0 v1 a0 hP hS
    have hA := hS2.a
    go_wp2_with (refine wpList_loadPg rfl _ rfl _ rfl ys (by assumption) ?_)
    refine (slots_any ys _ hF.pg).mono ?_
    rintro e w3 ⟨rfl, g3⟩
    rw [HN.out]
    have hS3 := hS2.below g3
    have hP3 := hP2.grown g3
    clear g3 hS2 hP2 hA
    go_wp2_with fail
    go_loopw [23] (fun i wr => ∃ k : Nat, k ≤ n0 ∧ i = .int .u64 k ∧ Arr wr pb (cpP ys k) ∧ CpS w b ys wr) (fun i _ => n0 - (intOf i).toNat)
    case atStart => exact ⟨0, Nat.zero_le _, rfl, hP3, hS3⟩
    case round =>
      obtain ⟨k, hk, rfl, hP, hS⟩ := hrel
      clear hS3 hP3
      by_cases hlt2 : k < n0
      · have hkn : (k : Int) < (n0 : Int) := by omega
        have hA := hS.a
        go_wp2_with (refine wpList_loadPg rfl _ rfl _ rfl ys (by assumption) ?_)
        refine (spanOf_any ys k _ hF.pg (by omega)).mono ?_
        rintro e w4 ⟨rfl, g4⟩
        have hS4 := hS.below g4
        have hP4 := hP.grown g4
        clear g4 hS hP hA
        obtain ⟨p, hp⟩ : ∃ p, p = nb ys (2 + 2 * k) := ⟨_, rfl⟩
        obtain ⟨l, hl⟩ : ∃ l, l = nb ys (3 + 2 * k) := ⟨_, rfl⟩
        rw [← hp, ← hl]
        have hplk := hplace.out k hlt2
        have hlk := hlens.out k hlt2
        have hclk := hcl0.out k hlt2
        rw [← hp, ← hl] at hplk
        rw [← hl] at hlk hclk
        have HCL : Hid ((cellOf ys k).length = l) := hclk
        have HC : Hid (cellOf ys k = (ys.drop p).take l) := by show _ = _; unfold cellOf; rw [← hp, ← hl]
        have HEmp : Hid (empB ys k = (p == 0 && l == 0)) := by show _ = _; unfold empB; rw [← hp, ← hl]
        have hpby : pb < w4.heap.size := hP4.lt
        clear hp hl hclk
        go_upto_region 10 with (fail)
        generalize hY : World.alloc w4 _ = wr2
        have s0 : wr2.cell? ⟨w4.heap.size, 0, none⟩ = some (.int .u64 p) := by rw [← hY]; simp [go_sem]
        have s1 : wr2.cell? ⟨w4.heap.size, 1, none⟩ = some (.int .u64 l) := by rw [← hY]; simp [go_sem]
        have gY : Below w4.heap.size w4 wr2 := by rw [← hY]; exact (Below.refl _ _).alloc (Nat.le_refl _) _
        have hS := hS4.below gY
        have hP := hP4.grown gY
        clear hY gY hS4 hP4
        generalize w4.heap.size = y at s0 s1 hpby
        have hyp : pb < y := hpby
        go_wp2_with fail
        refine (isEmpty_any p l _).mono ?_
        rintro e wr3 ⟨rfl, g5⟩
        obtain ⟨s0, s1, hS⟩ := cpKeep ⟨s0, s1, hS⟩ g5
        have hP := hP.grown g5
        clear g5
        have hB := hBo.out k hk
        by_cases hem : p = 0 ∧ l = 0
        · have HE : Hid (cpP ys (k + 1) = cpP ys k) := by show _ = _; simp only [cpP]; rw [if_pos (by rw [HEmp.out, hem.1, hem.2]; rfl)]
          obtain ⟨rfl, rfl⟩ := hem
          go_wp2_with fail
          go_roundw
          case rel => exact ⟨k + 1, by omega, by go_num, by rw [HE.out]; exact hP, hS⟩
          case measure => simp [intOf]; omega
        · have hl1 : 1 ≤ l := by omega
          have hpl : p + l ≤ 64 := by omega
          have de : (p == 0 && l == 0) = false := by simp; omega
          have HE : Hid (cpP ys (k + 1) = aheadP (cpP ys k) k (cellOf ys k)) := by show _ = _; simp only [cpP]; rw [if_neg (by rw [HEmp.out, de]; simp)]
          rw [de]
          obtain ⟨q, hq⟩ : ∃ q, q = p + l := ⟨_, rfl⟩
          have HPL : Hid (p + l = q) := hq.symm
          have hq64 : (q : Int) ≤ 64 := by omega
          have hpq : (p : Int) ≤ (q : Int) := by omega
          have hql : q - p = l := by omega
          have hp64 : ¬ (64 = p) := by omega
          have hlow : lens ys k + l ≤ 62 := hlk
          clear hplk hem de hq
          go_upto_region 11 with (fail)
          refine wp_region_held_drew (S := fun V => V.cell? ⟨y, 0, none⟩ = some (.int .u64 p) ∧ V.cell? ⟨y, 1, none⟩ = some (.int .u64 l) ∧ CpS w b ys V) (by kernel_rfl) (cpKeep ⟨s0, s1, hS⟩ (Below.refl _ _).drew) (fun hHeld => ?_)
          have hP : Arr wr3.drew pb (cpP ys k) := hP.grown (Below.refl _ _).drew
          clear hS s0 s1
          refine tkH (i := 0) (v := .int .u64 k) rfl (Or.inl ⟨by kernel_rfl, fun u hSw => by (try dsimp only at hSw); go_simp; try with_reducible rfl⟩) hHeld ?_
          try simp only [Act.put, tdy]
          refine tkH (i := 1) (v := .pointer (some ⟨y, 0, none⟩)) rfl (Or.inl ⟨by kernel_rfl, fun u hSw => by (try dsimp only at hSw); go_simp; try with_reducible rfl⟩) hHeld ?_
          try simp only [Act.put, tdy]
          refine tkH (i := 2) (v := .int .u64 p) rfl (Or.inl ⟨by kernel_rfl, fun u hSw => by (try dsimp only at hSw); go_simp; try with_reducible rfl⟩) hHeld ?_
          try simp only [Act.put, tdy]
          refine tkH (i := 3) (v := .agg #[.int .u64 p, .int .u64 l]) rfl (Or.inl ⟨by kernel_rfl, fun u hSw => by (try dsimp only at hSw); go_simp; try with_reducible rfl⟩) hHeld ?_
          try simp only [Act.put, tdy]
          refine wpAnyH_ready (rs := [4]) (by kernel_rfl) (by simp) ?_
          refine AllReadyH.cons rfl (fun K hK => ?_) AllReadyH.nil
          go_simp
          go_wp2_with (go_at_call 182; refine (spanEnd_any p l _ (by omega) (by omega)).mono ?_; rintro e w4 ⟨rfl, hb⟩; rw [HPL.out])
          refine hK.out _ _ (cpKeep hHeld hb) (fun hHeld => ?_)
          clear hK K
          try simp only [Act.put, tdy]
          have hP : Arr w4 pb (cpP ys k) := hP.grown hb
          clear hb
          refine tkH (i := 5) (v := .slice (some ⟨b, p, none⟩) l (64 - p)) rfl (Or.inl ⟨by kernel_rfl, fun u hSw => by (try dsimp only at hSw); go_simp; try with_reducible rfl⟩) hHeld ?_
          try simp only [Act.put, tdy]
          refine wpAnyH_ready (rs := [6]) (by kernel_rfl) (by simp) ?_
          refine AllReadyH.cons rfl (fun K hK => ?_) AllReadyH.nil
          go_simp
          go_wp2_with (go_at_call 155; refine (writeAhead_any pb k l b p (64 - p) _ _ _ hP hB.pg (cellOf_bd hF.pg k) HCL.out hl1 (by rw [hB.low]; omega) (by rw [hB.low]; omega) (by omega) (hHeld.2.2.rd p l HC.out hpl)).mono ?_; rintro e w5 ⟨rfl, t5, hP5⟩)
          refine hK.out _ _ (cpTurn hHeld t5 hyp hpb) (fun hHeld => ?_)
          clear hK K
          try simp only [Act.put, tdy]
          obtain ⟨_, _, hS⟩ := hHeld
          refine wpAnyH_done (by kernel_rfl) ?_ _

          have HE2 : Hid (Arr w5 pb (cpP ys (k + 1))) := by show Arr _ _ _; rw [HE.out]; exact hP5
          clear hP5 t5
          go_wp2_with fail
          go_roundw
          case rel => exact ⟨k + 1, by omega, by go_num, HE2.out, hS⟩
          case measure => simp [intOf]; omega
      · have e : k = n0 := by omega
        subst e
        have hpl2 := hP.lt
        have hx2 := hS.x.lt
        have g := hS.g
        have HA5 : Hid (Arr (((wr.setCell ⟨w.heap.size, 0, none⟩ (.int .i64 0)).setCell ⟨w.heap.size, 1, none⟩ (.int .i64 0)).setCell ⟨w.heap.size, 2, none⟩ (.slice (some ⟨pb, 0, none⟩) 64 64)) pb (cpP ys k)) := ((hP.other _ _ (by simp; omega)).other _ _ (by simp; omega)).other _ _ (by simp; omega)
        have hlen := hP.len
        have HLen : Hid ((cpP ys k).length = 64) := hlen
        obtain ⟨c0, c1, c2, f0, f1, f2⟩ := hS.x
        clear hlen hP hS
        go_wp2_with fail
        refine bodyPost_ret (v := .agg #[.int .i64 0, .int .i64 0, .slice (some ⟨pb, 0, none⟩) 64 64]) (by simp [results, Tryz.results156, go_sem, c0, c1, c2]) rfl ?_
        exact ⟨some ⟨pb, 0, none⟩, 64, by rw [HQ.out.1, HQ.out.2, HN.out, HLen.out], by go_grown, PoP.ok HQ.out.1 (by omega) (by rw [HQ.out.2, HN.out]; exact HA5.out)⟩
  · obtain ⟨q, hqq⟩ : ∃ q, q = fltOf zs := ⟨_, rfl⟩
    have HQ : Hid (cqQ zs = q ∧ cqB zs = []) := by refine ⟨hqq.symm, ?_⟩; unfold cqB; rw [if_neg hq]
    have dq : (q != 0) = true := by rw [hqq]; simpa using hq
    rw [← hqq]
    clear hq hqq hA
    obtain ⟨c0, c1, c2, f0, f1, f2⟩ := hX2
    go_wp2_with fail
    refine bodyPost_ret (v := .agg #[.int .i64 q, .int .i64 0, .slice none 0 0]) (by simp [results, Tryz.results156, go_sem, c0, c1, c2]) rfl ?_
    exact ⟨none, 0, by rw [HQ.out.1, HQ.out.2]; rfl, by go_grown, PoP.bad (by rw [HQ.out.1]; simpa using dq) HQ.out.2⟩

end Go.Proofs.YtnfolgoloaeanaaGreat

