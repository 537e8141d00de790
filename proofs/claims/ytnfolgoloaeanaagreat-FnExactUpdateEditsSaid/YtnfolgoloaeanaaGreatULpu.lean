/-
  The contract of the model's l2Put on a page without a fault.
-/
import Derived.Test.YtnfolgoloaeanaaGreatUAhe
import Derived.Test.YtnfolgoloaeanaaGreatUBas
import Derived.Test.YtnfolgoloaeanaaGreatUEdb

namespace Go.Proofs.YtnfolgoloaeanaaGreat
set_option maxRecDepth 20000
open Go.RowKit
set_option linter.unusedVariables false

theorem firstE_le (zs : List Int) : ∀ m k, firstE zs k m ≤ k + m
  | 0, k => Nat.le_refl _
  | m + 1, k => by
    rw [firstE]
    split
    · omega
    · have := firstE_le zs m (k + 1); omega
/-- The slot that a cell is put into, how many slots there are then, and what more room they take. -/
def putS (zs : List Int) : Nat := firstE zs 0 (nb zs 0)
def putM (zs : List Int) : Nat := if putS zs = nb zs 0 then nb zs 0 + 1 else nb zs 0
def putMore (zs : List Int) : Nat := if putS zs = nb zs 0 then 2 else 0
/-- The code of a put of n bytes. -/
def putQ (zs : List Int) (n : Nat) : Int := if putS zs = nb zs 0 ∧ 16 ≤ nb zs 0 then 2 else if freeN zs < n + putMore zs then 9 else if nb zs 1 < n + (2 + 2 * putM zs) then 8 else 0
/-- The page behind a put. -/
def putP (zs : List Int) (cs : List Int) : List Int := spanSet (splice ((zs.set 0 ((putM zs : Nat) : Int)).set 1 ((nb zs 1 - cs.length : Nat) : Int)) (nb zs 1 - cs.length) cs) (putS zs) (nb zs 1 - cs.length) cs.length

set_option maxHeartbeats 2000000 in
theorem l2Put_many (a : Option Addr) (zs : List Int) (c : Nat) (b : Option Addr) (n d : Nat) (w : World) (hr : Reads w a zs) (h : Fine zs) (hs : putS zs = nb zs 0 ∧ 16 ≤ nb zs 0) :
    Calls Tryz.prog 146 #[.slice a 64 c, .slice b n d] w fun e w' => e = .returned (.tuple #[.slice none 0 0, .int .i64 0, .int .i64 2]) ∧ w' = w := by
  obtain ⟨k, hk⟩ : ∃ k, k = nb zs 0 := ⟨_, rfl⟩
  have HK : Hid (nb zs 0 = k) := hk.symm
  have HS : Hid (firstE zs 0 (nb zs 0) = k) := by show _ = _; rw [hk]; exact hs.1
  have h16 : 16 ≤ k := by rw [hk]; exact hs.2
  have h16' : (16 : Int) ≤ (k : Int) := by omega
  clear hk hs
  go_enter Tryz.func146, Tryz.ntmps146
  go_wp2_with fail
  refine (l2Empty_any a zs c _ hr h).mono ?_
  rintro e w' ⟨rfl, rfl⟩
  rw [HS.out]
  go_wp2_with fail
  refine (l2Count_any a zs c _ hr h.pg).mono ?_
  rintro e w' ⟨rfl, rfl⟩
  rw [HK.out]
  go_wp2_with fail
  go_ret3
  exact ⟨rfl, rfl⟩

set_option maxHeartbeats 4000000 in
theorem l2Put_full (a : Option Addr) (zs : List Int) (c : Nat) (b : Option Addr) (n d : Nat) (w : World) (hr : Reads w a zs) (h : Fine zs) (hn : n ≤ 1048576) (hs : ¬ (putS zs = nb zs 0 ∧ 16 ≤ nb zs 0)) (hfull : freeN zs < n + putMore zs ∨ nb zs 1 < n + (2 + 2 * putM zs)) :
    Calls Tryz.prog 146 #[.slice a 64 c, .slice b n d] w fun e w' => e = .returned (.tuple #[.slice none 0 0, .int .i64 0, .int .i64 (if freeN zs < n + putMore zs then 9 else 8)]) ∧ w' = w := by
  obtain ⟨k, hk⟩ : ∃ k, k = nb zs 0 := ⟨_, rfl⟩
  obtain ⟨s, hsv⟩ : ∃ s, s = putS zs := ⟨_, rfl⟩
  obtain ⟨f, hf⟩ : ∃ f, f = freeN zs := ⟨_, rfl⟩
  obtain ⟨low, hlw⟩ : ∃ low, low = nb zs 1 := ⟨_, rfl⟩
  have hlb := h.low
  have hkf := h.few
  have HK : Hid (nb zs 0 = k) := hk.symm
  have HS : Hid (firstE zs 0 (nb zs 0) = s) := hsv.symm
  have HFr : Hid (freeN zs = f) := hf.symm
  have HLo : Hid (nb zs 1 = low) := hlw.symm
  rw [← hk] at hkf
  rw [← hlw] at hlb
  have hf64 : f ≤ 64 := by rw [hf]; unfold freeN; omega
  by_cases hsk : s = k
  · have hmo : putMore zs = 2 := by unfold putMore; rw [← hsv, ← hk, if_pos hsk]
    have hmm : putM zs = k + 1 := by unfold putM; rw [← hsv, ← hk, if_pos hsk]
    have hk16 : k < 16 := by rw [← hsv, ← hk] at hs; omega
    rw [hmo, hmm, ← hf, ← hlw] at hfull
    rw [hmo, ← hf]
    clear hs hk hsv hf hlw hmo hmm
    subst hsk
    have hd16 : decide ((16 : Int) ≤ (s : Int)) = false := by simp; omega
    have hi16 : ¬ (16 : Int) ≤ (s : Int) := by omega
    go_enter Tryz.func146, Tryz.ntmps146
    go_wp2_with fail
    refine (l2Empty_any a zs c _ hr h).mono ?_
    rintro e w' ⟨rfl, hw'⟩
    subst w'
    rw [HS.out]
    go_wp2_with fail
    refine (l2Count_any a zs c _ hr h.pg).mono ?_
    rintro e w' ⟨rfl, hw'⟩
    subst w'
    rw [HK.out]
    go_wp2_with fail
    refine (l2Free_any a zs c _ hr h).mono ?_
    rintro e w' ⟨rfl, hw'⟩
    subst w'
    rw [HFr.out]
    by_cases hq : f < n + 2
    · have df : (f : Int) < (n : Int) + 2 := by omega
      have df2 : decide ((f : Int) < (n : Int) + 2) = true := by simpa using df
      have HI : Hid ((if f < n + 2 then (9 : Int) else 8) = 9) := if_pos hq
      go_wp2_with fail
      go_ret3
      exact ⟨by first | rfl | (rw [HI.out]; rfl) | (simp only [HI.out]; rfl) | (simp [hq]), rfl⟩
    · have df : ¬ (f : Int) < (n : Int) + 2 := by omega
      have df2 : decide ((f : Int) < (n : Int) + 2) = false := by simpa using df
      have hst : low < n + (2 + 2 * (s + 1)) := by omega
      have HI : Hid ((if f < n + 2 then (9 : Int) else 8) = 8) := if_neg hq
      clear hfull
      go_wp2_with fail
      refine (l2Low_any a zs c _ hr h.pg).mono ?_
      rintro e w' ⟨rfl, hw'⟩
      subst w'
      rw [HLo.out]
      have dl : (low : Int) - (n : Int) < 2 + 2 * ((s : Int) + 1) := by omega
      go_wp2_with fail
      go_ret3
      exact ⟨by first | rfl | (rw [HI.out]; rfl) | (simp only [HI.out]; rfl) | (simp [hq]), rfl⟩
  · have hmo : putMore zs = 0 := by unfold putMore; rw [← hsv, ← hk, if_neg hsk]
    have hmm : putM zs = k := by unfold putM; rw [← hsv, ← hk, if_neg hsk]
    rw [hmo, hmm, ← hf, ← hlw] at hfull
    rw [hmo, ← hf]
    clear hs hk hsv hf hlw hmo hmm
    have hde : ((s : Int) == (k : Int)) = false := by simp; omega
    go_enter Tryz.func146, Tryz.ntmps146
    go_wp2_with fail
    refine (l2Empty_any a zs c _ hr h).mono ?_
    rintro e w' ⟨rfl, hw'⟩
    subst w'
    rw [HS.out]
    go_wp2_with fail
    refine (l2Count_any a zs c _ hr h.pg).mono ?_
    rintro e w' ⟨rfl, hw'⟩
    subst w'
    rw [HK.out]
    go_wp2_with fail
    refine (l2Free_any a zs c _ hr h).mono ?_
    rintro e w' ⟨rfl, hw'⟩
    subst w'
    rw [HFr.out]
    by_cases hq : f < n + 0
    · have df : (f : Int) < (n : Int) + 0 := by omega
      have df2 : decide ((f : Int) < (n : Int) + 0) = true := by simpa using df
      have HI : Hid ((if f < n + 0 then (9 : Int) else 8) = 9) := if_pos hq
      go_wp2_with fail
      go_ret3
      exact ⟨by first | rfl | (rw [HI.out]; rfl) | (simp only [HI.out]; rfl) | (simp [hq]), rfl⟩
    · have df : ¬ (f : Int) < (n : Int) + 0 := by omega
      have df2 : decide ((f : Int) < (n : Int) + 0) = false := by simpa using df
      have hst : low < n + (2 + 2 * k) := by omega
      have HI : Hid ((if f < n + 0 then (9 : Int) else 8) = 8) := if_neg hq
      clear hfull
      go_wp2_with fail
      refine (l2Low_any a zs c _ hr h.pg).mono ?_
      rintro e w' ⟨rfl, hw'⟩
      subst w'
      rw [HLo.out]
      have dl : (low : Int) - (n : Int) < 2 + 2 * (k : Int) := by omega
      go_wp2_with fail
      go_ret3
      exact ⟨by first | rfl | (rw [HI.out]; rfl) | (simp only [HI.out]; rfl) | (simp [hq]), rfl⟩



/-- The fault of a cell of n bytes. -/
def cellQ (n : Nat) : Int := if inR n 1 20 = true then 0 else 1

set_option maxHeartbeats 400000 in
theorem cellFault_any (a : Option Addr) (n c : Nat) (w : World) (hn : n ≤ 1048576) :
    Calls Tryz.prog 193 #[.slice a n c] w fun e w' => e = .returned (.int .i64 (cellQ n)) ∧ w' = w := by
  by_cases h1 : n < 1
  · have HQ : Hid (cellQ n = 1) := by show _ = _; unfold cellQ; rw [if_neg (by simp [inR]; omega)]
    have i1 : (n : Int) < 1 := by omega
    have d1 : decide ((n : Int) < 1) = true := by simpa using i1
    go_enter Tryz.func193, Tryz.ntmps193
    go_wp2_with fail
    go_ret
    exact ⟨by rw [HQ.out]; rfl, rfl⟩
  · have d1 : decide ((n : Int) < 1) = false := by simp; omega
    by_cases h2 : 20 < n
    · have HQ : Hid (cellQ n = 1) := by show _ = _; unfold cellQ; rw [if_neg (by simp [inR]; omega)]
      have i2 : (20 : Int) < (n : Int) := by omega
      have d2 : decide (20 < n) = true := by simpa using h2
      go_enter Tryz.func193, Tryz.ntmps193
      go_wp2_with fail
      go_ret
      exact ⟨by rw [HQ.out]; rfl, rfl⟩
    · have HQ : Hid (cellQ n = 0) := by show _ = _; unfold cellQ; rw [if_pos (by simp [inR]; omega)]
      have i2 : ¬ (20 : Int) < (n : Int) := by omega
      have d2 : decide (20 < n) = false := by simpa using h2
      go_enter Tryz.func193, Tryz.ntmps193
      go_wp2_with fail
      go_ret
      exact ⟨by rw [HQ.out]; rfl, rfl⟩


/-- What PutSlot answers: its code, its slot, its page. -/
def psQ (zs : List Int) (n : Nat) : Int := if fltOf zs = 0 then (if inR n 1 20 = true then putQ zs n else 1) else fltOf zs
def psS (zs : List Int) (n : Nat) : Int := if psQ zs n = 0 then (putS zs : Int) else 0
def psB (zs cs : List Int) : List Int := if psQ zs cs.length = 0 then putP zs cs else []


/-- The fault of bytes and of a cell of m bytes. -/
def lcQ (zs : List Int) (m : Nat) : Int := if fltOf zs = 0 then cellQ m else fltOf zs

set_option maxHeartbeats 2000000 in
theorem loadPageAndCell_any (a : Option Addr) (zs : List Int) (n c : Nat) (b : Option Addr) (m d : Nat) (w : World) (hn : zs.length = n) (hm : n ≤ 1048576) (hnc : n ≤ c) (hr : Reads w a zs) (hz : ∀ z ∈ zs, 0 ≤ z ∧ z ≤ 255) (hmm : m ≤ 1048576) :
    Calls Tryz.prog 149 #[.slice a n c, .slice b m d] w fun e w' => e = .returned (.tuple #[.agg (pgC (pg zs)), .int .i64 (lcQ zs m)]) ∧ Below w.heap.size w w' := by
  have hA := arr_new w (filled 0 0) rfl
  go_enter Tryz.func149, Tryz.ntmps149
  go_upto_region 1 with (fail)
  generalize hY : World.alloc w _ = Y
  have hA : Arr Y w.heap.size (filled 0 0) := by rw [← hY]; exact hA
  have g : Below w.heap.size w Y := by rw [← hY]; exact (Below.refl _ _).alloc (Nat.le_refl _) _
  clear hY
  have hr := hr.below g (Nat.le_refl _)
  go_wp2_with fail
  refine (loadPage_all a zs n c _ hn hm hnc hr hz).mono ?_
  rintro e w1 ⟨rfl, g1⟩
  have hA1 := hA.grown g1
  have g : Below w.heap.size w w1 := g.trans (g1.mono g.size)
  clear g1 hA hr
  have hpl := pg_len zs
  obtain ⟨ys, hys⟩ : ∃ ys, ys = pg zs := ⟨_, rfl⟩
  have HY : Hid (ys = pg zs) := hys
  rw [← hys] at hpl ⊢
  clear hys
  go_upto_region 2 with (refine wpList_storePg rfl _ _ rfl _ ys rfl rfl hpl (filled 0 0) (arr_new _ (filled 0 0) rfl) ?_)
  generalize hZ : World.setRow _ w1.heap.size (pgC ys) = Z
  have hy : Arr Z w1.heap.size ys := by rw [← hZ]; exact (arr_new w1 (filled 0 0) rfl).put hpl
  have gZ : Below w1.heap.size w1 Z := by rw [← hZ]; exact setRow_below ((Below.refl _ _).alloc (Nat.le_refl _) _) (Nat.le_refl _) _
  have hx := hA1.grown gZ
  have g : Below w.heap.size w Z := g.trans (gZ.mono g.size)
  clear hZ gZ hA1
  by_cases hq : fltOf zs = 0
  · have HQ : Hid (lcQ zs m = cellQ m) := by show _ = _; unfold lcQ; rw [if_pos hq]
    rw [hq]
    clear hq
    go_wp2_with fail
    refine (cellFault_any b m d _ hmm).mono ?_
    rintro e w' ⟨rfl, hw'⟩
    subst w'
    obtain ⟨q, hqv⟩ : ∃ q, q = cellQ m := ⟨_, rfl⟩
    have HQ2 : Hid (lcQ zs m = q) := by show _ = _; rw [HQ.out, hqv]
    rw [← hqv]
    clear hqv HQ
    go_upto_region 4 with (fail)
    refine wp_region_lit ?_
    refine wpList_loadPg rfl _ rfl _ rfl ys hy ?_
    refine wpList_plain rfl fun K hK => BigFrame.wp_move _ rfl (hK _ _ ?_)
    refine wpList_storePg rfl _ _ rfl w.heap.size ys rfl rfl hpl (filled 0 0) hx ?_
    have hx' := hx.put hpl
    have g' := setRow_below g (Nat.le_refl _) (pgC ys)
    refine wpList_plain rfl fun K hK => BigFrame.wp_assign _ rfl (hK _ _ ?_)
    refine wpList_nil ?_
    simp only [Act.put, List.setIfInBounds_toArray, List.set, Exit.then]
    go_step
    refine wp_ret ?_
    have hld := hx'.loadVar
    refine bodyPost_ret (v := .tuple #[.agg (pgC ys), .int .i64 q]) ?_ rfl ⟨by rw [HQ2.out, HY.out], g'⟩
    rw [results_cell_tmp rfl]
    show ((asAddr (.pointer (some ⟨w.heap.size, 0, none⟩))).run Tryz.prog _).andThen _ = _
    simp only [asAddr, Sem.run_pure, Result.andThen_ok, hld]
    rfl
  · obtain ⟨q, hqv⟩ : ∃ q, q = fltOf zs := ⟨_, rfl⟩
    have HQ2 : Hid (lcQ zs m = q) := by show _ = _; unfold lcQ; rw [if_neg hq, hqv]
    have dq : (q == 0) = false := by rw [hqv]; simpa using hq
    rw [← hqv]
    clear hqv hq
    go_upto_region 4 with (fail)
    refine wp_region_lit ?_
    refine wpList_loadPg rfl _ rfl _ rfl ys hy ?_
    refine wpList_plain rfl fun K hK => BigFrame.wp_move _ rfl (hK _ _ ?_)
    refine wpList_storePg rfl _ _ rfl w.heap.size ys rfl rfl hpl (filled 0 0) hx ?_
    have hx' := hx.put hpl
    have g' := setRow_below g (Nat.le_refl _) (pgC ys)
    refine wpList_plain rfl fun K hK => BigFrame.wp_assign _ rfl (hK _ _ ?_)
    refine wpList_nil ?_
    simp only [Act.put, List.setIfInBounds_toArray, List.set, Exit.then]
    go_step
    refine wp_ret ?_
    have hld := hx'.loadVar
    refine bodyPost_ret (v := .tuple #[.agg (pgC ys), .int .i64 q]) ?_ rfl ⟨by rw [HQ2.out, HY.out], g'⟩
    rw [results_cell_tmp rfl]
    show ((asAddr (.pointer (some ⟨w.heap.size, 0, none⟩))).run Tryz.prog _).andThen _ = _
    simp only [asAddr, Sem.run_pure, Result.andThen_ok, hld]
    rfl


theorem splice_set1 (zs cs : List Int) (p : Nat) (v : Int) (hp : 1 < p) (hl : p + cs.length ≤ zs.length) : (splice zs p cs).set 1 v = splice (zs.set 1 v) p cs := by
  unfold splice
  rw [List.set_append_left _ _ (by simp; omega), List.take_set, List.drop_set_of_lt (by omega)]

theorem span_set1 (zs : List Int) (s p l : Nat) (v : Int) : (spanSet zs s p l).set 1 v = spanSet (zs.set 1 v) s p l := by
  unfold spanSet
  rw [List.set_comm _ _ (by omega), List.set_comm _ _ (by omega : 2 + 2 * s ≠ 1)]

theorem nb_set0_low (zs : List Int) (v : Int) : nb (zs.set 0 v) 1 = nb zs 1 := nb_set_other 0 1 v (by omega)

theorem aheadP_putP (zs cs : List Int) (h : IsPg zs) (hp : cs.length + 1 < nb zs 1) (h64 : nb zs 1 ≤ 64) : aheadP (zs.set 0 ((putM zs : Nat) : Int)) (putS zs) cs = putP zs cs := by
  unfold aheadP putP
  rw [nb_set0_low, span_set1, splice_set1 _ _ _ _ (by omega) (by rw [List.length_set, h.len]; omega)]


section
variable {base : Nat} {w : World} {g dd : Nat} {xs : List Int}
theorem Gb.setB (h : Gb base w (.slice (some ⟨g, 0, none⟩) 64 dd) xs) (hl : xs.length = 64) (i : Nat) (v : Int) : Gb base (w.setCell ⟨g, i, none⟩ (.int .u8 v)) (.slice (some ⟨g, 0, none⟩) 64 dd) (xs.set i v) := by
  obtain ⟨t, ht, h⟩ := h
  refine ⟨t, ht, ?_⟩
  rw [List.length_set, hl, List.map_set]
  rw [hl] at h
  exact (h.stored i _).1
theorem Gb.atB (h : Gb base w (.slice (some ⟨g, 0, none⟩) 64 dd) xs) (hl : xs.length = 64) (i : Nat) (hi : i < 64) : w.cell? ⟨g, i, none⟩ = some (.int .u8 (byt xs i)) := by
  obtain ⟨t, ht, h⟩ := h
  rw [hl] at h
  rw [h.cellAt i (by omega)]
  simp [byt, List.getD, hl, hi]
theorem Gb.frB (h : Gb base w (.slice (some ⟨g, 0, none⟩) 64 dd) xs) (hl : xs.length = 64) (i : Nat) : w.frozen? ⟨g, i, none⟩ = false := by
  obtain ⟨t, ht, h⟩ := h
  rw [hl] at h
  exact h.frozenAt i
theorem Gb.rdB (h : Gb base w (.slice (some ⟨g, 0, none⟩) 64 dd) xs) : Reads w (some ⟨g, 0, none⟩) xs := by
  obtain ⟨a, c, f, e, hb, _⟩ := h.one
  injection e with e1 e2 e3
  rw [e1]
  exact hb.reads
end
/-- Where a slot tells no place, it tells no length, and so the other way. -/
def EvenP (zs : List Int) : Prop := ∀ t, t < nb zs 0 → (nb zs (2 + 2 * t) = 0 ↔ nb zs (3 + 2 * t) = 0)
theorem EvenP.endB {zs : List Int} (h : EvenP zs) (h0 : 0 < nb zs 0) : endB zs = (nb zs (3 + 2 * (nb zs 0 - 1)) == 0) := by
  have h1 := h (nb zs 0 - 1) (by omega)
  unfold Go.Proofs.YtnfolgoloaeanaaGreat.endB empB
  rw [show decide (0 < nb zs 0) = true by simp; omega]
  by_cases h2 : nb zs (3 + 2 * (nb zs 0 - 1)) = 0
  · simp [h2, h1.2 h2]
  · simp [h2]
theorem nb_less_other {zs : List Int} (i : Nat) (hi : i ≠ 0) : nb (lessP zs) i = nb zs i := by unfold lessP nb byt; simp [List.getD, Ne.symm hi]
theorem EvenP.less {zs : List Int} (h : EvenP zs) (hp : IsPg zs) (h0 : 0 < nb zs 0) : EvenP (lessP zs) := fun t ht => by
  rw [nb_less hp h0] at ht
  rw [nb_less_other _ (by omega), nb_less_other _ (by omega)]
  exact h t (by omega)
theorem EvenP.span {zs : List Int} (h : EvenP zs) (hp : IsPg zs) (hc : nb zs 0 ≤ 16) (s : Nat) (hs : s < 16) : EvenP (spanSet zs s 0 0) := fun t ht => by
  rw [nb_span_head] at ht
  have hl := hp.len
  unfold spanSet nb byt
  by_cases e : t = s
  · subst e
    simp [List.getD, hl, show 2 + 2 * t < 64 by omega, show 3 + 2 * t < 64 by omega]
  · have := h t ht
    unfold nb byt at this
    simp only [List.getD] at this ⊢
    rw [List.getElem?_set_ne (by omega), List.getElem?_set_ne (by omega), List.getElem?_set_ne (by omega), List.getElem?_set_ne (by omega)]
    exact this
theorem evenP_fine {zs : List Int} (h : Fine zs) : EvenP zs := fun t ht => by
  have := h.ok t ht
  unfold wrgS wrongB at this
  simp at this
  omega
def MdPost (zs : List Int) (s : Nat) (w : World) (e : Ending) (w' : World) : Prop := ∃ g dd, e = .returned (.slice (some ⟨g, 0, none⟩) 64 dd) ∧ Below w.heap.size w w' ∧ Gb w.heap.size w' (.slice (some ⟨g, 0, none⟩) 64 dd) (drpP zs s)
def headW (w : World) (g : Nat) : Nat := (intOf ((w.cell? ⟨g, 0, none⟩).getD (.int .u8 0))).toNat

set_option maxRecDepth 20000 in
set_option maxHeartbeats 4000000 in
theorem l2Drop_all (a : Option Addr) (zs : List Int) (c s : Nat) (w : World) (hr : Reads w a zs) (h : Fine zs) (hs : s < 16) :
    Calls Tryz.prog 185 #[.slice a 64 c, .int .i64 s] w fun e w' => MdPost zs s w e w' := by
  have hcp := l2Copy_gen a zs 64 c w h.pg.len (by omega) hr
  go_enter Tryz.func185, Tryz.ntmps185
  go_wp2_with (go_at_call 89; refine hcp.mono ?_)
  rintro e w2 ⟨u, rfl, gB, hu⟩
  obtain ⟨g, dd, hg, hgw⟩ : ∃ g dd, u = .slice (some ⟨g, 0, none⟩) 64 dd ∧ w.heap.size ≤ g := by
    have hu' := hu
    obtain ⟨tt, _, h2'⟩ := hu'
    have h2 := h2'.2
    rw [h.pg.len] at h2
    rcases h2 with ⟨_, h0⟩ | ⟨g, cap, cu, e, h3⟩
    · omega
    · have h4 := (Gb.lt hu g (by rw [e]; rfl)).1
      exact ⟨g, _, e, h4⟩
  subst hg
  have c0 := hu.atB h.pg.len (2 + 2 * s) (by omega)
  have f0 := hu.frB h.pg.len (2 + 2 * s)
  clear hcp
  go_upto_region 3 with (fail)
  have hA1 := hu.setB h.pg.len (2 + 2 * s) 0
  have gB1 := gB.setCell (p := ⟨g, 2 + 2 * s, none⟩) hgw (.int .u8 0)
  have hl1 : (zs.set (2 + 2 * s) 0).length = 64 := by rw [List.length_set]; exact h.pg.len
  clear c0 f0 hu gB
  generalize w2.setCell ⟨g, 2 + 2 * s, none⟩ (.int .u8 0) = V1 at hA1 gB1 ⊢
  have c0 := hA1.atB hl1 (3 + 2 * s) (by omega)
  have f0 := hA1.frB hl1 (3 + 2 * s)
  go_wp2_with fail
  have hA2 : Gb w.heap.size (V1.setCell ⟨g, 3 + 2 * s, none⟩ (.int .u8 0)) (.slice (some ⟨g, 0, none⟩) 64 dd) (spanSet zs s 0 0) := hA1.setB hl1 (3 + 2 * s) 0
  have gB2 := gB1.setCell (p := ⟨g, 3 + 2 * s, none⟩) hgw (.int .u8 0)
  clear c0 f0 hA1 gB1 hl1
  generalize V1.setCell ⟨g, 3 + 2 * s, none⟩ (.int .u8 0) = V2 at hA2 gB2 ⊢
  have hp2 := isPg_span h.pg s 0 0 (by omega) (by omega)
  have hc2 : nb (spanSet zs s 0 0) 0 ≤ 16 := by rw [nb_span_head]; exact h.few
  have he2 := (evenP_fine h).span h.pg h.few s hs
  go_loopw [31] (fun _ wr => ∃ xs : List Int, Gb w.heap.size wr (.slice (some ⟨g, 0, none⟩) 64 dd) xs ∧ IsPg xs ∧ nb xs 0 ≤ 16 ∧ EvenP xs ∧ Below w.heap.size w wr ∧ Hid (drpP zs s = dropEnd xs)) (fun _ wr => headW wr g)
  case atStart => exact ⟨_, hA2, hp2, hc2, he2, gB2, rfl⟩
  case round =>
    clear hA2 hp2 hc2 he2 gB2
    obtain ⟨xs, hA, hp, hc, he, gW, HD⟩ := hrel
    have c0 := hA.atB hp.len 0 (by omega)
    rw [nb_byt hp] at c0
    have hRd := hA.rdB
    obtain ⟨m, hm⟩ : ∃ m, m = nb xs 0 := ⟨_, rfl⟩
    rw [← hm] at c0
    cases m with
    | zero =>
      have HF : Hid (drpP zs s = xs) := HD.out.trans (dropEnd_stop (by unfold endB; rw [← hm]; rfl))
      clear hm
      go_wp2_with fail
      go_ret
      exact ⟨g, dd, rfl, gW, by rw [HF.out]; exact hA⟩
    | succ j =>
      have hj1 : ((j + 1 : Nat) : Int) - 1 = (j : Int) := by omega
      have hj0 : (0 : Int) < ((j + 1 : Nat) : Int) := by omega
      have hE := he.endB (by omega)
      rw [← hm, Nat.add_sub_cancel] at hE
      have HM : Hid (nb xs 0 = j + 1) := hm.symm
      rw [← hm] at hc
      clear hm
      go_wp2_with fail
      refine (l2Size_any (some ⟨g, 0, none⟩) xs dd j wr hRd hp (by omega)).mono ?_
      rintro e w' ⟨rfl, hw'⟩
      subst w'
      clear hRd
      obtain ⟨y, hyy⟩ : ∃ y, y = nb xs (3 + 2 * j) := ⟨_, rfl⟩
      rw [← hyy] at hE ⊢
      clear hyy
      cases y with
      | zero =>
        have hE1 : endB xs = true := by rw [hE]; rfl
        have h0 := endB_pos hE1
        have f0 := hA.frB hp.len 0
        have hlp : lessP xs = xs.set 0 (j : Int) := by unfold lessP; rw [nb_byt hp, HM.out, hj1]
        have HR : Hid (∃ ys : List Int, Gb w.heap.size (wr.setCell ⟨g, 0, none⟩ (.int .u8 (j : Int))) (.slice (some ⟨g, 0, none⟩) 64 dd) ys ∧ IsPg ys ∧ nb ys 0 ≤ 16 ∧ EvenP ys ∧ Below w.heap.size w (wr.setCell ⟨g, 0, none⟩ (.int .u8 (j : Int))) ∧ Hid (drpP zs s = dropEnd ys)) :=
          ⟨lessP xs, by rw [hlp]; exact hA.setB hp.len 0 _, isPg_less hp h0, by rw [nb_less hp h0, HM.out]; omega, he.less hp h0, gW.setCell (p := ⟨g, 0, none⟩) hgw _, HD.out.trans (dropEnd_step hp hE1)⟩
        have HMs : Hid (headW (wr.setCell ⟨g, 0, none⟩ (.int .u8 (j : Int))) g < headW wr g) := by
          show _ < _
          unfold headW
          rw [World.cell?_setCell_same _ _ _ c0, c0]
          simp [intOf]
        clear hE hE1 hlp h0 HD he hp hA gW
        go_wp2_with fail
        go_roundw
        case rel => exact HR.out
        case measure => exact HMs.out
      | succ y =>
        have HF : Hid (drpP zs s = xs) := HD.out.trans (dropEnd_stop (by rw [hE]; rfl))
        clear hE
        go_wp2_with fail
        go_ret
        exact ⟨g, dd, rfl, gW, by rw [HF.out]; exact hA⟩

end Go.Proofs.YtnfolgoloaeanaaGreat

