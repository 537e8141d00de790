/-
  Plain facts: what cells a page has behind a cell was laid; a compacted page has no fault and the same cells.
-/
import Derived.Test.YtdgonddimenmdaaGreatQKep
import Derived.Test.YtdgonddimenmdaaGreatQLpo

namespace Go.Proofs.YtdgonddimenmdaaGreat
set_option maxRecDepth 20000
set_option linter.unusedVariables false

theorem byt_cell (zs : List Int) (s i : Nat) (hi : i < ln zs s) : byt (cellOf zs s) i = byt zs (pl zs s + i) := by
  unfold cellOf byt
  simp [List.getD, List.getElem?_drop, hi]

theorem cell_len (zs : List Int) (s : Nat) (hz : zs.length = 64) (h : pl zs s + ln zs s ≤ 64) : (cellOf zs s).length = ln zs s := by
  simp only [pl, ln] at h ⊢
  unfold cellOf
  simp [hz]
  omega

theorem cell_ext {zs ys : List Int} {s : Nat} (hz : zs.length = 64) (hy : ys.length = 64) (hp : pl ys s = pl zs s) (hl : ln ys s = ln zs s) (hr : pl zs s + ln zs s ≤ 64) (he : ∀ i, pl zs s ≤ i → i < pl zs s + ln zs s → byt ys i = byt zs i) : cellOf ys s = cellOf zs s := by
  apply byt_ext
  · rw [cell_len ys s hy (by omega), cell_len zs s hz hr, hl]
  · intro i hi
    rw [cell_len ys s hy (by omega), hl] at hi
    rw [byt_cell ys s i (by omega), byt_cell zs s i hi, hp]
    exact he _ (by omega) (by omega)

theorem stand_len (zs cs : List Int) (m low s q : Nat) (hz : zs.length = 64) (hl : q + cs.length ≤ 64) : (stand zs cs m low s q).length = 64 := by
  simp [stand, spanSet, splice, hz]
  omega

theorem stand_self (zs cs : List Int) (m low s q : Nat) (hz : zs.length = 64) (hl : q + cs.length ≤ 64) (hs : s < 30) (hq : 2 + 2 * s + 2 ≤ q) : cellOf (stand zs cs m low s q) s = cs := by
  have S := stood zs cs m low s q hz hl hs hq
  apply byt_ext
  · rw [cell_len _ s (stand_len zs cs m low s q hz hl) (by rw [S.hp, S.hl]; exact hl), S.hl]
  · intro i hi
    rw [cell_len _ s (stand_len zs cs m low s q hz hl) (by rw [S.hp, S.hl]; exact hl), S.hl] at hi
    rw [byt_cell _ s i (by rw [S.hl]; exact hi), S.hp, byt_stand zs cs m low s q _ hz hl hs, if_neg (by omega), if_neg (by omega), if_pos (by omega), show q + i - q = i by omega]

theorem stand_other (zs cs : List Int) (m low s q j : Nat) (hz : zs.length = 64) (hl : q + cs.length ≤ 64) (hs : s < 30) (hq : 2 + 2 * s + 2 ≤ q) (hj : j ≠ s) (hjq : 3 + 2 * j < q) (hr : pl zs j + ln zs j ≤ 64) (hd : 2 + 2 * s + 2 ≤ pl zs j) (h2 : 2 ≤ pl zs j) (ha : pl zs j + ln zs j ≤ q ∨ q + cs.length ≤ pl zs j) : cellOf (stand zs cs m low s q) j = cellOf zs j := by
  have S := stood zs cs m low s q hz hl hs hq
  refine cell_ext hz (stand_len zs cs m low s q hz hl) (S.op j hj (by omega)) (S.ol j hj hjq) hr (fun i h1 h2 => ?_)
  rw [byt_stand zs cs m low s q _ hz hl hs, if_neg (by omega), if_neg (by omega), if_neg (by omega), if_neg (by omega), if_neg (by omega)]

theorem set0_self {zs : List Int} (h : IsPg zs) : zs.set 0 ((nb zs 0 : Nat) : Int) = zs := by
  apply byt_ext (by simp)
  intro i hi
  rw [byt_set _ _ _ _ (by rw [h.len]; omega)]
  split
  · rename_i e; rw [e, nb_byt h]
  · rfl

theorem ahead_stand (zs cs : List Int) (s : Nat) (h : IsPg zs) (hp : cs.length + 1 < nb zs 1) (h64 : nb zs 1 ≤ 64) : aheadP zs s cs = stand zs cs (nb zs 0) (nb zs 1 - cs.length) s (nb zs 1 - cs.length) := by
  unfold aheadP stand
  rw [set0_self h, span_set1, splice_set1 _ _ _ _ (by omega) (by rw [h.len]; omega)]

theorem lens_mono (zs : List Int) (k : Nat) : ∀ m, lens zs k ≤ lens zs (k + m)
  | 0 => Nat.le_refl _
  | m + 1 => by rw [← Nat.add_assoc, lens]; have := lens_mono zs k m; omega
theorem lens_up (zs : List Int) {k m : Nat} (h : k ≤ m) : lens zs k ≤ lens zs m := by have := lens_mono zs k (m - k); rwa [show k + (m - k) = m by omega] at this

/-- What the compacted page is behind k slots. -/
structure CpT (zs : List Int) (k : Nat) : Prop where
  h0 : nb (cpP zs k) 0 = nb zs 0
  used : ∀ j, j < k → empB zs j = false → pl (cpP zs k) j = 64 - lens zs (j + 1) ∧ ln (cpP zs k) j = ln zs j ∧ cellOf (cpP zs k) j = cellOf zs j
  emp : ∀ j, j < nb zs 0 → (k ≤ j ∨ empB zs j = true) → pl (cpP zs k) j = 0 ∧ ln (cpP zs k) j = 0

theorem emp_ln {zs : List Int} (h : Fine zs) {s : Nat} (hs : s < nb zs 0) (he : empB zs s = false) : ln zs s ≠ 0 := by
  rcases h.place s hs with hp | hp
  · unfold empB at he
    simp [hp.1, hp.2] at he
  · exact hp.2.1
theorem emp_zero {zs : List Int} {s : Nat} (he : empB zs s = true) : pl zs s = 0 ∧ ln zs s = 0 := by simpa [empB] using he

theorem cps_all {zs : List Int} (h : Fine zs) : ∀ k, k ≤ nb zs 0 → CpT zs k
  | 0, _ => by
    have hl : (filled 0 0).length = 64 := by simp [filled]
    have B : ∀ i, byt (cpP zs 0) i = if i = 1 then 64 else if i = 0 then byt zs 0 else 0 := fun i => by
      rw [cpP, byt_set _ _ _ _ (by rw [List.length_set, hl]; omega), byt_set _ _ _ _ (by rw [hl]; omega), byt_filled]
    have z : ∀ i, 2 ≤ i → nb (cpP zs 0) i = 0 := fun i hi => nb_nat (by rw [B, if_neg (by omega), if_neg (by omega)]; rfl)
    exact ⟨nb_of_byt (by rw [B, if_neg (by omega), if_pos rfl]), fun j hj => absurd hj (Nat.not_lt_zero _), fun j hj _ => ⟨z _ (by omega), z _ (by omega)⟩⟩
  | k + 1, hk => by
    have ih := cps_all h k (by omega)
    have hb := both_all h k (by omega)
    have hsum := h.sum
    have hfew := h.few
    have hm := lens_up zs hk
    cases he : empB zs k
    · have hlk : lens zs (k + 1) = lens zs k + ln zs k := rfl
      have hcl : (cellOf zs k).length = ln zs k := cellOf_length h k (by omega)
      have hlow := hb.low
      have hnz := emp_ln h (show k < nb zs 0 by omega) he
      have e : cpP zs (k + 1) = stand (cpP zs k) (cellOf zs k) (nb zs 0) (64 - lens zs (k + 1)) k (64 - lens zs (k + 1)) := by
        rw [cpP, he, if_neg (by simp), ahead_stand _ _ _ hb.pg (by rw [hcl, hlow]; omega) (by rw [hlow]; omega), ih.h0, hlow, hcl, show 64 - lens zs k - ln zs k = 64 - lens zs (k + 1) by omega]
      have S := stood (cpP zs k) (cellOf zs k) (nb zs 0) (64 - lens zs (k + 1)) k (64 - lens zs (k + 1)) hb.pg.len (by rw [hcl]; omega) (by omega) (by omega)
      refine ⟨by rw [e]; exact S.h0, fun j hj hje => ?_, fun j hj hje => ?_⟩
      · rw [e]
        by_cases ej : j = k
        · subst ej
          refine ⟨S.hp, by rw [S.hl, hcl], ?_⟩
          exact stand_self _ _ _ _ _ _ hb.pg.len (by rw [hcl]; omega) (by omega) (by omega)
        · obtain ⟨u1, u2, u3⟩ := ih.used j (by omega) hje
          have hmj := lens_up zs (show j + 1 ≤ k by omega)
          have hlj : lens zs (j + 1) = lens zs j + ln zs j := rfl
          refine ⟨by rw [S.op j ej (by omega)]; exact u1, by rw [S.ol j ej (by omega)]; exact u2, ?_⟩
          rw [stand_other _ _ _ _ _ _ j hb.pg.len (by rw [hcl]; omega) (by omega) (by omega) ej (by omega) (by rw [u1, u2]; omega) (by rw [u1]; omega) (by rw [u1]; omega) (.inr (by rw [u1, hcl]; omega))]
          exact u3
      · have ej : j ≠ k := by
          intro ee
          rcases hje with h1 | h1
          · omega
          · rw [ee, he] at h1; cases h1
        rw [e, S.op j ej (by omega), S.ol j ej (by omega)]
        exact ih.emp j hj (by rcases hje with h1 | h1; exact .inl (by omega); exact .inr h1)
    · have e : cpP zs (k + 1) = cpP zs k := by rw [cpP, he, if_pos rfl]
      refine ⟨by rw [e]; exact ih.h0, fun j hj hje => ?_, fun j hj hje => ?_⟩
      · have ej : j ≠ k := by intro ej; rw [ej, he] at hje; cases hje
        rw [e]
        exact ih.used j (by omega) hje
      · rw [e]
        refine ih.emp j hj ?_
        rcases hje with h1 | h1
        · exact .inl (by omega)
        · exact .inr h1

theorem fine_compact {zs : List Int} (h : Fine zs) : Fine (cpP zs (nb zs 0)) := by
  have C := cps_all h (nb zs 0) (Nat.le_refl _)
  have hb := both_all h (nb zs 0) (Nat.le_refl _)
  have hsum := h.sum
  have hfew := h.few
  have hlow := hb.low
  have hd := h.dirs
  refine Dirs.fine ⟨hb.pg, by rw [C.h0]; exact hfew, by rw [C.h0, hlow]; omega, by rw [hlow]; omega, fun j hj => ?_, fun i k hk hi li lk => ?_, fun h0 => ?_⟩
  · rw [C.h0] at hj
    have hm := lens_up zs (show j + 1 ≤ nb zs 0 by omega)
    cases he : empB zs j
    · obtain ⟨u1, u2, _⟩ := C.used j hj he
      have hlj : lens zs (j + 1) = lens zs j + ln zs j := rfl
      have hnz := emp_ln h hj he
      rw [u1, u2, hlow]
      omega
    · exact .inl (C.emp j hj (.inr he))
  · rw [C.h0] at hi
    have hei : empB zs i = false := by
      cases he : empB zs i
      · rfl
      · exact absurd (C.emp i hi (.inr he)).2 li
    have hek : empB zs k = false := by
      cases he : empB zs k
      · rfl
      · exact absurd (C.emp k (by omega) (.inr he)).2 lk
    obtain ⟨u1, u2, _⟩ := C.used i hi hei
    obtain ⟨v1, v2, _⟩ := C.used k (by omega) hek
    have hm := lens_up zs (show k + 1 ≤ i by omega)
    have hm2 := lens_up zs (show i + 1 ≤ nb zs 0 by omega)
    have hli : lens zs (i + 1) = lens zs i + ln zs i := rfl
    have hlk : lens zs (k + 1) = lens zs k + ln zs k := rfl
    rw [u1, u2, v1, v2]
    omega
  · rw [C.h0] at h0 ⊢
    have hl := hd.last h0
    have he : empB zs (nb zs 0 - 1) = false := by
      cases he : empB zs (nb zs 0 - 1)
      · rfl
      · exact absurd (emp_zero he).2 hl
    rw [(C.used _ (by omega) he).2.1]
    exact hl

end Go.Proofs.YtdgonddimenmdaaGreat

/-
  The contract of the model's l2Set: a code, or a page without a fault.
-/
namespace Go.Proofs.YtdgonddimenmdaaGreat
set_option maxRecDepth 20000
open Go.RowKit
set_option linter.unusedVariables false

/-- What a function that may answer a page without a fault answers: a code behind it, or the page. -/
def PgOr (w : World) (e : Ending) (w' : World) : Prop :=
  Below w.heap.size w w' ∧ ((∃ q : Int, q ≠ 0 ∧ e = .returned (.tuple #[.slice none 0 0, .int .i64 q])) ∨ ∃ g dd ys, e = .returned (.tuple #[.slice (some ⟨g, 0, none⟩) 64 dd, .int .i64 0]) ∧ 64 ≤ dd ∧ w.heap.size ≤ g ∧ Sl64 w' g ys ∧ Fine ys)

set_option maxHeartbeats 4000000 in
theorem l2Set_any (a : Option Addr) (zs cs : List Int) (c s sb so n d : Nat) (w : World) (hr : Reads w a zs) (h : Fine zs) (hs : s < nb zs 0) (he : empB zs s = false) (hn : cs.length = n) (h1 : 1 ≤ n) (h64 : n ≤ 64) (hb : ∀ z ∈ cs, 0 ≤ z ∧ z ≤ 255) (hcell : Reads w (some ⟨sb, so, none⟩) cs) :
    Calls Tryz.prog 90 #[.slice a 64 c, .int .i64 s, .slice (some ⟨sb, so, none⟩) n d] w (PgOr w) := by
  have hd := h.dirs
  have hfew := h.few
  have hlz := emp_ln h hs he
  have hpl := hd.place s hs
  have hlow := hd.low
  have hdir := hd.dir
  obtain ⟨l, hl⟩ : ∃ l, l = nb zs (3 + 2 * s) := ⟨_, rfl⟩
  obtain ⟨p, hp⟩ : ∃ p, p = nb zs (2 + 2 * s) := ⟨_, rfl⟩
  have HL : Hid (nb zs (3 + 2 * s) = l) := hl.symm
  have HP : Hid (nb zs (2 + 2 * s) = p) := hp.symm
  simp only [pl, ln] at hlz hpl
  rw [← hl] at hlz hpl
  rw [← hp] at hpl
  have HNl : Hid (cs.length = n) := hn
  have hs16 : s < 16 := by omega
  by_cases hle : n ≤ l
  · have HF : Hid (Fine (spanSet (splice zs (p + l - n) cs) s (p + l - n) n)) := by
      have hF := (dirs_inner (s := s) hd hb (by omega) hs (by simp only [ln]; omega) (by simp only [ln]; omega)).fine
      have e1 : (zs.set 0 ((nb zs 0 : Nat) : Int)).set 1 ((nb zs 1 : Nat) : Int) = zs := by
        rw [set0_self h.pg]
        apply byt_ext (by simp)
        intro i hi
        rw [byt_set _ _ _ _ (by rw [h.pg.len]; omega)]
        split
        · rename_i e; rw [e, nb_byt h.pg]
        · rfl
      unfold stand at hF
      rw [e1] at hF
      simp only [pl, ln] at hF
      rw [HL.out, HP.out, hn] at hF
      exact hF
    have dle : (n : Int) ≤ (l : Int) := by omega
    have e2 : (p : Int) + (l : Int) - (n : Int) = ((p + l - n : Nat) : Int) := by omega
    clear hl hp hd hn
    go_enter Tryz.func90, Tryz.ntmps90
    go_wp2_with fail
    refine (l2Size_any a zs c s _ hr h.pg (by omega)).mono ?_
    rintro e w' ⟨rfl, hw'⟩
    subst w'
    rw [HL.out]
    go_wp2_with fail
    refine (l2Copy_any a zs c _ hr h.pg.len).mono ?_
    rintro e w2 ⟨g, dd, rfl, hdd, gB, hgw, hA⟩
    have hsrc := hcell.below gB (Nat.le_refl _)
    go_wp2_with fail
    refine (l2Place_any a zs c s _ (hr.below gB (Nat.le_refl _)) h.pg (by omega)).mono ?_
    rintro e w' ⟨rfl, hw'⟩
    subst w'
    rw [HP.out]
    go_wp2_with fail
    refine (l2Stand_any g dd s (p + l - n) n sb so d _ cs _ hA hdd HNl.out h1 (by omega) (by omega) hsrc).mono ?_
    rintro e w9 ⟨rfl, ht9, hA9⟩
    have gB9 := gB.trans (ht9.toBelow gB.size hgw)
    clear ht9 hA gB hsrc
    go_wp2_with fail
    go_ret2
    exact ⟨gB9, .inr ⟨g, dd, _, rfl, hdd, hgw, hA9, HF.out⟩⟩
  · have dle : ¬ (n : Int) ≤ (l : Int) := by omega
    obtain ⟨f, hf⟩ : ∃ f, f = freeN zs := ⟨_, rfl⟩
    have HFr : Hid (freeN zs = f) := hf.symm
    have hf64 : f ≤ 64 := by rw [hf]; unfold freeN; omega
    obtain ⟨k, hk⟩ : ∃ k, k = nb zs 0 := ⟨_, rfl⟩
    obtain ⟨lo, hlo⟩ : ∃ lo, lo = nb zs 1 := ⟨_, rfl⟩
    have HK : Hid (nb zs 0 = k) := hk.symm
    have HLo : Hid (nb zs 1 = lo) := hlo.symm
    have HFn : Hid (2 + 2 * k + n ≤ lo → Fine (spanSet (splice (zs.set 1 ((lo - n : Nat) : Int)) (lo - n) cs) s (lo - n) n)) := fun hroom => by
      have hF := (dirs_ahead (m := nb zs 0) (s := s) hd hb (by omega) hfew hs (.inl rfl) (by omega)).fine
      unfold stand at hF
      rw [set0_self h.pg, hn, ← hlo] at hF
      exact hF
    rw [← hk] at hfew hdir hs
    rw [← hlo] at hlow hdir hpl
    clear hl hp hd hn hf hk hlo
    go_enter Tryz.func90, Tryz.ntmps90
    go_wp2_with fail
    refine (l2Size_any a zs c s _ hr h.pg (by omega)).mono ?_
    rintro e w' ⟨rfl, hw'⟩
    subst w'
    rw [HL.out]
    go_wp2_with fail
    refine (l2Copy_any a zs c _ hr h.pg.len).mono ?_
    rintro e w2 ⟨g, dd, rfl, hdd, gB, hgw, hA⟩
    have hsrc := hcell.below gB (Nat.le_refl _)
    have hr2 := hr.below gB (Nat.le_refl _)
    go_wp2_with fail
    refine (l2Free_any a zs c _ hr2 h).mono ?_
    rintro e w' ⟨rfl, hw'⟩
    subst w'
    rw [HFr.out]
    by_cases hfl : (f : Int) + (l : Int) < (n : Int)
    · go_wp2_with fail
      go_ret2
      exact ⟨gB, .inl ⟨9, by decide, rfl⟩⟩
    · go_wp2_with fail
      refine (l2Low_any a zs c _ hr2 h.pg).mono ?_
      rintro e w' ⟨rfl, hw'⟩
      subst w'
      rw [HLo.out]
      go_wp2_with fail
      refine (l2Count_any a zs c _ hr2 h.pg).mono ?_
      rintro e w' ⟨rfl, hw'⟩
      subst w'
      rw [HK.out]
      by_cases hlw : (lo : Int) - (n : Int) < 2 + 2 * (k : Int)
      · go_wp2_with fail
        go_ret2
        exact ⟨gB, .inl ⟨8, by decide, rfl⟩⟩
      · obtain ⟨q, hq⟩ : ∃ q, lo = q + n := ⟨lo - n, by omega⟩
        have HF := HFn.out (by omega)
        rw [hq, Nat.add_sub_cancel] at HF
        have HF : Hid (Fine (spanSet (splice (zs.set 1 (q : Int)) q cs) s q n)) := HF
        have hpn : (lo : Int) - (n : Int) = (q : Int) := by omega
        have c0 := hA.cell 1 (by omega)
        have f0 := hA.frozen 1
        have hq255 : q ≤ 64 := by omega
        clear hq
        go_upto_region 12 with (fail)
        have hA1 := hA.set 1 (by omega) (q : Int)
        have gB1 := gB.setCell (p := ⟨g, 1, none⟩) hgw (.int .u8 (q : Int))
        have hsr1 : Reads (w2.setCell ⟨g, 1, none⟩ (.int .u8 (q : Int))) (some ⟨sb, so, none⟩) cs := hcell.below gB1 (Nat.le_refl _)
        clear c0 f0 hA gB hsrc hr2
        generalize w2.setCell ⟨g, 1, none⟩ (.int .u8 (q : Int)) = V1 at hA1 gB1 hsr1 ⊢
        go_wp2_with fail
        refine (l2Stand_any g dd s q n sb so d _ cs _ hA1 hdd HNl.out h1 (by omega) (by omega) hsr1).mono ?_
        rintro e w9 ⟨rfl, ht9, hA9⟩
        have gB9 := gB1.trans (ht9.toBelow gB1.size hgw)
        clear ht9 hA1 gB1 hsr1
        go_wp2_with fail
        go_ret2
        exact ⟨gB9, .inr ⟨g, dd, _, rfl, hdd, hgw, hA9, HF.out⟩⟩

end Go.Proofs.YtdgonddimenmdaaGreat
