/-
  The contract of the model's l2Set: a code, or a page without a fault.
-/
import Derived.Test.YtpoccjlngbdjlaaQDKec
import Derived.Test.YtpoccjlngbdjlaaQDLpo

namespace Go.Proofs.Ytpoccjlngbdjlaa.Dr
open Go.RowKit
set_option linter.unusedVariables false

/-- What a function that may answer a page without a fault answers: a code behind it, or the page. -/
def PgOr (w : World) (e : Ending) (w' : World) : Prop :=
  Below w.heap.size w w' ∧ ((∃ q : Int, q ≠ 0 ∧ e = .returned (.tuple #[.slice none 0 0, .int .i64 q])) ∨ ∃ g dd ys, e = .returned (.tuple #[.slice (some ⟨g, 0, none⟩) 64 dd, .int .i64 0]) ∧ 64 ≤ dd ∧ w.heap.size ≤ g ∧ Sl64 w' g ys ∧ Fine ys)

set_option maxHeartbeats 4000000 in
theorem l2Set_any (a : Option Addr) (zs cs : List Int) (c s sb so n d : Nat) (w : World) (hr : Reads w a zs) (h : Fine zs) (hs : s < nb zs 0) (he : empB zs s = false) (hn : cs.length = n) (h1 : 1 ≤ n) (h64 : n ≤ 64) (hb : ∀ z ∈ cs, 0 ≤ z ∧ z ≤ 255) (hcell : Reads w (some ⟨sb, so, none⟩) cs) :
    Calls Try.prog 66 #[.slice a 64 c, .int .i64 s, .slice (some ⟨sb, so, none⟩) n d] w (PgOr w) := by
  have hd := h.dirs
  have hfew := h.few
  have hlz := emp_ln h hs he
  have hpl := hd.place s hs
  have hlow := hd.low
  have hdir := hd.dir
  obtain ⟨l, hl⟩ : ∃ l, l = nb zs (3 + 2 * s) := ⟨_, rfl⟩
  obtain ⟨p, hp⟩ : ∃ p, p = nb zs (2 + 2 * s) := ⟨_, rfl⟩
  have HL : Hid (nb zs (3 + 2 * s) = l) := hl.symm
  have HP : Hid (nb zs (2 + 2 * s) = p) := hp.symm
  simp only [pl, ln] at hlz hpl
  rw [← hl] at hlz hpl
  rw [← hp] at hpl
  have HNl : Hid (cs.length = n) := hn
  have hs16 : s < 16 := by omega
  by_cases hle : n ≤ l
  · have HF : Hid (Fine (spanSet (splice zs (p + l - n) cs) s (p + l - n) n)) := by
      have hF := (dirs_inner (s := s) hd hb (by omega) hs (by simp only [ln]; omega) (by simp only [ln]; omega)).fine
      have e1 : (zs.set 0 ((nb zs 0 : Nat) : Int)).set 1 ((nb zs 1 : Nat) : Int) = zs := by
        rw [set0_self h.pg]
        apply byt_ext (by simp)
        intro i hi
        rw [byt_set _ _ _ _ (by rw [h.pg.len]; omega)]
        split
        · rename_i e; rw [e, nb_byt h.pg]
        · rfl
      unfold stand at hF
      rw [e1] at hF
      simp only [pl, ln] at hF
      rw [HL.out, HP.out, hn] at hF
      exact hF
    have dle : (n : Int) ≤ (l : Int) := by omega
    have e2 : (p : Int) + (l : Int) - (n : Int) = ((p + l - n : Nat) : Int) := by omega
    clear hl hp hd hn
    go_enter Try.func66, Try.ntmps66
    go_wp2_with fail
    refine (l2Size_any a zs c s _ hr h.pg (by omega)).mono ?_
    rintro e w' ⟨rfl, hw'⟩
    subst w'
    rw [HL.out]
    go_wp2_with fail
    refine (l2Copy_any a zs c _ hr h.pg.len).mono ?_
    rintro e w2 ⟨g, dd, rfl, hdd, gB, hgw, hA⟩
    have hsrc := hcell.below gB (Nat.le_refl _)
    go_wp2_with fail
    refine (l2Place_any a zs c s _ (hr.below gB (Nat.le_refl _)) h.pg (by omega)).mono ?_
    rintro e w' ⟨rfl, hw'⟩
    subst w'
    rw [HP.out]
    go_wp2_with fail
    refine (l2Stand_any g dd s (p + l - n) n sb so d _ cs _ hA hdd HNl.out h1 (by omega) (by omega) hsrc).mono ?_
    rintro e w9 ⟨rfl, ht9, hA9⟩
    have gB9 := gB.trans (ht9.toBelow gB.size hgw)
    clear ht9 hA gB hsrc
    go_wp2_with fail
    go_ret2
    exact ⟨gB9, .inr ⟨g, dd, _, rfl, hdd, hgw, hA9, HF.out⟩⟩
  · have dle : ¬ (n : Int) ≤ (l : Int) := by omega
    obtain ⟨f, hf⟩ : ∃ f, f = freeN zs := ⟨_, rfl⟩
    have HFr : Hid (freeN zs = f) := hf.symm
    have hf64 : f ≤ 64 := by rw [hf]; unfold freeN; omega
    obtain ⟨k, hk⟩ : ∃ k, k = nb zs 0 := ⟨_, rfl⟩
    obtain ⟨lo, hlo⟩ : ∃ lo, lo = nb zs 1 := ⟨_, rfl⟩
    have HK : Hid (nb zs 0 = k) := hk.symm
    have HLo : Hid (nb zs 1 = lo) := hlo.symm
    have HFn : Hid (2 + 2 * k + n ≤ lo → Fine (spanSet (splice (zs.set 1 ((lo - n : Nat) : Int)) (lo - n) cs) s (lo - n) n)) := fun hroom => by
      have hF := (dirs_ahead (m := nb zs 0) (s := s) hd hb (by omega) hfew hs (.inl rfl) (by omega)).fine
      unfold stand at hF
      rw [set0_self h.pg, hn, ← hlo] at hF
      exact hF
    rw [← hk] at hfew hdir hs
    rw [← hlo] at hlow hdir hpl
    clear hl hp hd hn hf hk hlo
    go_enter Try.func66, Try.ntmps66
    go_wp2_with fail
    refine (l2Size_any a zs c s _ hr h.pg (by omega)).mono ?_
    rintro e w' ⟨rfl, hw'⟩
    subst w'
    rw [HL.out]
    go_wp2_with fail
    refine (l2Copy_any a zs c _ hr h.pg.len).mono ?_
    rintro e w2 ⟨g, dd, rfl, hdd, gB, hgw, hA⟩
    have hsrc := hcell.below gB (Nat.le_refl _)
    have hr2 := hr.below gB (Nat.le_refl _)
    go_wp2_with fail
    refine (l2Free_any a zs c _ hr2 h).mono ?_
    rintro e w' ⟨rfl, hw'⟩
    subst w'
    rw [HFr.out]
    by_cases hfl : (f : Int) + (l : Int) < (n : Int)
    · go_wp2_with fail
      go_ret2
      exact ⟨gB, .inl ⟨9, by decide, rfl⟩⟩
    · go_wp2_with fail
      refine (l2Low_any a zs c _ hr2 h.pg).mono ?_
      rintro e w' ⟨rfl, hw'⟩
      subst w'
      rw [HLo.out]
      go_wp2_with fail
      refine (l2Count_any a zs c _ hr2 h.pg).mono ?_
      rintro e w' ⟨rfl, hw'⟩
      subst w'
      rw [HK.out]
      by_cases hlw : (lo : Int) - (n : Int) < 2 + 2 * (k : Int)
      · go_wp2_with fail
        go_ret2
        exact ⟨gB, .inl ⟨8, by decide, rfl⟩⟩
      · obtain ⟨q, hq⟩ : ∃ q, lo = q + n := ⟨lo - n, by omega⟩
        have HF := HFn.out (by omega)
        rw [hq, Nat.add_sub_cancel] at HF
        have HF : Hid (Fine (spanSet (splice (zs.set 1 (q : Int)) q cs) s q n)) := HF
        have hpn : (lo : Int) - (n : Int) = (q : Int) := by omega
        have c0 := hA.cell 1 (by omega)
        have f0 := hA.frozen 1
        have hq255 : q ≤ 64 := by omega
        clear hq
        go_upto_region 12 with (fail)
        have hA1 := hA.set 1 (by omega) (q : Int)
        have gB1 := gB.setCell (p := ⟨g, 1, none⟩) hgw (.int .u8 (q : Int))
        have hsr1 : Reads (w2.setCell ⟨g, 1, none⟩ (.int .u8 (q : Int))) (some ⟨sb, so, none⟩) cs := hcell.below gB1 (Nat.le_refl _)
        clear c0 f0 hA gB hsrc hr2
        generalize w2.setCell ⟨g, 1, none⟩ (.int .u8 (q : Int)) = V1 at hA1 gB1 hsr1 ⊢
        go_wp2_with fail
        refine (l2Stand_any g dd s q n sb so d _ cs _ hA1 hdd HNl.out h1 (by omega) (by omega) hsr1).mono ?_
        rintro e w9 ⟨rfl, ht9, hA9⟩
        have gB9 := gB1.trans (ht9.toBelow gB1.size hgw)
        clear ht9 hA1 gB1 hsr1
        go_wp2_with fail
        go_ret2
        exact ⟨gB9, .inr ⟨g, dd, _, rfl, hdd, hgw, hA9, HF.out⟩⟩

end Go.Proofs.Ytpoccjlngbdjlaa.Dr
