/-
  The model's PackAll.
-/
import Derived.Test.YtcjkjenebnodbaaIpa
import Derived.Test.YtcjkjenebnodbaaLpo
namespace Go.Proofs.Ytcjkjenebnodbaa
open Go.RowKit
set_option linter.unusedVariables false

theorem paF_all (R : Nat → Rc) : ∀ n, paF R n = 0 → ∀ i, i < n → rcQ (R i) = 0
  | 0, _, i, h => absurd h (Nat.not_lt_zero _)
  | n + 1, h, i, hi => by
    simp only [paF] at h
    split at h
    · rename_i h0
      by_cases e : i = n
      · rw [e]; exact h
      · exact paF_all R n h0 i (by omega)
    · exact absurd h (by assumption)

set_option maxRecDepth 10000 in
set_option maxHeartbeats 4000000 in
theorem specPackAll_any (a : Option Addr) (n c : Nat) (R : Nat → Rc) (D : Nat → Ad) (w : World) (hm : n + szR R n ≤ 1048576) (hzb : Hid (∀ i, i < n → ∀ j, j < (R i).n → ∀ z ∈ (R i).Z j, 0 ≤ z ∧ z ≤ 255)) (hr : RecsRead w a n R D) :
    Calls Try.prog 18 #[.slice a n c] w fun e w' => PaPost w (paQ R n) (paA R n) e w' := by
  have HR : Hid (RecsRead w a n R D) := hr
  have HFt : Hid (∀ i, i < n → ∀ X b o, RunsRead X (D i).a (R i).n (R i).P (D i).A (D i).C (R i).Z → RcO X b o (R i).k (R i).t (R i).g (D i).a (R i).n (D i).c → Calls Try.prog 71 #[.pointer (some ⟨b, o, none⟩)] X fun e w' => e = .returned (.int .i64 (rcQ (R i))) ∧ Below X.heap.size X w') := fun i hi X b o h1 h2 => by
    have h3 := szR_one R i n hi
    refine (l4FaultO_any b o _ _ _ _ _ _ _ _ _ _ X (by omega) (fun j hj => by have := took_one (R i).Z j (R i).n hj; omega) h1 h2).mono ?_
    rintro e w' ⟨h4, q, h5⟩
    exact ⟨h4, by rw [h5]; exact below_draws (Below.refl _ _) _⟩
  have HPk : Hid (∀ i, i < n → rcQ (R i) = 0 → ∀ X b o, RunsRead X (D i).a (R i).n (R i).P (D i).A (D i).C (R i).Z → RcO X b o (R i).k (R i).t (R i).g (D i).a (R i).n (D i).c → Calls Try.prog 72 #[.pointer (some ⟨b, o, none⟩)] X fun e w' => ∃ g d, e = .returned (.slice (some ⟨g, 0, none⟩) (rcB (R i)).length d) ∧ Below X.heap.size X w' ∧ BytesIn X.heap.size w'.heap.size w' (some ⟨g, 0, none⟩) (rcB (R i))) := fun i hi hq X b o h1 h2 => by
    have he : rcB (R i) = packB (R i).k (R i).t (R i).g (R i).n (R i).P (R i).Z := by unfold rcB pkB; rw [if_pos (show recQ (R i).k (R i).t (R i).g (R i).n (R i).P (R i).Z = 0 from hq)]
    rw [he]
    refine (l4PackO_any b o _ _ _ _ _ _ _ _ _ _ X (rec_runs hq (hzb.out i hi)) h1 h2).mono ?_
    rintro e w' ⟨g, d, h3, _, h4, h5⟩
    exact ⟨g, d, h3, h4, h5⟩
  have HAt : Hid (∀ i, i < n → ∃ b off, a = some ⟨b, off, none⟩ ∧ ∀ X, Below w.heap.size w X → RunsRead X (D i).a (R i).n (R i).P (D i).A (D i).C (R i).Z ∧ RcO X b (off + i * 4) (R i).k (R i).t (R i).g (D i).a (R i).n (D i).c) := fun i hi => by
    rcases hr with h | ⟨b, off, ha, hc⟩
    · omega
    · refine ⟨b, off, ha, fun X g => ?_⟩
      obtain ⟨e0, e1, e2, e3, e4⟩ := hc i hi
      have up : ∀ (p : Addr) (v : Value), w.cell? p = some v → X.cell? p = some v := fun p v h => (g.cell (World.block_lt_of_cell? w _ h)).trans h
      exact ⟨e4.below g (Nat.le_refl _), ⟨up _ _ e0, up _ _ e1, up _ _ e2, up _ _ e3⟩⟩
  clear hr hzb
  go_enter Try.func18, Try.ntmps18
  go_upto_region 2 with (fail)
  generalize hY : World.alloc _ _ = Y
  have hA : B2 w Y := by rw [← hY]; exact ⟨by simp [go_sem], by simp [go_sem], by simp [go_sem], by simp [go_sem], by go_grown⟩
  have hG0 : Gb (w.heap.size + 1) Y (.slice (some ⟨w.heap.size + 1, 0, none⟩) 0 0) [] := by
    rw [← hY]
    have h := Gb.lit (w.heap.size + 1) (w.alloc (.cells #[.int .i64 0, .slice none 0 0] 27)) (by simp)
    simp only [World.size_alloc] at h
    exact h
  clear hY
  go_upto_region 3 with (fail)
  go_loopw [4] (fun i wr => ∃ j : Nat, j ≤ n ∧ i = .int .i64 j ∧ Hid (paF R j = 0) ∧ B2 w wr ∧ Gb (w.heap.size + 1) wr (.slice (some ⟨w.heap.size + 1, 0, none⟩) 0 0) []) (fun i _ => n - (intOf i).toNat)
  case atStart => exact ⟨0, Nat.zero_le _, rfl, rfl, hA, hG0⟩
  case round =>
    obtain ⟨j, hj, rfl, hF, hB, hG⟩ := hrel
    clear hA hG0
    by_cases hlt : j < n
    · have hjn : (j : Int) < (n : Int) := by omega
      obtain ⟨b, off, ha, hat⟩ := HAt.out j hlt
      subst ha
      obtain ⟨h1, h2⟩ := hat _ hB.g
      have HC : Hid (Calls Try.prog 71 #[.pointer (some ⟨b, off + j * 4, none⟩)] wr fun e w' => e = .returned (.int .i64 (rcQ (R j))) ∧ Below wr.heap.size wr w') := HFt.out j hlt wr b _ h1 h2
      obtain ⟨q, hq⟩ : ∃ q, q = rcQ (R j) := ⟨_, rfl⟩
      have HQ : Hid (q = rcQ (R j)) := hq
      rw [← hq] at HC
      clear hq h1 h2 hat
      go_wp2_with fail
      refine HC.out.mono ?_
      rintro e w3 ⟨rfl, g3⟩
      have hB := hB.up g3
      have hG := hG.grown g3
      clear g3 HC
      by_cases hq : q = 0
      · subst hq
        have HF2 : Hid (paF R (j + 1) = 0) := by show _ = _; simp only [paF]; rw [hF.out, if_pos rfl, ← HQ.out]
        go_wp2_with fail
        go_roundw
        case rel => exact ⟨j + 1, by omega, by go_num, HF2, hB, hG⟩
        case measure => simp [intOf]; omega
      · have HF2 : Hid (paF R n = q) := by show _ = _; rw [HQ.out]; exact paF_fault R hF.out (by rw [← HQ.out]; exact hq) hlt
        have HQ2 : Hid (paQ R n = q) := by show _ = _; unfold paQ; rw [HF2.out, if_neg hq]
        have HA2 : Hid (paA R n = []) := by show _ = _; unfold paA; rw [HQ2.out, if_neg hq]
        have hs := hB.lt
        have hg := hB.g
        obtain ⟨a0, a1, f0, f1, _⟩ := hB
        go_wp2_with fail
        refine bodyPost_ret (v := .agg #[.int .i64 q, .slice none 0 0]) (by simp [results, Try.results18, go_sem, *]) rfl ?_
        rw [HQ2.out, HA2.out]
        exact ⟨none, 0, rfl, by go_grown, .inl rfl, Nat.le_refl _, by omega⟩
    · have e : j = n := by omega
      subst e
      have HAll : Hid (∀ i, i < j → rcQ (R i) = 0) := paF_all R j hF.out
      go_upto_region 9 with (fail)
      go_loopw [3, 6] (fun v i wr' => ∃ k : Nat, k ≤ j ∧ i = .int .i64 k ∧ B2 w wr' ∧ Gb (w.heap.size + 1) wr' v (paB R k)) (fun _ i _ => j - (intOf i).toNat)
      case atStart => exact ⟨0, Nat.zero_le _, rfl, hB, hG⟩
      case round =>
        obtain ⟨k, hk, rfl, hB, hG⟩ := hrel
        by_cases hlt2 : k < j
        · have hkn : (k : Int) < (j : Int) := by omega
          obtain ⟨b, off, ha, hat⟩ := HAt.out k hlt2
          subst ha
          obtain ⟨h1, h2⟩ := hat _ hB.g
          have HC := HPk.out k hlt2 (HAll.out k hlt2) _ b _ h1 h2
          obtain ⟨us, hus⟩ : ∃ us, us = rcB (R k) := ⟨_, rfl⟩
          have HU : Hid (us = rcB (R k)) := hus
          have hlen := paB_len R k
          have hlen2 := rcB_len (R k)
          have hmono := szR_mono R (k + 1) j hlt2
          have HS : Hid (szR R (k + 1) = szR R k + (R k).n + took (R k).Z (R k).n) := rfl
          have hbl : (paB R k).length + us.length ≤ 100000000 := by have := HS.out; rw [hus]; omega
          rw [← hus] at HC
          obtain ⟨ul, hul⟩ : ∃ ul, us.length = ul := ⟨_, rfl⟩
          have HUl : Hid (us.length = ul) := hul
          rw [hul] at HC
          clear hul hus h1 h2 hat hlen hlen2 hmono
          have hs := hB.lt
          have HC2 : Hid (Calls Try.prog 72 #[.pointer (some ⟨b, off + k * 4, none⟩)] wr fun e w' => ∃ g d, e = .returned (.slice (some ⟨g, 0, none⟩) ul d) ∧ Below wr.heap.size wr w' ∧ BytesIn wr.heap.size w'.heap.size w' (some ⟨g, 0, none⟩) us) := HC
          clear HC
          go_wp2_with fail
          refine HC2.out.mono ?_
          rintro e w3 ⟨g3', d3, rfl, g3, y3⟩
          have hB3 := hB.up g3
          have hG3 := hG.grown g3
          have hs3 := hB3.lt
          have HRd : Hid (Reads w3 (some ⟨g3', 0, none⟩) us) := y3.reads
          clear g3 y3 HC2 hB hG hs
          go_wp2_with (at_builtin; refine wpList_append_bytes _ rfl _ _ rfl (w.heap.size + 1) _ (paB R k) us (some ⟨g3', 0, none⟩) ul d3 rfl rfl HUl.out hG3 HRd.out hbl (by omega) ?_)
          intro v' w6 hG6 hgr6 hat6
          have hB6 := hB3.low (Below.grown (Below.refl (w.heap.size + 1) w3) hgr6 (by omega) (fun q e => (World.ownsRow.lt hG3 q e).1)) (Nat.lt_succ_self _)
          have HG6 : Hid (Gb (w.heap.size + 1) w6 v' (paB R (k + 1))) := by show Gb _ _ _ _; simp only [paB]; rw [← HU.out]; exact hG6
          clear hG3 hG6 hgr6 hat6 hB3
          go_wp2_with fail
          go_roundw
          case rel => exact ⟨k + 1, by omega, by go_num, hB6, HG6.out⟩
          case measure => simp [intOf]; omega
        · have e : k = j := by omega
          subst e
          have hs := hB.lt
          have hg := hB.g
          obtain ⟨p, cp, rfl, hcp, hcm', hBy, _⟩ := hG.shape
          obtain ⟨L, hL⟩ : ∃ L, (paB R k).length = L := ⟨_, rfl⟩
          have HL : Hid ((paB R k).length = L) := hL
          have hlen := paB_len R k
          rw [hL] at hcp hlen ⊢
          clear hL hG
          obtain ⟨a0, a1, f0, f1, _⟩ := hB
          by_cases hbig : 16000 < L
          · have hb : (16000 : Int) < (L : Int) := by omega
            have HQ2 : Hid (paQ R k = 2) := by show _ = _; unfold paQ; rw [hF.out, if_pos rfl, HL.out, if_pos hbig]
            have HA2 : Hid (paA R k = []) := by show _ = _; unfold paA; rw [HQ2.out]; rfl
            go_wp2_with fail
            refine bodyPost_ret (v := .agg #[.int .i64 2, .slice none 0 0]) (by simp [results, Try.results18, go_sem, *]) rfl ?_
            rw [HQ2.out, HA2.out]
            exact ⟨none, 0, rfl, by go_grown, .inl rfl, Nat.le_refl _, by omega⟩
          · have hb : ¬ ((16000 : Int) < (L : Int)) := by omega
            have HQ2 : Hid (paQ R k = 0) := by show _ = _; unfold paQ; rw [hF.out, if_pos rfl, HL.out, if_neg hbig]
            have HA2 : Hid (paA R k = paB R k) := by show _ = _; unfold paA; rw [HQ2.out]; rfl
            have HBy : Hid (BytesIn (w.heap.size + 1) wr.heap.size wr p (paB R k)) := hBy
            clear hBy
            go_wp2_with fail
            refine bodyPost_ret (v := .agg #[.int .i64 0, .slice p L cp]) (by simp [results, Try.results18, go_sem, *]) rfl ?_
            rw [HQ2.out, HA2.out]
            refine ⟨p, cp, by rw [HL.out], by go_grown, ?_, by rw [HL.out]; exact hcp, hcm'⟩
            have T : Turned w.heap.size (w.heap.size + 1) wr _ := ((Turned.refl _ _ wr).setCell (p := ⟨w.heap.size, 0, none⟩) (by simp) (by simp) (.int .i64 0)).setCell (p := ⟨w.heap.size, 1, none⟩) (by simp) (by simp) (.slice p L cp)
            exact (HBy.out.turned T (.inr (Nat.le_refl _))).mono (by omega) (by simp)

end Go.Proofs.Ytcjkjenebnodbaa
