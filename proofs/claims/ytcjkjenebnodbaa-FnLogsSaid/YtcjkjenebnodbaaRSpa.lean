/-
  The model's PackAll.
-/
import Derived.Test.YtcjkjenebnodbaaRTpl
import Derived.Test.YtcjkjenebnodbaaRLpo
import Derived.Test.YtcjkjenebnodbaaRBna
import Derived.Test.YtcjkjenebnodbaaRRcm
import Derived.Test.YtcjkjenebnodbaaRPbk
import Derived.Test.YtcjkjenebnodbaaRIap
import Derived.Test.YtcjkjenebnodbaaRSap

namespace Go.Proofs.Ytcjkjenebnodbaa
open Go.RowKit
set_option linter.unusedVariables false

theorem paF_all (R : Nat → Rc) : ∀ n, paF R n = 0 → ∀ i, i < n → rcQ (R i) = 0
  | 0, _, i, h => absurd h (Nat.not_lt_zero _)
  | n + 1, h, i, hi => by
    simp only [paF] at h
    split at h
    · rename_i h0
      by_cases e : i = n
      · rw [e]; exact h
      · exact paF_all R n h0 i (by omega)
    · exact absurd h (by assumption)

set_option maxRecDepth 10000 in
set_option maxHeartbeats 4000000 in
theorem specPackAll_any (a : Option Addr) (n c : Nat) (R : Nat → Rc) (D : Nat → Ad) (w : World) (hm : n + szR R n ≤ 1048576) (hzb : Hid (∀ i, i < n → ∀ j, j < (R i).n → ∀ z ∈ (R i).Z j, 0 ≤ z ∧ z ≤ 255)) (hr : RecsRead w a n R D) :
    Calls Try.prog 18 #[.slice a n c] w fun e w' => PaPost w (paQ R n) (paA R n) e w' := by
  have HR : Hid (RecsRead w a n R D) := hr
  have HFt : Hid (∀ i, i < n → ∀ X b o, RunsRead X (D i).a (R i).n (R i).P (D i).A (D i).C (R i).Z → RcO X b o (R i).k (R i).t (R i).g (D i).a (R i).n (D i).c → Calls Try.prog 71 #[.pointer (some ⟨b, o, none⟩)] X fun e w' => e = .returned (.int .i64 (rcQ (R i))) ∧ Below X.heap.size X w') := fun i hi X b o h1 h2 => by
    have h3 := szR_one R i n hi
    refine (l4FaultO_any b o _ _ _ _ _ _ _ _ _ _ X (by omega) (fun j hj => by have := took_one (R i).Z j (R i).n hj; omega) h1 h2).mono ?_
    rintro e w' ⟨h4, q, h5⟩
    exact ⟨h4, by rw [h5]; exact below_draws (Below.refl _ _) _⟩
  have HPk : Hid (∀ i, i < n → rcQ (R i) = 0 → ∀ X b o, RunsRead X (D i).a (R i).n (R i).P (D i).A (D i).C (R i).Z → RcO X b o (R i).k (R i).t (R i).g (D i).a (R i).n (D i).c → Calls Try.prog 72 #[.pointer (some ⟨b, o, none⟩)] X fun e w' => ∃ g d, e = .returned (.slice (some ⟨g, 0, none⟩) (rcB (R i)).length d) ∧ Below X.heap.size X w' ∧ BytesIn X.heap.size w'.heap.size w' (some ⟨g, 0, none⟩) (rcB (R i))) := fun i hi hq X b o h1 h2 => by
    have he : rcB (R i) = packB (R i).k (R i).t (R i).g (R i).n (R i).P (R i).Z := by unfold rcB pkB; rw [if_pos (show recQ (R i).k (R i).t (R i).g (R i).n (R i).P (R i).Z = 0 from hq)]
    rw [he]
    refine (l4PackO_any b o _ _ _ _ _ _ _ _ _ _ X (rec_runs hq (hzb.out i hi)) h1 h2).mono ?_
    rintro e w' ⟨g, d, h3, _, h4, h5⟩
    exact ⟨g, d, h3, h4, h5⟩
  have HAt : Hid (∀ i, i < n → ∃ b off, a = some ⟨b, off, none⟩ ∧ ∀ X, Below w.heap.size w X → RunsRead X (D i).a (R i).n (R i).P (D i).A (D i).C (R i).Z ∧ RcO X b (off + i * 4) (R i).k (R i).t (R i).g (D i).a (R i).n (D i).c) := fun i hi => by
    rcases hr with h | ⟨b, off, ha, hc⟩
    · omega
    · refine ⟨b, off, ha, fun X g => ?_⟩
      obtain ⟨e0, e1, e2, e3, e4⟩ := hc i hi
      have up : ∀ (p : Addr) (v : Value), w.cell? p = some v → X.cell? p = some v := fun p v h => (g.cell (World.block_lt_of_cell? w _ h)).trans h
      exact ⟨e4.below g (Nat.le_refl _), ⟨up _ _ e0, up _ _ e1, up _ _ e2, up _ _ e3⟩⟩
  clear hr hzb
  go_enter Try.func18, Try.ntmps18
  go_upto_region 2 with (fail)
  generalize hY : World.alloc _ _ = Y
  have hA : B2 w Y := by rw [← hY]; exact ⟨by simp [go_sem], by simp [go_sem], by simp [go_sem], by simp [go_sem], by go_grown⟩
  have hG0 : Gb (w.heap.size + 1) Y (.slice (some ⟨w.heap.size + 1, 0, none⟩) 0 0) [] := by
    rw [← hY]
    have h := Gb.lit (w.heap.size + 1) (w.alloc (.cells #[.int .i64 0, .slice none 0 0] 27)) (by simp)
    simp only [World.size_alloc] at h
    exact h
  clear hY
  go_upto_region 3 with (fail)
  go_loopw [4] (fun i wr => ∃ j : Nat, j ≤ n ∧ i = .int .i64 j ∧ Hid (paF R j = 0) ∧ B2 w wr ∧ Gb (w.heap.size + 1) wr (.slice (some ⟨w.heap.size + 1, 0, none⟩) 0 0) []) (fun i _ => n - (intOf i).toNat)
  case atStart => exact ⟨0, Nat.zero_le _, rfl, rfl, hA, hG0⟩
  case round =>
    obtain ⟨j, hj, rfl, hF, hB, hG⟩ := hrel
    clear hA hG0
    by_cases hlt : j < n
    · have hjn : (j : Int) < (n : Int) := by omega
      obtain ⟨b, off, ha, hat⟩ := HAt.out j hlt
      subst ha
      obtain ⟨h1, h2⟩ := hat _ hB.g
      have HC : Hid (Calls Try.prog 71 #[.pointer (some ⟨b, off + j * 4, none⟩)] wr fun e w' => e = .returned (.int .i64 (rcQ (R j))) ∧ Below wr.heap.size wr w') := HFt.out j hlt wr b _ h1 h2
      obtain ⟨q, hq⟩ : ∃ q, q = rcQ (R j) := ⟨_, rfl⟩
      have HQ : Hid (q = rcQ (R j)) := hq
      rw [← hq] at HC
      clear hq h1 h2 hat
      go_wp2_with fail
      refine HC.out.mono ?_
      rintro e w3 ⟨rfl, g3⟩
      have hB := hB.up g3
      have hG := hG.grown g3
      clear g3 HC
      by_cases hq : q = 0
      · subst hq
        have HF2 : Hid (paF R (j + 1) = 0) := by show _ = _; simp only [paF]; rw [hF.out, if_pos rfl, ← HQ.out]
        go_wp2_with fail
        go_roundw
        case rel => exact ⟨j + 1, by omega, by go_num, HF2, hB, hG⟩
        case measure => simp [intOf]; omega
      · have HF2 : Hid (paF R n = q) := by show _ = _; rw [HQ.out]; exact paF_fault R hF.out (by rw [← HQ.out]; exact hq) hlt
        have HQ2 : Hid (paQ R n = q) := by show _ = _; unfold paQ; rw [HF2.out, if_neg hq]
        have HA2 : Hid (paA R n = []) := by show _ = _; unfold paA; rw [HQ2.out, if_neg hq]
        have hs := hB.lt
        have hg := hB.g
        obtain ⟨a0, a1, f0, f1, _⟩ := hB
        go_wp2_with fail
        refine bodyPost_ret (v := .agg #[.int .i64 q, .slice none 0 0]) (by simp [results, Try.results18, go_sem, *]) rfl ?_
        rw [HQ2.out, HA2.out]
        exact ⟨none, 0, rfl, by go_grown, .inl rfl, Nat.le_refl _, by omega⟩
    · have e : j = n := by omega
      subst e
      have HAll : Hid (∀ i, i < j → rcQ (R i) = 0) := paF_all R j hF.out
      go_upto_region 9 with (fail)
      go_loopw [3, 6] (fun v i wr' => ∃ k : Nat, k ≤ j ∧ i = .int .i64 k ∧ B2 w wr' ∧ Gb (w.heap.size + 1) wr' v (paB R k)) (fun _ i _ => j - (intOf i).toNat)
      case atStart => exact ⟨0, Nat.zero_le _, rfl, hB, hG⟩
      case round =>
        obtain ⟨k, hk, rfl, hB, hG⟩ := hrel
        by_cases hlt2 : k < j
        · have hkn : (k : Int) < (j : Int) := by omega
          obtain ⟨b, off, ha, hat⟩ := HAt.out k hlt2
          subst ha
          obtain ⟨h1, h2⟩ := hat _ hB.g
          have HC := HPk.out k hlt2 (HAll.out k hlt2) _ b _ h1 h2
          obtain ⟨us, hus⟩ : ∃ us, us = rcB (R k) := ⟨_, rfl⟩
          have HU : Hid (us = rcB (R k)) := hus
          have hlen := paB_len R k
          have hlen2 := rcB_len (R k)
          have hmono := szR_mono R (k + 1) j hlt2
          have HS : Hid (szR R (k + 1) = szR R k + (R k).n + took (R k).Z (R k).n) := rfl
          have hbl : (paB R k).length + us.length ≤ 100000000 := by have := HS.out; rw [hus]; omega
          rw [← hus] at HC
          obtain ⟨ul, hul⟩ : ∃ ul, us.length = ul := ⟨_, rfl⟩
          have HUl : Hid (us.length = ul) := hul
          rw [hul] at HC
          clear hul hus h1 h2 hat hlen hlen2 hmono
          have hs := hB.lt
          have HC2 : Hid (Calls Try.prog 72 #[.pointer (some ⟨b, off + k * 4, none⟩)] wr fun e w' => ∃ g d, e = .returned (.slice (some ⟨g, 0, none⟩) ul d) ∧ Below wr.heap.size wr w' ∧ BytesIn wr.heap.size w'.heap.size w' (some ⟨g, 0, none⟩) us) := HC
          clear HC
          go_wp2_with fail
          refine HC2.out.mono ?_
          rintro e w3 ⟨g3', d3, rfl, g3, y3⟩
          have hB3 := hB.up g3
          have hG3 := hG.grown g3
          have hs3 := hB3.lt
          have HRd : Hid (Reads w3 (some ⟨g3', 0, none⟩) us) := y3.reads
          clear g3 y3 HC2 hB hG hs
          go_wp2_with (at_builtin; refine wpList_append_bytes _ rfl _ _ rfl (w.heap.size + 1) _ (paB R k) us (some ⟨g3', 0, none⟩) ul d3 rfl rfl HUl.out hG3 HRd.out hbl (by omega) ?_)
          intro v' w6 hG6 hgr6 hat6
          have hB6 := hB3.low (Below.grown (Below.refl (w.heap.size + 1) w3) hgr6 (by omega) (fun q e => (World.ownsRow.lt hG3 q e).1)) (Nat.lt_succ_self _)
          have HG6 : Hid (Gb (w.heap.size + 1) w6 v' (paB R (k + 1))) := by show Gb _ _ _ _; simp only [paB]; rw [← HU.out]; exact hG6
          clear hG3 hG6 hgr6 hat6 hB3
          go_wp2_with fail
          go_roundw
          case rel => exact ⟨k + 1, by omega, by go_num, hB6, HG6.out⟩
          case measure => simp [intOf]; omega
        · have e : k = j := by omega
          subst e
          have hs := hB.lt
          have hg := hB.g
          obtain ⟨p, cp, rfl, hcp, hcm', hBy, _⟩ := hG.shape
          obtain ⟨L, hL⟩ : ∃ L, (paB R k).length = L := ⟨_, rfl⟩
          have HL : Hid ((paB R k).length = L) := hL
          have hlen := paB_len R k
          rw [hL] at hcp hlen ⊢
          clear hL hG
          obtain ⟨a0, a1, f0, f1, _⟩ := hB
          by_cases hbig : 16000 < L
          · have hb : (16000 : Int) < (L : Int) := by omega
            have HQ2 : Hid (paQ R k = 2) := by show _ = _; unfold paQ; rw [hF.out, if_pos rfl, HL.out, if_pos hbig]
            have HA2 : Hid (paA R k = []) := by show _ = _; unfold paA; rw [HQ2.out]; rfl
            go_wp2_with fail
            refine bodyPost_ret (v := .agg #[.int .i64 2, .slice none 0 0]) (by simp [results, Try.results18, go_sem, *]) rfl ?_
            rw [HQ2.out, HA2.out]
            exact ⟨none, 0, rfl, by go_grown, .inl rfl, Nat.le_refl _, by omega⟩
          · have hb : ¬ ((16000 : Int) < (L : Int)) := by omega
            have HQ2 : Hid (paQ R k = 0) := by show _ = _; unfold paQ; rw [hF.out, if_pos rfl, HL.out, if_neg hbig]
            have HA2 : Hid (paA R k = paB R k) := by show _ = _; unfold paA; rw [HQ2.out]; rfl
            have HBy : Hid (BytesIn (w.heap.size + 1) wr.heap.size wr p (paB R k)) := hBy
            clear hBy
            go_wp2_with fail
            refine bodyPost_ret (v := .agg #[.int .i64 0, .slice p L cp]) (by simp [results, Try.results18, go_sem, *]) rfl ?_
            rw [HQ2.out, HA2.out]
            refine ⟨p, cp, by rw [HL.out], by go_grown, ?_, by rw [HL.out]; exact hcp, hcm'⟩
            have T : Turned w.heap.size (w.heap.size + 1) wr _ := ((Turned.refl _ _ wr).setCell (p := ⟨w.heap.size, 0, none⟩) (by simp) (by simp) (.int .i64 0)).setCell (p := ⟨w.heap.size, 1, none⟩) (by simp) (by simp) (.slice p L cp)
            exact (HBy.out.turned T (.inr (Nat.le_refl _))).mono (by omega) (by simp)

end Go.Proofs.Ytcjkjenebnodbaa

/-
  The model's ReadLog.
-/
namespace Go.Proofs.Ytcjkjenebnodbaa
open Go.RowKit
set_option linter.unusedVariables false

set_option maxRecDepth 10000 in
set_option maxHeartbeats 1000000 in
theorem specReadLog_any (zs : List Int) (a : Option Addr) (cap : Nat) (w : World) (hm : zs.length ≤ 1048576) (hcap : zs.length ≤ cap) (hcm : cap ≤ 9223372036854775807) (hf : Reads w a zs) (hz : ∀ z ∈ zs, 0 ≤ z ∧ z ≤ 255) :
    Calls Try.prog 29 #[.slice a zs.length cap] w fun e w' => RlPost w zs e w' := by
  by_cases hbig : 16000 < zs.length
  · have HE : Hid (rlQ zs = 2 ∧ rlU zs = 0 ∧ rlN zs = 0) := ⟨by unfold rlQ; rw [if_pos hbig], by unfold rlU; rw [if_pos hbig], by unfold rlN; rw [if_pos hbig]⟩
    have hb : (16000 : Int) < (zs.length : Int) := by omega
    clear hf hz
    go_enter Try.func29, Try.ntmps29
    go_wp2_with fail
    refine bodyPost_ret (v := .agg #[.int .i64 2, .int .i64 0, .slice none 0 0]) (by simp [results, Try.results29, go_sem]) rfl ?_
    unfold RlPost
    rw [HE.out.1, HE.out.2.1, HE.out.2.2]
    exact ⟨none, 0, fun _ => ⟨none, 0, fun _ => none, fun _ => 0, fun _ => 0, 0, 0⟩, rfl, by go_grown, .inl rfl, Nat.le_refl _, by omega⟩
  · have HE : Hid (rlQ zs = 0 ∧ rlU zs = logU zs ∧ rlN zs = lgN zs) := ⟨by unfold rlQ; rw [if_neg hbig], by unfold rlU; rw [if_neg hbig], by unfold rlN; rw [if_neg hbig]⟩
    have hb : ¬ ((16000 : Int) < (zs.length : Int)) := by omega
    have HC : Hid (∀ X, Below w.heap.size w X → Calls Try.prog 89 #[.slice a zs.length cap] X fun e w' => L5Post X zs e w') := fun X g => l5Read_any zs a cap X hm hcap hcm (hf.below g (Nat.le_refl _)) hz
    have HPo : Hid (∀ X e w', L5Post X zs e w' → ∃ a c D, e = .returned (.tuple #[.slice a (lgN zs) c, .int .i64 (logU zs)]) ∧ Below X.heap.size X w' ∧ Rlt X.heap.size w' (.slice a (lgN zs) c) (lgN zs) (lgR zs) D) := fun X e w' h => by
      obtain ⟨v, D, h1, h2, h3⟩ := h
      obtain ⟨av, cv, hv⟩ := h3.form
      subst hv
      exact ⟨av, cv, D, h1, h2, h3⟩
    clear hf hz
    generalize logU zs = u at HE HPo
    generalize lgN zs = n at HE HPo
    go_enter Try.func29, Try.ntmps29
    go_upto_region 1 with (fail)
    generalize hY : World.alloc w _ = Y
    have g : Below w.heap.size w Y := by rw [← hY]; go_grown
    have hs : Y.heap.size = w.heap.size + 1 := by rw [← hY]; simp
    have a0 : Y.cell? ⟨w.heap.size, 0, none⟩ = some (.int .i64 0) := by rw [← hY]; simp [go_sem]
    have a1 : Y.cell? ⟨w.heap.size, 1, none⟩ = some (.int .i64 0) := by rw [← hY]; simp [go_sem]
    have a2 : Y.cell? ⟨w.heap.size, 2, none⟩ = some (.slice none 0 0) := by rw [← hY]; simp [go_sem]
    have f0 : Y.frozen? ⟨w.heap.size, 0, none⟩ = false := by rw [← hY]; simp [go_sem]
    have f1 : Y.frozen? ⟨w.heap.size, 1, none⟩ = false := by rw [← hY]; simp [go_sem]
    have f2 : Y.frozen? ⟨w.heap.size, 2, none⟩ = false := by rw [← hY]; simp [go_sem]
    clear hY
    go_wp2_with fail
    refine (HC.out _ g).mono ?_
    intro e w2 hp
    obtain ⟨av, cv, D, rfl, g2, hR⟩ := HPo.out _ _ _ hp
    have hcv := hR.cap
    have f0 := (g2.frozen (World.block_lt_of_cell? Y _ a0)).trans f0
    have f1 := (g2.frozen (World.block_lt_of_cell? Y _ a1)).trans f1
    have f2 := (g2.frozen (World.block_lt_of_cell? Y _ a2)).trans f2
    have a0 := cellUp g2 a0
    have a1 := cellUp g2 a1
    have a2 := cellUp g2 a2
    have hs2 := g2.size
    rw [hs] at hR
    have HO : Hid (OwnRS (w.heap.size + 1) w2.heap.size w2 av n (lgR zs) D) := hR.ownAt
    have g := g.trans (g2.mono g.size)
    clear g2 hp hR
    go_wp2_with fail
    refine bodyPost_ret (v := .agg #[.int .i64 0, .int .i64 u, .slice av n cv]) (by simp [results, Try.results29, go_sem, *]) rfl ?_
    unfold RlPost
    rw [HE.out.1, HE.out.2.1, HE.out.2.2]
    refine ⟨av, cv, D, rfl, by go_grown, ?_, hcv.1, hcv.2⟩
    have T : Turned w.heap.size (w.heap.size + 1) w2 _ := (((Turned.refl _ _ w2).setCell (p := ⟨w.heap.size, 0, none⟩) (by simp) (by simp) (.int .i64 0)).setCell (p := ⟨w.heap.size, 1, none⟩) (by simp) (by simp) (.int .i64 u)).setCell (p := ⟨w.heap.size, 2, none⟩) (by simp) (by simp) (.slice av n cv)
    exact (HO.out.turned T (.inr (Nat.le_refl _))).mono (by omega) (by simp)

/-- Records that were read are few and small. -/
theorem lgR_small (zs : List Int) (i : Nat) : (lgR zs i).n + took (lgR zs i).Z (lgR zs i).n ≤ 1048576 := by
  show nR (from' zs i) + took (rZ (from' zs i)) (nR (from' zs i)) ≤ 1048576
  unfold nR
  split
  · rename_i h
    have h1 := rf_ok (rec_ok h.2.1).2.2.2.2.2.2
    omega
  · simp [took]
theorem lgR_took (zs : List Int) : ∀ j, j ≤ lgN zs → tookR (lgR zs) j ≤ lp zs j
  | 0, _ => Nat.le_refl _
  | j + 1, h => by
    have ih := lgR_took zs j (by omega)
    have hk := lg_ok zs j (by omega)
    have h1 := ok_len hk
    have h2 : (rdB (from' zs j)).length = 7 + 2 * cnt (from' zs j) + took (rZ (from' zs j)) (cnt (from' zs j)) := packB_len _ _ _ _ _ _
    have h3 := (rr_yes hk).2.2.2.2.2
    have h4 : tookR (lgR zs) (j + 1) = tookR (lgR zs) j + 3 + nR (from' zs j) + took (rZ (from' zs j)) (nR (from' zs j)) := rfl
    have h5 : lp zs (j + 1) = lp zs j + len0 (from' zs j) := rfl
    rw [h4, h5, h3]
    omega
theorem rlN_small (zs : List Int) : rlN zs ≤ 1048576 ∧ tookR (lgR zs) (rlN zs) ≤ 8000000 := by
  unfold rlN
  split
  · simp [tookR]
  · have h1 := lgN_le zs
    have h2 := lgR_took zs (lgN zs) (Nat.le_refl _)
    have h3 := (lp_le zs (lgN zs) (Nat.le_refl _)).2
    omega

end Go.Proofs.Ytcjkjenebnodbaa

/-
  Plain facts for the law of logs: what is packed is read back, what is appended comes behind.
-/
namespace Go.Proofs.Ytcjkjenebnodbaa
open Go.RowKit
set_option linter.unusedVariables false

theorem rcB_bd {r : Rc} (hb : ∀ j, j < r.n → ∀ z ∈ r.Z j, 0 ≤ z ∧ z ≤ 255) : ∀ z ∈ rcB r, 0 ≤ z ∧ z ≤ 255 := by
  obtain ⟨k, t, g, n, P, Z⟩ := r
  simp only at hb
  have hB : rcB ⟨k, t, g, n, P, Z⟩ = pkB k t g n P Z := rfl
  rw [hB]
  unfold pkB
  split
  · rename_i h
    obtain ⟨_, _, _, _, _, _, h7⟩ := rec_ok h
    obtain ⟨h1, h2, h3⟩ := rf_ok h7
    exact packB_bd (by omega) (by omega) (fun i hi => ⟨by have := h2 i hi; omega, hb i hi⟩)
  · intro z hz; simp at hz
theorem paB_bd {R : Nat → Rc} : ∀ m, (∀ i, i < m → ∀ j, j < (R i).n → ∀ z ∈ (R i).Z j, 0 ≤ z ∧ z ≤ 255) → ∀ z ∈ paB R m, 0 ≤ z ∧ z ≤ 255
  | 0, _, z, hz => by simp [paB] at hz
  | m + 1, h, z, hz => by
    simp only [paB, List.mem_append] at hz
    rcases hz with hz | hz
    · exact paB_bd m (fun i hi => h i (by omega)) z hz
    · exact rcB_bd (h m (by omega)) z hz
theorem paF_each {R : Nat → Rc} : ∀ m, paF R m = 0 → ∀ i, i < m → rcQ (R i) = 0
  | 0, _, i, hi => by omega
  | m + 1, h, i, hi => by
    simp only [paF] at h
    split at h
    · rename_i h0
      by_cases e : i = m
      · rw [e]; exact h
      · exact paF_each m h0 i (by omega)
    · rename_i h0; exact absurd h h0
/-- What PackAll packed is read back. -/
theorem pa_back {R : Nat → Rc} {m : Nat} (h : paQ R m = 0) : paA R m = paB R m ∧ rlQ (paB R m) = 0 ∧ rlU (paB R m) = (paB R m).length ∧ rlN (paB R m) = m ∧ sameQ m m (lgR (paB R m)) R = true ∧ (paB R m).length ≤ 16000 := by
  have hA : paA R m = paB R m := by unfold paA; rw [if_pos h]
  have hf : paF R m = 0 ∧ ¬ 16000 < (paB R m).length := by
    unfold paQ at h
    split at h
    · rename_i h0
      split at h
      · cases h
      · rename_i h1; exact ⟨h0, h1⟩
    · rename_i h0; exact absurd h h0
  obtain ⟨h1, h2, h3⟩ := all_back m (paF_each m hf.1)
  refine ⟨hA, by unfold rlQ; rw [if_neg hf.2], by unfold rlU; rw [if_neg hf.2]; exact h2, by unfold rlN; rw [if_neg hf.2]; exact h1, ?_, by omega⟩
  unfold sameQ
  rw [sameL_all m h3]
  simp
/-- What is appended comes behind. -/
theorem app_back {xs ys : List Int} {r : Rc} (h : alQ xs ys (rcQ r) (rcB r) = 0) : ∃ N, alS xs ys (rcQ r) (rcB r) = xs ∧ alL xs ys (rcQ r) (rcB r) = ys ++ rcB r ∧ rlN (xs ++ ys) = N ∧ rlN (xs ++ (ys ++ rcB r)) = N + 1 ∧
    sameQ N N (lgR (xs ++ (ys ++ rcB r))) (lgR (xs ++ ys)) = true ∧ sameQ 1 1 (fun i => lgR (xs ++ (ys ++ rcB r)) (N + i)) (fun _ => r) = true ∧ lfQ xs (ys ++ rcB r) = 0 ∧ syB xs (ys ++ rcB r) = xs ++ (ys ++ rcB r) ∧ (xs ++ (ys ++ rcB r)).length ≤ 16000 := by
  have hs : alS xs ys (rcQ r) (rcB r) = xs := by unfold alS; rw [if_pos h]
  have hl : alL xs ys (rcQ r) (rcB r) = ys ++ rcB r := by unfold alL; rw [if_pos h]
  have hf : lfQ xs ys = 0 ∧ rcQ r = 0 ∧ ¬ 16000 < xs.length + ys.length + (rcB r).length := by
    unfold alQ at h
    split at h
    · rename_i h0
      split at h
      · rename_i h1
        split at h
        · cases h
        · rename_i h2; exact ⟨h0, h1, h2⟩
      · rename_i h1; exact absurd h h1
    · rename_i h0; exact absurd h h0
  obtain ⟨f1, f2, f3⟩ := hf
  have hw : Whole xs ∧ Whole ys := by
    unfold lfQ at f1
    split at f1
    · cases f1
    · split at f1
      · rename_i h0; exact h0
      · cases f1
  obtain ⟨o1, o2, o3⟩ := one_back f2
  have hxy := whole_two hw.1 hw.2
  have hyb := whole_two hw.2 o2
  obtain ⟨a1, a2, a3, a4⟩ := whole_app (T := rcB r) hxy
  have e : xs ++ (ys ++ rcB r) = (xs ++ ys) ++ rcB r := by rw [List.append_assoc]
  have hlen : ((xs ++ ys) ++ rcB r).length ≤ 16000 := by simp only [List.length_append]; omega
  have hlen2 : ¬ 16000 < (xs ++ ys).length := by simp only [List.length_append]; omega
  have hn0 : rlN (xs ++ ys) = lgN (xs ++ ys) := by unfold rlN; rw [if_neg hlen2]
  have hq2 : lfQ xs (ys ++ rcB r) = 0 := by
    unfold lfQ
    rw [if_neg (by simp only [List.length_append]; omega), if_pos ⟨hw.1, hyb⟩]
  refine ⟨lgN (xs ++ ys), hs, hl, hn0, ?_, ?_, ?_, hq2, by unfold syB; rw [if_pos hq2], by rw [e]; exact hlen⟩
  · rw [e]; unfold rlN; rw [if_neg (by omega), a1, o1]
  · rw [e]; unfold sameQ; rw [sameL_all _ (fun i hi => a3 i hi)]; simp
  · rw [e]
    unfold sameQ
    rw [sameL_all 1 (fun i hi => by
      have hi0 : i = 0 := by omega
      subst hi0
      rw [a4 0]
      exact o3)]
    simp

theorem szR_max {R : Nat → Rc} : ∀ m, (∀ i, i < m → RnOk (R i).n (R i).Z) → szR R m ≤ 4550 * m
  | 0, _ => by simp [szR]
  | m + 1, h => by
    have h1 := szR_max m (fun i hi => h i (by omega))
    have h2 := (h m (by omega)).tot
    have h3 := (h m (by omega)).few
    simp only [szR]
    omega

theorem lwBig_small (a : Option Addr) (n c : Nat) (w : World) (h : n ≤ 1048576) : Calls Try.prog 15 #[.slice a n c] w fun e w' => e = .returned (.bool false) ∧ w' = w := by
  have d : ¬ ((1048576 : Int) < (n : Int)) := by omega
  have d2 : decide ((1048576 : Int) < (n : Int)) = false := by simpa using d
  go_enter Try.func15, Try.ntmps15
  go_wp2
  go_ret
  exact ⟨rfl, rfl⟩
theorem lwBig_big (a : Option Addr) (n c : Nat) (w : World) (h : 1048576 < n) : Calls Try.prog 15 #[.slice a n c] w fun e w' => e = .returned (.bool true) ∧ w' = w := by
  have d : (1048576 : Int) < (n : Int) := by omega
  have d2 : decide ((1048576 : Int) < (n : Int)) = true := by simpa using d
  go_enter Try.func15, Try.ntmps15
  go_wp2
  go_ret
  exact ⟨rfl, rfl⟩
theorem OwnRS.recs {lo hi n : Nat} {w : World} {a : Option Addr} {R : Nat → Rc} {D : Nat → Ad} (h : OwnRS lo hi w a n R D) : RecsRead w a n R D := by
  rcases h with h | ⟨b, ha, ho⟩
  · exact .inl h
  · refine .inr ⟨b, 0, ha, fun i hi => ?_⟩
    rw [Nat.zero_add]
    refine ⟨ho.c0 i hi, ho.c1 i hi, ho.c2 i hi, ho.c3 i hi, ?_⟩
    rcases ho.rn i hi with h | ⟨bq, e, hq⟩
    · exact .inl h
    · rw [e]; exact hq.reads
theorem lgR_bd {zs : List Int} (hz : ∀ z ∈ zs, 0 ≤ z ∧ z ≤ 255) (i j : Nat) : ∀ z ∈ (lgR zs i).Z j, 0 ≤ z ∧ z ≤ 255 := fun z h => from_bd hz i z (List.mem_of_mem_drop (List.mem_of_mem_take h))
theorem RecsRead.first {w : World} {a : Option Addr} {n m : Nat} {R : Nat → Rc} {D : Nat → Ad} (h : RecsRead w a n R D) (hm : m ≤ n) : RecsRead w a m R D := by
  rcases h with h | ⟨b, off, ha, hc⟩
  · exact .inl (by omega)
  · exact .inr ⟨b, off, ha, fun i hi => hc i (by omega)⟩
/-- The last ones of records. -/
theorem RecsRead.last {w : World} {a : Option Addr} {n m : Nat} {R : Nat → Rc} {D : Nat → Ad} (h : RecsRead w a (n + m) R D) (hm : 0 < m) : ∃ b off, a = some ⟨b, off, none⟩ ∧ RecsRead w (some ⟨b, off + n * 4, none⟩) m (fun i => R (n + i)) (fun i => D (n + i)) := by
  rcases h with h | ⟨b, off, ha, hc⟩
  · omega
  · refine ⟨b, off, ha, .inr ⟨b, off + n * 4, rfl, fun i hi => ?_⟩⟩
    have h1 := hc (n + i) (by omega)
    rw [show off + (n + i) * 4 = off + n * 4 + i * 4 by omega] at h1
    exact h1
/-- One record in a slice of its own. -/
theorem recs_one {w : World} {g : Nat} {r : Rc} {d : Ad} (h0 : w.cell? ⟨g, 0, none⟩ = some (.int .i64 r.k)) (h1 : w.cell? ⟨g, 1, none⟩ = some (.int .i64 r.t)) (h2 : w.cell? ⟨g, 2, none⟩ = some (.int .i64 r.g)) (h3 : w.cell? ⟨g, 3, none⟩ = some (.slice d.a r.n d.c)) (hr : RunsRead w d.a r.n r.P d.A d.C r.Z) : RecsRead w (some ⟨g, 0, none⟩) 1 (fun _ => r) (fun _ => d) := by
  refine .inr ⟨g, 0, rfl, fun i hi => ?_⟩
  have hi0 : i = 0 := by omega
  subst hi0
  exact ⟨h0, h1, h2, h3, hr⟩

end Go.Proofs.Ytcjkjenebnodbaa
