/-
  Plain facts: a packed record is read back, whatever stands behind it; records packed one behind the other; what is appended to whole records.
-/
import Derived.Test.YtcjkjenebnodbaaRTpl

namespace Go.Proofs.Ytcjkjenebnodbaa
open Go.RowKit
set_option linter.unusedVariables false

/-- A run in the bytes of runs. -/
theorem runB_split (P : Nat → Int) (Z : Nat → List Int) (j : Nat) : ∀ n, j < n → ∃ T, runB P Z n = runB P Z j ++ ([P j % 256, ((Z j).length : Int)] ++ Z j) ++ T
  | 0, h => by omega
  | n + 1, h => by
    by_cases e : j = n
    · subst e
      exact ⟨[], by simp [runB]⟩
    · obtain ⟨T, hT⟩ := runB_split P Z j n (by omega)
      exact ⟨T ++ ([P n % 256, ((Z n).length : Int)] ++ Z n), by simp only [runB]; rw [hT]; simp only [List.append_assoc]⟩

theorem getD_app (H L : List Int) (i : Nat) (d : Int) : (H ++ L).getD (H.length + i) d = L.getD i d := by
  simp only [List.getD]
  rw [List.getElem?_append_right (by omega), Nat.add_sub_cancel_left]

/-- Five numbers in front, then runs, then whatever. -/
theorem read_runs {F H T : List Int} {P : Nat → Int} {Z : Nat → List Int} {n : Nat} (hF : F = H ++ runB P Z n ++ T) (h5 : H.length = 5) (h4 : H.getD 4 0 = (n : Int)) :
    (∀ j, j ≤ n → pos F j = 5 + 2 * j + took Z j) ∧ cnt F = n ∧ ∀ j, j < n → rP F j = P j % 256 ∧ rZ F j = Z j := by
  have key : ∀ j, j < n → ∀ q, q = 5 + 2 * j + took Z j → F.getD q 0 = P j % 256 ∧ F.getD (q + 1) 0 = ((Z j).length : Int) ∧ (F.drop (q + 2)).take (Z j).length = Z j := fun j hj q hq => by
    obtain ⟨U, hU⟩ := runB_split P Z j n hj
    have hl : (H ++ runB P Z j).length = q := by rw [List.length_append, h5, runB_len]; omega
    have e : F = (H ++ runB P Z j) ++ ((P j % 256) :: (((Z j).length : Int) :: (Z j ++ (U ++ T)))) := by rw [hF, hU]; simp only [List.append_assoc, List.cons_append, List.nil_append]
    have e0 := getD_app (H ++ runB P Z j) ((P j % 256) :: (((Z j).length : Int) :: (Z j ++ (U ++ T)))) 0 0
    have e1 := getD_app (H ++ runB P Z j) ((P j % 256) :: (((Z j).length : Int) :: (Z j ++ (U ++ T)))) 1 0
    rw [hl, ← e] at e0 e1
    refine ⟨e0, e1, ?_⟩
    rw [e, ← hl, ← List.drop_drop, List.drop_left]
    simp
  have hpos : ∀ j, j ≤ n → pos F j = 5 + 2 * j + took Z j := fun j => by
    induction j with
    | zero => intro _; rfl
    | succ j ih =>
      intro hj
      have h1 := ih (by omega)
      obtain ⟨_, k2, _⟩ := key j (by omega) (pos F j) h1
      simp only [pos, took]
      unfold lenAt
      rw [k2, Int.toNat_natCast, h1]
      omega
  have hFl : F.length = 5 + 2 * n + took Z n + T.length := by rw [hF]; simp only [List.length_append, h5, runB_len]; omega
  have h4F : F.getD 4 0 = (n : Int) := by
    rw [hF, List.append_assoc]
    simp only [List.getD] at h4 ⊢
    rw [List.getElem?_append_left (by omega)]
    exact h4
  refine ⟨hpos, ?_, fun j hj => ?_⟩
  · unfold cnt
    rw [h4F, Int.toNat_natCast, rdC_all F n 0 (fun i _ hi => ?_), Nat.zero_add]
    unfold fit
    rw [hpos (i + 1) (by omega), hFl]
    have h1 : took Z (i + 1) ≤ took Z n := took_mono Z (i + 1) n (by omega)
    omega
  · obtain ⟨k1, k2, k3⟩ := key j hj (pos F j) (hpos j (by omega))
    refine ⟨k1, ?_⟩
    unfold rZ lenAt
    rw [k2, Int.toNat_natCast]
    exact k3

theorem recB1_form (k tx pg : Int) (n : Nat) (P : Nat → Int) (Z : Nat → List Int) : recB1 k tx pg n P Z = [((recB0 k tx pg n n P Z).length : Int) + 2, k % 256, tx % 256, pg % 256, (n : Int)] ++ runB P Z n := by
  unfold recB1
  generalize ((recB0 k tx pg n n P Z).length : Int) + 2 = q
  unfold recB0
  rfl

theorem rec_small {k tx pg : Int} {n : Nat} {P : Nat → Int} {Z : Nat → List Int} (h : recQ k tx pg n P Z = 0) : k % 256 = k ∧ tx % 256 = tx ∧ pg % 256 = pg ∧ (∀ i, i < n → P i % 256 = P i) := by
  obtain ⟨h1, h2, h3, h4, h5, h6, h7⟩ := rec_ok h
  obtain ⟨_, hr, _⟩ := rf_ok h7
  exact ⟨by omega, by omega, by omega, fun i hi => by have := hr i hi; omega⟩

/-- A packed record is read back, whatever stands behind it. -/
theorem pack_back {r : Rc} (h : rcQ r = 0) (T : List Int) : OkI (rcB r ++ T) ∧ len0 (rcB r ++ T) = (rcB r).length ∧ sameR ⟨kR (rcB r ++ T) 1, kR (rcB r ++ T) 2, kR (rcB r ++ T) 3, nR (rcB r ++ T), rP (rcB r ++ T), rZ (rcB r ++ T)⟩ r = true := by
  obtain ⟨k, t, g, n, P, Z⟩ := r
  unfold rcQ at h
  simp only at h
  have hB : rcB ⟨k, t, g, n, P, Z⟩ = packB k t g n P Z := by unfold rcB pkB; rw [if_pos h]
  rw [hB]
  obtain ⟨sk, st, sg, sP⟩ := rec_small h
  obtain ⟨S, hS⟩ : ∃ S, packB k t g n P Z = recB1 k t g n P Z ++ S := ⟨_, rfl⟩
  have hl0 := recB0_len k t g n n P Z
  have hF : packB k t g n P Z ++ T = [((recB0 k t g n n P Z).length : Int) + 2, k % 256, t % 256, g % 256, (n : Int)] ++ runB P Z n ++ (S ++ T) := by rw [hS, recB1_form]; simp only [List.append_assoc]
  obtain ⟨h1, h2, h3⟩ := read_runs hF rfl rfl
  have hlen := packB_len k t g n P Z
  obtain ⟨F, hFF⟩ : ∃ F, packB k t g n P Z ++ T = F := ⟨_, rfl⟩
  rw [hFF] at h1 h2 h3 hF ⊢
  have g0 : F.getD 0 0 = ((packB k t g n P Z).length : Int) := by
    rw [hF, hlen, hl0]
    show _ + 2 = _
    omega
  have g1 : F.getD 1 0 = k := by rw [hF]; exact sk
  have g2 : F.getD 2 0 = t := by rw [hF]; exact st
  have g3 : F.getD 3 0 = g := by rw [hF]; exact sg
  have hP : ∀ i, i < n → rP F i = P i := fun i hi => by rw [(h3 i hi).1, sP i hi]
  have hZ : ∀ i, i < n → rZ F i = Z i := fun i hi => (h3 i hi).2
  have hq : rdQ F = 0 := by unfold rdQ; rw [g1, g2, g3, h2, recQ_congr k t g n hP hZ]; exact h
  have hb : rdB F = packB k t g n P Z := by unfold rdB; rw [g1, g2, g3, h2, packB_congr k t g n hP hZ]
  have hFl : (packB k t g n P Z).length ≤ F.length := by rw [← hFF, List.length_append]; omega
  have hk : OkI F := ⟨by omega, hq, by rw [hb, ← hFF, List.take_left]⟩
  refine ⟨hk, ?_, ?_⟩
  · unfold len0; rw [g0, Int.toNat_natCast]
  · obtain ⟨_, _, e1, e2, e3, e4⟩ := rr_yes hk
    rw [e1, e2, e3, e4, g1, g2, g3, h2]
    simp only [sameR, rsQ, Bool.and_eq_true, decide_eq_true_eq, true_and]
    exact rsB_all n (fun i hi => ⟨hP i hi, hZ i hi⟩)

theorem rcB_pos {r : Rc} (h : rcQ r = 0) : 7 ≤ (rcB r).length ∧ (rcB r).length ≤ 200 := by
  obtain ⟨k, t, g, n, P, Z⟩ := r
  unfold rcQ at h
  simp only at h
  have hB : rcB ⟨k, t, g, n, P, Z⟩ = packB k t g n P Z := by unfold rcB pkB; rw [if_pos h]
  obtain ⟨_, _, _, _, _, _, h7⟩ := rec_ok h
  obtain ⟨h1, _, h3⟩ := rf_ok h7
  rw [hB, packB_len]
  omega

/-- Whole records: nothing is left behind the last. -/
def Whole (A : List Int) : Prop := logU A = A.length

theorem whole_step {A T : List Int} (h : Whole A) : ∀ i, i ≤ lgN A → lp (A ++ T) i = lp A i := fun i hi => by
  have hA : Agree A.length A (A ++ T) := fun i hi => by rw [List.getElem?_append_left hi]
  exact (chain hA (by rw [List.length_append]; omega) i (fun j hj => lg_ok A j (by omega)) (lp_le A i hi).2).1
theorem whole_at {A T : List Int} (h : Whole A) : ∀ i, lp (A ++ T) (lgN A + i) = A.length + lp T i
  | 0 => by rw [Nat.add_zero, whole_step h _ (Nat.le_refl _)]; exact h
  | i + 1 => by
    have ih := whole_at (T := T) h i
    show lp (A ++ T) (lgN A + i) + len0 ((A ++ T).drop (lp (A ++ T) (lgN A + i))) = A.length + (lp T i + len0 (T.drop (lp T i)))
    rw [ih, List.drop_append, List.drop_eq_nil_of_le (by omega), List.nil_append, Nat.add_sub_cancel_left]
    omega
theorem whole_from {A T : List Int} (h : Whole A) (i : Nat) : from' (A ++ T) (lgN A + i) = from' T i := by
  unfold from'
  rw [whole_at h, List.drop_append, List.drop_eq_nil_of_le (by omega), List.nil_append, Nat.add_sub_cancel_left]
theorem whole_app {A T : List Int} (h : Whole A) : lgN (A ++ T) = lgN A + lgN T ∧ logU (A ++ T) = A.length + logU T ∧ (∀ i, i < lgN A → sameR (lgR (A ++ T) i) (lgR A i) = true) ∧ ∀ i, lgR (A ++ T) (lgN A + i) = lgR T i := by
  have hA : Agree A.length A (A ++ T) := fun i hi => by rw [List.getElem?_append_left hi]
  obtain ⟨_, hs⟩ := chain hA (by rw [List.length_append]; omega) (lgN A) (fun i hi => lg_ok A i hi) (lp_le A _ (Nat.le_refl _)).2
  have hall : ∀ i, i < lgN A + lgN T → OkI (from' (A ++ T) i) := fun i hi => by
    by_cases e : i < lgN A
    · exact (hs i e).1
    · obtain ⟨j, rfl⟩ : ∃ j, i = lgN A + j := ⟨i - lgN A, by omega⟩
      rw [whole_from h]
      exact lg_ok T j (by omega)
  have hge := lg_of hall
  have hno : ¬ OkI (from' (A ++ T) (lgN A + lgN T)) := by rw [whole_from h]; exact lg_no T
  have hN : lgN (A ++ T) = lgN A + lgN T := by
    by_cases e : lgN A + lgN T < lgN (A ++ T)
    · exact absurd (lg_ok _ _ e) hno
    · omega
  refine ⟨hN, ?_, fun i hi => (hs i hi).2, fun i => ?_⟩
  · unfold logU; rw [hN, whole_at h]
  · unfold lgR; rw [whole_from h]
theorem whole_two {A T : List Int} (h : Whole A) (h' : Whole T) : Whole (A ++ T) := by
  unfold Whole
  rw [(whole_app h).2.1, List.length_append]
  unfold Whole at h'
  omega

theorem rsB_trans {P P' P'' : Nat → Int} {Z Z' Z'' : Nat → List Int} : ∀ n, rsB P P' Z Z' n = true → rsB P' P'' Z' Z'' n = true → rsB P P'' Z Z'' n = true
  | 0, _, _ => rfl
  | n + 1, h, h' => by
    simp only [rsB, Bool.and_eq_true, decide_eq_true_eq] at h h' ⊢
    exact ⟨rsB_trans n h.1 h'.1, h.2.1.trans h'.2.1, h.2.2.trans h'.2.2⟩
theorem sameR_trans {r s t : Rc} (h : sameR r s = true) (h' : sameR s t = true) : sameR r t = true := by
  simp only [sameR, rsQ, Bool.and_eq_true, decide_eq_true_eq] at h h' ⊢
  obtain ⟨h1, h2, h3, h4, h5⟩ := h
  obtain ⟨k1, k2, k3, k4, k5⟩ := h'
  exact ⟨h1.trans k1, h2.trans k2, h3.trans k3, h4.trans k4, rsB_trans _ h5 (by rw [h4]; exact k5)⟩

/-- One packed record. -/
theorem one_back {r : Rc} (h : rcQ r = 0) : lgN (rcB r) = 1 ∧ Whole (rcB r) ∧ sameR (lgR (rcB r) 0) r = true := by
  obtain ⟨h1, h2, h3⟩ := pack_back h []
  rw [List.append_nil] at h1 h2 h3
  have hf : from' (rcB r) 0 = rcB r := rfl
  have hge : 1 ≤ lgN (rcB r) := lg_of (fun i hi => by
    have e : i = 0 := by omega
    subst e
    rw [hf]
    exact h1)
  have hl : lp (rcB r) 1 = (rcB r).length := by
    show 0 + len0 ((rcB r).drop 0) = _
    rw [List.drop_zero, h2, Nat.zero_add]
  obtain ⟨e1, e2⟩ := lg_full hge hl
  exact ⟨e1.symm, e2, h3⟩
/-- Records packed one behind the other are read back. -/
theorem all_back {R : Nat → Rc} : ∀ n, (∀ i, i < n → rcQ (R i) = 0) → lgN (paB R n) = n ∧ Whole (paB R n) ∧ ∀ i, i < n → sameR (lgR (paB R n) i) (R i) = true
  | 0, _ => by
    have h0 : lgN (paB R 0) = 0 := by have := lgN_le (paB R 0); simp only [paB, List.length_nil] at this ⊢; omega
    refine ⟨h0, ?_, fun i hi => by omega⟩
    unfold Whole logU
    rw [h0]
    rfl
  | n + 1, h => by
    obtain ⟨i1, i2, i3⟩ := all_back n (fun i hi => h i (by omega))
    obtain ⟨o1, o2, o3⟩ := one_back (h n (by omega))
    obtain ⟨a1, a2, a3, a4⟩ := whole_app (T := rcB (R n)) i2
    simp only [paB]
    refine ⟨by rw [a1, i1, o1], whole_two i2 o2, fun i hi => ?_⟩
    by_cases e : i < n
    · exact sameR_trans (a3 i (by rw [i1]; exact e)) (i3 i e)
    · have e' : i = lgN (paB R n) + 0 := by rw [i1]; omega
      rw [e', a4 0]
      have : lgN (paB R n) + 0 = n := by omega
      rw [this]
      exact o3
end Go.Proofs.Ytcjkjenebnodbaa
