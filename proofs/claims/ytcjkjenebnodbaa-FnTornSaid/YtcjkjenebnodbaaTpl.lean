/-
  Plain facts: bytes that begin alike hold the same records; what stands behind a crash.
-/
import Derived.Test.YtcjkjenebnodbaaIcr
import Derived.Test.YtcjkjenebnodbaaSan
namespace Go.Proofs.Ytcjkjenebnodbaa
open Go.RowKit
set_option linter.unusedVariables false

theorem rsB_all {P P' : Nat → Int} {Z Z' : Nat → List Int} : ∀ n, (∀ i, i < n → P i = P' i ∧ Z i = Z' i) → rsB P P' Z Z' n = true
  | 0, _ => rfl
  | n + 1, h => by
    simp only [rsB]
    rw [rsB_all n (fun i hi => h i (by omega)), (h n (by omega)).1, (h n (by omega)).2]
    simp
theorem sameL_all {R S : Nat → Rc} : ∀ n, (∀ i, i < n → sameR (R i) (S i) = true) → sameL R S n = true
  | 0, _ => rfl
  | n + 1, h => by
    simp only [sameL]
    rw [sameL_all n (fun i hi => h i (by omega)), h n (by omega)]
    rfl

theorem rsB_comm {P P' : Nat → Int} {Z Z' : Nat → List Int} : ∀ n, rsB P P' Z Z' n = true → rsB P' P Z' Z n = true
  | 0, _ => rfl
  | n + 1, h => by
    simp only [rsB, Bool.and_eq_true, decide_eq_true_eq] at h ⊢
    exact ⟨rsB_comm n h.1, h.2.1.symm, h.2.2.symm⟩
theorem sameR_comm {r s : Rc} (h : sameR r s = true) : sameR s r = true := by
  simp only [sameR, rsQ, Bool.and_eq_true, decide_eq_true_eq] at h ⊢
  obtain ⟨h1, h2, h3, h4, h5⟩ := h
  exact ⟨h1.symm, h2.symm, h3.symm, h4.symm, rsB_comm _ (by rw [← h4]; exact h5)⟩

theorem ok_agree {F G : List Int} (h : OkI F) (hA : Agree (len0 F) F G) (hl : len0 F ≤ G.length) : OkI G ∧ len0 G = len0 F ∧ cnt G = cnt F ∧ (∀ i, i < cnt F → rP G i = rP F i ∧ rZ G i = rZ F i) ∧ ∀ i, i < 5 → G.getD i 0 = F.getD i 0 := by
  obtain ⟨h1, h2, h3, h4, h5⟩ := ok_len h
  obtain ⟨c1, c2, c3⟩ := read_agree hA (by omega) hl h4 (by omega)
  have hat : ∀ i, i < 5 → G.getD i 0 = F.getD i 0 := fun i hi => hA.at' i (by omega)
  have hpo : ∀ i, i < cnt F → pos F (i + 1) ≤ len0 F := fun i hi => by have := pos_mono F (i + 1) (cnt F) (by omega); omega
  have htk : G.take (len0 F) = F.take (len0 F) := by
    apply List.ext_getElem?
    intro i
    rw [List.getElem?_take, List.getElem?_take]
    split
    · rename_i hi; exact hA i hi
    · rfl
  refine ⟨⟨by omega, by rw [c2]; exact h.2.1, ?_⟩, by unfold len0; rw [hat 0 (by omega)], c1, fun i hi => ⟨rP_agree hA i (fun i' hi' => hpo i' (by omega)), rZ_agree hA i (fun i' hi' => hpo i' (by omega))⟩, hat⟩
  rw [c3, h1, htk]
  have := h.2.2
  rw [h1] at this
  exact this

theorem lp_mono (zs : List Int) : ∀ i j, i ≤ j → lp zs i ≤ lp zs j
  | i, 0, h => by have : i = 0 := by omega
                  subst this; exact Nat.le_refl _
  | i, j + 1, h => by
    by_cases e : i = j + 1
    · rw [e]; exact Nat.le_refl _
    · have := lp_mono zs i j (by omega)
      show lp zs i ≤ lp zs j + _
      omega

theorem chain {P Q : List Int} {L : Nat} (hA : Agree L P Q) (hQ : L ≤ Q.length) : ∀ j, (∀ i, i < j → OkI (from' P i)) → lp P j ≤ L → lp Q j = lp P j ∧ ∀ i, i < j → OkI (from' Q i) ∧ sameR (lgR Q i) (lgR P i) = true
  | 0, _, _ => ⟨rfl, fun i hi => by omega⟩
  | j + 1, h, hL => by
    have hstep : lp P (j + 1) = lp P j + len0 (from' P j) := rfl
    obtain ⟨e, ih⟩ := chain hA hQ j (fun i hi => h i (by omega)) (by omega)
    have hF := h j (by omega)
    have hag : Agree (len0 (from' P j)) (from' P j) (from' Q j) := fun i hi => by
      unfold from'
      rw [List.getElem?_drop, List.getElem?_drop, e]
      exact hA _ (by omega)
    have hgl : len0 (from' P j) ≤ (from' Q j).length := by rw [from_len, e]; omega
    obtain ⟨k1, k2, k3, k4, k5⟩ := ok_agree hF hag hgl
    refine ⟨by show lp Q j + len0 (from' Q j) = _; rw [e, k2]; rfl, fun i hi => ?_⟩
    by_cases ei : i = j
    · subst ei
      refine ⟨k1, ?_⟩
      obtain ⟨_, _, a1, a2, a3, a4⟩ := rr_yes k1
      obtain ⟨_, _, b1, b2, b3, b4⟩ := rr_yes hF
      have hn : nR (from' Q i) = nR (from' P i) := by rw [a4, b4, k3]
      unfold sameR lgR
      simp only
      rw [a1, a2, a3, b1, b2, b3, k5 1 (by omega), k5 2 (by omega), k5 3 (by omega), hn]
      unfold rsQ
      rw [rsB_all _ (fun m hm => by rw [b4] at hm; exact k4 m hm)]
      simp
    · exact ih i (by omega)

theorem lg_of {zs : List Int} {j : Nat} (h : ∀ i, i < j → OkI (from' zs i)) : j ≤ lgN zs := by
  by_cases e : j ≤ lgN zs
  · exact e
  · exact absurd (h (lgN zs) (by omega)) (lg_no zs)

/-- What stands behind is read behind. -/
theorem lg_append (P T : List Int) : lgN P ≤ lgN (P ++ T) ∧ ∀ i, i < lgN P → sameR (lgR (P ++ T) i) (lgR P i) = true := by
  have hA : Agree P.length P (P ++ T) := fun i hi => by rw [List.getElem?_append_left hi]
  obtain ⟨_, h⟩ := chain hA (by rw [List.length_append]; omega) (lgN P) (fun i hi => lg_ok P i hi) (lp_le P _ (Nat.le_refl _)).2
  exact ⟨lg_of (fun i hi => (h i hi).1), fun i hi => (h i hi).2⟩
/-- The bytes of the records alone. -/
theorem lg_cut (D : List Int) : lgN (D.take (logU D)) = lgN D ∧ logU (D.take (logU D)) = (D.take (logU D)).length := by
  have hl := logU_le D
  have hlen : (D.take (logU D)).length = logU D := by rw [List.length_take]; omega
  have hA : Agree (logU D) D (D.take (logU D)) := Agree.take D _
  obtain ⟨e, h⟩ := chain hA (by omega) (lgN D) (fun i hi => lg_ok D i hi) (Nat.le_refl _)
  have h1 := lg_of (fun i hi => (h i hi).1)
  have h2 := (lg_append (D.take (logU D)) (D.drop (logU D))).1
  rw [List.take_append_drop] at h2
  have h3 : lgN (D.take (logU D)) = lgN D := by omega
  refine ⟨h3, ?_⟩
  rw [hlen]
  show lp (D.take (logU D)) (lgN (D.take (logU D))) = _
  rw [h3, e]
  rfl

/-- What stands behind a crash. -/
theorem torn {xs ys : List Int} {k : Int} (h : crQ xs ys k = 0) : rlN xs ≤ rlN (crB xs ys k) ∧ rlN (crB xs ys k) ≤ rlN (xs ++ ys) ∧ sameQ (rlN (crB xs ys k)) (rlN (crB xs ys k)) (lgR (crB xs ys k)) (lgR (xs ++ ys)) = true ∧ lfQ (crB xs ys k) [] = 0 ∧ (¬ k < ys.length → rlN (crB xs ys k) = rlN (xs ++ ys)) := by
  have hB : crB xs ys k = (crD xs ys k).take (logU (crD xs ys k)) := by unfold crB; rw [if_pos h]
  have hq : lfQ xs ys = 0 ∧ inR k 0 ys.length = true := by
    unfold crQ at h
    by_cases e : lfQ xs ys = 0
    · rw [if_pos e] at h
      refine ⟨e, ?_⟩
      by_cases e2 : inR k 0 ys.length = true
      · exact e2
      · rw [if_neg e2] at h; omega
    · rw [if_neg e] at h; exact absurd h e
  have hs := lf_small hq.1
  obtain ⟨kk, rfl, hkk⟩ := inR_nat hq.2
  have hD : crD xs ys (kk : Int) = xs ++ ys.take kk := by unfold crD; simp
  have hDl : (xs ++ ys.take kk).length ≤ 16000 := by rw [List.length_append, List.length_take]; omega
  rw [hD] at hB
  obtain ⟨c1, c2⟩ := lg_cut (xs ++ ys.take kk)
  have hBl : (crB xs ys (kk : Int)).length ≤ 16000 := by rw [hB, List.length_take]; omega
  have rl : ∀ zs : List Int, zs.length ≤ 16000 → rlN zs = lgN zs := fun zs h => by unfold rlN; rw [if_neg (by omega)]
  have hal : xs ++ ys = (xs ++ ys.take kk) ++ ys.drop kk := by rw [List.append_assoc, List.take_append_drop]
  have hal2 : xs ++ ys = crB xs ys (kk : Int) ++ ((xs ++ ys.take kk).drop (logU (xs ++ ys.take kk)) ++ ys.drop kk) := by rw [hB, ← List.append_assoc, List.take_append_drop, ← hal]
  rw [rl _ hBl, rl xs (by omega), rl (xs ++ ys) (by rw [List.length_append]; omega)]
  have hn : lgN (crB xs ys (kk : Int)) = lgN (xs ++ ys.take kk) := by rw [hB]; exact c1
  refine ⟨by rw [hn]; exact (lg_append _ _).1, by rw [hn, hal]; exact (lg_append _ _).1, ?_, ?_, fun hk => ?_⟩
  · unfold sameQ
    rw [sameL_all _ (fun i hi => ?_)]
    · simp
    · have h1 := (lg_append (crB xs ys (kk : Int)) ((xs ++ ys.take kk).drop (logU (xs ++ ys.take kk)) ++ ys.drop kk)).2 i hi
      rw [← hal2] at h1
      have := sameR_comm h1
      exact this
  · unfold lfQ
    rw [if_neg (by simp; omega), if_pos ⟨by rw [hB]; exact c2, rfl⟩]
  · have : kk = ys.length := by omega
    subst this
    rw [hn, List.take_length]

end Go.Proofs.Ytcjkjenebnodbaa
