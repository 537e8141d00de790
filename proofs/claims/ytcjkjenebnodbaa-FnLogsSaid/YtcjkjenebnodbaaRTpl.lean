/-
  Plain facts: bytes that begin alike hold the same records; what stands behind a crash.
-/
import Derived.Test.YtcjkjenebnodbaaRIcr
import Derived.Test.YtcjkjenebnodbaaRSam
import Derived.Test.YtcjkjenebnodbaaRRdq
import Derived.Test.YtcjkjenebnodbaaRLft

namespace Go.Proofs.Ytcjkjenebnodbaa
open Go.RowKit
set_option linter.unusedVariables false

theorem rsB_all {P P' : Nat → Int} {Z Z' : Nat → List Int} : ∀ n, (∀ i, i < n → P i = P' i ∧ Z i = Z' i) → rsB P P' Z Z' n = true
  | 0, _ => rfl
  | n + 1, h => by
    simp only [rsB]
    rw [rsB_all n (fun i hi => h i (by omega)), (h n (by omega)).1, (h n (by omega)).2]
    simp
theorem sameL_all {R S : Nat → Rc} : ∀ n, (∀ i, i < n → sameR (R i) (S i) = true) → sameL R S n = true
  | 0, _ => rfl
  | n + 1, h => by
    simp only [sameL]
    rw [sameL_all n (fun i hi => h i (by omega)), h n (by omega)]
    rfl

theorem rsB_comm {P P' : Nat → Int} {Z Z' : Nat → List Int} : ∀ n, rsB P P' Z Z' n = true → rsB P' P Z' Z n = true
  | 0, _ => rfl
  | n + 1, h => by
    simp only [rsB, Bool.and_eq_true, decide_eq_true_eq] at h ⊢
    exact ⟨rsB_comm n h.1, h.2.1.symm, h.2.2.symm⟩
theorem sameR_comm {r s : Rc} (h : sameR r s = true) : sameR s r = true := by
  simp only [sameR, rsQ, Bool.and_eq_true, decide_eq_true_eq] at h ⊢
  obtain ⟨h1, h2, h3, h4, h5⟩ := h
  exact ⟨h1.symm, h2.symm, h3.symm, h4.symm, rsB_comm _ (by rw [← h4]; exact h5)⟩

theorem ok_agree {F G : List Int} (h : OkI F) (hA : Agree (len0 F) F G) (hl : len0 F ≤ G.length) : OkI G ∧ len0 G = len0 F ∧ cnt G = cnt F ∧ (∀ i, i < cnt F → rP G i = rP F i ∧ rZ G i = rZ F i) ∧ ∀ i, i < 5 → G.getD i 0 = F.getD i 0 := by
  obtain ⟨h1, h2, h3, h4, h5⟩ := ok_len h
  obtain ⟨c1, c2, c3⟩ := read_agree hA (by omega) hl h4 (by omega)
  have hat : ∀ i, i < 5 → G.getD i 0 = F.getD i 0 := fun i hi => hA.at' i (by omega)
  have hpo : ∀ i, i < cnt F → pos F (i + 1) ≤ len0 F := fun i hi => by have := pos_mono F (i + 1) (cnt F) (by omega); omega
  have htk : G.take (len0 F) = F.take (len0 F) := by
    apply List.ext_getElem?
    intro i
    rw [List.getElem?_take, List.getElem?_take]
    split
    · rename_i hi; exact hA i hi
    · rfl
  refine ⟨⟨by omega, by rw [c2]; exact h.2.1, ?_⟩, by unfold len0; rw [hat 0 (by omega)], c1, fun i hi => ⟨rP_agree hA i (fun i' hi' => hpo i' (by omega)), rZ_agree hA i (fun i' hi' => hpo i' (by omega))⟩, hat⟩
  rw [c3, h1, htk]
  have := h.2.2
  rw [h1] at this
  exact this

theorem lp_mono (zs : List Int) : ∀ i j, i ≤ j → lp zs i ≤ lp zs j
  | i, 0, h => by have : i = 0 := by omega
                  subst this; exact Nat.le_refl _
  | i, j + 1, h => by
    by_cases e : i = j + 1
    · rw [e]; exact Nat.le_refl _
    · have := lp_mono zs i j (by omega)
      show lp zs i ≤ lp zs j + _
      omega

theorem chain {P Q : List Int} {L : Nat} (hA : Agree L P Q) (hQ : L ≤ Q.length) : ∀ j, (∀ i, i < j → OkI (from' P i)) → lp P j ≤ L → lp Q j = lp P j ∧ ∀ i, i < j → OkI (from' Q i) ∧ sameR (lgR Q i) (lgR P i) = true
  | 0, _, _ => ⟨rfl, fun i hi => by omega⟩
  | j + 1, h, hL => by
    have hstep : lp P (j + 1) = lp P j + len0 (from' P j) := rfl
    obtain ⟨e, ih⟩ := chain hA hQ j (fun i hi => h i (by omega)) (by omega)
    have hF := h j (by omega)
    have hag : Agree (len0 (from' P j)) (from' P j) (from' Q j) := fun i hi => by
      unfold from'
      rw [List.getElem?_drop, List.getElem?_drop, e]
      exact hA _ (by omega)
    have hgl : len0 (from' P j) ≤ (from' Q j).length := by rw [from_len, e]; omega
    obtain ⟨k1, k2, k3, k4, k5⟩ := ok_agree hF hag hgl
    refine ⟨by show lp Q j + len0 (from' Q j) = _; rw [e, k2]; rfl, fun i hi => ?_⟩
    by_cases ei : i = j
    · subst ei
      refine ⟨k1, ?_⟩
      obtain ⟨_, _, a1, a2, a3, a4⟩ := rr_yes k1
      obtain ⟨_, _, b1, b2, b3, b4⟩ := rr_yes hF
      have hn : nR (from' Q i) = nR (from' P i) := by rw [a4, b4, k3]
      unfold sameR lgR
      simp only
      rw [a1, a2, a3, b1, b2, b3, k5 1 (by omega), k5 2 (by omega), k5 3 (by omega), hn]
      unfold rsQ
      rw [rsB_all _ (fun m hm => by rw [b4] at hm; exact k4 m hm)]
      simp
    · exact ih i (by omega)

theorem lg_of {zs : List Int} {j : Nat} (h : ∀ i, i < j → OkI (from' zs i)) : j ≤ lgN zs := by
  by_cases e : j ≤ lgN zs
  · exact e
  · exact absurd (h (lgN zs) (by omega)) (lg_no zs)

/-- What stands behind is read behind. -/
theorem lg_append (P T : List Int) : lgN P ≤ lgN (P ++ T) ∧ ∀ i, i < lgN P → sameR (lgR (P ++ T) i) (lgR P i) = true := by
  have hA : Agree P.length P (P ++ T) := fun i hi => by rw [List.getElem?_append_left hi]
  obtain ⟨_, h⟩ := chain hA (by rw [List.length_append]; omega) (lgN P) (fun i hi => lg_ok P i hi) (lp_le P _ (Nat.le_refl _)).2
  exact ⟨lg_of (fun i hi => (h i hi).1), fun i hi => (h i hi).2⟩
/-- The bytes of the records alone. -/
theorem lg_cut (D : List Int) : lgN (D.take (logU D)) = lgN D ∧ logU (D.take (logU D)) = (D.take (logU D)).length := by
  have hl := logU_le D
  have hlen : (D.take (logU D)).length = logU D := by rw [List.length_take]; omega
  have hA : Agree (logU D) D (D.take (logU D)) := Agree.take D _
  obtain ⟨e, h⟩ := chain hA (by omega) (lgN D) (fun i hi => lg_ok D i hi) (Nat.le_refl _)
  have h1 := lg_of (fun i hi => (h i hi).1)
  have h2 := (lg_append (D.take (logU D)) (D.drop (logU D))).1
  rw [List.take_append_drop] at h2
  have h3 : lgN (D.take (logU D)) = lgN D := by omega
  refine ⟨h3, ?_⟩
  rw [hlen]
  show lp (D.take (logU D)) (lgN (D.take (logU D))) = _
  rw [h3, e]
  rfl

/-- What stands behind a crash. -/
theorem torn {xs ys : List Int} {k : Int} (h : crQ xs ys k = 0) : rlN xs ≤ rlN (crB xs ys k) ∧ rlN (crB xs ys k) ≤ rlN (xs ++ ys) ∧ sameQ (rlN (crB xs ys k)) (rlN (crB xs ys k)) (lgR (crB xs ys k)) (lgR (xs ++ ys)) = true ∧ lfQ (crB xs ys k) [] = 0 ∧ (¬ k < ys.length → rlN (crB xs ys k) = rlN (xs ++ ys)) := by
  have hB : crB xs ys k = (crD xs ys k).take (logU (crD xs ys k)) := by unfold crB; rw [if_pos h]
  have hq : lfQ xs ys = 0 ∧ inR k 0 ys.length = true := by
    unfold crQ at h
    by_cases e : lfQ xs ys = 0
    · rw [if_pos e] at h
      refine ⟨e, ?_⟩
      by_cases e2 : inR k 0 ys.length = true
      · exact e2
      · rw [if_neg e2] at h; omega
    · rw [if_neg e] at h; exact absurd h e
  have hs := lf_small hq.1
  obtain ⟨kk, rfl, hkk⟩ := inR_nat hq.2
  have hD : crD xs ys (kk : Int) = xs ++ ys.take kk := by unfold crD; simp
  have hDl : (xs ++ ys.take kk).length ≤ 16000 := by rw [List.length_append, List.length_take]; omega
  rw [hD] at hB
  obtain ⟨c1, c2⟩ := lg_cut (xs ++ ys.take kk)
  have hBl : (crB xs ys (kk : Int)).length ≤ 16000 := by rw [hB, List.length_take]; omega
  have rl : ∀ zs : List Int, zs.length ≤ 16000 → rlN zs = lgN zs := fun zs h => by unfold rlN; rw [if_neg (by omega)]
  have hal : xs ++ ys = (xs ++ ys.take kk) ++ ys.drop kk := by rw [List.append_assoc, List.take_append_drop]
  have hal2 : xs ++ ys = crB xs ys (kk : Int) ++ ((xs ++ ys.take kk).drop (logU (xs ++ ys.take kk)) ++ ys.drop kk) := by rw [hB, ← List.append_assoc, List.take_append_drop, ← hal]
  rw [rl _ hBl, rl xs (by omega), rl (xs ++ ys) (by rw [List.length_append]; omega)]
  have hn : lgN (crB xs ys (kk : Int)) = lgN (xs ++ ys.take kk) := by rw [hB]; exact c1
  refine ⟨by rw [hn]; exact (lg_append _ _).1, by rw [hn, hal]; exact (lg_append _ _).1, ?_, ?_, fun hk => ?_⟩
  · unfold sameQ
    rw [sameL_all _ (fun i hi => ?_)]
    · simp
    · have h1 := (lg_append (crB xs ys (kk : Int)) ((xs ++ ys.take kk).drop (logU (xs ++ ys.take kk)) ++ ys.drop kk)).2 i hi
      rw [← hal2] at h1
      have := sameR_comm h1
      exact this
  · unfold lfQ
    rw [if_neg (by simp; omega), if_pos ⟨by rw [hB]; exact c2, rfl⟩]
  · have : kk = ys.length := by omega
    subst this
    rw [hn, List.take_length]

end Go.Proofs.Ytcjkjenebnodbaa

/-
  The program's PackAll.
-/
namespace Go.Proofs.Ytcjkjenebnodbaa
open Go.RowKit
set_option linter.unusedVariables false

/-- The code and the bytes of a record. -/
def rcQ (r : Rc) : Int := recQ r.k r.t r.g r.n r.P r.Z
def rcB (r : Rc) : List Int := pkB r.k r.t r.g r.n r.P r.Z
/-- The first fault of n records. -/
def paF (R : Nat → Rc) : Nat → Int
  | 0 => 0
  | n + 1 => if paF R n = 0 then rcQ (R n) else paF R n
/-- The bytes of n records. -/
def paB (R : Nat → Rc) : Nat → List Int
  | 0 => []
  | n + 1 => paB R n ++ rcB (R n)
def paQ (R : Nat → Rc) (n : Nat) : Int := if paF R n = 0 then (if 16000 < (paB R n).length then 2 else 0) else paF R n
def paA (R : Nat → Rc) (n : Nat) : List Int := if paQ R n = 0 then paB R n else []

theorem paF_stay (R : Nat → Rc) {j n : Nat} (h : paF R j ≠ 0) (hj : j ≤ n) : paF R n = paF R j := by
  induction n with
  | zero => have : j = 0 := by omega
            subst this; rfl
  | succ n ih =>
    by_cases e : j = n + 1
    · subst e; rfl
    · have := ih (by omega)
      simp only [paF]
      rw [if_neg (by rw [this]; exact h), this]
theorem paF_fault (R : Nat → Rc) {j n : Nat} (h : paF R j = 0) (hq : rcQ (R j) ≠ 0) (hj : j < n) : paF R n = rcQ (R j) := by
  have h1 : paF R (j + 1) = rcQ (R j) := by simp only [paF]; rw [if_pos h]
  rw [paF_stay R (j := j + 1) (by rw [h1]; exact hq) (by omega), h1]
theorem rcB_len (r : Rc) : (rcB r).length ≤ 7 + 2 * r.n + took r.Z r.n := by
  unfold rcB pkB
  split
  · rw [packB_len]; exact Nat.le_refl _
  · exact Nat.zero_le _
theorem paB_len (R : Nat → Rc) : ∀ j, (paB R j).length ≤ 7 * j + 2 * szR R j
  | 0 => Nat.le_refl _
  | j + 1 => by
    have h1 := paB_len R j
    have h2 := rcB_len (R j)
    simp only [paB, szR, List.length_append]
    omega

/-- The two cells of a BytesResult that is not told yet. -/
structure B2 (w : World) (V : World) : Prop where
  a0 : V.cell? ⟨w.heap.size, 0, none⟩ = some (.int .i64 0)
  a1 : V.cell? ⟨w.heap.size, 1, none⟩ = some (.slice none 0 0)
  f0 : V.frozen? ⟨w.heap.size, 0, none⟩ = false
  f1 : V.frozen? ⟨w.heap.size, 1, none⟩ = false
  g : Below w.heap.size w V
theorem B2.lt {w V : World} (h : B2 w V) : w.heap.size < V.heap.size := World.block_lt_of_cell? V _ h.a0
theorem B2.low {w V W : World} {B : Nat} (h : B2 w V) (hb : Below B V W) (h1 : w.heap.size < B) : B2 w W :=
  ⟨(hb.cell h1).trans h.a0, (hb.cell h1).trans h.a1, (hb.frozen h1).trans h.f0, (hb.frozen h1).trans h.f1, h.g.trans (hb.mono (Nat.le_of_lt h1))⟩
theorem B2.up {w V W : World} (h : B2 w V) (hb : Below V.heap.size V W) : B2 w W := h.low hb h.lt

/-- What PackAll answers. -/
def PaPost (w : World) (q : Int) (us : List Int) (e : Ending) (w' : World) : Prop := ∃ a c, e = .returned (.agg #[.int .i64 q, .slice a us.length c]) ∧ Below w.heap.size w w' ∧ BytesIn w.heap.size w'.heap.size w' a us ∧ us.length ≤ c ∧ c ≤ 9223372036854775807

set_option maxRecDepth 10000 in
set_option maxHeartbeats 4000000 in
theorem implPackAll_any (a : Option Addr) (n c : Nat) (R : Nat → Rc) (D : Nat → Ad) (w : World) (hm : n + szR R n ≤ 1048576) (hzb : Hid (∀ i, i < n → ∀ j, j < (R i).n → ∀ z ∈ (R i).Z j, 0 ≤ z ∧ z ≤ 255)) (hr : RecsRead w a n R D) :
    Calls Try.prog 17 #[.slice a n c] w fun e w' => PaPost w (paQ R n) (paA R n) e w' := by
  have HP : Hid (∀ i, i < n → ∀ X, Below w.heap.size w X → RunsRead w (D i).a (R i).n (R i).P (D i).A (D i).C (R i).Z → Calls Try.prog 36 #[.agg #[.int .i64 (R i).k, .int .i64 (R i).t, .int .i64 (R i).g, .slice (D i).a (R i).n (D i).c]] X fun e w' => ∃ a' d', e = .returned (.agg #[.int .i64 (rcQ (R i)), .slice a' (rcB (R i)).length d']) ∧ (rcB (R i)).length ≤ d' ∧ Below X.heap.size X w' ∧ BytesIn X.heap.size w'.heap.size w' a' (rcB (R i))) := fun i hi X g h => by
    have h1 := szR_one R i n hi
    exact implPackRecord_any _ _ _ _ _ _ _ _ _ _ X (by omega) (fun j hj => by have := took_one (R i).Z j (R i).n hj; omega) (hzb.out i hi) (h.below g (Nat.le_refl _))
  have HR : Hid (RecsRead w a n R D) := hr
  clear hr hzb
  go_enter Try.func17, Try.ntmps17
  go_upto_region 1 with (fail)
  generalize hY : World.alloc w _ = Y
  have hA : B2 w Y := by rw [← hY]; exact ⟨by simp [go_sem], by simp [go_sem], by simp [go_sem], by simp [go_sem], by go_grown⟩
  clear hY
  go_upto_region 3 with (fail)
  go_loopw [3, 9] (fun v i wr => ∃ j : Nat, j ≤ n ∧ i = .int .i64 j ∧ Hid (paF R j = 0) ∧ B2 w wr ∧ Gb (w.heap.size + 1) wr v (paB R j)) (fun _ i _ => n - (intOf i).toNat)
  case atStart => exact ⟨0, Nat.zero_le _, rfl, rfl, hA, Gb.nil _ _⟩
  case round =>
    obtain ⟨j, hj, rfl, hF, hB, hG⟩ := hrel
    clear hA
    by_cases hlt : j < n
    · have hjn : (j : Int) < (n : Int) := by omega
      obtain ⟨b, off, ha, hc⟩ : ∃ b off, a = some ⟨b, off, none⟩ ∧ _ := (by
        rcases HR.out with h | h
        · omega
        · exact h)
      have hcw := hc j hlt
      subst ha
      obtain ⟨e0, e1, e2, e3, e4⟩ := hcw
      have up : ∀ (p : Addr) (v : Value), w.cell? p = some v → wr.cell? p = some v := fun p v h => (hB.g.cell (World.block_lt_of_cell? w _ h)).trans h
      have e0 := up _ _ e0
      have e1 := up _ _ e1
      have e2 := up _ _ e2
      have e3 := up _ _ e3
      have HPj := HP.out j hlt
      have HPj : Hid (∀ X, Below w.heap.size w X → Calls Try.prog 36 #[.agg #[.int .i64 (R j).k, .int .i64 (R j).t, .int .i64 (R j).g, .slice (D j).a (R j).n (D j).c]] X fun e w' => ∃ a' d', e = .returned (.agg #[.int .i64 (rcQ (R j)), .slice a' (rcB (R j)).length d']) ∧ (rcB (R j)).length ≤ d' ∧ Below X.heap.size X w' ∧ BytesIn X.heap.size w'.heap.size w' a' (rcB (R j))) := fun X g => HPj X g e4
      have hlen := paB_len R j
      have hlen2 := rcB_len (R j)
      have hmono := szR_mono R (j + 1) n hlt
      have HS : Hid (szR R (j + 1) = szR R j + (R j).n + took (R j).Z (R j).n) := rfl
      have hbl : (paB R j).length + (rcB (R j)).length ≤ 100000000 := by have := HS.out; omega
      clear hc up e4 hlen hlen2 hmono
      have HQj : Hid (rcQ (R j) = rcQ (R j)) := rfl
      obtain ⟨q, hq⟩ : ∃ q, q = rcQ (R j) := ⟨_, rfl⟩
      have HQ : Hid (q = rcQ (R j)) := hq
      rw [← hq] at HPj
      clear hq HQj
      obtain ⟨us, hus⟩ : ∃ us, us = rcB (R j) := ⟨_, rfl⟩
      have HU : Hid (us = rcB (R j)) := hus
      rw [← hus] at HPj hbl
      clear hus
      obtain ⟨ul, hul⟩ : ∃ ul, us.length = ul := ⟨_, rfl⟩
      have HUl : Hid (us.length = ul) := hul
      rw [hul] at HPj
      clear hul
      go_upto_region 5 with (fail)
      generalize hY2 : World.alloc wr _ = Y2
      have gY : Below wr.heap.size wr Y2 := by rw [← hY2]; go_grown
      have r2 : RcAt Y2 wr.heap.size (R j).k (R j).t (R j).g (D j).a (R j).n (D j).c := by rw [← hY2]; exact ⟨by simp [go_sem], by simp [go_sem], by simp [go_sem], by simp [go_sem]⟩
      have hB := hB.up gY
      have hG := hG.grown gY
      clear hY2 gY e0 e1 e2 e3
      generalize wr.heap.size = bx at r2 ⊢
      obtain ⟨c0, c1, c2, c3⟩ := r2
      go_wp2_with fail
      refine (HPj.out _ hB.g).mono ?_
      rintro e w3 ⟨a3, d3, rfl, hd3, g3, y3⟩
      have hB := hB.up g3
      have hG := hG.grown g3
      clear g3 c0 c1 c2 c3
      go_upto_region 6 with (fail)
      generalize hY3 : World.alloc w3 _ = Y3
      have gY : Below w3.heap.size w3 Y3 := by rw [← hY3]; go_grown
      have p0 : Y3.cell? ⟨w3.heap.size, 0, none⟩ = some (.int .i64 q) := by rw [← hY3]; simp [go_sem]
      have p1 : Y3.cell? ⟨w3.heap.size, 1, none⟩ = some (.slice a3 ul d3) := by rw [← hY3]; simp [go_sem]
      have hB := hB.up gY
      have hG := hG.grown gY
      have HRd : Hid (Reads Y3 a3 us) := (y3.below gY).reads
      clear hY3 gY y3
      generalize w3.heap.size = bz at p0 p1 ⊢
      by_cases hq : q = 0
      · subst hq
        have HF2 : Hid (paF R (j + 1) = 0) := by show _ = _; simp only [paF]; rw [hF.out, if_pos rfl, ← HQ.out]
        have hs := hB.lt
        go_wp2_with (at_builtin; refine wpList_append_bytes _ rfl _ _ rfl (w.heap.size + 1) _ (paB R j) us a3 ul d3 rfl rfl HUl.out hG HRd.out hbl (by omega) ?_)
        intro v' w6 hG6 hgr6 hat6
        have hB6 := hB.low (Below.grown (Below.refl (w.heap.size + 1) Y3) hgr6 (by omega) (fun q e => (World.ownsRow.lt hG q e).1)) (Nat.lt_succ_self _)
        have HG6 : Hid (Gb (w.heap.size + 1) w6 v' (paB R (j + 1))) := by show Gb _ _ _ _; simp only [paB]; rw [← HU.out]; exact hG6
        clear hG hG6 hgr6 hat6 hB p0 p1
        go_wp2_with fail
        go_roundw
        case rel => exact ⟨j + 1, by omega, by go_num, HF2, hB6, HG6.out⟩
        case measure => simp [intOf]; omega
      · have HF2 : Hid (paF R n = q) := by show _ = _; rw [HQ.out]; exact paF_fault R hF.out (by rw [← HQ.out]; exact hq) hlt
        have HQ2 : Hid (paQ R n = q) := by show _ = _; unfold paQ; rw [HF2.out, if_neg hq]
        have HA2 : Hid (paA R n = []) := by show _ = _; unfold paA; rw [HQ2.out, if_neg hq]
        have hs := hB.lt
        have hg := hB.g
        obtain ⟨a0, a1, f0, f1, _⟩ := hB
        go_wp2_with fail
        refine bodyPost_ret (v := .agg #[.int .i64 q, .slice none 0 0]) (by simp [results, Try.results17, go_sem, *]) rfl ?_
        rw [HQ2.out, HA2.out]
        exact ⟨none, 0, rfl, by go_grown, .inl rfl, Nat.le_refl _, by omega⟩
    · have e : j = n := by omega
      subst e
      have hs := hB.lt
      have hg := hB.g
      obtain ⟨p, cp, rfl, hcp, hcm', hBy, _⟩ := hG.shape
      obtain ⟨L, hL⟩ : ∃ L, (paB R j).length = L := ⟨_, rfl⟩
      have HL : Hid ((paB R j).length = L) := hL
      have hlen := paB_len R j
      rw [hL] at hcp hlen ⊢
      clear hL hG
      obtain ⟨a0, a1, f0, f1, _⟩ := hB
      by_cases hbig : 16000 < L
      · have hb : (16000 : Int) < (L : Int) := by omega
        have HQ2 : Hid (paQ R j = 2) := by show _ = _; unfold paQ; rw [hF.out, if_pos rfl, HL.out, if_pos hbig]
        have HA2 : Hid (paA R j = []) := by show _ = _; unfold paA; rw [HQ2.out]; rfl
        go_wp2_with fail
        refine bodyPost_ret (v := .agg #[.int .i64 2, .slice none 0 0]) (by simp [results, Try.results17, go_sem, *]) rfl ?_
        rw [HQ2.out, HA2.out]
        exact ⟨none, 0, rfl, by go_grown, .inl rfl, Nat.le_refl _, by omega⟩
      · have hb : ¬ ((16000 : Int) < (L : Int)) := by omega
        have HQ2 : Hid (paQ R j = 0) := by show _ = _; unfold paQ; rw [hF.out, if_pos rfl, HL.out, if_neg hbig]
        have HA2 : Hid (paA R j = paB R j) := by show _ = _; unfold paA; rw [HQ2.out]; rfl
        have HBy : Hid (BytesIn (w.heap.size + 1) wr.heap.size wr p (paB R j)) := hBy
        clear hBy
        go_wp2_with fail
        refine bodyPost_ret (v := .agg #[.int .i64 0, .slice p L cp]) (by simp [results, Try.results17, go_sem, *]) rfl ?_
        rw [HQ2.out, HA2.out]
        refine ⟨p, cp, by rw [HL.out], by go_grown, ?_, by rw [HL.out]; exact hcp, hcm'⟩
        have T : Turned w.heap.size (w.heap.size + 1) wr _ := ((Turned.refl _ _ wr).setCell (p := ⟨w.heap.size, 0, none⟩) (by simp) (by simp) (.int .i64 0)).setCell (p := ⟨w.heap.size, 1, none⟩) (by simp) (by simp) (.slice p L cp)
        exact (HBy.out.turned T (.inr (Nat.le_refl _))).mono (by omega) (by simp)

end Go.Proofs.Ytcjkjenebnodbaa
