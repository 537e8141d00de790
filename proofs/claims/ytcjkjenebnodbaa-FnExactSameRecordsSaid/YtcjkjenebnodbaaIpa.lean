/-
  The program's PackAll.
-/
import Derived.Test.YtcjkjenebnodbaaRdq
import Derived.Test.YtcjkjenebnodbaaApb
namespace Go.Proofs.Ytcjkjenebnodbaa
open Go.RowKit
set_option linter.unusedVariables false

/-- The code and the bytes of a record. -/
def rcQ (r : Rc) : Int := recQ r.k r.t r.g r.n r.P r.Z
def rcB (r : Rc) : List Int := pkB r.k r.t r.g r.n r.P r.Z
/-- The first fault of n records. -/
def paF (R : Nat → Rc) : Nat → Int
  | 0 => 0
  | n + 1 => if paF R n = 0 then rcQ (R n) else paF R n
/-- The bytes of n records. -/
def paB (R : Nat → Rc) : Nat → List Int
  | 0 => []
  | n + 1 => paB R n ++ rcB (R n)
def paQ (R : Nat → Rc) (n : Nat) : Int := if paF R n = 0 then (if 16000 < (paB R n).length then 2 else 0) else paF R n
def paA (R : Nat → Rc) (n : Nat) : List Int := if paQ R n = 0 then paB R n else []

theorem paF_stay (R : Nat → Rc) {j n : Nat} (h : paF R j ≠ 0) (hj : j ≤ n) : paF R n = paF R j := by
  induction n with
  | zero => have : j = 0 := by omega
            subst this; rfl
  | succ n ih =>
    by_cases e : j = n + 1
    · subst e; rfl
    · have := ih (by omega)
      simp only [paF]
      rw [if_neg (by rw [this]; exact h), this]
theorem paF_fault (R : Nat → Rc) {j n : Nat} (h : paF R j = 0) (hq : rcQ (R j) ≠ 0) (hj : j < n) : paF R n = rcQ (R j) := by
  have h1 : paF R (j + 1) = rcQ (R j) := by simp only [paF]; rw [if_pos h]
  rw [paF_stay R (j := j + 1) (by rw [h1]; exact hq) (by omega), h1]
theorem rcB_len (r : Rc) : (rcB r).length ≤ 7 + 2 * r.n + took r.Z r.n := by
  unfold rcB pkB
  split
  · rw [packB_len]; exact Nat.le_refl _
  · exact Nat.zero_le _
theorem paB_len (R : Nat → Rc) : ∀ j, (paB R j).length ≤ 7 * j + 2 * szR R j
  | 0 => Nat.le_refl _
  | j + 1 => by
    have h1 := paB_len R j
    have h2 := rcB_len (R j)
    simp only [paB, szR, List.length_append]
    omega

/-- The two cells of a BytesResult that is not told yet. -/
structure B2 (w : World) (V : World) : Prop where
  a0 : V.cell? ⟨w.heap.size, 0, none⟩ = some (.int .i64 0)
  a1 : V.cell? ⟨w.heap.size, 1, none⟩ = some (.slice none 0 0)
  f0 : V.frozen? ⟨w.heap.size, 0, none⟩ = false
  f1 : V.frozen? ⟨w.heap.size, 1, none⟩ = false
  g : Below w.heap.size w V
theorem B2.lt {w V : World} (h : B2 w V) : w.heap.size < V.heap.size := World.block_lt_of_cell? V _ h.a0
theorem B2.low {w V W : World} {B : Nat} (h : B2 w V) (hb : Below B V W) (h1 : w.heap.size < B) : B2 w W :=
  ⟨(hb.cell h1).trans h.a0, (hb.cell h1).trans h.a1, (hb.frozen h1).trans h.f0, (hb.frozen h1).trans h.f1, h.g.trans (hb.mono (Nat.le_of_lt h1))⟩
theorem B2.up {w V W : World} (h : B2 w V) (hb : Below V.heap.size V W) : B2 w W := h.low hb h.lt

/-- What PackAll answers. -/
def PaPost (w : World) (q : Int) (us : List Int) (e : Ending) (w' : World) : Prop := ∃ a c, e = .returned (.agg #[.int .i64 q, .slice a us.length c]) ∧ Below w.heap.size w w' ∧ BytesIn w.heap.size w'.heap.size w' a us ∧ us.length ≤ c ∧ c ≤ 9223372036854775807

set_option maxRecDepth 10000 in
set_option maxHeartbeats 4000000 in
theorem implPackAll_any (a : Option Addr) (n c : Nat) (R : Nat → Rc) (D : Nat → Ad) (w : World) (hm : n + szR R n ≤ 1048576) (hzb : Hid (∀ i, i < n → ∀ j, j < (R i).n → ∀ z ∈ (R i).Z j, 0 ≤ z ∧ z ≤ 255)) (hr : RecsRead w a n R D) :
    Calls Try.prog 17 #[.slice a n c] w fun e w' => PaPost w (paQ R n) (paA R n) e w' := by
  have HP : Hid (∀ i, i < n → ∀ X, Below w.heap.size w X → RunsRead w (D i).a (R i).n (R i).P (D i).A (D i).C (R i).Z → Calls Try.prog 36 #[.agg #[.int .i64 (R i).k, .int .i64 (R i).t, .int .i64 (R i).g, .slice (D i).a (R i).n (D i).c]] X fun e w' => ∃ a' d', e = .returned (.agg #[.int .i64 (rcQ (R i)), .slice a' (rcB (R i)).length d']) ∧ (rcB (R i)).length ≤ d' ∧ Below X.heap.size X w' ∧ BytesIn X.heap.size w'.heap.size w' a' (rcB (R i))) := fun i hi X g h => by
    have h1 := szR_one R i n hi
    exact implPackRecord_any _ _ _ _ _ _ _ _ _ _ X (by omega) (fun j hj => by have := took_one (R i).Z j (R i).n hj; omega) (hzb.out i hi) (h.below g (Nat.le_refl _))
  have HR : Hid (RecsRead w a n R D) := hr
  clear hr hzb
  go_enter Try.func17, Try.ntmps17
  go_upto_region 1 with (fail)
  generalize hY : World.alloc w _ = Y
  have hA : B2 w Y := by rw [← hY]; exact ⟨by simp [go_sem], by simp [go_sem], by simp [go_sem], by simp [go_sem], by go_grown⟩
  clear hY
  go_upto_region 3 with (fail)
  go_loopw [3, 9] (fun v i wr => ∃ j : Nat, j ≤ n ∧ i = .int .i64 j ∧ Hid (paF R j = 0) ∧ B2 w wr ∧ Gb (w.heap.size + 1) wr v (paB R j)) (fun _ i _ => n - (intOf i).toNat)
  case atStart => exact ⟨0, Nat.zero_le _, rfl, rfl, hA, Gb.nil _ _⟩
  case round =>
    obtain ⟨j, hj, rfl, hF, hB, hG⟩ := hrel
    clear hA
    by_cases hlt : j < n
    · have hjn : (j : Int) < (n : Int) := by omega
      obtain ⟨b, off, ha, hc⟩ : ∃ b off, a = some ⟨b, off, none⟩ ∧ _ := (by
        rcases HR.out with h | h
        · omega
        · exact h)
      have hcw := hc j hlt
      subst ha
      obtain ⟨e0, e1, e2, e3, e4⟩ := hcw
      have up : ∀ (p : Addr) (v : Value), w.cell? p = some v → wr.cell? p = some v := fun p v h => (hB.g.cell (World.block_lt_of_cell? w _ h)).trans h
      have e0 := up _ _ e0
      have e1 := up _ _ e1
      have e2 := up _ _ e2
      have e3 := up _ _ e3
      have HPj := HP.out j hlt
      have HPj : Hid (∀ X, Below w.heap.size w X → Calls Try.prog 36 #[.agg #[.int .i64 (R j).k, .int .i64 (R j).t, .int .i64 (R j).g, .slice (D j).a (R j).n (D j).c]] X fun e w' => ∃ a' d', e = .returned (.agg #[.int .i64 (rcQ (R j)), .slice a' (rcB (R j)).length d']) ∧ (rcB (R j)).length ≤ d' ∧ Below X.heap.size X w' ∧ BytesIn X.heap.size w'.heap.size w' a' (rcB (R j))) := fun X g => HPj X g e4
      have hlen := paB_len R j
      have hlen2 := rcB_len (R j)
      have hmono := szR_mono R (j + 1) n hlt
      have HS : Hid (szR R (j + 1) = szR R j + (R j).n + took (R j).Z (R j).n) := rfl
      have hbl : (paB R j).length + (rcB (R j)).length ≤ 100000000 := by have := HS.out; omega
      clear hc up e4 hlen hlen2 hmono
      have HQj : Hid (rcQ (R j) = rcQ (R j)) := rfl
      obtain ⟨q, hq⟩ : ∃ q, q = rcQ (R j) := ⟨_, rfl⟩
      have HQ : Hid (q = rcQ (R j)) := hq
      rw [← hq] at HPj
      clear hq HQj
      obtain ⟨us, hus⟩ : ∃ us, us = rcB (R j) := ⟨_, rfl⟩
      have HU : Hid (us = rcB (R j)) := hus
      rw [← hus] at HPj hbl
      clear hus
      obtain ⟨ul, hul⟩ : ∃ ul, us.length = ul := ⟨_, rfl⟩
      have HUl : Hid (us.length = ul) := hul
      rw [hul] at HPj
      clear hul
      go_upto_region 5 with (fail)
      generalize hY2 : World.alloc wr _ = Y2
      have gY : Below wr.heap.size wr Y2 := by rw [← hY2]; go_grown
      have r2 : RcAt Y2 wr.heap.size (R j).k (R j).t (R j).g (D j).a (R j).n (D j).c := by rw [← hY2]; exact ⟨by simp [go_sem], by simp [go_sem], by simp [go_sem], by simp [go_sem]⟩
      have hB := hB.up gY
      have hG := hG.grown gY
      clear hY2 gY e0 e1 e2 e3
      generalize wr.heap.size = bx at r2 ⊢
      obtain ⟨c0, c1, c2, c3⟩ := r2
      go_wp2_with fail
      refine (HPj.out _ hB.g).mono ?_
      rintro e w3 ⟨a3, d3, rfl, hd3, g3, y3⟩
      have hB := hB.up g3
      have hG := hG.grown g3
      clear g3 c0 c1 c2 c3
      go_upto_region 6 with (fail)
      generalize hY3 : World.alloc w3 _ = Y3
      have gY : Below w3.heap.size w3 Y3 := by rw [← hY3]; go_grown
      have p0 : Y3.cell? ⟨w3.heap.size, 0, none⟩ = some (.int .i64 q) := by rw [← hY3]; simp [go_sem]
      have p1 : Y3.cell? ⟨w3.heap.size, 1, none⟩ = some (.slice a3 ul d3) := by rw [← hY3]; simp [go_sem]
      have hB := hB.up gY
      have hG := hG.grown gY
      have HRd : Hid (Reads Y3 a3 us) := (y3.below gY).reads
      clear hY3 gY y3
      generalize w3.heap.size = bz at p0 p1 ⊢
      by_cases hq : q = 0
      · subst hq
        have HF2 : Hid (paF R (j + 1) = 0) := by show _ = _; simp only [paF]; rw [hF.out, if_pos rfl, ← HQ.out]
        have hs := hB.lt
        go_wp2_with (at_builtin; refine wpList_append_bytes _ rfl _ _ rfl (w.heap.size + 1) _ (paB R j) us a3 ul d3 rfl rfl HUl.out hG HRd.out hbl (by omega) ?_)
        intro v' w6 hG6 hgr6 hat6
        have hB6 := hB.low (Below.grown (Below.refl (w.heap.size + 1) Y3) hgr6 (by omega) (fun q e => (World.ownsRow.lt hG q e).1)) (Nat.lt_succ_self _)
        have HG6 : Hid (Gb (w.heap.size + 1) w6 v' (paB R (j + 1))) := by show Gb _ _ _ _; simp only [paB]; rw [← HU.out]; exact hG6
        clear hG hG6 hgr6 hat6 hB p0 p1
        go_wp2_with fail
        go_roundw
        case rel => exact ⟨j + 1, by omega, by go_num, HF2, hB6, HG6.out⟩
        case measure => simp [intOf]; omega
      · have HF2 : Hid (paF R n = q) := by show _ = _; rw [HQ.out]; exact paF_fault R hF.out (by rw [← HQ.out]; exact hq) hlt
        have HQ2 : Hid (paQ R n = q) := by show _ = _; unfold paQ; rw [HF2.out, if_neg hq]
        have HA2 : Hid (paA R n = []) := by show _ = _; unfold paA; rw [HQ2.out, if_neg hq]
        have hs := hB.lt
        have hg := hB.g
        obtain ⟨a0, a1, f0, f1, _⟩ := hB
        go_wp2_with fail
        refine bodyPost_ret (v := .agg #[.int .i64 q, .slice none 0 0]) (by simp [results, Try.results17, go_sem, *]) rfl ?_
        rw [HQ2.out, HA2.out]
        exact ⟨none, 0, rfl, by go_grown, .inl rfl, Nat.le_refl _, by omega⟩
    · have e : j = n := by omega
      subst e
      have hs := hB.lt
      have hg := hB.g
      obtain ⟨p, cp, rfl, hcp, hcm', hBy, _⟩ := hG.shape
      obtain ⟨L, hL⟩ : ∃ L, (paB R j).length = L := ⟨_, rfl⟩
      have HL : Hid ((paB R j).length = L) := hL
      have hlen := paB_len R j
      rw [hL] at hcp hlen ⊢
      clear hL hG
      obtain ⟨a0, a1, f0, f1, _⟩ := hB
      by_cases hbig : 16000 < L
      · have hb : (16000 : Int) < (L : Int) := by omega
        have HQ2 : Hid (paQ R j = 2) := by show _ = _; unfold paQ; rw [hF.out, if_pos rfl, HL.out, if_pos hbig]
        have HA2 : Hid (paA R j = []) := by show _ = _; unfold paA; rw [HQ2.out]; rfl
        go_wp2_with fail
        refine bodyPost_ret (v := .agg #[.int .i64 2, .slice none 0 0]) (by simp [results, Try.results17, go_sem, *]) rfl ?_
        rw [HQ2.out, HA2.out]
        exact ⟨none, 0, rfl, by go_grown, .inl rfl, Nat.le_refl _, by omega⟩
      · have hb : ¬ ((16000 : Int) < (L : Int)) := by omega
        have HQ2 : Hid (paQ R j = 0) := by show _ = _; unfold paQ; rw [hF.out, if_pos rfl, HL.out, if_neg hbig]
        have HA2 : Hid (paA R j = paB R j) := by show _ = _; unfold paA; rw [HQ2.out]; rfl
        have HBy : Hid (BytesIn (w.heap.size + 1) wr.heap.size wr p (paB R j)) := hBy
        clear hBy
        go_wp2_with fail
        refine bodyPost_ret (v := .agg #[.int .i64 0, .slice p L cp]) (by simp [results, Try.results17, go_sem, *]) rfl ?_
        rw [HQ2.out, HA2.out]
        refine ⟨p, cp, by rw [HL.out], by go_grown, ?_, by rw [HL.out]; exact hcp, hcm'⟩
        have T : Turned w.heap.size (w.heap.size + 1) wr _ := ((Turned.refl _ _ wr).setCell (p := ⟨w.heap.size, 0, none⟩) (by simp) (by simp) (.int .i64 0)).setCell (p := ⟨w.heap.size, 1, none⟩) (by simp) (by simp) (.slice p L cp)
        exact (HBy.out.turned T (.inr (Nat.le_refl _))).mono (by omega) (by simp)

end Go.Proofs.Ytcjkjenebnodbaa
