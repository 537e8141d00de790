/-
  The program's SameRecords, whole.
-/
import Derived.Test.YtcjkjenebnodbaaDoorSSzg
import Derived.Test.YtcjkjenebnodbaaDoorSIrr

namespace Go.Proofs.YtcjkjenebnodbaaDoor
open Go.RowKit
set_option linter.unusedVariables false

/-- Whether two records are the same. -/
def sameR (r s : Rc) : Bool := decide (r.k = s.k) && (decide (r.t = s.t) && (decide (r.g = s.g) && rsQ r.n s.n r.P s.P r.Z s.Z))
def sameL (R S : Nat → Rc) : Nat → Bool
  | 0 => true
  | n + 1 => sameL R S n && sameR (R n) (S n)
def sameQ (n m : Nat) (R S : Nat → Rc) : Bool := decide (n = m) && sameL R S n
theorem sameL_stay {R S : Nat → Rc} {j n : Nat} (h : sameL R S j = false) (hj : j ≤ n) : sameL R S n = false := by
  induction n with
  | zero => have : j = 0 := by omega
            subst this; exact h
  | succ n ih =>
    by_cases e : j = n + 1
    · subst e; exact h
    · simp only [sameL]; rw [ih (by omega)]; rfl

/-- A record that is read: its runs are few and small. -/
structure RcOk (w : World) (r : Rc) (d : Ad) : Prop where
  rd : RunsRead w d.a r.n r.P d.A d.C r.Z
  sm : r.n ≤ 1048576
  bd : ∀ i, i < r.n → ∀ z ∈ r.Z i, 0 ≤ z ∧ z ≤ 255
theorem RcOk.below {w w' : World} {r : Rc} {d : Ad} (h : RcOk w r d) {B : Nat} (hb : Below B w w') (hB : w.heap.size ≤ B) : RcOk w' r d := ⟨h.rd.below hb hB, h.sm, h.bd⟩

set_option maxHeartbeats 2000000 in
theorem sameRecord_any (r s : Rc) (d e' : Ad) (w : World) (hr : RcOk w r d) (hs : RcOk w s e') :
    Calls Tryd.prog 36 #[.agg #[.int .i64 r.k, .int .i64 r.t, .int .i64 r.g, .slice d.a r.n d.c], .agg #[.int .i64 s.k, .int .i64 s.t, .int .i64 s.g, .slice e'.a s.n e'.c]] w fun e w' => e = .returned (.bool (sameR r s)) ∧ Below w.heap.size w w' := by
  have HC : Hid (∀ X, Below w.heap.size w X → Calls Tryd.prog 58 #[.slice d.a r.n d.c, .slice e'.a s.n e'.c, .func (.func 59) #[] #[]] X fun e w' => e = .returned (.bool (rsQ r.n s.n r.P s.P r.Z s.Z)) ∧ Below X.heap.size X w') := fun X g => equalRuns_any _ _ _ _ _ _ _ _ _ _ _ _ _ _ X hr.sm hs.sm (hr.rd.below g (Nat.le_refl _)) (hs.rd.below g (Nat.le_refl _)) hr.bd hs.bd
  have HS : Hid (sameR r s = (decide (r.k = s.k) && (decide (r.t = s.t) && (decide (r.g = s.g) && rsQ r.n s.n r.P s.P r.Z s.Z)))) := rfl
  clear hr hs
  generalize rsQ r.n s.n r.P s.P r.Z s.Z = tq at HC HS
  generalize sameR r s = sr at HS ⊢
  generalize r.k = k at HS ⊢
  generalize r.t = t at HS ⊢
  generalize r.g = g at HS ⊢
  generalize r.n = n at HC ⊢
  generalize s.k = k' at HS ⊢
  generalize s.t = t' at HS ⊢
  generalize s.g = g' at HS ⊢
  generalize s.n = m at HC ⊢
  by_cases h1 : k = k'
  · subst h1
    by_cases h2 : t = t'
    · subst h2
      by_cases h3 : g = g'
      · subst h3
        have HS2 : Hid (sr = tq) := by show _ = _; rw [HS.out]; simp
        clear HS
        go_enter Tryd.func36, Tryd.ntmps36
        go_wp2_with fail
        refine (HC.out _ (by go_grown)).mono ?_
        rintro e w' ⟨rfl, hb⟩
        have gg : Below w.heap.size w w' := Below.trans (by go_grown) (hb.mono (by simp; omega))
        clear hb
        go_wp2_with fail
        go_ret
        exact ⟨by rw [HS2.out]; rfl, gg⟩
      · have HS2 : Hid (sr = false) := by show _ = _; rw [HS.out]; simp [h3]
        have d3 : decide (g = g') = false := by simpa using h3
        clear HS
        go_enter Tryd.func36, Tryd.ntmps36
        go_wp2_with fail
        go_ret
        exact ⟨by rw [HS2.out]; rfl, by go_grown⟩
    · have HS2 : Hid (sr = false) := by show _ = _; rw [HS.out]; simp [h2]
      have d2 : decide (t = t') = false := by simpa using h2
      clear HS
      go_enter Tryd.func36, Tryd.ntmps36
      go_wp2_with fail
      go_ret
      exact ⟨by rw [HS2.out]; rfl, by go_grown⟩
  · have HS2 : Hid (sr = false) := by show _ = _; rw [HS.out]; simp [h1]
    have d1 : decide (k = k') = false := by simpa using h1
    clear HS
    go_enter Tryd.func36, Tryd.ntmps36
    go_wp2_with fail
    go_ret
    exact ⟨by rw [HS2.out]; rfl, by go_grown⟩

set_option maxHeartbeats 2000000 in
theorem equalRecs_any (a b : Option Addr) (n m c d : Nat) (R S : Nat → Rc) (D E : Nat → Ad) (w : World) (hn : n ≤ 1048576) (hm : m ≤ 1048576) (hx : RecsRead w a n R D) (hy : RecsRead w b m S E) (hz : ∀ i, i < n → (R i).n ≤ 1048576 ∧ ∀ j, j < (R i).n → ∀ z ∈ (R i).Z j, 0 ≤ z ∧ z ≤ 255) (hz' : ∀ i, i < m → (S i).n ≤ 1048576 ∧ ∀ j, j < (S i).n → ∀ z ∈ (S i).Z j, 0 ≤ z ∧ z ≤ 255) :
    Calls Tryd.prog 35 #[.slice a n c, .slice b m d, .func (.func 36) #[] #[]] w fun e w' => e = .returned (.bool (sameQ n m R S)) ∧ Below w.heap.size w w' := by
  by_cases hnm : n = m
  · subst hnm
    by_cases h0 : n = 0
    · subst h0
      go_enter Tryd.func35, Tryd.ntmps35
      go_wp2_with fail
      go_rounds 1
      go_ret
      exact ⟨by simp [sameQ, sameL], Below.refl _ _⟩
    have HX : Hid (RecsRead w a n R D) := hx
    have HY : Hid (RecsRead w b n S E) := hy
    have HZ : Hid (∀ i, i < n → (R i).n ≤ 1048576 ∧ ∀ j, j < (R i).n → ∀ z ∈ (R i).Z j, 0 ≤ z ∧ z ≤ 255) := hz
    have HZ' : Hid (∀ i, i < n → (S i).n ≤ 1048576 ∧ ∀ j, j < (S i).n → ∀ z ∈ (S i).Z j, 0 ≤ z ∧ z ≤ 255) := hz'
    obtain ⟨x, xo, rfl⟩ : ∃ x xo, a = some ⟨x, xo, none⟩ := by
      rcases hx with h | ⟨x, xo, h, _⟩
      · exact absurd h h0
      · exact ⟨x, xo, h⟩
    obtain ⟨y, yo, rfl⟩ : ∃ y yo, b = some ⟨y, yo, none⟩ := by
      rcases hy with h | ⟨x, xo, h, _⟩
      · exact absurd h h0
      · exact ⟨x, xo, h⟩
    clear hx hy hz hz'
    go_enter Tryd.func35, Tryd.ntmps35
    go_wp2_with fail
    go_loopw [17] (fun i wr => ∃ k : Nat, k ≤ n ∧ i = .int .i64 k ∧ Below w.heap.size w wr ∧ Hid (sameL R S k = true)) (fun i _ => n - (intOf i).toNat)
    case atStart => exact ⟨0, Nat.zero_le _, rfl, Below.refl _ _, rfl⟩
    case round =>
      obtain ⟨k, hk, rfl, g, hT⟩ := hrel
      by_cases hlt : k < n
      · obtain ⟨x0, x1, x2, x3, x4⟩ := (HX.out.below g (Nat.le_refl _)).at_ k hlt
        obtain ⟨y0, y1, y2, y3, y4⟩ := (HY.out.below g (Nat.le_refl _)).at_ k hlt
        have hkn : (k : Int) < (n : Int) := by omega
        have hlx : x < wr.heap.size := World.block_lt_of_cell? wr _ x0
        have hly : y < wr.heap.size := World.block_lt_of_cell? wr _ y0
        have HC : Hid (∀ X, Below wr.heap.size wr X → Calls Tryd.prog 36 #[.agg #[.int .i64 (R k).k, .int .i64 (R k).t, .int .i64 (R k).g, .slice (D k).a (R k).n (D k).c], .agg #[.int .i64 (S k).k, .int .i64 (S k).t, .int .i64 (S k).g, .slice (E k).a (S k).n (E k).c]] X fun e w' => e = .returned (.bool (sameR (R k) (S k))) ∧ Below X.heap.size X w') := fun X gX => sameRecord_any (R k) (S k) (D k) (E k) X (RcOk.below ⟨x4, (HZ.out k hlt).1, (HZ.out k hlt).2⟩ gX (Nat.le_refl _)) (RcOk.below ⟨y4, (HZ'.out k hlt).1, (HZ'.out k hlt).2⟩ gX (Nat.le_refl _))
        obtain ⟨t, ht⟩ : ∃ t, t = sameR (R k) (S k) := ⟨_, rfl⟩
        have HTt : Hid (t = true → sameL R S (k + 1) = true) := fun h => by simp only [sameL]; rw [hT.out, ← ht, h]; rfl
        have HTf : Hid (t = false → sameL R S n = false) := fun h => sameL_stay (j := k + 1) (by simp only [sameL]; rw [hT.out, ← ht, h]; rfl) (by omega)
        rw [← ht] at HC
        clear ht x4 y4
        generalize R k = r at x0 x1 x2 x3 HC
        generalize S k = s at y0 y1 y2 y3 HC
        go_wp2_with fail
        refine (HC.out _ (by go_grown)).mono ?_
        rintro e w' ⟨rfl, hb⟩
        have g : Below w.heap.size w w' := g.trans (Below.mono (B := wr.heap.size) (Below.trans (by go_grown) (hb.mono (by simp; omega))) g.size)
        clear hb x0 x1 x2 x3 y0 y1 y2 y3 HC
        cases t with
        | true =>
          have HT2 : Hid (sameL R S (k + 1) = true) := HTt.out rfl
          go_wp2_with fail
          go_roundw
          case rel => exact ⟨k + 1, by omega, by go_num, g, HT2⟩
          case measure => simp [intOf]; omega
        | false =>
          have HF : Hid (sameL R S n = false) := HTf.out rfl
          go_wp2_with fail
          go_ret
          exact ⟨by simp [sameQ, HF.out], g⟩
      · have e : k = n := by omega
        subst e
        go_wp2_with fail
        go_ret
        exact ⟨by simp [sameQ, hT.out], g⟩
  · have hd : ¬ ((n : Int) = (m : Int)) := by omega
    go_enter Tryd.func35, Tryd.ntmps35
    go_wp2_with fail
    go_ret
    exact ⟨by simp [sameQ, hnm], Below.refl _ _⟩

set_option maxHeartbeats 400000 in
theorem implSameRecords_any (a b : Option Addr) (n m c d : Nat) (R S : Nat → Rc) (D E : Nat → Ad) (w : World) (hn : n ≤ 1048576) (hm : m ≤ 1048576) (hx : RecsRead w a n R D) (hy : RecsRead w b m S E) (hz : ∀ i, i < n → (R i).n ≤ 1048576 ∧ ∀ j, j < (R i).n → ∀ z ∈ (R i).Z j, 0 ≤ z ∧ z ≤ 255) (hz' : ∀ i, i < m → (S i).n ≤ 1048576 ∧ ∀ j, j < (S i).n → ∀ z ∈ (S i).Z j, 0 ≤ z ∧ z ≤ 255) :
    Calls Tryd.prog 14 #[.slice a n c, .slice b m d] w fun e w' => e = .returned (.bool (sameQ n m R S)) ∧ Below w.heap.size w w' := by
  have HC : Hid (Calls Tryd.prog 35 #[.slice a n c, .slice b m d, .func (.func 36) #[] #[]] w fun e w' => e = .returned (.bool (sameQ n m R S)) ∧ Below w.heap.size w w') := equalRecs_any a b n m c d R S D E w hn hm hx hy hz hz'
  generalize sameQ n m R S = q at HC ⊢
  clear hx hy hz hz'
  go_enter Tryd.func14, Tryd.ntmps14
  go_wp2_with fail
  refine HC.out.mono ?_
  rintro e w' ⟨rfl, hb⟩
  go_wp2_with fail
  go_ret
  exact ⟨rfl, hb⟩

end Go.Proofs.YtcjkjenebnodbaaDoor

/-
  Plain facts: a packed record is read back, whatever stands behind it; one that was read is packed again; one that is cut is none.
-/
namespace Go.Proofs.YtcjkjenebnodbaaDoor
open Go.RowKit
set_option linter.unusedVariables false

/-- What a record's fault and bytes are. -/
def rcQ (r : Rc) : Int := recQ r.k r.t r.g r.n r.P r.Z
def rcB (r : Rc) : List Int := pkB r.k r.t r.g r.n r.P r.Z
theorem rsB_all {P P' : Nat → Int} {Z Z' : Nat → List Int} : ∀ n, (∀ i, i < n → P i = P' i ∧ Z i = Z' i) → rsB P P' Z Z' n = true
  | 0, _ => rfl
  | n + 1, h => by
    simp only [rsB]
    rw [rsB_all n (fun i hi => h i (by omega)), (h n (by omega)).1, (h n (by omega)).2]
    simp

/-- A run in the bytes of runs. -/
theorem runB_split (P : Nat → Int) (Z : Nat → List Int) (j : Nat) : ∀ n, j < n → ∃ T, runB P Z n = runB P Z j ++ ([P j % 256, ((Z j).length : Int)] ++ Z j) ++ T
  | 0, h => by omega
  | n + 1, h => by
    by_cases e : j = n
    · subst e
      exact ⟨[], by simp [runB]⟩
    · obtain ⟨T, hT⟩ := runB_split P Z j n (by omega)
      exact ⟨T ++ ([P n % 256, ((Z n).length : Int)] ++ Z n), by simp only [runB]; rw [hT]; simp only [List.append_assoc]⟩

theorem getD_app (H L : List Int) (i : Nat) (d : Int) : (H ++ L).getD (H.length + i) d = L.getD i d := by
  simp only [List.getD]
  rw [List.getElem?_append_right (by omega), Nat.add_sub_cancel_left]

/-- Five numbers in front, then runs, then whatever. -/
theorem read_runs {F H T : List Int} {P : Nat → Int} {Z : Nat → List Int} {n : Nat} (hF : F = H ++ runB P Z n ++ T) (h5 : H.length = 5) (h4 : H.getD 4 0 = (n : Int)) :
    (∀ j, j ≤ n → pos F j = 5 + 2 * j + took Z j) ∧ cnt F = n ∧ ∀ j, j < n → rP F j = P j % 256 ∧ rZ F j = Z j := by
  have key : ∀ j, j < n → ∀ q, q = 5 + 2 * j + took Z j → F.getD q 0 = P j % 256 ∧ F.getD (q + 1) 0 = ((Z j).length : Int) ∧ (F.drop (q + 2)).take (Z j).length = Z j := fun j hj q hq => by
    obtain ⟨U, hU⟩ := runB_split P Z j n hj
    have hl : (H ++ runB P Z j).length = q := by rw [List.length_append, h5, runB_len]; omega
    have e : F = (H ++ runB P Z j) ++ ((P j % 256) :: (((Z j).length : Int) :: (Z j ++ (U ++ T)))) := by rw [hF, hU]; simp only [List.append_assoc, List.cons_append, List.nil_append]
    have e0 := getD_app (H ++ runB P Z j) ((P j % 256) :: (((Z j).length : Int) :: (Z j ++ (U ++ T)))) 0 0
    have e1 := getD_app (H ++ runB P Z j) ((P j % 256) :: (((Z j).length : Int) :: (Z j ++ (U ++ T)))) 1 0
    rw [hl, ← e] at e0 e1
    refine ⟨e0, e1, ?_⟩
    rw [e, ← hl, ← List.drop_drop, List.drop_left]
    simp
  have hpos : ∀ j, j ≤ n → pos F j = 5 + 2 * j + took Z j := fun j => by
    induction j with
    | zero => intro _; rfl
    | succ j ih =>
      intro hj
      have h1 := ih (by omega)
      obtain ⟨_, k2, _⟩ := key j (by omega) (pos F j) h1
      simp only [pos, took]
      unfold lenAt
      rw [k2, Int.toNat_natCast, h1]
      omega
  have hFl : F.length = 5 + 2 * n + took Z n + T.length := by rw [hF]; simp only [List.length_append, h5, runB_len]; omega
  have h4F : F.getD 4 0 = (n : Int) := by
    rw [hF, List.append_assoc]
    simp only [List.getD] at h4 ⊢
    rw [List.getElem?_append_left (by omega)]
    exact h4
  refine ⟨hpos, ?_, fun j hj => ?_⟩
  · unfold cnt
    rw [h4F, Int.toNat_natCast, rdC_all F n 0 (fun i _ hi => ?_), Nat.zero_add]
    unfold fit
    rw [hpos (i + 1) (by omega), hFl]
    have h1 : took Z (i + 1) ≤ took Z n := took_mono Z (i + 1) n (by omega)
    omega
  · obtain ⟨k1, k2, k3⟩ := key j hj (pos F j) (hpos j (by omega))
    refine ⟨k1, ?_⟩
    unfold rZ lenAt
    rw [k2, Int.toNat_natCast]
    exact k3

theorem recB1_form (k tx pg : Int) (n : Nat) (P : Nat → Int) (Z : Nat → List Int) : recB1 k tx pg n P Z = [((recB0 k tx pg n n P Z).length : Int) + 2, k % 256, tx % 256, pg % 256, (n : Int)] ++ runB P Z n := by
  unfold recB1
  generalize ((recB0 k tx pg n n P Z).length : Int) + 2 = q
  unfold recB0
  rfl

theorem rec_small {k tx pg : Int} {n : Nat} {P : Nat → Int} {Z : Nat → List Int} (h : recQ k tx pg n P Z = 0) : k % 256 = k ∧ tx % 256 = tx ∧ pg % 256 = pg ∧ (∀ i, i < n → P i % 256 = P i) := by
  obtain ⟨h1, h2, h3, h4, h5, h6, h7⟩ := rec_ok h
  obtain ⟨_, hr, _⟩ := rf_ok h7
  exact ⟨by omega, by omega, by omega, fun i hi => by have := hr i hi; omega⟩

/-- A packed record is read back, whatever stands behind it. -/
theorem pack_back {r : Rc} (h : rcQ r = 0) (T : List Int) : OkI (rcB r ++ T) ∧ len0 (rcB r ++ T) = (rcB r).length ∧ sameR ⟨kR (rcB r ++ T) 1, kR (rcB r ++ T) 2, kR (rcB r ++ T) 3, nR (rcB r ++ T), rP (rcB r ++ T), rZ (rcB r ++ T)⟩ r = true := by
  obtain ⟨k, t, g, n, P, Z⟩ := r
  unfold rcQ at h
  simp only at h
  have hB : rcB ⟨k, t, g, n, P, Z⟩ = packB k t g n P Z := by unfold rcB pkB; rw [if_pos h]
  rw [hB]
  obtain ⟨sk, st, sg, sP⟩ := rec_small h
  obtain ⟨S, hS⟩ : ∃ S, packB k t g n P Z = recB1 k t g n P Z ++ S := ⟨_, rfl⟩
  have hl0 := recB0_len k t g n n P Z
  have hF : packB k t g n P Z ++ T = [((recB0 k t g n n P Z).length : Int) + 2, k % 256, t % 256, g % 256, (n : Int)] ++ runB P Z n ++ (S ++ T) := by rw [hS, recB1_form]; simp only [List.append_assoc]
  obtain ⟨h1, h2, h3⟩ := read_runs hF rfl rfl
  have hlen := packB_len k t g n P Z
  obtain ⟨F, hFF⟩ : ∃ F, packB k t g n P Z ++ T = F := ⟨_, rfl⟩
  rw [hFF] at h1 h2 h3 hF ⊢
  have g0 : F.getD 0 0 = ((packB k t g n P Z).length : Int) := by
    rw [hF, hlen, hl0]
    show _ + 2 = _
    omega
  have g1 : F.getD 1 0 = k := by rw [hF]; exact sk
  have g2 : F.getD 2 0 = t := by rw [hF]; exact st
  have g3 : F.getD 3 0 = g := by rw [hF]; exact sg
  have hP : ∀ i, i < n → rP F i = P i := fun i hi => by rw [(h3 i hi).1, sP i hi]
  have hZ : ∀ i, i < n → rZ F i = Z i := fun i hi => (h3 i hi).2
  have hq : rdQ F = 0 := by unfold rdQ; rw [g1, g2, g3, h2, recQ_congr k t g n hP hZ]; exact h
  have hb : rdB F = packB k t g n P Z := by unfold rdB; rw [g1, g2, g3, h2, packB_congr k t g n hP hZ]
  have hFl : (packB k t g n P Z).length ≤ F.length := by rw [← hFF, List.length_append]; omega
  have hk : OkI F := ⟨by omega, hq, by rw [hb, ← hFF, List.take_left]⟩
  refine ⟨hk, ?_, ?_⟩
  · unfold len0; rw [g0, Int.toNat_natCast]
  · obtain ⟨_, _, e1, e2, e3, e4⟩ := rr_yes hk
    rw [e1, e2, e3, e4, g1, g2, g3, h2]
    simp only [sameR, rsQ, Bool.and_eq_true, decide_eq_true_eq, true_and]
    exact rsB_all n (fun i hi => ⟨hP i hi, hZ i hi⟩)

theorem rcB_pos {r : Rc} (h : rcQ r = 0) : 7 ≤ (rcB r).length ∧ (rcB r).length ≤ 200 := by
  obtain ⟨k, t, g, n, P, Z⟩ := r
  unfold rcQ at h
  simp only at h
  have hB : rcB ⟨k, t, g, n, P, Z⟩ = packB k t g n P Z := by unfold rcB pkB; rw [if_pos h]
  obtain ⟨_, _, _, _, _, _, h7⟩ := rec_ok h
  obtain ⟨h1, _, h3⟩ := rf_ok h7
  rw [hB, packB_len]
  omega

/-- What was read, packed again. -/
theorem read_pack {zs : List Int} (h : OkI zs) : recQ (kR zs 1) (kR zs 2) (kR zs 3) (nR zs) (rP zs) (rZ zs) = 0 ∧ pkB (kR zs 1) (kR zs 2) (kR zs 3) (nR zs) (rP zs) (rZ zs) = zs.take (len0 zs) := by
  obtain ⟨_, _, e1, e2, e3, e4⟩ := rr_yes h
  have hl := (ok_len h).1
  rw [e1, e2, e3, e4]
  have hq : recQ (zs.getD 1 0) (zs.getD 2 0) (zs.getD 3 0) (cnt zs) (rP zs) (rZ zs) = 0 := h.2.1
  refine ⟨hq, ?_⟩
  unfold pkB
  rw [if_pos hq]
  have hb : rdB zs = zs.take (rdB zs).length := h.2.2
  rw [hl] at hb
  exact hb
/-- A record that is cut is none. -/
theorem cut_none {r : Rc} (h : rcQ r = 0) : ¬ OkI ((rcB r).take ((rcB r).length - 1)) := fun hk => by
  obtain ⟨_, h2, _⟩ := pack_back h []
  rw [List.append_nil] at h2
  have hp := (rcB_pos h).1
  have hl := (ok_len hk).2.2.1
  have e : len0 ((rcB r).take ((rcB r).length - 1)) = len0 (rcB r) := by
    unfold len0
    rw [(Agree.take (rcB r) ((rcB r).length - 1)).at' 0 (by omega)]
  rw [e, h2, List.length_take] at hl
  omega
theorem Reads.take {w : World} {a : Option Addr} {zs : List Int} (h : Reads w a zs) (n : Nat) : Reads w a (zs.take n) := by
  rcases h with h | ⟨b, off, ha, hc⟩
  · exact .inl (by rw [h]; simp)
  · refine .inr ⟨b, off, ha, fun i hi => ?_⟩
    rw [List.length_take] at hi
    rw [hc i (by omega)]
    simp only [List.getD]
    rw [List.getElem?_take, if_pos (by omega)]

end Go.Proofs.YtcjkjenebnodbaaDoor
