/-
  The program's SameRecords: slices compared by a function value.
-/
import Derived.Test.YtcjkjenebnodbaaQRck
import Derived.Test.YtcjkjenebnodbaaQDBnt
import Derived.Test.YtcjkjenebnodbaaQIcr

namespace Go.Proofs.Ytcjkjenebnodbaa
open Go.RowKit
set_option linter.unusedVariables false

/-- Whether the first n runs are the same. -/
def rsB (P P' : Nat → Int) (Z Z' : Nat → List Int) : Nat → Bool
  | 0 => true
  | n + 1 => rsB P P' Z Z' n && (decide (P n = P' n) && decide (Z n = Z' n))
def rsQ (n m : Nat) (P P' : Nat → Int) (Z Z' : Nat → List Int) : Bool := decide (n = m) && rsB P P' Z Z' n
theorem rsB_stay {P P' : Nat → Int} {Z Z' : Nat → List Int} {j n : Nat} (h : rsB P P' Z Z' j = false) (hj : j ≤ n) : rsB P P' Z Z' n = false := by
  induction n with
  | zero => have : j = 0 := by omega
            subst this; exact h
  | succ n ih =>
    by_cases e : j = n + 1
    · subst e; exact h
    · simp only [rsB]; rw [ih (by omega)]; rfl

set_option maxHeartbeats 400000 in
theorem sameRun_any (p p' : Int) (a b : Option Addr) (n m c d : Nat) (xs ys : List Int) (w : World) (hn : xs.length = n) (hm : ys.length = m) (ha : Reads w a xs) (hb : Reads w b ys) (hx : ∀ z ∈ xs, 0 ≤ z ∧ z ≤ 255) (hy : ∀ z ∈ ys, 0 ≤ z ∧ z ≤ 255) :
    Calls Try.prog 118 #[.agg #[.int .i64 p, .slice a n c], .agg #[.int .i64 p', .slice b m d]] w fun e w' => e = .returned (.bool (decide (p = p') && decide (xs = ys))) ∧ Below w.heap.size w w' := by
  have HA : Hid (Reads w a xs) := ha
  have HB : Hid (Reads w b ys) := hb
  have HX : Hid (∀ z ∈ xs, 0 ≤ z ∧ z ≤ 255) := hx
  have HY : Hid (∀ z ∈ ys, 0 ≤ z ∧ z ≤ 255) := hy
  obtain ⟨t, ht⟩ : ∃ t, t = decide (xs = ys) := ⟨_, rfl⟩
  have HT : Hid (t = decide (xs = ys)) := ht
  clear ha hb hx hy ht
  by_cases hp : p = p'
  · subst hp
    go_enter Try.func118, Try.ntmps118
    go_wp2_with fail
    refine (bytesEqual_any a b n m c d xs ys _ hn hm (HA.out.below (by go_grown) (Nat.le_refl _)) (HB.out.below (by go_grown) (Nat.le_refl _)) HX.out HY.out).mono ?_
    rintro e w' ⟨rfl, hw'⟩
    subst w'
    rw [← HT.out]
    go_wp2_with fail
    go_ret
    exact ⟨by simp [HT.out], by go_grown⟩
  · have hd : decide (p = p') = false := by simpa using hp
    go_enter Try.func118, Try.ntmps118
    go_wp2_with fail
    go_ret
    exact ⟨by simp [hp], by go_grown⟩

set_option maxHeartbeats 1000000 in
theorem equalRuns_any (a b : Option Addr) (n m c d : Nat) (P P' : Nat → Int) (A B : Nat → Option Addr) (C E : Nat → Nat) (Z Z' : Nat → List Int) (w : World) (hn : n ≤ 1048576) (hm : m ≤ 1048576) (hx : RunsRead w a n P A C Z) (hy : RunsRead w b m P' B E Z') (hz : ∀ i, i < n → ∀ z ∈ Z i, 0 ≤ z ∧ z ≤ 255) (hz' : ∀ i, i < m → ∀ z ∈ Z' i, 0 ≤ z ∧ z ≤ 255) :
    Calls Try.prog 117 #[.slice a n c, .slice b m d, .func (.func 118) #[] #[]] w fun e w' => e = .returned (.bool (rsQ n m P P' Z Z')) ∧ Below w.heap.size w w' := by
  by_cases hnm : n = m
  · subst hnm
    by_cases h0 : n = 0
    · subst h0
      go_enter Try.func117, Try.ntmps117
      go_wp2_with fail
      go_rounds 1
      go_ret
      exact ⟨by simp [rsQ, rsB], Below.refl _ _⟩
    have HX : Hid (RunsRead w a n P A C Z) := hx
    have HY : Hid (RunsRead w b n P' B E Z') := hy
    have HZ : Hid (∀ i, i < n → ∀ z ∈ Z i, 0 ≤ z ∧ z ≤ 255) := hz
    have HZ' : Hid (∀ i, i < n → ∀ z ∈ Z' i, 0 ≤ z ∧ z ≤ 255) := hz'
    obtain ⟨x, xo, rfl⟩ : ∃ x xo, a = some ⟨x, xo, none⟩ := by
      rcases hx with h | ⟨x, xo, h, _⟩
      · exact absurd h h0
      · exact ⟨x, xo, h⟩
    obtain ⟨y, yo, rfl⟩ : ∃ y yo, b = some ⟨y, yo, none⟩ := by
      rcases hy with h | ⟨x, xo, h, _⟩
      · exact absurd h h0
      · exact ⟨x, xo, h⟩
    clear hx hy hz hz'
    go_enter Try.func117, Try.ntmps117
    go_wp2_with fail
    go_loopw [17] (fun i wr => ∃ k : Nat, k ≤ n ∧ i = .int .i64 k ∧ Below w.heap.size w wr ∧ Hid (rsB P P' Z Z' k = true)) (fun i _ => n - (intOf i).toNat)
    case atStart => exact ⟨0, Nat.zero_le _, rfl, Below.refl _ _, rfl⟩
    case round =>
      obtain ⟨k, hk, rfl, g, hT⟩ := hrel
      by_cases hlt : k < n
      · obtain ⟨x0, x1, x2⟩ := (HX.out.below g (Nat.le_refl _)).at_ k hlt
        obtain ⟨y0, y1, y2⟩ := (HY.out.below g (Nat.le_refl _)).at_ k hlt
        have hkn : (k : Int) < (n : Int) := by omega
        have hlx : x < wr.heap.size := World.block_lt_of_cell? wr _ x0
        have hly : y < wr.heap.size := World.block_lt_of_cell? wr _ y0
        have HZk := HZ.out k hlt
        have HZk' := HZ'.out k hlt
        have HZk : Hid (∀ z ∈ Z k, 0 ≤ z ∧ z ≤ 255) := HZk
        have HZk' : Hid (∀ z ∈ Z' k, 0 ≤ z ∧ z ≤ 255) := HZk'
        have HX2 : Hid (Reads wr (A k) (Z k)) := x2
        have HY2 : Hid (Reads wr (B k) (Z' k)) := y2
        obtain ⟨t, ht⟩ : ∃ t, t = (decide (P k = P' k) && decide (Z k = Z' k)) := ⟨_, rfl⟩
        have HT : Hid (t = (decide (P k = P' k) && decide (Z k = Z' k))) := ht
        clear ht x2 y2
        go_wp2_with fail
        refine (sameRun_any (P k) (P' k) (A k) (B k) _ _ (C k) (E k) (Z k) (Z' k) _ rfl rfl (HX2.out.below (by go_grown) (Nat.le_refl _)) (HY2.out.below (by go_grown) (Nat.le_refl _)) HZk.out HZk'.out).mono ?_
        rintro e w' ⟨rfl, hb⟩
        have g : Below w.heap.size w w' := g.trans (Below.mono (B := wr.heap.size) (Below.trans (by go_grown) (hb.mono (by simp; omega))) g.size)
        rw [← HT.out]
        clear hb x0 x1 y0 y1
        cases t with
        | true =>
          have HT2 : Hid (rsB P P' Z Z' (k + 1) = true) := by show _ = _; simp only [rsB]; rw [hT.out, ← HT.out]; rfl
          go_wp2_with fail
          go_roundw
          case rel => exact ⟨k + 1, by omega, by go_num, g, HT2⟩
          case measure => simp [intOf]; omega
        | false =>
          have HF : Hid (rsB P P' Z Z' n = false) := rsB_stay (j := k + 1) (by simp only [rsB]; rw [hT.out, ← HT.out]; rfl) (by omega)
          go_wp2_with fail
          go_ret
          exact ⟨by simp [rsQ, HF.out], g⟩
      · have e : k = n := by omega
        subst e
        go_wp2_with fail
        go_ret
        exact ⟨by simp [rsQ, hT.out], g⟩
  · have hd : ¬ ((n : Int) = (m : Int)) := by omega
    go_enter Try.func117, Try.ntmps117
    go_wp2_with fail
    go_ret
    exact ⟨by simp [rsQ, hnm], Below.refl _ _⟩

end Go.Proofs.Ytcjkjenebnodbaa

/-
  The program's SameRecords, whole.
-/
namespace Go.Proofs.Ytcjkjenebnodbaa
open Go.RowKit
set_option linter.unusedVariables false

/-- Whether two records are the same. -/
def sameR (r s : Rc) : Bool := decide (r.k = s.k) && (decide (r.t = s.t) && (decide (r.g = s.g) && rsQ r.n s.n r.P s.P r.Z s.Z))
def sameL (R S : Nat → Rc) : Nat → Bool
  | 0 => true
  | n + 1 => sameL R S n && sameR (R n) (S n)
def sameQ (n m : Nat) (R S : Nat → Rc) : Bool := decide (n = m) && sameL R S n
theorem sameL_stay {R S : Nat → Rc} {j n : Nat} (h : sameL R S j = false) (hj : j ≤ n) : sameL R S n = false := by
  induction n with
  | zero => have : j = 0 := by omega
            subst this; exact h
  | succ n ih =>
    by_cases e : j = n + 1
    · subst e; exact h
    · simp only [sameL]; rw [ih (by omega)]; rfl

/-- A record that is read: its runs are few and small. -/
structure RcOk (w : World) (r : Rc) (d : Ad) : Prop where
  rd : RunsRead w d.a r.n r.P d.A d.C r.Z
  sm : r.n ≤ 1048576
  bd : ∀ i, i < r.n → ∀ z ∈ r.Z i, 0 ≤ z ∧ z ≤ 255
theorem RcOk.below {w w' : World} {r : Rc} {d : Ad} (h : RcOk w r d) {B : Nat} (hb : Below B w w') (hB : w.heap.size ≤ B) : RcOk w' r d := ⟨h.rd.below hb hB, h.sm, h.bd⟩

set_option maxHeartbeats 2000000 in
theorem sameRecord_any (r s : Rc) (d e' : Ad) (w : World) (hr : RcOk w r d) (hs : RcOk w s e') :
    Calls Try.prog 82 #[.agg #[.int .i64 r.k, .int .i64 r.t, .int .i64 r.g, .slice d.a r.n d.c], .agg #[.int .i64 s.k, .int .i64 s.t, .int .i64 s.g, .slice e'.a s.n e'.c]] w fun e w' => e = .returned (.bool (sameR r s)) ∧ Below w.heap.size w w' := by
  have HC : Hid (∀ X, Below w.heap.size w X → Calls Try.prog 117 #[.slice d.a r.n d.c, .slice e'.a s.n e'.c, .func (.func 118) #[] #[]] X fun e w' => e = .returned (.bool (rsQ r.n s.n r.P s.P r.Z s.Z)) ∧ Below X.heap.size X w') := fun X g => equalRuns_any _ _ _ _ _ _ _ _ _ _ _ _ _ _ X hr.sm hs.sm (hr.rd.below g (Nat.le_refl _)) (hs.rd.below g (Nat.le_refl _)) hr.bd hs.bd
  have HS : Hid (sameR r s = (decide (r.k = s.k) && (decide (r.t = s.t) && (decide (r.g = s.g) && rsQ r.n s.n r.P s.P r.Z s.Z)))) := rfl
  clear hr hs
  generalize rsQ r.n s.n r.P s.P r.Z s.Z = tq at HC HS
  generalize sameR r s = sr at HS ⊢
  generalize r.k = k at HS ⊢
  generalize r.t = t at HS ⊢
  generalize r.g = g at HS ⊢
  generalize r.n = n at HC ⊢
  generalize s.k = k' at HS ⊢
  generalize s.t = t' at HS ⊢
  generalize s.g = g' at HS ⊢
  generalize s.n = m at HC ⊢
  by_cases h1 : k = k'
  · subst h1
    by_cases h2 : t = t'
    · subst h2
      by_cases h3 : g = g'
      · subst h3
        have HS2 : Hid (sr = tq) := by show _ = _; rw [HS.out]; simp
        clear HS
        go_enter Try.func82, Try.ntmps82
        go_wp2_with fail
        refine (HC.out _ (by go_grown)).mono ?_
        rintro e w' ⟨rfl, hb⟩
        have gg : Below w.heap.size w w' := Below.trans (by go_grown) (hb.mono (by simp; omega))
        clear hb
        go_wp2_with fail
        go_ret
        exact ⟨by rw [HS2.out]; rfl, gg⟩
      · have HS2 : Hid (sr = false) := by show _ = _; rw [HS.out]; simp [h3]
        have d3 : decide (g = g') = false := by simpa using h3
        clear HS
        go_enter Try.func82, Try.ntmps82
        go_wp2_with fail
        go_ret
        exact ⟨by rw [HS2.out]; rfl, by go_grown⟩
    · have HS2 : Hid (sr = false) := by show _ = _; rw [HS.out]; simp [h2]
      have d2 : decide (t = t') = false := by simpa using h2
      clear HS
      go_enter Try.func82, Try.ntmps82
      go_wp2_with fail
      go_ret
      exact ⟨by rw [HS2.out]; rfl, by go_grown⟩
  · have HS2 : Hid (sr = false) := by show _ = _; rw [HS.out]; simp [h1]
    have d1 : decide (k = k') = false := by simpa using h1
    clear HS
    go_enter Try.func82, Try.ntmps82
    go_wp2_with fail
    go_ret
    exact ⟨by rw [HS2.out]; rfl, by go_grown⟩

set_option maxHeartbeats 2000000 in
theorem equalRecs_any (a b : Option Addr) (n m c d : Nat) (R S : Nat → Rc) (D E : Nat → Ad) (w : World) (hn : n ≤ 1048576) (hm : m ≤ 1048576) (hx : RecsRead w a n R D) (hy : RecsRead w b m S E) (hz : ∀ i, i < n → (R i).n ≤ 1048576 ∧ ∀ j, j < (R i).n → ∀ z ∈ (R i).Z j, 0 ≤ z ∧ z ≤ 255) (hz' : ∀ i, i < m → (S i).n ≤ 1048576 ∧ ∀ j, j < (S i).n → ∀ z ∈ (S i).Z j, 0 ≤ z ∧ z ≤ 255) :
    Calls Try.prog 81 #[.slice a n c, .slice b m d, .func (.func 82) #[] #[]] w fun e w' => e = .returned (.bool (sameQ n m R S)) ∧ Below w.heap.size w w' := by
  by_cases hnm : n = m
  · subst hnm
    by_cases h0 : n = 0
    · subst h0
      go_enter Try.func81, Try.ntmps81
      go_wp2_with fail
      go_rounds 1
      go_ret
      exact ⟨by simp [sameQ, sameL], Below.refl _ _⟩
    have HX : Hid (RecsRead w a n R D) := hx
    have HY : Hid (RecsRead w b n S E) := hy
    have HZ : Hid (∀ i, i < n → (R i).n ≤ 1048576 ∧ ∀ j, j < (R i).n → ∀ z ∈ (R i).Z j, 0 ≤ z ∧ z ≤ 255) := hz
    have HZ' : Hid (∀ i, i < n → (S i).n ≤ 1048576 ∧ ∀ j, j < (S i).n → ∀ z ∈ (S i).Z j, 0 ≤ z ∧ z ≤ 255) := hz'
    obtain ⟨x, xo, rfl⟩ : ∃ x xo, a = some ⟨x, xo, none⟩ := by
      rcases hx with h | ⟨x, xo, h, _⟩
      · exact absurd h h0
      · exact ⟨x, xo, h⟩
    obtain ⟨y, yo, rfl⟩ : ∃ y yo, b = some ⟨y, yo, none⟩ := by
      rcases hy with h | ⟨x, xo, h, _⟩
      · exact absurd h h0
      · exact ⟨x, xo, h⟩
    clear hx hy hz hz'
    go_enter Try.func81, Try.ntmps81
    go_wp2_with fail
    go_loopw [17] (fun i wr => ∃ k : Nat, k ≤ n ∧ i = .int .i64 k ∧ Below w.heap.size w wr ∧ Hid (sameL R S k = true)) (fun i _ => n - (intOf i).toNat)
    case atStart => exact ⟨0, Nat.zero_le _, rfl, Below.refl _ _, rfl⟩
    case round =>
      obtain ⟨k, hk, rfl, g, hT⟩ := hrel
      by_cases hlt : k < n
      · obtain ⟨x0, x1, x2, x3, x4⟩ := (HX.out.below g (Nat.le_refl _)).at_ k hlt
        obtain ⟨y0, y1, y2, y3, y4⟩ := (HY.out.below g (Nat.le_refl _)).at_ k hlt
        have hkn : (k : Int) < (n : Int) := by omega
        have hlx : x < wr.heap.size := World.block_lt_of_cell? wr _ x0
        have hly : y < wr.heap.size := World.block_lt_of_cell? wr _ y0
        have HC : Hid (∀ X, Below wr.heap.size wr X → Calls Try.prog 82 #[.agg #[.int .i64 (R k).k, .int .i64 (R k).t, .int .i64 (R k).g, .slice (D k).a (R k).n (D k).c], .agg #[.int .i64 (S k).k, .int .i64 (S k).t, .int .i64 (S k).g, .slice (E k).a (S k).n (E k).c]] X fun e w' => e = .returned (.bool (sameR (R k) (S k))) ∧ Below X.heap.size X w') := fun X gX => sameRecord_any (R k) (S k) (D k) (E k) X (RcOk.below ⟨x4, (HZ.out k hlt).1, (HZ.out k hlt).2⟩ gX (Nat.le_refl _)) (RcOk.below ⟨y4, (HZ'.out k hlt).1, (HZ'.out k hlt).2⟩ gX (Nat.le_refl _))
        obtain ⟨t, ht⟩ : ∃ t, t = sameR (R k) (S k) := ⟨_, rfl⟩
        have HTt : Hid (t = true → sameL R S (k + 1) = true) := fun h => by simp only [sameL]; rw [hT.out, ← ht, h]; rfl
        have HTf : Hid (t = false → sameL R S n = false) := fun h => sameL_stay (j := k + 1) (by simp only [sameL]; rw [hT.out, ← ht, h]; rfl) (by omega)
        rw [← ht] at HC
        clear ht x4 y4
        generalize R k = r at x0 x1 x2 x3 HC
        generalize S k = s at y0 y1 y2 y3 HC
        go_wp2_with fail
        refine (HC.out _ (by go_grown)).mono ?_
        rintro e w' ⟨rfl, hb⟩
        have g : Below w.heap.size w w' := g.trans (Below.mono (B := wr.heap.size) (Below.trans (by go_grown) (hb.mono (by simp; omega))) g.size)
        clear hb x0 x1 x2 x3 y0 y1 y2 y3 HC
        cases t with
        | true =>
          have HT2 : Hid (sameL R S (k + 1) = true) := HTt.out rfl
          go_wp2_with fail
          go_roundw
          case rel => exact ⟨k + 1, by omega, by go_num, g, HT2⟩
          case measure => simp [intOf]; omega
        | false =>
          have HF : Hid (sameL R S n = false) := HTf.out rfl
          go_wp2_with fail
          go_ret
          exact ⟨by simp [sameQ, HF.out], g⟩
      · have e : k = n := by omega
        subst e
        go_wp2_with fail
        go_ret
        exact ⟨by simp [sameQ, hT.out], g⟩
  · have hd : ¬ ((n : Int) = (m : Int)) := by omega
    go_enter Try.func81, Try.ntmps81
    go_wp2_with fail
    go_ret
    exact ⟨by simp [sameQ, hnm], Below.refl _ _⟩

set_option maxHeartbeats 400000 in
theorem implSameRecords_any (a b : Option Addr) (n m c d : Nat) (R S : Nat → Rc) (D E : Nat → Ad) (w : World) (hn : n ≤ 1048576) (hm : m ≤ 1048576) (hx : RecsRead w a n R D) (hy : RecsRead w b m S E) (hz : ∀ i, i < n → (R i).n ≤ 1048576 ∧ ∀ j, j < (R i).n → ∀ z ∈ (R i).Z j, 0 ≤ z ∧ z ≤ 255) (hz' : ∀ i, i < m → (S i).n ≤ 1048576 ∧ ∀ j, j < (S i).n → ∀ z ∈ (S i).Z j, 0 ≤ z ∧ z ≤ 255) :
    Calls Try.prog 24 #[.slice a n c, .slice b m d] w fun e w' => e = .returned (.bool (sameQ n m R S)) ∧ Below w.heap.size w w' := by
  have HC : Hid (Calls Try.prog 81 #[.slice a n c, .slice b m d, .func (.func 82) #[] #[]] w fun e w' => e = .returned (.bool (sameQ n m R S)) ∧ Below w.heap.size w w') := equalRecs_any a b n m c d R S D E w hn hm hx hy hz hz'
  generalize sameQ n m R S = q at HC ⊢
  clear hx hy hz hz'
  go_enter Try.func24, Try.ntmps24
  go_wp2_with fail
  refine HC.out.mono ?_
  rintro e w' ⟨rfl, hb⟩
  go_wp2_with fail
  go_ret
  exact ⟨rfl, hb⟩

end Go.Proofs.Ytcjkjenebnodbaa

/-
  Plain facts: bytes that begin alike hold the same records; what stands behind a crash.
-/
namespace Go.Proofs.Ytcjkjenebnodbaa
open Go.RowKit
set_option linter.unusedVariables false

theorem rsB_all {P P' : Nat → Int} {Z Z' : Nat → List Int} : ∀ n, (∀ i, i < n → P i = P' i ∧ Z i = Z' i) → rsB P P' Z Z' n = true
  | 0, _ => rfl
  | n + 1, h => by
    simp only [rsB]
    rw [rsB_all n (fun i hi => h i (by omega)), (h n (by omega)).1, (h n (by omega)).2]
    simp
theorem sameL_all {R S : Nat → Rc} : ∀ n, (∀ i, i < n → sameR (R i) (S i) = true) → sameL R S n = true
  | 0, _ => rfl
  | n + 1, h => by
    simp only [sameL]
    rw [sameL_all n (fun i hi => h i (by omega)), h n (by omega)]
    rfl

theorem rsB_comm {P P' : Nat → Int} {Z Z' : Nat → List Int} : ∀ n, rsB P P' Z Z' n = true → rsB P' P Z' Z n = true
  | 0, _ => rfl
  | n + 1, h => by
    simp only [rsB, Bool.and_eq_true, decide_eq_true_eq] at h ⊢
    exact ⟨rsB_comm n h.1, h.2.1.symm, h.2.2.symm⟩
theorem sameR_comm {r s : Rc} (h : sameR r s = true) : sameR s r = true := by
  simp only [sameR, rsQ, Bool.and_eq_true, decide_eq_true_eq] at h ⊢
  obtain ⟨h1, h2, h3, h4, h5⟩ := h
  exact ⟨h1.symm, h2.symm, h3.symm, h4.symm, rsB_comm _ (by rw [← h4]; exact h5)⟩

theorem ok_agree {F G : List Int} (h : OkI F) (hA : Agree (len0 F) F G) (hl : len0 F ≤ G.length) : OkI G ∧ len0 G = len0 F ∧ cnt G = cnt F ∧ (∀ i, i < cnt F → rP G i = rP F i ∧ rZ G i = rZ F i) ∧ ∀ i, i < 5 → G.getD i 0 = F.getD i 0 := by
  obtain ⟨h1, h2, h3, h4, h5⟩ := ok_len h
  obtain ⟨c1, c2, c3⟩ := read_agree hA (by omega) hl h4 (by omega)
  have hat : ∀ i, i < 5 → G.getD i 0 = F.getD i 0 := fun i hi => hA.at' i (by omega)
  have hpo : ∀ i, i < cnt F → pos F (i + 1) ≤ len0 F := fun i hi => by have := pos_mono F (i + 1) (cnt F) (by omega); omega
  have htk : G.take (len0 F) = F.take (len0 F) := by
    apply List.ext_getElem?
    intro i
    rw [List.getElem?_take, List.getElem?_take]
    split
    · rename_i hi; exact hA i hi
    · rfl
  refine ⟨⟨by omega, by rw [c2]; exact h.2.1, ?_⟩, by unfold len0; rw [hat 0 (by omega)], c1, fun i hi => ⟨rP_agree hA i (fun i' hi' => hpo i' (by omega)), rZ_agree hA i (fun i' hi' => hpo i' (by omega))⟩, hat⟩
  rw [c3, h1, htk]
  have := h.2.2
  rw [h1] at this
  exact this

theorem lp_mono (zs : List Int) : ∀ i j, i ≤ j → lp zs i ≤ lp zs j
  | i, 0, h => by have : i = 0 := by omega
                  subst this; exact Nat.le_refl _
  | i, j + 1, h => by
    by_cases e : i = j + 1
    · rw [e]; exact Nat.le_refl _
    · have := lp_mono zs i j (by omega)
      show lp zs i ≤ lp zs j + _
      omega

theorem chain {P Q : List Int} {L : Nat} (hA : Agree L P Q) (hQ : L ≤ Q.length) : ∀ j, (∀ i, i < j → OkI (from' P i)) → lp P j ≤ L → lp Q j = lp P j ∧ ∀ i, i < j → OkI (from' Q i) ∧ sameR (lgR Q i) (lgR P i) = true
  | 0, _, _ => ⟨rfl, fun i hi => by omega⟩
  | j + 1, h, hL => by
    have hstep : lp P (j + 1) = lp P j + len0 (from' P j) := rfl
    obtain ⟨e, ih⟩ := chain hA hQ j (fun i hi => h i (by omega)) (by omega)
    have hF := h j (by omega)
    have hag : Agree (len0 (from' P j)) (from' P j) (from' Q j) := fun i hi => by
      unfold from'
      rw [List.getElem?_drop, List.getElem?_drop, e]
      exact hA _ (by omega)
    have hgl : len0 (from' P j) ≤ (from' Q j).length := by rw [from_len, e]; omega
    obtain ⟨k1, k2, k3, k4, k5⟩ := ok_agree hF hag hgl
    refine ⟨by show lp Q j + len0 (from' Q j) = _; rw [e, k2]; rfl, fun i hi => ?_⟩
    by_cases ei : i = j
    · subst ei
      refine ⟨k1, ?_⟩
      obtain ⟨_, _, a1, a2, a3, a4⟩ := rr_yes k1
      obtain ⟨_, _, b1, b2, b3, b4⟩ := rr_yes hF
      have hn : nR (from' Q i) = nR (from' P i) := by rw [a4, b4, k3]
      unfold sameR lgR
      simp only
      rw [a1, a2, a3, b1, b2, b3, k5 1 (by omega), k5 2 (by omega), k5 3 (by omega), hn]
      unfold rsQ
      rw [rsB_all _ (fun m hm => by rw [b4] at hm; exact k4 m hm)]
      simp
    · exact ih i (by omega)

theorem lg_of {zs : List Int} {j : Nat} (h : ∀ i, i < j → OkI (from' zs i)) : j ≤ lgN zs := by
  by_cases e : j ≤ lgN zs
  · exact e
  · exact absurd (h (lgN zs) (by omega)) (lg_no zs)

/-- What stands behind is read behind. -/
theorem lg_append (P T : List Int) : lgN P ≤ lgN (P ++ T) ∧ ∀ i, i < lgN P → sameR (lgR (P ++ T) i) (lgR P i) = true := by
  have hA : Agree P.length P (P ++ T) := fun i hi => by rw [List.getElem?_append_left hi]
  obtain ⟨_, h⟩ := chain hA (by rw [List.length_append]; omega) (lgN P) (fun i hi => lg_ok P i hi) (lp_le P _ (Nat.le_refl _)).2
  exact ⟨lg_of (fun i hi => (h i hi).1), fun i hi => (h i hi).2⟩
/-- The bytes of the records alone. -/
theorem lg_cut (D : List Int) : lgN (D.take (logU D)) = lgN D ∧ logU (D.take (logU D)) = (D.take (logU D)).length := by
  have hl := logU_le D
  have hlen : (D.take (logU D)).length = logU D := by rw [List.length_take]; omega
  have hA : Agree (logU D) D (D.take (logU D)) := Agree.take D _
  obtain ⟨e, h⟩ := chain hA (by omega) (lgN D) (fun i hi => lg_ok D i hi) (Nat.le_refl _)
  have h1 := lg_of (fun i hi => (h i hi).1)
  have h2 := (lg_append (D.take (logU D)) (D.drop (logU D))).1
  rw [List.take_append_drop] at h2
  have h3 : lgN (D.take (logU D)) = lgN D := by omega
  refine ⟨h3, ?_⟩
  rw [hlen]
  show lp (D.take (logU D)) (lgN (D.take (logU D))) = _
  rw [h3, e]
  rfl

/-- What stands behind a crash. -/
theorem torn {xs ys : List Int} {k : Int} (h : crQ xs ys k = 0) : rlN xs ≤ rlN (crB xs ys k) ∧ rlN (crB xs ys k) ≤ rlN (xs ++ ys) ∧ sameQ (rlN (crB xs ys k)) (rlN (crB xs ys k)) (lgR (crB xs ys k)) (lgR (xs ++ ys)) = true ∧ lfQ (crB xs ys k) [] = 0 ∧ (¬ k < ys.length → rlN (crB xs ys k) = rlN (xs ++ ys)) := by
  have hB : crB xs ys k = (crD xs ys k).take (logU (crD xs ys k)) := by unfold crB; rw [if_pos h]
  have hq : lfQ xs ys = 0 ∧ inR k 0 ys.length = true := by
    unfold crQ at h
    by_cases e : lfQ xs ys = 0
    · rw [if_pos e] at h
      refine ⟨e, ?_⟩
      by_cases e2 : inR k 0 ys.length = true
      · exact e2
      · rw [if_neg e2] at h; omega
    · rw [if_neg e] at h; exact absurd h e
  have hs := lf_small hq.1
  obtain ⟨kk, rfl, hkk⟩ := inR_nat hq.2
  have hD : crD xs ys (kk : Int) = xs ++ ys.take kk := by unfold crD; simp
  have hDl : (xs ++ ys.take kk).length ≤ 16000 := by rw [List.length_append, List.length_take]; omega
  rw [hD] at hB
  obtain ⟨c1, c2⟩ := lg_cut (xs ++ ys.take kk)
  have hBl : (crB xs ys (kk : Int)).length ≤ 16000 := by rw [hB, List.length_take]; omega
  have rl : ∀ zs : List Int, zs.length ≤ 16000 → rlN zs = lgN zs := fun zs h => by unfold rlN; rw [if_neg (by omega)]
  have hal : xs ++ ys = (xs ++ ys.take kk) ++ ys.drop kk := by rw [List.append_assoc, List.take_append_drop]
  have hal2 : xs ++ ys = crB xs ys (kk : Int) ++ ((xs ++ ys.take kk).drop (logU (xs ++ ys.take kk)) ++ ys.drop kk) := by rw [hB, ← List.append_assoc, List.take_append_drop, ← hal]
  rw [rl _ hBl, rl xs (by omega), rl (xs ++ ys) (by rw [List.length_append]; omega)]
  have hn : lgN (crB xs ys (kk : Int)) = lgN (xs ++ ys.take kk) := by rw [hB]; exact c1
  refine ⟨by rw [hn]; exact (lg_append _ _).1, by rw [hn, hal]; exact (lg_append _ _).1, ?_, ?_, fun hk => ?_⟩
  · unfold sameQ
    rw [sameL_all _ (fun i hi => ?_)]
    · simp
    · have h1 := (lg_append (crB xs ys (kk : Int)) ((xs ++ ys.take kk).drop (logU (xs ++ ys.take kk)) ++ ys.drop kk)).2 i hi
      rw [← hal2] at h1
      have := sameR_comm h1
      exact this
  · unfold lfQ
    rw [if_neg (by simp; omega), if_pos ⟨by rw [hB]; exact c2, rfl⟩]
  · have : kk = ys.length := by omega
    subst this
    rw [hn, List.take_length]

end Go.Proofs.Ytcjkjenebnodbaa
