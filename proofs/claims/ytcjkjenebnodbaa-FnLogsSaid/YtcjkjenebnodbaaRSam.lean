/-
  The program's SameRecords: slices compared by a function value.
-/
import Derived.Test.YtcjkjenebnodbaaRRdq
import Derived.Test.YtcjkjenebnodbaaRDBnt

namespace Go.Proofs.Ytcjkjenebnodbaa
open Go.RowKit
set_option linter.unusedVariables false

/-- Whether the first n runs are the same. -/
def rsB (P P' : Nat → Int) (Z Z' : Nat → List Int) : Nat → Bool
  | 0 => true
  | n + 1 => rsB P P' Z Z' n && (decide (P n = P' n) && decide (Z n = Z' n))
def rsQ (n m : Nat) (P P' : Nat → Int) (Z Z' : Nat → List Int) : Bool := decide (n = m) && rsB P P' Z Z' n
theorem rsB_stay {P P' : Nat → Int} {Z Z' : Nat → List Int} {j n : Nat} (h : rsB P P' Z Z' j = false) (hj : j ≤ n) : rsB P P' Z Z' n = false := by
  induction n with
  | zero => have : j = 0 := by omega
            subst this; exact h
  | succ n ih =>
    by_cases e : j = n + 1
    · subst e; exact h
    · simp only [rsB]; rw [ih (by omega)]; rfl

set_option maxHeartbeats 400000 in
theorem sameRun_any (p p' : Int) (a b : Option Addr) (n m c d : Nat) (xs ys : List Int) (w : World) (hn : xs.length = n) (hm : ys.length = m) (ha : Reads w a xs) (hb : Reads w b ys) (hx : ∀ z ∈ xs, 0 ≤ z ∧ z ≤ 255) (hy : ∀ z ∈ ys, 0 ≤ z ∧ z ≤ 255) :
    Calls Try.prog 118 #[.agg #[.int .i64 p, .slice a n c], .agg #[.int .i64 p', .slice b m d]] w fun e w' => e = .returned (.bool (decide (p = p') && decide (xs = ys))) ∧ Below w.heap.size w w' := by
  have HA : Hid (Reads w a xs) := ha
  have HB : Hid (Reads w b ys) := hb
  have HX : Hid (∀ z ∈ xs, 0 ≤ z ∧ z ≤ 255) := hx
  have HY : Hid (∀ z ∈ ys, 0 ≤ z ∧ z ≤ 255) := hy
  obtain ⟨t, ht⟩ : ∃ t, t = decide (xs = ys) := ⟨_, rfl⟩
  have HT : Hid (t = decide (xs = ys)) := ht
  clear ha hb hx hy ht
  by_cases hp : p = p'
  · subst hp
    go_enter Try.func118, Try.ntmps118
    go_wp2_with fail
    refine (bytesEqual_any a b n m c d xs ys _ hn hm (HA.out.below (by go_grown) (Nat.le_refl _)) (HB.out.below (by go_grown) (Nat.le_refl _)) HX.out HY.out).mono ?_
    rintro e w' ⟨rfl, hw'⟩
    subst w'
    rw [← HT.out]
    go_wp2_with fail
    go_ret
    exact ⟨by simp [HT.out], by go_grown⟩
  · have hd : decide (p = p') = false := by simpa using hp
    go_enter Try.func118, Try.ntmps118
    go_wp2_with fail
    go_ret
    exact ⟨by simp [hp], by go_grown⟩

set_option maxHeartbeats 1000000 in
theorem equalRuns_any (a b : Option Addr) (n m c d : Nat) (P P' : Nat → Int) (A B : Nat → Option Addr) (C E : Nat → Nat) (Z Z' : Nat → List Int) (w : World) (hn : n ≤ 1048576) (hm : m ≤ 1048576) (hx : RunsRead w a n P A C Z) (hy : RunsRead w b m P' B E Z') (hz : ∀ i, i < n → ∀ z ∈ Z i, 0 ≤ z ∧ z ≤ 255) (hz' : ∀ i, i < m → ∀ z ∈ Z' i, 0 ≤ z ∧ z ≤ 255) :
    Calls Try.prog 117 #[.slice a n c, .slice b m d, .func (.func 118) #[] #[]] w fun e w' => e = .returned (.bool (rsQ n m P P' Z Z')) ∧ Below w.heap.size w w' := by
  by_cases hnm : n = m
  · subst hnm
    by_cases h0 : n = 0
    · subst h0
      go_enter Try.func117, Try.ntmps117
      go_wp2_with fail
      go_rounds 1
      go_ret
      exact ⟨by simp [rsQ, rsB], Below.refl _ _⟩
    have HX : Hid (RunsRead w a n P A C Z) := hx
    have HY : Hid (RunsRead w b n P' B E Z') := hy
    have HZ : Hid (∀ i, i < n → ∀ z ∈ Z i, 0 ≤ z ∧ z ≤ 255) := hz
    have HZ' : Hid (∀ i, i < n → ∀ z ∈ Z' i, 0 ≤ z ∧ z ≤ 255) := hz'
    obtain ⟨x, xo, rfl⟩ : ∃ x xo, a = some ⟨x, xo, none⟩ := by
      rcases hx with h | ⟨x, xo, h, _⟩
      · exact absurd h h0
      · exact ⟨x, xo, h⟩
    obtain ⟨y, yo, rfl⟩ : ∃ y yo, b = some ⟨y, yo, none⟩ := by
      rcases hy with h | ⟨x, xo, h, _⟩
      · exact absurd h h0
      · exact ⟨x, xo, h⟩
    clear hx hy hz hz'
    go_enter Try.func117, Try.ntmps117
    go_wp2_with fail
    go_loopw [17] (fun i wr => ∃ k : Nat, k ≤ n ∧ i = .int .i64 k ∧ Below w.heap.size w wr ∧ Hid (rsB P P' Z Z' k = true)) (fun i _ => n - (intOf i).toNat)
    case atStart => exact ⟨0, Nat.zero_le _, rfl, Below.refl _ _, rfl⟩
    case round =>
      obtain ⟨k, hk, rfl, g, hT⟩ := hrel
      by_cases hlt : k < n
      · obtain ⟨x0, x1, x2⟩ := (HX.out.below g (Nat.le_refl _)).at_ k hlt
        obtain ⟨y0, y1, y2⟩ := (HY.out.below g (Nat.le_refl _)).at_ k hlt
        have hkn : (k : Int) < (n : Int) := by omega
        have hlx : x < wr.heap.size := World.block_lt_of_cell? wr _ x0
        have hly : y < wr.heap.size := World.block_lt_of_cell? wr _ y0
        have HZk := HZ.out k hlt
        have HZk' := HZ'.out k hlt
        have HZk : Hid (∀ z ∈ Z k, 0 ≤ z ∧ z ≤ 255) := HZk
        have HZk' : Hid (∀ z ∈ Z' k, 0 ≤ z ∧ z ≤ 255) := HZk'
        have HX2 : Hid (Reads wr (A k) (Z k)) := x2
        have HY2 : Hid (Reads wr (B k) (Z' k)) := y2
        obtain ⟨t, ht⟩ : ∃ t, t = (decide (P k = P' k) && decide (Z k = Z' k)) := ⟨_, rfl⟩
        have HT : Hid (t = (decide (P k = P' k) && decide (Z k = Z' k))) := ht
        clear ht x2 y2
        go_wp2_with fail
        refine (sameRun_any (P k) (P' k) (A k) (B k) _ _ (C k) (E k) (Z k) (Z' k) _ rfl rfl (HX2.out.below (by go_grown) (Nat.le_refl _)) (HY2.out.below (by go_grown) (Nat.le_refl _)) HZk.out HZk'.out).mono ?_
        rintro e w' ⟨rfl, hb⟩
        have g : Below w.heap.size w w' := g.trans (Below.mono (B := wr.heap.size) (Below.trans (by go_grown) (hb.mono (by simp; omega))) g.size)
        rw [← HT.out]
        clear hb x0 x1 y0 y1
        cases t with
        | true =>
          have HT2 : Hid (rsB P P' Z Z' (k + 1) = true) := by show _ = _; simp only [rsB]; rw [hT.out, ← HT.out]; rfl
          go_wp2_with fail
          go_roundw
          case rel => exact ⟨k + 1, by omega, by go_num, g, HT2⟩
          case measure => simp [intOf]; omega
        | false =>
          have HF : Hid (rsB P P' Z Z' n = false) := rsB_stay (j := k + 1) (by simp only [rsB]; rw [hT.out, ← HT.out]; rfl) (by omega)
          go_wp2_with fail
          go_ret
          exact ⟨by simp [rsQ, HF.out], g⟩
      · have e : k = n := by omega
        subst e
        go_wp2_with fail
        go_ret
        exact ⟨by simp [rsQ, hT.out], g⟩
  · have hd : ¬ ((n : Int) = (m : Int)) := by omega
    go_enter Try.func117, Try.ntmps117
    go_wp2_with fail
    go_ret
    exact ⟨by simp [rsQ, hnm], Below.refl _ _⟩

end Go.Proofs.Ytcjkjenebnodbaa

/-
  The program's SameRecords, whole.
-/
namespace Go.Proofs.Ytcjkjenebnodbaa
open Go.RowKit
set_option linter.unusedVariables false

/-- Whether two records are the same. -/
def sameR (r s : Rc) : Bool := decide (r.k = s.k) && (decide (r.t = s.t) && (decide (r.g = s.g) && rsQ r.n s.n r.P s.P r.Z s.Z))
def sameL (R S : Nat → Rc) : Nat → Bool
  | 0 => true
  | n + 1 => sameL R S n && sameR (R n) (S n)
def sameQ (n m : Nat) (R S : Nat → Rc) : Bool := decide (n = m) && sameL R S n
theorem sameL_stay {R S : Nat → Rc} {j n : Nat} (h : sameL R S j = false) (hj : j ≤ n) : sameL R S n = false := by
  induction n with
  | zero => have : j = 0 := by omega
            subst this; exact h
  | succ n ih =>
    by_cases e : j = n + 1
    · subst e; exact h
    · simp only [sameL]; rw [ih (by omega)]; rfl

/-- A record that is read: its runs are few and small. -/
structure RcOk (w : World) (r : Rc) (d : Ad) : Prop where
  rd : RunsRead w d.a r.n r.P d.A d.C r.Z
  sm : r.n ≤ 1048576
  bd : ∀ i, i < r.n → ∀ z ∈ r.Z i, 0 ≤ z ∧ z ≤ 255
theorem RcOk.below {w w' : World} {r : Rc} {d : Ad} (h : RcOk w r d) {B : Nat} (hb : Below B w w') (hB : w.heap.size ≤ B) : RcOk w' r d := ⟨h.rd.below hb hB, h.sm, h.bd⟩

set_option maxHeartbeats 2000000 in
theorem sameRecord_any (r s : Rc) (d e' : Ad) (w : World) (hr : RcOk w r d) (hs : RcOk w s e') :
    Calls Try.prog 82 #[.agg #[.int .i64 r.k, .int .i64 r.t, .int .i64 r.g, .slice d.a r.n d.c], .agg #[.int .i64 s.k, .int .i64 s.t, .int .i64 s.g, .slice e'.a s.n e'.c]] w fun e w' => e = .returned (.bool (sameR r s)) ∧ Below w.heap.size w w' := by
  have HC : Hid (∀ X, Below w.heap.size w X → Calls Try.prog 117 #[.slice d.a r.n d.c, .slice e'.a s.n e'.c, .func (.func 118) #[] #[]] X fun e w' => e = .returned (.bool (rsQ r.n s.n r.P s.P r.Z s.Z)) ∧ Below X.heap.size X w') := fun X g => equalRuns_any _ _ _ _ _ _ _ _ _ _ _ _ _ _ X hr.sm hs.sm (hr.rd.below g (Nat.le_refl _)) (hs.rd.below g (Nat.le_refl _)) hr.bd hs.bd
  have HS : Hid (sameR r s = (decide (r.k = s.k) && (decide (r.t = s.t) && (decide (r.g = s.g) && rsQ r.n s.n r.P s.P r.Z s.Z)))) := rfl
  clear hr hs
  generalize rsQ r.n s.n r.P s.P r.Z s.Z = tq at HC HS
  generalize sameR r s = sr at HS ⊢
  generalize r.k = k at HS ⊢
  generalize r.t = t at HS ⊢
  generalize r.g = g at HS ⊢
  generalize r.n = n at HC ⊢
  generalize s.k = k' at HS ⊢
  generalize s.t = t' at HS ⊢
  generalize s.g = g' at HS ⊢
  generalize s.n = m at HC ⊢
  by_cases h1 : k = k'
  · subst h1
    by_cases h2 : t = t'
    · subst h2
      by_cases h3 : g = g'
      · subst h3
        have HS2 : Hid (sr = tq) := by show _ = _; rw [HS.out]; simp
        clear HS
        go_enter Try.func82, Try.ntmps82
        go_wp2_with fail
        refine (HC.out _ (by go_grown)).mono ?_
        rintro e w' ⟨rfl, hb⟩
        have gg : Below w.heap.size w w' := Below.trans (by go_grown) (hb.mono (by simp; omega))
        clear hb
        go_wp2_with fail
        go_ret
        exact ⟨by rw [HS2.out]; rfl, gg⟩
      · have HS2 : Hid (sr = false) := by show _ = _; rw [HS.out]; simp [h3]
        have d3 : decide (g = g') = false := by simpa using h3
        clear HS
        go_enter Try.func82, Try.ntmps82
        go_wp2_with fail
        go_ret
        exact ⟨by rw [HS2.out]; rfl, by go_grown⟩
    · have HS2 : Hid (sr = false) := by show _ = _; rw [HS.out]; simp [h2]
      have d2 : decide (t = t') = false := by simpa using h2
      clear HS
      go_enter Try.func82, Try.ntmps82
      go_wp2_with fail
      go_ret
      exact ⟨by rw [HS2.out]; rfl, by go_grown⟩
  · have HS2 : Hid (sr = false) := by show _ = _; rw [HS.out]; simp [h1]
    have d1 : decide (k = k') = false := by simpa using h1
    clear HS
    go_enter Try.func82, Try.ntmps82
    go_wp2_with fail
    go_ret
    exact ⟨by rw [HS2.out]; rfl, by go_grown⟩

set_option maxHeartbeats 2000000 in
theorem equalRecs_any (a b : Option Addr) (n m c d : Nat) (R S : Nat → Rc) (D E : Nat → Ad) (w : World) (hn : n ≤ 1048576) (hm : m ≤ 1048576) (hx : RecsRead w a n R D) (hy : RecsRead w b m S E) (hz : ∀ i, i < n → (R i).n ≤ 1048576 ∧ ∀ j, j < (R i).n → ∀ z ∈ (R i).Z j, 0 ≤ z ∧ z ≤ 255) (hz' : ∀ i, i < m → (S i).n ≤ 1048576 ∧ ∀ j, j < (S i).n → ∀ z ∈ (S i).Z j, 0 ≤ z ∧ z ≤ 255) :
    Calls Try.prog 81 #[.slice a n c, .slice b m d, .func (.func 82) #[] #[]] w fun e w' => e = .returned (.bool (sameQ n m R S)) ∧ Below w.heap.size w w' := by
  by_cases hnm : n = m
  · subst hnm
    by_cases h0 : n = 0
    · subst h0
      go_enter Try.func81, Try.ntmps81
      go_wp2_with fail
      go_rounds 1
      go_ret
      exact ⟨by simp [sameQ, sameL], Below.refl _ _⟩
    have HX : Hid (RecsRead w a n R D) := hx
    have HY : Hid (RecsRead w b n S E) := hy
    have HZ : Hid (∀ i, i < n → (R i).n ≤ 1048576 ∧ ∀ j, j < (R i).n → ∀ z ∈ (R i).Z j, 0 ≤ z ∧ z ≤ 255) := hz
    have HZ' : Hid (∀ i, i < n → (S i).n ≤ 1048576 ∧ ∀ j, j < (S i).n → ∀ z ∈ (S i).Z j, 0 ≤ z ∧ z ≤ 255) := hz'
    obtain ⟨x, xo, rfl⟩ : ∃ x xo, a = some ⟨x, xo, none⟩ := by
      rcases hx with h | ⟨x, xo, h, _⟩
      · exact absurd h h0
      · exact ⟨x, xo, h⟩
    obtain ⟨y, yo, rfl⟩ : ∃ y yo, b = some ⟨y, yo, none⟩ := by
      rcases hy with h | ⟨x, xo, h, _⟩
      · exact absurd h h0
      · exact ⟨x, xo, h⟩
    clear hx hy hz hz'
    go_enter Try.func81, Try.ntmps81
    go_wp2_with fail
    go_loopw [17] (fun i wr => ∃ k : Nat, k ≤ n ∧ i = .int .i64 k ∧ Below w.heap.size w wr ∧ Hid (sameL R S k = true)) (fun i _ => n - (intOf i).toNat)
    case atStart => exact ⟨0, Nat.zero_le _, rfl, Below.refl _ _, rfl⟩
    case round =>
      obtain ⟨k, hk, rfl, g, hT⟩ := hrel
      by_cases hlt : k < n
      · obtain ⟨x0, x1, x2, x3, x4⟩ := (HX.out.below g (Nat.le_refl _)).at_ k hlt
        obtain ⟨y0, y1, y2, y3, y4⟩ := (HY.out.below g (Nat.le_refl _)).at_ k hlt
        have hkn : (k : Int) < (n : Int) := by omega
        have hlx : x < wr.heap.size := World.block_lt_of_cell? wr _ x0
        have hly : y < wr.heap.size := World.block_lt_of_cell? wr _ y0
        have HC : Hid (∀ X, Below wr.heap.size wr X → Calls Try.prog 82 #[.agg #[.int .i64 (R k).k, .int .i64 (R k).t, .int .i64 (R k).g, .slice (D k).a (R k).n (D k).c], .agg #[.int .i64 (S k).k, .int .i64 (S k).t, .int .i64 (S k).g, .slice (E k).a (S k).n (E k).c]] X fun e w' => e = .returned (.bool (sameR (R k) (S k))) ∧ Below X.heap.size X w') := fun X gX => sameRecord_any (R k) (S k) (D k) (E k) X (RcOk.below ⟨x4, (HZ.out k hlt).1, (HZ.out k hlt).2⟩ gX (Nat.le_refl _)) (RcOk.below ⟨y4, (HZ'.out k hlt).1, (HZ'.out k hlt).2⟩ gX (Nat.le_refl _))
        obtain ⟨t, ht⟩ : ∃ t, t = sameR (R k) (S k) := ⟨_, rfl⟩
        have HTt : Hid (t = true → sameL R S (k + 1) = true) := fun h => by simp only [sameL]; rw [hT.out, ← ht, h]; rfl
        have HTf : Hid (t = false → sameL R S n = false) := fun h => sameL_stay (j := k + 1) (by simp only [sameL]; rw [hT.out, ← ht, h]; rfl) (by omega)
        rw [← ht] at HC
        clear ht x4 y4
        generalize R k = r at x0 x1 x2 x3 HC
        generalize S k = s at y0 y1 y2 y3 HC
        go_wp2_with fail
        refine (HC.out _ (by go_grown)).mono ?_
        rintro e w' ⟨rfl, hb⟩
        have g : Below w.heap.size w w' := g.trans (Below.mono (B := wr.heap.size) (Below.trans (by go_grown) (hb.mono (by simp; omega))) g.size)
        clear hb x0 x1 x2 x3 y0 y1 y2 y3 HC
        cases t with
        | true =>
          have HT2 : Hid (sameL R S (k + 1) = true) := HTt.out rfl
          go_wp2_with fail
          go_roundw
          case rel => exact ⟨k + 1, by omega, by go_num, g, HT2⟩
          case measure => simp [intOf]; omega
        | false =>
          have HF : Hid (sameL R S n = false) := HTf.out rfl
          go_wp2_with fail
          go_ret
          exact ⟨by simp [sameQ, HF.out], g⟩
      · have e : k = n := by omega
        subst e
        go_wp2_with fail
        go_ret
        exact ⟨by simp [sameQ, hT.out], g⟩
  · have hd : ¬ ((n : Int) = (m : Int)) := by omega
    go_enter Try.func81, Try.ntmps81
    go_wp2_with fail
    go_ret
    exact ⟨by simp [sameQ, hnm], Below.refl _ _⟩

set_option maxHeartbeats 400000 in
theorem implSameRecords_any (a b : Option Addr) (n m c d : Nat) (R S : Nat → Rc) (D E : Nat → Ad) (w : World) (hn : n ≤ 1048576) (hm : m ≤ 1048576) (hx : RecsRead w a n R D) (hy : RecsRead w b m S E) (hz : ∀ i, i < n → (R i).n ≤ 1048576 ∧ ∀ j, j < (R i).n → ∀ z ∈ (R i).Z j, 0 ≤ z ∧ z ≤ 255) (hz' : ∀ i, i < m → (S i).n ≤ 1048576 ∧ ∀ j, j < (S i).n → ∀ z ∈ (S i).Z j, 0 ≤ z ∧ z ≤ 255) :
    Calls Try.prog 24 #[.slice a n c, .slice b m d] w fun e w' => e = .returned (.bool (sameQ n m R S)) ∧ Below w.heap.size w w' := by
  have HC : Hid (Calls Try.prog 81 #[.slice a n c, .slice b m d, .func (.func 82) #[] #[]] w fun e w' => e = .returned (.bool (sameQ n m R S)) ∧ Below w.heap.size w w') := equalRecs_any a b n m c d R S D E w hn hm hx hy hz hz'
  generalize sameQ n m R S = q at HC ⊢
  clear hx hy hz hz'
  go_enter Try.func24, Try.ntmps24
  go_wp2_with fail
  refine HC.out.mono ?_
  rintro e w' ⟨rfl, hb⟩
  go_wp2_with fail
  go_ret
  exact ⟨rfl, hb⟩

end Go.Proofs.Ytcjkjenebnodbaa
