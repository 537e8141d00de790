/-
  How much a record takes, from whatever was left; records that came in.
-/
import Derived.Test.YtcjkjenebnodbaaDoorSRcm
import Derived.Test.YtcjkjenebnodbaaDoorSDBnt

namespace Go.Proofs.YtcjkjenebnodbaaDoor
open Go.RowKit
set_option linter.unusedVariables false

set_option maxHeartbeats 400000 in
theorem szRunS_gen (a : Option Addr) (n c : Nat) (P : Nat → Int) (A : Nat → Option Addr) (C : Nat → Nat) (Z : Nat → List Int) (k : Int) (w : World) (hk0 : 0 ≤ k) (hk1 : k ≤ 1048576) (hm : n ≤ 9223372036854775807) (hz : ∀ i, i < n → (Z i).length ≤ 9223372036854775807) (hr : RunsRead w a n P A C Z) :
    Calls Tryd.prog 40 #[.slice a n c, .int .i64 k] w fun e w' => (∃ r : Int, e = .returned (.int .i64 r) ∧ (r = -1 ∨ (0 ≤ r ∧ r = k - n - took Z n))) ∧ Below w.heap.size w w' := by
  by_cases h : k < n
  · have d : (k - (n : Int) < 0) := by omega
    go_enter Tryd.func40, Tryd.ntmps40
    go_wp2_with fail
    go_ret
    exact ⟨⟨-1, rfl, .inl rfl⟩, Below.refl _ _⟩
  · have d : ¬ (k - (n : Int) < 0) := by omega
    by_cases h0 : n = 0
    · subst h0
      go_enter Tryd.func40, Tryd.ntmps40
      go_wp2_with fail
      go_rounds 1
      go_ret
      exact ⟨⟨k, by simp, .inr ⟨hk0, by simp [took]⟩⟩, Below.refl _ _⟩
    rcases hr with hr | ⟨b, off, rfl, hc⟩
    · exact absurd hr h0
    have hb0 : b < w.heap.size := World.block_lt_of_cell? w _ (hc 0 (by omega)).1
    go_enter Tryd.func40, Tryd.ntmps40
    go_wp2_with fail
    go_loopw [5, 1] (fun i l wr => ∃ j : Nat, j ≤ n ∧ i = .int .i64 j ∧ l = .int .i64 (k - n - took Z j) ∧ n + took Z j ≤ k ∧ Below w.heap.size w wr) (fun i _ _ => n - (intOf i).toNat)
    case atStart => exact ⟨0, Nat.zero_le _, rfl, by simp [took], by simp [took]; omega, Below.refl _ _⟩
    case round =>
      obtain ⟨j, hj, rfl, rfl, hl, g⟩ := hrel
      by_cases hlt : j < n
      · obtain ⟨e0, e1, _⟩ := hc j hlt
        have e0 := (g.cell (p := ⟨b, off + j * 2, none⟩) hb0).trans e0
        have e1 := (g.cell (p := ⟨b, off + j * 2 + 1, none⟩) hb0).trans e1
        have hjn : (j : Int) < (n : Int) := by omega
        clear hc
        have hq : Hid (∀ r, r = szQ (k - n - took Z j) (Z j).length → r = -1 ∨ (0 ≤ r ∧ r = k - n - took Z (j + 1))) := by
          intro r hr
          rw [hr]
          unfold szQ
          simp only [took]
          split <;> omega
        go_wp2_with fail
        refine (szRun_any (P j) (A j) (Z j).length (C j) _ _ (hz j hlt) (by omega) (by omega)).mono ?_
        rintro e w' ⟨rfl, g'⟩
        have g : Below w.heap.size w w' := g.trans (g'.mono g.size)
        clear g' e0 e1
        obtain ⟨r, hr⟩ : ∃ r, r = szQ (k - n - took Z j) (Z j).length := ⟨_, rfl⟩
        have hr1 := hq.out r hr
        rw [← hr]
        clear hr hq
        rcases hr1 with rfl | ⟨hr0, hr1⟩
        · go_wp2_with fail
          go_ret
          exact ⟨⟨-1, rfl, .inl rfl⟩, g⟩
        · have HR : Hid (r = k - n - took Z (j + 1)) := hr1
          have hl' : n + took Z (j + 1) ≤ k := by omega
          have dr : ¬ (r < 0) := by omega
          clear hr1
          go_wp2_with fail
          go_roundw
          case rel => exact ⟨j + 1, by omega, by go_num, by rw [← HR.out], hl', g⟩
          case measure => simp [intOf]; omega
      · have e : j = n := by omega
        subst e
        go_wp2_with fail
        go_ret
        exact ⟨⟨_, rfl, .inr ⟨by omega, rfl⟩⟩, g⟩

set_option maxHeartbeats 400000 in
theorem szRecord_gen (k tx pg : Int) (a : Option Addr) (n c : Nat) (P : Nat → Int) (A : Nat → Option Addr) (C : Nat → Nat) (Z : Nat → List Int) (kl : Int) (w : World) (hk0 : 0 ≤ kl) (hk1 : kl ≤ 1048576) (hm : n ≤ 9223372036854775807) (hz : ∀ i, i < n → (Z i).length ≤ 9223372036854775807) (hr : RunsRead w a n P A C Z) :
    Calls Tryd.prog 17 #[.agg #[.int .i64 k, .int .i64 tx, .int .i64 pg, .slice a n c], .int .i64 kl] w fun e w' => (∃ r : Int, e = .returned (.int .i64 r) ∧ (r = -1 ∨ (0 ≤ r ∧ r = kl - n - took Z n))) ∧ Below w.heap.size w w' := by
  have HR : Hid (RunsRead w a n P A C Z) := hr
  have HZ : Hid (∀ i, i < n → (Z i).length ≤ 9223372036854775807) := hz
  clear hr hz
  go_enter Tryd.func17, Tryd.ntmps17
  go_wp2_with fail
  refine (szRunS_gen a n c P A C Z kl _ hk0 hk1 hm HZ.out (HR.out.below (by go_grown) (Nat.le_refl _))).mono ?_
  rintro e w' ⟨⟨r, rfl, hl⟩, hb⟩
  have g : Below w.heap.size w w' := Below.trans (by go_grown) (hb.mono (by simp))
  clear hb
  rcases hl with hl | ⟨h0, hl⟩
  · subst hl
    go_wp2_with fail
    go_ret
    exact ⟨⟨-1, rfl, .inl rfl⟩, g⟩
  · have h1 : ¬ (r < 0) := by omega
    have HL : Hid (r = kl - n - took Z n) := hl
    clear hl
    go_wp2_with fail
    go_ret
    exact ⟨⟨r, rfl, .inr ⟨h0, HL.out⟩⟩, g⟩

end Go.Proofs.YtcjkjenebnodbaaDoor

/-
  eqRecordS, markRecordS, heldRecordS, and what hands a RecordsResult to them.
-/
namespace Go.Proofs.YtcjkjenebnodbaaDoor
open Go.RowKit
set_option linter.unusedVariables false

end Go.Proofs.YtcjkjenebnodbaaDoor

/-
  What came in, opened: a slice of records; szRecordS, toRecordS.
-/
namespace Go.Proofs.YtcjkjenebnodbaaDoor
open Go.ChangeShapes Go.WideShapes Go.RowKit
set_option linter.unusedVariables false

/-- The slice that begins at a reads as n records. -/
def RecsRead (w : World) (a : Option Addr) (n : Nat) (R : Nat → Rc) (D : Nat → Ad) : Prop :=
  n = 0 ∨ ∃ b off, a = some ⟨b, off, none⟩ ∧ ∀ i, i < n → w.cell? ⟨b, off + i * 4, none⟩ = some (.int .i64 (R i).k) ∧ w.cell? ⟨b, off + i * 4 + 1, none⟩ = some (.int .i64 (R i).t) ∧ w.cell? ⟨b, off + i * 4 + 2, none⟩ = some (.int .i64 (R i).g) ∧ w.cell? ⟨b, off + i * 4 + 3, none⟩ = some (.slice (D i).a (R i).n (D i).c) ∧ RunsRead w (D i).a (R i).n (R i).P (D i).A (D i).C (R i).Z
theorem RecsRead.below {w w' : World} {a : Option Addr} {n : Nat} {R : Nat → Rc} {D : Nat → Ad} (h : RecsRead w a n R D) {B : Nat} (hb : Below B w w') (hB : w.heap.size ≤ B) : RecsRead w' a n R D := by
  have up : ∀ (p : Addr) (v : Value), w.cell? p = some v → w'.cell? p = some v := fun p v h => (hb.cell (Nat.lt_of_lt_of_le (World.block_lt_of_cell? w _ h) hB)).trans h
  rcases h with h | ⟨b, off, ha, hc⟩
  · exact .inl h
  · refine .inr ⟨b, off, ha, fun i hi => ?_⟩
    obtain ⟨h0, h1, h2, h3, h4⟩ := hc i hi
    exact ⟨up _ _ h0, up _ _ h1, up _ _ h2, up _ _ h3, h4.below hb hB⟩
theorem RecsRead.at_ {w : World} {b off n : Nat} {R : Nat → Rc} {D : Nat → Ad} (h : RecsRead w (some ⟨b, off, none⟩) n R D) (i : Nat) (hi : i < n) : w.cell? ⟨b, off + i * 4, none⟩ = some (.int .i64 (R i).k) ∧ w.cell? ⟨b, off + i * 4 + 1, none⟩ = some (.int .i64 (R i).t) ∧ w.cell? ⟨b, off + i * 4 + 2, none⟩ = some (.int .i64 (R i).g) ∧ w.cell? ⟨b, off + i * 4 + 3, none⟩ = some (.slice (D i).a (R i).n (D i).c) ∧ RunsRead w (D i).a (R i).n (R i).P (D i).A (D i).C (R i).Z := by
  rcases h with h | ⟨b', off', e, hc⟩
  · omega
  · simp only [Option.some.injEq, Addr.mk.injEq, and_true] at e
    obtain ⟨rfl, rfl⟩ := e
    exact hc i hi

structure IsRecs (w : World) (a : Option Addr) (len : Nat) (R : Nat → Rc) (D : Nat → Ad) : Prop where
  rd : RecsRead w a len R D
  ln : len ≤ 9223372036854775807
  ir : ∀ i, i < len → IsRuns w (D i).a (R i).n (R i).P (D i).A (D i).C (R i).Z

instance : Inhabited Rc := ⟨⟨0, 0, 0, 0, fun _ => 0, fun _ => []⟩⟩
instance : Inhabited Ad := ⟨⟨none, 0, fun _ => none, fun _ => 0, fun _ => 0, 0, 0⟩⟩
theorem four {α : Type} (xs : List α) (h : xs.length = 4) : ∃ a b c d, xs = [a, b, c, d] := by
  match xs, h with
  | [a, b, c, d], _ => exact ⟨a, b, c, d, rfl⟩

/-- How much n records take. -/
def szR (R : Nat → Rc) : Nat → Nat
  | 0 => 0
  | i + 1 => szR R i + (R i).n + took (R i).Z (R i).n
theorem szR_mono (R : Nat → Rc) (k n : Nat) (h : k ≤ n) : szR R k ≤ szR R n := by
  induction n with
  | zero => have : k = 0 := by omega
            subst this; exact Nat.le_refl _
  | succ n ih =>
    by_cases e : k = n + 1
    · subst e; exact Nat.le_refl _
    · have := ih (by omega); simp only [szR]; omega
theorem szR_one (R : Nat → Rc) (k n : Nat) (h : k < n) : (R k).n + took (R k).Z (R k).n ≤ szR R n := by
  have := szR_mono R (k + 1) n h
  simp only [szR] at this
  omega
theorem tookR_sz (R : Nat → Rc) : ∀ n, tookR R n = 3 * n + szR R n
  | 0 => rfl
  | n + 1 => by have := tookR_sz R n; simp only [tookR, szR]; omega

end Go.Proofs.YtcjkjenebnodbaaDoor

/-
  The program's SameRecords: slices compared by a function value.
-/
namespace Go.Proofs.YtcjkjenebnodbaaDoor
open Go.RowKit
set_option linter.unusedVariables false

/-- Whether the first n runs are the same. -/
def rsB (P P' : Nat → Int) (Z Z' : Nat → List Int) : Nat → Bool
  | 0 => true
  | n + 1 => rsB P P' Z Z' n && (decide (P n = P' n) && decide (Z n = Z' n))
def rsQ (n m : Nat) (P P' : Nat → Int) (Z Z' : Nat → List Int) : Bool := decide (n = m) && rsB P P' Z Z' n
theorem rsB_stay {P P' : Nat → Int} {Z Z' : Nat → List Int} {j n : Nat} (h : rsB P P' Z Z' j = false) (hj : j ≤ n) : rsB P P' Z Z' n = false := by
  induction n with
  | zero => have : j = 0 := by omega
            subst this; exact h
  | succ n ih =>
    by_cases e : j = n + 1
    · subst e; exact h
    · simp only [rsB]; rw [ih (by omega)]; rfl

set_option maxHeartbeats 400000 in
theorem sameRun_any (p p' : Int) (a b : Option Addr) (n m c d : Nat) (xs ys : List Int) (w : World) (hn : xs.length = n) (hm : ys.length = m) (ha : Reads w a xs) (hb : Reads w b ys) (hx : ∀ z ∈ xs, 0 ≤ z ∧ z ≤ 255) (hy : ∀ z ∈ ys, 0 ≤ z ∧ z ≤ 255) :
    Calls Tryd.prog 59 #[.agg #[.int .i64 p, .slice a n c], .agg #[.int .i64 p', .slice b m d]] w fun e w' => e = .returned (.bool (decide (p = p') && decide (xs = ys))) ∧ Below w.heap.size w w' := by
  have HA : Hid (Reads w a xs) := ha
  have HB : Hid (Reads w b ys) := hb
  have HX : Hid (∀ z ∈ xs, 0 ≤ z ∧ z ≤ 255) := hx
  have HY : Hid (∀ z ∈ ys, 0 ≤ z ∧ z ≤ 255) := hy
  obtain ⟨t, ht⟩ : ∃ t, t = decide (xs = ys) := ⟨_, rfl⟩
  have HT : Hid (t = decide (xs = ys)) := ht
  clear ha hb hx hy ht
  by_cases hp : p = p'
  · subst hp
    go_enter Tryd.func59, Tryd.ntmps59
    go_wp2_with fail
    refine (bytesEqual_any a b n m c d xs ys _ hn hm (HA.out.below (by go_grown) (Nat.le_refl _)) (HB.out.below (by go_grown) (Nat.le_refl _)) HX.out HY.out).mono ?_
    rintro e w' ⟨rfl, hw'⟩
    subst w'
    rw [← HT.out]
    go_wp2_with fail
    go_ret
    exact ⟨by simp [HT.out], by go_grown⟩
  · have hd : decide (p = p') = false := by simpa using hp
    go_enter Tryd.func59, Tryd.ntmps59
    go_wp2_with fail
    go_ret
    exact ⟨by simp [hp], by go_grown⟩

set_option maxHeartbeats 1000000 in
theorem equalRuns_any (a b : Option Addr) (n m c d : Nat) (P P' : Nat → Int) (A B : Nat → Option Addr) (C E : Nat → Nat) (Z Z' : Nat → List Int) (w : World) (hn : n ≤ 1048576) (hm : m ≤ 1048576) (hx : RunsRead w a n P A C Z) (hy : RunsRead w b m P' B E Z') (hz : ∀ i, i < n → ∀ z ∈ Z i, 0 ≤ z ∧ z ≤ 255) (hz' : ∀ i, i < m → ∀ z ∈ Z' i, 0 ≤ z ∧ z ≤ 255) :
    Calls Tryd.prog 58 #[.slice a n c, .slice b m d, .func (.func 59) #[] #[]] w fun e w' => e = .returned (.bool (rsQ n m P P' Z Z')) ∧ Below w.heap.size w w' := by
  by_cases hnm : n = m
  · subst hnm
    by_cases h0 : n = 0
    · subst h0
      go_enter Tryd.func58, Tryd.ntmps58
      go_wp2_with fail
      go_rounds 1
      go_ret
      exact ⟨by simp [rsQ, rsB], Below.refl _ _⟩
    have HX : Hid (RunsRead w a n P A C Z) := hx
    have HY : Hid (RunsRead w b n P' B E Z') := hy
    have HZ : Hid (∀ i, i < n → ∀ z ∈ Z i, 0 ≤ z ∧ z ≤ 255) := hz
    have HZ' : Hid (∀ i, i < n → ∀ z ∈ Z' i, 0 ≤ z ∧ z ≤ 255) := hz'
    obtain ⟨x, xo, rfl⟩ : ∃ x xo, a = some ⟨x, xo, none⟩ := by
      rcases hx with h | ⟨x, xo, h, _⟩
      · exact absurd h h0
      · exact ⟨x, xo, h⟩
    obtain ⟨y, yo, rfl⟩ : ∃ y yo, b = some ⟨y, yo, none⟩ := by
      rcases hy with h | ⟨x, xo, h, _⟩
      · exact absurd h h0
      · exact ⟨x, xo, h⟩
    clear hx hy hz hz'
    go_enter Tryd.func58, Tryd.ntmps58
    go_wp2_with fail
    go_loopw [17] (fun i wr => ∃ k : Nat, k ≤ n ∧ i = .int .i64 k ∧ Below w.heap.size w wr ∧ Hid (rsB P P' Z Z' k = true)) (fun i _ => n - (intOf i).toNat)
    case atStart => exact ⟨0, Nat.zero_le _, rfl, Below.refl _ _, rfl⟩
    case round =>
      obtain ⟨k, hk, rfl, g, hT⟩ := hrel
      by_cases hlt : k < n
      · obtain ⟨x0, x1, x2⟩ := (HX.out.below g (Nat.le_refl _)).at_ k hlt
        obtain ⟨y0, y1, y2⟩ := (HY.out.below g (Nat.le_refl _)).at_ k hlt
        have hkn : (k : Int) < (n : Int) := by omega
        have hlx : x < wr.heap.size := World.block_lt_of_cell? wr _ x0
        have hly : y < wr.heap.size := World.block_lt_of_cell? wr _ y0
        have HZk := HZ.out k hlt
        have HZk' := HZ'.out k hlt
        have HZk : Hid (∀ z ∈ Z k, 0 ≤ z ∧ z ≤ 255) := HZk
        have HZk' : Hid (∀ z ∈ Z' k, 0 ≤ z ∧ z ≤ 255) := HZk'
        have HX2 : Hid (Reads wr (A k) (Z k)) := x2
        have HY2 : Hid (Reads wr (B k) (Z' k)) := y2
        obtain ⟨t, ht⟩ : ∃ t, t = (decide (P k = P' k) && decide (Z k = Z' k)) := ⟨_, rfl⟩
        have HT : Hid (t = (decide (P k = P' k) && decide (Z k = Z' k))) := ht
        clear ht x2 y2
        go_wp2_with fail
        refine (sameRun_any (P k) (P' k) (A k) (B k) _ _ (C k) (E k) (Z k) (Z' k) _ rfl rfl (HX2.out.below (by go_grown) (Nat.le_refl _)) (HY2.out.below (by go_grown) (Nat.le_refl _)) HZk.out HZk'.out).mono ?_
        rintro e w' ⟨rfl, hb⟩
        have g : Below w.heap.size w w' := g.trans (Below.mono (B := wr.heap.size) (Below.trans (by go_grown) (hb.mono (by simp; omega))) g.size)
        rw [← HT.out]
        clear hb x0 x1 y0 y1
        cases t with
        | true =>
          have HT2 : Hid (rsB P P' Z Z' (k + 1) = true) := by show _ = _; simp only [rsB]; rw [hT.out, ← HT.out]; rfl
          go_wp2_with fail
          go_roundw
          case rel => exact ⟨k + 1, by omega, by go_num, g, HT2⟩
          case measure => simp [intOf]; omega
        | false =>
          have HF : Hid (rsB P P' Z Z' n = false) := rsB_stay (j := k + 1) (by simp only [rsB]; rw [hT.out, ← HT.out]; rfl) (by omega)
          go_wp2_with fail
          go_ret
          exact ⟨by simp [rsQ, HF.out], g⟩
      · have e : k = n := by omega
        subst e
        go_wp2_with fail
        go_ret
        exact ⟨by simp [rsQ, hT.out], g⟩
  · have hd : ¬ ((n : Int) = (m : Int)) := by omega
    go_enter Tryd.func58, Tryd.ntmps58
    go_wp2_with fail
    go_ret
    exact ⟨by simp [rsQ, hnm], Below.refl _ _⟩

end Go.Proofs.YtcjkjenebnodbaaDoor
