/-
  Records marked, compared and looked through: eqRecordS, markRecordS, heldRecordS.
-/
import Derived.Test.YtcjkjenebnodbaaRRss

namespace Go.Proofs.Ytcjkjenebnodbaa
open Go.RowKit
set_option linter.unusedVariables false

section
variable {lo hi b n : Nat} {w w' : World} {R R' : Nat → Rc} {D : Nat → Ad}
theorem OwnR.congr (h : OwnR lo hi w b n R D) (hR : ∀ i, i < n → R i = R' i) : OwnR lo hi w b n R' D :=
  ⟨h.l0, h.h0, fun i hi => by rw [← hR i hi]; exact h.c0 i hi, fun i hi => by rw [← hR i hi]; exact h.c1 i hi, fun i hi => by rw [← hR i hi]; exact h.c2 i hi, fun i hi => by rw [← hR i hi]; exact h.c3 i hi, h.f0, h.f1, h.f2, h.f3, fun i hi => by rw [← hR i hi]; exact h.rn i hi, h.fr, h.ne⟩
theorem OwnRS.congr {a : Option Addr} (h : OwnRS lo hi w a n R D) (hR : ∀ i, i < n → R i = R' i) : OwnRS lo hi w a n R' D := h.imp id (fun ⟨b, e, ho⟩ => ⟨b, e, ho.congr hR⟩)

/-- The three numbers of the j-th record are turned. -/
theorem OwnR.set3 (h : OwnR lo hi w b n R D) {j : Nat} (hj : j < n) (x y z : Int) :
    OwnR lo hi (((w.setCell ⟨b, j * 4, none⟩ (.int .i64 x)).setCell ⟨b, j * 4 + 1, none⟩ (.int .i64 y)).setCell ⟨b, j * 4 + 2, none⟩ (.int .i64 z)) b n (fun i => if i = j then { R i with k := x, t := y, g := z } else R i) D := by
  have T : Turned b (b + 1) w (((w.setCell ⟨b, j * 4, none⟩ (.int .i64 x)).setCell ⟨b, j * 4 + 1, none⟩ (.int .i64 y)).setCell ⟨b, j * 4 + 2, none⟩ (.int .i64 z)) :=
    (((Turned.refl b (b + 1) w).setCell (p := ⟨b, j * 4, none⟩) (Nat.le_refl b) (Nat.lt_succ_self b) _).setCell (p := ⟨b, j * 4 + 1, none⟩) (Nat.le_refl b) (Nat.lt_succ_self b) _).setCell (p := ⟨b, j * 4 + 2, none⟩) (Nat.le_refl b) (Nat.lt_succ_self b) _
  have oth : ∀ (o : Nat) (v : Value), o ≠ j * 4 → o ≠ j * 4 + 1 → o ≠ j * 4 + 2 → w.cell? ⟨b, o, none⟩ = some v → (((w.setCell ⟨b, j * 4, none⟩ (.int .i64 x)).setCell ⟨b, j * 4 + 1, none⟩ (.int .i64 y)).setCell ⟨b, j * 4 + 2, none⟩ (.int .i64 z)).cell? ⟨b, o, none⟩ = some v := fun o v h0 h1 h2 hv => by
    rw [World.cell?_setCell_other _ _ _ _ (fun e => h2 (by have := congrArg Addr.off e; simp at this; omega)), World.cell?_setCell_other _ _ _ _ (fun e => h1 (by have := congrArg Addr.off e; simp at this; omega)), World.cell?_setCell_other _ _ _ _ (fun e => h0 (by have := congrArg Addr.off e; simp at this; omega))]
    exact hv
  have e0 : (((w.setCell ⟨b, j * 4, none⟩ (.int .i64 x)).setCell ⟨b, j * 4 + 1, none⟩ (.int .i64 y)).setCell ⟨b, j * 4 + 2, none⟩ (.int .i64 z)).cell? ⟨b, j * 4, none⟩ = some (.int .i64 x) := by
    rw [World.cell?_setCell_other _ _ _ _ (fun e => by have := congrArg Addr.off e; simp at this), World.cell?_setCell_other _ _ _ _ (fun e => by have := congrArg Addr.off e; simp at this)]
    exact World.cell?_setCell_same _ _ _ (h.c0 j hj)
  have e1 : (((w.setCell ⟨b, j * 4, none⟩ (.int .i64 x)).setCell ⟨b, j * 4 + 1, none⟩ (.int .i64 y)).setCell ⟨b, j * 4 + 2, none⟩ (.int .i64 z)).cell? ⟨b, j * 4 + 1, none⟩ = some (.int .i64 y) := by
    rw [World.cell?_setCell_other _ _ _ _ (fun e => by have := congrArg Addr.off e; simp at this)]
    refine World.cell?_setCell_same _ _ _ (u := .int .i64 (R j).t) ?_
    rw [World.cell?_setCell_other _ _ _ _ (fun e => by have := congrArg Addr.off e; simp at this)]
    exact h.c1 j hj
  have e2 : (((w.setCell ⟨b, j * 4, none⟩ (.int .i64 x)).setCell ⟨b, j * 4 + 1, none⟩ (.int .i64 y)).setCell ⟨b, j * 4 + 2, none⟩ (.int .i64 z)).cell? ⟨b, j * 4 + 2, none⟩ = some (.int .i64 z) := by
    refine World.cell?_setCell_same _ _ _ (u := .int .i64 (R j).g) ?_
    rw [World.cell?_setCell_other _ _ _ _ (fun e => by have := congrArg Addr.off e; simp at this), World.cell?_setCell_other _ _ _ _ (fun e => by have := congrArg Addr.off e; simp at this)]
    exact h.c2 j hj
  refine ⟨h.l0, h.h0, fun i hi => ?_, fun i hi => ?_, fun i hi => ?_, fun i hi => ?_, fun i hi => ?_, fun i hi => ?_, fun i hi => ?_, fun i hi => ?_, fun i hi => ?_, h.fr, h.ne⟩
  · by_cases e : i = j
    · subst e; simp only [if_true]; exact e0
    · simp only [if_neg e]; exact oth _ _ (by omega) (by omega) (by omega) (h.c0 i hi)
  · by_cases e : i = j
    · subst e; simp only [if_true]; exact e1
    · simp only [if_neg e]; exact oth _ _ (by omega) (by omega) (by omega) (h.c1 i hi)
  · by_cases e : i = j
    · subst e; simp only [if_true]; exact e2
    · simp only [if_neg e]; exact oth _ _ (by omega) (by omega) (by omega) (h.c2 i hi)
  · by_cases e : i = j
    · subst e; simp only [if_true]; exact oth _ _ (by omega) (by omega) (by omega) (h.c3 i hi)
    · simp only [if_neg e]; exact oth _ _ (by omega) (by omega) (by omega) (h.c3 i hi)
  · rw [World.frozen?_setCell, World.frozen?_setCell, World.frozen?_setCell]; exact h.f0 i hi
  · rw [World.frozen?_setCell, World.frozen?_setCell, World.frozen?_setCell]; exact h.f1 i hi
  · rw [World.frozen?_setCell, World.frozen?_setCell, World.frozen?_setCell]; exact h.f2 i hi
  · rw [World.frozen?_setCell, World.frozen?_setCell, World.frozen?_setCell]; exact h.f3 i hi
  · have hf := h.fr i hi
    have := (h.rn i hi).turned T (by omega)
    by_cases e : i = j
    · simp only [if_pos e]; exact this
    · simp only [if_neg e]; exact this

/-- The runs of the j-th record are turned. -/
theorem OwnR.setRuns (h : OwnR lo hi w b n R D) {j : Nat} (hj : j < n) {r : Rc} (hk : r.k = (R j).k) (ht' : r.t = (R j).t) (hg : r.g = (R j).g) (hn : r.n = (R j).n) (ht : Turned (D j).lo (D j).hi w w') (hr : RunsAt w' r (D j)) : OwnR lo hi w' b n (fun i => if i = j then r else R i) D := by
  have hf := h.fr j hj
  have hl := h.l0
  have hh := h.h0
  refine ⟨h.l0, h.h0, fun i hi => ?_, fun i hi => ?_, fun i hi => ?_, fun i hi => ?_, fun i hi => (ht.frozen (h.c0 i hi) (by simp only; omega)).trans (h.f0 i hi), fun i hi => (ht.frozen (h.c1 i hi) (by simp only; omega)).trans (h.f1 i hi), fun i hi => (ht.frozen (h.c2 i hi) (by simp only; omega)).trans (h.f2 i hi), fun i hi => (ht.frozen (h.c3 i hi) (by simp only; omega)).trans (h.f3 i hi), fun i hi => ?_, h.fr, h.ne⟩
  · rw [ht.cell (h.c0 i hi) (by simp only; omega)]
    by_cases e : i = j
    · subst e; simp only [if_true]; rw [hk]
    · simp only [if_neg e]
  · rw [ht.cell (h.c1 i hi) (by simp only; omega)]
    by_cases e : i = j
    · subst e; simp only [if_true]; rw [ht']
    · simp only [if_neg e]
  · rw [ht.cell (h.c2 i hi) (by simp only; omega)]
    by_cases e : i = j
    · subst e; simp only [if_true]; rw [hg]
    · simp only [if_neg e]
  · rw [ht.cell (h.c3 i hi) (by simp only; omega)]
    by_cases e : i = j
    · subst e; simp only [if_true]; rw [hn]
    · simp only [if_neg e]
  · by_cases e : i = j
    · subst e; simp only [if_true]; exact hr
    · simp only [if_neg e]
      refine (h.rn i hi).turned ht ?_
      rcases Nat.lt_or_gt_of_ne e with h1 | h1
      · have := h.ne i j h1 hj; omega
      · have := h.ne j i h1 hi; omega
end

/-- How many marks the first i records take. -/
def tookR (R : Nat → Rc) : Nat → Nat
  | 0 => 0
  | i + 1 => tookR R i + 3 + (R i).n + took (R i).Z (R i).n
theorem tookR_mono (R : Nat → Rc) (k n : Nat) (h : k ≤ n) : tookR R k ≤ tookR R n := by
  induction n with
  | zero => have : k = 0 := by omega
            subst this; exact Nat.le_refl _
  | succ n ih =>
    by_cases e : k = n + 1
    · subst e; exact Nat.le_refl _
    · have := ih (by omega); simp only [tookR]; omega
theorem tookR_one (R : Nat → Rc) (k n : Nat) (h : k < n) : 3 + (R k).n + took (R k).Z (R k).n ≤ tookR R n := by
  have := tookR_mono R (k + 1) n h
  simp only [tookR] at this
  omega
/-- The number with which the i-th record's marks begin. -/
def rmk (R : Nat → Rc) (k : Int) (i : Nat) : Int := k + tookR R i
/-- The i-th record, marked. -/
def mR (R : Nat → Rc) (k : Int) (i : Nat) : Rc := { k := rmk R k i, t := rmk R k i + 1, g := rmk R k i + 1 + 1, n := (R i).n, P := mk (R i).Z (rmk R k i + 1 + 1 + 1), Z := mZ (R i).Z (rmk R k i + 1 + 1 + 1) }
theorem rmk_succ (R : Nat → Rc) (k : Int) (i : Nat) : rmk R k (i + 1) = mk (R i).Z (rmk R k i + 1 + 1 + 1) (R i).n := by unfold rmk mk; simp only [tookR]; omega

end Go.Proofs.Ytcjkjenebnodbaa

/-
  How much a record takes, from whatever was left; records that came in.
-/
namespace Go.Proofs.Ytcjkjenebnodbaa
open Go.RowKit
set_option linter.unusedVariables false

set_option maxHeartbeats 400000 in
theorem szRunS_gen (a : Option Addr) (n c : Nat) (P : Nat → Int) (A : Nat → Option Addr) (C : Nat → Nat) (Z : Nat → List Int) (k : Int) (w : World) (hk0 : 0 ≤ k) (hk1 : k ≤ 1048576) (hm : n ≤ 9223372036854775807) (hz : ∀ i, i < n → (Z i).length ≤ 9223372036854775807) (hr : RunsRead w a n P A C Z) :
    Calls Try.prog 90 #[.slice a n c, .int .i64 k] w fun e w' => (∃ r : Int, e = .returned (.int .i64 r) ∧ (r = -1 ∨ (0 ≤ r ∧ r = k - n - took Z n))) ∧ Below w.heap.size w w' := by
  by_cases h : k < n
  · have d : (k - (n : Int) < 0) := by omega
    go_enter Try.func90, Try.ntmps90
    go_wp2_with fail
    go_ret
    exact ⟨⟨-1, rfl, .inl rfl⟩, Below.refl _ _⟩
  · have d : ¬ (k - (n : Int) < 0) := by omega
    by_cases h0 : n = 0
    · subst h0
      go_enter Try.func90, Try.ntmps90
      go_wp2_with fail
      go_rounds 1
      go_ret
      exact ⟨⟨k, by simp, .inr ⟨hk0, by simp [took]⟩⟩, Below.refl _ _⟩
    rcases hr with hr | ⟨b, off, rfl, hc⟩
    · exact absurd hr h0
    have hb0 : b < w.heap.size := World.block_lt_of_cell? w _ (hc 0 (by omega)).1
    go_enter Try.func90, Try.ntmps90
    go_wp2_with fail
    go_loopw [5, 1] (fun i l wr => ∃ j : Nat, j ≤ n ∧ i = .int .i64 j ∧ l = .int .i64 (k - n - took Z j) ∧ n + took Z j ≤ k ∧ Below w.heap.size w wr) (fun i _ _ => n - (intOf i).toNat)
    case atStart => exact ⟨0, Nat.zero_le _, rfl, by simp [took], by simp [took]; omega, Below.refl _ _⟩
    case round =>
      obtain ⟨j, hj, rfl, rfl, hl, g⟩ := hrel
      by_cases hlt : j < n
      · obtain ⟨e0, e1, _⟩ := hc j hlt
        have e0 := (g.cell (p := ⟨b, off + j * 2, none⟩) hb0).trans e0
        have e1 := (g.cell (p := ⟨b, off + j * 2 + 1, none⟩) hb0).trans e1
        have hjn : (j : Int) < (n : Int) := by omega
        clear hc
        have hq : Hid (∀ r, r = szQ (k - n - took Z j) (Z j).length → r = -1 ∨ (0 ≤ r ∧ r = k - n - took Z (j + 1))) := by
          intro r hr
          rw [hr]
          unfold szQ
          simp only [took]
          split <;> omega
        go_wp2_with fail
        refine (szRun_any (P j) (A j) (Z j).length (C j) _ _ (hz j hlt) (by omega) (by omega)).mono ?_
        rintro e w' ⟨rfl, g'⟩
        have g : Below w.heap.size w w' := g.trans (g'.mono g.size)
        clear g' e0 e1
        obtain ⟨r, hr⟩ : ∃ r, r = szQ (k - n - took Z j) (Z j).length := ⟨_, rfl⟩
        have hr1 := hq.out r hr
        rw [← hr]
        clear hr hq
        rcases hr1 with rfl | ⟨hr0, hr1⟩
        · go_wp2_with fail
          go_ret
          exact ⟨⟨-1, rfl, .inl rfl⟩, g⟩
        · have HR : Hid (r = k - n - took Z (j + 1)) := hr1
          have hl' : n + took Z (j + 1) ≤ k := by omega
          have dr : ¬ (r < 0) := by omega
          clear hr1
          go_wp2_with fail
          go_roundw
          case rel => exact ⟨j + 1, by omega, by go_num, by rw [← HR.out], hl', g⟩
          case measure => simp [intOf]; omega
      · have e : j = n := by omega
        subst e
        go_wp2_with fail
        go_ret
        exact ⟨⟨_, rfl, .inr ⟨by omega, rfl⟩⟩, g⟩

set_option maxHeartbeats 400000 in
theorem szRecord_gen (k tx pg : Int) (a : Option Addr) (n c : Nat) (P : Nat → Int) (A : Nat → Option Addr) (C : Nat → Nat) (Z : Nat → List Int) (kl : Int) (w : World) (hk0 : 0 ≤ kl) (hk1 : kl ≤ 1048576) (hm : n ≤ 9223372036854775807) (hz : ∀ i, i < n → (Z i).length ≤ 9223372036854775807) (hr : RunsRead w a n P A C Z) :
    Calls Try.prog 30 #[.agg #[.int .i64 k, .int .i64 tx, .int .i64 pg, .slice a n c], .int .i64 kl] w fun e w' => (∃ r : Int, e = .returned (.int .i64 r) ∧ (r = -1 ∨ (0 ≤ r ∧ r = kl - n - took Z n))) ∧ Below w.heap.size w w' := by
  have HR : Hid (RunsRead w a n P A C Z) := hr
  have HZ : Hid (∀ i, i < n → (Z i).length ≤ 9223372036854775807) := hz
  clear hr hz
  go_enter Try.func30, Try.ntmps30
  go_wp2_with fail
  refine (szRunS_gen a n c P A C Z kl _ hk0 hk1 hm HZ.out (HR.out.below (by go_grown) (Nat.le_refl _))).mono ?_
  rintro e w' ⟨⟨r, rfl, hl⟩, hb⟩
  have g : Below w.heap.size w w' := Below.trans (by go_grown) (hb.mono (by simp))
  clear hb
  rcases hl with hl | ⟨h0, hl⟩
  · subst hl
    go_wp2_with fail
    go_ret
    exact ⟨⟨-1, rfl, .inl rfl⟩, g⟩
  · have h1 : ¬ (r < 0) := by omega
    have HL : Hid (r = kl - n - took Z n) := hl
    clear hl
    go_wp2_with fail
    go_ret
    exact ⟨⟨r, rfl, .inr ⟨h0, HL.out⟩⟩, g⟩

end Go.Proofs.Ytcjkjenebnodbaa

/-
  eqRecordS, markRecordS, heldRecordS, and what hands a RecordsResult to them.
-/
namespace Go.Proofs.Ytcjkjenebnodbaa
open Go.RowKit
set_option linter.unusedVariables false

set_option maxHeartbeats 2000000 in
theorem eqRecordS_same (a b : Option Addr) (n c d : Nat) (R : Nat → Rc) (D E : Nat → Ad) (la ua lb ub : Nat) (w : World) (hn : n ≤ 1048576) (hr : ∀ i, i < n → (R i).n + took (R i).Z (R i).n ≤ 1048576) (hx : OwnRS la ua w a n R D) (hy : OwnRS lb ub w b n R E) :
    Calls Try.prog 52 #[.slice a n c, .slice b n d] w fun e w' => e = .returned (.bool true) ∧ Below w.heap.size w w' := by
  by_cases h0 : n = 0
  · subst h0
    go_enter Try.func52, Try.ntmps52
    go_wp2_with fail
    go_rounds 1
    go_ret
    exact ⟨rfl, Below.refl _ _⟩
  obtain ⟨x, rfl, hx'⟩ := hx.resolve_left h0
  obtain ⟨y, rfl, hy'⟩ := hy.resolve_left h0
  have HR : Hid (∀ i, i < n → (R i).n + took (R i).Z (R i).n ≤ 1048576) := hr
  clear hr
  go_enter Try.func52, Try.ntmps52
  go_wp2_with fail
  go_loopw [5] (fun i wr => ∃ k : Nat, k ≤ n ∧ i = .int .i64 k ∧ Below w.heap.size w wr ∧ OwnR la ua wr x n R D ∧ OwnR lb ub wr y n R E) (fun i _ => n - (intOf i).toNat)
  case atStart => exact ⟨0, Nat.zero_le _, rfl, Below.refl _ _, hx', hy'⟩
  case round =>
    obtain ⟨k, hk, rfl, g, hx, hy⟩ := hrel
    by_cases hlt : k < n
    · have hkn : (k : Int) < (n : Int) := by omega
      have hrk := HR.out k hlt
      have x0 := hx.c0 k hlt
      have x1 := hx.c1 k hlt
      have x2 := hx.c2 k hlt
      have x3 := hx.c3 k hlt
      have y0 := hy.c0 k hlt
      have y1 := hy.c1 k hlt
      have y2 := hy.c2 k hlt
      have y3 := hy.c3 k hlt
      have hxr : OwnS (D k).lo (D k).hi wr (D k).a (R k).n (R k).P (D k).A (D k).C (R k).Z (D k).F := hx.rn k hlt
      have hyr : OwnS (E k).lo (E k).hi wr (E k).a (R k).n (R k).P (E k).A (E k).C (R k).Z (E k).F := hy.rn k hlt
      generalize R k = r at hrk x0 x1 x2 x3 y0 y1 y2 y3 hxr hyr
      generalize D k = dk at x3 hxr
      generalize E k = ek at y3 hyr
      have HS : Hid (∀ V, Below wr.heap.size wr V → V.cell? ⟨x, k * 4, none⟩ = some (.int .i64 r.k) ∧ V.cell? ⟨x, k * 4 + 1, none⟩ = some (.int .i64 r.t) ∧ V.cell? ⟨x, k * 4 + 2, none⟩ = some (.int .i64 r.g) ∧ V.cell? ⟨x, k * 4 + 3, none⟩ = some (.slice dk.a r.n dk.c) ∧ V.cell? ⟨y, k * 4, none⟩ = some (.int .i64 r.k) ∧ V.cell? ⟨y, k * 4 + 1, none⟩ = some (.int .i64 r.t) ∧ V.cell? ⟨y, k * 4 + 2, none⟩ = some (.int .i64 r.g) ∧ V.cell? ⟨y, k * 4 + 3, none⟩ = some (.slice ek.a r.n ek.c)) := fun V hV =>
        ⟨cellUp hV x0, cellUp hV x1, cellUp hV x2, cellUp hV x3, cellUp hV y0, cellUp hV y1, cellUp hV y2, cellUp hV y3⟩
      have HX : Hid (OwnS dk.lo dk.hi wr dk.a r.n r.P dk.A dk.C r.Z dk.F) := hxr
      have HY : Hid (OwnS ek.lo ek.hi wr ek.a r.n r.P ek.A ek.C r.Z ek.F) := hyr
      clear hxr hyr
      go_wp2_with fail
      go_region_held (fun V => Below wr.heap.size wr V ∧ V.cell? ⟨x, k * 4, none⟩ = some (.int .i64 r.k) ∧ V.cell? ⟨x, k * 4 + 1, none⟩ = some (.int .i64 r.t) ∧ V.cell? ⟨x, k * 4 + 2, none⟩ = some (.int .i64 r.g) ∧ V.cell? ⟨x, k * 4 + 3, none⟩ = some (.slice dk.a r.n dk.c) ∧ V.cell? ⟨y, k * 4, none⟩ = some (.int .i64 r.k) ∧ V.cell? ⟨y, k * 4 + 1, none⟩ = some (.int .i64 r.t) ∧ V.cell? ⟨y, k * 4 + 2, none⟩ = some (.int .i64 r.g) ∧ V.cell? ⟨y, k * 4 + 3, none⟩ = some (.slice ek.a r.n ek.c)) (first | exact eqKeepD HS.out (by assumption) | exact eqKeep HS.out (Below.refl _ _) (by go_grown)) (first | (go_at_call 34; refine (eqRecord_sameS r.k r.t r.g dk.a ek.a r.n dk.c ek.c r.P dk.A ek.A dk.C ek.C r.Z dk.F ek.F _ _ _ _ _ hrk (HX.out.below (by first | assumption | go_grown)) (HY.out.below (by first | assumption | go_grown))).mono ?_; rintro e w' ⟨rfl, hb⟩))
      rename_i hV
      have g : Below w.heap.size w w' := g.trans (hV.1.mono g.size)
      have hx := hx.below hV.1
      have hy := hy.below hV.1
      clear hV x0 x1 x2 x3 y0 y1 y2 y3 HX HY HS hb
      go_wp2_with fail
      go_roundw
      case rel => exact ⟨k + 1, by omega, by go_num, g, hx, hy⟩
      case measure => simp [intOf]; omega
    · go_wp2_with fail
      go_ret
      exact ⟨rfl, g⟩

set_option maxHeartbeats 2000000 in
theorem markRecordS_S (a : Option Addr) (n c : Nat) (lo hi : Nat) (R : Nat → Rc) (D : Nat → Ad) (k : Int) (w : World) (hm : tookR R n ≤ 8000000) (hn : n ≤ 1048576) (hr : ∀ i, i < n → (R i).n + took (R i).Z (R i).n ≤ 1048576) (hk0 : 0 ≤ k) (hk1 : k ≤ 1000000) (h : OwnRS lo hi w a n R D) :
    Calls Try.prog 65 #[.slice a n c, .int .i64 k] w fun e w' => e = .returned (.int .i64 (rmk R k n)) ∧ Turned lo hi w w' ∧ OwnRS lo hi w' a n (mR R k) D := by
  by_cases h0 : n = 0
  · subst h0
    go_enter Try.func65, Try.ntmps65
    go_wp2_with fail
    go_rounds 1
    go_ret
    exact ⟨by simp [rmk, tookR], Turned.refl _ _ _, .inl rfl⟩
  obtain ⟨b, rfl, h'⟩ := h.resolve_left h0
  have HR : Hid (∀ i, i < n → (R i).n + took (R i).Z (R i).n ≤ 1048576) := hr
  have hmk : Hid (∀ i, i ≤ n → 0 ≤ rmk R k i ∧ rmk R k i ≤ 9000000) := fun i hi => by have := tookR_mono R i n hi; unfold rmk; omega
  clear hr
  go_enter Try.func65, Try.ntmps65
  go_wp2_with fail
  go_loopw [5, 1] (fun i kk wr => ∃ j : Nat, j ≤ n ∧ i = .int .i64 j ∧ kk = .int .i64 (rmk R k j) ∧ Turned lo hi w wr ∧ OwnR lo hi wr b n (fun i => if i < j then mR R k i else R i) D) (fun i _ _ => n - (intOf i).toNat)
  case atStart => exact ⟨0, Nat.zero_le _, rfl, by simp [rmk, tookR], Turned.refl _ _ _, h'.congr (fun i _ => by simp)⟩
  case round =>
    obtain ⟨j, hj, rfl, rfl, ht, hO⟩ := hrel
    clear h h'
    by_cases hlt : j < n
    · have hjn : (j : Int) < (n : Int) := by omega
      obtain ⟨kk, hkk⟩ : ∃ kk, kk = rmk R k j := ⟨_, rfl⟩
      have hb1 := hmk.out j (by omega)
      have hrj := HR.out j hlt
      rw [← hkk] at hb1 ⊢
      obtain ⟨hb1, hb2⟩ := hb1
      have x0 := hO.c0 j hlt
      have x1 := hO.c1 j hlt
      have x2 := hO.c2 j hlt
      have x3 := hO.c3 j hlt
      have f0 := hO.f0 j hlt
      have f1 := hO.f1 j hlt
      have f2 := hO.f2 j hlt
      simp only [Nat.lt_irrefl, if_false] at x0 x1 x2 x3
      have hO1 := hO.set3 hlt kk (kk + 1) (kk + 1 + 1)
      have ht1 := ((ht.setCell (p := ⟨b, j * 4, none⟩) hO.l0 hO.h0 (.int .i64 kk)).setCell (p := ⟨b, j * 4 + 1, none⟩) hO.l0 hO.h0 (.int .i64 (kk + 1))).setCell (p := ⟨b, j * 4 + 2, none⟩) hO.l0 hO.h0 (.int .i64 (kk + 1 + 1))
      have HK : Hid (kk = rmk R k j) := hkk
      clear hkk
      go_upto_region 10 with (fail)
      have y3 := hO1.c3 j hlt
      have hrn := hO1.rn j hlt
      have hfr := hO1.fr j hlt
      clear x0 x1 x2 x3 f0 f1 f2 hO ht
      generalize ((wr.setCell ⟨b, j * 4, none⟩ (.int .i64 kk)).setCell ⟨b, j * 4 + 1, none⟩ (.int .i64 (kk + 1))).setCell ⟨b, j * 4 + 2, none⟩ (.int .i64 (kk + 1 + 1)) = V at hO1 ht1 y3 hrn ⊢
      simp only [if_true, Nat.lt_irrefl, if_false] at y3 hrn
      have hrn : OwnS (D j).lo (D j).hi V (D j).a (R j).n (R j).P (D j).A (D j).C (R j).Z (D j).F := hrn
      have HN : Hid (rmk R k (j + 1) = mk (R j).Z (kk + 1 + 1 + 1) (R j).n) := by show _ = _; rw [rmk_succ, ← HK.out]
      go_wp2_with fail
      refine (markRunS_S (D j).a (R j).n (D j).c (D j).lo (D j).hi (R j).P (D j).A (D j).C (R j).Z (D j).F (kk + 1 + 1 + 1) _ hrj (by omega) (by omega) hrn).mono ?_
      rintro e w2 ⟨rfl, t2, ho2⟩
      have hO2 := hO1.setRuns hlt (r := mR R k j) (by simp only [if_true, mR]; exact HK.out.symm) (by simp only [if_true, mR]; rw [← HK.out]) (by simp only [if_true, mR]; rw [← HK.out]) (by simp only [if_true, Nat.lt_irrefl, if_false, mR]) t2 (by unfold RunsAt mR; rw [← HK.out]; exact ho2)
      have ht2 : Turned lo hi w w2 := ht1.trans ⟨t2.os, t2.tape, t2.output, t2.size, fun i h1 h2 => t2.block i h1 (by omega)⟩
      rw [← HN.out]
      clear hO1 ht1 t2 y3 hrn ho2 hfr
      obtain ⟨kn, hkn⟩ : ∃ kn, kn = rmk R k (j + 1) := ⟨_, rfl⟩
      rw [← hkn]
      have HKn : Hid (kn = rmk R k (j + 1)) := hkn
      clear hkn HN
      go_wp2_with fail
      go_roundw
      case rel =>
        refine ⟨j + 1, by omega, by go_num, ?_, ht2, hO2.congr (fun i hi => ?_)⟩
        · rw [HKn.out]
        · by_cases e : i = j
          · subst e; simp
          · simp only [if_neg e]
            by_cases e2 : i < j
            · rw [if_pos e2, if_pos (by omega)]
            · rw [if_neg e2, if_neg (by omega)]
      case measure => simp [intOf]; omega
    · have e : j = n := by omega
      subst e
      go_wp2_with fail
      go_ret
      exact ⟨rfl, ht, .inr ⟨b, rfl, hO.congr (fun i hi => by rw [if_pos hi])⟩⟩

set_option maxHeartbeats 2000000 in
theorem heldRecordS_S (a : Option Addr) (n c : Nat) (lo hi : Nat) (R : Nat → Rc) (D : Nat → Ad) (k : Int) (w : World) (hm : tookR R n ≤ 8000000) (hn : n ≤ 1048576) (hr : ∀ i, i < n → (R i).n + took (R i).Z (R i).n ≤ 1048576) (hk0 : 0 ≤ k) (hk1 : k ≤ 1000000) (h : OwnRS lo hi w a n (mR R k) D) :
    Calls Try.prog 107 #[.slice a n c, .int .i64 k] w fun e w' => e = .returned (.int .i64 (rmk R k n)) ∧ w' = w := by
  by_cases h0 : n = 0
  · subst h0
    go_enter Try.func107, Try.ntmps107
    go_wp2_with fail
    go_rounds 1
    go_ret
    exact ⟨by simp [rmk, tookR], rfl⟩
  obtain ⟨b, rfl, h'⟩ := h.resolve_left h0
  have HR : Hid (∀ i, i < n → (R i).n + took (R i).Z (R i).n ≤ 1048576) := hr
  have hmk : Hid (∀ i, i ≤ n → 0 ≤ rmk R k i ∧ rmk R k i ≤ 9000000) := fun i hi => by have := tookR_mono R i n hi; unfold rmk; omega
  have HO : Hid (OwnR lo hi w b n (mR R k) D) := h'
  clear hr h h'
  go_enter Try.func107, Try.ntmps107
  go_wp2_with fail
  go_loop [5, 1] (fun i kk => ∃ j : Nat, j ≤ n ∧ i = .int .i64 j ∧ kk = .int .i64 (rmk R k j)) (fun i _ => n - (intOf i).toNat)
  case atStart => exact ⟨0, Nat.zero_le _, rfl, by simp [rmk, tookR]⟩
  case round =>
    obtain ⟨j, hj, rfl, rfl⟩ := hrel
    by_cases hlt : j < n
    · have hjn : (j : Int) < (n : Int) := by omega
      have hb1 := hmk.out j (by omega)
      have hb2 := hmk.out (j + 1) (by omega)
      have hrj := HR.out j hlt
      have hms := rmk_succ R k j
      have x0 := HO.out.c0 j hlt
      have x1 := HO.out.c1 j hlt
      have x2 := HO.out.c2 j hlt
      have x3 := HO.out.c3 j hlt
      have hrn := HO.out.rn j hlt
      obtain ⟨kk, hkk⟩ : ∃ kk, kk = rmk R k j := ⟨_, rfl⟩
      have e0 : (mR R k j).k = kk := hkk.symm
      have e1 : (mR R k j).t = kk + 1 := by rw [hkk]; rfl
      have e2 : (mR R k j).g = kk + 1 + 1 := by rw [hkk]; rfl
      have e3 : (mR R k j).n = (R j).n := rfl
      have hrn : OwnS (D j).lo (D j).hi w (D j).a (R j).n (mk (R j).Z (kk + 1 + 1 + 1)) (D j).A (D j).C (mZ (R j).Z (kk + 1 + 1 + 1)) (D j).F := by rw [hkk]; exact hrn
      rw [e0] at x0
      rw [e1] at x1
      rw [e2] at x2
      rw [e3] at x3
      rw [← hkk] at hb1 hms ⊢
      rw [hms] at hb2
      have HN : Hid (rmk R k (j + 1) = mk (R j).Z (kk + 1 + 1 + 1) (R j).n) := hms
      have hpos : ¬ (mk (R j).Z (kk + 1 + 1 + 1) (R j).n < 0) := by omega
      obtain ⟨hb1, hb3⟩ := hb1
      have HRn : Hid (OwnS (D j).lo (D j).hi w (D j).a (R j).n (mk (R j).Z (kk + 1 + 1 + 1)) (D j).A (D j).C (mZ (R j).Z (kk + 1 + 1 + 1)) (D j).F) := hrn
      clear hkk hms e0 e1 e2 e3 hrn hb2
      go_wp2_with fail
      refine (heldRunS_S (D j).a (R j).n (D j).c (D j).lo (D j).hi (D j).A (D j).C (R j).Z (D j).F (kk + 1 + 1 + 1) _ hrj (by omega) (by omega) HRn.out).mono ?_
      rintro e w2 ⟨rfl, hw⟩
      subst w2
      go_wp2_with fail
      go_round
      case rel => exact ⟨j + 1, by omega, by go_num, by rw [HN.out]⟩
      case measure => simp [intOf]; omega
    · have e : j = n := by omega
      subst e
      go_wp2_with fail
      go_ret
      exact ⟨rfl, rfl⟩

set_option maxHeartbeats 1000000 in
theorem eqRecordsResult_same (q u : Int) (a b : Option Addr) (n c d : Nat) (R : Nat → Rc) (D E : Nat → Ad) (la ua lb ub : Nat) (w : World) (hn : n ≤ 1048576) (hr : ∀ i, i < n → (R i).n + took (R i).Z (R i).n ≤ 1048576) (hx : OwnRS la ua w a n R D) (hy : OwnRS lb ub w b n R E) :
    Calls Try.prog 62 #[.agg #[.int .i64 q, .int .i64 u, .slice a n c], .agg #[.int .i64 q, .int .i64 u, .slice b n d]] w fun e w' => e = .returned (.bool true) ∧ Below w.heap.size w w' := by
  have HX : Hid (OwnRS la ua w a n R D) := hx
  have HY : Hid (OwnRS lb ub w b n R E) := hy
  have HR : Hid (∀ i, i < n → (R i).n + took (R i).Z (R i).n ≤ 1048576) := hr
  clear hx hy hr
  go_enter Try.func62, Try.ntmps62
  go_wp2_with fail
  refine (eqRecordS_same a b n c d R D E la ua lb ub _ hn HR.out (HX.out.below (by go_grown)) (HY.out.below (by go_grown))).mono ?_
  rintro e w' ⟨rfl, hb⟩
  have g : Below w.heap.size w w' := Below.trans (by go_grown) (hb.mono (by simp; omega))
  clear hb
  go_wp2_with fail
  go_ret
  exact ⟨rfl, g⟩

set_option maxHeartbeats 1000000 in
theorem markRecordsResult_any (q u : Int) (a : Option Addr) (n c : Nat) (lo hi : Nat) (R : Nat → Rc) (D : Nat → Ad) (k : Int) (w : World) (hm : tookR R n ≤ 8000000) (hn : n ≤ 1048576) (hr : ∀ i, i < n → (R i).n + took (R i).Z (R i).n ≤ 1048576) (hk0 : 0 ≤ k) (hk1 : k ≤ 1000000) (h : OwnRS lo hi w a n R D) :
    Calls Try.prog 63 #[.agg #[.int .i64 q, .int .i64 u, .slice a n c], .int .i64 k] w fun e w' => e = .returned (.int .i64 (rmk R k n)) ∧ Turned lo hi w w' ∧ OwnRS lo hi w' a n (mR R k) D := by
  have HX : Hid (OwnRS lo hi w a n R D) := h
  have HR : Hid (∀ i, i < n → (R i).n + took (R i).Z (R i).n ≤ 1048576) := hr
  clear h hr
  go_enter Try.func63, Try.ntmps63
  go_wp2_with fail
  refine (markRecordS_S a n c lo hi R D k _ hm hn HR.out hk0 hk1 (HX.out.below (by go_grown))).mono ?_
  rintro e w' ⟨rfl, ht, ho⟩
  have h1 : Turned lo hi w w' := Turned.trans (Turned.ofBelow (by go_grown)) ht
  clear ht
  go_wp2_with fail
  go_ret
  exact ⟨rfl, h1, ho⟩

set_option maxHeartbeats 1000000 in
theorem heldRecordsResult_any (q u : Int) (a : Option Addr) (n c : Nat) (lo hi : Nat) (R : Nat → Rc) (D : Nat → Ad) (k : Int) (w : World) (hm : tookR R n ≤ 8000000) (hn : n ≤ 1048576) (hr : ∀ i, i < n → (R i).n + took (R i).Z (R i).n ≤ 1048576) (hk0 : 0 ≤ k) (hk1 : k ≤ 1000000) (h : OwnRS lo hi w a n (mR R k) D) :
    Calls Try.prog 64 #[.agg #[.int .i64 q, .int .i64 u, .slice a n c], .int .i64 k] w fun e w' => e = .returned (.int .i64 (rmk R k n)) ∧ Below w.heap.size w w' := by
  have HX : Hid (OwnRS lo hi w a n (mR R k) D) := h
  have HR : Hid (∀ i, i < n → (R i).n + took (R i).Z (R i).n ≤ 1048576) := hr
  have hpos : ¬ (rmk R k n < 0) := by unfold rmk; omega
  clear h hr
  go_enter Try.func64, Try.ntmps64
  go_wp2_with fail
  refine (heldRecordS_S a n c lo hi R D k _ hm hn HR.out hk0 hk1 (HX.out.below (by go_grown))).mono ?_
  rintro e w' ⟨rfl, hw'⟩
  subst w'
  go_wp2_with fail
  go_ret
  exact ⟨rfl, by go_grown⟩

end Go.Proofs.Ytcjkjenebnodbaa
