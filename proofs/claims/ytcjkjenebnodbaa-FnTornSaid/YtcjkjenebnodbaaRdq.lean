/-
  What came in, opened: a slice of records; szRecordS, toRecordS.
-/
import Derived.Test.YtcjkjenebnodbaaSzg
import Derived.Test.YtcjkjenebnodbaaRck
namespace Go.Proofs.Ytcjkjenebnodbaa
open Go.ChangeShapes Go.WideShapes Go.RowKit
set_option linter.unusedVariables false

/-- The slice that begins at a reads as n records. -/
def RecsRead (w : World) (a : Option Addr) (n : Nat) (R : Nat → Rc) (D : Nat → Ad) : Prop :=
  n = 0 ∨ ∃ b off, a = some ⟨b, off, none⟩ ∧ ∀ i, i < n → w.cell? ⟨b, off + i * 4, none⟩ = some (.int .i64 (R i).k) ∧ w.cell? ⟨b, off + i * 4 + 1, none⟩ = some (.int .i64 (R i).t) ∧ w.cell? ⟨b, off + i * 4 + 2, none⟩ = some (.int .i64 (R i).g) ∧ w.cell? ⟨b, off + i * 4 + 3, none⟩ = some (.slice (D i).a (R i).n (D i).c) ∧ RunsRead w (D i).a (R i).n (R i).P (D i).A (D i).C (R i).Z
theorem RecsRead.below {w w' : World} {a : Option Addr} {n : Nat} {R : Nat → Rc} {D : Nat → Ad} (h : RecsRead w a n R D) {B : Nat} (hb : Below B w w') (hB : w.heap.size ≤ B) : RecsRead w' a n R D := by
  have up : ∀ (p : Addr) (v : Value), w.cell? p = some v → w'.cell? p = some v := fun p v h => (hb.cell (Nat.lt_of_lt_of_le (World.block_lt_of_cell? w _ h) hB)).trans h
  rcases h with h | ⟨b, off, ha, hc⟩
  · exact .inl h
  · refine .inr ⟨b, off, ha, fun i hi => ?_⟩
    obtain ⟨h0, h1, h2, h3, h4⟩ := hc i hi
    exact ⟨up _ _ h0, up _ _ h1, up _ _ h2, up _ _ h3, h4.below hb hB⟩
theorem RecsRead.at_ {w : World} {b off n : Nat} {R : Nat → Rc} {D : Nat → Ad} (h : RecsRead w (some ⟨b, off, none⟩) n R D) (i : Nat) (hi : i < n) : w.cell? ⟨b, off + i * 4, none⟩ = some (.int .i64 (R i).k) ∧ w.cell? ⟨b, off + i * 4 + 1, none⟩ = some (.int .i64 (R i).t) ∧ w.cell? ⟨b, off + i * 4 + 2, none⟩ = some (.int .i64 (R i).g) ∧ w.cell? ⟨b, off + i * 4 + 3, none⟩ = some (.slice (D i).a (R i).n (D i).c) ∧ RunsRead w (D i).a (R i).n (R i).P (D i).A (D i).C (R i).Z := by
  rcases h with h | ⟨b', off', e, hc⟩
  · omega
  · simp only [Option.some.injEq, Addr.mk.injEq, and_true] at e
    obtain ⟨rfl, rfl⟩ := e
    exact hc i hi

structure IsRecs (w : World) (a : Option Addr) (len : Nat) (R : Nat → Rc) (D : Nat → Ad) : Prop where
  rd : RecsRead w a len R D
  ln : len ≤ 9223372036854775807
  ir : ∀ i, i < len → IsRuns w (D i).a (R i).n (R i).P (D i).A (D i).C (R i).Z

instance : Inhabited Rc := ⟨⟨0, 0, 0, 0, fun _ => 0, fun _ => []⟩⟩
instance : Inhabited Ad := ⟨⟨none, 0, fun _ => none, fun _ => 0, fun _ => 0, 0, 0⟩⟩
theorem four {α : Type} (xs : List α) (h : xs.length = 4) : ∃ a b c d, xs = [a, b, c, d] := by
  match xs, h with
  | [a, b, c, d], _ => exact ⟨a, b, c, d, rfl⟩

theorem open_recs {H : Type} {enc : TypeId × Value → H} {W : World} {base : Nat} {held : Bool} {fuel : Nat} {a : Option Addr} {len cap : Nat} {x : DataW H × List MemPlace}
    (h : DataW.trod enc Try.prog W base (fun _ => true) held fuel 68 [.slice a len cap] = some x) : ∃ R D, IsRecs W a len R D := by
  have hml : maxLen = 9223372036854775807 := by decide
  rcases Go.Deep.open_slice Try.underlying68 h with ⟨hcs, _⟩ | ⟨y, l, c, m, n, Dd, Pl, hcs, hb, hl, hm, hmm, _, hx⟩
  · simp only [List.cons.injEq, Value.slice.injEq, and_true] at hcs
    obtain ⟨rfl, rfl, rfl⟩ := hcs
    exact ⟨fun _ => ⟨0, 0, 0, 0, fun _ => 0, fun _ => []⟩, fun _ => ⟨none, 0, fun _ => none, fun _ => 0, fun _ => 0, 0, 0⟩, .inl rfl, by omega, fun i hi => by omega⟩
  · simp only [List.cons.injEq, Value.slice.injEq, and_true] at hcs
    obtain ⟨rfl, rfl, rfl⟩ := hcs
    simp only [if_true] at hmm
    subst hmm
    have ce : Try.prog.cellsOf 50 = 4 := by kernel_rfl
    have each : ∀ i, i < len → ∃ q : Rc × Ad, W.cell? (y.add (i * 4)) = some (.int .i64 q.1.k) ∧ W.cell? (y.add (i * 4 + 1)) = some (.int .i64 q.1.t) ∧ W.cell? (y.add (i * 4 + 2)) = some (.int .i64 q.1.g) ∧ W.cell? (y.add (i * 4 + 3)) = some (.slice q.2.a q.1.n q.2.c) ∧ IsRuns W q.2.a q.1.n q.1.P q.2.A q.2.C q.1.Z := by
      intro i hi
      obtain ⟨cs', h1, h2⟩ := hx i (by omega)
      rw [ce] at h1
      obtain ⟨_, hlen, hcell⟩ := World.cells?_some h1
      obtain ⟨xs, k, hk, hxy, _, hxl, hf⟩ := DataW.trod_struct Try.underlying50 h2
      have hx4 : xs.length = 4 := hxl
      clear hxl
      obtain ⟨y0, y1, y2, y3, rfl⟩ := four xs hx4
      obtain ⟨v0, v1, v2, v3, rfl⟩ := four cs' hlen
      · skip
        have g0 := hf 0 _ rfl
        have g1 := hf 1 _ rfl
        have g2 := hf 2 _ rfl
        have g3 := hf 3 _ rfl
        have c2 : Try.prog.cellsOf 2 = 1 := by kernel_rfl
        have c48 : Try.prog.cellsOf 48 = 1 := by kernel_rfl
        simp [c2, c48] at g0 g1 g2 g3
        obtain ⟨t0, e0, _, _⟩ := DataW.trod_int Try.underlying2 g0
        obtain ⟨t1, e1, _, _⟩ := DataW.trod_int Try.underlying2 g1
        obtain ⟨t2, e2, _, _⟩ := DataW.trod_int Try.underlying2 g2
        obtain ⟨ar, lr, cr, P, A, C, Z, e3, hr⟩ := open_runs_any g3
        simp only [List.cons.injEq, and_true] at e0 e1 e2 e3
        subst e0 e1 e2 e3
        have k0 := hcell 0 (by omega)
        have k1 := hcell 1 (by omega)
        have k2 := hcell 2 (by omega)
        have k3 := hcell 3 (by omega)
        rw [Go.Deep.add_add] at k0 k1 k2 k3
        exact ⟨(⟨t0, t1, t2, lr, P, Z⟩, ⟨ar, cr, A, C, fun _ => 0, 0, 0⟩), by simpa using k0, by simpa using k1, by simpa using k2, by simpa using k3, hr⟩
    obtain ⟨q, hq⟩ := Go.Deep.choose_lt each
    refine ⟨fun i => (q i).1, fun i => (q i).2, ?_, by omega, fun i hi => (hq i hi).2.2.2.2⟩
    by_cases h0 : len = 0
    · exact .inl h0
    · obtain ⟨b, off, spot⟩ := y
      have hc0 := (hq 0 (by omega)).1
      have hspot : spot = none := by simpa [Addr.add] using World.cell?_spot hc0
      subst hspot
      have ea : ∀ i, (⟨b, off, none⟩ : Addr).add i = ⟨b, off + i, none⟩ := by intro i; unfold Addr.add; split <;> simp_all
      refine .inr ⟨b, off, rfl, fun i hi => ?_⟩
      obtain ⟨q0, q1, q2, q3, q4⟩ := hq i hi
      rw [ea] at q0 q1 q2 q3
      exact ⟨q0, q1, q2, q3, q4.rd⟩

/-- How much n records take. -/
def szR (R : Nat → Rc) : Nat → Nat
  | 0 => 0
  | i + 1 => szR R i + (R i).n + took (R i).Z (R i).n
theorem szR_mono (R : Nat → Rc) (k n : Nat) (h : k ≤ n) : szR R k ≤ szR R n := by
  induction n with
  | zero => have : k = 0 := by omega
            subst this; exact Nat.le_refl _
  | succ n ih =>
    by_cases e : k = n + 1
    · subst e; exact Nat.le_refl _
    · have := ih (by omega); simp only [szR]; omega
theorem szR_one (R : Nat → Rc) (k n : Nat) (h : k < n) : (R k).n + took (R k).Z (R k).n ≤ szR R n := by
  have := szR_mono R (k + 1) n h
  simp only [szR] at this
  omega
theorem tookR_sz (R : Nat → Rc) : ∀ n, tookR R n = 3 * n + szR R n
  | 0 => rfl
  | n + 1 => by have := tookR_sz R n; simp only [tookR, szR]; omega

set_option maxHeartbeats 1000000 in
theorem szRecordS_any (a : Option Addr) (n c : Nat) (R : Nat → Rc) (D : Nat → Ad) (k : Int) (w : World) (hk0 : 0 ≤ k) (hk1 : k ≤ 1048576) (hi : IsRecs w a n R D) :
    Calls Try.prog 49 #[.slice a n c, .int .i64 k] w fun e w' => (∃ r : Int, e = .returned (.int .i64 r) ∧ (r = -1 ∨ (0 ≤ r ∧ r = k - n - szR R n))) ∧ Below w.heap.size w w' := by
  have hm := hi.ln
  have HI : Hid (IsRecs w a n R D) := hi
  clear hi
  by_cases h : k < n
  · have d : (k - (n : Int) < 0) := by omega
    go_enter Try.func49, Try.ntmps49
    go_wp2_with fail
    go_ret
    exact ⟨⟨-1, rfl, .inl rfl⟩, Below.refl _ _⟩
  · have d : ¬ (k - (n : Int) < 0) := by omega
    by_cases h0 : n = 0
    · subst h0
      go_enter Try.func49, Try.ntmps49
      go_wp2_with fail
      go_rounds 1
      go_ret
      exact ⟨⟨k, by simp, .inr ⟨hk0, by simp [szR]⟩⟩, Below.refl _ _⟩
    obtain ⟨b, off, rfl⟩ : ∃ b off, a = some ⟨b, off, none⟩ := by
      rcases HI.out.rd with hr | ⟨b, off, e, _⟩
      · exact absurd hr h0
      · exact ⟨b, off, e⟩
    go_enter Try.func49, Try.ntmps49
    go_wp2_with fail
    go_loopw [5, 1] (fun i l wr => ∃ j : Nat, j ≤ n ∧ i = .int .i64 j ∧ l = .int .i64 (k - n - szR R j) ∧ n + szR R j ≤ k ∧ Below w.heap.size w wr) (fun i _ _ => n - (intOf i).toNat)
    case atStart => exact ⟨0, Nat.zero_le _, rfl, by simp [szR], by simp [szR]; omega, Below.refl _ _⟩
    case round =>
      obtain ⟨j, hj, rfl, rfl, hl, g⟩ := hrel
      by_cases hlt : j < n
      · obtain ⟨e0, e1, e2, e3, hrd⟩ := (HI.out.rd.below g (Nat.le_refl _)).at_ j hlt
        have hln := (HI.out.ir j hlt).ln
        have HZ : Hid (∀ i, i < (R j).n → ((R j).Z i).length ≤ 9223372036854775807) := (HI.out.ir j hlt).zl
        have hjn : (j : Int) < (n : Int) := by omega
        have HS : Hid (szR R (j + 1) = szR R j + (R j).n + took (R j).Z (R j).n) := rfl
        have HRd : Hid (RunsRead wr (D j).a (R j).n (R j).P (D j).A (D j).C (R j).Z) := hrd
        clear hrd
        go_wp2_with fail
        refine (szRecord_gen (R j).k (R j).t (R j).g (D j).a (R j).n (D j).c (R j).P (D j).A (D j).C (R j).Z _ _ (by omega) (by omega) hln HZ.out HRd.out).mono ?_
        rintro e w' ⟨⟨r, rfl, hr1⟩, g'⟩
        have g : Below w.heap.size w w' := g.trans (g'.mono g.size)
        clear g' e0 e1 e2 e3
        rcases hr1 with rfl | ⟨hr0, hr1⟩
        · go_wp2_with fail
          go_ret
          exact ⟨⟨-1, rfl, .inl rfl⟩, g⟩
        · have HR : Hid (r = k - n - szR R (j + 1)) := by show _ = _; rw [HS.out, hr1]; omega
          have hl' : n + szR R (j + 1) ≤ k := by have := HR.out; omega
          have dr : ¬ (r < 0) := by omega
          clear hr1
          go_wp2_with fail
          go_roundw
          case rel => exact ⟨j + 1, by omega, by go_num, by rw [← HR.out], hl', g⟩
          case measure => simp [intOf]; omega
      · have e : j = n := by omega
        subst e
        go_wp2_with fail
        go_ret
        exact ⟨⟨_, rfl, .inr ⟨by omega, rfl⟩⟩, g⟩

end Go.Proofs.Ytcjkjenebnodbaa
