/-
  toRecordS: new memory that holds the same records.
-/
import Derived.Test.YtcjkjenebnodbaaRdq
import Derived.Test.YtcjkjenebnodbaaL5r
namespace Go.Proofs.Ytcjkjenebnodbaa
open Go.RowKit
set_option linter.unusedVariables false

/-- Block g holds n records, of which k are there (their runs in blocks above g), the others are not yet. -/
structure PartR (w : World) (g n k : Nat) (R : Nat → Rc) (D : Nat → Ad) : Prop where
  c0 : ∀ i, i < k → w.cell? ⟨g, i * 4, none⟩ = some (.int .i64 (R i).k)
  c1 : ∀ i, i < k → w.cell? ⟨g, i * 4 + 1, none⟩ = some (.int .i64 (R i).t)
  c2 : ∀ i, i < k → w.cell? ⟨g, i * 4 + 2, none⟩ = some (.int .i64 (R i).g)
  c3 : ∀ i, i < k → w.cell? ⟨g, i * 4 + 3, none⟩ = some (.slice (D i).a (R i).n (D i).c)
  r0 : ∀ i, k ≤ i → i < n → w.cell? ⟨g, i * 4, none⟩ = some (.int .i64 0)
  r1 : ∀ i, k ≤ i → i < n → w.cell? ⟨g, i * 4 + 1, none⟩ = some (.int .i64 0)
  r2 : ∀ i, k ≤ i → i < n → w.cell? ⟨g, i * 4 + 2, none⟩ = some (.int .i64 0)
  r3 : ∀ i, k ≤ i → i < n → w.cell? ⟨g, i * 4 + 3, none⟩ = some (.slice none 0 0)
  f : ∀ o, w.frozen? ⟨g, o, none⟩ = false
  rn : ∀ i, i < k → RunsAt w (R i) (D i)
  fr : ∀ i, i < k → g < (D i).lo ∧ (D i).lo ≤ (D i).hi ∧ (D i).hi ≤ w.heap.size
  ne : ∀ i j, i < j → j < k → (D i).hi ≤ (D j).lo

theorem PartR.own {w : World} {g n : Nat} {R : Nat → Rc} {D : Nat → Ad} (h : PartR w g n n R D) (hg : g < w.heap.size) : OwnR g w.heap.size w g n R D :=
  ⟨Nat.le_refl _, hg, h.c0, h.c1, h.c2, h.c3, fun i _ => h.f _, fun i _ => h.f _, fun i _ => h.f _, fun i _ => h.f _, h.rn, fun i hi => by have := h.fr i hi; omega, h.ne⟩

theorem PartR.step {w w' : World} {g n k : Nat} {R : Nat → Rc} {D : Nat → Ad} {d : Ad} (h : PartR w g n k R D) (hk : k < n) (hg : g < w.heap.size) (hb : Below w.heap.size w w') (hr : RunsAt w' (R k) d) (hlo : d.lo = w.heap.size) (hhi : d.hi = w'.heap.size) :
    PartR ((((w'.setCell ⟨g, k * 4, none⟩ (.int .i64 (R k).k)).setCell ⟨g, k * 4 + 1, none⟩ (.int .i64 (R k).t)).setCell ⟨g, k * 4 + 2, none⟩ (.int .i64 (R k).g)).setCell ⟨g, k * 4 + 3, none⟩ (.slice d.a (R k).n d.c)) g n (k + 1) R (fun i => if i = k then d else D i) := by
  have cc : ∀ o v, w.cell? ⟨g, o, none⟩ = some v → w'.cell? ⟨g, o, none⟩ = some v := fun o v hv => (hb.cell (p := ⟨g, o, none⟩) hg).trans hv
  have hs := hb.size
  have d0 := cc _ _ (h.r0 k (Nat.le_refl _) hk)
  have d1 := cc _ _ (h.r1 k (Nat.le_refl _) hk)
  have d2 := cc _ _ (h.r2 k (Nat.le_refl _) hk)
  have d3 := cc _ _ (h.r3 k (Nat.le_refl _) hk)
  have T : Turned g (g + 1) w' ((((w'.setCell ⟨g, k * 4, none⟩ (.int .i64 (R k).k)).setCell ⟨g, k * 4 + 1, none⟩ (.int .i64 (R k).t)).setCell ⟨g, k * 4 + 2, none⟩ (.int .i64 (R k).g)).setCell ⟨g, k * 4 + 3, none⟩ (.slice d.a (R k).n d.c)) :=
    ((((Turned.refl g (g + 1) w').setCell (p := ⟨g, k * 4, none⟩) (Nat.le_refl g) (Nat.lt_succ_self g) _).setCell (p := ⟨g, k * 4 + 1, none⟩) (Nat.le_refl g) (Nat.lt_succ_self g) _).setCell (p := ⟨g, k * 4 + 2, none⟩) (Nat.le_refl g) (Nat.lt_succ_self g) _).setCell (p := ⟨g, k * 4 + 3, none⟩) (Nat.le_refl g) (Nat.lt_succ_self g) _
  have oth : ∀ (V : World) (o o' : Nat) (v u : Value), o ≠ o' → V.cell? ⟨g, o, none⟩ = some v → (V.setCell ⟨g, o', none⟩ u).cell? ⟨g, o, none⟩ = some v := fun V o o' v u hn hv => by
    rw [World.cell?_setCell_other _ _ _ _ (fun e => hn (by have := congrArg Addr.off e; simp at this; omega))]; exact hv
  have o1 : ∀ o v, o ≠ k * 4 → o ≠ k * 4 + 1 → o ≠ k * 4 + 2 → o ≠ k * 4 + 3 → w.cell? ⟨g, o, none⟩ = some v → ((((w'.setCell ⟨g, k * 4, none⟩ (.int .i64 (R k).k)).setCell ⟨g, k * 4 + 1, none⟩ (.int .i64 (R k).t)).setCell ⟨g, k * 4 + 2, none⟩ (.int .i64 (R k).g)).setCell ⟨g, k * 4 + 3, none⟩ (.slice d.a (R k).n d.c)).cell? ⟨g, o, none⟩ = some v := fun o v h0 h1 h2 h3 hv =>
    oth _ _ _ _ _ h3 (oth _ _ _ _ _ h2 (oth _ _ _ _ _ h1 (oth _ _ _ _ _ h0 (cc _ _ hv))))
  refine ⟨fun i hi => ?_, fun i hi => ?_, fun i hi => ?_, fun i hi => ?_, fun i h1 h2 => ?_, fun i h1 h2 => ?_, fun i h1 h2 => ?_, fun i h1 h2 => ?_, fun o => ?_, fun i hi => ?_, fun i hi => ?_, fun i j h1 h2 => ?_⟩
  · by_cases e : i = k
    · subst e
      exact oth _ _ _ _ _ (by omega) (oth _ _ _ _ _ (by omega) (oth _ _ _ _ _ (by omega) (World.cell?_setCell_same _ _ _ d0)))
    · exact o1 _ _ (by omega) (by omega) (by omega) (by omega) (h.c0 i (by omega))
  · by_cases e : i = k
    · subst e
      exact oth _ _ _ _ _ (by omega) (oth _ _ _ _ _ (by omega) (World.cell?_setCell_same _ _ _ (oth _ _ _ _ _ (by omega) d1)))
    · exact o1 _ _ (by omega) (by omega) (by omega) (by omega) (h.c1 i (by omega))
  · by_cases e : i = k
    · subst e
      exact oth _ _ _ _ _ (by omega) (World.cell?_setCell_same _ _ _ (oth _ _ _ _ _ (by omega) (oth _ _ _ _ _ (by omega) d2)))
    · exact o1 _ _ (by omega) (by omega) (by omega) (by omega) (h.c2 i (by omega))
  · by_cases e : i = k
    · subst e
      simp only [if_true]
      exact World.cell?_setCell_same _ _ _ (oth _ _ _ _ _ (by omega) (oth _ _ _ _ _ (by omega) (oth _ _ _ _ _ (by omega) d3)))
    · simp only [if_neg e]
      exact o1 _ _ (by omega) (by omega) (by omega) (by omega) (h.c3 i (by omega))
  · exact o1 _ _ (by omega) (by omega) (by omega) (by omega) (h.r0 i (by omega) h2)
  · exact o1 _ _ (by omega) (by omega) (by omega) (by omega) (h.r1 i (by omega) h2)
  · exact o1 _ _ (by omega) (by omega) (by omega) (by omega) (h.r2 i (by omega) h2)
  · exact o1 _ _ (by omega) (by omega) (by omega) (by omega) (h.r3 i (by omega) h2)
  · rw [World.frozen?_setCell, World.frozen?_setCell, World.frozen?_setCell, World.frozen?_setCell]
    exact (hb.frozen (p := ⟨g, o, none⟩) hg).trans (h.f o)
  · by_cases e : i = k
    · subst e
      simp only [if_true]
      exact hr.turned T (.inr (by omega))
    · simp only [if_neg e]
      have hf := h.fr i (by omega)
      exact ((h.rn i (by omega)).below hb).turned T (.inr (by omega))
  · rw [World.size_setCell, World.size_setCell, World.size_setCell, World.size_setCell]
    by_cases e : i = k
    · simp only [if_pos e]; omega
    · simp only [if_neg e]
      have hf := h.fr i (by omega)
      omega
  · have hik : ¬ i = k := by omega
    simp only [if_neg hik]
    by_cases e : j = k
    · simp only [if_pos e]
      have hf := h.fr i (by omega)
      omega
    · simp only [if_neg e]
      exact h.ne i j h1 (by omega)

theorem made_quad (n i j : Nat) (v : Value) (hj : j < 4) (h : i * 4 + j < n) (hv : (Value.agg #[.int .i64 0, .int .i64 0, .int .i64 0, .slice none 0 0]).cells[j]? = some v) : (madeCells (Value.agg #[.int .i64 0, .int .i64 0, .int .i64 0, .slice none 0 0]).cells n).toList[i * 4 + j]? = some v := by
  have h1 : (i * 4 + j) % 4 = j := by omega
  simp [Value.cells] at hv
  simp [madeCells, Value.cells, h, h1]
  match j, hj, hv with
  | 0, _, hv => simpa using hv
  | 1, _, hv => simpa using hv
  | 2, _, hv => simpa using hv
  | 3, _, hv => simpa using hv

set_option maxHeartbeats 2000000 in
theorem toRecordS_any (a : Option Addr) (n c : Nat) (R : Nat → Rc) (D : Nat → Ad) (w : World) (hm : n + szR R n ≤ 1048576) (hr : RecsRead w a n R D) :
    Calls Try.prog 51 #[.slice a n c] w fun e w' => e = .returned (.slice (some ⟨w.heap.size, 0, none⟩) n n) ∧ Below w.heap.size w w' ∧ ∃ D', OwnR w.heap.size w'.heap.size w' w.heap.size n R D' := by
  obtain ⟨i0, hi, hz0, hz1, hz2⟩ := info36
  have HZ : Hid (∀ i, i < n → (R i).n + took (R i).Z (R i).n ≤ 1048576) := fun i hi => by have := szR_one R i n hi; omega
  go_enter Try.func51, Try.ntmps51
  go_wp2_with (at_make; refine wpList_make_full _ rfl _ _ 24 rfl w.heap.size 36 i0 (.agg #[.int .i64 0, .int .i64 0, .int .i64 0, .slice none 0 0]) 4 Try.underlying24 hi hz0 hz1 .i64 .i64 _ _ n rfl rfl rfl rfl ?c1 ?c2 (Nat.le_refl _) ?_)
  case c1 => rw [hz2]; omega
  case c2 => unfold maxLen; omega
  intro w1 hown hg
  have hB : Below w.heap.size w w1 := Below.grown (Below.refl _ _) hg (Nat.le_refl _) (fun k hk => by cases hk)
  have hlt1 : w.heap.size < w1.heap.size := (hown.lt w.heap.size (by simp [Value.ownBlock])).2
  have hP : PartR w1 w.heap.size n 0 R (fun _ => ⟨none, 0, fun _ => none, fun _ => 0, fun _ => 0, 0, 0⟩) :=
    ⟨fun i hi => absurd hi (Nat.not_lt_zero _), fun i hi => absurd hi (Nat.not_lt_zero _), fun i hi => absurd hi (Nat.not_lt_zero _), fun i hi => absurd hi (Nat.not_lt_zero _),
      fun i _ hi => by rw [hown.cellAt (i * 4) (by omega)]; exact made_quad (n * 4) i 0 _ (by omega) (by omega) rfl, fun i _ hi => by rw [hown.cellAt (i * 4 + 1) (by omega)]; exact made_quad (n * 4) i 1 _ (by omega) (by omega) rfl, fun i _ hi => by rw [hown.cellAt (i * 4 + 2) (by omega)]; exact made_quad (n * 4) i 2 _ (by omega) (by omega) rfl, fun i _ hi => by rw [hown.cellAt (i * 4 + 3) (by omega)]; exact made_quad (n * 4) i 3 _ (by omega) (by omega) rfl,
      fun o => hown.frozenAt _, fun i hi => absurd hi (Nat.not_lt_zero _), fun i hi => absurd hi (Nat.not_lt_zero _), fun i j _ hi => absurd hi (Nat.not_lt_zero _)⟩
  clear hown hg hi hz0 hz1 hz2
  by_cases h0 : n = 0
  · subst h0
    go_wp2_with fail
    go_rounds 1
    go_ret
    exact ⟨rfl, hB, _, hP.own hlt1⟩
  have HR : Hid (RecsRead w a n R D) := hr
  rcases hr with hr | ⟨b, off, rfl, hc⟩
  · exact absurd hr h0
  clear hc
  go_wp2_with fail
  go_loopw [4] (fun i wr => ∃ k : Nat, k ≤ n ∧ i = .int .i64 k ∧ Below w.heap.size w wr ∧ (∃ D', PartR wr w.heap.size n k R D') ∧ w.heap.size < wr.heap.size) (fun i _ => n - (intOf i).toNat)
  case atStart => exact ⟨0, Nat.zero_le _, rfl, hB, ⟨_, hP⟩, hlt1⟩
  case round =>
    obtain ⟨k, hk, rfl, g, ⟨D', hP⟩, hlt⟩ := hrel
    clear hB hlt1
    by_cases hlt2 : k < n
    · obtain ⟨e0, e1, e2, e3, e4⟩ := (HR.out.below g (Nat.le_refl _)).at_ k hlt2
      have hkn : (k : Int) < (n : Int) := by omega
      have hzk := HZ.out k hlt2
      go_wp2_with fail
      refine (toRecord_any (R k).k (R k).t (R k).g (D k).a (R k).n (D k).c (R k).P (D k).A (D k).C (R k).Z _ hzk e4).mono ?_
      rintro e w' ⟨br, A', F', rfl, g', ho⟩
      have hP' := hP.step (d := ⟨some ⟨br, 0, none⟩, (R k).n, A', fun i => ((R k).Z i).length, F', wr.heap.size, w'.heap.size⟩) hlt2 hlt g' (.inr ⟨br, rfl, ho⟩) rfl rfl
      have g2 : Below w.heap.size w w' := g.trans (g'.mono g.size)
      have hlt' : w.heap.size < w'.heap.size := Nat.lt_of_lt_of_le hlt g'.size
      have r0 := (g'.cell (p := ⟨w.heap.size, k * 4, none⟩) hlt).trans (hP.r0 k (Nat.le_refl _) hlt2)
      have r1 := (g'.cell (p := ⟨w.heap.size, k * 4 + 1, none⟩) hlt).trans (hP.r1 k (Nat.le_refl _) hlt2)
      have r2 := (g'.cell (p := ⟨w.heap.size, k * 4 + 2, none⟩) hlt).trans (hP.r2 k (Nat.le_refl _) hlt2)
      have r3 := (g'.cell (p := ⟨w.heap.size, k * 4 + 3, none⟩) hlt).trans (hP.r3 k (Nat.le_refl _) hlt2)
      have f0 := (g'.frozen (p := ⟨w.heap.size, k * 4, none⟩) hlt).trans (hP.f _)
      have f1 := (g'.frozen (p := ⟨w.heap.size, k * 4 + 1, none⟩) hlt).trans (hP.f _)
      have f2 := (g'.frozen (p := ⟨w.heap.size, k * 4 + 2, none⟩) hlt).trans (hP.f _)
      have f3 := (g'.frozen (p := ⟨w.heap.size, k * 4 + 3, none⟩) hlt).trans (hP.f _)
      clear g g' hP e0 e1 e2 e3 e4 ho
      go_wp2_with fail
      go_roundw
      case rel => exact ⟨k + 1, by omega, by go_num, by go_grown, ⟨_, hP'⟩, by simp; omega⟩
      case measure => simp [intOf]; omega
    · have e : k = n := by omega
      subst e
      go_wp2_with fail
      go_ret
      exact ⟨rfl, g, _, hP.own hlt⟩

end Go.Proofs.Ytcjkjenebnodbaa
