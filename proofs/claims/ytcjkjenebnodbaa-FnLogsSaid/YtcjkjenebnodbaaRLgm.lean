/-
  Logs in memory: szLog, toLog, eqLog, markLog, heldLog, and what hands a LogResult to them.
-/
import Derived.Test.YtcjkjenebnodbaaRRunC

namespace Go.Proofs.Ytcjkjenebnodbaa
open Go.RowKit
set_option linter.unusedVariables false

/-- Block b holds the two slices of a log. -/
structure LgAt (V : World) (b : Nat) (x : Option Addr) (n c : Nat) (y : Option Addr) (m d : Nat) : Prop where
  c0 : V.cell? ⟨b, 0, none⟩ = some (.slice x n c)
  c1 : V.cell? ⟨b, 1, none⟩ = some (.slice y m d)
theorem LgAt.up {V W : World} {b : Nat} {x y : Option Addr} {n c m d : Nat} (h : LgAt V b x n c y m d) (hb : Below V.heap.size V W) : LgAt W b x n c y m d :=
  ⟨(hb.cell (World.block_lt_of_cell? V _ h.c0)).trans h.c0, (hb.cell (World.block_lt_of_cell? V _ h.c1)).trans h.c1⟩
theorem LgAt.turned {lo hi b : Nat} {V W : World} {x y : Option Addr} {n c m d : Nat} (h : LgAt V b x n c y m d) (ht : Turned lo hi V W) (hn : b < lo ∨ hi ≤ b) : LgAt W b x n c y m d :=
  ⟨ht.cell h.c0 (by simp only; omega), ht.cell h.c1 (by simp only; omega)⟩

/-- The bytes xs at x lie in blocks from lo to below mid, the bytes ys at y in those from mid to below hi. -/
structure LogIn (lo mid hi : Nat) (w : World) (x y : Option Addr) (xs ys : List Int) : Prop where
  s : BytesIn lo mid w x xs
  l : BytesIn mid hi w y ys
  h1 : lo ≤ mid
  h2 : mid ≤ hi
section
variable {lo mid hi : Nat} {w w' : World} {x y : Option Addr} {xs ys : List Int}
theorem LogIn.below (h : LogIn lo mid hi w x y xs ys) (hb : Below w.heap.size w w') : LogIn lo mid hi w' x y xs ys := ⟨h.s.below hb, h.l.below hb, h.h1, h.h2⟩
theorem LogIn.turned (h : LogIn lo mid hi w x y xs ys) {a b : Nat} (ht : Turned a b w w') (hn : hi ≤ a ∨ b ≤ lo) : LogIn lo mid hi w' x y xs ys := by
  have := h.h1; have := h.h2
  exact ⟨h.s.turned ht (by omega), h.l.turned ht (by omega), h.h1, h.h2⟩
theorem LogIn.mono (h : LogIn lo mid hi w x y xs ys) {lo' hi' : Nat} (hl : lo' ≤ lo) (hh : hi ≤ hi') : LogIn lo' mid hi' w x y xs ys :=
  ⟨h.s.mono hl (Nat.le_refl _), h.l.mono (Nat.le_refl _) hh, Nat.le_trans hl h.h1, Nat.le_trans h.h2 hh⟩
end

set_option maxHeartbeats 400000 in
theorem szLog_any (x y : Option Addr) (n c m d : Nat) (w : World) (hn : n ≤ 9223372036854775807) (hm : m ≤ 9223372036854775807) :
    Calls Try.prog 53 #[.agg #[.slice x n c, .slice y m d], .int .i64 1048576] w fun e w' => (∃ r : Int, e = .returned (.int .i64 r) ∧ (r = -1 ∨ (0 ≤ r ∧ r = 1048576 - n - m))) ∧ Below w.heap.size w w' := by
  obtain ⟨r, hr⟩ : ∃ r : Int, r = szQ 1048576 n := ⟨_, rfl⟩
  have hr1 : r = -1 ∨ (0 ≤ r ∧ r = 1048576 - n) := by rw [hr]; unfold szQ; split <;> omega
  go_enter Try.func53, Try.ntmps53
  go_wp2_with fail
  refine (szByteS_any x n c 1048576 _ hn (by omega) (by omega)).mono ?_
  rintro e w' ⟨rfl, hw'⟩
  subst w'
  rw [← hr]
  clear hr
  rcases hr1 with hr1 | ⟨hr1, hr2⟩
  · subst hr1
    go_wp2_with fail
    go_ret
    exact ⟨⟨_, rfl, .inl rfl⟩, by go_grown⟩
  · have d0 : ¬ (r < 0) := by omega
    have hk1 : r ≤ 1048576 := by omega
    have HR : Hid (r = 1048576 - n) := hr2
    obtain ⟨r', hr'⟩ : ∃ r' : Int, r' = szQ r m := ⟨_, rfl⟩
    have hr3 : r' = -1 ∨ (0 ≤ r' ∧ r' = 1048576 - n - m) := by rw [hr']; unfold szQ; split <;> omega
    clear hr2
    go_wp2_with fail
    refine (szByteS_any y m d r _ hm hr1 hk1).mono ?_
    rintro e w' ⟨rfl, hw'⟩
    subst w'
    rw [← hr']
    clear hr'
    rcases hr3 with hr3 | ⟨hr3, hr4⟩
    · subst hr3
      go_wp2_with fail
      go_ret
      exact ⟨⟨_, rfl, .inl rfl⟩, by go_grown⟩
    · have d1 : ¬ (r' < 0) := by omega
      have HR4 : Hid (r' = 1048576 - n - m) := hr4
      clear hr4
      go_wp2_with fail
      go_ret
      exact ⟨⟨_, rfl, .inr ⟨hr3, HR4.out⟩⟩, by go_grown⟩

set_option maxHeartbeats 1000000 in
theorem toLog_any (x y : Option Addr) (xs ys : List Int) (n c m d : Nat) (w : World) (hn : xs.length = n) (hm : ys.length = m) (hn1 : n ≤ 1048576) (hm1 : m ≤ 1048576) (hx : Reads w x xs) (hy : Reads w y ys) :
    Calls Try.prog 55 #[.agg #[.slice x n c, .slice y m d]] w fun e w' => ∃ p q mid, e = .returned (.agg #[.slice p n n, .slice q m m]) ∧ Below w.heap.size w w' ∧ LogIn w.heap.size mid w'.heap.size w' p q xs ys := by
  have HX : Hid (Reads w x xs) := hx
  have HY : Hid (Reads w y ys) := hy
  clear hx hy
  go_enter Try.func55, Try.ntmps55
  go_upto_region 2 with (fail)
  generalize hY : World.alloc _ _ = Y
  have g : Below w.heap.size w Y := by rw [← hY]; go_grown
  have hs : Y.heap.size = w.heap.size + 3 := by rw [← hY]; simp
  have x0 : Y.cell? ⟨w.heap.size, 0, none⟩ = some (.slice x n c) := by rw [← hY]; simp [go_sem]
  have x1 : Y.cell? ⟨w.heap.size, 1, none⟩ = some (.slice y m d) := by rw [← hY]; simp [go_sem]
  have y0 : Y.cell? ⟨w.heap.size + 1, 0, none⟩ = some (.slice none 0 0) := by rw [← hY]; simp [go_sem]
  have y1 : Y.cell? ⟨w.heap.size + 1, 1, none⟩ = some (.slice none 0 0) := by rw [← hY]; simp [go_sem]
  have z0 : Y.cell? ⟨w.heap.size + 1 + 1, 0, none⟩ = some (.slice none 0 0) := by rw [← hY]; simp [go_sem]
  have z1 : Y.cell? ⟨w.heap.size + 1 + 1, 1, none⟩ = some (.slice none 0 0) := by rw [← hY]; simp [go_sem]
  have v0 : Y.frozen? ⟨w.heap.size + 1, 0, none⟩ = false := by rw [← hY]; simp [go_sem]
  have v1 : Y.frozen? ⟨w.heap.size + 1, 1, none⟩ = false := by rw [← hY]; simp [go_sem]
  have u0 : Y.frozen? ⟨w.heap.size + 1 + 1, 0, none⟩ = false := by rw [← hY]; simp [go_sem]
  have u1 : Y.frozen? ⟨w.heap.size + 1 + 1, 1, none⟩ = false := by rw [← hY]; simp [go_sem]
  clear hY
  go_wp2_with fail
  refine (toByteS_any x xs n c _ hn hn1 (HX.out.below g (Nat.le_refl _))).mono ?_
  rintro e w' ⟨rfl, g', hb⟩
  have hs' := g'.size
  have g2 : Below w.heap.size w w' := g.trans (g'.mono g.size)
  have up : ∀ (p : Addr) (v : Value), Y.cell? p = some v → w'.cell? p = some v := fun p v h => (g'.cell (World.block_lt_of_cell? Y _ h)).trans h
  have fz : ∀ (p : Addr), p.block < Y.heap.size → Y.frozen? p = false → w'.frozen? p = false := fun p hp h => (g'.frozen hp).trans h
  have x1 := up _ _ x1
  have y0 := up _ _ y0
  have y1 := up _ _ y1
  have z0 := up _ _ z0
  have z1 := up _ _ z1
  have v0 := fz _ (by simp only; omega) v0
  have v1 := fz _ (by simp only; omega) v1
  have u0 := fz _ (by simp only; omega) u0
  have u1 := fz _ (by simp only; omega) u1
  have HB : Hid (BytesIn Y.heap.size w'.heap.size w' (some ⟨Y.heap.size, 0, none⟩) xs) := hb
  clear g g' hb up fz x0
  rw [hs] at HB hs' ⊢
  clear hs
  go_upto_region 3 with (fail)
  obtain ⟨V, hV⟩ : ∃ V, V = w'.setCell ⟨w.heap.size + 1 + 1, 0, none⟩ (.slice (some ⟨w.heap.size + 3, 0, none⟩) n n) := ⟨_, rfl⟩
  rw [← hV]
  have T1 : Turned (w.heap.size + 2) (w.heap.size + 3) w' V := by rw [hV]; exact (Turned.refl _ _ _).setCell (by simp) (by simp) _
  have x1 := T1.cell x1 (.inl (by simp only; omega))
  have v0 := (T1.frozen y0 (.inl (by simp only; omega))).trans v0
  have v1 := (T1.frozen y1 (.inl (by simp only; omega))).trans v1
  have y0 := T1.cell y0 (.inl (by simp only; omega))
  have y1 := T1.cell y1 (.inl (by simp only; omega))
  have u1 : V.frozen? ⟨w.heap.size + 1 + 1, 1, none⟩ = false := by rw [hV, World.frozen?_setCell]; exact u1
  have z1 : V.cell? ⟨w.heap.size + 1 + 1, 1, none⟩ = some (.slice none 0 0) := by rw [hV, World.cell?_setCell_other _ _ _ _ (by simp)]; exact z1
  have z0 : V.cell? ⟨w.heap.size + 1 + 1, 0, none⟩ = some (.slice (some ⟨w.heap.size + 3, 0, none⟩) n n) := by rw [hV]; exact World.cell?_setCell_same _ _ _ z0
  have HB : Hid (BytesIn (w.heap.size + 3) V.heap.size V (some ⟨w.heap.size + 3, 0, none⟩) xs) := (HB.out.turned T1 (.inr (Nat.le_refl _))).mono (Nat.le_refl _) T1.size
  have gV : Below w.heap.size w V := g2.trans (T1.toBelow g2.size (by omega))
  have hs2 : w.heap.size + 3 ≤ V.heap.size := Nat.le_trans hs' T1.size
  clear hV T1 g2 hs' u0
  go_wp2_with fail
  refine (toByteS_any y ys m d _ hm hm1 (HY.out.below gV (Nat.le_refl _))).mono ?_
  rintro e w3 ⟨rfl, g3, hb3⟩
  have hs3 := g3.size
  have up : ∀ (p : Addr) (v : Value), V.cell? p = some v → w3.cell? p = some v := fun p v h => (g3.cell (World.block_lt_of_cell? V _ h)).trans h
  have fz : ∀ (p : Addr), p.block < V.heap.size → V.frozen? p = false → w3.frozen? p = false := fun p hp h => (g3.frozen hp).trans h
  have y0 := up _ _ y0
  have y1 := up _ _ y1
  have z0 := up _ _ z0
  have z1 := up _ _ z1
  have v0 := fz _ (by simp only; omega) v0
  have v1 := fz _ (by simp only; omega) v1
  have u1 := fz _ (by simp only; omega) u1
  have HL : Hid (LogIn (w.heap.size + 3) V.heap.size w3.heap.size w3 (some ⟨w.heap.size + 3, 0, none⟩) (some ⟨V.heap.size, 0, none⟩) xs ys) := ⟨HB.out.below g3, hb3, hs2, hs3⟩
  have g4 : Below w.heap.size w w3 := gV.trans (g3.mono gV.size)
  clear g3 gV up fz x1 hb3
  generalize V.heap.size = mid at HL hs2 hs3 ⊢
  go_wp2_with fail
  refine bodyPost_ret (v := .agg #[.slice (some ⟨w.heap.size + 3, 0, none⟩) n n, .slice (some ⟨mid, 0, none⟩) m m]) (by simp [results, Try.results55, go_sem, *]) rfl ?_
  refine ⟨_, _, mid, rfl, by go_grown, ?_⟩
  have T : Turned (w.heap.size + 1) (w.heap.size + 3) w3 _ := (((Turned.refl _ _ w3).setCell (p := ⟨w.heap.size + 1 + 1, 1, none⟩) (by simp) (by simp) (.slice (some ⟨mid, 0, none⟩) m m)).setCell (p := ⟨w.heap.size + 1, 0, none⟩) (by simp) (by simp) (.slice (some ⟨w.heap.size + 3, 0, none⟩) n n)).setCell (p := ⟨w.heap.size + 1, 1, none⟩) (by simp) (by simp) (.slice (some ⟨mid, 0, none⟩) m m)
  exact (HL.out.turned T (.inr (Nat.le_refl _))).mono (by omega) (by simp)

set_option maxHeartbeats 400000 in
theorem eqLog_same (x y x' y' : Option Addr) (xs ys : List Int) (n c m d c' d' : Nat) (lo mid hi lo' mid' hi' : Nat) (w : World) (hn : xs.length = n) (hm : ys.length = m) (hn1 : n ≤ 140737488351232) (hm1 : m ≤ 140737488351232) (ha : LogIn lo mid hi w x y xs ys) (hb : LogIn lo' mid' hi' w x' y' xs ys) :
    Calls Try.prog 56 #[.agg #[.slice x n c, .slice y m d], .agg #[.slice x' n c', .slice y' m d']] w fun e w' => e = .returned (.bool true) ∧ Below w.heap.size w w' := by
  have HA : Hid (LogIn lo mid hi w x y xs ys) := ha
  have HB : Hid (LogIn lo' mid' hi' w x' y' xs ys) := hb
  clear ha hb
  go_enter Try.func56, Try.ntmps56
  go_wp2_with fail
  refine (eqByteS_same x x' lo lo' mid mid' xs n c c' _ hn hn1 (HA.out.s.below (by go_grown)) (HB.out.s.below (by go_grown))).mono ?_
  rintro e w' ⟨rfl, k, rfl⟩
  go_wp2_with fail
  refine (eqByteS_same y y' mid mid' hi hi' ys m d d' _ hm hm1 (HA.out.l.below (below_draws (by go_grown) _)) (HB.out.l.below (below_draws (by go_grown) _))).mono ?_
  rintro e w' ⟨rfl, k', rfl⟩
  go_wp2_with fail
  go_ret
  refine ⟨rfl, below_draws ?_ _⟩
  go_grown

set_option maxHeartbeats 400000 in
theorem markLog_any (x y : Option Addr) (xs ys : List Int) (n c m d : Nat) (lo mid hi : Nat) (k : Int) (w : World) (hn : xs.length = n) (hm : ys.length = m) (hn1 : n ≤ 10000000) (hm1 : m ≤ 10000000) (hk0 : 0 ≤ k) (hk1 : k ≤ 10000000) (hhi : hi ≤ w.heap.size) (h : LogIn lo mid hi w x y xs ys) :
    Calls Try.prog 58 #[.agg #[.slice x n c, .slice y m d], .int .i64 k] w fun e w' => e = .returned (.int .i64 (k + n + m)) ∧ Turned lo hi w w' ∧ LogIn lo mid hi w' x y (marked k n xs) (marked (k + n) m ys) := by
  have H : Hid (LogIn lo mid hi w x y xs ys) := h
  have hh1 := h.h1
  have hh2 := h.h2
  clear h
  go_enter Try.func58, Try.ntmps58
  go_upto_region 1 with (fail)
  generalize hY : World.alloc w _ = Y
  have g : Below w.heap.size w Y := by rw [← hY]; go_grown
  have r : LgAt Y w.heap.size x n c y m d := by rw [← hY]; exact ⟨by simp [go_sem], by simp [go_sem]⟩
  clear hY
  have hL : Hid (LogIn lo mid hi Y x y xs ys) := H.out.below g
  have T0 : Turned lo hi w Y := Turned.ofBelow g
  obtain ⟨r0, r1⟩ := r
  have r : LgAt Y w.heap.size x n c y m d := ⟨r0, r1⟩
  clear g
  go_wp2_with fail
  refine (markByteS_any x lo mid xs n c k _ hn (by omega) hk0 (by omega) hL.out.s).mono ?_
  rintro e w1 ⟨rfl, t1, b1⟩
  have r := r.turned t1 (.inr (by omega))
  have HS : Hid (BytesIn lo mid w1 x (marked k n xs)) := b1
  have HL : Hid (BytesIn mid hi w1 y ys) := hL.out.l.turned t1 (.inr (Nat.le_refl _))
  have T1 : Turned lo hi w w1 := T0.trans ⟨t1.os, t1.tape, t1.output, t1.size, fun i h1 h2 => t1.block i h1 (by omega)⟩
  clear T0 t1 b1 hL r0 r1
  obtain ⟨r0, r1⟩ := r
  go_wp2_with fail
  refine (markByteS_any y mid hi ys m d (k + n) _ hm (by omega) (by omega) (by omega) HL.out).mono ?_
  rintro e w2 ⟨rfl, t2, b2⟩
  have HS : Hid (BytesIn lo mid w2 x (marked k n xs)) := HS.out.turned t2 (.inl (Nat.le_refl _))
  have T2 : Turned lo hi w w2 := T1.trans ⟨t2.os, t2.tape, t2.output, t2.size, fun i h1 h2 => t2.block i h1 (by omega)⟩
  have HB : Hid (BytesIn mid hi w2 y (marked (k + n) m ys)) := b2
  clear t2 b2 T1 HL r0 r1
  go_wp2_with fail
  go_ret
  exact ⟨rfl, T2, HS.out, HB.out, hh1, hh2⟩

set_option maxHeartbeats 400000 in
theorem heldLog_any (x y : Option Addr) (xs ys : List Int) (n c m d : Nat) (lo mid hi : Nat) (k : Int) (w : World) (hn : xs.length = n) (hm : ys.length = m) (hn1 : n ≤ 10000000) (hm1 : m ≤ 10000000) (hk0 : 0 ≤ k) (hk1 : k ≤ 10000000) (h : LogIn lo mid hi w x y (marked k n xs) (marked (k + n) m ys)) :
    Calls Try.prog 105 #[.agg #[.slice x n c, .slice y m d], .int .i64 k] w fun e w' => e = .returned (.int .i64 (k + n + m)) ∧ Below w.heap.size w w' := by
  have H : Hid (LogIn lo mid hi w x y (marked k n xs) (marked (k + n) m ys)) := h
  have p1 : ¬ (k + (n : Int) < 0) := by omega
  have p2 : ¬ (k + (n : Int) + (m : Int) < 0) := by omega
  clear h
  go_enter Try.func105, Try.ntmps105
  go_wp2_with fail
  refine (heldByteS_any x lo mid xs n c k _ hn (by omega) hk0 (by omega) (H.out.s.below (by go_grown))).mono ?_
  rintro e w1 ⟨rfl, rfl⟩
  go_wp2_with fail
  refine (heldByteS_any y mid hi ys m d (k + n) _ hm (by omega) (by omega) (by omega) (H.out.l.below (by go_grown))).mono ?_
  rintro e w2 ⟨rfl, rfl⟩
  go_wp2_with fail
  go_ret
  exact ⟨rfl, by go_grown⟩

set_option maxHeartbeats 400000 in
theorem eqLogResult_same (q : Int) (x y x' y' : Option Addr) (xs ys : List Int) (n c m d c' d' : Nat) (lo mid hi lo' mid' hi' : Nat) (w : World) (hn : xs.length = n) (hm : ys.length = m) (hn1 : n ≤ 140737488351232) (hm1 : m ≤ 140737488351232) (ha : LogIn lo mid hi w x y xs ys) (hb : LogIn lo' mid' hi' w x' y' xs ys) :
    Calls Try.prog 57 #[.agg #[.int .i64 q, .slice x n c, .slice y m d], .agg #[.int .i64 q, .slice x' n c', .slice y' m d']] w fun e w' => e = .returned (.bool true) ∧ Below w.heap.size w w' := by
  have HA : Hid (LogIn lo mid hi w x y xs ys) := ha
  have HB : Hid (LogIn lo' mid' hi' w x' y' xs ys) := hb
  clear ha hb
  go_enter Try.func57, Try.ntmps57
  go_wp2_with fail
  refine (eqLog_same x y x' y' xs ys n c m d c' d' lo mid hi lo' mid' hi' _ hn hm hn1 hm1 (HA.out.below (by go_grown)) (HB.out.below (by go_grown))).mono ?_
  rintro e w' ⟨rfl, hb⟩
  have g : Below w.heap.size w w' := Below.trans (by go_grown) (hb.mono (by simp; omega))
  clear hb
  go_wp2_with fail
  go_ret
  exact ⟨rfl, g⟩

set_option maxHeartbeats 400000 in
theorem markLogResult_any (q : Int) (x y : Option Addr) (xs ys : List Int) (n c m d : Nat) (lo mid hi : Nat) (k : Int) (w : World) (hn : xs.length = n) (hm : ys.length = m) (hn1 : n ≤ 10000000) (hm1 : m ≤ 10000000) (hk0 : 0 ≤ k) (hk1 : k ≤ 10000000) (hhi : hi ≤ w.heap.size) (h : LogIn lo mid hi w x y xs ys) :
    Calls Try.prog 59 #[.agg #[.int .i64 q, .slice x n c, .slice y m d], .int .i64 k] w fun e w' => e = .returned (.int .i64 (k + n + m)) ∧ Turned lo hi w w' ∧ LogIn lo mid hi w' x y (marked k n xs) (marked (k + n) m ys) := by
  have H : Hid (LogIn lo mid hi w x y xs ys) := h
  clear h
  go_enter Try.func59, Try.ntmps59
  go_wp2_with fail
  refine (markLog_any x y xs ys n c m d lo mid hi k _ hn hm hn1 hm1 hk0 hk1 (by simp; omega) (H.out.below (by go_grown))).mono ?_
  rintro e w' ⟨rfl, ht, hb⟩
  have h1 : Turned lo hi w w' := Turned.trans (Turned.ofBelow (by go_grown)) ht
  clear ht
  go_wp2_with fail
  go_ret
  exact ⟨rfl, h1, hb⟩

set_option maxHeartbeats 400000 in
theorem heldLogResult_any (q : Int) (x y : Option Addr) (xs ys : List Int) (n c m d : Nat) (lo mid hi : Nat) (k : Int) (w : World) (hn : xs.length = n) (hm : ys.length = m) (hn1 : n ≤ 10000000) (hm1 : m ≤ 10000000) (hk0 : 0 ≤ k) (hk1 : k ≤ 10000000) (h : LogIn lo mid hi w x y (marked k n xs) (marked (k + n) m ys)) :
    Calls Try.prog 60 #[.agg #[.int .i64 q, .slice x n c, .slice y m d], .int .i64 k] w fun e w' => e = .returned (.int .i64 (k + n + m)) ∧ Below w.heap.size w w' := by
  have H : Hid (LogIn lo mid hi w x y (marked k n xs) (marked (k + n) m ys)) := h
  have p2 : ¬ (k + (n : Int) + (m : Int) < 0) := by omega
  clear h
  go_enter Try.func60, Try.ntmps60
  go_wp2_with fail
  refine (heldLog_any x y xs ys n c m d lo mid hi k _ hn hm hn1 hm1 hk0 hk1 (H.out.below (by go_grown))).mono ?_
  rintro e w' ⟨rfl, hb⟩
  have g : Below w.heap.size w w' := Below.trans (by go_grown) (hb.mono (by simp))
  clear hb
  go_wp2_with fail
  go_ret
  exact ⟨rfl, g⟩

end Go.Proofs.Ytcjkjenebnodbaa
