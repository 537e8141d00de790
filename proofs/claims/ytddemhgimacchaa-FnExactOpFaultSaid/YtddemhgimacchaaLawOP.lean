/-
  Ops that came in; the law FnExactOpFault answers true.
-/
import Derived.Test.YtddemhgimacchaaOpi
import Derived.Test.YtddemhgimacchaaRdw
namespace Go.Proofs.Ytddemhgimacchaa
open Go.ChangeShapes Go.WideShapes Go.RowKit
set_option linter.unusedVariables false
set_option maxRecDepth 20000

theorem seven {α : Type} (xs : List α) (h : xs.length = 7) : ∃ a b c d e f g, xs = [a, b, c, d, e, f, g] := by
  match xs, h with
  | [a, b, c, d, e, f, g], _ => exact ⟨a, b, c, d, e, f, g, rfl⟩
theorem open_row4o {H : Type} {enc : TypeId × Value → H} {W : World} {base : Nat} {held : Bool} {fuel : Nat} {v0 v1 v2 v3 : Value} {x : DataW H × List MemPlace}
    (h2 : DataW.trod enc Try.prog W base (fun _ => true) held fuel 39 [v0, v1, v2, v3] = some x) : ∃ t k v s, v0 = .int .i64 t ∧ v1 = .int .i64 k ∧ v2 = .int .i64 v ∧ v3 = .string s ∧ ByteArray.size s ≤ maxLen := by
  obtain ⟨xs, k, hk, hxy, _, hxl, hf⟩ := DataW.trod_struct Try.underlying39 h2
  have hx4 : xs.length = 4 := hxl
  clear hxl
  obtain ⟨y0, y1, y2, y3, rfl⟩ := four xs hx4
  have g0 := hf 0 _ rfl
  have g1 := hf 1 _ rfl
  have g2 := hf 2 _ rfl
  have g3 := hf 3 _ rfl
  have c2 : Try.prog.cellsOf 2 = 1 := by kernel_rfl
  have c9 : Try.prog.cellsOf 9 = 1 := by kernel_rfl
  simp [c2, c9] at g0 g1 g2 g3
  obtain ⟨t0, e0, _, w0⟩ := DataW.trod_int Try.underlying2 g0
  obtain ⟨t1, e1, _, w1⟩ := DataW.trod_int Try.underlying2 g1
  obtain ⟨t2, e2, _, w2⟩ := DataW.trod_int Try.underlying2 g2
  obtain ⟨s, e3, _, hs⟩ := DataW.trod_string Try.underlying9 g3
  simp only [List.cons.injEq, and_true] at e0 e1 e2 e3
  subst e0 e1 e2 e3
  exact ⟨t0, t1, t2, s, rfl, rfl, rfl, rfl, hs⟩
theorem open_op {H : Type} {enc : TypeId × Value → H} {W : World} {base bs : Nat} {held : Bool} {v : Value} {d : DataW H} {p : List MemPlace} (hv : Value.okWide Try.prog W .any base 41 v)
    (h : DataW.Trod enc Try.prog W bs (fun _ => true) held 41 v d p) : ∃ kd tx t k x s mk, v = .agg #[.int .i64 kd, .int .i64 tx, .int .i64 t, .int .i64 k, .int .i64 x, .string s, .int .i64 mk] ∧ ByteArray.size s ≤ maxLen := by
  obtain ⟨cs, rfl, hsz⟩ := okWide_struct Try.underlying41 hv
  have c7 : Try.prog.cellsOf 41 = 7 := by kernel_rfl
  rw [c7] at hsz
  obtain ⟨fuel, h2⟩ := h
  obtain ⟨l⟩ := cs
  have hl : l.length = 7 := by simpa using hsz
  obtain ⟨v0, v1, v2, v3, v4, v5, v6, rfl⟩ := seven l hl
  have h2 : DataW.trod enc Try.prog W bs (fun _ => true) held fuel 41 [v0, v1, v2, v3, v4, v5, v6] = some (d, p) := h2
  obtain ⟨xs, k, hk, hxy, _, hxl, hf⟩ := DataW.trod_struct Try.underlying41 h2
  have hx4 : xs.length = 4 := hxl
  clear hxl
  obtain ⟨y0, y1, y2, y3, rfl⟩ := four xs hx4
  have g0 := hf 0 _ rfl
  have g1 := hf 1 _ rfl
  have g2 := hf 2 _ rfl
  have g3 := hf 3 _ rfl
  have c2 : Try.prog.cellsOf 2 = 1 := by kernel_rfl
  have c4 : Try.prog.cellsOf 39 = 4 := by kernel_rfl
  simp [c2, c4] at g0 g1 g2 g3
  obtain ⟨t0, e0, _, w0⟩ := DataW.trod_int Try.underlying2 g0
  obtain ⟨t1, e1, _, w1⟩ := DataW.trod_int Try.underlying2 g1
  obtain ⟨t3, e3, _, w3⟩ := DataW.trod_int Try.underlying2 g3
  obtain ⟨t, k, x, s, rfl, rfl, rfl, rfl, hs⟩ := open_row4o g2
  simp only [List.cons.injEq, and_true] at e0 e1 e3
  subst e0 e1 e3
  exact ⟨t0, t1, t, k, x, s, t3, rfl, hs⟩

set_option maxHeartbeats 400000 in
theorem szOp_any (kd tx t k v : Int) (s : ByteArray) (mk : Int) (n : Int) (w : World) (hs : s.size ≤ maxLen) (hn0 : 0 ≤ n) (hn : n ≤ 1048576) :
    Calls Try.prog 19 #[.agg #[.int .i64 kd, .int .i64 tx, .int .i64 t, .int .i64 k, .int .i64 v, .string s, .int .i64 mk], .int .i64 n] w fun e w' => (∃ r : Int, e = .returned (.int .i64 r) ∧ r ≤ 1048576 ∧ (0 ≤ r → s.size ≤ 1048576)) ∧ Below w.heap.size w w' := by
  by_cases h1 : (s.size : Int) ≤ n
  · have d : ¬ (n - (s.size : Int) < 0) := by omega
    go_enter Try.func19, Try.ntmps19
    go_wp2_with fail
    refine (szRow_fits t k v s n _ h1 hn).mono ?_
    rintro e w1 ⟨rfl, g1⟩
    have g : Below w.heap.size w w1 := Below.trans (by go_grown) (g1.mono (by simp))
    clear g1
    go_wp2_with fail
    go_ret
    exact ⟨⟨_, rfl, by omega, fun _ => by omega⟩, g⟩
  · go_enter Try.func19, Try.ntmps19
    go_wp2_with fail
    refine (szRow_over t k v s n _ hs hn0 hn (by omega)).mono ?_
    rintro e w1 ⟨rfl, g1⟩
    have g : Below w.heap.size w w1 := Below.trans (by go_grown) (g1.mono (by simp))
    clear g1
    go_wp2_with fail
    go_ret
    exact ⟨⟨_, rfl, by omega, fun h => absurd h (by omega)⟩, g⟩

set_option maxHeartbeats 1000000 in
theorem toOp_any (kd tx t k v : Int) (s : ByteArray) (mk : Int) (w : World) :
    Calls Try.prog 21 #[.agg #[.int .i64 kd, .int .i64 tx, .int .i64 t, .int .i64 k, .int .i64 v, .string s, .int .i64 mk]] w fun e w' => e = .returned (.agg #[.int .i64 kd, .int .i64 tx, .int .i64 t, .int .i64 k, .int .i64 v, .string s, .int .i64 mk]) ∧ Below w.heap.size w w' := by
  go_enter Try.func21, Try.ntmps21
  go_upto_region 4 with (fail)
  generalize hY : World.alloc _ _ = Y
  have g : Below w.heap.size w Y := by rw [← hY]; go_grown
  have Z1 : OpAt Y w.heap.size kd tx t k v s mk := by rw [← hY]; exact ⟨by simp [go_sem], by simp [go_sem], by simp [go_sem], by simp [go_sem], by simp [go_sem], by simp [go_sem], by simp [go_sem]⟩
  have Z2 : OpAt Y (w.heap.size + 1) 0 0 0 0 0 ⟨#[]⟩ 0 := by rw [← hY]; exact ⟨by simp [go_sem], by simp [go_sem], by simp [go_sem], by simp [go_sem], by simp [go_sem], by simp [go_sem], by simp [go_sem]⟩
  have Z3 : OpAt Y (w.heap.size + 2) kd tx 0 0 0 ⟨#[]⟩ 0 := by rw [← hY]; exact ⟨by simp [go_sem], by simp [go_sem], by simp [go_sem], by simp [go_sem], by simp [go_sem], by simp [go_sem], by simp [go_sem]⟩
  have F2 : ∀ c, Y.frozen? ⟨w.heap.size + 1, c, none⟩ = false := by intro c; rw [← hY]; simp [go_sem]
  have F3 : ∀ c, Y.frozen? ⟨w.heap.size + 2, c, none⟩ = false := by intro c; rw [← hY]; simp [go_sem]
  clear hY
  obtain ⟨b2, hb2⟩ : ∃ b, b = w.heap.size + 1 := ⟨_, rfl⟩
  obtain ⟨b3, hb3⟩ : ∃ b, b = w.heap.size + 2 := ⟨_, rfl⟩
  rw [← hb2] at Z2 F2
  rw [← hb3] at Z3 F3
  have h2 : w.heap.size ≤ b2 := by omega
  have h3 : w.heap.size ≤ b3 := by omega
  have n13 : w.heap.size ≠ b3 := by omega
  have n31 : b3 ≠ w.heap.size := by omega
  have n23 : b2 ≠ b3 := by omega
  have n32 : b3 ≠ b2 := by omega
  try simp only [Nat.add_assoc, Nat.reduceAdd]
  rw [← hb3, ← hb2]
  clear hb2 hb3
  have l1 := Z1.lt
  have l2 := Z2.lt
  have l3 := Z3.lt
  obtain ⟨c0, c1, c2, c3, c4, c5, c6⟩ := Z1
  go_wp2_with fail
  refine (toRow_any t k v s _).mono ?_
  rintro e w' ⟨rfl, g'⟩
  have c6 := (g'.cell (p := ⟨w.heap.size, 6, none⟩) l1).trans c6
  have Z2 := Z2.below g' l2
  have Z3 := Z3.below g' l3
  have F2 : ∀ c, w'.frozen? ⟨b2, c, none⟩ = false := fun c => (g'.frozen (p := ⟨b2, c, none⟩) l2).trans (F2 c)
  have F3 : ∀ c, w'.frozen? ⟨b3, c, none⟩ = false := fun c => (g'.frozen (p := ⟨b3, c, none⟩) l3).trans (F3 c)
  have g := g.trans (g'.mono g.size)
  clear c0 c1 c2 c3 c4 c5 g' l1 l2 l3
  obtain ⟨z0, z1, z2, z3, z4, z5, z6⟩ := Z3
  go_upto_region 6 with (fail)
  generalize hY : World.setCell _ _ _ = V1
  have Z3 : OpAt V1 b3 kd tx t k v s mk := by rw [← hY]; clear hY; exact ⟨by simp [go_sem, *], by simp [go_sem, *], by simp [go_sem, *], by simp [go_sem, *], by simp [go_sem, *], by simp [go_sem, *], by simp [go_sem, *]⟩
  have T : Turned b3 (b3 + 1) w' V1 := by
    rw [← hY]
    exact ((((((Turned.refl _ _ _).setCell (p := ⟨b3, 2, none⟩) (Nat.le_refl _) (Nat.lt_succ_self _) _).setCell (p := ⟨b3, 3, none⟩) (Nat.le_refl _) (Nat.lt_succ_self _) _).setCell (p := ⟨b3, 4, none⟩) (Nat.le_refl _) (Nat.lt_succ_self _) _).setCell (p := ⟨b3, 5, none⟩) (Nat.le_refl _) (Nat.lt_succ_self _) _).setCell (p := ⟨b3, 6, none⟩) (Nat.le_refl _) (Nat.lt_succ_self _) _)
  have F2 : ∀ c, V1.frozen? ⟨b2, c, none⟩ = false := by intro c; rw [← hY]; simp [go_sem, F2]
  have hd : b2 < b3 ∨ b3 + 1 ≤ b2 := by omega
  have Z2 : OpAt V1 b2 0 0 0 0 0 ⟨#[]⟩ 0 := ⟨T.cell (p := ⟨b2, 0, none⟩) Z2.c0 hd, T.cell (p := ⟨b2, 1, none⟩) Z2.c1 hd, T.cell (p := ⟨b2, 2, none⟩) Z2.c2 hd, T.cell (p := ⟨b2, 3, none⟩) Z2.c3 hd, T.cell (p := ⟨b2, 4, none⟩) Z2.c4 hd, T.cell (p := ⟨b2, 5, none⟩) Z2.c5 hd, T.cell (p := ⟨b2, 6, none⟩) Z2.c6 hd⟩
  have g := g.trans (T.toBelow g.size h3)
  clear hY T c6 z0 z1 z2 z3 z4 z5 z6 F3 hd
  obtain ⟨z0, z1, z2, z3, z4, z5, z6⟩ := Z3
  obtain ⟨y0, y1, y2, y3, y4, y5, y6⟩ := Z2
  have f0 := F2 0
  have f1 := F2 1
  have f2 := F2 2
  have f3 := F2 3
  have f4 := F2 4
  have f5 := F2 5
  have f6 := F2 6
  go_wp2_with fail
  refine bodyPost_ret (v := .agg #[.int .i64 kd, .int .i64 tx, .int .i64 t, .int .i64 k, .int .i64 v, .string s, .int .i64 mk]) (by simp [results, Try.results21, go_sem, *]) rfl ?_
  exact ⟨rfl, g.trans (Turned.toBelow (lo := b2) (hi := b2 + 1) ((((((((Turned.refl _ _ V1).setCell (p := ⟨b2, 0, none⟩) (Nat.le_refl _) (Nat.lt_succ_self _) _).setCell (p := ⟨b2, 1, none⟩) (Nat.le_refl _) (Nat.lt_succ_self _) _).setCell (p := ⟨b2, 2, none⟩) (Nat.le_refl _) (Nat.lt_succ_self _) _).setCell (p := ⟨b2, 3, none⟩) (Nat.le_refl _) (Nat.lt_succ_self _) _).setCell (p := ⟨b2, 4, none⟩) (Nat.le_refl _) (Nat.lt_succ_self _) _).setCell (p := ⟨b2, 5, none⟩) (Nat.le_refl _) (Nat.lt_succ_self _) _).setCell (p := ⟨b2, 6, none⟩) (Nat.le_refl _) (Nat.lt_succ_self _) _) g.size h2)⟩

set_option maxHeartbeats 2000000 in
theorem lawOpFault_any (kd tx t k v : Int) (s : ByteArray) (mk : Int) (w : World) (hs : s.size ≤ maxLen) :
    Calls Try.prog 4 #[.agg #[.int .i64 kd, .int .i64 tx, .int .i64 t, .int .i64 k, .int .i64 v, .string s, .int .i64 mk]] w fun e w' => e = .returned (.bool true) ∧ Below w.heap.size w w' := by
  go_enter Try.func4, Try.ntmps4
  go_upto_region 2 with (fail)
  generalize hY : World.alloc _ _ = Y
  have gY : Below w.heap.size w Y := by rw [← hY]; go_grown
  have hc : OpAt Y w.heap.size kd tx t k v s mk := by rw [← hY]; exact ⟨by simp [go_sem], by simp [go_sem], by simp [go_sem], by simp [go_sem], by simp [go_sem], by simp [go_sem], by simp [go_sem]⟩
  clear hY
  generalize w.heap.size = b at hc ⊢
  have HC : Hid (∀ V, Below Y.heap.size Y V → OpAt V b kd tx t k v s mk) := fun V hV => hc.below hV hc.lt
  obtain ⟨c0, c1, c2, c3, c4, c5, c6⟩ := hc
  go_wp2_with fail
  refine (szOp_any kd tx t k v s mk 1048576 _ hs (by omega) (by omega)).mono ?_
  rintro e w1 ⟨⟨r, rfl, hr1, hr⟩, g1⟩
  clear c0 c1 c2 c3 c4 c5 c6
  by_cases h0 : r < 0
  · go_wp2_with fail
    go_ret
    exact ⟨rfl, gY.trans (g1.mono gY.size)⟩
  have hss := hr (by omega)
  have hr0 : ¬ r < 0 := h0
  clear h0 hr
  obtain ⟨c0, c1, c2, c3, c4, c5, c6⟩ := HC.out _ g1
  go_wp2_with fail
  refine (toOp_any kd tx t k v s mk _).mono ?_
  rintro e w2 ⟨rfl, g2⟩
  have g2 := g1.trans (g2.mono g1.size)
  clear c0 c1 c2 c3 c4 c5 c6 g1
  go_wp2_with fail
  refine (specOpFault_any kd tx t k v s mk _ hs).mono ?_
  rintro e w3 ⟨rfl, g3⟩
  have g3 := g2.trans (g3.mono g2.size)
  clear g2
  obtain ⟨c0, c1, c2, c3, c4, c5, c6⟩ := HC.out _ g3
  go_wp2_with fail
  refine (toOp_any kd tx t k v s mk _).mono ?_
  rintro e w4 ⟨rfl, g4⟩
  have g4 := g3.trans (g4.mono g3.size)
  clear c0 c1 c2 c3 c4 c5 c6 g3
  go_wp2_with fail
  refine (implOpFault_any kd tx t k v s mk _ hs).mono ?_
  rintro e w5 ⟨rfl, g5⟩
  have g5 := g4.trans (g5.mono g4.size)
  clear g4
  generalize opQ kd tx t k v s mk = q
  go_wp2_with fail
  go_ret
  exact ⟨rfl, gY.trans (g5.mono gY.size)⟩

end Go.Proofs.Ytddemhgimacchaa

