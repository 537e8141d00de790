/-
  Both NewStore; the law FnExactNewStore answers true.
-/
import Derived.Test.YtdlcihgeopekgaaNst
namespace Go.Proofs.Ytdlcihgeopekgaa
open Go.RowKit Go.ChangeShapes Go.WideShapes
set_option linter.unusedVariables false
set_option maxRecDepth 20000

def inW (n lo hi : Int) : Bool := decide (lo ≤ n) && decide (n ≤ hi)
theorem l1InW_any (n lo hi : Int) (w : World) : Calls Try.prog 9 #[.int .i64 n, .int .i64 lo, .int .i64 hi] w fun e w' => e = .returned (.bool (inW n lo hi)) ∧ w' = w := by
  by_cases h1 : lo ≤ n
  · have d1 : decide (lo ≤ n) = true := by simpa using h1
    by_cases h2 : n ≤ hi
    · have e1 : inW n lo hi = true := by simp [inW, h1, h2]
      rw [e1]
      go_enter Try.func9, Try.ntmps9
      go_wp2
      go_ret
      exact ⟨rfl, rfl⟩
    · have e1 : inW n lo hi = false := by simp [inW]; omega
      have d2 : decide (n ≤ hi) = false := by simpa using h2
      rw [e1]
      go_enter Try.func9, Try.ntmps9
      go_wp2
      go_ret
      exact ⟨rfl, rfl⟩
  · have e1 : inW n lo hi = false := by simp [inW]; omega
    have d1 : decide (lo ≤ n) = false := by simpa using h1
    rw [e1]
    go_enter Try.func9, Try.ntmps9
    go_wp2
    go_ret
    exact ⟨rfl, rfl⟩
theorem isWithinW_any (n lo hi : Int) (w : World) : Calls Try.prog 16 #[.int .i64 n, .int .i64 lo, .int .i64 hi] w fun e w' => e = .returned (.bool (inW n lo hi)) ∧ w' = w := by
  by_cases h1 : lo ≤ n
  · have d1 : decide (lo ≤ n) = true := by simpa using h1
    by_cases h2 : n ≤ hi
    · have e1 : inW n lo hi = true := by simp [inW, h1, h2]
      rw [e1]
      go_enter Try.func16, Try.ntmps16
      go_wp2
      go_ret
      exact ⟨rfl, rfl⟩
    · have e1 : inW n lo hi = false := by simp [inW]; omega
      have d2 : decide (n ≤ hi) = false := by simpa using h2
      rw [e1]
      go_enter Try.func16, Try.ntmps16
      go_wp2
      go_ret
      exact ⟨rfl, rfl⟩
  · have e1 : inW n lo hi = false := by simp [inW]; omega
    have d1 : decide (lo ≤ n) = false := by simpa using h1
    rw [e1]
    go_enter Try.func16, Try.ntmps16
    go_wp2
    go_ret
    exact ⟨rfl, rfl⟩
/-- The code, whether it is up, and Next of a new store. -/
def nsQ (t : Int) : Int := if inW t 1 100 = true then 0 else 3
def nsN (t : Int) : Int := if inW t 1 100 = true then t else 0
def nsU (t : Int) : Bool := inW t 1 100
set_option maxHeartbeats 1000000 in
theorem indexNil_any (f : Value) (w : World) : Calls Try.prog 26 #[.slice none 0 0, f] w fun e w' => e = .returned (.int .i64 (-1)) ∧ Below w.heap.size w w' := by
  go_enter Try.func26, Try.ntmps26
  go_wp2_with fail
  go_loopw [8] (fun i wr => i = .int .i64 0 ∧ Below w.heap.size w wr) (fun _ _ => 0)
  case atStart => exact ⟨rfl, Below.refl _ _⟩
  case round =>
    obtain ⟨rfl, gr⟩ := hrel
    go_wp2_with fail
    go_ret
    exact ⟨rfl, gr⟩
set_option maxHeartbeats 1000000 in
theorem containsNil_any (f : Value) (w : World) : Calls Try.prog 14 #[.slice none 0 0, f] w fun e w' => e = .returned (.bool false) ∧ Below w.heap.size w w' := by
  go_enter Try.func14, Try.ntmps14
  go_wp2_with fail
  refine (indexNil_any f _).mono ?_
  rintro e w1 ⟨rfl, g⟩
  go_wp2_with fail
  go_ret
  exact ⟨rfl, g⟩
set_option maxHeartbeats 4000000 in
theorem nextFault_any (t : Int) (w : World) : Calls Try.prog 10 #[.int .i64 t, .slice none 0 0] w fun e w' => e = .returned (.int .i64 (nsQ t)) ∧ Below w.heap.size w w' := by
  have HW := fun W => isWithinW_any t 1 100 W
  have HQ : Hid (nsQ t = if inW t 1 100 = true then 0 else 3) := rfl
  obtain ⟨Q, hQ⟩ : ∃ Q, nsQ t = Q := ⟨_, rfl⟩
  rw [hQ] at HQ ⊢
  clear hQ
  generalize inW t 1 100 = f at HW HQ
  go_enter Try.func10, Try.ntmps10
  go_upto_region 1 with (fail)
  generalize hY : World.alloc _ _ = Y
  have gY : Below w.heap.size w Y := by rw [← hY]; go_grown
  have k0 : Y.cell? ⟨w.heap.size, 0, none⟩ = some (.int .i64 t) := by rw [← hY]; simp [go_sem]
  clear hY
  obtain ⟨kb, hkb⟩ : ∃ kb, w.heap.size = kb := ⟨_, rfl⟩
  rw [hkb] at k0
  simp only [hkb]
  have HKB : Hid (w.heap.size = kb) := hkb
  clear hkb
  have lk := World.block_lt_of_cell? Y _ k0
  go_wp2_with fail
  refine (containsNil_any _ _).mono ?_
  rintro e w1 ⟨rfl, g1⟩
  have k0 := (g1.cell (p := ⟨kb, 0, none⟩) lk).trans k0
  have g := gY.trans (g1.mono gY.size)
  clear g1
  cases f
  · have HX : Hid (Q = 3) := by have h := HQ.out; show _ = _; simpa using h
    go_wp2_with (first | (go_at_call 16; refine (HW _).mono ?_; rintro e w2 ⟨rfl, hw⟩; subst w2))
    go_ret
    exact ⟨by rw [HX.out]; rfl, g⟩
  · have HX : Hid (Q = 0) := by have h := HQ.out; show _ = _; simpa using h
    go_wp2_with (first | (go_at_call 16; refine (HW _).mono ?_; rintro e w2 ⟨rfl, hw⟩; subst w2))
    go_ret
    exact ⟨by rw [HX.out]; rfl, g⟩

set_option maxHeartbeats 4000000 in
theorem specNewStore_any (t : Int) (w : World) :
    Calls Try.prog 4 #[.int .i64 t] w fun e w' => e = .returned (.agg #[.int .i64 (nsQ t), .int .i64 0, .bool (nsU t), .slice none 0 0, .slice none 0 0, .slice none 0 0, .slice none 0 0, .int .i64 (nsN t)]) ∧ Below w.heap.size w w' := by
  have h1 := fun W => l1InW_any t 1 100 W
  have HE : Hid (nsQ t = (if inW t 1 100 = true then 0 else 3) ∧ nsN t = (if inW t 1 100 = true then t else 0) ∧ nsU t = inW t 1 100) := ⟨rfl, rfl, rfl⟩
  obtain ⟨Q, hQ⟩ : ∃ Q, nsQ t = Q := ⟨_, rfl⟩
  obtain ⟨R, hR⟩ : ∃ R, nsN t = R := ⟨_, rfl⟩
  obtain ⟨U, hU⟩ : ∃ U, nsU t = U := ⟨_, rfl⟩
  rw [hQ, hR, hU] at HE
  try rw [hQ] at h1
  rw [hQ, hR, hU]
  clear hQ hR hU
  generalize inW t 1 100 = f at h1 HE
  go_enter Try.func4, Try.ntmps4
  go_upto_region 1 with (fail)
  generalize hY : World.alloc _ _ = Y
  have g : Below w.heap.size w Y := by rw [← hY]; go_grown
  have O : C8 Y w.heap.size (.int .i64 0) (.int .i64 0) (.bool false) (.slice none 0 0) (.slice none 0 0) (.slice none 0 0) (.slice none 0 0) (.int .i64 0) := by rw [← hY]; exact ⟨by simp [go_sem], by simp [go_sem], by simp [go_sem], by simp [go_sem], by simp [go_sem], by simp [go_sem], by simp [go_sem], by simp [go_sem]⟩
  have hf : ∀ o, Y.frozen? ⟨w.heap.size, o, none⟩ = false := by rw [← hY]; exact fun o => by simp [go_sem]
  clear hY
  obtain ⟨ob, hob⟩ : ∃ ob, w.heap.size = ob := ⟨_, rfl⟩
  rw [hob] at O hf
  simp only [hob]
  have HOB : Hid (w.heap.size = ob) := hob
  have hob1 : w.heap.size ≤ ob := by omega
  clear hob
  have lO := O.lt
  go_wp2_with fail
  refine (h1 _).mono ?_
  rintro e w1 ⟨rfl, g1⟩
  subst w1
  have hf := hf
  have g := g
  obtain ⟨o0, o1, o2, o3, o4, o5, o6, o7⟩ := O
  have f0 := hf 0
  have f1 := hf 1
  have f2 := hf 2
  have f3 := hf 3
  have f4 := hf 4
  have f5 := hf 5
  have f6 := hf 6
  have f7 := hf 7
  clear hf h1
  cases f
  · have HX : Hid (Q = 3 ∧ R = 0 ∧ U = false) := by have h := HE.out; show _ ∧ _ ∧ _; simpa using h
    clear HE
    
    go_wp2_with fail
    refine bodyPost_ret (v := .agg #[.int .i64 3, .int .i64 0, .bool false, .slice none 0 0, .slice none 0 0, .slice none 0 0, .slice none 0 0, .int .i64 0]) (by simp [results, Try.results4, go_sem, *]) rfl ?_
    exact ⟨by rw [HX.out.1, HX.out.2.1, HX.out.2.2], by go_grown⟩
  · have HX : Hid (Q = 0 ∧ R = t ∧ U = true) := by have h := HE.out; show _ ∧ _ ∧ _; simpa using h
    clear HE
    
    go_wp2_with fail
    refine bodyPost_ret (v := .agg #[.int .i64 0, .int .i64 0, .bool true, .slice none 0 0, .slice none 0 0, .slice none 0 0, .slice none 0 0, .int .i64 t]) (by simp [results, Try.results4, go_sem, *]) rfl ?_
    exact ⟨by rw [HX.out.1, HX.out.2.1, HX.out.2.2], by go_grown⟩

set_option maxHeartbeats 4000000 in
theorem implNewStore_any (t : Int) (w : World) :
    Calls Try.prog 5 #[.int .i64 t] w fun e w' => e = .returned (.agg #[.int .i64 (nsQ t), .int .i64 0, .bool (nsU t), .slice none 0 0, .slice none 0 0, .slice none 0 0, .slice none 0 0, .int .i64 (nsN t)]) ∧ Below w.heap.size w w' := by
  have h1 := fun W => nextFault_any t W
  have HE : Hid (nsQ t = (if inW t 1 100 = true then 0 else 3) ∧ nsN t = (if inW t 1 100 = true then t else 0) ∧ nsU t = inW t 1 100) := ⟨rfl, rfl, rfl⟩
  obtain ⟨Q, hQ⟩ : ∃ Q, nsQ t = Q := ⟨_, rfl⟩
  obtain ⟨R, hR⟩ : ∃ R, nsN t = R := ⟨_, rfl⟩
  obtain ⟨U, hU⟩ : ∃ U, nsU t = U := ⟨_, rfl⟩
  rw [hQ, hR, hU] at HE
  try rw [hQ] at h1
  rw [hQ, hR, hU]
  clear hQ hR hU
  generalize inW t 1 100 = f at h1 HE
  go_enter Try.func5, Try.ntmps5
  go_upto_region 1 with (fail)
  generalize hY : World.alloc _ _ = Y
  have g : Below w.heap.size w Y := by rw [← hY]; go_grown
  have O : C8 Y w.heap.size (.int .i64 0) (.int .i64 0) (.bool false) (.slice none 0 0) (.slice none 0 0) (.slice none 0 0) (.slice none 0 0) (.int .i64 0) := by rw [← hY]; exact ⟨by simp [go_sem], by simp [go_sem], by simp [go_sem], by simp [go_sem], by simp [go_sem], by simp [go_sem], by simp [go_sem], by simp [go_sem]⟩
  have hf : ∀ o, Y.frozen? ⟨w.heap.size, o, none⟩ = false := by rw [← hY]; exact fun o => by simp [go_sem]
  clear hY
  obtain ⟨ob, hob⟩ : ∃ ob, w.heap.size = ob := ⟨_, rfl⟩
  rw [hob] at O hf
  simp only [hob]
  have HOB : Hid (w.heap.size = ob) := hob
  have hob1 : w.heap.size ≤ ob := by omega
  clear hob
  have lO := O.lt
  go_wp2_with fail
  refine (h1 _).mono ?_
  rintro e w1 ⟨rfl, g1⟩
  have O := O.below g1 lO
  have hf : ∀ o, w1.frozen? ⟨ob, o, none⟩ = false := fun o => (g1.frozen (p := ⟨ob, o, none⟩) lO).trans (hf o)
  have g := g.trans (g1.mono g.size)
  obtain ⟨o0, o1, o2, o3, o4, o5, o6, o7⟩ := O
  have f0 := hf 0
  have f1 := hf 1
  have f2 := hf 2
  have f3 := hf 3
  have f4 := hf 4
  have f5 := hf 5
  have f6 := hf 6
  have f7 := hf 7
  clear hf h1
  cases f
  · have HX : Hid (Q = 3 ∧ R = 0 ∧ U = false) := by have h := HE.out; show _ ∧ _ ∧ _; simpa using h
    clear HE
    obtain rfl := HX.out.1
    go_wp2_with fail
    refine bodyPost_ret (v := .agg #[.int .i64 3, .int .i64 0, .bool false, .slice none 0 0, .slice none 0 0, .slice none 0 0, .slice none 0 0, .int .i64 0]) (by simp [results, Try.results5, go_sem, *]) rfl ?_
    exact ⟨by rw [HX.out.2.1, HX.out.2.2], by go_grown⟩
  · have HX : Hid (Q = 0 ∧ R = t ∧ U = true) := by have h := HE.out; show _ ∧ _ ∧ _; simpa using h
    clear HE
    obtain rfl := HX.out.1
    go_wp2_with fail
    refine bodyPost_ret (v := .agg #[.int .i64 0, .int .i64 0, .bool true, .slice none 0 0, .slice none 0 0, .slice none 0 0, .slice none 0 0, .int .i64 t]) (by simp [results, Try.results5, go_sem, *]) rfl ?_
    exact ⟨by rw [HX.out.2.1, HX.out.2.2], by go_grown⟩

set_option maxHeartbeats 8000000 in
theorem lawNewStore_any (t : Int) (w : World) (ht : (Lit.int .i64 t).wf = true) :
    Calls Try.prog 3 #[.int .i64 t] w fun e w' => e = .returned (.bool true) ∧ Below w.heap.size w w' := by
  clear ht
  have HSpec : Hid (∀ V, Calls Try.prog 4 #[.int .i64 t] V fun e w' => e = .returned (.agg #[.int .i64 (nsQ t), .int .i64 0, .bool (nsU t), .slice none 0 0, .slice none 0 0, .slice none 0 0, .slice none 0 0, .int .i64 (nsN t)]) ∧ Below V.heap.size V w') := fun V => specNewStore_any t V
  have HImpl : Hid (∀ V, Calls Try.prog 5 #[.int .i64 t] V fun e w' => e = .returned (.agg #[.int .i64 (nsQ t), .int .i64 0, .bool (nsU t), .slice none 0 0, .slice none 0 0, .slice none 0 0, .slice none 0 0, .int .i64 (nsN t)]) ∧ Below V.heap.size V w') := fun V => implNewStore_any t V
  generalize nsQ t = q at HSpec HImpl
  generalize nsN t = nx at HSpec HImpl
  generalize nsU t = u at HSpec HImpl
  have HEq : Hid (∀ V, Calls Try.prog 6 #[.agg #[.int .i64 q, .int .i64 0, .bool u, .slice none 0 0, .slice none 0 0, .slice none 0 0, .slice none 0 0, .int .i64 nx], .agg #[.int .i64 q, .int .i64 0, .bool u, .slice none 0 0, .slice none 0 0, .slice none 0 0, .slice none 0 0, .int .i64 nx]] V fun e w' => e = .returned (.bool true) ∧ Below V.heap.size V w') := fun V => eqStoreResult_nil q u nx V
  have HMk : Hid (∀ V, Calls Try.prog 7 #[.agg #[.int .i64 q, .int .i64 0, .bool u, .slice none 0 0, .slice none 0 0, .slice none 0 0, .slice none 0 0, .int .i64 nx], .int .i64 1] V fun e w' => e = .returned (.int .i64 1) ∧ Below V.heap.size V w') := fun V => markStoreResult_nil q u nx 1 V
  have HHd : Hid (∀ V, Calls Try.prog 8 #[.agg #[.int .i64 q, .int .i64 0, .bool u, .slice none 0 0, .slice none 0 0, .slice none 0 0, .slice none 0 0, .int .i64 nx], .int .i64 1] V fun e w' => e = .returned (.int .i64 1) ∧ Below V.heap.size V w') := fun V => heldStoreResult_nil q u nx 1 V
  go_enter Try.func3, Try.ntmps3
  go_wp2_with fail
  refine (HSpec.out _).mono ?_
  rintro e w1 ⟨rfl, g1⟩
  go_upto_region 2 with (fail)
  generalize hY : World.alloc _ _ = Y1
  have g : Below w.heap.size w Y1 := by rw [← hY]; exact g1.trans ((by go_grown : Below w1.heap.size w1 _).mono g1.size)
  have X : C8 Y1 w1.heap.size (.int .i64 q) (.int .i64 0) (.bool u) (.slice none 0 0) (.slice none 0 0) (.slice none 0 0) (.slice none 0 0) (.int .i64 nx) := by rw [← hY]; exact ⟨by simp [go_sem], by simp [go_sem], by simp [go_sem], by simp [go_sem], by simp [go_sem], by simp [go_sem], by simp [go_sem], by simp [go_sem]⟩
  clear hY g1
  generalize w1.heap.size = ab at X ⊢
  go_wp2_with fail
  refine (HImpl.out _).mono ?_
  rintro e w2 ⟨rfl, g2⟩
  have X := X.below g2 X.lt
  have g := g.trans (g2.mono g.size)
  clear g2
  go_upto_region 3 with (fail)
  generalize hY : World.alloc _ _ = Y2
  have g2 : Below w2.heap.size w2 Y2 := by rw [← hY]; go_grown
  have Z : C8 Y2 w2.heap.size (.int .i64 q) (.int .i64 0) (.bool u) (.slice none 0 0) (.slice none 0 0) (.slice none 0 0) (.slice none 0 0) (.int .i64 nx) := by rw [← hY]; exact ⟨by simp [go_sem], by simp [go_sem], by simp [go_sem], by simp [go_sem], by simp [go_sem], by simp [go_sem], by simp [go_sem], by simp [go_sem]⟩
  have X := X.below g2 X.lt
  have g := g.trans (g2.mono g.size)
  clear hY g2
  generalize w2.heap.size = bb at Z ⊢
  have lX := X.lt
  have lZ := Z.lt
  have HX : Hid (∀ V, Below Y2.heap.size Y2 V → C8 V ab (.int .i64 q) (.int .i64 0) (.bool u) (.slice none 0 0) (.slice none 0 0) (.slice none 0 0) (.slice none 0 0) (.int .i64 nx)) := fun V hV => X.below hV lX
  have HZ : Hid (∀ V, Below Y2.heap.size Y2 V → C8 V bb (.int .i64 q) (.int .i64 0) (.bool u) (.slice none 0 0) (.slice none 0 0) (.slice none 0 0) (.slice none 0 0) (.int .i64 nx)) := fun V hV => Z.below hV lZ
  obtain ⟨a0, a1, a2, a3, a4, a5, a6, a7⟩ := X
  obtain ⟨b0, b1, b2, b3, b4, b5, b6, b7⟩ := Z
  go_wp2_with fail
  refine (HEq.out _).mono ?_
  rintro e w3 ⟨rfl, g3⟩
  clear a0 a1 a2 a3 a4 a5 a6 a7 b0 b1 b2 b3 b4 b5 b6 b7
  obtain ⟨b0, b1, b2, b3, b4, b5, b6, b7⟩ := HZ.out w3 g3
  go_wp2_with fail
  refine (HMk.out _).mono ?_
  rintro e w4 ⟨rfl, g4⟩
  have g4 := g3.trans (g4.mono g3.size)
  clear b0 b1 b2 b3 b4 b5 b6 b7
  obtain ⟨b0, b1, b2, b3, b4, b5, b6, b7⟩ := HZ.out w4 g4
  go_wp2_with fail
  refine (HHd.out _).mono ?_
  rintro e w5 ⟨rfl, g5⟩
  have g5 := g4.trans (g5.mono g4.size)
  clear b0 b1 b2 b3 b4 b5 b6 b7
  go_wp2_with fail
  refine (HImpl.out _).mono ?_
  rintro e w6 ⟨rfl, g6⟩
  have g6 := g5.trans (g6.mono g5.size)
  clear g3 g4 g5
  go_upto_region 14 with (fail)
  generalize hY : World.alloc _ _ = Y7
  have g7 : Below w6.heap.size w6 Y7 := by rw [← hY]; go_grown
  have D : C8 Y7 w6.heap.size (.int .i64 q) (.int .i64 0) (.bool u) (.slice none 0 0) (.slice none 0 0) (.slice none 0 0) (.slice none 0 0) (.int .i64 nx) := by rw [← hY]; exact ⟨by simp [go_sem], by simp [go_sem], by simp [go_sem], by simp [go_sem], by simp [go_sem], by simp [go_sem], by simp [go_sem], by simp [go_sem]⟩
  have g7 := g6.trans (g7.mono g6.size)
  clear hY g6
  generalize w6.heap.size = cb at D ⊢
  obtain ⟨a0, a1, a2, a3, a4, a5, a6, a7⟩ := HX.out Y7 g7
  obtain ⟨c0, c1, c2, c3, c4, c5, c6, c7⟩ := D
  go_wp2_with fail
  refine (HEq.out _).mono ?_
  rintro e w8 ⟨rfl, g8⟩
  have g8 := g7.trans (g8.mono g7.size)
  obtain ⟨b0, b1, b2, b3, b4, b5, b6, b7⟩ := HZ.out w8 g8
  clear a0 a1 a2 a3 a4 a5 a6 a7 c0 c1 c2 c3 c4 c5 c6 c7 g7
  go_wp2_with fail
  refine (HHd.out _).mono ?_
  rintro e w9 ⟨rfl, g9⟩
  have g := g.trans ((g8.trans (g9.mono g8.size)).mono g.size)
  clear b0 b1 b2 b3 b4 b5 b6 b7
  go_wp2_with fail
  go_ret
  exact ⟨rfl, g⟩

end Go.Proofs.Ytdlcihgeopekgaa
