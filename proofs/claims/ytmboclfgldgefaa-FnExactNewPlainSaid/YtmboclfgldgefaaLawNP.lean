/-
  Both NewPlain; the law FnExactNewPlain answers true.
-/
import Derived.Test.YtmboclfgldgefaaPlr
import Derived.Test.YtmboclfgldgefaaNxf
namespace Go.Proofs.Ytmboclfgldgefaa
open Go.ChangeShapes Go.WideShapes Go.RowKit Go.Maps
set_option linter.unusedVariables false
set_option maxRecDepth 20000

def npQ (t : Int) : Int := if inW t 1 100 = true then 0 else 3
def npN (t : Int) : Int := if inW t 1 100 = true then t else 0
theorem nx_nil (t : Int) : nxQ t [] = npQ t := by
  unfold nxQ npQ
  split
  · rw [if_neg (by unfold ixT; decide)]
  · rfl
/-- Five cells of an answer, new. -/
structure P5f (w : World) (b : Nat) : Prop where
  c : P5 w b 0 0 (.slice none 0 0) (.slice none 0 0) (.int .i64 0)
  f : ∀ o, w.frozen? ⟨b, o, none⟩ = false
theorem P5f.lt {w : World} {b : Nat} (h : P5f w b) : b < w.heap.size := h.c.lt
theorem P5f.below {w w' : World} {b B : Nat} (h : P5f w b) (hb : Below B w w') (hl : b < B) : P5f w' b := ⟨h.c.below hb hl, fun o => (hb.frozen (p := ⟨b, o, none⟩) hl).trans (h.f o)⟩

set_option maxHeartbeats 4000000 in
theorem specNewPlain_any (t : Int) (w : World) :
    Calls Try.prog 33 #[.int .i64 t] w fun e w' => e = .returned (.agg #[.int .i64 (npQ t), .int .i64 0, .slice none 0 0, .slice none 0 0, .int .i64 (npN t)]) ∧ Below w.heap.size w w' := by
  have h1 := fun W => l1InW_any t 1 100 W
  have HE : Hid (npQ t = (if inW t 1 100 = true then 0 else 3) ∧ npN t = (if inW t 1 100 = true then t else 0)) := ⟨rfl, rfl⟩
  generalize inW t 1 100 = f at h1 HE
  obtain ⟨Q, hQ⟩ : ∃ Q, npQ t = Q := ⟨_, rfl⟩
  obtain ⟨R, hR⟩ : ∃ R, npN t = R := ⟨_, rfl⟩
  rw [hQ, hR] at HE
  rw [hQ, hR]
  clear hQ hR
  go_enter Try.func33, Try.ntmps33
  go_upto_region 1 with (fail)
  generalize hY : World.alloc _ _ = Y
  have g : Below w.heap.size w Y := by rw [← hY]; go_grown
  have hO : P5f Y w.heap.size := by rw [← hY]; exact ⟨⟨by simp [go_sem], by simp [go_sem], by simp [go_sem], by simp [go_sem], by simp [go_sem]⟩, fun o => by simp [go_sem]⟩
  clear hY
  obtain ⟨ob, hob⟩ : ∃ ob, w.heap.size = ob := ⟨_, rfl⟩
  have hob1 : w.heap.size ≤ ob := by omega
  rw [hob] at hO
  simp only [hob]
  have HOB : Hid (w.heap.size = ob) := hob
  clear hob
  obtain ⟨⟨o0, o1, o2, o3, o4⟩, hf⟩ := hO
  have f0 := hf 0
  have f1 := hf 1
  have f2 := hf 2
  have f3 := hf 3
  have f4 := hf 4
  clear hf
  go_wp2_with fail
  refine (h1 _).mono ?_
  rintro e w1 ⟨rfl, hw⟩
  subst w1
  cases f
  · have HX : Hid (Q = 3 ∧ R = 0) := by have h := HE.out; show _ ∧ _; simpa using h
    clear HE h1
    go_wp2_with fail
    refine bodyPost_ret (v := .agg #[.int .i64 3, .int .i64 0, .slice none 0 0, .slice none 0 0, .int .i64 0]) (by simp [results, Try.results33, go_sem, *]) rfl ?_
    exact ⟨by rw [HX.out.1, HX.out.2], by go_grown⟩
  · have HX : Hid (Q = 0 ∧ R = t) := by have h := HE.out; show _ ∧ _; simpa using h
    clear HE h1
    go_wp2_with fail
    refine bodyPost_ret (v := .agg #[.int .i64 0, .int .i64 0, .slice none 0 0, .slice none 0 0, .int .i64 t]) (by simp [results, Try.results33, go_sem, *]) rfl ?_
    exact ⟨by rw [HX.out.1, HX.out.2], by go_grown⟩

set_option maxHeartbeats 4000000 in
theorem implNewPlain_any (t : Int) (w : World) :
    Calls Try.prog 34 #[.int .i64 t] w fun e w' => e = .returned (.agg #[.int .i64 (npQ t), .int .i64 0, .slice none 0 0, .slice none 0 0, .int .i64 (npN t)]) ∧ Below w.heap.size w w' := by
  have h1 : ∀ W, Calls Try.prog 87 #[.int .i64 t, .slice none 0 0] W fun e w' => e = .returned (.int .i64 (npQ t)) ∧ Below W.heap.size W w' := fun W => by
    have h := nextFault_any none [] 0 0 t W rfl (by omega) (.inl rfl)
    rw [nx_nil] at h
    exact h
  have HE : Hid (npN t = if npQ t = 0 then t else 0) := by
    show _ = _
    unfold npN npQ
    split
    · rw [if_pos rfl]
    · rw [if_neg (by decide)]
  obtain ⟨Q, hQ⟩ : ∃ Q, npQ t = Q := ⟨_, rfl⟩
  obtain ⟨R, hR⟩ : ∃ R, npN t = R := ⟨_, rfl⟩
  rw [hQ, hR] at HE
  rw [hQ] at h1
  rw [hQ, hR]
  clear hQ hR
  go_enter Try.func34, Try.ntmps34
  go_upto_region 1 with (fail)
  generalize hY : World.alloc _ _ = Y
  have g : Below w.heap.size w Y := by rw [← hY]; go_grown
  have hO : P5f Y w.heap.size := by rw [← hY]; exact ⟨⟨by simp [go_sem], by simp [go_sem], by simp [go_sem], by simp [go_sem], by simp [go_sem]⟩, fun o => by simp [go_sem]⟩
  clear hY
  obtain ⟨ob, hob⟩ : ∃ ob, w.heap.size = ob := ⟨_, rfl⟩
  have hob1 : w.heap.size ≤ ob := by omega
  rw [hob] at hO
  simp only [hob]
  have HOB : Hid (w.heap.size = ob) := hob
  clear hob
  go_wp2_with fail
  refine (h1 _).mono ?_
  rintro e w1 ⟨rfl, g1⟩
  have hO := hO.below g1 hO.lt
  have g := g.trans (g1.mono g.size)
  clear g1 h1
  obtain ⟨⟨o0, o1, o2, o3, o4⟩, hf⟩ := hO
  have f0 := hf 0
  have f1 := hf 1
  have f2 := hf 2
  have f3 := hf 3
  have f4 := hf 4
  clear hf
  by_cases h0 : Q = 0
  · have HX : Hid (Q = 0 ∧ R = t) := ⟨h0, by rw [HE.out, if_pos h0]⟩
    have d : (Q != 0) = false := by simp [h0]
    clear HE
    go_wp2_with fail
    refine bodyPost_ret (v := .agg #[.int .i64 0, .int .i64 0, .slice none 0 0, .slice none 0 0, .int .i64 t]) (by simp [results, Try.results34, go_sem, *]) rfl ?_
    exact ⟨by rw [HX.out.1, HX.out.2], by go_grown⟩
  · have HX : Hid (R = 0) := by show _ = _; rw [HE.out, if_neg h0]
    have d : (Q != 0) = true := by simpa using h0
    clear HE
    go_wp2_with fail
    refine bodyPost_ret (v := .agg #[.int .i64 Q, .int .i64 0, .slice none 0 0, .slice none 0 0, .int .i64 0]) (by simp [results, Try.results34, go_sem, *]) rfl ?_
    exact ⟨by rw [HX.out], by go_grown⟩

set_option maxHeartbeats 8000000 in
theorem lawNewPlain_any (t : Int) (w : World) (ht : (Lit.int .i64 t).wf = true) :
    Calls Try.prog 6 #[.int .i64 t] w fun e w' => e = .returned (.bool true) ∧ Below w.heap.size w w' := by
  clear ht
  have HSpec : Hid (∀ W, Calls Try.prog 33 #[.int .i64 t] W fun e w' => e = .returned (.agg #[.int .i64 (npQ t), .int .i64 0, .slice none 0 0, .slice none 0 0, .int .i64 (npN t)]) ∧ Below W.heap.size W w') := fun W => specNewPlain_any t W
  have HImpl : Hid (∀ W, Calls Try.prog 34 #[.int .i64 t] W fun e w' => e = .returned (.agg #[.int .i64 (npQ t), .int .i64 0, .slice none 0 0, .slice none 0 0, .int .i64 (npN t)]) ∧ Below W.heap.size W w') := fun W => implNewPlain_any t W
  generalize npQ t = q at HSpec HImpl
  generalize npN t = nx at HSpec HImpl
  have HEq : Hid (∀ W, Calls Try.prog 35 #[.agg #[.int .i64 q, .int .i64 0, .slice none 0 0, .slice none 0 0, .int .i64 nx], .agg #[.int .i64 q, .int .i64 0, .slice none 0 0, .slice none 0 0, .int .i64 nx]] W fun e w' => e = .returned (.bool true) ∧ Below W.heap.size W w') := fun W => eqPlainResult_same q 0 none none [] 0 0 0 none none [] 0 0 0 nx W rfl (by omega) (.inl rfl) (.inl rfl) rfl (by omega) (fun x hx => by simp at hx) (.inl rfl) (.inl rfl)
  have HMk : Hid (∀ W, Calls Try.prog 36 #[.agg #[.int .i64 q, .int .i64 0, .slice none 0 0, .slice none 0 0, .int .i64 nx], .int .i64 1] W fun e w' => e = .returned (.int .i64 1) ∧ Below W.heap.size W w') := fun W => markPlainResult_nil q 0 nx 1 W (by omega) (by omega)
  have HHd : Hid (∀ W, Calls Try.prog 37 #[.agg #[.int .i64 q, .int .i64 0, .slice none 0 0, .slice none 0 0, .int .i64 nx], .int .i64 1] W fun e w' => e = .returned (.int .i64 1) ∧ Below W.heap.size W w') := fun W => heldPlainResult_nil q 0 nx 1 W (by omega) (by omega)
  go_enter Try.func6, Try.ntmps6
  go_wp2_with fail
  refine (HSpec.out _).mono ?_
  rintro e w1 ⟨rfl, g1⟩
  go_upto_region 2 with (fail)
  generalize hY : World.alloc _ _ = Y1
  have g : Below w.heap.size w Y1 := by rw [← hY]; exact g1.trans ((by go_grown : Below w1.heap.size w1 _).mono g1.size)
  have A : P5 Y1 w1.heap.size q 0 (.slice none 0 0) (.slice none 0 0) (.int .i64 nx) := by rw [← hY]; exact ⟨by simp [go_sem], by simp [go_sem], by simp [go_sem], by simp [go_sem], by simp [go_sem]⟩
  clear hY g1
  generalize w1.heap.size = ab at A ⊢
  go_wp2_with fail
  refine (HImpl.out _).mono ?_
  rintro e w2 ⟨rfl, g2⟩
  have A := A.below g2 A.lt
  have g := g.trans (g2.mono g.size)
  clear g2
  go_upto_region 3 with (fail)
  generalize hY : World.alloc _ _ = Y2
  have g2 : Below w2.heap.size w2 Y2 := by rw [← hY]; go_grown
  have B : P5 Y2 w2.heap.size q 0 (.slice none 0 0) (.slice none 0 0) (.int .i64 nx) := by rw [← hY]; exact ⟨by simp [go_sem], by simp [go_sem], by simp [go_sem], by simp [go_sem], by simp [go_sem]⟩
  have A := A.below g2 A.lt
  have g := g.trans (g2.mono g.size)
  clear hY g2
  generalize w2.heap.size = bb at B ⊢
  have lA := A.lt
  have lB := B.lt
  have HA : Hid (∀ V, Below Y2.heap.size Y2 V → P5 V ab q 0 (.slice none 0 0) (.slice none 0 0) (.int .i64 nx)) := fun V hV => A.below hV lA
  have HB : Hid (∀ V, Below Y2.heap.size Y2 V → P5 V bb q 0 (.slice none 0 0) (.slice none 0 0) (.int .i64 nx)) := fun V hV => B.below hV lB
  obtain ⟨a0, a1, a2, a3, a4⟩ := A
  obtain ⟨b0, b1, b2, b3, b4⟩ := B
  go_wp2_with fail
  refine (HEq.out _).mono ?_
  rintro e w3 ⟨rfl, g3⟩
  obtain ⟨b0, b1, b2, b3, b4⟩ := HB.out w3 g3
  go_wp2_with fail
  refine (HMk.out _).mono ?_
  rintro e w4 ⟨rfl, g4⟩
  have g4 := g3.trans (g4.mono g3.size)
  obtain ⟨b0, b1, b2, b3, b4⟩ := HB.out w4 g4
  go_wp2_with fail
  refine (HHd.out _).mono ?_
  rintro e w5 ⟨rfl, g5⟩
  have g5 := g4.trans (g5.mono g4.size)
  go_wp2_with fail
  refine (HImpl.out _).mono ?_
  rintro e w6 ⟨rfl, g6⟩
  have g6 := g5.trans (g6.mono g5.size)
  clear a0 a1 a2 a3 a4 b0 b1 b2 b3 b4 g3 g4 g5
  go_upto_region 14 with (fail)
  generalize hY : World.alloc _ _ = Y7
  have g7 : Below w6.heap.size w6 Y7 := by rw [← hY]; go_grown
  have C : P5 Y7 w6.heap.size q 0 (.slice none 0 0) (.slice none 0 0) (.int .i64 nx) := by rw [← hY]; exact ⟨by simp [go_sem], by simp [go_sem], by simp [go_sem], by simp [go_sem], by simp [go_sem]⟩
  have g7 := g6.trans (g7.mono g6.size)
  clear hY g6
  generalize w6.heap.size = cb at C ⊢
  obtain ⟨a0, a1, a2, a3, a4⟩ := HA.out Y7 g7
  obtain ⟨c0, c1, c2, c3, c4⟩ := C
  go_wp2_with fail
  refine (HEq.out _).mono ?_
  rintro e w8 ⟨rfl, g8⟩
  have g8 := g7.trans (g8.mono g7.size)
  obtain ⟨b0, b1, b2, b3, b4⟩ := HB.out w8 g8
  clear a0 a1 a2 a3 a4 c0 c1 c2 c3 c4 g7
  go_wp2_with fail
  refine (HHd.out _).mono ?_
  rintro e w9 ⟨rfl, g9⟩
  have g := g.trans ((g8.trans (g9.mono g8.size)).mono g.size)
  clear b0 b1 b2 b3 b4
  go_wp2_with fail
  go_ret
  exact ⟨rfl, g⟩

end Go.Proofs.Ytmboclfgldgefaa

