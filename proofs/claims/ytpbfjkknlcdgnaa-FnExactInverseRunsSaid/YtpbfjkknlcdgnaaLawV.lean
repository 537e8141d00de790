/-
  The law FnExactInverseRuns answers true at all bytes and runs.
-/
import Derived.Test.YtpbfjkknlcdgnaaIvs
import Derived.Test.YtpbfjkknlcdgnaaRes
namespace Go.Proofs.Ytpbfjkknlcdgnaa
open Go.RowKit
set_option linter.unusedVariables false

theorem ivN_small (zs : List Int) (n : Nat) (P : Nat → Int) (Z : Nat → List Int) : ivN zs n P Z + took (ivZ zs P Z) (ivN zs n P Z) ≤ 5000 := by
  unfold ivN
  split
  · rename_i hq
    unfold apQ at hq
    by_cases e : zs.length = 64
    · rw [if_pos e] at hq
      have h1 := rfQ_zero hq
      have h2 := took_le (ivZ zs P Z) 64 n (fun i hi => by have := h1.2 i hi; unfold ivZ; rw [List.length_take]; omega)
      omega
    · rw [if_neg e] at hq; cases hq
  · simp [took]

set_option maxHeartbeats 400000 in
theorem lawInverseRuns_over (pa : Option Addr) (m pc : Nat) (a : Option Addr) (n c : Nat) (w : World) (hs : 1048576 < m) :
    Calls Try.prog 7 #[.slice pa m pc, .slice a n c] w fun e w' => e = .returned (.bool true) ∧ Below w.heap.size w w' := by
  have d : (1048576 : Int) < (m : Int) := by omega
  go_enter Try.func7, Try.ntmps7
  go_wp2_with fail
  go_ret
  exact ⟨rfl, Below.refl _ _⟩

set_option maxHeartbeats 4000000 in
theorem lawInverseRuns_fits (pa : Option Addr) (zs : List Int) (mp pc : Nat) (ra : Option Addr) (n rc : Nat) (P : Nat → Int) (A : Nat → Option Addr) (C : Nat → Nat) (Z : Nat → List Int) (w : World) (hn : zs.length = mp) (hs : mp ≤ 1048576) (ha : Reads w pa zs) (hR : IsRuns w ra n P A C Z) :
    Calls Try.prog 7 #[.slice pa mp pc, .slice ra n rc] w fun e w' => e = .returned (.bool true) ∧ Below w.heap.size w w' := by
  have HR : Hid (RunsRead w ra n P A C Z) := hR.rd
  have hln := hR.ln
  have hzl0 := hR.zl
  have hsm := ivN_small zs n P Z
  obtain ⟨q, hq⟩ : ∃ q, q = apQ zs n P Z := ⟨_, rfl⟩
  obtain ⟨m, hml⟩ : ∃ m, m = ivN zs n P Z := ⟨_, rfl⟩
  have HQ : Hid (apQ zs n P Z = q) := hq.symm
  have HM : Hid (ivN zs n P Z = m) := hml.symm
  rw [← hml] at hsm
  have HT : Hid (m + took (ivZ zs P Z) m ≤ 1048576) := by show m + took (ivZ zs P Z) m ≤ 1048576; omega
  have HN : Hid (zs.length = mp) := hn
  clear hq hml hn hR
  have d : ¬ ((1048576 : Int) < (mp : Int)) := by omega
  have hm : mp ≤ 140737488351232 := by omega
  go_enter Try.func7, Try.ntmps7
  go_wp2_with fail
  refine (szRunS_any ra n rc P A C Z _ hln hzl0 HR.out).mono ?_
  rintro e w0 ⟨⟨r, rfl, hl⟩, g0⟩
  by_cases h0 : r < 0
  · go_wp2_with fail
    go_ret
    exact ⟨rfl, g0⟩
  have hl := hl (by omega)
  have h0 : ¬ (r < 0) := h0
  have HL : Hid (n + took Z n ≤ 1048576) := hl
  have hzl : Hid (∀ i, i < n → (Z i).length ≤ 1048576) := fun i hi => by have := took_one Z i n hi; omega
  have hnn : n ≤ 1048576 := by omega
  clear hl hzl0
  go_wp2_with fail
  refine (toByteS_any pa zs mp pc _ HN.out hs (ha.below g0 (Nat.le_refl _))).mono ?_
  rintro e w1 ⟨rfl, g1, y1⟩
  have g1 : Below w.heap.size w w1 := g0.trans (g1.mono g0.size)
  clear g0
  go_wp2_with fail
  refine (toRunS_any ra n rc P A C Z _ HL.out (HR.out.below g1 (Nat.le_refl _))).mono ?_
  rintro e w1' ⟨rfl, g1', A1, F1, o1⟩
  have y1 := y1.below g1'
  have g1 : Below w.heap.size w w1' := g1.trans (g1'.mono g1.size)
  clear g1'
  go_wp2_with fail
  refine (specInverseRuns_any _ zs mp mp _ n n P A1 _ Z _ HN.out hs (Nat.le_refl _) y1.reads hnn hzl.out o1.reads).mono ?_
  rintro e w2 ⟨a2, c2, AA, CA, FA, rfl, g2, y2⟩
  rw [HQ.out, HM.out]
  rw [HM.out] at y2
  have g : Below w.heap.size w w2 := g1.trans (g2.mono g1.size)
  have h12 := g1.size
  clear g1 g2 y1 o1
  go_wp2_with fail
  have g3 : Below w.heap.size w (w2.alloc (.cells #[.int .i64 q, .slice a2 m c2] 28)) := g.alloc g.size _
  refine (toByteS_any pa zs mp pc _ HN.out hs (ha.below g3 (Nat.le_refl _))).mono ?_
  rintro e w3 ⟨rfl, g4, y3⟩
  have r3 : ResAt w3 w2.heap.size q a2 m c2 := ResAt.below ⟨by simp [go_sem], by simp [go_sem]⟩ g4
  have ya3 : OwnS w.heap.size (w2.heap.size + 1) w3 a2 m P AA CA (ivZ zs P Z) FA := ((y2.below (by go_grown)).below g4).mono (by omega) (by omega)
  have hg2 := g.size
  have g : Below w.heap.size w w3 := g3.trans (g4.mono g3.size)
  have h23 := g4.size
  simp only [World.size_alloc] at y3 h23
  clear g3 g4 y2
  go_wp2_with fail
  refine (toRunS_any ra n rc P A C Z _ HL.out (HR.out.below g (Nat.le_refl _))).mono ?_
  rintro e w3' ⟨rfl, g4, A3, F3, o3⟩
  have r3 := r3.below g4
  have ya3 := ya3.below g4
  have y3 := y3.below g4
  have g : Below w.heap.size w w3' := g.trans (g4.mono g.size)
  have h33 := g4.size
  clear g4
  go_wp2_with fail
  refine (implInverseRuns_any _ zs mp mp _ n n P A3 _ Z _ HN.out hs y3.reads hnn hzl.out o3.reads).mono ?_
  rintro e w4 ⟨b4, d4, AB, CB, FB, rfl, g5, y4⟩
  rw [HQ.out, HM.out]
  rw [HM.out] at y4
  have hS : RrSt w q m P (ivZ zs P Z) w2.heap.size a2 c2 AA CA FA P (ivZ zs P Z) w4.heap.size b4 d4 AB CB FB zs (some ⟨w2.heap.size + 1, 0, none⟩) (some ⟨w3.heap.size, 0, none⟩) n P A3 (fun i => (Z i).length) Z F3 (w2.heap.size + 1) w3.heap.size w3'.heap.size w4.heap.size (w4.alloc (.cells #[.int .i64 q, .slice b4 m d4] 28)) := by
    have h34 := g5.size
    have gg := g.trans (g5.mono g.size)
    exact ⟨(r3.below g5).below (by go_grown), ⟨by simp [go_sem], by simp [go_sem]⟩, (ya3.below g5).below (by go_grown), (y3.below g5).below (by go_grown), (.inr ⟨_, rfl, (o3.below g5).below (by go_grown)⟩), y4.below (by go_grown), by omega, Nat.le_refl _, by simp, by omega, h23, h33, h34, gg.alloc gg.size _⟩
  have hlt : w2.heap.size < w4.heap.size := by have := g5.size; omega
  obtain ⟨x0, x1⟩ := r3.below g5
  clear g5 y3 o3 y4 ya3 r3
  go_wp2_with fail
  refine (eqRunsResult_same q b4 a2 m d4 c2 P AB AA CB CA (ivZ zs P Z) FB FA _ _ _ _ _ HT.out hS.yb hS.ya).mono ?_
  rintro e w5 ⟨rfl, g6⟩
  have hS := hS.step g6
  clear g6 x0 x1 hlt
  go_wp2_with fail
  refine (toByteS_any pa zs mp pc _ HN.out hs (ha.below hS.g (Nat.le_refl _))).mono ?_
  rintro e w6 ⟨rfl, g7, y7⟩
  have hS := hS.step g7
  clear g7
  go_wp2_with fail
  refine (eqByteS_same _ _ _ _ _ _ zs mp mp mp _ HN.out hm hS.yx y7).mono ?_
  rintro e w7 ⟨rfl, k, rfl⟩
  have hS := hS.step (V := w6.drewN k) (below_draws (Below.refl _ _) _)
  clear y7
  generalize w6.drewN k = W7 at hS
  go_wp2_with fail
  refine (toRunS_any ra n rc P A C Z _ HL.out (HR.out.below hS.g (Nat.le_refl _))).mono ?_
  rintro e w6 ⟨rfl, g7, A7, F7, o7⟩
  have hS := hS.step g7
  clear g7
  go_wp2_with fail
  refine (eqRunS_sameS _ _ n n n P A3 A7 _ _ Z F3 F7 _ _ _ _ _ HL.out hS.yr (.inr ⟨_, rfl, o7⟩)).mono ?_
  rintro e w7 ⟨rfl, g8⟩
  have hS := hS.step g8
  clear g8 o7
  go_wp2_with fail
  refine (markByteS_any _ _ _ zs mp mp 1 _ HN.out hm (by omega) (by omega) hS.yx).mono ?_
  rintro e w8 ⟨rfl, t8, y8⟩
  have hS := hS.turnX t8 y8
  clear t8 y8
  go_wp2_with fail
  refine (markRunS_S _ n n _ _ P A3 _ Z F3 (1 + mp) _ HL.out (by omega) (by omega) hS.yr).mono ?_
  rintro e w8 ⟨rfl, t8, y8⟩
  have hS := hS.turnR t8 y8
  clear t8 y8
  obtain ⟨kk, hkk⟩ : ∃ kk, kk = mk Z (1 + mp) n := ⟨_, rfl⟩
  have hpos : ¬ (kk < 0) := by rw [hkk]; unfold mk; omega
  rw [← hkk]
  clear hkk
  have dpos : decide (kk < 0) = false := by simpa using hpos
  obtain ⟨p0, p1⟩ := hS.rb
  obtain ⟨x0, x1⟩ := hS.ra
  go_wp2_with fail
  refine (eqRunsResult_same q b4 a2 m d4 c2 P AB AA CB CA (ivZ zs P Z) FB FA _ _ _ _ _ HT.out hS.yb hS.ya).mono ?_
  rintro e w9 ⟨rfl, g9⟩
  have hS := hS.step g9
  clear g9 p0 p1 x0 x1
  obtain ⟨p0, p1⟩ := hS.rb
  go_wp2_with fail
  refine (markRunsResult_any q b4 m d4 _ _ P AB CB (ivZ zs P Z) FB 1 _ HT.out (by omega) (by omega) hS.yb).mono ?_
  rintro e w10 ⟨rfl, t10, y10⟩
  have hS := hS.turnB t10 y10
  clear t10 y10 p0 p1
  obtain ⟨p0, p1⟩ := hS.rb
  go_wp2_with fail
  refine (heldRunsResult_any q b4 m d4 _ _ AB CB (ivZ zs P Z) FB 1 _ HT.out (by omega) (by omega) hS.yb).mono ?_
  rintro e w11 ⟨rfl, g11⟩
  have hS := hS.step g11
  clear g11 p0 p1
  obtain ⟨kr, hkr⟩ : ∃ kr, kr = mk (ivZ zs P Z) 1 m := ⟨_, rfl⟩
  have hpos2 : ¬ (kr < 0) := by rw [hkr]; unfold mk; omega
  have HKr : Hid (mk (ivZ zs P Z) 1 m = kr) := hkr.symm
  rw [← hkr]
  clear hkr
  go_wp2_with fail
  refine (toByteS_any pa zs mp pc _ HN.out hs (ha.below hS.g (Nat.le_refl _))).mono ?_
  rintro e w12 ⟨rfl, g12, y12⟩
  have hS := hS.step g12
  clear g12
  go_wp2_with fail
  refine (toRunS_any ra n rc P A C Z _ HL.out (HR.out.below hS.g (Nat.le_refl _))).mono ?_
  rintro e w12' ⟨rfl, g12, A12, F12, o12⟩
  have hS := hS.step g12
  have y12 := y12.below g12
  clear g12
  go_wp2_with fail
  refine (implInverseRuns_any _ zs mp mp _ n n P A12 _ Z _ HN.out hs y12.reads hnn hzl.out o12.reads).mono ?_
  rintro e w13 ⟨b13, d13, AC, CC, FC, rfl, g13, y13⟩
  rw [HQ.out, HM.out]
  rw [HM.out] at y13
  have hS := hS.step g13
  clear g13 y12 o12
  obtain ⟨x0, x1⟩ := hS.ra
  have hlt : w2.heap.size < w13.heap.size := World.block_lt_of_cell? w13 _ x0
  go_wp2_with fail
  refine (eqRunsResult_same q b13 a2 m d13 c2 P AC AA CC CA (ivZ zs P Z) FC FA _ _ _ _ _ HT.out (y13.below (by go_grown)) (hS.step (by go_grown)).ya).mono ?_
  rintro e w14 ⟨rfl, g14⟩
  have hS := hS.step (Below.trans (by go_grown) (g14.mono (by simp)))
  clear g14 x0 x1 hlt y13
  obtain ⟨p0, p1⟩ := hS.rb
  go_wp2_with fail
  refine (heldRunsResult_any q b4 m d4 _ _ AB CB (ivZ zs P Z) FB 1 _ HT.out (by omega) (by omega) hS.yb).mono ?_
  rintro e w15 ⟨rfl, g15⟩
  rw [HKr.out]
  have hS := hS.step g15
  clear g15 p0 p1
  go_wp2_with fail
  go_ret
  exact ⟨rfl, hS.g⟩

theorem lawInverseRuns_any (pa : Option Addr) (m pc : Nat) (zs : List Int) (a : Option Addr) (n c : Nat) (P : Nat → Int) (A : Nat → Option Addr) (C : Nat → Nat) (Z : Nat → List Int) (w : World) (h : IsRow .u8 w pa m pc zs) (hR : IsRuns w a n P A C Z) :
    Calls Try.prog 7 #[.slice pa m pc, .slice a n c] w fun e w' => e = .returned (.bool true) ∧ Below w.heap.size w w' := by
  obtain ⟨hn, _, hr, hz⟩ := isRow_reads h
  by_cases hs : 1048576 < m
  · exact lawInverseRuns_over pa m pc a n c w hs
  · exact lawInverseRuns_fits pa (zs.take m) m pc a n c P A C Z w hn (by omega) hr hR

end Go.Proofs.Ytpbfjkknlcdgnaa
