/-
  The law FnExactDiffBytes answers true at all bytes.
-/
import Derived.Test.YtpbfjkknlcdgnaaSdf
namespace Go.Proofs.Ytpbfjkknlcdgnaa
open Go.RowKit
set_option linter.unusedVariables false

/-- Behind the start w: block ba holds the model's answer with m runs at a, block bb the program's with as many at b; xs and ys are the bytes that were handed in, at x and y. -/
structure DqSt (w : World) (q : Int) (m : Nat) (P1 : Nat → Int) (Z1 : Nat → List Int) (ba : Nat) (a : Option Addr) (c : Nat) (A1 : Nat → Option Addr) (C1 F1 : Nat → Nat) (P2 : Nat → Int) (Z2 : Nat → List Int) (bb : Nat) (b : Option Addr) (d : Nat) (A2 : Nat → Option Addr) (C2 F2 : Nat → Nat) (xs ys : List Int) (x y : Option Addr) (l1 l2 l3 l4 : Nat) (W : World) : Prop where
  ra : ResAt W ba q a m c
  rb : ResAt W bb q b m d
  ya : OwnS w.heap.size l1 W a m P1 A1 C1 Z1 F1
  yx : BytesIn l1 l2 W x xs
  yy : BytesIn l2 l3 W y ys
  yb : OwnS l3 l4 W b m P2 A2 C2 Z2 F2
  sa : ba < l1
  sb : l4 ≤ bb
  sw : bb < W.heap.size
  s0 : w.heap.size ≤ l1
  s1 : l1 ≤ l2
  s2 : l2 ≤ l3
  s3 : l3 ≤ l4
  g : Below w.heap.size w W

section
variable {w : World} {q : Int} {m : Nat} {P1 : Nat → Int} {Z1 : Nat → List Int} {ba : Nat} {a : Option Addr} {c : Nat} {A1 : Nat → Option Addr} {C1 F1 : Nat → Nat} {P2 P2' : Nat → Int} {Z2 Z2' : Nat → List Int} {bb : Nat} {b : Option Addr} {d : Nat} {A2 : Nat → Option Addr} {C2 F2 : Nat → Nat} {xs ys zs : List Int} {x y : Option Addr} {l1 l2 l3 l4 : Nat} {W V : World}
theorem DqSt.step (h : DqSt w q m P1 Z1 ba a c A1 C1 F1 P2 Z2 bb b d A2 C2 F2 xs ys x y l1 l2 l3 l4 W) (hb : Below W.heap.size W V) : DqSt w q m P1 Z1 ba a c A1 C1 F1 P2 Z2 bb b d A2 C2 F2 xs ys x y l1 l2 l3 l4 V :=
  ⟨h.ra.below hb, h.rb.below hb, h.ya.below hb, h.yx.below hb, h.yy.below hb, h.yb.below hb, h.sa, h.sb, Nat.lt_of_lt_of_le h.sw hb.size, h.s0, h.s1, h.s2, h.s3, h.g.trans (hb.mono h.g.size)⟩
theorem DqSt.turnX (h : DqSt w q m P1 Z1 ba a c A1 C1 F1 P2 Z2 bb b d A2 C2 F2 xs ys x y l1 l2 l3 l4 W) (ht : Turned l1 l2 W V) (hy : BytesIn l1 l2 V x zs) : DqSt w q m P1 Z1 ba a c A1 C1 F1 P2 Z2 bb b d A2 C2 F2 zs ys x y l1 l2 l3 l4 V :=
  ⟨h.ra.turned ht (.inl h.sa), h.rb.turned ht (.inr (by have := h.sb; have := h.s2; have := h.s3; omega)), h.ya.turned ht (.inl (Nat.le_refl _)), hy, h.yy.turned ht (.inr (Nat.le_refl _)), h.yb.turned ht (.inr h.s2), h.sa, h.sb, Nat.lt_of_lt_of_le h.sw ht.size, h.s0, h.s1, h.s2, h.s3, h.g.trans (ht.toBelow h.g.size h.s0)⟩
theorem DqSt.turnY (h : DqSt w q m P1 Z1 ba a c A1 C1 F1 P2 Z2 bb b d A2 C2 F2 xs ys x y l1 l2 l3 l4 W) (ht : Turned l2 l3 W V) (hy : BytesIn l2 l3 V y zs) : DqSt w q m P1 Z1 ba a c A1 C1 F1 P2 Z2 bb b d A2 C2 F2 xs zs x y l1 l2 l3 l4 V :=
  ⟨h.ra.turned ht (.inl (by have := h.sa; have := h.s1; omega)), h.rb.turned ht (.inr (by have := h.sb; have := h.s3; omega)), h.ya.turned ht (.inl h.s1), h.yx.turned ht (.inl (Nat.le_refl _)), hy, h.yb.turned ht (.inr (Nat.le_refl _)), h.sa, h.sb, Nat.lt_of_lt_of_le h.sw ht.size, h.s0, h.s1, h.s2, h.s3, h.g.trans (ht.toBelow h.g.size (Nat.le_trans h.s0 h.s1))⟩
theorem DqSt.turnB (h : DqSt w q m P1 Z1 ba a c A1 C1 F1 P2 Z2 bb b d A2 C2 F2 xs ys x y l1 l2 l3 l4 W) (ht : Turned l3 l4 W V) (hy : OwnS l3 l4 V b m P2' A2 C2 Z2' F2) : DqSt w q m P1 Z1 ba a c A1 C1 F1 P2' Z2' bb b d A2 C2 F2 xs ys x y l1 l2 l3 l4 V :=
  ⟨h.ra.turned ht (.inl (by have := h.sa; have := h.s1; have := h.s2; omega)), h.rb.turned ht (.inr h.sb), h.ya.turned ht (.inl (Nat.le_trans h.s1 h.s2)), h.yx.turned ht (.inl h.s2), h.yy.turned ht (.inl (Nat.le_refl _)), hy, h.sa, h.sb, Nat.lt_of_lt_of_le h.sw ht.size, h.s0, h.s1, h.s2, h.s3, h.g.trans (ht.toBelow h.g.size (Nat.le_trans h.s0 (Nat.le_trans h.s1 h.s2)))⟩
end

set_option maxHeartbeats 400000 in
theorem lawDiffBytes_over (a : Option Addr) (n c : Nat) (b : Option Addr) (n2 c2 : Nat) (w : World) (hs : 1048576 < n ∨ 1048576 < n2) :
    Calls Try.prog 4 #[.slice a n c, .slice b n2 c2] w fun e w' => e = .returned (.bool true) ∧ Below w.heap.size w w' := by
  by_cases h : 1048576 < n
  · have d : (1048576 : Int) < (n : Int) := by omega
    go_enter Try.func4, Try.ntmps4
    go_wp2_with fail
    go_ret
    exact ⟨rfl, Below.refl _ _⟩
  · have d : ¬ ((1048576 : Int) < (n : Int)) := by omega
    have d2 : (1048576 : Int) < (n2 : Int) := by omega
    go_enter Try.func4, Try.ntmps4
    go_wp2_with fail
    go_ret
    exact ⟨rfl, Below.refl _ _⟩

set_option maxHeartbeats 4000000 in
theorem lawDiffBytes_fits (a : Option Addr) (zs : List Int) (n c : Nat) (b : Option Addr) (cs : List Int) (n2 c2 : Nat) (w : World) (hn : zs.length = n) (hs : n ≤ 1048576) (ha : Reads w a zs) (hz : ∀ z ∈ zs, 0 ≤ z ∧ z ≤ 255)
    (hn2 : cs.length = n2) (hs2 : n2 ≤ 1048576) (hb : Reads w b cs) (hz2 : ∀ z ∈ cs, 0 ≤ z ∧ z ≤ 255) :
    Calls Try.prog 4 #[.slice a n c, .slice b n2 c2] w fun e w' => e = .returned (.bool true) ∧ Below w.heap.size w w' := by
  have hsm := dfN_small zs cs
  obtain ⟨q, hq⟩ : ∃ q, q = dfQ zs cs := ⟨_, rfl⟩
  obtain ⟨m, hml⟩ : ∃ m, m = dfN zs cs := ⟨_, rfl⟩
  obtain ⟨P, hP⟩ : ∃ P, P = spP (dS zs cs 0) := ⟨_, rfl⟩
  obtain ⟨Z, hZ⟩ : ∃ Z, Z = spZ cs (dS zs cs 0) := ⟨_, rfl⟩
  have HQ : Hid (dfQ zs cs = q) := hq.symm
  have HM : Hid (dfN zs cs = m) := hml.symm
  have HPP : Hid (spP (dS zs cs 0) = P) := hP.symm
  have HZZ : Hid (spZ cs (dS zs cs 0) = Z) := hZ.symm
  rw [← hml, ← hZ] at hsm
  have HT : Hid (m + took Z m ≤ 1048576) := by show m + took Z m ≤ 1048576; omega
  have HN : Hid (zs.length = n) := hn
  have HN2 : Hid (cs.length = n2) := hn2
  clear hq hml hn hn2 hP hZ
  have d : ¬ ((1048576 : Int) < (n : Int)) := by omega
  have d2 : ¬ ((1048576 : Int) < (n2 : Int)) := by omega
  have hm : n ≤ 140737488351232 := by omega
  have hmc : n2 ≤ 140737488351232 := by omega
  go_enter Try.func4, Try.ntmps4
  go_wp2_with fail
  refine (toByteS_any a zs n c _ HN.out hs ha).mono ?_
  rintro e w1 ⟨rfl, g1, y1⟩
  go_wp2_with fail
  refine (toByteS_any b cs n2 c2 _ HN2.out hs2 (hb.below g1 (Nat.le_refl _))).mono ?_
  rintro e w1' ⟨rfl, g1', y1'⟩
  have y1 := y1.below g1'
  have g1 : Below w.heap.size w w1' := g1.trans (g1'.mono g1.size)
  clear g1'
  go_wp2_with fail
  refine (specDiffBytes_any _ zs n n _ cs n2 n2 _ HN.out HN2.out hs hs2 y1.reads y1'.reads).mono ?_
  rintro e w2 ⟨a2, c2', AA, CA, FA, rfl, g2, y2⟩
  rw [HQ.out, HM.out]
  rw [HM.out, HPP.out, HZZ.out] at y2
  have g : Below w.heap.size w w2 := g1.trans (g2.mono g1.size)
  have h12 := g1.size
  clear g1 g2 y1 y1'
  go_wp2_with fail
  have g3 : Below w.heap.size w (w2.alloc (.cells #[.int .i64 q, .slice a2 m c2'] 28)) := g.alloc g.size _
  refine (toByteS_any a zs n c _ HN.out hs (ha.below g3 (Nat.le_refl _))).mono ?_
  rintro e w3 ⟨rfl, g4, y3⟩
  have r3 : ResAt w3 w2.heap.size q a2 m c2' := ResAt.below ⟨by simp [go_sem], by simp [go_sem]⟩ g4
  have ya3 : OwnS w.heap.size (w2.heap.size + 1) w3 a2 m P AA CA Z FA := ((y2.below (by go_grown)).below g4).mono (by omega) (by omega)
  have hg2 := g.size
  have g : Below w.heap.size w w3 := g3.trans (g4.mono g3.size)
  have h23 := g4.size
  simp only [World.size_alloc] at y3 h23
  clear g3 g4 y2
  go_wp2_with fail
  refine (toByteS_any b cs n2 c2 _ HN2.out hs2 (hb.below g (Nat.le_refl _))).mono ?_
  rintro e w3' ⟨rfl, g4, y3'⟩
  have r3 := r3.below g4
  have ya3 := ya3.below g4
  have y3 := y3.below g4
  have g : Below w.heap.size w w3' := g.trans (g4.mono g.size)
  have h33 := g4.size
  clear g4
  go_wp2_with fail
  refine (implDiffBytes_any _ zs n n _ cs n2 n2 _ HN.out HN2.out hs hs2 y3.reads y3'.reads hz hz2).mono ?_
  rintro e w4 ⟨b4, d4, AB, CB, FB, rfl, g5, y4⟩
  rw [HQ.out, HM.out]
  rw [HM.out, HPP.out, HZZ.out] at y4
  have hS : DqSt w q m P Z w2.heap.size a2 c2' AA CA FA P Z w4.heap.size b4 d4 AB CB FB zs cs (some ⟨w2.heap.size + 1, 0, none⟩) (some ⟨w3.heap.size, 0, none⟩) (w2.heap.size + 1) w3.heap.size w3'.heap.size w4.heap.size (w4.alloc (.cells #[.int .i64 q, .slice b4 m d4] 28)) := by
    have h34 := g5.size
    have gg := g.trans (g5.mono g.size)
    exact ⟨(r3.below g5).below (by go_grown), ⟨by simp [go_sem], by simp [go_sem]⟩, (ya3.below g5).below (by go_grown), (y3.below g5).below (by go_grown), (y3'.below g5).below (by go_grown), y4.below (by go_grown), by omega, Nat.le_refl _, by simp, by omega, h23, h33, h34, gg.alloc gg.size _⟩
  have hlt : w2.heap.size < w4.heap.size := by have := g5.size; omega
  obtain ⟨x0, x1⟩ := r3.below g5
  clear g5 y3 y3' y4 ya3 r3
  go_wp2_with fail
  refine (eqRunsResult_same q b4 a2 m d4 c2' P AB AA CB CA Z FB FA _ _ _ _ _ HT.out hS.yb hS.ya).mono ?_
  rintro e w5 ⟨rfl, g6⟩
  have hS := hS.step g6
  clear g6 x0 x1 hlt
  go_wp2_with fail
  refine (toByteS_any a zs n c _ HN.out hs (ha.below hS.g (Nat.le_refl _))).mono ?_
  rintro e w6 ⟨rfl, g7, y7⟩
  have hS := hS.step g7
  clear g7
  go_wp2_with fail
  refine (eqByteS_same _ _ _ _ _ _ zs n n n _ HN.out hm hS.yx y7).mono ?_
  rintro e w7 ⟨rfl, k, rfl⟩
  have hS := hS.step (V := w6.drewN k) (below_draws (Below.refl _ _) _)
  clear y7
  generalize w6.drewN k = W7 at hS
  go_wp2_with fail
  refine (toByteS_any b cs n2 c2 _ HN2.out hs2 (hb.below hS.g (Nat.le_refl _))).mono ?_
  rintro e w6 ⟨rfl, g7, y7⟩
  have hS := hS.step g7
  clear g7
  go_wp2_with fail
  refine (eqByteS_same _ _ _ _ _ _ cs n2 n2 n2 _ HN2.out hmc hS.yy y7).mono ?_
  rintro e w7 ⟨rfl, k, rfl⟩
  have hS := hS.step (V := w6.drewN k) (below_draws (Below.refl _ _) _)
  clear y7
  generalize w6.drewN k = W8 at hS
  go_wp2_with fail
  refine (markByteS_any _ _ _ zs n n 1 _ HN.out hm (by omega) (by omega) hS.yx).mono ?_
  rintro e w8 ⟨rfl, t8, y8⟩
  have hS := hS.turnX t8 y8
  clear t8 y8
  go_wp2_with fail
  refine (markByteS_any _ _ _ cs n2 n2 (1 + n) _ HN2.out hmc (by omega) (by omega) hS.yy).mono ?_
  rintro e w8 ⟨rfl, t8, y8⟩
  have hS := hS.turnY t8 y8
  clear t8 y8
  have hpos : ¬ (1 + (n : Int) + (n2 : Int) < 0) := by omega
  have dpos : decide (1 + (n : Int) + (n2 : Int) < 0) = false := by simpa using hpos
  obtain ⟨p0, p1⟩ := hS.rb
  obtain ⟨x0, x1⟩ := hS.ra
  go_wp2_with fail
  refine (eqRunsResult_same q b4 a2 m d4 c2' P AB AA CB CA Z FB FA _ _ _ _ _ HT.out hS.yb hS.ya).mono ?_
  rintro e w9 ⟨rfl, g9⟩
  have hS := hS.step g9
  clear g9 p0 p1 x0 x1
  obtain ⟨p0, p1⟩ := hS.rb
  go_wp2_with fail
  refine (markRunsResult_any q b4 m d4 _ _ P AB CB Z FB 1 _ HT.out (by omega) (by omega) hS.yb).mono ?_
  rintro e w10 ⟨rfl, t10, y10⟩
  have hS := hS.turnB t10 y10
  clear t10 y10 p0 p1
  obtain ⟨p0, p1⟩ := hS.rb
  go_wp2_with fail
  refine (heldRunsResult_any q b4 m d4 _ _ AB CB Z FB 1 _ HT.out (by omega) (by omega) hS.yb).mono ?_
  rintro e w11 ⟨rfl, g11⟩
  have hS := hS.step g11
  clear g11 p0 p1
  obtain ⟨kr, hkr⟩ : ∃ kr, kr = mk Z 1 m := ⟨_, rfl⟩
  have hpos2 : ¬ (kr < 0) := by rw [hkr]; unfold mk; omega
  have HKr : Hid (mk Z 1 m = kr) := hkr.symm
  rw [← hkr]
  clear hkr
  go_wp2_with fail
  refine (toByteS_any a zs n c _ HN.out hs (ha.below hS.g (Nat.le_refl _))).mono ?_
  rintro e w12 ⟨rfl, g12, y12⟩
  have hS := hS.step g12
  clear g12
  go_wp2_with fail
  refine (toByteS_any b cs n2 c2 _ HN2.out hs2 (hb.below hS.g (Nat.le_refl _))).mono ?_
  rintro e w12' ⟨rfl, g12, y12'⟩
  have hS := hS.step g12
  have y12 := y12.below g12
  clear g12
  go_wp2_with fail
  refine (implDiffBytes_any _ zs n n _ cs n2 n2 _ HN.out HN2.out hs hs2 y12.reads y12'.reads hz hz2).mono ?_
  rintro e w13 ⟨b13, d13, AC, CC, FC, rfl, g13, y13⟩
  rw [HQ.out, HM.out]
  rw [HM.out, HPP.out, HZZ.out] at y13
  have hS := hS.step g13
  clear g13 y12 y12'
  obtain ⟨x0, x1⟩ := hS.ra
  have hlt : w2.heap.size < w13.heap.size := World.block_lt_of_cell? w13 _ x0
  go_wp2_with fail
  refine (eqRunsResult_same q b13 a2 m d13 c2' P AC AA CC CA Z FC FA _ _ _ _ _ HT.out (y13.below (by go_grown)) (hS.step (by go_grown)).ya).mono ?_
  rintro e w14 ⟨rfl, g14⟩
  have hS := hS.step (Below.trans (by go_grown) (g14.mono (by simp)))
  clear g14 x0 x1 hlt y13
  obtain ⟨p0, p1⟩ := hS.rb
  go_wp2_with fail
  refine (heldRunsResult_any q b4 m d4 _ _ AB CB Z FB 1 _ HT.out (by omega) (by omega) hS.yb).mono ?_
  rintro e w15 ⟨rfl, g15⟩
  rw [HKr.out]
  have hS := hS.step g15
  clear g15 p0 p1
  go_wp2_with fail
  go_ret
  exact ⟨rfl, hS.g⟩

theorem lawDiffBytes_any (a : Option Addr) (n c : Nat) (zs : List Int) (b : Option Addr) (n2 c2 : Nat) (cs : List Int) (w : World) (h : IsRow .u8 w a n c zs) (h2 : IsRow .u8 w b n2 c2 cs) :
    Calls Try.prog 4 #[.slice a n c, .slice b n2 c2] w fun e w' => e = .returned (.bool true) ∧ Below w.heap.size w w' := by
  obtain ⟨hn, _, hr, hz⟩ := isRow_reads h
  obtain ⟨hn2, _, hr2, hz2⟩ := isRow_reads h2
  by_cases hs : 1048576 < n ∨ 1048576 < n2
  · exact lawDiffBytes_over a n c b n2 c2 w hs
  · exact lawDiffBytes_fits a (zs.take n) n c b (cs.take n2) n2 c2 w hn (by omega) hr hz hn2 (by omega) hr2 hz2

end Go.Proofs.Ytpbfjkknlcdgnaa
