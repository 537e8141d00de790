/-
  The law FnExactPackAll answers true at all records.
-/
import Derived.Test.YtcjkjenebnodbaaSpa
import Derived.Test.YtcjkjenebnodbaaTor
namespace Go.Proofs.Ytcjkjenebnodbaa
open Go.RowKit
set_option linter.unusedVariables false

theorem OwnS.reads {lo hi : Nat} {w : World} {a : Option Addr} {n : Nat} {P : Nat → Int} {A : Nat → Option Addr} {C : Nat → Nat} {Z : Nat → List Int} {F : Nat → Nat} (h : OwnS lo hi w a n P A C Z F) : RunsRead w a n P A C Z := by
  rcases h with h | ⟨b, rfl, ho⟩
  · exact .inl h
  · exact ho.reads
theorem OwnR.reads {lo hi b n : Nat} {w : World} {R : Nat → Rc} {D : Nat → Ad} (h : OwnR lo hi w b n R D) : RecsRead w (some ⟨b, 0, none⟩) n R D :=
  .inr ⟨b, 0, rfl, fun i hi => ⟨by rw [Nat.zero_add]; exact h.c0 i hi, by rw [Nat.zero_add]; exact h.c1 i hi, by rw [Nat.zero_add]; exact h.c2 i hi, by rw [Nat.zero_add]; exact h.c3 i hi, OwnS.reads (h.rn i hi)⟩⟩

/-- What the law carries. -/
structure PzS (w : World) (q : Int) (us : List Int) (u : Nat) (a3 : Option Addr) (d3 : Nat) (xb : Option Addr) (n : Nat) (R : Nat → Rc) (D : Nat → Ad) (us5 : List Int) (a5 : Option Addr) (d5 : Nat) (l1 l2 l3 l4 : Nat) (V : World) : Prop where
  y3 : BytesIn w.heap.size l1 V a3 us
  r3 : ResAt V l1 q a3 u d3
  yx : OwnRS l2 l3 V xb n R D
  y5 : BytesIn l3 l4 V a5 us5
  r5 : ResAt V l4 q a5 u d5
  s0 : w.heap.size ≤ l1
  s1 : l1 < l2
  s2 : l2 ≤ l3
  s3 : l3 ≤ l4
  gb : Below w.heap.size w V
section
variable {w : World} {q : Int} {us : List Int} {u : Nat} {a3 : Option Addr} {d3 : Nat} {xb : Option Addr} {n : Nat} {R R' : Nat → Rc} {D : Nat → Ad} {us5 us5' : List Int} {a5 : Option Addr} {d5 : Nat} {l1 l2 l3 l4 : Nat} {V W : World}
theorem PzS.up (h : PzS w q us u a3 d3 xb n R D us5 a5 d5 l1 l2 l3 l4 V) (hb : Below V.heap.size V W) : PzS w q us u a3 d3 xb n R D us5 a5 d5 l1 l2 l3 l4 W :=
  ⟨h.y3.below hb, h.r3.below hb, h.yx.below hb, h.y5.below hb, h.r5.below hb, h.s0, h.s1, h.s2, h.s3, h.gb.trans (hb.mono h.gb.size)⟩
theorem PzS.markX (h : PzS w q us u a3 d3 xb n R D us5 a5 d5 l1 l2 l3 l4 V) (ht : Turned l2 l3 V W) (hy : OwnRS l2 l3 W xb n R' D) : PzS w q us u a3 d3 xb n R' D us5 a5 d5 l1 l2 l3 l4 W := by
  have := h.s0; have := h.s1; have := h.s2; have := h.s3
  exact ⟨h.y3.turned ht (.inl (by omega)), h.r3.turned ht (.inl (by omega)), hy, h.y5.turned ht (.inr (by omega)), h.r5.turned ht (.inr (by omega)), h.s0, h.s1, h.s2, h.s3, h.gb.trans (ht.toBelow h.gb.size (by omega))⟩
theorem PzS.markB (h : PzS w q us u a3 d3 xb n R D us5 a5 d5 l1 l2 l3 l4 V) (ht : Turned l3 l4 V W) (hy : BytesIn l3 l4 W a5 us5') : PzS w q us u a3 d3 xb n R D us5' a5 d5 l1 l2 l3 l4 W := by
  have := h.s0; have := h.s1; have := h.s2; have := h.s3
  exact ⟨h.y3.turned ht (.inl (by omega)), h.r3.turned ht (.inl (by omega)), h.yx.turned ht (.inl (by omega)), hy, h.r5.turned ht (.inr (by omega)), h.s0, h.s1, h.s2, h.s3, h.gb.trans (ht.toBelow h.gb.size (by omega))⟩
end

set_option maxHeartbeats 4000000 in
theorem lawPackAll_any (a : Option Addr) (n c : Nat) (R : Nat → Rc) (D : Nat → Ad) (w : World) (hi : IsRecs w a n R D) :
    Calls Try.prog 14 #[.slice a n c] w fun e w' => e = .returned (.bool true) ∧ Below w.heap.size w w' := by
  have HIr : Hid (IsRecs w a n R D) := hi
  have HZb : Hid (∀ i, i < n → ∀ j, j < (R i).n → ∀ z ∈ (R i).Z j, 0 ≤ z ∧ z ≤ 255) := fun i hi' => (hi.ir i hi').zb
  obtain ⟨us, hus⟩ : ∃ us, us = paA R n := ⟨_, rfl⟩
  obtain ⟨q, hq⟩ : ∃ q, q = paQ R n := ⟨_, rfl⟩
  obtain ⟨u, hu⟩ : ∃ u, us.length = u := ⟨_, rfl⟩
  have hul : u ≤ 16000 := by
    rw [← hu, hus]
    unfold paA
    split
    · rename_i h
      unfold paQ at h
      split at h
      · split at h
        · omega
        · omega
      · rename_i h2; exact absurd h h2
    · exact Nat.zero_le _
  have HU : Hid (us.length = u) := hu
  have HSp : Hid (n + szR R n ≤ 1048576 → ∀ X b lo hi D', OwnR lo hi X b n R D' → Calls Try.prog 18 #[.slice (some ⟨b, 0, none⟩) n n] X fun e w' => ∃ a c, e = .returned (.agg #[.int .i64 q, .slice a u c]) ∧ Below X.heap.size X w' ∧ BytesIn X.heap.size w'.heap.size w' a us) := fun hl X b lo hi D' ho => by
    refine (specPackAll_any _ n n R D' X hl HZb ho.reads).mono ?_
    rintro e w' ⟨a, c, h1, h2, h3, _⟩
    rw [← hq, ← hus, hu] at h1
    rw [← hus] at h3
    exact ⟨a, c, h1, h2, h3⟩
  have HI : Hid (n + szR R n ≤ 1048576 → ∀ X b lo hi D', OwnR lo hi X b n R D' → Calls Try.prog 17 #[.slice (some ⟨b, 0, none⟩) n n] X fun e w' => ∃ a c, e = .returned (.agg #[.int .i64 q, .slice a u c]) ∧ Below X.heap.size X w' ∧ BytesIn X.heap.size w'.heap.size w' a us) := fun hl X b lo hi D' ho => by
    refine (implPackAll_any _ n n R D' X hl HZb ho.reads).mono ?_
    rintro e w' ⟨a, c, h1, h2, h3, _⟩
    rw [← hq, ← hus, hu] at h1
    rw [← hus] at h3
    exact ⟨a, c, h1, h2, h3⟩
  have HT : Hid (n + szR R n ≤ 1048576 → ∀ X, Below w.heap.size w X → Calls Try.prog 51 #[.slice a n c] X fun e w' => e = .returned (.slice (some ⟨X.heap.size, 0, none⟩) n n) ∧ Below X.heap.size X w' ∧ ∃ D', OwnR X.heap.size w'.heap.size w' X.heap.size n R D') := fun hl X g => toRecordS_any a n c R D X hl (HIr.out.rd.below g (Nat.le_refl _))
  have HRs : n + szR R n ≤ 1048576 → Hid (∀ i, i < n → (R i).n + took (R i).Z (R i).n ≤ 1048576) := fun hl i hi => by have := szR_one R i n hi; omega
  clear hus hq hu hi
  go_enter Try.func14, Try.ntmps14
  go_wp2_with fail
  refine (szRecordS_any a n c R D 1048576 _ (by omega) (by omega) HIr.out).mono ?_
  rintro e w0 ⟨⟨r, rfl, hl⟩, g0⟩
  rcases hl with hl | ⟨h0, hl⟩
  · subst hl
    go_wp2_with fail
    go_ret
    exact ⟨rfl, g0⟩
  have hl1 : n + szR R n ≤ 1048576 := by omega
  have hn1 : n ≤ 1048576 := by omega
  have hRs := HRs hl1
  have htk : tookR R n ≤ 8000000 := by rw [tookR_sz]; omega
  have h0' : ¬ (r < 0) := by omega
  have hu2 : u ≤ 140737488351232 := by omega
  have hmk : ¬ (rmk R 1 n < 0) := by unfold rmk; omega
  have dmk : decide (rmk R 1 n < 0) = false := by simpa using hmk
  clear hl HRs
  go_wp2_with fail
  refine (HT.out hl1 _ g0).mono ?_
  rintro e w1 ⟨rfl, g1, D1, o1⟩
  go_wp2_with fail
  refine (HSp.out hl1 _ _ _ _ _ o1).mono ?_
  rintro e w2 ⟨a3, d3, rfl, g2, y3⟩
  have gA : Below w.heap.size w w2 := (g0.trans (g1.mono g0.size)).trans (g2.mono (g0.trans (g1.mono g0.size)).size)
  have y3 := y3.mono (lo' := w.heap.size) (g0.trans (g1.mono g0.size)).size (Nat.le_refl _)
  clear g1 g2 o1 g0
  go_upto_region 6 with (fail)
  generalize hY : World.alloc w2 _ = Y2
  have gY : Below w2.heap.size w2 Y2 := by rw [← hY]; go_grown
  have r3 : ResAt Y2 w2.heap.size q a3 u d3 := by rw [← hY]; exact ⟨by simp [go_sem], by simp [go_sem]⟩
  have y3 := y3.below gY
  have hs0 := gA.size
  have gA := gA.trans (gY.mono gA.size)
  have hs1 : w2.heap.size < Y2.heap.size := World.block_lt_of_cell? Y2 _ r3.c0
  clear hY gY
  generalize w2.heap.size = l1 at y3 r3 hs0 hs1 ⊢
  go_wp2_with fail
  refine (HT.out hl1 _ gA).mono ?_
  rintro e w3 ⟨rfl, g3, DX, yx⟩
  have y3 := y3.below g3
  have r3 := r3.below g3
  have hs2 := g3.size
  have gA := gA.trans (g3.mono gA.size)
  clear g3
  generalize Y2.heap.size = l2 at yx hs1 hs2 ⊢
  go_wp2_with fail
  refine (HI.out hl1 _ _ _ _ _ yx).mono ?_
  rintro e w4 ⟨a5, d5, rfl, g4, y5⟩
  have y3 := y3.below g4
  have r3 := r3.below g4
  have yx := yx.below g4
  have hs3 := g4.size
  have gA := gA.trans (g4.mono gA.size)
  clear g4
  generalize w3.heap.size = l3 at yx y5 hs2 hs3
  go_upto_region 8 with (fail)
  generalize hY : World.alloc w4 _ = Y4
  have gY : Below w4.heap.size w4 Y4 := by rw [← hY]; go_grown
  have hH : PzS w q us u a3 d3 (some ⟨l2, 0, none⟩) n R DX us a5 d5 l1 l2 l3 w4.heap.size Y4 :=
    ⟨y3.below gY, r3.below gY, .inr ⟨l2, rfl, yx.below gY⟩, y5.below gY, by rw [← hY]; exact ⟨by simp [go_sem], by simp [go_sem]⟩, hs0, hs1, hs2, hs3, gA.trans (gY.mono gA.size)⟩
  clear hY gY y3 r3 yx y5 gA hs0 hs1 hs2 hs3
  generalize w4.heap.size = l4 at hH ⊢
  obtain ⟨x0, x1⟩ := hH.r3
  obtain ⟨y0, y1⟩ := hH.r5
  go_wp2_with fail
  refine (eqBytesResult_same q a5 a3 _ _ _ _ us u d5 d3 _ HU.out hu2 hH.y5 hH.y3).mono ?_
  rintro e w5 ⟨rfl, g5⟩
  have hH := hH.up g5
  clear g5 x0 x1 y0 y1
  go_wp2_with fail
  refine (HT.out hl1 _ hH.gb).mono ?_
  rintro e w6 ⟨rfl, g6, D6, y6⟩
  have hH := hH.up g6
  clear g6
  go_wp2_with fail
  refine (eqRecordS_same _ _ n n n R DX D6 _ _ _ _ _ hn1 hRs hH.yx (.inr ⟨_, rfl, y6⟩)).mono ?_
  rintro e w7 ⟨rfl, g7⟩
  have hH := hH.up g7
  clear g7 y6
  go_wp2_with fail
  refine (markRecordS_S _ n n l2 l3 R DX 1 _ htk hn1 hRs (by omega) (by omega) hH.yx).mono ?_
  rintro e w8 ⟨rfl, t8, y8⟩
  have hyx' := y8
  have hH := hH.markX t8 hyx'
  clear t8 y8 hyx'
  obtain ⟨x0, x1⟩ := hH.r3
  obtain ⟨y0, y1⟩ := hH.r5
  go_wp2_with fail
  refine (eqBytesResult_same q a5 a3 _ _ _ _ us u d5 d3 _ HU.out hu2 hH.y5 hH.y3).mono ?_
  rintro e w9 ⟨rfl, g9⟩
  have hH := hH.up g9
  clear g9 x0 x1 y0 y1
  obtain ⟨y0, y1⟩ := hH.r5
  go_wp2_with fail
  refine (markBytesResult_any q a5 _ _ us u d5 1 _ HU.out hu2 (by omega) (by omega) hH.y5).mono ?_
  rintro e w10 ⟨rfl, t10, y10⟩
  have hH := hH.markB t10 y10
  clear t10 y10 y0 y1
  have hpos : ¬ (1 + (u : Int) < 0) := by omega
  obtain ⟨y0, y1⟩ := hH.r5
  go_wp2_with fail
  refine (heldBytesResult_any q a5 _ _ us u d5 1 _ HU.out hu2 (by omega) (by omega) hH.y5).mono ?_
  rintro e w11 ⟨rfl, g11⟩
  have hH := hH.up g11
  clear g11 y0 y1
  go_wp2_with fail
  refine (HT.out hl1 _ hH.gb).mono ?_
  rintro e w12 ⟨rfl, g12, D12, y12⟩
  have hH := hH.up g12
  clear g12
  go_wp2_with fail
  refine (HI.out hl1 _ _ _ _ _ y12).mono ?_
  rintro e w13 ⟨a13, d13, rfl, g13, y13⟩
  have hH := hH.up g13
  clear g13 y12
  obtain ⟨x0, x1⟩ := hH.r3
  have hlt : l1 < w13.heap.size := World.block_lt_of_cell? w13 _ x0
  go_wp2_with fail
  refine (eqBytesResult_same q a13 a3 _ _ _ _ us u d13 d3 _ HU.out hu2 (y13.below (by go_grown)) (hH.up (by go_grown)).y3).mono ?_
  rintro e w14 ⟨rfl, g14⟩
  have hH := hH.up (Below.trans (by go_grown) (g14.mono (by simp)))
  clear g14 x0 x1 hlt y13
  obtain ⟨y0, y1⟩ := hH.r5
  go_wp2_with fail
  refine (heldBytesResult_any q a5 _ _ us u d5 1 _ HU.out hu2 (by omega) (by omega) hH.y5).mono ?_
  rintro e w15 ⟨rfl, g15⟩
  have hH := hH.up g15
  clear g15 y0 y1
  have gE := hH.gb
  clear hH
  go_wp2_with fail
  go_ret
  exact ⟨rfl, gE⟩

end Go.Proofs.Ytcjkjenebnodbaa
