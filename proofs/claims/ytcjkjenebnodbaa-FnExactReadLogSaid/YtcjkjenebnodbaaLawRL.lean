/-
  The law FnExactReadLog answers true at all bytes.
-/
import Derived.Test.YtcjkjenebnodbaaSrl
namespace Go.Proofs.Ytcjkjenebnodbaa
open Go.RowKit
set_option linter.unusedVariables false

/-- Block b holds the three cells of a RecordsResult. -/
structure R3 (V : World) (b : Nat) (q u : Int) (a : Option Addr) (n c : Nat) : Prop where
  c0 : V.cell? ⟨b, 0, none⟩ = some (.int .i64 q)
  c1 : V.cell? ⟨b, 1, none⟩ = some (.int .i64 u)
  c2 : V.cell? ⟨b, 2, none⟩ = some (.slice a n c)
theorem R3.turned {lo hi b : Nat} {V W : World} {q u : Int} {a : Option Addr} {n c : Nat} (h : R3 V b q u a n c) (ht : Turned lo hi V W) (hn : b < lo ∨ hi ≤ b) : R3 W b q u a n c :=
  ⟨ht.cell h.c0 (by simp only; omega), ht.cell h.c1 (by simp only; omega), ht.cell h.c2 (by simp only; omega)⟩
theorem R3.up {b : Nat} {V W : World} {q u : Int} {a : Option Addr} {n c : Nat} (h : R3 V b q u a n c) (hb : Below V.heap.size V W) : R3 W b q u a n c :=
  ⟨cellUp hb h.c0, cellUp hb h.c1, cellUp hb h.c2⟩

/-- What the law carries. -/
structure RmS (w : World) (q u : Int) (n : Nat) (R : Nat → Rc) (a3 : Option Addr) (d3 : Nat) (D3 : Nat → Ad) (x : Option Addr) (xs : List Int) (R5 : Nat → Rc) (a5 : Option Addr) (d5 : Nat) (D5 : Nat → Ad) (l1 l2 l3 l4 : Nat) (V : World) : Prop where
  y3 : OwnRS w.heap.size l1 V a3 n R D3
  r3 : R3 V l1 q u a3 n d3
  yx : BytesIn l2 l3 V x xs
  y5 : OwnRS l3 l4 V a5 n R5 D5
  r5 : R3 V l4 q u a5 n d5
  s0 : w.heap.size ≤ l1
  s1 : l1 < l2
  s2 : l2 ≤ l3
  s3 : l3 ≤ l4
  gb : Below w.heap.size w V

section
variable {w : World} {q u : Int} {n : Nat} {R : Nat → Rc} {a3 : Option Addr} {d3 : Nat} {D3 : Nat → Ad} {x : Option Addr} {xs xs' : List Int} {R5 R5' : Nat → Rc} {a5 : Option Addr} {d5 : Nat} {D5 : Nat → Ad} {l1 l2 l3 l4 : Nat} {V W : World}
theorem RmS.up (h : RmS w q u n R a3 d3 D3 x xs R5 a5 d5 D5 l1 l2 l3 l4 V) (hb : Below V.heap.size V W) : RmS w q u n R a3 d3 D3 x xs R5 a5 d5 D5 l1 l2 l3 l4 W :=
  ⟨h.y3.below hb, h.r3.up hb, h.yx.below hb, h.y5.below hb, h.r5.up hb, h.s0, h.s1, h.s2, h.s3, h.gb.trans (hb.mono h.gb.size)⟩
theorem RmS.markX (h : RmS w q u n R a3 d3 D3 x xs R5 a5 d5 D5 l1 l2 l3 l4 V) (ht : Turned l2 l3 V W) (hy : BytesIn l2 l3 W x xs') : RmS w q u n R a3 d3 D3 x xs' R5 a5 d5 D5 l1 l2 l3 l4 W := by
  have := h.s0; have := h.s1; have := h.s2; have := h.s3
  exact ⟨h.y3.turned ht (.inl (by omega)), h.r3.turned ht (.inl (by omega)), hy, h.y5.turned ht (.inr (by omega)), h.r5.turned ht (.inr (by omega)), h.s0, h.s1, h.s2, h.s3, h.gb.trans (ht.toBelow h.gb.size (by omega))⟩
theorem RmS.markB (h : RmS w q u n R a3 d3 D3 x xs R5 a5 d5 D5 l1 l2 l3 l4 V) (ht : Turned l3 l4 V W) (hy : OwnRS l3 l4 W a5 n R5' D5) : RmS w q u n R a3 d3 D3 x xs R5' a5 d5 D5 l1 l2 l3 l4 W := by
  have := h.s0; have := h.s1; have := h.s2; have := h.s3
  exact ⟨h.y3.turned ht (.inl (by omega)), h.r3.turned ht (.inl (by omega)), h.yx.turned ht (.inl (by omega)), hy, h.r5.turned ht (.inr (by omega)), h.s0, h.s1, h.s2, h.s3, h.gb.trans (ht.toBelow h.gb.size (by omega))⟩
end

theorem lawReadLog_over (a : Option Addr) (n c : Nat) (w : World) (hs : 1048576 < n) :
    Calls Try.prog 13 #[.slice a n c] w fun e w' => e = .returned (.bool true) ∧ Below w.heap.size w w' := by
  have d : (1048576 : Int) < (n : Int) := by omega
  go_enter Try.func13, Try.ntmps13
  go_wp2_with fail
  go_ret
  exact ⟨rfl, Below.refl _ _⟩

set_option maxHeartbeats 4000000 in
theorem lawReadLog_fits (a : Option Addr) (zs : List Int) (c : Nat) (w : World) (hs : zs.length ≤ 1048576) (ha : Reads w a zs) (hz : ∀ z ∈ zs, 0 ≤ z ∧ z ≤ 255) :
    Calls Try.prog 13 #[.slice a zs.length c] w fun e w' => e = .returned (.bool true) ∧ Below w.heap.size w w' := by
  obtain ⟨hsn, hst⟩ := rlN_small zs
  have HRs : Hid (∀ i, i < rlN zs → (lgR zs i).n + took (lgR zs i).Z (lgR zs i).n ≤ 1048576) := fun i _ => lgR_small zs i
  have HI : Hid (∀ (X : World) (x : Option Addr), Reads X x zs → Calls Try.prog 19 #[.slice x zs.length zs.length] X fun e w' => RlPost X zs e w') := fun X x h => implReadLog_any zs x zs.length X hs (Nat.le_refl _) (by omega) h hz
  have HSp : Hid (∀ (X : World) (x : Option Addr), Reads X x zs → Calls Try.prog 29 #[.slice x zs.length zs.length] X fun e w' => RlPost X zs e w') := fun X x h => specReadLog_any zs x zs.length X hs (Nat.le_refl _) (by omega) h hz
  have HT : Hid (∀ (X : World), Below w.heap.size w X → Calls Try.prog 42 #[.slice a zs.length c] X fun e w' => e = .returned (.slice (some ⟨X.heap.size, 0, none⟩) zs.length zs.length) ∧ Below X.heap.size X w' ∧ BytesIn X.heap.size w'.heap.size w' (some ⟨X.heap.size, 0, none⟩) zs) := fun X gX => toByteS_any a zs zs.length c X rfl hs (ha.below gX (Nat.le_refl _))
  have d : ¬ ((1048576 : Int) < (zs.length : Int)) := by omega
  have hm : zs.length ≤ 140737488351232 := by omega
  have HPo : Hid (∀ X e w', RlPost X zs e w' → ∃ a c D, e = .returned (.agg #[.int .i64 (rlQ zs), .int .i64 (rlU zs), .slice a (rlN zs) c]) ∧ Below X.heap.size X w' ∧ OwnRS X.heap.size w'.heap.size w' a (rlN zs) (lgR zs) D) := fun X e w' h => by
    obtain ⟨a, c, D, h1, h2, h3, _⟩ := h
    exact ⟨a, c, D, h1, h2, h3⟩
  generalize rlQ zs = q at HPo
  generalize (rlU zs : Int) = u at HPo
  generalize rlN zs = n at HPo hsn hst HRs
  generalize lgR zs = R at HPo hst HRs
  have hmk : ¬ (rmk R 1 n < 0) := by unfold rmk; omega
  clear ha hz
  have g0 : Below w.heap.size w w := Below.refl _ _
  go_enter Try.func13, Try.ntmps13
  go_wp2_with fail
  refine (HT.out _ g0).mono ?_
  rintro e w1 ⟨rfl, g1, y1⟩
  go_wp2_with fail
  refine (HSp.out _ _ y1.reads).mono ?_
  intro e w2 hp
  obtain ⟨a3, d3, D3, rfl, g2, y3⟩ := HPo.out _ _ _ hp
  have gA : Below w.heap.size w w2 := g1.trans (g2.mono g1.size)
  have y3 := y3.mono (lo' := w.heap.size) g1.size (Nat.le_refl _)
  clear hp g1 g2 y1 g0
  go_upto_region 4 with (fail)
  generalize hY : World.alloc w2 _ = Y2
  have gY : Below w2.heap.size w2 Y2 := by rw [← hY]; go_grown
  have r3 : R3 Y2 w2.heap.size q u a3 n d3 := by rw [← hY]; exact ⟨by simp [go_sem], by simp [go_sem], by simp [go_sem]⟩
  have y3 := y3.below gY
  have hs0 := gA.size
  have gA := gA.trans (gY.mono gA.size)
  have hs1 : w2.heap.size < Y2.heap.size := World.block_lt_of_cell? Y2 _ r3.c0
  clear hY gY
  generalize w2.heap.size = l1 at y3 r3 hs0 hs1 ⊢
  go_wp2_with fail
  refine (HT.out _ gA).mono ?_
  rintro e w3 ⟨rfl, g3, yx⟩
  have y3 := y3.below g3
  have r3 := r3.up g3
  have hs2 := g3.size
  have gA := gA.trans (g3.mono gA.size)
  clear g3
  generalize Y2.heap.size = l2 at yx hs1 hs2 ⊢
  go_wp2_with fail
  refine (HI.out _ _ yx.reads).mono ?_
  intro e w4 hp
  obtain ⟨a5, d5, D5, rfl, g4, y5⟩ := HPo.out _ _ _ hp
  have y3 := y3.below g4
  have r3 := r3.up g4
  have yx := yx.below g4
  have hs3 := g4.size
  have gA := gA.trans (g4.mono gA.size)
  clear g4 hp
  generalize w3.heap.size = l3 at yx y5 hs2 hs3
  go_upto_region 6 with (fail)
  generalize hY : World.alloc w4 _ = Y4
  have gY : Below w4.heap.size w4 Y4 := by rw [← hY]; go_grown
  have hH : RmS w q u n R a3 d3 D3 (some ⟨l2, 0, none⟩) zs R a5 d5 D5 l1 l2 l3 w4.heap.size Y4 :=
    ⟨y3.below gY, r3.up gY, yx.below gY, y5.below gY, by rw [← hY]; exact ⟨by simp [go_sem], by simp [go_sem], by simp [go_sem]⟩, hs0, hs1, hs2, hs3, gA.trans (gY.mono gA.size)⟩
  clear hY gY y3 r3 yx y5 gA hs0 hs1 hs2 hs3
  generalize w4.heap.size = l4 at hH ⊢
  obtain ⟨x0, x1, x2⟩ := hH.r3
  obtain ⟨y0, y1, y2⟩ := hH.r5
  go_wp2_with fail
  refine (eqRecordsResult_same q u a5 a3 n d5 d3 R D5 D3 _ _ _ _ _ hsn HRs.out hH.y5 hH.y3).mono ?_
  rintro e w5 ⟨rfl, g5⟩
  have hH := hH.up g5
  clear g5 x0 x1 x2 y0 y1 y2
  go_wp2_with fail
  refine (HT.out _ hH.gb).mono ?_
  rintro e w6 ⟨rfl, g6, y6⟩
  have hH := hH.up g6
  clear g6
  go_wp2_with fail
  refine (eqByteS_same _ _ _ _ _ _ zs zs.length zs.length zs.length _ rfl hm hH.yx y6).mono ?_
  rintro e w7 ⟨rfl, k7, rfl⟩
  have hH := hH.up (W := w6.drewN k7) (below_draws (Below.refl _ _) _)
  clear y6
  generalize w6.drewN k7 = W7 at hH
  go_wp2_with fail
  refine (markByteS_any _ _ _ zs zs.length zs.length 1 _ rfl hm (by omega) (by omega) hH.yx).mono ?_
  rintro e w8 ⟨rfl, t8, y8⟩
  have hH := hH.markX t8 y8
  clear t8 y8
  have hpos : ¬ (1 + (zs.length : Int) < 0) := by omega
  have dpos : decide (1 + (zs.length : Int) < 0) = false := by simpa using hpos
  obtain ⟨x0, x1, x2⟩ := hH.r3
  obtain ⟨y0, y1, y2⟩ := hH.r5
  go_wp2_with fail
  refine (eqRecordsResult_same q u a5 a3 n d5 d3 R D5 D3 _ _ _ _ _ hsn HRs.out hH.y5 hH.y3).mono ?_
  rintro e w9 ⟨rfl, g9⟩
  have hH := hH.up g9
  clear g9 x0 x1 x2 y0 y1 y2
  obtain ⟨y0, y1, y2⟩ := hH.r5
  go_wp2_with fail
  refine (markRecordsResult_any q u a5 n d5 _ _ R D5 1 _ hst hsn HRs.out (by omega) (by omega) hH.y5).mono ?_
  rintro e w10 ⟨rfl, t10, y10⟩
  have hH := hH.markB t10 y10
  clear t10 y10 y0 y1 y2
  obtain ⟨y0, y1, y2⟩ := hH.r5
  go_wp2_with fail
  refine (heldRecordsResult_any q u a5 n d5 _ _ R D5 1 _ hst hsn HRs.out (by omega) (by omega) hH.y5).mono ?_
  rintro e w11 ⟨rfl, g11⟩
  have hH := hH.up g11
  clear g11 y0 y1 y2
  go_wp2_with fail
  refine (HT.out _ hH.gb).mono ?_
  rintro e w12 ⟨rfl, g12, y12⟩
  have hH := hH.up g12
  clear g12
  go_wp2_with fail
  refine (HI.out _ _ y12.reads).mono ?_
  intro e w13 hp
  obtain ⟨a13, d13, D13, rfl, g13, y13⟩ := HPo.out _ _ _ hp
  have hH := hH.up g13
  clear g13 y12 hp
  obtain ⟨x0, x1, x2⟩ := hH.r3
  have hlt : l1 < w13.heap.size := World.block_lt_of_cell? w13 _ x0
  go_wp2_with fail
  refine (eqRecordsResult_same q u a13 a3 n d13 d3 R D13 D3 _ _ _ _ _ hsn HRs.out (y13.below (by go_grown)) (hH.up (by go_grown)).y3).mono ?_
  rintro e w14 ⟨rfl, g14⟩
  have hH := hH.up (Below.trans (by go_grown) (g14.mono (by simp)))
  clear g14 x0 x1 x2 hlt y13
  obtain ⟨y0, y1, y2⟩ := hH.r5
  go_wp2_with fail
  refine (heldRecordsResult_any q u a5 n d5 _ _ R D5 1 _ hst hsn HRs.out (by omega) (by omega) hH.y5).mono ?_
  rintro e w15 ⟨rfl, g15⟩
  have hH := hH.up g15
  clear g15 y0 y1 y2
  have gE := hH.gb
  clear hH
  go_wp2_with fail
  go_ret
  exact ⟨rfl, gE⟩

theorem lawReadLog_any (a : Option Addr) (n c : Nat) (zs : List Int) (w : World) (h : IsRow .u8 w a n c zs) :
    Calls Try.prog 13 #[.slice a n c] w fun e w' => e = .returned (.bool true) ∧ Below w.heap.size w w' := by
  obtain ⟨hn, _, hr, hz⟩ := isRow_reads h
  by_cases hs : 1048576 < n
  · exact lawReadLog_over a n c w hs
  · have := lawReadLog_fits a (zs.take n) c w (by omega) hr hz
    rw [hn] at this
    exact this

end Go.Proofs.Ytcjkjenebnodbaa
