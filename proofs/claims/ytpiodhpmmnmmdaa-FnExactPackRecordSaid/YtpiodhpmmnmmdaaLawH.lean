/-
  The law FnExactPackRecord answers true at all records.
-/
import Derived.Test.YtpiodhpmmnmmdaaPrc
namespace Go.Proofs.Ytpiodhpmmnmmdaa
open Go.RowKit
set_option linter.unusedVariables false

/-- What the law carries. -/
structure PkS (w : World) (k tx pg q : Int) (a : Option Addr) (n c b m : Nat) (us vs : List Int) (P : Nat → Int) (Z : Nat → List Int) (A : Nat → Option Addr) (C : Nat → Nat) (F : Nat → Nat) (a4 : Option Addr) (d4 : Nat) (a6 : Option Addr) (d6 : Nat) (l1 l2 l3 l4 l5 : Nat) (V : World) : Prop where
  r0 : RcAt V w.heap.size k tx pg a n c
  y4 : BytesIn (w.heap.size + 1) l1 V a4 us
  r4 : ResAt V l1 q a4 m d4
  o : Own l2 l3 V b n P A C Z F
  r5 : RcAt V l3 k tx pg (some ⟨b, 0, none⟩) n n
  y6 : BytesIn l4 l5 V a6 vs
  r6 : ResAt V l5 q a6 m d6
  s0 : w.heap.size < l1
  s1 : l1 < l2
  s2 : l2 ≤ l3
  s3 : l3 < l4
  s4 : l4 ≤ l5
  g : Below w.heap.size w V

theorem RcAt.turned {lo hi b : Nat} {w w' : World} {k tx pg : Int} {a : Option Addr} {n c : Nat} (h : RcAt w b k tx pg a n c) (ht : Turned lo hi w w') (hn : b < lo ∨ hi ≤ b) : RcAt w' b k tx pg a n c :=
  ⟨ht.cell h.c0 (by simp only; omega), ht.cell h.c1 (by simp only; omega), ht.cell h.c2 (by simp only; omega), ht.cell h.c3 (by simp only; omega)⟩

section
variable {w : World} {k tx pg q : Int} {a : Option Addr} {n c b m : Nat} {us vs vs' : List Int} {P P' : Nat → Int} {Z Z' : Nat → List Int} {A : Nat → Option Addr} {C : Nat → Nat} {F : Nat → Nat} {a4 : Option Addr} {d4 : Nat} {a6 : Option Addr} {d6 : Nat} {l1 l2 l3 l4 l5 : Nat} {V W : World}
theorem PkS.up (h : PkS w k tx pg q a n c b m us vs P Z A C F a4 d4 a6 d6 l1 l2 l3 l4 l5 V) (hb : Below V.heap.size V W) : PkS w k tx pg q a n c b m us vs P Z A C F a4 d4 a6 d6 l1 l2 l3 l4 l5 W :=
  ⟨h.r0.up hb, h.y4.below hb, h.r4.below hb, h.o.below hb, h.r5.up hb, h.y6.below hb, h.r6.below hb, h.s0, h.s1, h.s2, h.s3, h.s4, h.g.trans (hb.mono h.g.size)⟩
theorem PkS.markX (h : PkS w k tx pg q a n c b m us vs P Z A C F a4 d4 a6 d6 l1 l2 l3 l4 l5 V) (ht : Turned l2 l3 V W) (ho : Own l2 l3 W b n P' A C Z' F) : PkS w k tx pg q a n c b m us vs P' Z' A C F a4 d4 a6 d6 l1 l2 l3 l4 l5 W := by
  have := h.s0; have := h.s1; have := h.s2; have := h.s3; have := h.s4
  exact ⟨h.r0.turned ht (.inl (by omega)), h.y4.turned ht (.inl (by omega)), h.r4.turned ht (.inl (by omega)), ho, h.r5.turned ht (.inr (by omega)), h.y6.turned ht (.inr (by omega)), h.r6.turned ht (.inr (by omega)), h.s0, h.s1, h.s2, h.s3, h.s4, h.g.trans (ht.toBelow h.g.size (by omega))⟩
theorem PkS.markB (h : PkS w k tx pg q a n c b m us vs P Z A C F a4 d4 a6 d6 l1 l2 l3 l4 l5 V) (ht : Turned l4 l5 V W) (hy : BytesIn l4 l5 W a6 vs') : PkS w k tx pg q a n c b m us vs' P Z A C F a4 d4 a6 d6 l1 l2 l3 l4 l5 W := by
  have := h.s0; have := h.s1; have := h.s2; have := h.s3; have := h.s4
  exact ⟨h.r0.turned ht (.inl (by omega)), h.y4.turned ht (.inl (by omega)), h.r4.turned ht (.inl (by omega)), h.o.turned ht (.inl (by omega)), h.r5.turned ht (.inl (by omega)), hy, h.r6.turned ht (.inr (by omega)), h.s0, h.s1, h.s2, h.s3, h.s4, h.g.trans (ht.toBelow h.g.size (by omega))⟩
end

theorem pkB_len {k tx pg : Int} {n : Nat} {P : Nat → Int} {Z : Nat → List Int} (hb : ∀ i, i < n → ∀ z ∈ Z i, 0 ≤ z ∧ z ≤ 255) : (pkB k tx pg n P Z).length ≤ 255 := by
  unfold pkB
  split
  · rename_i h
    rw [packB_len]
    exact (rec_runs h hb).tot
  · simp

set_option maxHeartbeats 2000000 in
theorem lawPackRecord_any (k tx pg : Int) (a : Option Addr) (n c : Nat) (P : Nat → Int) (A : Nat → Option Addr) (C : Nat → Nat) (Z : Nat → List Int) (w : World) (hi : IsRuns w a n P A C Z) :
    Calls Try.prog 4 #[.agg #[.int .i64 k, .int .i64 tx, .int .i64 pg, .slice a n c]] w fun e w' => e = .returned (.bool true) ∧ Below w.heap.size w w' := by
  have hm := hi.ln
  have HZ : Hid (∀ i, i < n → (Z i).length ≤ 9223372036854775807) := hi.zl
  have HR : Hid (RunsRead w a n P A C Z) := hi.rd
  have HZB : Hid (∀ i, i < n → ∀ z ∈ Z i, 0 ≤ z ∧ z ≤ 255) := hi.zb
  have hpl := pkB_len (k := k) (tx := tx) (pg := pg) (P := P) hi.zb
  obtain ⟨q, hq⟩ : ∃ q, q = recQ k tx pg n P Z := ⟨_, rfl⟩
  have HQ : Hid (recQ k tx pg n P Z = q) := hq.symm
  obtain ⟨us, hus⟩ : ∃ us, us = pkB k tx pg n P Z := ⟨_, rfl⟩
  have HU : Hid (pkB k tx pg n P Z = us) := hus.symm
  obtain ⟨m, hmv⟩ : ∃ m, m = us.length := ⟨_, rfl⟩
  have HM : Hid (us.length = m) := hmv.symm
  rw [← hus, ← hmv] at hpl
  clear hq hi hus hmv
  have hm2 : m ≤ 140737488351232 := by omega
  go_enter Try.func4, Try.ntmps4
  go_upto_region 1 with (fail)
  generalize hY : World.alloc w _ = Y
  have g : Below w.heap.size w Y := by rw [← hY]; go_grown
  have hYs : w.heap.size + 1 ≤ Y.heap.size := by rw [← hY]; simp
  have hB : RcAt Y w.heap.size k tx pg a n c := by rw [← hY]; exact ⟨by simp [go_sem], by simp [go_sem], by simp [go_sem], by simp [go_sem]⟩
  clear hY
  obtain ⟨c0, c1, c2, c3⟩ := hB
  have hB : RcAt Y w.heap.size k tx pg a n c := ⟨c0, c1, c2, c3⟩
  go_wp2_with fail
  refine (szRecord_any k tx pg a n c P A C Z _ hm HZ.out (HR.out.below g (Nat.le_refl _))).mono ?_
  rintro e w1 ⟨⟨r, rfl, hl⟩, g1⟩
  have hB := hB.up g1
  have hYs := Nat.le_trans hYs g1.size
  have g : Below w.heap.size w w1 := g.trans (g1.mono g.size)
  clear g1 c0 c1 c2 c3
  by_cases h0 : r < 0
  · go_wp2_with fail
    go_ret
    exact ⟨rfl, g⟩
  have hl := hl (by omega)
  have h0 : ¬ (r < 0) := h0
  have HL : Hid (n + took Z n ≤ 1048576) := hl
  have hzl : Hid (∀ i, i < n → (Z i).length ≤ 1048576) := fun i hi => by have := took_one Z i n hi; omega
  have hn : n ≤ 1048576 := by omega
  have hmk : ¬ (mk Z 1 n < 0) := by unfold mk; omega
  have dmk : decide (mk Z 1 n < 0) = false := by simpa using hmk
  clear hl
  obtain ⟨c0, c1, c2, c3⟩ := hB
  have hB : RcAt w1 w.heap.size k tx pg a n c := ⟨c0, c1, c2, c3⟩
  go_wp2_with fail
  refine (toRecord_any k tx pg a n c P A C Z _ HL.out (HR.out.below g (Nat.le_refl _))).mono ?_
  rintro e w2 ⟨b2, A2, F2, rfl, g1, o2⟩
  have hB := hB.up g1
  have hYs := Nat.le_trans hYs g1.size
  have g : Below w.heap.size w w2 := g.trans (g1.mono g.size)
  clear g1 c0 c1 c2 c3
  go_wp2_with fail
  refine (specPackRecord_any k tx pg _ n n P A2 _ Z _ hn hzl HZB o2.reads).mono ?_
  rintro e w3 ⟨a4, d4, rfl, _, g1, y4⟩
  rw [HQ.out, HU.out, HM.out]
  rw [HU.out] at y4
  have hB := hB.up g1
  have y4 : BytesIn (w.heap.size + 1) w3.heap.size w3 a4 us := y4.mono hYs (Nat.le_refl _)
  have hYs := Nat.le_trans hYs g1.size
  have g : Below w.heap.size w w3 := g.trans (g1.mono g.size)
  clear g1 o2
  go_upto_region 6 with (fail)
  generalize hY : World.alloc w3 _ = Y3
  have g1 : Below w3.heap.size w3 Y3 := by rw [← hY]; go_grown
  have hB := hB.up g1
  have y4 := y4.below g1
  have r4 : ResAt Y3 w3.heap.size q a4 m d4 := by rw [← hY]; exact ⟨by simp [go_sem], by simp [go_sem]⟩
  have g : Below w.heap.size w Y3 := g.trans (g1.mono g.size)
  have hs1 : w3.heap.size < Y3.heap.size := World.block_lt_of_cell? Y3 _ r4.c0
  clear hY g1
  generalize w3.heap.size = l1 at y4 r4 hs1 hYs ⊢
  obtain ⟨c0, c1, c2, c3⟩ := hB
  have hB : RcAt Y3 w.heap.size k tx pg a n c := ⟨c0, c1, c2, c3⟩
  go_wp2_with fail
  refine (toRecord_any k tx pg a n c P A C Z _ HL.out (HR.out.below g (Nat.le_refl _))).mono ?_
  rintro e w4 ⟨b, A', F', rfl, g1, o4⟩
  have hB := hB.up g1
  have y4 := y4.below g1
  have r4 := r4.below g1
  have hs2 := g1.size
  have g : Below w.heap.size w w4 := g.trans (g1.mono g.size)
  clear g1 c0 c1 c2 c3
  generalize Y3.heap.size = l2 at o4 hs1 hs2
  go_upto_region 7 with (fail)
  generalize hY : World.alloc w4 _ = Y4
  have g1 : Below w4.heap.size w4 Y4 := by rw [← hY]; go_grown
  have hB := hB.up g1
  have y4 := y4.below g1
  have r4 := r4.below g1
  have o4 := o4.below g1
  have r5 : RcAt Y4 w4.heap.size k tx pg (some ⟨b, 0, none⟩) n n := by rw [← hY]; exact ⟨by simp [go_sem], by simp [go_sem], by simp [go_sem], by simp [go_sem]⟩
  have g : Below w.heap.size w Y4 := g.trans (g1.mono g.size)
  have hs3 : w4.heap.size < Y4.heap.size := World.block_lt_of_cell? Y4 _ r5.c0
  clear hY g1
  generalize w4.heap.size = l3 at o4 r5 hs2 hs3 ⊢
  obtain ⟨c0, c1, c2, c3⟩ := r5
  have r5 : RcAt Y4 l3 k tx pg (some ⟨b, 0, none⟩) n n := ⟨c0, c1, c2, c3⟩
  go_wp2_with fail
  refine (implPackRecord_any k tx pg _ n n P A' _ Z _ hn hzl HZB o4.reads).mono ?_
  rintro e w5 ⟨a6, d6, rfl, _, g1, y6⟩
  rw [HQ.out, HU.out, HM.out]
  rw [HU.out] at y6
  have hB := hB.up g1
  have y4 := y4.below g1
  have r4 := r4.below g1
  have o4 := o4.below g1
  have r5 := r5.up g1
  have hs4 := g1.size
  have g : Below w.heap.size w w5 := g.trans (g1.mono g.size)
  clear g1 c0 c1 c2 c3
  generalize Y4.heap.size = l4 at y6 hs3 hs4
  go_upto_region 8 with (fail)
  generalize hY : World.alloc w5 _ = Y5
  have g1 : Below w5.heap.size w5 Y5 := by rw [← hY]; go_grown
  have hHeld : PkS w k tx pg q a n c b m us us P Z A' (fun i => (Z i).length) F' a4 d4 a6 d6 l1 l2 l3 l4 w5.heap.size Y5 :=
    ⟨hB.up g1, y4.below g1, r4.below g1, o4.below g1, r5.up g1, y6.below g1, by rw [← hY]; exact ⟨by simp [go_sem], by simp [go_sem]⟩, by omega, hs1, hs2, hs3, hs4, g.trans (g1.mono g.size)⟩
  clear hY g1 hB y4 r4 o4 r5 y6 g
  generalize w5.heap.size = l5 at hHeld hs4 ⊢
  clear hs1 hs2 hs3 hs4 hYs
  obtain ⟨x0, x1⟩ := hHeld.r6
  obtain ⟨y0, y1⟩ := hHeld.r4
  go_wp2_with fail
  refine (eqBytesResult_same q a6 a4 _ _ _ _ us m d6 d4 _ HM.out hm2 hHeld.y6 hHeld.y4).mono ?_
  rintro e w6 ⟨rfl, g1⟩
  have hHeld := hHeld.up g1
  clear g1 x0 x1 y0 y1
  go_wp2_with fail
  refine wp_region_held_drew (S := fun V => PkS w k tx pg q a n c b m us us P Z A' (fun i => (Z i).length) F' a4 d4 a6 d6 l1 l2 l3 l4 l5 V) (by kernel_rfl) (hHeld.up (Below.refl _ _).drew) (fun hHeld => ?_)
  generalize w6.drew = D at hHeld ⊢
  refine wpAnyH_take (i := 0) (v := ?v1) rfl (by kernel_rfl) (by kernel_rfl) (by kernel_rfl) (fun _ _ _ h => h) (Or.inl ⟨by kernel_rfl, ?h1⟩) hHeld ?_
  case h1 => intro u hSw; obtain ⟨q0, q1, q2, q3⟩ := hSw.r5; clear hSw; go_simp; try with_reducible rfl
  try simp only [List.getElem_toArray]
  try simp only [List.getElem_cons_succ]
  try simp only [List.getElem_cons_zero]
  try simp only [Act.put]
  try simp only [List.setIfInBounds_toArray]
  try simp only [List.set]
  refine wpAnyH_take (i := 1) (v := ?v2) rfl (by kernel_rfl) (by kernel_rfl) (by kernel_rfl) (fun _ _ _ h => h) (Or.inl ⟨by kernel_rfl, ?h2⟩) hHeld ?_
  case h2 => intro u hSw; obtain ⟨q0, q1, q2, q3⟩ := hSw.r0; clear hSw; go_simp; try with_reducible rfl
  try simp only [List.getElem_toArray]
  try simp only [List.getElem_cons_succ]
  try simp only [List.getElem_cons_zero]
  try simp only [Act.put]
  try simp only [List.setIfInBounds_toArray]
  try simp only [List.set]
  refine wpAnyH_ready (rs := [2]) (by kernel_rfl) (by simp) ?_
  refine AllReadyH.cons rfl (fun K hK => ?_) AllReadyH.nil
  go_simp
  go_wp2_with (go_at_call 9; refine (toRecord_any k tx pg a n c P A C Z _ HL.out (HR.out.below hHeld.g (Nat.le_refl _))).mono ?_; rintro e w8 ⟨b8, A8, F8, rfl, hb, o8⟩)
  refine hK.out _ _ (hHeld.up hb) (fun hHeld => ?_)
  clear hK K
  clear hb
  try simp only [Act.put]
  try simp only [List.setIfInBounds_toArray]
  try simp only [List.set]
  refine wpAnyH_ready (rs := [3]) (by kernel_rfl) (by simp) ?_
  refine AllReadyH.cons rfl (fun K hK => ?_) AllReadyH.nil
  go_simp
  go_wp2_with (go_at_call 11; refine (eqRecord_same k tx pg b b8 n n n P A' A8 _ _ Z F' F8 _ _ _ _ _ HL.out hHeld.o o8).mono ?_; rintro e w9 ⟨rfl, hb⟩)
  refine hK.out _ _ (hHeld.up hb) (fun hHeld => ?_)
  clear hK K
  clear hb o8
  try simp only [Act.put]
  try simp only [List.setIfInBounds_toArray]
  try simp only [List.set]
  refine wpAnyH_take (i := 4) (v := ?v3) rfl (by kernel_rfl) (by kernel_rfl) (by kernel_rfl) (fun _ _ _ h => h) (Or.inl ⟨by kernel_rfl, ?h3⟩) hHeld ?_
  case h3 => intro u hSw; (try dsimp only at hSw); go_simp; try with_reducible rfl
  try simp only [List.getElem_toArray]
  try simp only [List.getElem_cons_succ]
  try simp only [List.getElem_cons_zero]
  try simp only [Act.put]
  try simp only [List.setIfInBounds_toArray]
  try simp only [List.set]
  refine wpAnyH_done (by kernel_rfl) ?_ _
  obtain ⟨c0, c1, c2, c3⟩ := hHeld.r5
  go_wp2_with fail
  refine (markRecord_own k tx pg b n n l2 l3 P A' _ Z F' 1 _ HL.out (by omega) (by omega) hHeld.o).mono ?_
  rintro e w10 ⟨rfl, t10, o10⟩
  have hHeld := hHeld.markX t10 o10
  clear t10 o10 c0 c1 c2 c3
  obtain ⟨x0, x1⟩ := hHeld.r6
  obtain ⟨y0, y1⟩ := hHeld.r4
  go_wp2_with fail
  refine (eqBytesResult_same q a6 a4 _ _ _ _ us m d6 d4 _ HM.out hm2 hHeld.y6 hHeld.y4).mono ?_
  rintro e w11 ⟨rfl, g1⟩
  have hHeld := hHeld.up g1
  clear g1 x0 x1 y0 y1
  obtain ⟨x0, x1⟩ := hHeld.r6
  go_wp2_with fail
  refine (markBytesResult_any q a6 _ _ us m d6 1 _ HM.out hm2 (by omega) (by omega) hHeld.y6).mono ?_
  rintro e w12 ⟨rfl, t12, y12⟩
  have hHeld := hHeld.markB t12 y12
  clear t12 y12 x0 x1
  obtain ⟨x0, x1⟩ := hHeld.r6
  go_wp2_with fail
  refine (heldBytesResult_any q a6 _ _ us m d6 1 _ HM.out hm2 (by omega) (by omega) hHeld.y6).mono ?_
  rintro e w13 ⟨rfl, g1⟩
  have hHeld := hHeld.up g1
  clear g1 x0 x1
  have hpos2 : ¬ (1 + (m : Int) < 0) := by omega
  obtain ⟨c0, c1, c2, c3⟩ := hHeld.r0
  go_wp2_with fail
  refine (toRecord_any k tx pg a n c P A C Z _ HL.out (HR.out.below hHeld.g (Nat.le_refl _))).mono ?_
  rintro e w14 ⟨b8, A8, F8, rfl, g1, o8⟩
  have hHeld := hHeld.up g1
  clear g1 c0 c1 c2 c3
  go_wp2_with fail
  refine (implPackRecord_any k tx pg _ n n P A8 _ Z _ hn hzl HZB o8.reads).mono ?_
  rintro e w15 ⟨a9, d9, rfl, _, g1, y9⟩
  rw [HQ.out, HU.out, HM.out]
  rw [HU.out] at y9
  have hHeld := hHeld.up g1
  clear g1 o8
  obtain ⟨y0, y1⟩ := hHeld.r4
  have hlt : l1 < w15.heap.size := World.block_lt_of_cell? w15 _ y0
  go_wp2_with fail
  refine (eqBytesResult_same q a9 a4 _ _ _ _ us m d9 d4 _ HM.out hm2 (y9.below (by go_grown)) (hHeld.up (by go_grown)).y4).mono ?_
  rintro e w16 ⟨rfl, g1⟩
  have hHeld := hHeld.up (Below.trans (by go_grown) (g1.mono (by simp)))
  clear g1 y0 y1 hlt y9
  obtain ⟨x0, x1⟩ := hHeld.r6
  go_wp2_with fail
  refine (heldBytesResult_any q a6 _ _ us m d6 1 _ HM.out hm2 (by omega) (by omega) hHeld.y6).mono ?_
  rintro e w17 ⟨rfl, g1⟩
  have hHeld := hHeld.up g1
  clear g1 x0 x1
  have g := hHeld.g
  clear hHeld
  go_wp2_with fail
  go_ret
  exact ⟨rfl, g⟩

end Go.Proofs.Ytpiodhpmmnmmdaa
