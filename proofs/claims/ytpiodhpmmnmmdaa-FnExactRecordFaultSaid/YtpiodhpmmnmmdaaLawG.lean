/-
  The law FnExactRecordFault answers true at all records.
-/
import Derived.Test.YtpiodhpmmnmmdaaRee
namespace Go.Proofs.Ytpiodhpmmnmmdaa
open Go.RowKit
set_option linter.unusedVariables false

/-- What the law carries: the argument in its box, the copy in its own, what both read as. -/
structure RfS (w : World) (bx : Nat) (k tx pg : Int) (a : Option Addr) (n c b : Nat) (P : Nat → Int) (A' : Nat → Option Addr) (Z : Nat → List Int) (F' : Nat → Nat) (lo hi : Nat) (V : World) : Prop where
  r0 : RcAt V w.heap.size k tx pg a n c
  r1 : RcAt V bx k tx pg (some ⟨b, 0, none⟩) n n
  o : Own lo hi V b n P A' (fun i => (Z i).length) Z F'
  g : Below w.heap.size w V
theorem RfS.up {w : World} {bx : Nat} {k tx pg : Int} {a : Option Addr} {n c b : Nat} {P : Nat → Int} {A' : Nat → Option Addr} {Z : Nat → List Int} {F' : Nat → Nat} {lo hi : Nat} {V W : World} (h : RfS w bx k tx pg a n c b P A' Z F' lo hi V) (hb : Below V.heap.size V W) : RfS w bx k tx pg a n c b P A' Z F' lo hi W :=
  ⟨h.r0.up hb, h.r1.up hb, h.o.below hb, h.g.trans (hb.mono h.g.size)⟩

set_option maxHeartbeats 1000000 in
theorem lawRecordFault_any (k tx pg : Int) (a : Option Addr) (n c : Nat) (P : Nat → Int) (A : Nat → Option Addr) (C : Nat → Nat) (Z : Nat → List Int) (w : World) (hi : IsRuns w a n P A C Z) :
    Calls Try.prog 3 #[.agg #[.int .i64 k, .int .i64 tx, .int .i64 pg, .slice a n c]] w fun e w' => e = .returned (.bool true) ∧ Below w.heap.size w w' := by
  have hm := hi.ln
  have HZ : Hid (∀ i, i < n → (Z i).length ≤ 9223372036854775807) := hi.zl
  have HR : Hid (RunsRead w a n P A C Z) := hi.rd
  obtain ⟨q, hq⟩ : ∃ q, q = recQ k tx pg n P Z := ⟨_, rfl⟩
  have HQ : Hid (recQ k tx pg n P Z = q) := hq.symm
  clear hq hi
  go_enter Try.func3, Try.ntmps3
  go_upto_region 1 with (fail)
  generalize hY : World.alloc w _ = Y
  have g : Below w.heap.size w Y := by rw [← hY]; go_grown
  have hB : RcAt Y w.heap.size k tx pg a n c := by rw [← hY]; exact ⟨by simp [go_sem], by simp [go_sem], by simp [go_sem], by simp [go_sem]⟩
  clear hY
  obtain ⟨c0, c1, c2, c3⟩ := hB
  have hB : RcAt Y w.heap.size k tx pg a n c := ⟨c0, c1, c2, c3⟩
  go_wp2_with fail
  refine (szRecord_any k tx pg a n c P A C Z _ hm HZ.out (HR.out.below g (Nat.le_refl _))).mono ?_
  rintro e w1 ⟨⟨r, rfl, hl⟩, g1⟩
  have hB := hB.up g1
  have g : Below w.heap.size w w1 := g.trans (g1.mono g.size)
  clear g1 c0 c1 c2 c3
  by_cases h0 : r < 0
  · go_wp2_with fail
    go_ret
    exact ⟨rfl, g⟩
  have hl := hl (by omega)
  have h0 : ¬ (r < 0) := h0
  have HL : Hid (n + took Z n ≤ 1048576) := hl
  have hzl : Hid (∀ i, i < n → (Z i).length ≤ 1048576) := fun i hi => by have := took_one Z i n hi; omega
  have hn : n ≤ 1048576 := by omega
  clear hl
  obtain ⟨c0, c1, c2, c3⟩ := hB
  have hB : RcAt w1 w.heap.size k tx pg a n c := ⟨c0, c1, c2, c3⟩
  go_wp2_with fail
  refine (toRecord_any k tx pg a n c P A C Z _ HL.out (HR.out.below g (Nat.le_refl _))).mono ?_
  rintro e w2 ⟨b2, A2, F2, rfl, g1, o2⟩
  have hB := hB.up g1
  have g : Below w.heap.size w w2 := g.trans (g1.mono g.size)
  clear g1 c0 c1 c2 c3
  go_wp2_with fail
  refine (specRecordFault_any k tx pg _ n n P A2 _ Z _ hn hzl o2.reads).mono ?_
  rintro e w3 ⟨rfl, g1⟩
  rw [HQ.out]
  have hB := hB.up g1
  have g : Below w.heap.size w w3 := g.trans (g1.mono g.size)
  clear g1 o2
  obtain ⟨c0, c1, c2, c3⟩ := hB
  have hB : RcAt w3 w.heap.size k tx pg a n c := ⟨c0, c1, c2, c3⟩
  go_wp2_with fail
  refine (toRecord_any k tx pg a n c P A C Z _ HL.out (HR.out.below g (Nat.le_refl _))).mono ?_
  rintro e w4 ⟨b, A', F', rfl, g1, o4⟩
  have hB := hB.up g1
  have g : Below w.heap.size w w4 := g.trans (g1.mono g.size)
  clear g1 c0 c1 c2 c3
  go_upto_region 7 with (fail)
  generalize hY : World.alloc w4 _ = Y4
  have g1 : Below w4.heap.size w4 Y4 := by rw [← hY]; go_grown
  have hHeld : RfS w w4.heap.size k tx pg a n c b P A' Z F' w3.heap.size w4.heap.size Y4 :=
    ⟨hB.up g1, by rw [← hY]; exact ⟨by simp [go_sem], by simp [go_sem], by simp [go_sem], by simp [go_sem]⟩, o4.below g1, g.trans (g1.mono g.size)⟩
  clear hY g1 hB g o4
  generalize w4.heap.size = bx at hHeld ⊢
  obtain ⟨c0, c1, c2, c3⟩ := hHeld.r1
  go_wp2_with fail
  refine (implRecordFault_any k tx pg _ n n P A' _ Z _ hn hzl hHeld.o.reads).mono ?_
  rintro e w5 ⟨rfl, g1⟩
  rw [HQ.out]
  have hHeld := hHeld.up g1
  clear g1 c0 c1 c2 c3
  go_wp2_with fail
  refine wp_region_held_drew (S := fun V => RfS w bx k tx pg a n c b P A' Z F' w3.heap.size bx V) (by kernel_rfl) (hHeld.up (Below.refl _ _).drew) (fun hHeld => ?_)
  generalize w5.drew = D at hHeld ⊢
  refine wpAnyH_take (i := 0) (v := ?v1) rfl (by kernel_rfl) (by kernel_rfl) (by kernel_rfl) (fun _ _ _ h => h) (Or.inl ⟨by kernel_rfl, ?h1⟩) hHeld ?_
  case h1 => intro u hSw; obtain ⟨q0, q1, q2, q3⟩ := hSw.r1; clear hSw; go_simp; try with_reducible rfl
  try simp only [List.getElem_toArray]
  try simp only [List.getElem_cons_succ]
  try simp only [List.getElem_cons_zero]
  try simp only [Act.put]
  try simp only [List.setIfInBounds_toArray]
  try simp only [List.set]
  refine wpAnyH_take (i := 1) (v := ?v2) rfl (by kernel_rfl) (by kernel_rfl) (by kernel_rfl) (fun _ _ _ h => h) (Or.inl ⟨by kernel_rfl, ?h2⟩) hHeld ?_
  case h2 => intro u hSw; obtain ⟨q0, q1, q2, q3⟩ := hSw.r0; clear hSw; go_simp; try with_reducible rfl
  try simp only [List.getElem_toArray]
  try simp only [List.getElem_cons_succ]
  try simp only [List.getElem_cons_zero]
  try simp only [Act.put]
  try simp only [List.setIfInBounds_toArray]
  try simp only [List.set]
  refine wpAnyH_ready (rs := [2]) (by kernel_rfl) (by simp) ?_
  refine AllReadyH.cons rfl (fun K hK => ?_) AllReadyH.nil
  go_simp
  go_wp2_with (go_at_call 9; refine (toRecord_any k tx pg a n c P A C Z _ HL.out (HR.out.below hHeld.g (Nat.le_refl _))).mono ?_; rintro e w8 ⟨b8, A8, F8, rfl, hb, o8⟩)
  refine hK.out _ _ (hHeld.up hb) (fun hHeld => ?_)
  clear hK K
  clear hb
  try simp only [Act.put]
  try simp only [List.setIfInBounds_toArray]
  try simp only [List.set]
  refine wpAnyH_ready (rs := [3]) (by kernel_rfl) (by simp) ?_
  refine AllReadyH.cons rfl (fun K hK => ?_) AllReadyH.nil
  go_simp
  go_wp2_with (go_at_call 11; refine (eqRecord_same k tx pg b b8 n n n P A' A8 _ _ Z F' F8 _ _ _ _ _ HL.out hHeld.o o8).mono ?_; rintro e w9 ⟨rfl, hb⟩)
  refine hK.out _ _ (hHeld.up hb) (fun hHeld => ?_)
  clear hK K
  clear hb o8
  try simp only [Act.put]
  try simp only [List.setIfInBounds_toArray]
  try simp only [List.set]
  refine wpAnyH_take (i := 4) (v := ?v3) rfl (by kernel_rfl) (by kernel_rfl) (by kernel_rfl) (fun _ _ _ h => h) (Or.inl ⟨by kernel_rfl, ?h3⟩) hHeld ?_
  case h3 => intro u hSw; (try dsimp only at hSw); go_simp; try with_reducible rfl
  try simp only [List.getElem_toArray]
  try simp only [List.getElem_cons_succ]
  try simp only [List.getElem_cons_zero]
  try simp only [Act.put]
  try simp only [List.setIfInBounds_toArray]
  try simp only [List.set]
  refine wpAnyH_done (by kernel_rfl) ?_ _
  have g := hHeld.g
  clear hHeld
  go_wp2_with fail
  go_ret
  exact ⟨rfl, g⟩

end Go.Proofs.Ytpiodhpmmnmmdaa
