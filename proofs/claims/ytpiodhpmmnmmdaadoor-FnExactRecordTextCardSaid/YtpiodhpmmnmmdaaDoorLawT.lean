/-
  The law FnExactRecordText answers true at all records, where the table of powers of ten lies as the library lays it.
-/
import Derived.Test.YtpiodhpmmnmmdaaDoorRta
namespace Go.Proofs.YtpiodhpmmnmmdaaDoor
open Go.RowKit
set_option linter.unusedVariables false

/-- What the law carries: the argument in its box, the copy in its own, what both read as. -/
structure RfS (w : World) (bx : Nat) (k tx pg : Int) (a : Option Addr) (n c b : Nat) (P : Nat → Int) (A' : Nat → Option Addr) (Z : Nat → List Int) (F' : Nat → Nat) (lo hi : Nat) (V : World) : Prop where
  r0 : RcAt V w.heap.size k tx pg a n c
  r1 : RcAt V bx k tx pg (some ⟨b, 0, none⟩) n n
  o : Own lo hi V b n P A' (fun i => (Z i).length) Z F'
  g : Below w.heap.size w V
theorem RfS.up {w : World} {bx : Nat} {k tx pg : Int} {a : Option Addr} {n c b : Nat} {P : Nat → Int} {A' : Nat → Option Addr} {Z : Nat → List Int} {F' : Nat → Nat} {lo hi : Nat} {V W : World} (h : RfS w bx k tx pg a n c b P A' Z F' lo hi V) (hb : Below V.heap.size V W) : RfS w bx k tx pg a n c b P A' Z F' lo hi W :=
  ⟨h.r0.up hb, h.r1.up hb, h.o.below hb, h.g.trans (hb.mono h.g.size)⟩

/-- A text's answer in a box. -/
structure TrAt (V : World) (b : Nat) (q : Int) (T : ByteArray) : Prop where
  c0 : V.cell? ⟨b, 0, none⟩ = some (.int .i64 q)
  c1 : V.cell? ⟨b, 1, none⟩ = some (.string T)
theorem TrAt.up {V W : World} {b : Nat} {q : Int} {T : ByteArray} (h : TrAt V b q T) (hb : Below V.heap.size V W) : TrAt W b q T := ⟨cellUp hb h.c0, cellUp hb h.c1⟩

set_option maxHeartbeats 1000000 in
theorem lawRecordText_any (k tx pg : Int) (a : Option Addr) (n c : Nat) (P : Nat → Int) (A : Nat → Option Addr) (C : Nat → Nat) (Z : Nat → List Int) (w : World) (hi : IsRuns w a n P A C Z) (hT : Tab w) :
    Calls Tryd.prog 4 #[.agg #[.int .i64 k, .int .i64 tx, .int .i64 pg, .slice a n c]] w fun e w' => e = .returned (.bool true) ∧ Below w.heap.size w w' := by
  have hm := hi.ln
  have HZ : Hid (∀ i, i < n → (Z i).length ≤ 9223372036854775807) := hi.zl
  have HR : Hid (RunsRead w a n P A C Z) := hi.rd
  have HT : Hid (∀ X, Below w.heap.size w X → Tab X) := fun X gX => hT.below gX
  obtain ⟨q, hq⟩ : ∃ q, q = recQ k tx pg n P Z := ⟨_, rfl⟩
  have HQ : Hid (recQ k tx pg n P Z = q) := hq.symm
  obtain ⟨T, hTe⟩ : ∃ T, T = txB k tx pg n P Z := ⟨_, rfl⟩
  have HTe : Hid (txB k tx pg n P Z = T) := hTe.symm
  clear hq hi hT hTe
  go_enter Tryd.func4, Tryd.ntmps4
  go_upto_region 1 with (fail)
  generalize hY : World.alloc w _ = Y
  have g : Below w.heap.size w Y := by rw [← hY]; go_grown
  have hB : RcAt Y w.heap.size k tx pg a n c := by rw [← hY]; exact ⟨by simp [go_sem], by simp [go_sem], by simp [go_sem], by simp [go_sem]⟩
  clear hY
  obtain ⟨c0, c1, c2, c3⟩ := hB
  have hB : RcAt Y w.heap.size k tx pg a n c := ⟨c0, c1, c2, c3⟩
  go_wp2_with fail
  refine (szRecord_any k tx pg a n c P A C Z _ hm HZ.out (HR.out.below g (Nat.le_refl _))).mono ?_
  rintro e w1 ⟨⟨r, rfl, hl⟩, g1⟩
  have hB := hB.up g1
  have g : Below w.heap.size w w1 := g.trans (g1.mono g.size)
  clear g1 c0 c1 c2 c3
  by_cases h0 : r < 0
  · go_wp2_with fail
    go_ret
    exact ⟨rfl, g⟩
  have hl := hl (by omega)
  have h0 : ¬ (r < 0) := h0
  have HL : Hid (n + took Z n ≤ 1048576) := hl
  have hzl : Hid (∀ i, i < n → (Z i).length ≤ 1048576) := fun i hi => by have := took_one Z i n hi; omega
  clear hl
  obtain ⟨c0, c1, c2, c3⟩ := hB
  have hB : RcAt w1 w.heap.size k tx pg a n c := ⟨c0, c1, c2, c3⟩
  go_wp2_with fail
  refine (toRecord_any k tx pg a n c P A C Z _ HL.out (HR.out.below g (Nat.le_refl _))).mono ?_
  rintro e w2 ⟨b2, A2, F2, rfl, g1, o2⟩
  have hB := hB.up g1
  have g : Below w.heap.size w w2 := g.trans (g1.mono g.size)
  clear g1 c0 c1 c2 c3
  go_wp2_with fail
  refine (specRecordText_any k tx pg _ n n P A2 _ Z _ HL.out hzl o2.reads).mono ?_
  rintro e w3 ⟨rfl, g1⟩
  rw [HQ.out, HTe.out]
  have hB := hB.up g1
  have g : Below w.heap.size w w3 := g.trans (g1.mono g.size)
  clear g1 o2
  go_upto_region 6 with (fail)
  generalize hY : World.alloc w3 _ = Y3
  have g1 : Below w3.heap.size w3 Y3 := by rw [← hY]; go_grown
  have hS : TrAt Y3 w3.heap.size q T := by rw [← hY]; exact ⟨by simp [go_sem], by simp [go_sem]⟩
  have hB := hB.up g1
  have g : Below w.heap.size w Y3 := g.trans (g1.mono g.size)
  clear hY g1
  generalize w3.heap.size = b3 at hS ⊢
  obtain ⟨c0, c1, c2, c3⟩ := hB
  have hB : RcAt Y3 w.heap.size k tx pg a n c := ⟨c0, c1, c2, c3⟩
  go_wp2_with fail
  refine (toRecord_any k tx pg a n c P A C Z _ HL.out (HR.out.below g (Nat.le_refl _))).mono ?_
  rintro e w4 ⟨b, A', F', rfl, g1, o4⟩
  have hB := hB.up g1
  have hS := hS.up g1
  have g : Below w.heap.size w w4 := g.trans (g1.mono g.size)
  clear g1 c0 c1 c2 c3
  go_upto_region 7 with (fail)
  generalize hY : World.alloc w4 _ = Y4
  have g1 : Below w4.heap.size w4 Y4 := by rw [← hY]; go_grown
  have hS := hS.up g1
  have hHeld : RfS w w4.heap.size k tx pg a n c b P A' Z F' Y3.heap.size w4.heap.size Y4 :=
    ⟨hB.up g1, by rw [← hY]; exact ⟨by simp [go_sem], by simp [go_sem], by simp [go_sem], by simp [go_sem]⟩, o4.below g1, g.trans (g1.mono g.size)⟩
  clear hY g1 hB g o4
  generalize w4.heap.size = bx at hHeld ⊢
  generalize Y3.heap.size = lo at hHeld ⊢
  obtain ⟨c0, c1, c2, c3⟩ := hHeld.r1
  go_wp2_with fail
  refine (implRecordText_any k tx pg _ n n P A' _ Z _ HL.out hzl hHeld.o.reads (HT.out _ hHeld.g)).mono ?_
  rintro e w5 ⟨rfl, g1⟩
  rw [HQ.out, HTe.out]
  have hHeld := hHeld.up g1
  have hS := hS.up g1
  clear g1 c0 c1 c2 c3
  go_upto_region 8 with (fail)
  generalize hY : World.alloc w5 _ = Y5
  have g1 : Below w5.heap.size w5 Y5 := by rw [← hY]; go_grown
  have hI : TrAt Y5 w5.heap.size q T := by rw [← hY]; exact ⟨by simp [go_sem], by simp [go_sem]⟩
  have hHeld := hHeld.up g1
  have hS := hS.up g1
  clear hY g1
  generalize w5.heap.size = b5 at hI ⊢
  obtain ⟨d0, d1⟩ := hS
  obtain ⟨e0, e1⟩ := hI
  go_wp2_with fail
  refine (eqTextResult_same q T _).mono ?_
  rintro e w6 ⟨rfl, g1⟩
  have hHeld := hHeld.up g1
  clear g1 d0 d1 e0 e1
  go_wp2_with fail
  refine wp_region_held_drew (S := fun V => RfS w bx k tx pg a n c b P A' Z F' lo bx V) (by kernel_rfl) (hHeld.up (Below.refl _ _).drew) (fun hHeld => ?_)
  generalize w6.drew = D at hHeld ⊢
  refine wpAnyH_take (i := 0) (v := ?v1) rfl (by kernel_rfl) (by kernel_rfl) (by kernel_rfl) (fun _ _ _ h => h) (Or.inl ⟨by kernel_rfl, ?h1⟩) hHeld ?_
  case h1 => intro u hSw; obtain ⟨q0, q1, q2, q3⟩ := hSw.r1; clear hSw; go_simp; try with_reducible rfl
  try simp only [List.getElem_toArray]
  try simp only [List.getElem_cons_succ]
  try simp only [List.getElem_cons_zero]
  try simp only [Act.put]
  try simp only [List.setIfInBounds_toArray]
  try simp only [List.set]
  refine wpAnyH_take (i := 1) (v := ?v2) rfl (by kernel_rfl) (by kernel_rfl) (by kernel_rfl) (fun _ _ _ h => h) (Or.inl ⟨by kernel_rfl, ?h2⟩) hHeld ?_
  case h2 => intro u hSw; obtain ⟨q0, q1, q2, q3⟩ := hSw.r0; clear hSw; go_simp; try with_reducible rfl
  try simp only [List.getElem_toArray]
  try simp only [List.getElem_cons_succ]
  try simp only [List.getElem_cons_zero]
  try simp only [Act.put]
  try simp only [List.setIfInBounds_toArray]
  try simp only [List.set]
  refine wpAnyH_ready (rs := [2]) (by kernel_rfl) (by simp) ?_
  refine AllReadyH.cons rfl (fun K hK => ?_) AllReadyH.nil
  go_simp
  go_wp2_with (go_at_call 18; refine (toRecord_any k tx pg a n c P A C Z _ HL.out (HR.out.below hHeld.g (Nat.le_refl _))).mono ?_; rintro e w8 ⟨b8, A8, F8, rfl, hb, o8⟩)
  refine hK.out _ _ (hHeld.up hb) (fun hHeld => ?_)
  clear hK K
  clear hb
  try simp only [Act.put]
  try simp only [List.setIfInBounds_toArray]
  try simp only [List.set]
  refine wpAnyH_ready (rs := [3]) (by kernel_rfl) (by simp) ?_
  refine AllReadyH.cons rfl (fun K hK => ?_) AllReadyH.nil
  go_simp
  go_wp2_with (go_at_call 20; refine (eqRecord_same k tx pg b b8 n n n P A' A8 _ _ Z F' F8 _ _ _ _ _ HL.out hHeld.o o8).mono ?_; rintro e w9 ⟨rfl, hb⟩)
  refine hK.out _ _ (hHeld.up hb) (fun hHeld => ?_)
  clear hK K
  clear hb o8
  try simp only [Act.put]
  try simp only [List.setIfInBounds_toArray]
  try simp only [List.set]
  refine wpAnyH_take (i := 4) (v := ?v3) rfl (by kernel_rfl) (by kernel_rfl) (by kernel_rfl) (fun _ _ _ h => h) (Or.inl ⟨by kernel_rfl, ?h3⟩) hHeld ?_
  case h3 => intro u hSw; (try dsimp only at hSw); go_simp; try with_reducible rfl
  try simp only [List.getElem_toArray]
  try simp only [List.getElem_cons_succ]
  try simp only [List.getElem_cons_zero]
  try simp only [Act.put]
  try simp only [List.setIfInBounds_toArray]
  try simp only [List.set]
  refine wpAnyH_done (by kernel_rfl) ?_ _
  have g := hHeld.g
  clear hHeld
  go_wp2_with fail
  go_ret
  exact ⟨rfl, g⟩

end Go.Proofs.YtpiodhpmmnmmdaaDoor
