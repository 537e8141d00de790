/-
  The model's l4Bent: records, whatever is drawn.
-/
import Derived.Test.YtcjkjenebnodbaaDoorSBnr

namespace Go.Proofs.YtcjkjenebnodbaaDoor
open Go.RowKit
set_option linter.unusedVariables false

/-- What l4Bent hands back. -/
def BtPost (b : Nat) (w : World) (e : Ending) (w' : World) : Prop := ∃ k tx pg a l c P A C Z, e = .returned (.agg #[.int .i64 k, .int .i64 tx, .int .i64 pg, .slice a l c]) ∧ RnOk l Z ∧ RunsLo w.heap.size w' a l P A C Z ∧ Dr.Turned b (b + 1) w w'

/-- Bytes, and runs, that stand in no block of X. -/
def BytesX (X : Nat → Prop) (w : World) (a : Option Addr) (zs : List Int) : Prop := zs = [] ∨ ∃ g off, a = some ⟨g, off, none⟩ ∧ ¬ X g ∧ ∀ j, j < zs.length → w.cell? ⟨g, off + j, none⟩ = some (.int .u8 (zs.getD j 0))
def RunsX (X : Nat → Prop) (w : World) (a : Option Addr) (n : Nat) (P : Nat → Int) (A : Nat → Option Addr) (C : Nat → Nat) (Z : Nat → List Int) : Prop :=
  n = 0 ∨ ∃ g off, a = some ⟨g, off, none⟩ ∧ ¬ X g ∧ ∀ i, i < n → w.cell? ⟨g, off + i * 2, none⟩ = some (.int .i64 (P i)) ∧ w.cell? ⟨g, off + i * 2 + 1, none⟩ = some (.slice (A i) (Z i).length (C i)) ∧ BytesX X w (A i) (Z i)
section
variable {X X' : Nat → Prop} {w w' : World} {a : Option Addr} {n : Nat} {P : Nat → Int} {A : Nat → Option Addr} {C : Nat → Nat} {Z : Nat → List Int} {zs : List Int}
theorem BytesX.kept (h : BytesX X w a zs) (hk : ∀ k, k < w.heap.size → ¬ X k → w'.heap[k]? = w.heap[k]?) : BytesX X w' a zs := by
  rcases h with h | ⟨g, off, ha, hx, hc⟩
  · exact .inl h
  · exact .inr ⟨g, off, ha, hx, fun j hj => (World.cell?_of_block (hk g (World.block_lt_of_cell? w _ (hc j hj)) hx)).trans (hc j hj)⟩
theorem RunsX.kept (h : RunsX X w a n P A C Z) (hk : ∀ k, k < w.heap.size → ¬ X k → w'.heap[k]? = w.heap[k]?) : RunsX X w' a n P A C Z := by
  rcases h with h | ⟨g, off, ha, hx, hc⟩
  · exact .inl h
  · refine .inr ⟨g, off, ha, hx, fun i hi => ?_⟩
    obtain ⟨c1, c2, c3⟩ := hc i hi
    have hg := hk g (World.block_lt_of_cell? w _ c1) hx
    exact ⟨(World.cell?_of_block hg).trans c1, (World.cell?_of_block hg).trans c2, c3.kept hk⟩
theorem BytesX.less (h : BytesX X w a zs) (hx : ∀ k, k < w.heap.size → X' k → X k) : BytesX X' w a zs := by
  by_cases e : zs = []
  · exact .inl e
  · rcases h with h | ⟨g, off, ha, hX, hc⟩
    · exact .inl h
    · have h0 := hc 0 (List.length_pos_iff.2 e)
      exact .inr ⟨g, off, ha, fun h' => hX (hx g (World.block_lt_of_cell? w _ h0) h'), hc⟩
theorem RunsX.less (h : RunsX X w a n P A C Z) (hx : ∀ k, k < w.heap.size → X' k → X k) : RunsX X' w a n P A C Z := by
  by_cases e : n = 0
  · exact .inl e
  · rcases h with h | ⟨g, off, ha, hX, hc⟩
    · exact .inl h
    · have h0 := (hc 0 (by omega)).1
      exact .inr ⟨g, off, ha, fun h' => hX (hx g (World.block_lt_of_cell? w _ h0) h'), fun i hi => ⟨(hc i hi).1, (hc i hi).2.1, (hc i hi).2.2.less hx⟩⟩
theorem RunsX.below (h : RunsX X w a n P A C Z) (hb : Below w.heap.size w w') : RunsX X w' a n P A C Z := h.kept (fun k hk _ => hb.block k hk)
theorem RunsX.src {b : Nat} (h : RunsX X w a n P A C Z) (ht : Dr.Turned b (b + 1) w w') (hb : X b) : RunsX X w' a n P A C Z := h.kept (fun k hk hn => ht.block k hk (fun e => hn (by rw [show k = b by omega]; exact hb)))
theorem RunsX.set (h : RunsX X w a n P A C Z) {p : Addr} (hp : X p.block) (v : Value) : RunsX X (w.setCell p v) a n P A C Z := h.kept (fun k hk hn => Below.heap_setCell _ _ _ _ (fun e => hn (by rw [e]; exact hp)))
theorem RunsX.reads (h : RunsX X w a n P A C Z) : RunsRead w a n P A C Z := by
  rcases h with h | ⟨g, off, ha, hx, hc⟩
  · exact .inl h
  · refine .inr ⟨g, off, ha, fun i hi => ⟨(hc i hi).1, (hc i hi).2.1, ?_⟩⟩
    rcases (hc i hi).2.2 with h0 | ⟨g', o', ha', _, hc'⟩
    · exact .inl h0
    · exact .inr ⟨g', o', ha', hc'⟩
theorem RunsLo.x {lo : Nat} (h : RunsLo lo w a n P A C Z) : RunsX (fun k => k < lo) w a n P A C Z := by
  rcases h with h | ⟨g, off, ha, hx, hc⟩
  · exact .inl h
  · refine .inr ⟨g, off, ha, by omega, fun i hi => ⟨(hc i hi).1, (hc i hi).2.1, ?_⟩⟩
    rcases (hc i hi).2.2 with h0 | ⟨g', o', ha', hl, hc'⟩
    · exact .inl h0
    · exact .inr ⟨g', o', ha', by omega, hc'⟩
theorem RunsX.lo {lo : Nat} (h : RunsX X w a n P A C Z) (hx : ∀ k, k < lo → X k) : RunsLo lo w a n P A C Z := by
  rcases h with h | ⟨g, off, ha, hX, hc⟩
  · exact .inl h
  · refine .inr ⟨g, off, ha, Nat.le_of_not_lt (fun e => hX (hx g e)), fun i hi => ⟨(hc i hi).1, (hc i hi).2.1, ?_⟩⟩
    rcases (hc i hi).2.2 with h0 | ⟨g', o', ha', hl, hc'⟩
    · exact .inl h0
    · exact .inr ⟨g', o', ha', Nat.le_of_not_lt (fun e => hl (hx g' e)), hc'⟩
end

theorem Rw.set0 {w : World} {r : Nat} {k t g : Int} {v : Value} (h : Rw w r k t g v) (x : Int) : Rw (w.setCell ⟨r, 0, none⟩ (.int .i64 x)) r x t g v :=
  ⟨World.cell?_setCell_same _ _ _ h.c0, by rw [World.cell?_setCell_other _ _ _ _ (by simp)]; exact h.c1, by rw [World.cell?_setCell_other _ _ _ _ (by simp)]; exact h.c2, by rw [World.cell?_setCell_other _ _ _ _ (by simp)]; exact h.c3, by rw [World.frozen?_setCell]; exact h.f0, by rw [World.frozen?_setCell]; exact h.f1, by rw [World.frozen?_setCell]; exact h.f2, by rw [World.frozen?_setCell]; exact h.f3⟩

theorem bentRec_fin {b : Nat} {a : Option Addr} {n c : Nat} {zs : List Int} {i j : Int} {w V V' : World} {k tx pg : Int} {aa : Option Addr} {l cc : Nat} {P : Nat → Int} {A : Nat → Option Addr} {C : Nat → Nat} {Z : Nat → List Int}
    (hbl : b < w.heap.size) (hT : Dr.Turned b (b + 1) w V) (hS : Dr.SrcAt V b a n c zs j) (hj : j ≤ i + 900) (hV : w.heap.size < V.heap.size) (hOk : RnOk l Z) (hRL : RunsLo (w.heap.size + 1) V aa l P A C Z) (T : Dr.Turned w.heap.size (w.heap.size + 1) V V') :
    BtPost b w (.returned (.agg #[.int .i64 k, .int .i64 tx, .int .i64 pg, .slice aa l cc])) V' ∧ ∃ j, j ≤ i + 900 ∧ Dr.SrcAt V' b a n c zs j :=
  ⟨⟨k, tx, pg, aa, l, cc, P, A, C, Z, rfl, hOk, (hRL.turned T).mono (by omega), hT.new T (Nat.le_refl _)⟩, ⟨j, hj, hS.low (T.toBelow (Nat.le_of_lt hV) (Nat.le_refl _)) hbl⟩⟩

set_option maxRecDepth 20000 in
set_option maxHeartbeats 4000000 in
theorem l4Bent_any (b : Nat) (a : Option Addr) (n c : Nat) (zs : List Int) (i : Int) (w : World) (h : Dr.SrcAt w b a n c zs i) (i9 : i ≤ 97000) :
    Calls Tryd.prog 31 #[.pointer (some ⟨b, 0, none⟩)] w fun e w' => BtPost b w e w' ∧ ∃ j, j ≤ i + 900 ∧ Dr.SrcAt w' b a n c zs j := by
  have hbl := h.lt
  go_enter Tryd.func31, Tryd.ntmps31
  go_upto_region 1 with (fail)
  generalize hY : World.alloc _ _ = Y
  have hO : Rw Y w.heap.size 0 0 0 (.slice none 0 0) := by rw [← hY]; exact ⟨by simp [go_sem], by simp [go_sem], by simp [go_sem], by simp [go_sem], by simp [go_sem], by simp [go_sem], by simp [go_sem], by simp [go_sem]⟩
  have g0 : Below w.heap.size w Y := by rw [← hY]; go_grown
  have hS := h.below g0
  have hT : Dr.Turned b (b + 1) w Y := Dr.Turned.ofBelow g0
  have hwY : w.heap.size < Y.heap.size := hO.lt
  clear hY g0 h
  go_upto_region 2 with (go_at_call 22; refine (l4Draw_any b a n c zs i _ hS (by omega)).mono ?_; rintro e w1 ⟨⟨k, tx, pg, aa, l, cc, P, A, C, Z, rfl, hOk, hRL, ht⟩, ⟨j, hj, hS⟩⟩)
  generalize hY : World.alloc w1 _ = Y2
  have hR : Rw Y2 w1.heap.size k tx pg (.slice aa l cc) := by rw [← hY]; exact ⟨by simp [go_sem], by simp [go_sem], by simp [go_sem], by simp [go_sem], by simp [go_sem], by simp [go_sem], by simp [go_sem], by simp [go_sem]⟩
  have g2 : Below w1.heap.size w1 Y2 := by rw [← hY]; go_grown
  have hT := (hT.trans ht).trans (Dr.Turned.ofBelow g2)
  have hO := (hO.turned ht (.inr (by omega))).up g2
  have hw1 : w.heap.size + 1 ≤ w1.heap.size := Nat.le_trans hwY ht.size
  have hRL : RunsX (fun k => k < w.heap.size + 1 ∨ w1.heap.size ≤ k) Y2 aa l P A C Z := ((hRL.mono hwY).x.less (X' := fun k => k < w.heap.size + 1 ∨ w1.heap.size ≤ k) (fun k hk h => by rcases h with h | h <;> omega)).below g2
  have hS := hS.below g2
  have hRn := hOk.rn
  generalize w1.heap.size = rb at hR hw1 hRL ⊢
  clear hY g2 ht hOk
  -- the runs as such may share no block with the record's own: they are told apart by what is stored there
  go_wp2_with fail
  refine (Dr.l1Next_any b a n c zs j 12 _ hS (by omega) (by omega) (by omega)).mono ?_
  rintro e w3 ⟨⟨r, rfl, r0, r1⟩, ht, hS⟩
  have hT := hT.trans ht
  have hO := hO.turned ht (.inr (by omega))
  have hR := hR.turned ht (.inr (by omega))
  have hRL := hRL.src ht (.inl (by omega))
  clear ht
  have hcase : r = 0 ∨ r = 1 ∨ r = 2 ∨ r = 3 ∨ 4 ≤ r := by omega
  rcases hcase with rfl | rfl | rfl | rfl | hr
  · have hb3 := hS.lt
    go_wp2_with fail
    refine (Dr.l1Pick_any b w3.heap.size 5 a n c zs [0, 1, 2, 4, 7] _ _ (hS.below (by go_grown)) (by omega) ?_ rfl (by omega) (by omega) hb3).mono ?_
    · intro k hk
      match k, hk with
      | 0, _ => simp [go_sem]
      | 1, _ => simp [go_sem]
      | 2, _ => simp [go_sem]
      | 3, _ => simp [go_sem]
      | 4, _ => simp [go_sem]
    rintro e w4 ⟨⟨q', hq, rfl⟩, ht, hS⟩
    generalize ([0, 1, 2, 4, 7] : List Int).getD q' 0 = q
    have gA : ∀ o, Below w3.heap.size w3 (w3.alloc o) := fun o => by go_grown
    have hT := (hT.trans (Dr.Turned.ofBelow (gA _))).trans ht
    have hO := (hO.up (gA _)).turned ht (.inr (by omega))
    have hR := (hR.up (gA _)).turned ht (.inr (by omega))
    have hRL := (hRL.below (gA _)).src ht (.inl (by omega))
    clear ht hq gA
    obtain ⟨R0, R1, R2, R3, E0, E1, E2, E3⟩ := hR
    have hRr : Rw w4 rb k tx pg (.slice aa l cc) := ⟨R0, R1, R2, R3, E0, E1, E2, E3⟩
    go_upto_region 11 with (fail)
    have hS := hS.setFar (p := ⟨rb, 0, none⟩) (by simp only; omega) (.int .i64 q)
    have hT := hT.setNew (p := ⟨rb, 0, none⟩) (by simp only; omega) (.int .i64 q)
    have hO := hO.other (p := ⟨rb, 0, none⟩) (by simp only; omega) (.int .i64 q)
    have hRx := hRr.set0 q
    clear R0 R1 R2 R3 E0 E1 E2 E3 hRr
    have hRL := (hRL.set (p := ⟨rb, 0, none⟩) (.inr (Nat.le_refl _)) (.int .i64 q)).lo (lo := w.heap.size + 1) (fun k hk => .inl hk)
    generalize w4.setCell ⟨rb, 0, none⟩ (.int .i64 q) = V6 at hS hT hO hRx hRL ⊢
    have hwV : w.heap.size < V6.heap.size := hO.lt
    have HF : Hid (∀ V', Dr.Turned w.heap.size (w.heap.size + 1) V6 V' → BtPost b w (.returned (.agg #[.int .i64 q, .int .i64 tx, .int .i64 pg, .slice aa l cc])) V' ∧ ∃ j, j ≤ i + 900 ∧ Dr.SrcAt V' b a n c zs j) := fun V' T => bentRec_fin hbl hT hS (by omega) hwV hRn hRL T
    obtain ⟨R0, R1, R2, R3, _, _, _, _⟩ := hRx
    obtain ⟨O0, O1, O2, O3, F0, F1, F2, F3⟩ := hO
    clear hS hT hRL
    go_wp2_with fail
    refine bodyPost_ret (v := .agg #[.int .i64 q, .int .i64 tx, .int .i64 pg, .slice aa l cc]) (by simp [results, Tryd.results31, go_sem, *]) rfl ?_
    exact HF.out _ (((((Dr.Turned.refl _ _ V6).setCell (by simp) (by simp) _).setCell (by simp) (by simp) _).setCell (by simp) (by simp) _).setCell (by simp) (by simp) _)
  · have hb3 := hS.lt
    go_wp2_with fail
    refine (Dr.l1Pick_any b w3.heap.size 3 a n c zs [0, 99, 100] _ _ (hS.below (by go_grown)) (by omega) ?_ rfl (by omega) (by omega) hb3).mono ?_
    · intro k hk
      match k, hk with
      | 0, _ => simp [go_sem]
      | 1, _ => simp [go_sem]
      | 2, _ => simp [go_sem]
    rintro e w4 ⟨⟨q', hq, rfl⟩, ht, hS⟩
    generalize ([0, 99, 100] : List Int).getD q' 0 = q
    have gA : ∀ o, Below w3.heap.size w3 (w3.alloc o) := fun o => by go_grown
    have hT := (hT.trans (Dr.Turned.ofBelow (gA _))).trans ht
    have hO := (hO.up (gA _)).turned ht (.inr (by omega))
    have hR := (hR.up (gA _)).turned ht (.inr (by omega))
    have hRL := (hRL.below (gA _)).src ht (.inl (by omega))
    clear ht hq gA
    obtain ⟨R0, R1, R2, R3, E0, E1, E2, E3⟩ := hR
    have hRr : Rw w4 rb k tx pg (.slice aa l cc) := ⟨R0, R1, R2, R3, E0, E1, E2, E3⟩
    go_upto_region 11 with (fail)
    have hS := hS.setFar (p := ⟨rb, 1, none⟩) (by simp only; omega) (.int .i64 q)
    have hT := hT.setNew (p := ⟨rb, 1, none⟩) (by simp only; omega) (.int .i64 q)
    have hO := hO.other (p := ⟨rb, 1, none⟩) (by simp only; omega) (.int .i64 q)
    have hRx := hRr.set1 q
    clear R0 R1 R2 R3 E0 E1 E2 E3 hRr
    have hRL := (hRL.set (p := ⟨rb, 1, none⟩) (.inr (Nat.le_refl _)) (.int .i64 q)).lo (lo := w.heap.size + 1) (fun k hk => .inl hk)
    generalize w4.setCell ⟨rb, 1, none⟩ (.int .i64 q) = V6 at hS hT hO hRx hRL ⊢
    have hwV : w.heap.size < V6.heap.size := hO.lt
    have HF : Hid (∀ V', Dr.Turned w.heap.size (w.heap.size + 1) V6 V' → BtPost b w (.returned (.agg #[.int .i64 k, .int .i64 q, .int .i64 pg, .slice aa l cc])) V' ∧ ∃ j, j ≤ i + 900 ∧ Dr.SrcAt V' b a n c zs j) := fun V' T => bentRec_fin hbl hT hS (by omega) hwV hRn hRL T
    obtain ⟨R0, R1, R2, R3, _, _, _, _⟩ := hRx
    obtain ⟨O0, O1, O2, O3, F0, F1, F2, F3⟩ := hO
    clear hS hT hRL
    go_wp2_with fail
    refine bodyPost_ret (v := .agg #[.int .i64 k, .int .i64 q, .int .i64 pg, .slice aa l cc]) (by simp [results, Tryd.results31, go_sem, *]) rfl ?_
    exact HF.out _ (((((Dr.Turned.refl _ _ V6).setCell (by simp) (by simp) _).setCell (by simp) (by simp) _).setCell (by simp) (by simp) _).setCell (by simp) (by simp) _)
  · have hb3 := hS.lt
    go_wp2_with fail
    refine (Dr.l1Pick_any b w3.heap.size 3 a n c zs [11, 12, -1] _ _ (hS.below (by go_grown)) (by omega) ?_ rfl (by omega) (by omega) hb3).mono ?_
    · intro k hk
      match k, hk with
      | 0, _ => simp [go_sem]
      | 1, _ => simp [go_sem]
      | 2, _ => simp [go_sem]
    rintro e w4 ⟨⟨q', hq, rfl⟩, ht, hS⟩
    generalize ([11, 12, -1] : List Int).getD q' 0 = q
    have gA : ∀ o, Below w3.heap.size w3 (w3.alloc o) := fun o => by go_grown
    have hT := (hT.trans (Dr.Turned.ofBelow (gA _))).trans ht
    have hO := (hO.up (gA _)).turned ht (.inr (by omega))
    have hR := (hR.up (gA _)).turned ht (.inr (by omega))
    have hRL := (hRL.below (gA _)).src ht (.inl (by omega))
    clear ht hq gA
    obtain ⟨R0, R1, R2, R3, E0, E1, E2, E3⟩ := hR
    have hRr : Rw w4 rb k tx pg (.slice aa l cc) := ⟨R0, R1, R2, R3, E0, E1, E2, E3⟩
    go_upto_region 11 with (fail)
    have hS := hS.setFar (p := ⟨rb, 2, none⟩) (by simp only; omega) (.int .i64 q)
    have hT := hT.setNew (p := ⟨rb, 2, none⟩) (by simp only; omega) (.int .i64 q)
    have hO := hO.other (p := ⟨rb, 2, none⟩) (by simp only; omega) (.int .i64 q)
    have hRx := hRr.set2 q
    clear R0 R1 R2 R3 E0 E1 E2 E3 hRr
    have hRL := (hRL.set (p := ⟨rb, 2, none⟩) (.inr (Nat.le_refl _)) (.int .i64 q)).lo (lo := w.heap.size + 1) (fun k hk => .inl hk)
    generalize w4.setCell ⟨rb, 2, none⟩ (.int .i64 q) = V6 at hS hT hO hRx hRL ⊢
    have hwV : w.heap.size < V6.heap.size := hO.lt
    have HF : Hid (∀ V', Dr.Turned w.heap.size (w.heap.size + 1) V6 V' → BtPost b w (.returned (.agg #[.int .i64 k, .int .i64 tx, .int .i64 q, .slice aa l cc])) V' ∧ ∃ j, j ≤ i + 900 ∧ Dr.SrcAt V' b a n c zs j) := fun V' T => bentRec_fin hbl hT hS (by omega) hwV hRn hRL T
    obtain ⟨R0, R1, R2, R3, _, _, _, _⟩ := hRx
    obtain ⟨O0, O1, O2, O3, F0, F1, F2, F3⟩ := hO
    clear hS hT hRL
    go_wp2_with fail
    refine bodyPost_ret (v := .agg #[.int .i64 k, .int .i64 tx, .int .i64 q, .slice aa l cc]) (by simp [results, Tryd.results31, go_sem, *]) rfl ?_
    exact HF.out _ (((((Dr.Turned.refl _ _ V6).setCell (by simp) (by simp) _).setCell (by simp) (by simp) _).setCell (by simp) (by simp) _).setCell (by simp) (by simp) _)
  · have hb3 := hS.lt
    have hb3x : w.heap.size < w3.heap.size := hO.lt
    go_upto_region 10 with (fail)
    go_wp2_with fail
    refine (l3Bent_any b a n c zs _ _ hS (by omega)).mono ?_
    rintro e w4 ⟨⟨ba, bl, bc, BP, BA, BC, BZ, rfl, hBn, hBL, ht⟩, ⟨j', hj', hS⟩⟩
    have hT := hT.trans ht
    have hO := hO.turned ht (.inr (by omega))
    have hRl := hR.lt
    have hR := hR.turned ht (.inr (by omega))
    have HBL : Hid (RunsX (fun k => k < w3.heap.size) w4 ba bl BP BA BC BZ) := hBL.x
    clear ht hBL hRL
    obtain ⟨R0, R1, R2, R3, E0, E1, E2, E3⟩ := hR
    have hRr : Rw w4 rb k tx pg (.slice aa l cc) := ⟨R0, R1, R2, R3, E0, E1, E2, E3⟩
    go_upto_region 11 with (fail)
    have hS := hS.setFar (p := ⟨rb, 3, none⟩) (by simp only; omega) (.slice ba bl bc)
    have hT := hT.setNew (p := ⟨rb, 3, none⟩) (by simp only; omega) (.slice ba bl bc)
    have hO := hO.other (p := ⟨rb, 3, none⟩) (by simp only; omega) (.slice ba bl bc)
    have hRx := hRr.set3 (.slice ba bl bc)
    clear R0 R1 R2 R3 E0 E1 E2 E3 hRr
    have hBL : RunsLo (w.heap.size + 1) (w4.setCell ⟨rb, 3, none⟩ (.slice ba bl bc)) ba bl BP BA BC BZ := (HBL.out.set (p := ⟨rb, 3, none⟩) (by simp only; omega) (.slice ba bl bc)).lo (fun k hk => by have := hb3x; omega)
    generalize w4.setCell ⟨rb, 3, none⟩ (.slice ba bl bc) = V6 at hS hT hO hRx hBL ⊢
    have hwV : w.heap.size < V6.heap.size := hO.lt
    have HF : Hid (∀ V', Dr.Turned w.heap.size (w.heap.size + 1) V6 V' → BtPost b w (.returned (.agg #[.int .i64 k, .int .i64 tx, .int .i64 pg, .slice ba bl bc])) V' ∧ ∃ j, j ≤ i + 900 ∧ Dr.SrcAt V' b a n c zs j) := fun V' T => bentRec_fin hbl hT hS (by omega) hwV hBn hBL T
    obtain ⟨R0, R1, R2, R3, _, _, _, _⟩ := hRx
    obtain ⟨O0, O1, O2, O3, F0, F1, F2, F3⟩ := hO
    clear hS hT hBL HBL
    go_wp2_with fail
    refine bodyPost_ret (v := .agg #[.int .i64 k, .int .i64 tx, .int .i64 pg, .slice ba bl bc]) (by simp [results, Tryd.results31, go_sem, *]) rfl ?_
    exact HF.out _ (((((Dr.Turned.refl _ _ V6).setCell (by simp) (by simp) _).setCell (by simp) (by simp) _).setCell (by simp) (by simp) _).setCell (by simp) (by simp) _)
  · have d0 : (r == 0) = false := by simp; omega
    have d1 : (r == 1) = false := by simp; omega
    have d2 : (r == 2) = false := by simp; omega
    have d3 : (r == 3) = false := by simp; omega
    have hwV : w.heap.size < w3.heap.size := hO.lt
    have HF : Hid (∀ V', Dr.Turned w.heap.size (w.heap.size + 1) w3 V' → BtPost b w (.returned (.agg #[.int .i64 k, .int .i64 tx, .int .i64 pg, .slice aa l cc])) V' ∧ ∃ j, j ≤ i + 900 ∧ Dr.SrcAt V' b a n c zs j) := fun V' T => bentRec_fin hbl hT hS (by omega) hwV hRn (hRL.lo (fun k hk => .inl hk)) T
    obtain ⟨R0, R1, R2, R3, _, _, _, _⟩ := hR
    obtain ⟨O0, O1, O2, O3, F0, F1, F2, F3⟩ := hO
    clear hS hT hRL
    go_wp2_with fail
    refine bodyPost_ret (v := .agg #[.int .i64 k, .int .i64 tx, .int .i64 pg, .slice aa l cc]) (by simp [results, Tryd.results31, go_sem, *]) rfl ?_
    exact HF.out _ (((((Dr.Turned.refl _ _ w3).setCell (by simp) (by simp) _).setCell (by simp) (by simp) _).setCell (by simp) (by simp) _).setCell (by simp) (by simp) _)

end Go.Proofs.YtcjkjenebnodbaaDoor
