/-
  The contract of DrawUnpackCell: some bytes, whatever is drawn.
-/
import Derived.Test.YtnhfimgjljmfoaaDraws
import Derived.Test.YtnhfimgjljmfoaaCap
namespace Go.Proofs.Ytnhfimgjljmfoaa
open Go.RowKit

theorem cellBytes_range (f t k v : Int) (s : ByteArray) (f0 : 0 ≤ f) (f1 : f ≤ 2) (t0 : 0 ≤ t ∧ t ≤ 3) (k0 : 1 ≤ k ∧ k ≤ 99) (v0 : 0 ≤ v ∧ v ≤ 999) (hs : s.size ≤ 8) : ∀ z ∈ cellBytes f t k v s, 0 ≤ z ∧ z ≤ 255 := by
  intro z hz
  simp only [cellBytes, List.mem_append, List.mem_cons, List.not_mem_nil, or_false, List.mem_map] at hz
  rcases hz with (h | h | h | h | h | h) | ⟨b, _, rfl⟩
  · omega
  · omega
  · omega
  · omega
  · omega
  · omega
  · have := b.toNat_lt
    omega

theorem set_range {zs : List Int} (h : ∀ z ∈ zs, 0 ≤ z ∧ z ≤ 255) (j : Nat) (y : Int) (y0 : 0 ≤ y) (y1 : y ≤ 255) : ∀ z ∈ zs.set j y, 0 ≤ z ∧ z ≤ 255 := by
  intro z hz
  rcases List.mem_or_eq_of_mem_set hz with h1 | h1
  · exact h z h1
  · omega

theorem BytesIn.store {lo hi g : Nat} {w : World} {zs : List Int} (h : BytesIn lo hi w (some ⟨g, 0, none⟩) zs) (j : Nat) (hj : j < zs.length) (y : Int) : BytesIn lo hi (w.setCell ⟨g, j, none⟩ (.int .u8 y)) (some ⟨g, 0, none⟩) (zs.set j y) := by
  rcases h with h | ⟨b, off, ha, h1, h2, hc, hf⟩
  · rw [h] at hj; simp at hj
  · cases ha
    refine .inr ⟨g, 0, rfl, h1, h2, fun i hi => ?_, fun i hi => ?_⟩
    · simp only [List.length_set] at hi
      have hci := hc i hi
      rw [Nat.zero_add] at hci ⊢
      by_cases e : i = j
      · subst e
        rw [World.cell?_setCell_same _ _ _ hci]
        simp [List.getD, hi]
      · rw [World.cell?_setCell_other _ _ _ _ (fun h => e (by have := congrArg Addr.off h; simp at this; omega)), hci]
        simp [List.getD, Ne.symm e]
    · simp only [List.length_set] at hi
      rw [World.frozen?_setCell]
      exact hf i hi

theorem BytesIn.first {lo hi g : Nat} {w : World} {zs : List Int} (h : BytesIn lo hi w (some ⟨g, 0, none⟩) zs) (j : Nat) : BytesIn lo hi w (some ⟨g, 0, none⟩) (zs.take j) := by
  rcases h with h | ⟨b, off, ha, h1, h2, hc, hf⟩
  · exact .inl (by rw [h]; simp)
  · refine .inr ⟨b, off, ha, h1, h2, fun i hi => ?_, fun i hi => hf i (by simp at hi; omega)⟩
    have hil : i < j := by simp at hi; omega
    rw [hc i (by simp at hi; omega)]
    simp [List.getD, hil]

theorem BytesIn.at0 {lo hi g : Nat} {w : World} {zs : List Int} (h : BytesIn lo hi w (some ⟨g, 0, none⟩) zs) (j : Nat) (hj : j < zs.length) : w.cell? ⟨g, j, none⟩ = some (.int .u8 (zs.getD j 0)) ∧ w.frozen? ⟨g, j, none⟩ = false ∧ lo ≤ g := by
  rcases h with h | ⟨b, off, ha, h1, _, hc, hf⟩
  · rw [h] at hj; simp at hj
  · cases ha
    have e1 := hc j hj
    have e2 := hf j hj
    rw [Nat.zero_add] at e1 e2
    exact ⟨e1, e2, h1⟩

set_option maxHeartbeats 2000000 in
theorem drawUnpackCell_any (a : Option Addr) (n c : Nat) (zs : List Int) (w : World) (rd : Reads w a zs) (hn : zs.length = n) (hm : n ≤ 1048576) (hz : ∀ z ∈ zs, 0 ≤ z ∧ z ≤ 255) :
    Calls Try.prog 11 #[.slice a n c] w fun e w' => ∃ x m d ys, e = .returned (.slice x m d) ∧ List.length ys = m ∧ m ≤ d ∧ m ≤ 14 ∧ BytesIn w.heap.size w'.heap.size w' x ys ∧ (∀ z ∈ ys, 0 ≤ z ∧ z ≤ 255) ∧ Below w.heap.size w w' := by
  go_enter Try.func11, Try.ntmps11
  go_wp2_with fail
  refine (l1Source_any a n c zs _ rd hn hm hz).mono ?_
  rintro e w1 ⟨rfl, hB, hlt, hS⟩
  clear rd hn hm hz
  go_wp2_with fail
  refine (l1Draw_any _ a n c zs 0 _ hS (by omega)).mono ?_
  rintro e w2 ⟨⟨t, k, v, s, rfl, t0, k0, v0, hs8⟩, ht, hS⟩
  have hB : Below w.heap.size w w2 := hB.trans (ht.toBelow hB.size (Nat.le_refl _))
  have hlt := hS.lt
  clear ht
  go_wp2_with fail
  have hR : RowAt (w2.alloc (.cells #[.int .i64 t, .int .i64 k, .int .i64 v, .string s] 26)) w2.heap.size t k v s := ⟨by simp [go_sem], by simp [go_sem], by simp [go_sem], by simp [go_sem]⟩
  have hS := hS.below (w' := (w2.alloc (.cells #[.int .i64 t, .int .i64 k, .int .i64 v, .string s] 26)).alloc (.cells #[.int .i64 0, .int .i64 2] 2)) (by go_grown)
  have hR := rowAt_below (B := (w2.alloc (.cells #[.int .i64 t, .int .i64 k, .int .i64 v, .string s] 26)).heap.size) (w' := (w2.alloc (.cells #[.int .i64 t, .int .i64 k, .int .i64 v, .string s] 26)).alloc (.cells #[.int .i64 0, .int .i64 2] 2)) (by go_grown) (by simp) hR
  have hB : Below w.heap.size w ((w2.alloc (.cells #[.int .i64 t, .int .i64 k, .int .i64 v, .string s] 26)).alloc (.cells #[.int .i64 0, .int .i64 2] 2)) := (hB.alloc hB.size _).alloc (by have := hB.size; simp; omega) _
  refine (l1Pick_any _ (w2.heap.size + 1) 2 a n c zs [0, 2] (0 + 5) _ hS (by omega) ?_ rfl (by omega) (by omega) (by omega)).mono ?_
  · intro k hk
    match k, hk with
    | 0, _ => simp [go_sem]
    | 1, _ => simp [go_sem]
  rintro e w3 ⟨⟨j, hj, rfl⟩, ht, hS⟩
  have hf : 0 ≤ ([0, 2] : List Int).getD j 0 ∧ ([0, 2] : List Int).getD j 0 ≤ 2 := by
    match j, hj with
    | 0, _ => simp
    | 1, _ => simp
  generalize ([0, 2] : List Int).getD j 0 = f at hf
  have hR : RowAt w3 w2.heap.size t k v s := ⟨ht.cell hR.c0 (.inr hlt), ht.cell hR.c1 (.inr hlt), ht.cell hR.c2 (.inr hlt), ht.cell hR.c3 (.inr hlt)⟩
  have hB : Below w.heap.size w w3 := hB.trans (ht.toBelow hB.size (Nat.le_refl _))
  clear ht hj
  go_wp2_with fail
  refine (l1Cell_cap f t k v s _ _ hf.1 hf.2 t0.1 t0.2 k0.1 k0.2 v0.1 v0.2 hs8 hR).mono ?_
  rintro e w4 ⟨g, d, rfl, hcap, g4, y4⟩
  have hrg := cellBytes_range f t k v s hf.1 hf.2 t0 k0 v0 hs8
  have hlen := cellBytes_length f t k v s
  generalize cellBytes f t k v s = ys at y4 hrg hlen
  have hS := hS.below g4
  have hB : Below w.heap.size w w4 := hB.trans (g4.mono hB.size)
  have hw3 : w.heap.size < w3.heap.size := by have := g4.size; have := hR.c0; have := World.block_lt_of_cell? w3 _ this; simp at this; omega
  have y4 := y4.mono (Nat.succ_le_of_lt hw3) (Nat.le_refl _)
  clear g4 hR hlt hf t0 k0 v0
  go_wp2_with fail
  refine (l1Next_any _ a n c zs _ 6 _ hS (by omega) (by omega) (by omega)).mono ?_
  rintro e w5 ⟨⟨r, rfl, r0, r1⟩, ht, hS⟩
  have y5 := y4.turned ht (.inr (Nat.le_refl _))
  have hB : Below w.heap.size w w5 := hB.trans (ht.toBelow hB.size (Nat.le_refl _))
  have hsz5 := ht.size
  clear ht y4
  have hcase : r = 0 ∨ r = 1 ∨ r = 2 ∨ 3 ≤ r := by omega
  rcases hcase with rfl | rfl | rfl | hc
  · go_wp2_with fail
    refine (l1Next_any _ a n c zs _ _ _ hS (by omega) (by omega) (by omega)).mono ?_
    rintro e w6 ⟨⟨i1, rfl, a1, b1⟩, ht, hS⟩
    have y6 := y5.turned ht (.inr (Nat.le_refl _))
    have hB : Below w.heap.size w w6 := hB.trans (ht.toBelow hB.size (Nat.le_refl _))
    have hsz6 := ht.size
    clear ht y5
    go_wp2_with fail
    refine (l1Next_any _ a n c zs _ 256 _ hS (by omega) (by omega) (by omega)).mono ?_
    rintro e w7 ⟨⟨i2, rfl, a2, b2⟩, ht, hS⟩
    have y7 := y6.turned ht (.inr (Nat.le_refl _))
    have HB : Hid (Below w.heap.size w w7) := hB.trans (ht.toBelow hB.size (Nat.le_refl _))
    have hsz7 := ht.size
    have hi1 : i1.toNat < ys.length := by omega
    obtain ⟨e1, e2, e3⟩ := y7.at0 i1.toNat hi1
    have HY : Hid (BytesIn w.heap.size w4.heap.size (w7.setCell ⟨g, i1.toNat, none⟩ (.int .u8 i2)) (some ⟨g, 0, none⟩) (ys.set i1.toNat i2)) := (y7.store i1.toNat hi1 i2).mono (by omega) (Nat.le_refl _)
    generalize ys.getD i1.toNat 0 = y at e1
    clear ht y6 y7 hS hB
    go_wp2_with fail
    go_ret
    refine ⟨_, _, _, ys.set i1.toNat i2, rfl, by rw [List.length_set]; exact hlen, hcap, by omega, HY.out.mono (Nat.le_refl _) (by simp; omega), set_range hrg _ _ a2 (by omega), HB.out.setCell (by simp; omega) _⟩
  · have hd0 : ¬ (d = 0) := by omega
    go_wp2_with fail
    refine (l1Next_any _ a n c zs _ _ _ hS (by omega) (by omega) (by omega)).mono ?_
    rintro e w6 ⟨⟨i1, rfl, a1, b1⟩, ht, hS⟩
    have y6 := y5.turned ht (.inr (Nat.le_refl _))
    have HB : Hid (Below w.heap.size w w6) := hB.trans (ht.toBelow hB.size (Nat.le_refl _))
    have hsz6 := ht.size
    have HY : Hid (BytesIn w.heap.size w4.heap.size w6 (some ⟨g, 0, none⟩) (ys.take i1.toNat)) := (y6.first i1.toNat).mono (by omega) (Nat.le_refl _)
    have hle : i1 ≤ (d : Int) := by omega
    clear ht y5 y6 hS hB
    go_wp2_with fail
    go_ret
    refine ⟨_, _, _, ys.take i1.toNat, rfl, by simp; omega, by omega, by omega, HY.out.mono (Nat.le_refl _) (by omega), fun z hz => hrg z (List.mem_of_mem_take hz), HB.out⟩
  · go_wp2_with fail
    refine (l1Next_any _ a n c zs _ 13 _ hS (by omega) (by omega) (by omega)).mono ?_
    rintro e w6 ⟨⟨i1, rfl, a1, b1⟩, ht, hS⟩
    have hB : Below w.heap.size w w6 := hB.trans (ht.toBelow hB.size (Nat.le_refl _))
    clear ht y5
    go_wp2_with fail
    refine (l1Next_any _ a n c zs _ 17 _ hS (by omega) (by omega) (by omega)).mono ?_
    rintro e w7 ⟨⟨i2, rfl, a2, b2⟩, ht, hS⟩
    have hB : Below w.heap.size w w7 := hB.trans (ht.toBelow hB.size (Nat.le_refl _))
    clear ht hS
    go_wp2_with fail
    refine (l1Stub_wide i1 i2 _ a1 (by omega) a2 (by omega)).mono ?_
    rintro e w8 ⟨rfl, g8, y8⟩
    have HB : Hid (Below w.heap.size w w8) := hB.trans (g8.mono hB.size)
    have HY : Hid (BytesIn w.heap.size w8.heap.size w8 (some ⟨w7.heap.size, 0, none⟩) [1, i1, i2]) := y8.mono hB.size (Nat.le_refl _)
    clear g8 y8 hB
    go_wp2_with fail
    go_ret
    refine ⟨_, _, _, [1, i1, i2], rfl, rfl, by omega, by omega, HY.out, fun z hz => ?_, HB.out⟩
    simp at hz
    omega
  · have d0 : (r == 0) = false := by simp; omega
    have d1 : (r == 1) = false := by simp; omega
    have d2 : (r == 2) = false := by simp; omega
    have HB : Hid (Below w.heap.size w w5) := hB
    have HY : Hid (BytesIn w.heap.size w4.heap.size w5 (some ⟨g, 0, none⟩) ys) := y5.mono (by omega) (Nat.le_refl _)
    clear y5 hS hB
    go_wp2_with fail
    go_ret
    exact ⟨_, _, _, ys, rfl, hlen, hcap, by omega, HY.out.mono (Nat.le_refl _) (by omega), hrg, HB.out⟩

end Go.Proofs.Ytnhfimgjljmfoaa
