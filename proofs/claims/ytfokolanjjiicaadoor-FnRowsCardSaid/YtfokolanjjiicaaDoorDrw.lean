/-
  What the draws of FnRows hand back: rows in range, and some text, whatever the bytes are.
-/
import Derived.Test.YtfokolanjjiicaaDoorBent
import Derived.Test.YtfokolanjjiicaaDoorRtp
import Derived.Test.YtfokolanjjiicaaDoorScanW
import Derived.Lib.ConvBytes
namespace Go.Proofs.YtfokolanjjiicaaDoor
open Go.RowKit
set_option linter.unusedVariables false

theorem set_range {zs : List Int} (h : ∀ z ∈ zs, 0 ≤ z ∧ z ≤ 255) (j : Nat) (y : Int) (y0 : 0 ≤ y) (y1 : y ≤ 255) : ∀ z ∈ zs.set j y, 0 ≤ z ∧ z ≤ 255 := by
  intro z hz
  rcases List.mem_or_eq_of_mem_set hz with h1 | h1
  · exact h z h1
  · omega

theorem BytesIn.store {lo hi g : Nat} {w : World} {zs : List Int} (h : BytesIn lo hi w (some ⟨g, 0, none⟩) zs) (j : Nat) (hj : j < zs.length) (y : Int) : BytesIn lo hi (w.setCell ⟨g, j, none⟩ (.int .u8 y)) (some ⟨g, 0, none⟩) (zs.set j y) := by
  rcases h with h | ⟨b, off, ha, h1, h2, hc, hf⟩
  · rw [h] at hj; simp at hj
  · cases ha
    refine .inr ⟨g, 0, rfl, h1, h2, fun i hi => ?_, fun i hi => ?_⟩
    · simp only [List.length_set] at hi
      have hci := hc i hi
      rw [Nat.zero_add] at hci ⊢
      by_cases e : i = j
      · subst e
        rw [World.cell?_setCell_same _ _ _ hci]
        simp [List.getD, hi]
      · rw [World.cell?_setCell_other _ _ _ _ (fun h => e (by have := congrArg Addr.off h; simp at this; omega)), hci]
        simp [List.getD, Ne.symm e]
    · simp only [List.length_set] at hi
      rw [World.frozen?_setCell]
      exact hf i hi

theorem BytesIn.first {lo hi g : Nat} {w : World} {zs : List Int} (h : BytesIn lo hi w (some ⟨g, 0, none⟩) zs) (j : Nat) : BytesIn lo hi w (some ⟨g, 0, none⟩) (zs.take j) := by
  rcases h with h | ⟨b, off, ha, h1, h2, hc, hf⟩
  · exact .inl (by rw [h]; simp)
  · refine .inr ⟨b, off, ha, h1, h2, fun i hi => ?_, fun i hi => hf i (by simp at hi; omega)⟩
    have hil : i < j := by simp at hi; omega
    rw [hc i (by simp at hi; omega)]
    simp [List.getD, hil]

theorem BytesIn.at0 {lo hi g : Nat} {w : World} {zs : List Int} (h : BytesIn lo hi w (some ⟨g, 0, none⟩) zs) (j : Nat) (hj : j < zs.length) : w.cell? ⟨g, j, none⟩ = some (.int .u8 (zs.getD j 0)) ∧ w.frozen? ⟨g, j, none⟩ = false ∧ lo ≤ g := by
  rcases h with h | ⟨b, off, ha, h1, _, hc, hf⟩
  · rw [h] at hj; simp at hj
  · cases ha
    have e1 := hc j hj
    have e2 := hf j hj
    rw [Nat.zero_add] at e1 e2
    exact ⟨e1, e2, h1⟩


set_option maxHeartbeats 400000 in
theorem lwBig_small (a : Option Addr) (n c : Nat) (w : World) (h : n ≤ 1048576) : Calls Tryd.prog 5 #[.slice a n c] w fun e w' => e = .returned (.bool false) ∧ w' = w := by
  have d : ¬ (1048576 : Int) < (n : Int) := by omega
  go_enter Tryd.func5, Tryd.ntmps5
  go_wp2
  go_ret
  exact ⟨rfl, rfl⟩

set_option maxHeartbeats 400000 in
theorem lwBig_big (a : Option Addr) (n c : Nat) (w : World) (h : 1048576 < n) : Calls Tryd.prog 5 #[.slice a n c] w fun e w' => e = .returned (.bool true) ∧ w' = w := by
  have d : (1048576 : Int) < (n : Int) := by omega
  go_enter Tryd.func5, Tryd.ntmps5
  go_wp2
  go_ret
  exact ⟨rfl, rfl⟩

set_option maxHeartbeats 1000000 in
theorem drawRowText_any (a : Option Addr) (n c : Nat) (zs : List Int) (w : World) (rd : Reads w a zs) (hn : zs.length = n) (hm : n ≤ 1048576) (hz : ∀ z ∈ zs, 0 ≤ z ∧ z ≤ 255) :
    Calls Tryd.prog 12 #[.slice a n c] w fun e w' => (∃ t k v s, e = .returned (.agg #[.int .i64 t, .int .i64 k, .int .i64 v, .string s]) ∧ ByteArray.size s ≤ 9) ∧ Below w.heap.size w w' := by
  go_enter Tryd.func12, Tryd.ntmps12
  go_wp2_with fail
  refine (l1Source_any a n c zs _ (rd.below (B := w.heap.size) (by go_grown) (Nat.le_refl _)) hn hm hz).mono ?_
  rintro e w1 ⟨rfl, hB, hlt, hS⟩
  simp only [World.size_alloc] at hS hlt
  have hO : RowOwn w1 w.heap.size 0 0 0 ⟨#[]⟩ := RowOwn.turned (lo := 0) (hi := 0) ⟨⟨by simp [go_sem], by simp [go_sem], by simp [go_sem], by simp [go_sem]⟩, by simp [go_sem], by simp [go_sem], by simp [go_sem], by simp [go_sem]⟩ (Turned.ofBelow hB) (.inr (Nat.zero_le _))
  have hB : Below w.heap.size w w1 := Below.trans (by go_grown) (hB.mono (by simp))
  clear rd hn hm hz
  go_wp2_with fail
  refine (l1Bent_any _ a n c zs _ _ hS (by omega)).mono ?_
  rintro e w3 ⟨⟨t, k, v, s, rfl, hs⟩, ht, _⟩
  have hB : Below w.heap.size w w3 := hB.trans (ht.toBelow hB.size (by omega))
  have hO := hO.turned ht (.inl (by omega))
  have HB : Hid (Below w.heap.size w w3) := hB
  clear ht hS hB
  obtain ⟨⟨o0, o1, o2, o3⟩, g0, g1, g2, g3⟩ := hO
  go_wp2_with fail
  refine bodyPost_ret (v := .agg #[.int .i64 t, .int .i64 k, .int .i64 v, .string s]) (by simp [results, Tryd.results12, go_sem, o0, o1, o2, o3]) rfl ?_
  exact ⟨⟨t, k, v, s, rfl, hs⟩, (((HB.out.setCell (Nat.le_refl _) _).setCell (Nat.le_refl _) _).setCell (Nat.le_refl _) _).setCell (Nat.le_refl _) _⟩

set_option maxHeartbeats 2000000 in
theorem drawIsBefore_any (a : Option Addr) (n c : Nat) (zs : List Int) (w : World) (rd : Reads w a zs) (hn : zs.length = n) (hm : n ≤ 1048576) (hz : ∀ z ∈ zs, 0 ≤ z ∧ z ≤ 255) :
    Calls Tryd.prog 10 #[.slice a n c] w fun e w' => (∃ t k v s t' k' v' s', e = .returned (.tuple #[.agg #[.int .i64 t, .int .i64 k, .int .i64 v, .string s], .agg #[.int .i64 t', .int .i64 k', .int .i64 v', .string s']])) ∧ Below w.heap.size w w' := by
  go_enter Tryd.func10, Tryd.ntmps10
  go_wp2_with fail
  refine (l1Source_any a n c zs _ (rd.below (B := w.heap.size) (by go_grown) (Nat.le_refl _)) hn hm hz).mono ?_
  rintro e w1 ⟨rfl, hB, hlt, hS⟩
  simp only [World.size_alloc] at hS hlt
  have hO : RowOwn w1 w.heap.size 0 0 0 ⟨#[]⟩ := RowOwn.turned (lo := 0) (hi := 0) ⟨⟨by simp [go_sem], by simp [go_sem], by simp [go_sem], by simp [go_sem]⟩, by simp [go_sem], by simp [go_sem], by simp [go_sem], by simp [go_sem]⟩ (Turned.ofBelow hB) (.inr (Nat.zero_le _))
  have hP : RowOwn w1 (w.heap.size + 1) 0 0 0 ⟨#[]⟩ := RowOwn.turned (lo := 0) (hi := 0) ⟨⟨by simp [go_sem], by simp [go_sem], by simp [go_sem], by simp [go_sem]⟩, by simp [go_sem], by simp [go_sem], by simp [go_sem], by simp [go_sem]⟩ (Turned.ofBelow hB) (.inr (Nat.zero_le _))
  have hB : Below w.heap.size w w1 := Below.trans (by go_grown) (hB.mono (by simp; omega))
  clear rd hn hm hz
  go_wp2_with fail
  refine (l1Draw_any _ a n c zs _ _ hS (by omega)).mono ?_
  rintro e w2 ⟨⟨t, k, v, s, rfl, _, _, _, hs⟩, ht, hS⟩
  have hB : Below w.heap.size w w2 := hB.trans (ht.toBelow hB.size (by omega))
  have hO := hO.turned ht (.inl (by omega))
  have hP := hP.turned ht (.inl (by omega))
  clear ht
  go_wp2_with fail
  refine (l1Draw_any _ a n c zs _ _ hS (by omega)).mono ?_
  rintro e w3 ⟨⟨t', k', v', s', rfl, _, _, _, hs'⟩, ht, hS⟩
  have hB : Below w.heap.size w w3 := hB.trans (ht.toBelow hB.size (by omega))
  have hO := hO.turned ht (.inl (by omega))
  have hP := hP.turned ht (.inl (by omega))
  have HB : Hid (Below w.heap.size w w3) := hB
  clear ht hS hB
  obtain ⟨⟨o0, o1, o2, o3⟩, g0, g1, g2, g3⟩ := hO
  obtain ⟨⟨q0, q1, q2, q3⟩, f0, f1, f2, f3⟩ := hP
  go_wp2_with fail
  refine bodyPost_ret (v := .tuple #[.agg #[.int .i64 t, .int .i64 k, .int .i64 v, .string s], .agg #[.int .i64 t', .int .i64 k', .int .i64 v', .string s']]) (by simp [results, Tryd.results10, go_sem, o0, o1, o2, o3, q0, q1, q2, q3]) rfl ?_
  have le1 : w.heap.size ≤ w.heap.size + 1 := by omega
  exact ⟨⟨t, k, v, s, t', k', v', s', rfl⟩, (((((((HB.out.setCell (Nat.le_refl _) _).setCell (Nat.le_refl _) _).setCell (Nat.le_refl _) _).setCell (Nat.le_refl _) _).setCell le1 _).setCell le1 _).setCell le1 _).setCell le1 _⟩

theorem rowS_size (t k v : Nat) (s : ByteArray) (ht : t < 1000000) (hk : k < 1000000) (hv : v < 1000000) (hs : s.size ≤ 8) : 2 ≤ (rowS t k v s).size ∧ (rowS t k v s).size ≤ 80 := by
  have z1 := decS_size t ht
  have z2 := decS_size k hk
  have z3 := decS_size v hv
  have h1 : (⟨#[32]⟩ : ByteArray).size = 1 := rfl
  unfold rowS numS
  split <;> simp only [ByteArray.size_append] <;> omega

/-- The bytes of a text as numbers. -/
def numsS (s : ByteArray) : List Int := (L s).map fun b => (b.toNat : Int)

theorem strBytes (s : ByteArray) (w : World) : ∃ W c, (convert 9 22 (.string s)).run Tryd.prog w = .ok (.slice (some ⟨w.heap.size, 0, none⟩) s.size c) W ∧ s.size ≤ c ∧ Below w.heap.size w W ∧ W.heap.size = w.heap.size + 1 ∧ BytesIn w.heap.size W.heap.size W (some ⟨w.heap.size, 0, none⟩) (numsS s) := by
  refine ⟨Lib.bytesWorld w 5 s, _, Lib.run_convert_string_bytes w 9 22 5 s Tryd.underlying9 Tryd.underlying22 Tryd.underlying5, grownCap_ge _ _ _ _, ?_, Lib.bytesWorld_size w 5 s, .inr ⟨w.heap.size, 0, rfl, Nat.le_refl _, by rw [Lib.bytesWorld_size]; omega, fun i hi => ?_, fun i hi => ?_⟩⟩
  · exact ⟨rfl, rfl, rfl, by rw [Lib.bytesWorld_size]; omega, fun k hk => Lib.bytesWorld_at_old w 5 s k hk⟩
  · have hi' : i < (L s).length := by simpa [numsS] using hi
    rw [Nat.zero_add, Lib.bytesWorld_cell w 5 s i (by rw [← L_size]; exact hi')]
    simp [numsS, L, List.getD]
    generalize s.data[i]? = o
    cases o <;> rfl
  · have hi' : i < s.size := by have : (numsS s).length = s.size := by rw [numsS, List.length_map, L_size]
                                omega
    simp [World.frozen?, Lib.bytesWorld_at_new, Lib.bytesCells]
    omega

theorem convertN (w : World) (a : Option Addr) (n c : Nat) (zs : List Int) (hn : zs.length = n) (h : Reads w a zs) : (convert 22 9 (.slice a n c)).run Tryd.prog w = .ok (.string (strOfNums zs)) w := convertS w a n c zs hn h

theorem strNums_size (zs : List Int) : (strOfNums zs).size = zs.length := by simp [strOfNums, ByteArray.size]

set_option maxHeartbeats 2000000 in
theorem drawParseRow_any (a : Option Addr) (n c : Nat) (zs : List Int) (w : World) (rd : Reads w a zs) (hn : zs.length = n) (hm : n ≤ 1048576) (hz : ∀ z ∈ zs, 0 ≤ z ∧ z ≤ 255) :
    Calls Tryd.prog 6 #[.slice a n c] w fun e w' => (∃ x, e = .returned (.string x) ∧ ByteArray.size x ≤ 80) ∧ Below w.heap.size w w' := by
  go_enter Tryd.func6, Tryd.ntmps6
  go_wp2_with fail
  refine (l1Source_any a n c zs _ rd hn hm hz).mono ?_
  rintro e w1 ⟨rfl, hB, hlt, hS⟩
  clear rd hn hm hz
  go_wp2_with fail
  refine (l1Draw_any _ a n c zs 0 _ hS (by omega)).mono ?_
  rintro e w2 ⟨⟨t, k, v, s, rfl, t0, k0, v0, hs8⟩, ht, hS⟩
  have hB : Below w.heap.size w w2 := hB.trans (ht.toBelow hB.size (Nat.le_refl _))
  have hlt := hS.lt
  clear ht
  obtain ⟨t, rfl⟩ : ∃ q : Nat, t = q := ⟨t.toNat, by omega⟩
  obtain ⟨k, rfl⟩ : ∃ q : Nat, k = q := ⟨k.toNat, by omega⟩
  obtain ⟨v, rfl⟩ : ∃ q : Nat, v = q := ⟨v.toNat, by omega⟩
  go_wp2_with fail
  have hR : RowAt (w2.alloc (.cells #[.int .i64 t, .int .i64 k, .int .i64 v, .string s] 26)) w2.heap.size t k v s := ⟨by simp [go_sem], by simp [go_sem], by simp [go_sem], by simp [go_sem]⟩
  have hS := hS.below (w' := w2.alloc (.cells #[.int .i64 t, .int .i64 k, .int .i64 v, .string s] 26)) (by go_grown)
  have hB : Below w.heap.size w (w2.alloc (.cells #[.int .i64 t, .int .i64 k, .int .i64 v, .string s] 26)) := hB.alloc hB.size _
  refine (l1RowText_any _ t k v s _ hs8 (by omega) (by omega) (by omega) hR).mono ?_
  rintro e w4 ⟨rfl, g4⟩
  obtain ⟨z0, z1⟩ := rowS_size t k v s (by omega) (by omega) (by omega) hs8
  generalize rowS t k v s = X at z0 z1
  have hS := hS.below g4
  have hB : Below w.heap.size w w4 := hB.trans (g4.mono hB.size)
  clear g4 hR hlt t0 k0 v0
  obtain ⟨W, d, hcv, hcap, gW, zW, yW⟩ := strBytes X w4
  have hlen : (numsS X).length = X.size := by rw [numsS, List.length_map, L_size]
  have hrg : ∀ z ∈ numsS X, 0 ≤ z ∧ z ≤ 255 := fun z hz => by
    rw [numsS, List.mem_map] at hz
    obtain ⟨b, _, rfl⟩ := hz
    have := b.toNat_lt
    omega
  generalize numsS X = ys at yW hlen hrg
  have hbS : w.heap.size < w4.heap.size := hS.lt
  have hS := hS.below gW
  have h4 := hB.size
  have hB : Below w.heap.size w W := hB.trans (gW.mono hB.size)
  clear gW
  go_wp2_with fail
  clear hcv
  generalize X.size = m at z0 z1 hcap hlen ⊢
  generalize w4.heap.size = g at hbS zW yW h4 ⊢
  refine (l1Next_any _ a n c zs _ 5 _ hS (by omega) (by omega) (by omega)).mono ?_
  rintro e w5 ⟨⟨r, rfl, r0, r1⟩, ht, hS⟩
  have y5 := yW.turned ht (.inr (by omega))
  have hB : Below w.heap.size w w5 := hB.trans (ht.toBelow hB.size (Nat.le_refl _))
  have hsz5 := ht.size
  clear ht yW
  have hcase : r = 0 ∨ r = 1 ∨ 2 ≤ r := by omega
  rcases hcase with rfl | rfl | hc
  · go_wp2_with fail
    refine (l1Next_any _ a n c zs _ _ _ hS (by omega) (by omega) (by omega)).mono ?_
    rintro e w6 ⟨⟨i1, rfl, a1, b1⟩, ht, hS⟩
    have y6 := y5.turned ht (.inr (by omega))
    have hB : Below w.heap.size w w6 := hB.trans (ht.toBelow hB.size (Nat.le_refl _))
    have hsz6 := ht.size
    clear ht y5
    go_wp2_with fail
    refine (l1Pick_any _ w6.heap.size 4 a n c zs [48, 32, 120, 57] _ _ (hS.below (by go_grown)) (by omega) ?_ rfl (by omega) (by omega) (by omega)).mono ?_
    · intro k hk
      match k, hk with
      | 0, _ => simp [go_sem]
      | 1, _ => simp [go_sem]
      | 2, _ => simp [go_sem]
      | 3, _ => simp [go_sem]
    rintro e w7 ⟨⟨j, hj, rfl⟩, ht, hS⟩
    have hp : 0 ≤ ([48, 32, 120, 57] : List Int).getD j 0 ∧ ([48, 32, 120, 57] : List Int).getD j 0 ≤ 255 := by
      match j, hj with
      | 0, _ => simp
      | 1, _ => simp
      | 2, _ => simp
      | 3, _ => simp
    generalize ([48, 32, 120, 57] : List Int).getD j 0 = i2 at hp
    obtain ⟨a2, b2⟩ := hp
    have y6 : BytesIn g W.heap.size (w6.alloc (.cells #[.int .i64 48, .int .i64 32, .int .i64 120, .int .i64 57] 2)) (some ⟨g, 0, none⟩) ys := y6.turned (lo := 0) (hi := 0) (Turned.ofBelow (by go_grown)) (.inr (Nat.zero_le _))
    have y7 := y6.turned ht (.inr (by omega))
    have HB : Hid (Below w.heap.size w w7) := (hB.alloc hB.size _).trans (ht.toBelow (by simp; omega) (Nat.le_refl _))
    have hsz7 := ht.size
    have hi1 : i1.toNat < ys.length := by omega
    obtain ⟨e1, e2, e3⟩ := y7.at0 i1.toNat hi1
    have cv := convertN (w7.setCell ⟨g, i1.toNat, none⟩ (.int .u8 i2)) (some ⟨g, 0, none⟩) m d (ys.set i1.toNat i2) (by rw [List.length_set]; exact hlen) (y7.store i1.toNat hi1 i2).reads
    have HZ : Hid ((strOfNums (ys.set i1.toNat i2)).size ≤ 80) := by show _ ≤ _; rw [strNums_size, List.length_set]; omega
    generalize strOfNums (ys.set i1.toNat i2) = Y at cv HZ
    generalize ys.getD i1.toNat 0 = y at e1
    clear ht y6 y7 hS hB
    go_wp2_with fail
    go_ret
    exact ⟨⟨Y, rfl, HZ.out⟩, HB.out.setCell (by simp; omega) _⟩
  · have hd0 : ¬ (d = 0) := by omega
    go_wp2_with fail
    refine (l1Next_any _ a n c zs _ _ _ hS (by omega) (by omega) (by omega)).mono ?_
    rintro e w6 ⟨⟨i1, rfl, a1, b1⟩, ht, hS⟩
    have y6 := y5.turned ht (.inr (by omega))
    have HB : Hid (Below w.heap.size w w6) := hB.trans (ht.toBelow hB.size (Nat.le_refl _))
    obtain ⟨i1, rfl⟩ : ∃ q : Nat, i1 = q := ⟨i1.toNat, by omega⟩
    have hle : (i1 : Int) ≤ (d : Int) := by omega
    have cv := convertN w6 (some ⟨g, 0, none⟩) i1 d (ys.take i1) (by rw [List.length_take]; omega) (y6.first i1).reads
    have HZ : Hid ((strOfNums (ys.take i1)).size ≤ 80) := by show _ ≤ _; rw [strNums_size, List.length_take]; omega
    generalize strOfNums (ys.take i1) = Y at cv HZ
    clear ht y5 y6 hS hB
    go_wp2_with fail
    go_ret
    exact ⟨⟨Y, rfl, HZ.out⟩, HB.out⟩
  · have d0 : (r == 0) = false := by simp; omega
    have d1 : (r == 1) = false := by simp; omega
    have HB : Hid (Below w.heap.size w w5) := hB
    have cv := convertN w5 (some ⟨g, 0, none⟩) m d ys hlen y5.reads
    have HZ : Hid ((strOfNums ys).size ≤ 80) := by show _ ≤ _; rw [strNums_size]; omega
    generalize strOfNums ys = Y at cv HZ
    clear y5 hS hB
    go_wp2_with fail
    go_ret
    exact ⟨⟨Y, rfl, HZ.out⟩, HB.out⟩

end Go.Proofs.YtfokolanjjiicaaDoor
