/-
  The contract of the model's l2Bent: some bytes, a page or nearly one, whatever is drawn.
-/
import Derived.Test.YtpoccjlngbdjlaaQDRgt

namespace Go.Proofs.Ytpoccjlngbdjlaa.Dr
open Go.RowKit
set_option linter.unusedVariables false

/-- Bytes in a new row: 63 or 64 of them. -/
def BtAt (base : Nat) (w : World) (v : Value) : Prop := ∃ g o m d ys, v = .slice (some ⟨g, o, none⟩) m d ∧ List.length ys = m ∧ 1 ≤ m ∧ m ≤ 64 ∧ m ≤ d ∧ BytesIn base w.heap.size w (some ⟨g, o, none⟩) ys ∧ ∀ z ∈ ys, 0 ≤ z ∧ z ≤ 255

theorem bytesIn_tail {lo hi g : Nat} {w : World} {zs : List Int} (h : BytesIn lo hi w (some ⟨g, 0, none⟩) zs) : BytesIn lo hi w (some ⟨g, 1, none⟩) (zs.drop 1) := by
  rcases h with h | ⟨b, off, ha, h1, h2, hc, hf⟩
  · exact .inl (by rw [h]; rfl)
  · simp only [Option.some.injEq, Addr.mk.injEq, and_true] at ha
    obtain ⟨rfl, rfl⟩ := ha
    refine .inr ⟨g, 1, rfl, h1, h2, fun i hi => ?_, fun i hi => ?_⟩
    · have hl : 1 + i < zs.length := by rw [List.length_drop] at hi; omega
      have := hc (1 + i) hl
      rw [Nat.zero_add] at this
      rw [this]
      simp [List.getD, Nat.add_comm]
    · have hl : 1 + i < zs.length := by rw [List.length_drop] at hi; omega
      have := hf (1 + i) hl
      rw [Nat.zero_add] at this
      exact this

theorem bytesIn_store {lo hi g : Nat} {w : World} {zs : List Int} (h : BytesIn lo hi w (some ⟨g, 0, none⟩) zs) (j : Nat) (hj : j < zs.length) (y : Int) : BytesIn lo hi (w.setCell ⟨g, j, none⟩ (.int .u8 y)) (some ⟨g, 0, none⟩) (zs.set j y) := by
  rcases h with h | ⟨b, off, ha, h1, h2, hc, hf⟩
  · rw [h] at hj; simp at hj
  · cases ha
    refine .inr ⟨g, 0, rfl, h1, h2, fun i hi => ?_, fun i hi => ?_⟩
    · simp only [List.length_set] at hi
      have hci := hc i hi
      rw [Nat.zero_add] at hci ⊢
      by_cases e : i = j
      · subst e
        rw [World.cell?_setCell_same _ _ _ hci]
        simp [List.getD, hi]
      · rw [World.cell?_setCell_other _ _ _ _ (fun h => e (by have := congrArg Addr.off h; simp at this; omega)), hci]
        simp [List.getD, Ne.symm e]
    · simp only [List.length_set] at hi
      rw [World.frozen?_setCell]
      exact hf i hi

theorem bytesIn_at {lo hi g : Nat} {w : World} {zs : List Int} (h : BytesIn lo hi w (some ⟨g, 0, none⟩) zs) (j : Nat) (hj : j < zs.length) : w.cell? ⟨g, j, none⟩ = some (.int .u8 (zs.getD j 0)) ∧ w.frozen? ⟨g, j, none⟩ = false ∧ lo ≤ g := by
  rcases h with h | ⟨b, off, ha, h1, _, hc, hf⟩
  · rw [h] at hj; simp at hj
  · cases ha
    have e1 := hc j hj
    have e2 := hf j hj
    rw [Nat.zero_add] at e1 e2
    exact ⟨e1, e2, h1⟩

set_option maxHeartbeats 4000000 in
theorem l2Bent_any (b : Nat) (a : Option Addr) (n c : Nat) (zs : List Int) (i : Int) (w : World) (h : SrcAt w b a n c zs i) (i9 : i ≤ 600) :
    Calls Try.prog 41 #[.pointer (some ⟨b, 0, none⟩)] w fun e w' => ∃ v, e = .returned v ∧ BtAt w.heap.size w' v ∧ Turned b (b + 1) w w' ∧ ∃ j, j ≤ i + 310 ∧ SrcAt w' b a n c zs j := by
  have hbl := h.lt
  go_enter Try.func41, Try.ntmps41
  go_wp2_with fail
  refine (l2Right_any b a n c zs i w h i9).mono ?_
  rintro e w1 ⟨v, rfl, ⟨⟨g, dd, ys, rfl, hdd, hg, hY, hF⟩, hT, ⟨j, hj, hS⟩⟩⟩
  have hyl := hF.pg.len
  have hyb := hF.pg.bd
  clear hF
  go_wp2_with fail
  refine (l1Next_any b a n c zs j 12 _ hS (by omega) (by omega) (by omega)).mono ?_
  rintro e w2 ⟨⟨r, rfl, r0, r1⟩, ht, hS⟩
  have hY := (hY.turned ht (.inr (by omega))).mono (Nat.le_refl _) ht.size
  have hT := hT.trans ht
  clear ht
  have hcase : r = 0 ∨ r = 1 ∨ 2 ≤ r := by omega
  rcases hcase with rfl | rfl | hr
  · have hd1 : ¬ (dd = 1) := by omega
    have hd2 : (1 : Int) ≤ (dd : Int) := by omega
    have HY : Hid (BytesIn w.heap.size w2.heap.size w2 (some ⟨g, 1, none⟩) (ys.drop 1)) := bytesIn_tail hY
    clear hY
    go_wp2_with fail
    go_ret
    exact ⟨_, rfl, ⟨g, 1, 63, dd - 1, ys.drop 1, rfl, by rw [List.length_drop, hyl], by omega, by omega, by omega, HY.out, fun z hz => hyb z (List.mem_of_mem_drop hz)⟩, hT, ⟨_, by omega, hS⟩⟩
  · go_wp2_with fail
    refine (l1Next_any b a n c zs _ 12 _ hS (by omega) (by omega) (by omega)).mono ?_
    rintro e w3 ⟨⟨p, rfl, p0, p1⟩, ht, hS⟩
    have hY := (hY.turned ht (.inr (by omega))).mono (Nat.le_refl _) ht.size
    have hT := hT.trans ht
    clear ht
    go_wp2_with fail
    refine (l1Next_any b a n c zs _ 70 _ hS (by omega) (by omega) (by omega)).mono ?_
    rintro e w4 ⟨⟨y, rfl, y0, y1⟩, ht, hS⟩
    have hY := (hY.turned ht (.inr (by omega))).mono (Nat.le_refl _) ht.size
    have hT := hT.trans ht
    clear ht
    have hp : p.toNat < ys.length := by omega
    obtain ⟨e1, e2, e3⟩ := bytesIn_at hY p.toNat hp
    have HY : Hid (BytesIn w.heap.size w4.heap.size (w4.setCell ⟨g, p.toNat, none⟩ (.int .u8 y)) (some ⟨g, 0, none⟩) (ys.set p.toNat y)) := bytesIn_store hY p.toNat hp y
    generalize ys.getD p.toNat 0 = q at e1
    have HS : Hid (SrcAt (w4.setCell ⟨g, p.toNat, none⟩ (.int .u8 y)) b a n c zs (j + 1 + 1 + 1)) := hS.setFar (by simp only; omega) _
    have HT : Hid (Turned b (b + 1) w (w4.setCell ⟨g, p.toNat, none⟩ (.int .u8 y))) := hT.setNew (by simp only; omega) _
    clear hY hS hT
    go_wp2_with fail
    go_ret
    refine ⟨_, rfl, ⟨g, 0, 64, dd, ys.set p.toNat y, rfl, by rw [List.length_set, hyl], by omega, by omega, hdd, HY.out.mono (Nat.le_refl _) (by simp [World.setCell]), fun z hz => ?_⟩, HT.out, ⟨_, by omega, HS.out⟩⟩
    rcases List.mem_or_eq_of_mem_set hz with h1 | h1
    · exact hyb z h1
    · omega
  · have d0 : (r == 0) = false := by simp; omega
    have d1 : (r == 1) = false := by simp; omega
    go_wp2_with fail
    go_ret
    exact ⟨_, rfl, ⟨g, 0, 64, dd, ys, rfl, hyl, by omega, by omega, hdd, hY, hyb⟩, hT, ⟨_, by omega, hS⟩⟩

end Go.Proofs.Ytpoccjlngbdjlaa.Dr
