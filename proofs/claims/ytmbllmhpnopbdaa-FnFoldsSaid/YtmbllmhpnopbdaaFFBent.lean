/-
  The contract of l1Bent: a row, bent or not, whatever is drawn.
-/
import Derived.Test.YtmbllmhpnopbdaaFFDraw

namespace Go.Proofs.Ytmbllmhpnopbdaa
open Go.RowKit

set_option maxHeartbeats 2000000 in
theorem l1Bent_any (b : Nat) (a : Option Addr) (n c : Nat) (zs : List Int) (i : Int) (w : World) (h : SrcAt w b a n c zs i) (i9 : i ≤ 800) :
    Calls Try.prog 17 #[.pointer (some ⟨b, 0, none⟩)] w fun e w' => (∃ t k v s, e = .returned (.agg #[.int .i64 t, .int .i64 k, .int .i64 v, .string s]) ∧ ByteArray.size s ≤ 9) ∧ Turned b (b + 1) w w' ∧ ∃ j, j ≤ i + 8 ∧ SrcAt w' b a n c zs j := by
  have hb := h.lt
  go_enter Try.func17, Try.ntmps17
  go_wp2_with fail
  have hS : SrcAt (w.alloc (.cells #[.int .i64 0, .int .i64 0, .int .i64 0, .string ⟨#[]⟩] 26)) b a n c zs i := h.below (by go_grown)
  have hT : Turned b (b + 1) w (w.alloc (.cells #[.int .i64 0, .int .i64 0, .int .i64 0, .string ⟨#[]⟩] 26)) := Turned.ofBelow (by go_grown)
  have hO : RowOwn (w.alloc (.cells #[.int .i64 0, .int .i64 0, .int .i64 0, .string ⟨#[]⟩] 26)) w.heap.size 0 0 0 ⟨#[]⟩ := ⟨⟨by simp [go_sem], by simp [go_sem], by simp [go_sem], by simp [go_sem]⟩, by simp [go_sem], by simp [go_sem], by simp [go_sem], by simp [go_sem]⟩
  clear h
  refine (l1Draw_any b a n c zs i _ hS (by omega)).mono ?_
  rintro e w1 ⟨⟨t, k, v, s, rfl, _, _, _, hs8⟩, ht, hS⟩
  have hT := hT.trans ht
  have hO := hO.turned ht (.inr (by omega))
  have hw : w.heap.size ≤ w1.heap.size := hT.size
  have hw' : w.heap.size < w1.heap.size := by have := ht.size; simp at this; omega
  have hbw : b < w1.heap.size := by omega
  clear ht
  go_wp2_with fail
  have hO := hO.turned (w' := w1.alloc (.cells #[.int .i64 t, .int .i64 k, .int .i64 v, .string s] 26)) (lo := b) (hi := b) (Turned.ofBelow (by go_grown)) (.inr (by omega))
  have hP : RowOwn (w1.alloc (.cells #[.int .i64 t, .int .i64 k, .int .i64 v, .string s] 26)) w1.heap.size t k v s := ⟨⟨by simp [go_sem], by simp [go_sem], by simp [go_sem], by simp [go_sem]⟩, by simp [go_sem], by simp [go_sem], by simp [go_sem], by simp [go_sem]⟩
  have hT := hT.trans (w2 := w1.alloc (.cells #[.int .i64 t, .int .i64 k, .int .i64 v, .string s] 26)) (Turned.ofBelow (by go_grown))
  refine (l1Next_any b a n c zs (i + 5) 12 _ (hS.below (by go_grown)) (by omega) (by omega) (by omega)).mono ?_
  rintro e w2 ⟨⟨r, rfl, r0, r1⟩, ht, hS⟩
  have hT := hT.trans ht
  have hO := hO.turned ht (.inr (by omega))
  have hP := hP.turned ht (.inr (by omega))
  have hw2 : w1.heap.size < w2.heap.size := by have := ht.size; simp at this; omega
  clear ht
  have hcase : r = 0 ∨ r = 1 ∨ r = 2 ∨ r = 3 ∨ 4 ≤ r := by omega
  rcases hcase with hc | hc | hc | hc | hc
  · have d0 : r = 0 := by omega
    subst d0
    go_wp2_with fail
    refine (l1Pick_any b w2.heap.size 3 a n c zs [-1, 3, 4] (i + 5 + 1) _ (hS.below (by go_grown)) (by omega) ?_ rfl (by omega) (by omega) hS.lt).mono ?_
    · intro k hk
      match k, hk with
      | 0, _ => simp [go_sem]
      | 1, _ => simp [go_sem]
      | 2, _ => simp [go_sem]
    rintro e w3 ⟨⟨j, hj, rfl⟩, ht, hS⟩
    generalize ([-1, 3, 4] : List Int).getD j 0 = y
    have hT := (hT.trans (Turned.ofBelow (by go_grown))).trans ht
    have hO := (hO.turned (lo := b) (hi := b) (Turned.ofBelow (by go_grown)) (.inr (by omega))).turned ht (.inr (by omega))
    have hP := (hP.turned (lo := b) (hi := b) (Turned.ofBelow (by go_grown)) (.inr (by omega))).turned ht (.inr (by omega))
    have hne : ¬ (w1.heap.size = w.heap.size) := by omega
    have HT : Hid (Turned b (b + 1) w w3) := hT
    have HS : Hid (SrcAt w3 b a n c zs (i + 5 + 1 + 1)) := hS
    clear ht hT hS hj
    obtain ⟨⟨o0, o1, o2, o3⟩, g0, g1, g2, g3⟩ := hO
    obtain ⟨⟨p0, p1, p2, p3⟩, h0, h1, h2, h3⟩ := hP
    go_wp2_with fail
    refine bodyPost_ret (v := .agg #[.int .i64 y, .int .i64 k, .int .i64 v, .string s]) (by simp [results, Try.results17, go_sem, o0, o1, o2, o3]) rfl ?_
    exact ⟨⟨_, _, _, _, rfl, by omega⟩, ((((HT.out.setNew hw _).setNew (Nat.le_refl _) _).setNew (Nat.le_refl _) _).setNew (Nat.le_refl _) _).setNew (Nat.le_refl _) _, _, by omega, ((((HS.out.setFar hbw _).setFar hb _).setFar hb _).setFar hb _).setFar hb _⟩
  · have d0 : r = 1 := by omega
    subst d0
    go_wp2_with fail
    refine (l1Pick_any b w2.heap.size 3 a n c zs [0, 99, 100] (i + 5 + 1) _ (hS.below (by go_grown)) (by omega) ?_ rfl (by omega) (by omega) hS.lt).mono ?_
    · intro k hk
      match k, hk with
      | 0, _ => simp [go_sem]
      | 1, _ => simp [go_sem]
      | 2, _ => simp [go_sem]
    rintro e w3 ⟨⟨j, hj, rfl⟩, ht, hS⟩
    generalize ([0, 99, 100] : List Int).getD j 0 = y
    have hT := (hT.trans (Turned.ofBelow (by go_grown))).trans ht
    have hO := (hO.turned (lo := b) (hi := b) (Turned.ofBelow (by go_grown)) (.inr (by omega))).turned ht (.inr (by omega))
    have hP := (hP.turned (lo := b) (hi := b) (Turned.ofBelow (by go_grown)) (.inr (by omega))).turned ht (.inr (by omega))
    have hne : ¬ (w1.heap.size = w.heap.size) := by omega
    have HT : Hid (Turned b (b + 1) w w3) := hT
    have HS : Hid (SrcAt w3 b a n c zs (i + 5 + 1 + 1)) := hS
    clear ht hT hS hj
    obtain ⟨⟨o0, o1, o2, o3⟩, g0, g1, g2, g3⟩ := hO
    obtain ⟨⟨p0, p1, p2, p3⟩, h0, h1, h2, h3⟩ := hP
    go_wp2_with fail
    refine bodyPost_ret (v := .agg #[.int .i64 t, .int .i64 y, .int .i64 v, .string s]) (by simp [results, Try.results17, go_sem, o0, o1, o2, o3]) rfl ?_
    exact ⟨⟨_, _, _, _, rfl, by omega⟩, ((((HT.out.setNew hw _).setNew (Nat.le_refl _) _).setNew (Nat.le_refl _) _).setNew (Nat.le_refl _) _).setNew (Nat.le_refl _) _, _, by omega, ((((HS.out.setFar hbw _).setFar hb _).setFar hb _).setFar hb _).setFar hb _⟩
  · have d0 : r = 2 := by omega
    subst d0
    go_wp2_with fail
    refine (l1Pick_any b w2.heap.size 2 a n c zs [-1, 1000] (i + 5 + 1) _ (hS.below (by go_grown)) (by omega) ?_ rfl (by omega) (by omega) hS.lt).mono ?_
    · intro k hk
      match k, hk with
      | 0, _ => simp [go_sem]
      | 1, _ => simp [go_sem]
    rintro e w3 ⟨⟨j, hj, rfl⟩, ht, hS⟩
    generalize ([-1, 1000] : List Int).getD j 0 = y
    have hT := (hT.trans (Turned.ofBelow (by go_grown))).trans ht
    have hO := (hO.turned (lo := b) (hi := b) (Turned.ofBelow (by go_grown)) (.inr (by omega))).turned ht (.inr (by omega))
    have hP := (hP.turned (lo := b) (hi := b) (Turned.ofBelow (by go_grown)) (.inr (by omega))).turned ht (.inr (by omega))
    have hne : ¬ (w1.heap.size = w.heap.size) := by omega
    have HT : Hid (Turned b (b + 1) w w3) := hT
    have HS : Hid (SrcAt w3 b a n c zs (i + 5 + 1 + 1)) := hS
    clear ht hT hS hj
    obtain ⟨⟨o0, o1, o2, o3⟩, g0, g1, g2, g3⟩ := hO
    obtain ⟨⟨p0, p1, p2, p3⟩, h0, h1, h2, h3⟩ := hP
    go_wp2_with fail
    refine bodyPost_ret (v := .agg #[.int .i64 t, .int .i64 k, .int .i64 y, .string s]) (by simp [results, Try.results17, go_sem, o0, o1, o2, o3]) rfl ?_
    exact ⟨⟨_, _, _, _, rfl, by omega⟩, ((((HT.out.setNew hw _).setNew (Nat.le_refl _) _).setNew (Nat.le_refl _) _).setNew (Nat.le_refl _) _).setNew (Nat.le_refl _) _, _, by omega, ((((HS.out.setFar hbw _).setFar hb _).setFar hb _).setFar hb _).setFar hb _⟩
  · have d0 : r = 3 := by omega
    subst d0
    go_wp2_with fail
    refine (l1Next_any b a n c zs (i + 5 + 1) 3 _ (hS.below (by go_grown)) (by omega) (by omega) (by omega)).mono ?_
    rintro e w3 ⟨⟨r5, rfl, p5, q5⟩, ht, hS⟩
    obtain ⟨x, hx8, hcs⟩ : ∃ x : ByteArray, x.size ≤ 9 ∧ w3.cell? ⟨w2.heap.size, r5.toNat, none⟩ = some (.string x) := by
      have hk : r5.toNat < 3 := by omega
      generalize r5.toNat = k at hk
      match k, hk with
      | 0, _ => exact ⟨⟨#[65]⟩, by decide, ht.cell (by simp [go_sem]) (.inr (show b + 1 ≤ w2.heap.size by omega))⟩
      | 1, _ => exact ⟨⟨#[97, 98, 99, 100, 101, 102, 103, 104, 105]⟩, by decide, ht.cell (by simp [go_sem]) (.inr (show b + 1 ≤ w2.heap.size by omega))⟩
      | 2, _ => exact ⟨⟨#[97, 32, 98]⟩, by decide, ht.cell (by simp [go_sem]) (.inr (show b + 1 ≤ w2.heap.size by omega))⟩
    have hT := (hT.trans (Turned.ofBelow (by go_grown))).trans ht
    have hO := (hO.turned (lo := b) (hi := b) (Turned.ofBelow (by go_grown)) (.inr (by omega))).turned ht (.inr (by omega))
    have hP := (hP.turned (lo := b) (hi := b) (Turned.ofBelow (by go_grown)) (.inr (by omega))).turned ht (.inr (by omega))
    have hne : ¬ (w1.heap.size = w.heap.size) := by omega
    have HT : Hid (Turned b (b + 1) w w3) := hT
    have HS : Hid (SrcAt w3 b a n c zs (i + 5 + 1 + 1)) := hS
    clear ht hT hS
    obtain ⟨⟨o0, o1, o2, o3⟩, g0, g1, g2, g3⟩ := hO
    obtain ⟨⟨p0, p1, p2, p3⟩, h0, h1, h2, h3⟩ := hP
    go_wp2_with fail
    refine bodyPost_ret (v := .agg #[.int .i64 t, .int .i64 k, .int .i64 v, .string x]) (by simp [results, Try.results17, go_sem, o0, o1, o2, o3]) rfl ?_
    exact ⟨⟨_, _, _, _, rfl, hx8⟩, ((((HT.out.setNew hw _).setNew (Nat.le_refl _) _).setNew (Nat.le_refl _) _).setNew (Nat.le_refl _) _).setNew (Nat.le_refl _) _, _, by omega, ((((HS.out.setFar hbw _).setFar hb _).setFar hb _).setFar hb _).setFar hb _⟩
  · have d0 : (r == 0) = false := by simp; omega
    have d1 : (r == 1) = false := by simp; omega
    have d2 : (r == 2) = false := by simp; omega
    have d3 : (r == 3) = false := by simp; omega
    have hne : ¬ (w1.heap.size = w.heap.size) := by omega
    have HT : Hid (Turned b (b + 1) w w2) := hT
    have HS : Hid (SrcAt w2 b a n c zs (i + 5 + 1)) := hS
    clear hT hS
    obtain ⟨⟨o0, o1, o2, o3⟩, g0, g1, g2, g3⟩ := hO
    obtain ⟨⟨p0, p1, p2, p3⟩, h0, h1, h2, h3⟩ := hP
    go_wp2_with fail
    refine bodyPost_ret (v := .agg #[.int .i64 t, .int .i64 k, .int .i64 v, .string s]) (by simp [results, Try.results17, go_sem, o0, o1, o2, o3]) rfl ?_
    exact ⟨⟨_, _, _, _, rfl, by omega⟩, (((HT.out.setNew (Nat.le_refl _) _).setNew (Nat.le_refl _) _).setNew (Nat.le_refl _) _).setNew (Nat.le_refl _) _, _, by omega, (((HS.out.setFar hb _).setFar hb _).setFar hb _).setFar hb _⟩

end Go.Proofs.Ytmbllmhpnopbdaa
