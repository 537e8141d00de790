/-
  What the draws of FnPuts and FnCompacts hand back: bytes, and a byte, whatever is drawn.
-/
import Derived.Test.YtjbopcplpgoiaaaBnt
namespace Go.Proofs.Ytjbopcplpgoiaaa
open Go.RowKit
set_option linter.unusedVariables false

set_option maxHeartbeats 2000000 in
theorem l2DrawCell_any (b : Nat) (a : Option Addr) (n c : Nat) (zs : List Int) (i : Int) (w : World) (h : SrcAt w b a n c zs i) (i9 : i ≤ 950) :
    Calls Try.prog 47 #[.pointer (some ⟨b, 0, none⟩)] w fun e w' => ∃ v k base, e = .returned v ∧ w.heap.size ≤ base ∧ Gath base w' v k ∧ k ≤ 21 ∧ Turned b (b + 1) w w' := by
  have hbl := h.lt
  go_enter Try.func47, Try.ntmps47
  go_wp2_with fail
  refine (l1Next_any b a n c zs i 14 _ h (by omega) (by omega) (by omega)).mono ?_
  rintro e w1 ⟨⟨r, rfl, r0, r1⟩, ht, hS⟩
  have hT := ht
  clear ht
  go_wp2_with fail
  refine (l1Next_any b a n c zs _ 14 _ hS (by omega) (by omega) (by omega)).mono ?_
  rintro e w2 ⟨⟨q, rfl, q0, q1⟩, ht, hS⟩
  have hT := hT.trans ht
  have hb2 := hS.lt
  clear ht
  go_wp2_with fail
  refine (l1Pick_any b w2.heap.size 6 a n c zs [1 + r, 1 + q, 3, 0, 20, 21] _ _ (hS.below (by go_grown)) (by omega) ?_ rfl (by omega) (by omega) hb2).mono ?_
  · intro k hk
    match k, hk with
    | 0, _ => simp [go_sem]
    | 1, _ => simp [go_sem]
    | 2, _ => simp [go_sem]
    | 3, _ => simp [go_sem]
    | 4, _ => simp [go_sem]
    | 5, _ => simp [go_sem]
  rintro e w3 ⟨⟨j, hj, rfl⟩, ht, hS⟩
  have hp : 0 ≤ ([1 + r, 1 + q, 3, 0, 20, 21] : List Int).getD j 0 ∧ ([1 + r, 1 + q, 3, 0, 20, 21] : List Int).getD j 0 ≤ 21 := by
    match j, hj with
    | 0, _ => simp; omega
    | 1, _ => simp; omega
    | 2, _ => simp
    | 3, _ => simp
    | 4, _ => simp
    | 5, _ => simp
  generalize ([1 + r, 1 + q, 3, 0, 20, 21] : List Int).getD j 0 = p at hp
  obtain ⟨p, rfl⟩ : ∃ m : Nat, p = m := ⟨p.toNat, by omega⟩
  have hT := (hT.trans (Turned.ofBelow (by go_grown))).trans ht
  have hsz := hT.size
  clear ht hj
  go_wp2_with fail
  refine (l1Some_any b a n c zs _ p _ hS (by omega) (by omega)).mono ?_
  rintro e w4 ⟨v, rfl, hG, ht, hS⟩
  have hT := hT.trans ht
  clear ht hS
  go_wp2_with fail
  go_ret
  exact ⟨_, p, _, rfl, hsz, hG, by omega, hT⟩

set_option maxHeartbeats 1000000 in
theorem drawCompactPage_any (a : Option Addr) (n c : Nat) (zs : List Int) (w : World) (rd : Reads w a zs) (hn : zs.length = n) (hm : n ≤ 1048576) (hz : ∀ z ∈ zs, 0 ≤ z ∧ z ≤ 255) :
    Calls Try.prog 22 #[.slice a n c] w fun e w' => ∃ v, e = .returned v ∧ BtAt w.heap.size w' v ∧ Below w.heap.size w w' := by
  go_enter Try.func22, Try.ntmps22
  go_wp2_with fail
  refine (l1Source_any a n c zs _ rd hn hm hz).mono ?_
  rintro e w1 ⟨rfl, hB, hlt, hS⟩
  go_wp2_with fail
  refine (l2Bent_any _ a n c zs 0 _ hS (by omega)).mono ?_
  rintro e w2 ⟨v, rfl, ⟨g, o, m, d, ys, rfl, k1, k2, k3, k4, k5, k6⟩, ht, _⟩
  have hB := hB.trans (ht.toBelow hB.size (Nat.le_refl _))
  clear ht hS rd
  go_wp2_with fail
  go_ret
  exact ⟨_, rfl, ⟨g, o, m, d, ys, rfl, k1, k2, k3, k4, k5.mono (by omega) (Nat.le_refl _), k6⟩, hB⟩

set_option maxHeartbeats 1000000 in
theorem drawNewPage_any (a : Option Addr) (n c : Nat) (zs : List Int) (w : World) (rd : Reads w a zs) (hn : zs.length = n) (hm : n ≤ 1048576) (hz : ∀ z ∈ zs, 0 ≤ z ∧ z ≤ 255) :
    Calls Try.prog 25 #[.slice a n c] w fun e w' => (∃ f : Int, e = .returned (.int .u8 f) ∧ 0 ≤ f ∧ f ≤ 255) ∧ Below w.heap.size w w' := by
  go_enter Try.func25, Try.ntmps25
  go_wp2_with fail
  refine (l1Source_any a n c zs _ rd hn hm hz).mono ?_
  rintro e w1 ⟨rfl, hB, hlt, hS⟩
  go_wp2_with fail
  refine (l1Pick_any _ w1.heap.size 3 a n c zs [0, 7, 255] 0 _ (hS.below (by go_grown)) (by omega) ?_ rfl (by omega) (by omega) hlt).mono ?_
  · intro k hk
    match k, hk with
    | 0, _ => simp [go_sem]
    | 1, _ => simp [go_sem]
    | 2, _ => simp [go_sem]
  rintro e w2 ⟨⟨j, hj, rfl⟩, ht, _⟩
  have hf : 0 ≤ ([0, 7, 255] : List Int).getD j 0 ∧ ([0, 7, 255] : List Int).getD j 0 ≤ 255 := by
    match j, hj with
    | 0, _ => simp
    | 1, _ => simp
    | 2, _ => simp
  generalize ([0, 7, 255] : List Int).getD j 0 = f at hf
  obtain ⟨f0, f1⟩ := hf
  have hB : Below w.heap.size w w2 := (hB.alloc hB.size _).trans (ht.toBelow (by simp; omega) (Nat.le_refl _))
  clear ht hS rd hj
  go_wp2_with fail
  go_ret
  exact ⟨⟨f, rfl, f0, f1⟩, hB⟩

set_option maxHeartbeats 1000000 in
theorem drawPutSlot_any (a : Option Addr) (n c : Nat) (zs : List Int) (w : World) (rd : Reads w a zs) (hn : zs.length = n) (hm : n ≤ 1048576) (hz : ∀ z ∈ zs, 0 ≤ z ∧ z ≤ 255) :
    Calls Try.prog 14 #[.slice a n c] w fun e w' => (∃ v u k base, e = .returned (.tuple #[v, u]) ∧ BtAt w.heap.size w' v ∧ w.heap.size ≤ base ∧ Gath base w' u k ∧ k ≤ 21) ∧ Below w.heap.size w w' := by
  go_enter Try.func14, Try.ntmps14
  go_wp2_with fail
  refine (l1Source_any a n c zs _ rd hn hm hz).mono ?_
  rintro e w1 ⟨rfl, hB, hlt, hS⟩
  go_wp2_with fail
  refine (l2Bent_any _ a n c zs 0 _ hS (by omega)).mono ?_
  rintro e w2 ⟨v, rfl, ⟨g, o, m, d, ys, rfl, k1, k2, k3, k4, k5, k6⟩, ht, ⟨j, hj, hS⟩⟩
  have hB := hB.trans (ht.toBelow hB.size (Nat.le_refl _))
  clear ht rd
  go_wp2_with fail
  refine (l2DrawCell_any _ a n c zs j _ hS (by omega)).mono ?_
  rintro e w3 ⟨u, k, base, rfl, hbs, hG, hk, ht⟩
  have hb2 := hB.size
  have hB := hB.trans (ht.toBelow hB.size (Nat.le_refl _))
  have k5 : BytesIn w.heap.size w3.heap.size w3 (some ⟨g, o, none⟩) ys := (k5.turned ht (.inr (by omega))).mono (by omega) ht.size
  clear ht hS
  go_wp2_with fail
  go_ret2
  exact ⟨⟨_, _, k, base, rfl, ⟨g, o, m, d, ys, rfl, k1, k2, k3, k4, k5, k6⟩, by omega, hG, hk⟩, hB⟩

end Go.Proofs.Ytjbopcplpgoiaaa
