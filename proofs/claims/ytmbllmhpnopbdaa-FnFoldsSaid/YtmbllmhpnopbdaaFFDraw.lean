/-
  The contracts of l1Source, l1Pick, l1Draw: a source, a number out of a list, a row: whatever is drawn is within its bounds.
-/
import Derived.Test.YtmbllmhpnopbdaaFFSrc

namespace Go.Proofs.Ytmbllmhpnopbdaa
open Go.RowKit

set_option maxHeartbeats 400000 in
theorem l1Source_any (a : Option Addr) (n c : Nat) (zs : List Int) (w : World) (rd : Reads w a zs) (hn : zs.length = n) (hm : n ≤ 1048576) (hz : ∀ z ∈ zs, 0 ≤ z ∧ z ≤ 255) :
    Calls Try.prog 11 #[.slice a n c] w fun e w' => e = .returned (.pointer (some ⟨w.heap.size, 0, none⟩)) ∧ Below w.heap.size w w' ∧ w.heap.size < w'.heap.size ∧ SrcAt w' w.heap.size a n c zs 0 := by
  have hfar : ∀ p, a = some p → zs ≠ [] → p.block < w.heap.size := by
    intro p hp hne
    rcases rd with hr | ⟨x, o, ha, hc⟩
    · exact absurd hr hne
    · rw [ha] at hp
      cases hp
      exact World.block_lt_of_cell? w _ (hc 0 (List.length_pos_iff.2 hne))
  have HF : Hid (∀ p, a = some p → zs ≠ [] → p.block < w.heap.size) := hfar
  clear hfar
  go_enter Try.func11, Try.ntmps11
  go_wp2
  go_ret
  exact ⟨rfl, by go_grown, by simp, ⟨by simp [go_sem], by simp [go_sem], by simp [go_sem], rd.below (B := w.heap.size) (by go_grown) (Nat.le_refl _), HF.out, hn, hm, hz, by omega, by omega⟩⟩

theorem SrcAt.below {w w' : World} {b : Nat} {a : Option Addr} {n c : Nat} {zs : List Int} {i : Int} (h : SrcAt w b a n c zs i) (hb : Below w.heap.size w w') : SrcAt w' b a n c zs i := by
  have hlt : b < w.heap.size := World.block_lt_of_cell? w _ h.c0
  exact ⟨(hb.cell (p := ⟨b, 0, none⟩) hlt).trans h.c0, (hb.cell (p := ⟨b, 1, none⟩) hlt).trans h.c1, (hb.frozen (p := ⟨b, 1, none⟩) hlt).trans h.f1, h.rd.below hb (Nat.le_refl _), h.far, h.hn, h.hm, h.hz, h.i0, h.i1⟩

theorem SrcAt.lt {w : World} {b : Nat} {a : Option Addr} {n c : Nat} {zs : List Int} {i : Int} (h : SrcAt w b a n c zs i) : b < w.heap.size := World.block_lt_of_cell? w _ h.c0

/-- Block g holds the numbers vs. -/
def IntsAt (w : World) (g : Nat) (vs : List Int) : Prop := ∀ k, k < vs.length → w.cell? ⟨g, k, none⟩ = some (.int .i64 (vs.getD k 0))

set_option maxHeartbeats 400000 in
theorem l1Pick_any (b g L : Nat) (a : Option Addr) (n c : Nat) (zs vs : List Int) (i : Int) (w : World) (h : SrcAt w b a n c zs i) (i9 : i ≤ 999) (hv : IntsAt w g vs) (hL : vs.length = L) (L0 : 1 ≤ L) (L1 : L ≤ 100) (hg : b < g) :
    Calls Try.prog 35 #[.pointer (some ⟨b, 0, none⟩), .slice (some ⟨g, 0, none⟩) L L] w fun e w' => (∃ k, k < vs.length ∧ e = .returned (.int .i64 (vs.getD k 0))) ∧ Turned b (b + 1) w w' ∧ SrcAt w' b a n c zs (i + 1) := by
  go_enter Try.func35, Try.ntmps35
  go_wp2_with fail
  refine (l1Next_any b a n c zs i L _ h i9 (by omega) (by omega)).mono ?_
  rintro e w1 ⟨⟨r, rfl, r0, r1⟩, ht, hS⟩
  have hk : r.toNat < vs.length := by omega
  have hc := ht.cell (hv r.toNat hk) (.inr (show b + 1 ≤ g by omega))
  obtain ⟨x, hx⟩ : ∃ x, x = vs.getD r.toNat 0 := ⟨_, rfl⟩
  rw [← hx] at hc
  have HX : Hid (x = vs.getD r.toNat 0) := hx
  have HH : Hid (Turned b (b + 1) w w1 ∧ SrcAt w1 b a n c zs (i + 1)) := ⟨ht, hS⟩
  clear hx ht hS h hv
  go_wp2_with fail
  go_ret
  exact ⟨⟨r.toNat, hk, by rw [← HX.out]; rfl⟩, HH.out⟩

/-- Block b holds a row that may be written. -/
structure RowOwn (w : World) (b : Nat) (t k v : Int) (s : ByteArray) : Prop where
  at4 : RowAt w b t k v s
  f0 : w.frozen? ⟨b, 0, none⟩ = false
  f1 : w.frozen? ⟨b, 1, none⟩ = false
  f2 : w.frozen? ⟨b, 2, none⟩ = false
  f3 : w.frozen? ⟨b, 3, none⟩ = false

theorem RowOwn.turned {lo hi b : Nat} {w w' : World} {t k v : Int} {s : ByteArray} (h : RowOwn w b t k v s) (ht : Turned lo hi w w') (hn : b < lo ∨ hi ≤ b) : RowOwn w' b t k v s :=
  ⟨⟨ht.cell h.at4.c0 hn, ht.cell h.at4.c1 hn, ht.cell h.at4.c2 hn, ht.cell h.at4.c3 hn⟩, (ht.frozen h.at4.c0 hn).trans h.f0, (ht.frozen h.at4.c1 hn).trans h.f1, (ht.frozen h.at4.c2 hn).trans h.f2, (ht.frozen h.at4.c3 hn).trans h.f3⟩

theorem Turned.setNew {lo hi : Nat} {w w' : World} (h : Turned lo hi w w') {p : Addr} (hp : w.heap.size ≤ p.block) (v : Value) : Turned lo hi w (w'.setCell p v) :=
  ⟨h.os, h.tape, h.output, by have := h.size; simp [World.setCell]; omega, fun k hk hn => (Below.heap_setCell _ _ _ _ (by omega)).trans (h.block k hk hn)⟩

theorem SrcAt.setFar {w : World} {b : Nat} {a : Option Addr} {n c : Nat} {zs : List Int} {i : Int} (h : SrcAt w b a n c zs i) {p : Addr} (hp : b < p.block) (v : Value) : SrcAt (w.setCell p v) b a n c zs i := by
  have hne : ∀ o, p ≠ ⟨b, o, none⟩ := fun o e => by have := congrArg Addr.block e; simp at this; omega
  refine ⟨by rw [World.cell?_setCell_other _ _ _ _ (hne 0)]; exact h.c0, by rw [World.cell?_setCell_other _ _ _ _ (hne 1)]; exact h.c1, by rw [World.frozen?_setCell]; exact h.f1, ?_, h.far, h.hn, h.hm, h.hz, h.i0, h.i1⟩
  rcases h.rd with hr | ⟨x, o, ha, hc⟩
  · exact .inl hr
  · refine .inr ⟨x, o, ha, fun k hk => ?_⟩
    have hx : x < b := h.far ⟨x, o, none⟩ ha (by intro e; rw [e] at hk; simp at hk)
    rw [World.cell?_setCell_other _ _ _ _ (fun e => by have := congrArg Addr.block e; simp at this; omega)]
    exact hc k hk

set_option maxHeartbeats 1000000 in
theorem l1Draw_any (b : Nat) (a : Option Addr) (n c : Nat) (zs : List Int) (i : Int) (w : World) (h : SrcAt w b a n c zs i) (i9 : i ≤ 900) :
    Calls Try.prog 14 #[.pointer (some ⟨b, 0, none⟩)] w fun e w' => (∃ t k v s, e = .returned (.agg #[.int .i64 t, .int .i64 k, .int .i64 v, .string s]) ∧ (0 ≤ t ∧ t ≤ 3) ∧ (1 ≤ k ∧ k ≤ 99) ∧ (0 ≤ v ∧ v ≤ 999) ∧ ByteArray.size s ≤ 8) ∧ Turned b (b + 1) w w' ∧ SrcAt w' b a n c zs (i + 5) := by
  have hb := h.lt
  go_enter Try.func14, Try.ntmps14
  go_wp2_with fail
  have hS : SrcAt (w.alloc (.cells #[.int .i64 0, .int .i64 0, .int .i64 0, .string ⟨#[]⟩] 26)) b a n c zs i := h.below (by go_grown)
  have hT : Turned b (b + 1) w (w.alloc (.cells #[.int .i64 0, .int .i64 0, .int .i64 0, .string ⟨#[]⟩] 26)) := Turned.ofBelow (by go_grown)
  have hO : RowOwn (w.alloc (.cells #[.int .i64 0, .int .i64 0, .int .i64 0, .string ⟨#[]⟩] 26)) w.heap.size 0 0 0 ⟨#[]⟩ := ⟨⟨by simp [go_sem], by simp [go_sem], by simp [go_sem], by simp [go_sem]⟩, by simp [go_sem], by simp [go_sem], by simp [go_sem], by simp [go_sem]⟩
  clear h
  refine (l1Next_any b a n c zs i 3 _ hS (by omega) (by omega) (by omega)).mono ?_
  rintro e w1 ⟨⟨r1, rfl, p1, q1⟩, ht, hS⟩
  have hT := hT.trans ht
  have hO := hO.turned ht (.inr (by omega))
  clear ht
  go_wp2_with fail
  refine (l1Next_any b a n c zs (i + 1) 6 _ hS (by omega) (by omega) (by omega)).mono ?_
  rintro e w2 ⟨⟨r2, rfl, p2, q2⟩, ht, hS⟩
  have hT := hT.trans ht
  have hO := hO.turned ht (.inr (by omega))
  clear ht
  go_wp2_with fail
  refine (l1Next_any b a n c zs (i + 1 + 1) 9 _ hS (by omega) (by omega) (by omega)).mono ?_
  rintro e w3 ⟨⟨r3, rfl, p3, q3⟩, ht, hS⟩
  have hT := hT.trans ht
  have hO := hO.turned ht (.inr (by omega))
  have hb3 : b < w3.heap.size := hS.lt
  clear ht
  go_wp2_with fail
  refine (l1Pick_any b w3.heap.size 3 a n c zs [r3, 300, 999] (i + 1 + 1 + 1) _ (hS.below (by go_grown)) (by omega) ?_ rfl (by omega) (by omega) hb3).mono ?_
  · intro k hk
    match k, hk with
    | 0, _ => simp [go_sem]
    | 1, _ => simp [go_sem]
    | 2, _ => simp [go_sem]
  rintro e w4 ⟨⟨j, hj, rfl⟩, ht, hS⟩
  have hv : 0 ≤ [r3, 300, 999].getD j 0 ∧ [r3, 300, 999].getD j 0 ≤ 999 := by
    match j, hj with
    | 0, _ => simp; omega
    | 1, _ => simp
    | 2, _ => simp
  generalize [r3, 300, 999].getD j 0 = v at hv
  have hT := (hT.trans (Turned.ofBelow (by go_grown))).trans ht
  have hO := (hO.turned (lo := b) (hi := b) (Turned.ofBelow (by go_grown)) (.inr (by omega))).turned ht (.inr (by omega))
  have hb4 : b < w4.heap.size := hS.lt
  clear ht hb3
  go_wp2_with fail
  refine (l1Next_any b a n c zs (i + 1 + 1 + 1 + 1) 4 _ (hS.below (by go_grown)) (by omega) (by omega) (by omega)).mono ?_
  rintro e w5 ⟨⟨r5, rfl, p5, q5⟩, ht, hS⟩
  obtain ⟨s, hs8, hcs⟩ : ∃ s : ByteArray, s.size ≤ 8 ∧ w5.cell? ⟨w4.heap.size, r5.toNat, none⟩ = some (.string s) := by
    have hk : r5.toNat < 4 := by omega
    generalize r5.toNat = k at hk
    match k, hk with
    | 0, _ => exact ⟨⟨#[]⟩, by decide, ht.cell (by simp [go_sem]) (.inr (show b + 1 ≤ w4.heap.size by omega))⟩
    | 1, _ => exact ⟨⟨#[97]⟩, by decide, ht.cell (by simp [go_sem]) (.inr (show b + 1 ≤ w4.heap.size by omega))⟩
    | 2, _ => exact ⟨⟨#[97, 98, 99]⟩, by decide, ht.cell (by simp [go_sem]) (.inr (show b + 1 ≤ w4.heap.size by omega))⟩
    | 3, _ => exact ⟨⟨#[97, 98, 99, 100, 101, 102, 103, 104]⟩, by decide, ht.cell (by simp [go_sem]) (.inr (show b + 1 ≤ w4.heap.size by omega))⟩
  have hT := (hT.trans (Turned.ofBelow (by go_grown))).trans ht
  have hO := (hO.turned (lo := b) (hi := b) (Turned.ofBelow (by go_grown)) (.inr (by omega))).turned ht (.inr (by omega))
  have HT : Hid (Turned b (b + 1) w w5) := hT
  have HS : Hid (SrcAt w5 b a n c zs (i + 1 + 1 + 1 + 1 + 1)) := hS
  clear ht hT hS hb4
  obtain ⟨⟨o0, o1, o2, o3⟩, g0, g1, g2, g3⟩ := hO
  go_wp2_with fail
  refine bodyPost_ret (v := .agg #[.int .i64 r1, .int .i64 (1 + r2), .int .i64 v, .string s]) (by simp [results, Try.results14, go_sem, o0, o1, o2, o3]) rfl ?_
  rw [show i + 5 = i + 1 + 1 + 1 + 1 + 1 from by omega]
  exact ⟨⟨_, _, _, _, rfl, by omega, by omega, hv, hs8⟩, (((HT.out.setNew (Nat.le_refl _) _).setNew (Nat.le_refl _) _).setNew (Nat.le_refl _) _).setNew (Nat.le_refl _) _, (((HS.out.setFar hb _).setFar hb _).setFar hb _).setFar hb _⟩

end Go.Proofs.Ytmbllmhpnopbdaa
