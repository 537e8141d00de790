/-
  The contracts of l1Source, l1Pick, l1Draw: a source, a number out of a list, a row: whatever is drawn is within its bounds.
-/
import Derived.Test.YtcjkjenebnodbaaDSrc
namespace Go.Proofs.Ytcjkjenebnodbaa.Dr
open Go.RowKit

set_option maxHeartbeats 400000 in
theorem l1Source_any (a : Option Addr) (n c : Nat) (zs : List Int) (w : World) (rd : Reads w a zs) (hn : zs.length = n) (hm : n ≤ 1048576) (hz : ∀ z ∈ zs, 0 ≤ z ∧ z ≤ 255) :
    Calls Try.prog 66 #[.slice a n c] w fun e w' => e = .returned (.pointer (some ⟨w.heap.size, 0, none⟩)) ∧ Below w.heap.size w w' ∧ w.heap.size < w'.heap.size ∧ SrcAt w' w.heap.size a n c zs 0 := by
  have hfar : ∀ p, a = some p → zs ≠ [] → p.block < w.heap.size := by
    intro p hp hne
    rcases rd with hr | ⟨x, o, ha, hc⟩
    · exact absurd hr hne
    · rw [ha] at hp
      cases hp
      exact World.block_lt_of_cell? w _ (hc 0 (List.length_pos_iff.2 hne))
  have HF : Hid (∀ p, a = some p → zs ≠ [] → p.block < w.heap.size) := hfar
  clear hfar
  go_enter Try.func66, Try.ntmps66
  go_wp2
  go_ret
  exact ⟨rfl, by go_grown, by simp, ⟨by simp [go_sem], by simp [go_sem], by simp [go_sem], rd.below (B := w.heap.size) (by go_grown) (Nat.le_refl _), HF.out, hn, hm, hz, by omega, by omega⟩⟩

theorem SrcAt.below {w w' : World} {b : Nat} {a : Option Addr} {n c : Nat} {zs : List Int} {i : Int} (h : SrcAt w b a n c zs i) (hb : Below w.heap.size w w') : SrcAt w' b a n c zs i := by
  have hlt : b < w.heap.size := World.block_lt_of_cell? w _ h.c0
  exact ⟨(hb.cell (p := ⟨b, 0, none⟩) hlt).trans h.c0, (hb.cell (p := ⟨b, 1, none⟩) hlt).trans h.c1, (hb.frozen (p := ⟨b, 1, none⟩) hlt).trans h.f1, h.rd.below hb (Nat.le_refl _), h.far, h.hn, h.hm, h.hz, h.i0, h.i1⟩

theorem SrcAt.lt {w : World} {b : Nat} {a : Option Addr} {n c : Nat} {zs : List Int} {i : Int} (h : SrcAt w b a n c zs i) : b < w.heap.size := World.block_lt_of_cell? w _ h.c0

/-- Block g holds the numbers vs. -/
def IntsAt (w : World) (g : Nat) (vs : List Int) : Prop := ∀ k, k < vs.length → w.cell? ⟨g, k, none⟩ = some (.int .i64 (vs.getD k 0))

set_option maxHeartbeats 400000 in
theorem l1Pick_any (b g L : Nat) (a : Option Addr) (n c : Nat) (zs vs : List Int) (i : Int) (w : World) (h : SrcAt w b a n c zs i) (i9 : i ≤ 99999) (hv : IntsAt w g vs) (hL : vs.length = L) (L0 : 1 ≤ L) (L1 : L ≤ 100) (hg : b < g) :
    Calls Try.prog 83 #[.pointer (some ⟨b, 0, none⟩), .slice (some ⟨g, 0, none⟩) L L] w fun e w' => (∃ k, k < vs.length ∧ e = .returned (.int .i64 (vs.getD k 0))) ∧ Turned b (b + 1) w w' ∧ SrcAt w' b a n c zs (i + 1) := by
  go_enter Try.func83, Try.ntmps83
  go_wp2_with fail
  refine (l1Next_any b a n c zs i L _ h i9 (by omega) (by omega)).mono ?_
  rintro e w1 ⟨⟨r, rfl, r0, r1⟩, ht, hS⟩
  have hk : r.toNat < vs.length := by omega
  have hc := ht.cell (hv r.toNat hk) (.inr (show b + 1 ≤ g by omega))
  obtain ⟨x, hx⟩ : ∃ x, x = vs.getD r.toNat 0 := ⟨_, rfl⟩
  rw [← hx] at hc
  have HX : Hid (x = vs.getD r.toNat 0) := hx
  have HH : Hid (Turned b (b + 1) w w1 ∧ SrcAt w1 b a n c zs (i + 1)) := ⟨ht, hS⟩
  clear hx ht hS h hv
  go_wp2_with fail
  go_ret
  exact ⟨⟨r.toNat, hk, by rw [← HX.out]; rfl⟩, HH.out⟩

theorem Turned.setNew {lo hi : Nat} {w w' : World} (h : Turned lo hi w w') {p : Addr} (hp : w.heap.size ≤ p.block) (v : Value) : Turned lo hi w (w'.setCell p v) :=
  ⟨h.os, h.tape, h.output, by have := h.size; simp [World.setCell]; omega, fun k hk hn => (Below.heap_setCell _ _ _ _ (by omega)).trans (h.block k hk hn)⟩

theorem SrcAt.setFar {w : World} {b : Nat} {a : Option Addr} {n c : Nat} {zs : List Int} {i : Int} (h : SrcAt w b a n c zs i) {p : Addr} (hp : b < p.block) (v : Value) : SrcAt (w.setCell p v) b a n c zs i := by
  have hne : ∀ o, p ≠ ⟨b, o, none⟩ := fun o e => by have := congrArg Addr.block e; simp at this; omega
  refine ⟨by rw [World.cell?_setCell_other _ _ _ _ (hne 0)]; exact h.c0, by rw [World.cell?_setCell_other _ _ _ _ (hne 1)]; exact h.c1, by rw [World.frozen?_setCell]; exact h.f1, ?_, h.far, h.hn, h.hm, h.hz, h.i0, h.i1⟩
  rcases h.rd with hr | ⟨x, o, ha, hc⟩
  · exact .inl hr
  · refine .inr ⟨x, o, ha, fun k hk => ?_⟩
    have hx : x < b := h.far ⟨x, o, none⟩ ha (by intro e; rw [e] at hk; simp at hk)
    rw [World.cell?_setCell_other _ _ _ _ (fun e => by have := congrArg Addr.block e; simp at this; omega)]
    exact hc k hk

end Go.Proofs.Ytcjkjenebnodbaa.Dr

