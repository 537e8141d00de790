/-
  The contracts of what draws: numbers, picks, rows out of the bytes of a code: whatever they are, each is within its bounds.
-/
import Derived.Test.YtmbllmhpnopbdaaFFRowB

namespace Go.Proofs.Ytmbllmhpnopbdaa
open Go.RowKit

/-- Block b holds a source: the slice of a code's bytes, and how many were read. -/
structure SrcAt (w : World) (b : Nat) (a : Option Addr) (n c : Nat) (zs : List Int) (i : Int) : Prop where
  c0 : w.cell? ⟨b, 0, none⟩ = some (.slice a n c)
  c1 : w.cell? ⟨b, 1, none⟩ = some (.int .i64 i)
  f1 : w.frozen? ⟨b, 1, none⟩ = false
  rd : Reads w a zs
  far : ∀ p, a = some p → zs ≠ [] → p.block < b
  hn : zs.length = n
  hm : n ≤ 1048576
  hz : ∀ z ∈ zs, 0 ≤ z ∧ z ≤ 255
  i0 : 0 ≤ i
  i1 : i ≤ 1000

theorem SrcAt.turned {w w' : World} {b : Nat} {a : Option Addr} {n c : Nat} {zs : List Int} {i j : Int} (h : SrcAt w b a n c zs i) (ht : Turned b (b + 1) w w') (hc : w'.cell? ⟨b, 0, none⟩ = some (.slice a n c)) (hj : w'.cell? ⟨b, 1, none⟩ = some (.int .i64 j)) (hf : w'.frozen? ⟨b, 1, none⟩ = false) (j0 : 0 ≤ j) (j1 : j ≤ 1000) : SrcAt w' b a n c zs j := by
  refine ⟨hc, hj, hf, ?_, h.far, h.hn, h.hm, h.hz, j0, j1⟩
  rcases h.rd with hr | ⟨x, o, ha, hcs⟩
  · exact .inl hr
  · refine .inr ⟨x, o, ha, fun k hk => ht.cell (hcs k hk) (.inl ?_)⟩
    have hf := h.far ⟨x, o, none⟩ ha (by intro e; rw [e] at hk; simp at hk)
    exact hf

theorem SrcAt.stepped {w : World} {b : Nat} {a : Option Addr} {n c : Nat} {zs : List Int} {i : Int} (h : SrcAt w b a n c zs i) (i9 : i ≤ 999) (q : Nat) : Turned b (b + 1) w ((w.setCell ⟨b, 1, none⟩ (.int .i64 (i + 1))).drewN q) ∧ SrcAt ((w.setCell ⟨b, 1, none⟩ (.int .i64 (i + 1))).drewN q) b a n c zs (i + 1) := by
  have ht : Turned b (b + 1) w ((w.setCell ⟨b, 1, none⟩ (.int .i64 (i + 1))).drewN q) := by
    have h1 := (Turned.refl b (b + 1) w).setCell (p := ⟨b, 1, none⟩) (Nat.le_refl _) (by simp) (.int .i64 (i + 1))
    exact ⟨h1.os, h1.tape, h1.output, h1.size, h1.block⟩
  have i0 := h.i0
  refine ⟨ht, h.turned ht ?_ ?_ ?_ (by omega) (by omega)⟩
  · show (w.setCell ⟨b, 1, none⟩ (.int .i64 (i + 1))).cell? ⟨b, 0, none⟩ = _
    rw [World.cell?_setCell_other _ _ _ _ (by simp)]
    exact h.c0
  · show (w.setCell ⟨b, 1, none⟩ (.int .i64 (i + 1))).cell? ⟨b, 1, none⟩ = _
    exact World.cell?_setCell_same _ _ _ h.c1
  · show (w.setCell ⟨b, 1, none⟩ (.int .i64 (i + 1))).frozen? ⟨b, 1, none⟩ = _
    rw [World.frozen?_setCell]
    exact h.f1

set_option maxHeartbeats 400000 in
theorem l1Next_nil (b : Nat) (a : Option Addr) (c : Nat) (zs : List Int) (i m : Int) (w : World) (h : SrcAt w b a 0 c zs i) (i9 : i ≤ 999) (m0 : 1 ≤ m) (m1 : m ≤ 65536) :
    Calls Try.prog 16 #[.pointer (some ⟨b, 0, none⟩), .int .i64 m] w fun e w' => (∃ r, e = .returned (.int .i64 r) ∧ 0 ≤ r ∧ r < m) ∧ Turned b (b + 1) w w' ∧ SrcAt w' b a 0 c zs (i + 1) := by
  have hS := h.stepped i9 0
  obtain ⟨c0, c1, f1, _, _, _, _, _, i0, _⟩ := h
  have HS : Hid (Turned b (b + 1) w ((w.setCell ⟨b, 1, none⟩ (.int .i64 (i + 1))).drewN 0) ∧ SrcAt ((w.setCell ⟨b, 1, none⟩ (.int .i64 (i + 1))).drewN 0) b a 0 c zs (i + 1)) := hS
  clear hS
  have hm0 : ¬ (m = 0) := by omega
  have hr0 : 0 ≤ i * 7 % m := Int.emod_nonneg _ (by omega)
  have hr1 : i * 7 % m < m := Int.emod_lt_of_pos _ (by omega)
  go_enter Try.func16, Try.ntmps16
  go_wp2
  go_ret
  exact ⟨⟨_, rfl, hr0, hr1⟩, HS.out⟩

set_option maxHeartbeats 400000 in
theorem l1Next_small (b x o n : Nat) (c : Nat) (zs : List Int) (i m : Int) (w : World) (h : SrcAt w b (some ⟨x, o, none⟩) n c zs i) (i9 : i ≤ 999) (m0 : 1 ≤ m) (m1 : m ≤ 200) (hp : 0 < n)
    (y : Int) (y0 : 0 ≤ y) (y1 : y ≤ 255) (hy : w.cell? ⟨x, o + (i % n).toNat, none⟩ = some (.int .u8 y)) (hx : x < b) :
    Calls Try.prog 16 #[.pointer (some ⟨b, 0, none⟩), .int .i64 m] w fun e w' => (∃ r, e = .returned (.int .i64 r) ∧ 0 ≤ r ∧ r < m) ∧ Turned b (b + 1) w w' ∧ SrcAt w' b (some ⟨x, o, none⟩) n c zs (i + 1) := by
  have HS : Hid (∀ q, Turned b (b + 1) w ((w.setCell ⟨b, 1, none⟩ (.int .i64 (i + 1))).drewN q) ∧ SrcAt ((w.setCell ⟨b, 1, none⟩ (.int .i64 (i + 1))).drewN q) b (some ⟨x, o, none⟩) n c zs (i + 1)) := h.stepped i9
  obtain ⟨c0, c1, f1, _, _, _, hn, _, i0, _⟩ := h
  have hne : ¬ (b = x) := by omega
  have hm0 : ¬ (m = 0) := by omega
  have hn0 : ((n : Int) == 0) = false := by simp; omega
  have hq0 : 0 ≤ i % (n : Int) := Int.emod_nonneg _ (by omega)
  have hq1 : i % (n : Int) < (n : Int) := Int.emod_lt_of_pos _ (by omega)
  have hd0 : 0 ≤ i / (n : Int) := Int.ediv_nonneg i0 (by omega)
  have hd1 : i / (n : Int) ≤ 999 := Int.le_trans (Int.ediv_le_self _ i0) i9
  have hr0 : 0 ≤ (y + i / (n : Int) * 37) % m := Int.emod_nonneg _ (by omega)
  have hr1 : (y + i / (n : Int) * 37) % m < m := Int.emod_lt_of_pos _ (by omega)
  go_enter Try.func16, Try.ntmps16
  go_wp2
  go_quiet (fail)
  go_wp2
  go_ret
  exact ⟨⟨_, rfl, hr0, hr1⟩, HS.out _⟩

set_option maxHeartbeats 400000 in
theorem l1Next_big (b x o n : Nat) (c : Nat) (zs : List Int) (i m : Int) (w : World) (h : SrcAt w b (some ⟨x, o, none⟩) n c zs i) (i9 : i ≤ 999) (m0 : 200 < m) (m1 : m ≤ 65536) (hp : 0 < n)
    (y z : Int) (y0 : 0 ≤ y) (y1 : y ≤ 255) (z0 : 0 ≤ z) (z1 : z ≤ 255) (hy : w.cell? ⟨x, o + (i % n).toNat, none⟩ = some (.int .u8 y)) (hz : w.cell? ⟨x, o + ((i + 1) % n).toNat, none⟩ = some (.int .u8 z)) (hx : x < b) :
    Calls Try.prog 16 #[.pointer (some ⟨b, 0, none⟩), .int .i64 m] w fun e w' => (∃ r, e = .returned (.int .i64 r) ∧ 0 ≤ r ∧ r < m) ∧ Turned b (b + 1) w w' ∧ SrcAt w' b (some ⟨x, o, none⟩) n c zs (i + 1) := by
  have HS : Hid (∀ q, Turned b (b + 1) w ((w.setCell ⟨b, 1, none⟩ (.int .i64 (i + 1))).drewN q) ∧ SrcAt ((w.setCell ⟨b, 1, none⟩ (.int .i64 (i + 1))).drewN q) b (some ⟨x, o, none⟩) n c zs (i + 1)) := h.stepped i9
  obtain ⟨c0, c1, f1, _, _, _, hn, _, i0, _⟩ := h
  have hne : ¬ (b = x) := by omega
  have hm0 : ¬ (m = 0) := by omega
  have hn0 : ((n : Int) == 0) = false := by simp; omega
  have hq0 : 0 ≤ i % (n : Int) := Int.emod_nonneg _ (by omega)
  have hq1 : i % (n : Int) < (n : Int) := Int.emod_lt_of_pos _ (by omega)
  have hp0 : 0 ≤ (i + 1) % (n : Int) := Int.emod_nonneg _ (by omega)
  have hp1 : (i + 1) % (n : Int) < (n : Int) := Int.emod_lt_of_pos _ (by omega)
  have hd0 : 0 ≤ i / (n : Int) := Int.ediv_nonneg i0 (by omega)
  have hd1 : i / (n : Int) ≤ 999 := Int.le_trans (Int.ediv_le_self _ i0) i9
  have hr0 : 0 ≤ ((y + i / (n : Int) * 37) * 251 + z * 13 + i) % m := Int.emod_nonneg _ (by omega)
  have hr1 : ((y + i / (n : Int) * 37) * 251 + z * 13 + i) % m < m := Int.emod_lt_of_pos _ (by omega)
  go_enter Try.func16, Try.ntmps16
  go_wp2
  go_quiet (fail)
  go_wp2
  go_quiet (fail)
  go_wp2
  go_ret
  exact ⟨⟨_, rfl, hr0, hr1⟩, HS.out _⟩

theorem l1Next_any (b : Nat) (a : Option Addr) (n c : Nat) (zs : List Int) (i m : Int) (w : World) (h : SrcAt w b a n c zs i) (i9 : i ≤ 999) (m0 : 1 ≤ m) (m1 : m ≤ 65536) :
    Calls Try.prog 16 #[.pointer (some ⟨b, 0, none⟩), .int .i64 m] w fun e w' => (∃ r, e = .returned (.int .i64 r) ∧ 0 ≤ r ∧ r < m) ∧ Turned b (b + 1) w w' ∧ SrcAt w' b a n c zs (i + 1) := by
  have hn := h.hn
  by_cases h0 : n = 0
  · subst h0
    exact l1Next_nil b a c zs i m w h i9 m0 m1
  · have hne : zs ≠ [] := by intro e; rw [e] at hn; simp at hn; omega
    rcases h.rd with hr | ⟨x, o, rfl, hc⟩
    · exact absurd hr hne
    have hx : x < b := h.far ⟨x, o, none⟩ rfl hne
    have i0 := h.i0
    have key : ∀ j : Int, 0 ≤ j → ∃ y, 0 ≤ y ∧ y ≤ 255 ∧ w.cell? ⟨x, o + (j % (n : Int)).toNat, none⟩ = some (.int .u8 y) := fun j _ => by
      have hq0 : 0 ≤ j % (n : Int) := Int.emod_nonneg _ (by omega)
      have hq1 : j % (n : Int) < (n : Int) := Int.emod_lt_of_pos _ (by omega)
      have hl : (j % (n : Int)).toNat < zs.length := by omega
      have hv := hc _ hl
      have hg : zs.getD (j % (n : Int)).toNat 0 = zs[(j % (n : Int)).toNat] := by simp [List.getD, hl]
      have hz := h.hz _ (List.getElem_mem hl)
      exact ⟨_, by rw [hg]; exact hz.1, by rw [hg]; exact hz.2, hv⟩
    obtain ⟨y, y0, y1, hy⟩ := key i i0
    by_cases hb : m ≤ 200
    · exact l1Next_small b x o n c zs i m w h i9 m0 hb (by omega) y y0 y1 hy hx
    · obtain ⟨z, z0, z1, hz⟩ := key (i + 1) (by omega)
      exact l1Next_big b x o n c zs i m w h i9 (by omega) m1 (by omega) y z y0 y1 z0 z1 hy hz hx

end Go.Proofs.Ytmbllmhpnopbdaa
