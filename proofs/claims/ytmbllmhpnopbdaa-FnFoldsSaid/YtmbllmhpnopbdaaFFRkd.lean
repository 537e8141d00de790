/-
  Picked.
-/
import Derived.Test.YtmbllmhpnopbdaaFFRkc
import Derived.Test.YtmbllmhpnopbdaaFFCbf

namespace Go.Proofs.Ytmbllmhpnopbdaa
open Go.RowKit Go.Sort Go.Shelf
set_option linter.unusedVariables false

open Go.RowKit Go.Sort Go.Shelf
set_option linter.unusedVariables false

set_option maxHeartbeats 400000 in
theorem keysC_box (b : Nat) (w : World) : Calls Try.prog 53 #[.map (some b)] w fun e w' => e = .returned (.func (.func 63) #[] #[.pointer (some ⟨w.heap.size, 0, none⟩)]) ∧ Below w.heap.size w w' ∧ w'.cell? ⟨w.heap.size, 0, none⟩ = some (.map (some b)) := by
  go_enter Try.func53, Try.ntmps53
  go_wp2_with fail
  go_ret
  exact ⟨rfl, by go_grown, by simp [go_sem]⟩

set_option maxHeartbeats 1000000 in
theorem risingC_any (b sz : Nat) (l : List ((Int × Int) × Value)) (w : World) (h : MapK 65 w b l sz) (hl : l.length ≤ 100000) :
    Calls Try.prog 40 #[.map (some b)] w fun e w' => RkPost l w e w' := by
  obtain ⟨D, ho, hs, _, hh⟩ := h.1.has
  have hsz := h.2.1
  have hbl := ho.lt
  have hmem : ∀ x : K3, Maps.has D (k2L x) = true ↔ k2P x ∈ l.map (·.1) := fun x => by
    rw [show k2L x = kl x.x x.y from rfl, hh x.x x.y x.h]
    exact kvF_some l x.x x.y
  clear h hh
  go_enter Try.func40, Try.ntmps40
  go_wp2_with fail
  refine (keysC_box b _).mono ?_
  rintro e w1 ⟨rfl, g1, hc⟩
  have ho1 : w1.ownsMap Try.prog (65) hR b sz D := by
    obtain ⟨es, clock, hb, Ft, hs', hD⟩ := ho
    exact ⟨es, clock, (g1.block b hbl).trans hb, Ft, hs', hD⟩
  have hcl := World.block_lt_of_cell? w1 _ hc
  have hcon := sorted_any 63 #[.pointer (some ⟨w.heap.size, 0, none⟩)] (fun ss => ss.Nodup ∧ ∀ x, x ∈ ss ↔ Maps.has D (k2L x) = true) (Maps.size D) w1 (by omega)
    (enters_of Try.func63 (by kernel_rfl) rfl)
    (fun W hW => keysC_stops Fence.wide 9 trivial rfl (by omega) w.heap.size b sz D W (Nat.lt_of_lt_of_le hcl hW.size) ((hW.cell hcl).trans hc) (by
      obtain ⟨es, clock, hb, Ft, hs', hD⟩ := ho1
      exact ⟨es, clock, (hW.block b (by have := g1.size; omega)).trans hb, Ft, hs', hD⟩))
    (fun ss hss => by
      have h1 := nodup_le (ss.map k2P) (l.map (·.1)) (k2P_nodup hss.1) (fun q hq => by
        obtain ⟨x, hx, rfl⟩ := List.mem_map.1 hq
        exact (hmem x).1 ((hss.2 x).1 hx))
      simp only [List.length_map] at h1
      omega)
  go_wp2_with (go_at_call 47; refine hcon.mono ?_)
  rintro e w2 ⟨a, ys, c, ss, rfl, hss, hp, hr, g2, hi2⟩
  go_wp2_with fail
  go_ret
  have hs1 := g1.size
  refine ⟨a, ys, c, rfl, g1.trans (g2.mono hs1), hi2.mono hs1 (Nat.le_refl _), hr, hp.nodup_iff.2 hss.1, fun x => ?_⟩
  rw [hp.mem_iff, hss.2, hmem]

end Go.Proofs.Ytmbllmhpnopbdaa

/-
  Picked.
-/
namespace Go.Proofs.Ytmbllmhpnopbdaa
open Go.RowKit Go.Maps
set_option linter.unusedVariables false

/-- What risingKeys hands back, of a map told by f. -/
def RfPost (f : Int → Int → Option Value) (w : World) (e : Ending) (w' : World) : Prop :=
  ∃ a ys c, e = .returned (.slice a ys.length c) ∧ Below w.heap.size w w' ∧ SlIn k2F 2 w.heap.size w'.heap.size w' a ys ∧ Rise ys ∧ ys.Nodup ∧ ∀ x : K3, x ∈ ys ↔ (f x.x x.y).isSome = true

set_option maxHeartbeats 1000000 in
theorem risingF_any (b sz : Nat) (f : Int → Int → Option Value) (L : List (Int × Int)) (w : World) (h : MapF 65 w b f sz) (hsz : sz ≤ 100000) (hl : L.length ≤ 100000) (hL : ∀ x y, (f x y).isSome = true → (x, y) ∈ L) :
    Calls Try.prog 40 #[.map (some b)] w fun e w' => RfPost f w e w' := by
  obtain ⟨D, ho, hs, _, hh⟩ := h.has
  have hbl := ho.lt
  have hmem : ∀ x : K3, Maps.has D (k2L x) = true ↔ (f x.x x.y).isSome = true := fun x => by
    rw [show k2L x = kl x.x x.y from rfl, hh x.x x.y x.h]
  clear h hh
  go_enter Try.func40, Try.ntmps40
  go_wp2_with fail
  refine (keysC_box b _).mono ?_
  rintro e w1 ⟨rfl, g1, hc⟩
  have ho1 : w1.ownsMap Try.prog (65) hR b sz D := by
    obtain ⟨es, clock, hb, Ft, hs', hD⟩ := ho
    exact ⟨es, clock, (g1.block b hbl).trans hb, Ft, hs', hD⟩
  have hcl := World.block_lt_of_cell? w1 _ hc
  have hcon := sorted_any 63 #[.pointer (some ⟨w.heap.size, 0, none⟩)] (fun ss => ss.Nodup ∧ ∀ x, x ∈ ss ↔ Maps.has D (k2L x) = true) (Maps.size D) w1 (by omega)
    (enters_of Try.func63 (by kernel_rfl) rfl)
    (fun W hW => keysC_stops Fence.wide 9 trivial rfl (by omega) w.heap.size b sz D W (Nat.lt_of_lt_of_le hcl hW.size) ((hW.cell hcl).trans hc) (by
      obtain ⟨es, clock, hb, Ft, hs', hD⟩ := ho1
      exact ⟨es, clock, (hW.block b (by have := g1.size; omega)).trans hb, Ft, hs', hD⟩))
    (fun ss hss => by
      have h1 := nodup_le (ss.map k2P) L (k2P_nodup hss.1) (fun q hq => by
        obtain ⟨x, hx, rfl⟩ := List.mem_map.1 hq
        exact hL _ _ ((hmem x).1 ((hss.2 x).1 hx)))
      simp only [List.length_map] at h1
      omega)
  go_wp2_with (go_at_call 47; refine hcon.mono ?_)
  rintro e w2 ⟨a, ys, c, ss, rfl, hss, hp, hr, g2, hi2⟩
  go_wp2_with fail
  go_ret
  have hs1 := g1.size
  refine ⟨a, ys, c, rfl, g1.trans (g2.mono hs1), hi2.mono hs1 (Nat.le_refl _), hr, hp.nodup_iff.2 hss.1, fun x => ?_⟩
  rw [hp.mem_iff, hss.2, hmem]

end Go.Proofs.Ytmbllmhpnopbdaa
