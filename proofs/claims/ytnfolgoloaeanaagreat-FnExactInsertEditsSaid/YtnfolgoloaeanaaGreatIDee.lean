/-
  The contract of dropEmptyEnd: slots at the end that tell no cell are told no more.
-/
import Derived.Test.YtnfolgoloaeanaaGreatIWr
import Derived.Test.YtnfolgoloaeanaaGreatIRwg
import Derived.Test.YtnfolgoloaeanaaGreatILawA

namespace Go.Proofs.YtnfolgoloaeanaaGreat
open Go.RowKit
set_option linter.unusedVariables false

/-- One slot less. -/
def lessP (zs : List Int) : List Int := zs.set 0 (byt zs 0 - 1)
/-- No empty slot at the end, k steps at most. -/
def dropE : Nat → List Int → List Int
  | 0, zs => zs
  | k + 1, zs => if endB zs = true then dropE k (lessP zs) else zs
def dropEnd (zs : List Int) : List Int := dropE (nb zs 0) zs
theorem nb_less {zs : List Int} (h : IsPg zs) (h0 : 0 < nb zs 0) : nb (lessP zs) 0 = nb zs 0 - 1 := by
  have hl := h.len
  have e : byt (lessP zs) 0 = byt zs 0 - 1 := by unfold lessP byt; simp [List.getD, hl]
  have := nb_byt h 0
  unfold nb at *
  rw [e]; omega
end Go.Proofs.YtnfolgoloaeanaaGreat

/-
  The contracts of setSpan and cellAt; a slot that is dropped.
-/
namespace Go.Proofs.YtnfolgoloaeanaaGreat
open Go.RowKit
set_option linter.unusedVariables false

/-- The slot s tells a place and a length. -/
def spanSet (zs : List Int) (s p l : Nat) : List Int := (zs.set (2 + 2 * s) (p : Int)).set (3 + 2 * s) (l : Int)

set_option maxRecDepth 20000 in
set_option maxHeartbeats 1000000 in
theorem setSpan_any (b s p l : Nat) (zs : List Int) (w : World) (h : Arr w b zs) (hs : s < 30) (hp : p ≤ 255) (hl : l ≤ 255) :
    Calls Tryz.prog 183 #[.pointer (some ⟨b, 0, none⟩), .int .u64 s, .agg #[.int .u64 p, .int .u64 l]] w fun e w' => e = .returned (.tuple #[]) ∧ Turned b (b + 1) w w' ∧ Arr w' b (spanSet zs s p l) := by
  go_enter Tryz.func183, Tryz.ntmps183
  go_wp2_with fail
  refine (dirEnd_any s _ (by omega)).mono ?_
  rintro e w' ⟨rfl, hw'⟩
  have hlt := h.lt
  obtain ⟨m, hm⟩ : ∃ m, m = 2 + 2 * s := ⟨_, rfl⟩
  have HM : Hid (m = 2 + 2 * s) := hm
  have hm64 : m + 1 < 64 := by omega
  rw [← hm]
  have hA : Arr w' b zs := by rw [hw']; exact h.alloc _
  have x0 : w'.cell? ⟨w.heap.size, 0, none⟩ = some (.int .u64 p) := by rw [hw']; simp [go_sem]
  have x1 : w'.cell? ⟨w.heap.size, 1, none⟩ = some (.int .u64 l) := by rw [hw']; simp [go_sem]
  have ht : Turned b (b + 1) w w' := by rw [hw']; exact Turned.ofBelow ((Below.refl _ _).alloc (Nat.le_refl _) _)
  clear hm hw'
  have c0 := hA.at m (by omega)
  have c1 := hA.at (m + 1) (by omega)
  have f0 := hA.frozen m
  have f1 := hA.frozen (m + 1)
  have i1 : (m : Int) < 64 := by omega
  have i2 : (m : Int) + 1 < 64 := by omega
  have hne : ¬ (b = w.heap.size) := by omega
  have hne2 : ¬ (w.heap.size = b) := by omega
  go_wp2_with fail
  have hAd := hA.grown (w' := w'.drew) (Below.refl _ _).drew
  have w1 : IntKind.u64.wrap ((m : Int) + 1) = (m : Int) + 1 := by rw [IntKind.wrap_u64]; omega
  have w2 : IntKind.u8.wrap (p : Int) = (p : Int) := by rw [IntKind.wrap_u8]; omega
  have w3 : IntKind.u8.wrap (l : Int) = (l : Int) := by rw [IntKind.wrap_u8]; omega
  have i3 : ¬ ((m : Int) + 1 < 0) := by omega
  have i4 : decide ((m : Int) + 1 < 0) = false := by simpa using i3
  refine wp_region_held_drew (S := fun V => V.cell? ⟨w.heap.size, 0, none⟩ = some (.int .u64 p) ∧ V.cell? ⟨w.heap.size, 1, none⟩ = some (.int .u64 l) ∧ (∃ ys, Arr V b ys) ∧ Turned b (b + 1) w V) (by kernel_rfl) ⟨x0, x1, ⟨zs, hA.grown (Below.refl _ _).drew⟩, ht.trans (Turned.ofBelow (Below.refl _ _).drew)⟩ (fun hHeld => ?_)
  generalize w'.drew = D at hHeld hAd ⊢
  refine wpAnyH_take (i := 0) (v := .pointer (some ⟨b, 0, none⟩)) rfl (by kernel_rfl) (by kernel_rfl) (by kernel_rfl) (fun _ _ _ h => h) (Or.inl ⟨by kernel_rfl, fun u hSw => by (try dsimp only at hSw); go_simp; try with_reducible rfl⟩) hHeld ?_
  try simp only [List.getElem_toArray]
  try simp only [List.getElem_cons_succ]
  try simp only [List.getElem_cons_zero]
  try simp only [Act.put]
  try simp only [List.setIfInBounds_toArray]
  try simp only [List.set]
  refine wpAnyH_take (i := 1) (v := .int .u64 m) rfl (by kernel_rfl) (by kernel_rfl) (by kernel_rfl) (fun _ _ _ h => h) (Or.inl ⟨by kernel_rfl, fun u hSw => by (try dsimp only at hSw); go_simp; try with_reducible rfl⟩) hHeld ?_
  try simp only [List.getElem_toArray]
  try simp only [List.getElem_cons_succ]
  try simp only [List.getElem_cons_zero]
  try simp only [Act.put]
  try simp only [List.setIfInBounds_toArray]
  try simp only [List.set]
  refine wpAnyH_take (i := 2) (v := .pointer (some ⟨b, 0, none⟩)) rfl (by kernel_rfl) (by kernel_rfl) (by kernel_rfl) (fun _ _ _ h => h) (Or.inl ⟨by kernel_rfl, fun u hSw => by (try dsimp only at hSw); go_simp; try with_reducible rfl⟩) hHeld ?_
  try simp only [List.getElem_toArray]
  try simp only [List.getElem_cons_succ]
  try simp only [List.getElem_cons_zero]
  try simp only [Act.put]
  try simp only [List.setIfInBounds_toArray]
  try simp only [List.set]
  refine wpAnyH_take (i := 3) (v := .int .u64 m) rfl (by kernel_rfl) (by kernel_rfl) (by kernel_rfl) (fun _ _ _ h => h) (Or.inl ⟨by kernel_rfl, fun u hSw => by (try dsimp only at hSw); go_simp; try with_reducible rfl⟩) hHeld ?_
  try simp only [List.getElem_toArray]
  try simp only [List.getElem_cons_succ]
  try simp only [List.getElem_cons_zero]
  try simp only [Act.put]
  try simp only [List.setIfInBounds_toArray]
  try simp only [List.set]
  refine wpAnyH_take (i := 4) (v := .int .u64 (m + 1 : Int)) rfl (by kernel_rfl) (by kernel_rfl) (by kernel_rfl) (fun _ _ _ h => h) (Or.inl ⟨by kernel_rfl, fun u hSw => by (try dsimp only at hSw); go_simp; try with_reducible rfl⟩) hHeld ?_
  try simp only [List.getElem_toArray]
  try simp only [List.getElem_cons_succ]
  try simp only [List.getElem_cons_zero]
  try simp only [Act.put]
  try simp only [List.setIfInBounds_toArray]
  try simp only [List.set]
  refine wpAnyH_take (i := 5) (v := .pointer (some ⟨w.heap.size, 0, none⟩)) rfl (by kernel_rfl) (by kernel_rfl) (by kernel_rfl) (fun _ _ _ h => h) (Or.inl ⟨by kernel_rfl, fun u hSw => by (try dsimp only at hSw); go_simp; try with_reducible rfl⟩) hHeld ?_
  try simp only [List.getElem_toArray]
  try simp only [List.getElem_cons_succ]
  try simp only [List.getElem_cons_zero]
  try simp only [Act.put]
  try simp only [List.setIfInBounds_toArray]
  try simp only [List.set]
  refine wpAnyH_take (i := 6) (v := .int .u64 p) rfl (by kernel_rfl) (by kernel_rfl) (by kernel_rfl) (fun _ _ _ h => h) (Or.inl ⟨by kernel_rfl, fun u hSw => by (try dsimp only at hSw); go_simp; try with_reducible rfl⟩) hHeld ?_
  try simp only [List.getElem_toArray]
  try simp only [List.getElem_cons_succ]
  try simp only [List.getElem_cons_zero]
  try simp only [Act.put]
  try simp only [List.setIfInBounds_toArray]
  try simp only [List.set]
  refine wpAnyH_take (i := 7) (v := .int .u8 p) rfl (by kernel_rfl) (by kernel_rfl) (by kernel_rfl) (fun _ _ _ h => h) (Or.inl ⟨by kernel_rfl, fun u hSw => by (try dsimp only at hSw); go_simp; try with_reducible rfl⟩) hHeld ?_
  try simp only [List.getElem_toArray]
  try simp only [List.getElem_cons_succ]
  try simp only [List.getElem_cons_zero]
  try simp only [Act.put]
  try simp only [List.setIfInBounds_toArray]
  try simp only [List.set]
  refine wpAnyH_take (i := 8) (v := .pointer (some ⟨w.heap.size, 1, none⟩)) rfl (by kernel_rfl) (by kernel_rfl) (by kernel_rfl) (fun _ _ _ h => h) (Or.inl ⟨by kernel_rfl, fun u hSw => by (try dsimp only at hSw); go_simp; try with_reducible rfl⟩) hHeld ?_
  try simp only [List.getElem_toArray]
  try simp only [List.getElem_cons_succ]
  try simp only [List.getElem_cons_zero]
  try simp only [Act.put]
  try simp only [List.setIfInBounds_toArray]
  try simp only [List.set]
  refine wpAnyH_take (i := 9) (v := .int .u64 l) rfl (by kernel_rfl) (by kernel_rfl) (by kernel_rfl) (fun _ _ _ h => h) (Or.inl ⟨by kernel_rfl, fun u hSw => by (try dsimp only at hSw); go_simp; try with_reducible rfl⟩) hHeld ?_
  try simp only [List.getElem_toArray]
  try simp only [List.getElem_cons_succ]
  try simp only [List.getElem_cons_zero]
  try simp only [Act.put]
  try simp only [List.setIfInBounds_toArray]
  try simp only [List.set]
  refine wpAnyH_take (i := 10) (v := .int .u8 l) rfl (by kernel_rfl) (by kernel_rfl) (by kernel_rfl) (fun _ _ _ h => h) (Or.inl ⟨by kernel_rfl, fun u hSw => by (try dsimp only at hSw); go_simp; try with_reducible rfl⟩) hHeld ?_
  try simp only [List.getElem_toArray]
  try simp only [List.getElem_cons_succ]
  try simp only [List.getElem_cons_zero]
  try simp only [Act.put]
  try simp only [List.setIfInBounds_toArray]
  try simp only [List.set]
  refine wpAnyH_take (i := 11) (v := .pointer (some ⟨b, 0, none⟩)) rfl (by kernel_rfl) (by kernel_rfl) (by kernel_rfl) (fun _ _ _ h => h) (Or.inl ⟨by kernel_rfl, fun u hSw => by (try dsimp only at hSw); go_simp; try with_reducible rfl⟩) hHeld ?_
  try simp only [List.getElem_toArray]
  try simp only [List.getElem_cons_succ]
  try simp only [List.getElem_cons_zero]
  try simp only [Act.put]
  try simp only [List.setIfInBounds_toArray]
  try simp only [List.set]
  refine wpAnyH_take (i := 12) (v := .pointer (some ⟨b, m, none⟩)) rfl (by kernel_rfl) (by kernel_rfl) (by kernel_rfl) (fun _ _ _ h => h) (Or.inl ⟨by kernel_rfl, fun u hSw => by (try dsimp only at hSw); go_simp; try with_reducible rfl⟩) hHeld ?_
  try simp only [List.getElem_toArray]
  try simp only [List.getElem_cons_succ]
  try simp only [List.getElem_cons_zero]
  try simp only [Act.put]
  try simp only [List.setIfInBounds_toArray]
  try simp only [List.set]
  refine wpAnyH_take (i := 14) (v := .pointer (some ⟨b, 0, none⟩)) rfl (by kernel_rfl) (by kernel_rfl) (by kernel_rfl) (fun _ _ _ h => h) (Or.inl ⟨by kernel_rfl, fun u hSw => by (try dsimp only at hSw); go_simp; try with_reducible rfl⟩) hHeld ?_
  try simp only [List.getElem_toArray]
  try simp only [List.getElem_cons_succ]
  try simp only [List.getElem_cons_zero]
  try simp only [Act.put]
  try simp only [List.setIfInBounds_toArray]
  try simp only [List.set]
  refine wpAnyH_ready (rs := [13]) (by kernel_rfl) (by simp) ?_
  refine AllReadyH.cons rfl (fun K hK => ?_) AllReadyH.nil
  obtain ⟨x0, x1, _, ht⟩ := id hHeld
  have c0 := hAd.at (m) (by omega)
  have f0 := hAd.frozen (m)
  go_simp
  go_wp2_with fail
  generalize hV : World.setCell _ _ _ = V1
  have hA1 := hAd.set (m) (p : Int)
  rw [hV] at hA1
  have x0' : V1.cell? ⟨w.heap.size, 0, none⟩ = some (.int .u64 p) := by rw [← hV, World.cell?_setCell_other _ _ _ _ (fun e => hne (congrArg Addr.block e))]; exact x0
  have x1' : V1.cell? ⟨w.heap.size, 1, none⟩ = some (.int .u64 l) := by rw [← hV, World.cell?_setCell_other _ _ _ _ (fun e => hne (congrArg Addr.block e))]; exact x1
  have ht' : Turned b (b + 1) w V1 := by rw [← hV]; exact ht.setCell (Nat.le_refl _) (by simp) _
  refine hK.out _ _ ⟨x0', x1', ⟨_, hA1⟩, ht'⟩ (fun hHeld => ?_)
  clear hK K hV x0 x1 ht c0 f0 x0' x1'
  try simp only [Act.put]
  try simp only [List.setIfInBounds_toArray]
  try simp only [List.set]
  refine wpAnyH_take (i := 15) (v := .pointer (some ⟨b, m + 1, none⟩)) rfl (by kernel_rfl) (by kernel_rfl) (by kernel_rfl) (fun _ _ _ h => h) (Or.inl ⟨by kernel_rfl, fun u hSw => by (try dsimp only at hSw); go_simp; try with_reducible rfl⟩) hHeld ?_
  try simp only [List.getElem_toArray]
  try simp only [List.getElem_cons_succ]
  try simp only [List.getElem_cons_zero]
  try simp only [Act.put]
  try simp only [List.setIfInBounds_toArray]
  try simp only [List.set]
  refine wpAnyH_ready (rs := [16]) (by kernel_rfl) (by simp) ?_
  refine AllReadyH.cons rfl (fun K hK => ?_) AllReadyH.nil
  obtain ⟨x0, x1, _, ht⟩ := id hHeld
  have c0 := hA1.at (m + 1) (by omega)
  have f0 := hA1.frozen (m + 1)
  go_simp
  go_wp2_with fail
  generalize hV : World.setCell _ _ _ = V2
  have hA2 := hA1.set (m + 1) (l : Int)
  rw [hV] at hA2
  have x0' : V2.cell? ⟨w.heap.size, 0, none⟩ = some (.int .u64 p) := by rw [← hV, World.cell?_setCell_other _ _ _ _ (fun e => hne (congrArg Addr.block e))]; exact x0
  have x1' : V2.cell? ⟨w.heap.size, 1, none⟩ = some (.int .u64 l) := by rw [← hV, World.cell?_setCell_other _ _ _ _ (fun e => hne (congrArg Addr.block e))]; exact x1
  have ht' : Turned b (b + 1) w V2 := by rw [← hV]; exact ht.setCell (Nat.le_refl _) (by simp) _
  refine hK.out _ _ ⟨x0', x1', ⟨_, hA2⟩, ht'⟩ (fun hHeld => ?_)
  clear hK K hV x0 x1 ht c0 f0 x0' x1' hA1
  try simp only [Act.put]
  try simp only [List.setIfInBounds_toArray]
  try simp only [List.set]
  refine wpAnyH_done (by kernel_rfl) ?_ _
  go_wp2_with fail
  go_end0
  refine ⟨rfl, hHeld.2.2.2, ?_⟩
  unfold spanSet
  rw [show 3 + 2 * s = m + 1 by rw [HM.out]; omega, ← HM.out]
  exact hA2

end Go.Proofs.YtnfolgoloaeanaaGreat

