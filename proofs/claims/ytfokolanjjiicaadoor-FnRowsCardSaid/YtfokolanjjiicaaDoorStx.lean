/-
  The model's RowText answers the same text.
-/
import Derived.Test.YtfokolanjjiicaaDoorRtx
namespace Go.Proofs.YtfokolanjjiicaaDoor
open Go.RowKit
set_option linter.unusedVariables false

theorem rs_keep {V W : World} {b : Nat} {t k v : Int} {s : ByteArray} (h : RowAt V b t k v s) (hb : Below V.heap.size V W) : RowAt W b t k v s :=
  rowAt_below hb (World.block_lt_of_cell? V _ h.c0) h

set_option maxHeartbeats 1000000 in
theorem l1RowText_any (b : Nat) (t k v : Nat) (s : ByteArray) (w : World) (hs : s.size ≤ 8) (ht : t < 1000000) (hk : k < 1000000) (hv : v < 1000000) (hR : RowAt w b t k v s) :
    Calls Tryd.prog 20 #[.pointer (some ⟨b, 0, none⟩)] w fun e w' => e = .returned (.string (rowS t k v s)) ∧ Below w.heap.size w w' := by
  have z1 := decS_size t ht
  have z2 := decS_size k hk
  have z3 := decS_size v hv
  have e1 : ¬ 9223372036854775807 < (decS t).size + 1 := by omega
  have e2 : ¬ 9223372036854775807 < (decS t).size + 1 + (decS k).size := by omega
  have e3 : ¬ 9223372036854775807 < (decS t).size + 1 + (decS k).size + 1 := by omega
  have e4 : ¬ 9223372036854775807 < (decS t).size + 1 + (decS k).size + 1 + (decS v).size := by omega
  go_enter Tryd.func20, Tryd.ntmps20
  go_upto_region 1 with (fail)
  refine wp_region_held_drew (S := fun V => RowAt V b t k v s) (by kernel_rfl) (rs_keep hR (Below.refl _ _).drew) (fun hHeld => ?_)
  have gD : Below w.heap.size w w.drew := (Below.refl _ _).drew
  generalize w.drew = D at hHeld gD ⊢
  clear hR
  refine wpAnyH_take (i := 0) (v := .pointer (some ⟨b, 0, none⟩)) rfl (by kernel_rfl) (by kernel_rfl) (by kernel_rfl) (fun _ _ _ h => h) (Or.inl ⟨by kernel_rfl, fun u hSw => by (try dsimp only at hSw); go_simp; try with_reducible rfl⟩) hHeld ?_
  try simp only [List.getElem_toArray]
  try simp only [List.getElem_cons_succ]
  try simp only [List.getElem_cons_zero]
  try simp only [Act.put]
  try simp only [List.setIfInBounds_toArray]
  try simp only [List.set]
  refine wpAnyH_take (i := 1) (v := .pointer (some ⟨b, 0, none⟩)) rfl (by kernel_rfl) (by kernel_rfl) (by kernel_rfl) (fun _ _ _ h => h) (Or.inl ⟨by kernel_rfl, fun u hSw => by (try dsimp only at hSw); go_simp; try with_reducible rfl⟩) hHeld ?_
  try simp only [List.getElem_toArray]
  try simp only [List.getElem_cons_succ]
  try simp only [List.getElem_cons_zero]
  try simp only [Act.put]
  try simp only [List.setIfInBounds_toArray]
  try simp only [List.set]
  refine wpAnyH_take (i := 2) (v := .pointer (some ⟨b, 0, none⟩)) rfl (by kernel_rfl) (by kernel_rfl) (by kernel_rfl) (fun _ _ _ h => h) (Or.inl ⟨by kernel_rfl, fun u hSw => by (try dsimp only at hSw); go_simp; try with_reducible rfl⟩) hHeld ?_
  try simp only [List.getElem_toArray]
  try simp only [List.getElem_cons_succ]
  try simp only [List.getElem_cons_zero]
  try simp only [Act.put]
  try simp only [List.setIfInBounds_toArray]
  try simp only [List.set]
  refine wpAnyH_take (i := 3) (v := .int .i64 t) rfl (by kernel_rfl) (by kernel_rfl) (by kernel_rfl) (fun _ _ _ h => h) (Or.inl ⟨by kernel_rfl, fun u hSw => by have c0 := hSw.c0; clear hSw; go_simp; try with_reducible rfl⟩) hHeld ?_
  try simp only [List.getElem_toArray]
  try simp only [List.getElem_cons_succ]
  try simp only [List.getElem_cons_zero]
  try simp only [Act.put]
  try simp only [List.setIfInBounds_toArray]
  try simp only [List.set]
  refine wpAnyH_take (i := 6) (v := .pointer (some ⟨b, 0, none⟩)) rfl (by kernel_rfl) (by kernel_rfl) (by kernel_rfl) (fun _ _ _ h => h) (Or.inl ⟨by kernel_rfl, fun u hSw => by (try dsimp only at hSw); go_simp; try with_reducible rfl⟩) hHeld ?_
  try simp only [List.getElem_toArray]
  try simp only [List.getElem_cons_succ]
  try simp only [List.getElem_cons_zero]
  try simp only [Act.put]
  try simp only [List.setIfInBounds_toArray]
  try simp only [List.set]
  refine wpAnyH_take (i := 7) (v := .pointer (some ⟨b, 0, none⟩)) rfl (by kernel_rfl) (by kernel_rfl) (by kernel_rfl) (fun _ _ _ h => h) (Or.inl ⟨by kernel_rfl, fun u hSw => by (try dsimp only at hSw); go_simp; try with_reducible rfl⟩) hHeld ?_
  try simp only [List.getElem_toArray]
  try simp only [List.getElem_cons_succ]
  try simp only [List.getElem_cons_zero]
  try simp only [Act.put]
  try simp only [List.setIfInBounds_toArray]
  try simp only [List.set]
  refine wpAnyH_take (i := 8) (v := .pointer (some ⟨b, 1, none⟩)) rfl (by kernel_rfl) (by kernel_rfl) (by kernel_rfl) (fun _ _ _ h => h) (Or.inl ⟨by kernel_rfl, fun u hSw => by (try dsimp only at hSw); go_simp; try with_reducible rfl⟩) hHeld ?_
  try simp only [List.getElem_toArray]
  try simp only [List.getElem_cons_succ]
  try simp only [List.getElem_cons_zero]
  try simp only [Act.put]
  try simp only [List.setIfInBounds_toArray]
  try simp only [List.set]
  refine wpAnyH_take (i := 9) (v := .int .i64 k) rfl (by kernel_rfl) (by kernel_rfl) (by kernel_rfl) (fun _ _ _ h => h) (Or.inl ⟨by kernel_rfl, fun u hSw => by have c0 := hSw.c1; clear hSw; go_simp; try with_reducible rfl⟩) hHeld ?_
  try simp only [List.getElem_toArray]
  try simp only [List.getElem_cons_succ]
  try simp only [List.getElem_cons_zero]
  try simp only [Act.put]
  try simp only [List.setIfInBounds_toArray]
  try simp only [List.set]
  refine wpAnyH_take (i := 13) (v := .pointer (some ⟨b, 0, none⟩)) rfl (by kernel_rfl) (by kernel_rfl) (by kernel_rfl) (fun _ _ _ h => h) (Or.inl ⟨by kernel_rfl, fun u hSw => by (try dsimp only at hSw); go_simp; try with_reducible rfl⟩) hHeld ?_
  try simp only [List.getElem_toArray]
  try simp only [List.getElem_cons_succ]
  try simp only [List.getElem_cons_zero]
  try simp only [Act.put]
  try simp only [List.setIfInBounds_toArray]
  try simp only [List.set]
  refine wpAnyH_take (i := 14) (v := .pointer (some ⟨b, 0, none⟩)) rfl (by kernel_rfl) (by kernel_rfl) (by kernel_rfl) (fun _ _ _ h => h) (Or.inl ⟨by kernel_rfl, fun u hSw => by (try dsimp only at hSw); go_simp; try with_reducible rfl⟩) hHeld ?_
  try simp only [List.getElem_toArray]
  try simp only [List.getElem_cons_succ]
  try simp only [List.getElem_cons_zero]
  try simp only [Act.put]
  try simp only [List.setIfInBounds_toArray]
  try simp only [List.set]
  refine wpAnyH_take (i := 15) (v := .pointer (some ⟨b, 2, none⟩)) rfl (by kernel_rfl) (by kernel_rfl) (by kernel_rfl) (fun _ _ _ h => h) (Or.inl ⟨by kernel_rfl, fun u hSw => by (try dsimp only at hSw); go_simp; try with_reducible rfl⟩) hHeld ?_
  try simp only [List.getElem_toArray]
  try simp only [List.getElem_cons_succ]
  try simp only [List.getElem_cons_zero]
  try simp only [Act.put]
  try simp only [List.setIfInBounds_toArray]
  try simp only [List.set]
  refine wpAnyH_take (i := 16) (v := .int .i64 v) rfl (by kernel_rfl) (by kernel_rfl) (by kernel_rfl) (fun _ _ _ h => h) (Or.inl ⟨by kernel_rfl, fun u hSw => by have c0 := hSw.c2; clear hSw; go_simp; try with_reducible rfl⟩) hHeld ?_
  try simp only [List.getElem_toArray]
  try simp only [List.getElem_cons_succ]
  try simp only [List.getElem_cons_zero]
  try simp only [Act.put]
  try simp only [List.setIfInBounds_toArray]
  try simp only [List.set]
  refine wpAnyH_ready (rs := [4]) (by kernel_rfl) (by simp) ?_
  refine AllReadyH.cons rfl (fun K hK => ?_) AllReadyH.nil
  go_simp
  go_wp2_with (go_at_call 31; refine (l1Digits_any t (by omega) _).mono ?_; rintro e D1 ⟨rfl, gb⟩)
  refine hK.out _ _ (rs_keep hHeld gb) (fun hHeld => ?_)
  have gD := gD.trans (gb.mono gD.size)
  clear hK K gb
  try simp only [Act.put]
  try simp only [List.setIfInBounds_toArray]
  try simp only [List.set]
  refine wpAnyH_take (i := 5) (v := .string (decS t ++ ⟨#[32]⟩)) rfl (by kernel_rfl) (by kernel_rfl) (by kernel_rfl) (fun _ _ _ h => h) (Or.inl ⟨by kernel_rfl, fun u hSw => by (try dsimp only at hSw); go_simp; try with_reducible rfl⟩) hHeld ?_
  try simp only [List.getElem_toArray]
  try simp only [List.getElem_cons_succ]
  try simp only [List.getElem_cons_zero]
  try simp only [Act.put]
  try simp only [List.setIfInBounds_toArray]
  try simp only [List.set]
  refine wpAnyH_ready (rs := [10]) (by kernel_rfl) (by simp) ?_
  refine AllReadyH.cons rfl (fun K hK => ?_) AllReadyH.nil
  go_simp
  go_wp2_with (go_at_call 31; refine (l1Digits_any k (by omega) _).mono ?_; rintro e D2 ⟨rfl, gb⟩)
  refine hK.out _ _ (rs_keep hHeld gb) (fun hHeld => ?_)
  have gD := gD.trans (gb.mono gD.size)
  clear hK K gb
  try simp only [Act.put]
  try simp only [List.setIfInBounds_toArray]
  try simp only [List.set]
  refine wpAnyH_take (i := 11) (v := .string (decS t ++ ⟨#[32]⟩ ++ decS k)) rfl (by kernel_rfl) (by kernel_rfl) (by kernel_rfl) (fun _ _ _ h => h) (Or.inl ⟨by kernel_rfl, fun u hSw => by (try dsimp only at hSw); go_simp; try with_reducible rfl⟩) hHeld ?_
  try simp only [List.getElem_toArray]
  try simp only [List.getElem_cons_succ]
  try simp only [List.getElem_cons_zero]
  try simp only [Act.put]
  try simp only [List.setIfInBounds_toArray]
  try simp only [List.set]
  refine wpAnyH_take (i := 12) (v := .string (decS t ++ ⟨#[32]⟩ ++ decS k ++ ⟨#[32]⟩)) rfl (by kernel_rfl) (by kernel_rfl) (by kernel_rfl) (fun _ _ _ h => h) (Or.inl ⟨by kernel_rfl, fun u hSw => by (try dsimp only at hSw); go_simp; try with_reducible rfl⟩) hHeld ?_
  try simp only [List.getElem_toArray]
  try simp only [List.getElem_cons_succ]
  try simp only [List.getElem_cons_zero]
  try simp only [Act.put]
  try simp only [List.setIfInBounds_toArray]
  try simp only [List.set]
  refine wpAnyH_ready (rs := [17]) (by kernel_rfl) (by simp) ?_
  refine AllReadyH.cons rfl (fun K hK => ?_) AllReadyH.nil
  go_simp
  go_wp2_with (go_at_call 31; refine (l1Digits_any v (by omega) _).mono ?_; rintro e D3 ⟨rfl, gb⟩)
  refine hK.out _ _ (rs_keep hHeld gb) (fun hHeld => ?_)
  have gD := gD.trans (gb.mono gD.size)
  clear hK K gb
  try simp only [Act.put]
  try simp only [List.setIfInBounds_toArray]
  try simp only [List.set]
  refine wpAnyH_take (i := 18) (v := .string (decS t ++ ⟨#[32]⟩ ++ decS k ++ ⟨#[32]⟩ ++ decS v)) rfl (by kernel_rfl) (by kernel_rfl) (by kernel_rfl) (fun _ _ _ h => h) (Or.inl ⟨by kernel_rfl, fun u hSw => by (try dsimp only at hSw); go_simp; try with_reducible rfl⟩) hHeld ?_
  try simp only [List.getElem_toArray]
  try simp only [List.getElem_cons_succ]
  try simp only [List.getElem_cons_zero]
  try simp only [Act.put]
  try simp only [List.setIfInBounds_toArray]
  try simp only [List.set]
  refine wpAnyH_take (i := 19) (v := .string (decS t ++ ⟨#[32]⟩ ++ decS k ++ ⟨#[32]⟩ ++ decS v)) rfl (by kernel_rfl) (by kernel_rfl) (by kernel_rfl) (fun _ _ _ h => h) (Or.inl ⟨by kernel_rfl, fun u hSw => by (try dsimp only at hSw); go_simp; try with_reducible rfl⟩) hHeld ?_
  try simp only [List.getElem_toArray]
  try simp only [List.getElem_cons_succ]
  try simp only [List.getElem_cons_zero]
  try simp only [Act.put]
  try simp only [List.setIfInBounds_toArray]
  try simp only [List.set]
  refine wpAnyH_done (by kernel_rfl) ?_ _
  have HX : Hid (numS t k v = decS t ++ ⟨#[32]⟩ ++ decS k ++ ⟨#[32]⟩ ++ decS v) := rfl
  have hXs : (decS t ++ ⟨#[32]⟩ ++ decS k ++ ⟨#[32]⟩ ++ decS v).size ≤ 65 := by
    simp only [ByteArray.size_append]
    have : (⟨#[32]⟩ : ByteArray).size = 1 := rfl
    omega
  have HN : Hid (rowS t k v s = if s.toList.isEmpty = true then numS t k v else numS t k v ++ (⟨#[32]⟩ ++ s)) := rfl
  rw [HX.out] at HN
  generalize decS t ++ ⟨#[32]⟩ ++ decS k ++ ⟨#[32]⟩ ++ decS v = X at hXs HN ⊢
  obtain ⟨p0, p1, p2, p3⟩ := hHeld
  clear e1 e2 e3 e4 z1 z2 z3
  by_cases hE : s.toList.isEmpty = true
  · have HE : Hid (rowS t k v s = X) := by have := HN.out; rw [if_pos hE] at this; exact this
    clear HN
    go_wp2_with fail
    go_ret
    exact ⟨by rw [HE.out]; rfl, by go_grown⟩
  · have HE : Hid (rowS t k v s = X ++ ⟨#[32]⟩ ++ s) := by have := HN.out; rw [if_neg hE, ← ByteArray.append_assoc] at this; exact this
    have de : s.toList.isEmpty = false := Bool.eq_false_iff.2 hE
    have e1 : ¬ 9223372036854775807 < X.size + 1 := by omega
    have e2 : ¬ 9223372036854775807 < X.size + 1 + s.size := by omega
    clear HN hE
    go_wp2_with fail
    go_ret
    exact ⟨by rw [HE.out]; rfl, by go_grown⟩

set_option maxHeartbeats 1000000 in
theorem specRowText_bad (t k v : Int) (s : ByteArray) (w : World) (hs : s.size ≤ maxLen) (hf : faultI t k v s ≠ 0) :
    Calls Tryd.prog 13 #[.agg #[.int .i64 t, .int .i64 k, .int .i64 v, .string s]] w fun e w' => e = .returned (.agg #[.int .i64 (faultI t k v s), .string ⟨#[]⟩]) ∧ Below w.heap.size w w' := by
  have hc := fun b w hR => l1Fault_any b t k v s w hR hs
  generalize faultI t k v s = f at hf hc ⊢
  have hz : (f != 0) = true := by simpa using hf
  go_enter Tryd.func13, Tryd.ntmps13
  go_wp2_with fail
  refine (hc _ _ ⟨by simp [go_sem], by simp [go_sem], by simp [go_sem], by simp [go_sem]⟩).mono ?_
  rintro e w1 ⟨rfl, rfl⟩
  go_wp2_with fail
  go_returns
  exact ⟨rfl, by go_grown⟩

set_option maxHeartbeats 1000000 in
theorem specRowText_good (t k v : Nat) (s : ByteArray) (w : World) (hs : s.size ≤ 8) (hf : faultI t k v s = 0) (ht : t < 1000000) (hk : k < 1000000) (hv : v < 1000000) :
    Calls Tryd.prog 13 #[.agg #[.int .i64 t, .int .i64 k, .int .i64 v, .string s]] w fun e w' => e = .returned (.agg #[.int .i64 0, .string (rowS t k v s)]) ∧ Below w.heap.size w w' := by
  have hc := fun b w hR => l1Fault_any b t k v s w hR (by unfold maxLen; omega)
  rw [hf] at hc
  go_enter Tryd.func13, Tryd.ntmps13
  go_wp2_with fail
  refine (hc _ _ ⟨by simp [go_sem], by simp [go_sem], by simp [go_sem], by simp [go_sem]⟩).mono ?_
  rintro e w1 ⟨rfl, rfl⟩
  clear hc
  go_wp2_with fail
  refine (l1RowText_any _ t k v s _ hs ht hk hv ⟨by simp [go_sem], by simp [go_sem], by simp [go_sem], by simp [go_sem]⟩).mono ?_
  rintro e w2 ⟨rfl, gb⟩
  have hO : OutT w2 (w.heap.size + 1) := OutT.below ⟨by simp [go_sem], by simp [go_sem], by simp [go_sem], by simp [go_sem]⟩ gb
  have g1 : Below w.heap.size w w2 := Below.trans (by go_grown) (gb.mono (by simp; omega))
  clear gb
  have hsz := hO.lt
  obtain ⟨r0, r1, r2, r3⟩ := hO
  go_wp2_with fail
  refine bodyPost_ret (v := .agg #[.int .i64 0, .string (rowS t k v s)]) (by simp [results, Tryd.results13, go_sem, r0, r1]) rfl ?_
  exact ⟨rfl, by go_grown⟩

end Go.Proofs.YtfokolanjjiicaaDoor
