/-
  The contract of writeAheadOfLow.
-/
import Derived.Test.YtjbopcplpgoiaaaWri
namespace Go.Proofs.Ytjbopcplpgoiaaa
open Go.RowKit
set_option linter.unusedVariables false

theorem mem_splice {zs cs : List Int} {p : Nat} {z : Int} (h : z ∈ splice zs p cs) : z ∈ zs ∨ z ∈ cs := by
  unfold splice at h
  rw [List.mem_append, List.mem_append] at h
  rcases h with h | h | h
  · exact .inl (List.mem_of_mem_take h)
  · exact .inr h
  · exact .inl (List.mem_of_mem_drop h)
theorem isPg_splice {zs cs : List Int} {p : Nat} (h : IsPg zs) (hc : ∀ z ∈ cs, 0 ≤ z ∧ z ≤ 255) (hl : p + cs.length ≤ 64) : IsPg (splice zs p cs) :=
  ⟨by rw [length_splice _ _ _ (by rw [h.len]; exact hl)]; exact h.len, fun z hz => by rcases mem_splice hz with h1 | h1; exact h.bd z h1; exact hc z h1⟩
theorem isPg_set {zs : List Int} (h : IsPg zs) (i v : Nat) (hv : v ≤ 255) : IsPg (zs.set i (v : Int)) :=
  ⟨by rw [List.length_set]; exact h.len, fun z hz => by
    rcases List.mem_or_eq_of_mem_set hz with h1 | h1
    · exact h.bd z h1
    · rw [h1]; omega⟩
theorem isPg_span {zs : List Int} (h : IsPg zs) (s p l : Nat) (hp : p ≤ 255) (hl : l ≤ 255) : IsPg (spanSet zs s p l) := isPg_set (isPg_set h _ p hp) _ l hl
theorem nb_set_same {zs : List Int} (i v : Nat) (hi : i < zs.length) : nb (zs.set i (v : Int)) i = v := by simp [nb, byt, List.getD, hi]
theorem nb_set_other {zs : List Int} (i j : Nat) (v : Int) (hij : i ≠ j) : nb (zs.set i v) j = nb zs j := by simp [nb, byt, List.getD, hij]
theorem nb_span_place {zs : List Int} (h : IsPg zs) (s p l : Nat) (hs : s < 31) : nb (spanSet zs s p l) (2 + 2 * s) = p := by
  unfold spanSet
  rw [nb_set_other _ _ _ (by omega), nb_set_same _ _ (by rw [h.len]; omega)]
theorem nb_span_len {zs : List Int} (h : IsPg zs) (s p l : Nat) (hs : s < 30) : nb (spanSet zs s p l) (3 + 2 * s) = l := by
  unfold spanSet
  rw [nb_set_same _ _ (by rw [List.length_set, h.len]; omega)]

def WaS (w : World) (b : Nat) (V : World) : Prop := (∃ xs, Arr V b xs) ∧ Turned b (b + 1) w V
theorem waKeep {w : World} {b : Nat} {W V : World} (h : WaS w b W) (hb : Below W.heap.size W V) : WaS w b V := ⟨⟨_, h.1.choose_spec.grown hb⟩, h.2.trans (Turned.ofBelow hb)⟩

/-- A page behind writeAheadOfLow. -/
def aheadP (zs : List Int) (s : Nat) (cs : List Int) : List Int := (spanSet (splice zs (nb zs 1 - cs.length) cs) s (nb zs 1 - cs.length) cs.length).set 1 ((nb zs 1 - cs.length : Nat) : Int)

set_option maxHeartbeats 2000000 in
theorem writeAhead_any (b s n sb so c : Nat) (zs cs : List Int) (w : World) (hA : Arr w b zs) (hZ : IsPg zs) (hcs : ∀ z ∈ cs, 0 ≤ z ∧ z ≤ 255) (hn : cs.length = n) (h1 : 1 ≤ n) (hlow : n ≤ nb zs 1) (h64 : nb zs 1 ≤ 64) (hs : s < 30) (hr : Reads w (some ⟨sb, so, none⟩) cs) :
    Calls Try.prog 54 #[.pointer (some ⟨b, 0, none⟩), .int .u64 s, .slice (some ⟨sb, so, none⟩) n c] w fun e w' => e = .returned (.tuple #[]) ∧ Turned b (b + 1) w w' ∧ Arr w' b (aheadP zs s cs) := by
  obtain ⟨p, hp⟩ : ∃ p, nb zs 1 = p + n := ⟨nb zs 1 - n, by omega⟩
  have HE : Hid (aheadP zs s cs = (spanSet (splice zs p cs) s p n).set 1 (p : Int)) := by
    show _ = _
    unfold aheadP
    rw [hn, hp, Nat.add_sub_cancel]
  have HLow : Hid (nb zs 1 = p + n) := hp
  have hpn : p + n ≤ 64 := by omega
  have hY0 : IsPg (spanSet (splice zs p cs) s p n) := isPg_span (isPg_splice hZ hcs (by rw [hn]; exact hpn)) s p n (by omega) (by omega)
  have hPl := nb_span_place (isPg_splice (p := p) hZ hcs (by rw [hn]; exact hpn)) s p n (by omega)
  have hLn := nb_span_len (isPg_splice (p := p) hZ hcs (by rw [hn]; exact hpn)) s p n hs
  have HNl : Hid (cs.length = n) := hn
  clear hp hlow h64 hn
  go_enter Try.func54, Try.ntmps54
  go_wp2_with (refine wpList_loadPg rfl _ rfl _ rfl zs (by assumption) ?_)
  refine (low_any zs _ hZ).mono ?_
  rintro e w1 ⟨rfl, g1⟩
  rw [HLow.out]
  have hA1 := hA.grown g1
  have hr1 := hr.below g1 (Nat.le_refl _)
  have ht1 : Turned b (b + 1) w w1 := Turned.ofBelow g1
  clear g1 hA hr
  go_wp2_with fail
  rw [show (p : Int) + (n : Int) = ((p + n : Nat) : Int) by omega]
  refine (writeCell_any b s p n sb so c zs cs _ hA1 HNl.out h1 hpn hs hr1).mono ?_
  rintro e w2 ⟨rfl, ht2, hA2⟩
  have ht := ht1.trans ht2
  clear ht1 ht2 hA1 hr1
  generalize spanSet (splice zs p cs) s p n = ys at hA2 hY0 hPl hLn HE
  have hY : IsPg ys := hY0
  have HP : Hid (nb ys (2 + 2 * s) = p) := hPl
  have HL : Hid (nb ys (3 + 2 * s) = n) := hLn
  clear hY0 hPl hLn
  have hfd : ∀ W : World, (Instr.field 69 (.agg #[.int .u64 p, .int .u64 n]) 0).run Try.prog W = .ok (.int .u64 p) W := fun _ => by kernel_rfl
  have w2' : IntKind.u8.wrap (p : Int) = (p : Int) := by rw [IntKind.wrap_u8]; omega
  go_wp2_with fail
  refine wp_region_held_drew (S := fun V => (∃ xs, Arr V b xs) ∧ Turned b (b + 1) w V) (by kernel_rfl) ⟨⟨_, hA2.grown (Below.refl _ _).drew⟩, ht.trans (Turned.ofBelow (Below.refl _ _).drew)⟩ (fun hHeld => ?_)
  have hAD := hA2.grown (w' := w2.drew) (Below.refl _ _).drew
  generalize w2.drew = D at hHeld hAD ⊢
  clear hA2 ht
  refine wpAnyH_take (i := 0) (v := .pointer (some ⟨b, 0, none⟩)) rfl (by kernel_rfl) (by kernel_rfl) (by kernel_rfl) (fun _ _ _ h => h) (Or.inl ⟨by kernel_rfl, fun u hSw => by (try dsimp only at hSw); go_simp; try with_reducible rfl⟩) hHeld ?_
  try simp only [List.getElem_toArray]
  try simp only [List.getElem_cons_succ]
  try simp only [List.getElem_cons_zero]
  try simp only [Act.put]
  try simp only [List.setIfInBounds_toArray]
  try simp only [List.set]
  refine wpAnyH_take (i := 1) (v := .pointer (some ⟨b, 0, none⟩)) rfl (by kernel_rfl) (by kernel_rfl) (by kernel_rfl) (fun _ _ _ h => h) (Or.inl ⟨by kernel_rfl, fun u hSw => by (try dsimp only at hSw); go_simp; try with_reducible rfl⟩) hHeld ?_
  try simp only [List.getElem_toArray]
  try simp only [List.getElem_cons_succ]
  try simp only [List.getElem_cons_zero]
  try simp only [Act.put]
  try simp only [List.setIfInBounds_toArray]
  try simp only [List.set]
  refine wpAnyH_take (i := 2) (v := .pointer (some ⟨b, 0, none⟩)) rfl (by kernel_rfl) (by kernel_rfl) (by kernel_rfl) (fun _ _ _ h => h) (Or.inl ⟨by kernel_rfl, fun u hSw => by (try dsimp only at hSw); go_simp; try with_reducible rfl⟩) hHeld ?_
  try simp only [List.getElem_toArray]
  try simp only [List.getElem_cons_succ]
  try simp only [List.getElem_cons_zero]
  try simp only [Act.put]
  try simp only [List.setIfInBounds_toArray]
  try simp only [List.set]
  refine wpAnyH_take (i := 4) (v := .int .u64 s) rfl (by kernel_rfl) (by kernel_rfl) (by kernel_rfl) (fun _ _ _ h => h) (Or.inl ⟨by kernel_rfl, fun u hSw => by (try dsimp only at hSw); go_simp; try with_reducible rfl⟩) hHeld ?_
  try simp only [List.getElem_toArray]
  try simp only [List.getElem_cons_succ]
  try simp only [List.getElem_cons_zero]
  try simp only [Act.put]
  try simp only [List.setIfInBounds_toArray]
  try simp only [List.set]
  refine wpAnyH_take (i := 8) (v := .pointer (some ⟨b, 0, none⟩)) rfl (by kernel_rfl) (by kernel_rfl) (by kernel_rfl) (fun _ _ _ h => h) (Or.inl ⟨by kernel_rfl, fun u hSw => by (try dsimp only at hSw); go_simp; try with_reducible rfl⟩) hHeld ?_
  try simp only [List.getElem_toArray]
  try simp only [List.getElem_cons_succ]
  try simp only [List.getElem_cons_zero]
  try simp only [Act.put]
  try simp only [List.setIfInBounds_toArray]
  try simp only [List.set]
  refine wpAnyH_ready (rs := [3]) (by kernel_rfl) (by simp) ?_
  refine AllReadyH.cons rfl (fun K hK => ?_) AllReadyH.nil
  rw [if_pos (by kernel_rfl)]
  refine wp_load_row 57 _ rfl b rfl 57 (pgC ys) (0, 0) _ hAD.row Try.underlying57 rfl (by rw [pgC_size, hAD.len]; exact info57) ?_
  refine hK.out _ _ hHeld (fun hHeld => ?_)
  clear hK K
  try simp only [List.getElem_toArray]
  try simp only [List.getElem_cons_succ]
  try simp only [List.getElem_cons_zero]
  try simp only [Act.put]
  try simp only [List.setIfInBounds_toArray]
  try simp only [List.set]
  refine wpAnyH_ready (rs := [5]) (by kernel_rfl) (by simp) ?_
  refine AllReadyH.cons rfl (fun K hK => ?_) AllReadyH.nil
  go_simp
  go_wp2_with (go_at_call 63; refine (spanOf_any ys s _ hY (by omega)).mono ?_; rintro e w' ⟨rfl, hb⟩; rw [HP.out, HL.out])
  have hAE := hAD.grown hb
  refine hK.out _ _ (waKeep hHeld hb) (fun hHeld => ?_)
  clear hK K
  try simp only [Act.put]
  try simp only [List.setIfInBounds_toArray]
  try simp only [List.set]
  refine wpAnyH_take (i := 6) (v := .int .u64 p) rfl (by kernel_rfl) (by kernel_rfl) (by kernel_rfl) (fun _ _ _ h => h) (Or.inl ⟨by kernel_rfl, fun u hSw => by (try dsimp only at hSw); go_simp; try with_reducible rfl⟩) hHeld ?_
  try simp only [List.getElem_toArray]
  try simp only [List.getElem_cons_succ]
  try simp only [List.getElem_cons_zero]
  try simp only [Act.put]
  try simp only [List.setIfInBounds_toArray]
  try simp only [List.set]
  refine wpAnyH_take (i := 7) (v := .int .u8 p) rfl (by kernel_rfl) (by kernel_rfl) (by kernel_rfl) (fun _ _ _ h => h) (Or.inl ⟨by kernel_rfl, fun u hSw => by (try dsimp only at hSw); go_simp; try with_reducible rfl⟩) hHeld ?_
  try simp only [List.getElem_toArray]
  try simp only [List.getElem_cons_succ]
  try simp only [List.getElem_cons_zero]
  try simp only [Act.put]
  try simp only [List.setIfInBounds_toArray]
  try simp only [List.set]
  refine wpAnyH_take (i := 9) (v := .pointer (some ⟨b, 1, none⟩)) rfl (by kernel_rfl) (by kernel_rfl) (by kernel_rfl) (fun _ _ _ h => h) (Or.inl ⟨by kernel_rfl, fun u hSw => by (try dsimp only at hSw); go_simp; try with_reducible rfl⟩) hHeld ?_
  try simp only [List.getElem_toArray]
  try simp only [List.getElem_cons_succ]
  try simp only [List.getElem_cons_zero]
  try simp only [Act.put]
  try simp only [List.setIfInBounds_toArray]
  try simp only [List.set]
  refine wpAnyH_ready (rs := [10]) (by kernel_rfl) (by simp) ?_
  refine AllReadyH.cons rfl (fun K hK => ?_) AllReadyH.nil
  obtain ⟨_, ht⟩ := id hHeld
  have c0 := hAE.at 1 (by omega)
  have f0 := hAE.frozen 1
  go_simp
  go_wp2_with fail
  have hAF := hAE.set 1 (p : Int)
  have htF := ht.setCell (p := ⟨b, 1, none⟩) (Nat.le_refl _) (by simp) (.int .u8 (p : Int))
  refine hK.out _ _ ⟨⟨_, hAF⟩, htF⟩ (fun hHeld => ?_)
  clear hK K
  try simp only [Act.put]
  try simp only [List.setIfInBounds_toArray]
  try simp only [List.set]
  refine wpAnyH_done (by kernel_rfl) ?_ _
  go_wp2_with fail
  go_end0
  exact ⟨rfl, htF, by rw [HE.out]; exact hAF⟩

end Go.Proofs.Ytjbopcplpgoiaaa
