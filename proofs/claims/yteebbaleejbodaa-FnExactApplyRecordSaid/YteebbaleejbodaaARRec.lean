/-
  The fault of a record: the program's own.
-/
import Derived.Test.YteebbaleejbodaaARRea

namespace Go.Proofs.Yteebbaleejbodaa
open Go.RowKit
set_option linter.unusedVariables false

theorem cellUp {V W : World} (hb : Below V.heap.size V W) {p : Addr} {v : Value} (h : V.cell? p = some v) : W.cell? p = some v := (hb.cell (World.block_lt_of_cell? V _ h)).trans h

/-- Block b holds what a delta has. -/
structure DeS (w : World) (b : Nat) (tx pg : Int) (a : Option Addr) (n c : Nat) (P : Nat → Int) (A : Nat → Option Addr) (C : Nat → Nat) (Z : Nat → List Int) (V : World) : Prop where
  c0 : V.cell? ⟨b, 0, none⟩ = some (.int .i64 tx)
  c1 : V.cell? ⟨b, 1, none⟩ = some (.int .i64 pg)
  c2 : V.cell? ⟨b, 2, none⟩ = some (.slice a n c)
  rd : RunsRead V a n P A C Z
  g : Below w.heap.size w V
theorem DeS.up {w : World} {b : Nat} {tx pg : Int} {a : Option Addr} {n c : Nat} {P : Nat → Int} {A : Nat → Option Addr} {C : Nat → Nat} {Z : Nat → List Int} {V W : World} (h : DeS w b tx pg a n c P A C Z V) (hb : Below V.heap.size V W) : DeS w b tx pg a n c P A C Z W :=
  ⟨cellUp hb h.c0, cellUp hb h.c1, cellUp hb h.c2, h.rd.below hb (Nat.le_refl _), h.g.trans (hb.mono h.g.size)⟩

/-- What an image has. -/
structure ImS (w : World) (b : Nat) (pg : Int) (a : Option Addr) (n c : Nat) (P : Nat → Int) (A : Nat → Option Addr) (C : Nat → Nat) (Z : Nat → List Int) (V : World) : Prop where
  c0 : V.cell? ⟨b, 0, none⟩ = some (.int .i64 pg)
  c1 : V.cell? ⟨b, 1, none⟩ = some (.slice a n c)
  rd : RunsRead V a n P A C Z
  g : Below w.heap.size w V
theorem ImS.up {w : World} {b : Nat} {pg : Int} {a : Option Addr} {n c : Nat} {P : Nat → Int} {A : Nat → Option Addr} {C : Nat → Nat} {Z : Nat → List Int} {V W : World} (h : ImS w b pg a n c P A C Z V) (hb : Below V.heap.size V W) : ImS w b pg a n c P A C Z W :=
  ⟨cellUp hb h.c0, cellUp hb h.c1, h.rd.below hb (Nat.le_refl _), h.g.trans (hb.mono h.g.size)⟩

/-- The fault of a delta. -/
def deQ (tx pg : Int) (n : Nat) (P : Nat → Int) (Z : Nat → List Int) : Int := if or2 (txQ tx) (or2 (pgQ pg) (rfQ n P Z)) = 0 then (if n = 0 then 1 else 0) else or2 (txQ tx) (or2 (pgQ pg) (rfQ n P Z))

set_option maxHeartbeats 1000000 in
theorem deltaFault_any (tx pg : Int) (a : Option Addr) (n c : Nat) (P : Nat → Int) (A : Nat → Option Addr) (C : Nat → Nat) (Z : Nat → List Int) (w : World) (hm : n ≤ 1048576) (hz : Hid (∀ i, i < n → (Z i).length ≤ 1048576)) (hr : RunsRead w a n P A C Z) :
    Calls Try.prog 160 #[.agg #[.int .i64 tx, .int .i64 pg, .slice a n c]] w fun e w' => e = .returned (.int .i64 (deQ tx pg n P Z)) ∧ Below w.heap.size w w' := by
  obtain ⟨r, hrv⟩ : ∃ r, r = rfQ n P Z := ⟨_, rfl⟩
  obtain ⟨x, hx⟩ : ∃ x, x = or2 (txQ tx) (or2 (pgQ pg) r) := ⟨_, rfl⟩
  have HQ : Hid (deQ tx pg n P Z = if x = 0 then (if n = 0 then 1 else 0) else x) := by show _ = _; unfold deQ; rw [hx, hrv]
  have HR : Hid (rfQ n P Z = r) := hrv.symm
  have HX : Hid (or2 (txQ tx) (or2 (pgQ pg) r) = x) := hx.symm
  have HRd : Hid (RunsRead w a n P A C Z) := hr
  clear hrv hx hr
  go_enter Try.func160, Try.ntmps160
  go_upto_region 1 with (fail)
  generalize hY : World.alloc w _ = Y
  have hHeld : DeS w w.heap.size tx pg a n c P A C Z Y := by
    have g : Below w.heap.size w Y := by rw [← hY]; go_grown
    exact ⟨by rw [← hY]; simp [go_sem], by rw [← hY]; simp [go_sem], by rw [← hY]; simp [go_sem], HRd.out.below g (Nat.le_refl _), g⟩
  clear hY
  refine wp_region_held_drew (S := fun V => DeS w w.heap.size tx pg a n c P A C Z V) (by kernel_rfl) (hHeld.up (Below.refl _ _).drew) (fun hHeld => ?_)
  generalize Y.drew = D at hHeld ⊢
  refine wpAnyH_take (i := 0) (v := ?v1) rfl (by kernel_rfl) (by kernel_rfl) (by kernel_rfl) (fun _ _ _ h => h) (Or.inl ⟨by kernel_rfl, ?h1⟩) hHeld ?_
  case h1 => intro u hSw; (try dsimp only at hSw); go_simp; try with_reducible rfl
  try simp only [List.getElem_toArray]
  try simp only [List.getElem_cons_succ]
  try simp only [List.getElem_cons_zero]
  try simp only [Act.put]
  try simp only [List.setIfInBounds_toArray]
  try simp only [List.set]
  refine wpAnyH_take (i := 1) (v := ?v2) rfl (by kernel_rfl) (by kernel_rfl) (by kernel_rfl) (fun _ _ _ h => h) (Or.inl ⟨by kernel_rfl, ?h2⟩) hHeld ?_
  case h2 => intro u hSw; obtain ⟨c0, c1, c2, _, _⟩ := hSw; go_simp; try with_reducible rfl
  try simp only [List.getElem_toArray]
  try simp only [List.getElem_cons_succ]
  try simp only [List.getElem_cons_zero]
  try simp only [Act.put]
  try simp only [List.setIfInBounds_toArray]
  try simp only [List.set]
  refine wpAnyH_take (i := 3) (v := ?v3) rfl (by kernel_rfl) (by kernel_rfl) (by kernel_rfl) (fun _ _ _ h => h) (Or.inl ⟨by kernel_rfl, ?h3⟩) hHeld ?_
  case h3 => intro u hSw; (try dsimp only at hSw); go_simp; try with_reducible rfl
  try simp only [List.getElem_toArray]
  try simp only [List.getElem_cons_succ]
  try simp only [List.getElem_cons_zero]
  try simp only [Act.put]
  try simp only [List.setIfInBounds_toArray]
  try simp only [List.set]
  refine wpAnyH_take (i := 4) (v := ?v4) rfl (by kernel_rfl) (by kernel_rfl) (by kernel_rfl) (fun _ _ _ h => h) (Or.inl ⟨by kernel_rfl, ?h4⟩) hHeld ?_
  case h4 => intro u hSw; obtain ⟨c0, c1, c2, _, _⟩ := hSw; go_simp; try with_reducible rfl
  try simp only [List.getElem_toArray]
  try simp only [List.getElem_cons_succ]
  try simp only [List.getElem_cons_zero]
  try simp only [Act.put]
  try simp only [List.setIfInBounds_toArray]
  try simp only [List.set]
  refine wpAnyH_take (i := 6) (v := ?v5) rfl (by kernel_rfl) (by kernel_rfl) (by kernel_rfl) (fun _ _ _ h => h) (Or.inl ⟨by kernel_rfl, ?h5⟩) hHeld ?_
  case h5 => intro u hSw; (try dsimp only at hSw); go_simp; try with_reducible rfl
  try simp only [List.getElem_toArray]
  try simp only [List.getElem_cons_succ]
  try simp only [List.getElem_cons_zero]
  try simp only [Act.put]
  try simp only [List.setIfInBounds_toArray]
  try simp only [List.set]
  refine wpAnyH_take (i := 7) (v := ?v6) rfl (by kernel_rfl) (by kernel_rfl) (by kernel_rfl) (fun _ _ _ h => h) (Or.inl ⟨by kernel_rfl, ?h6⟩) hHeld ?_
  case h6 => intro u hSw; obtain ⟨c0, c1, c2, _, _⟩ := hSw; go_simp; try with_reducible rfl
  try simp only [List.getElem_toArray]
  try simp only [List.getElem_cons_succ]
  try simp only [List.getElem_cons_zero]
  try simp only [Act.put]
  try simp only [List.setIfInBounds_toArray]
  try simp only [List.set]
  refine wpAnyH_ready (rs := [2]) (by kernel_rfl) (by simp) ?_
  refine AllReadyH.cons rfl (fun K hK => ?_) AllReadyH.nil
  go_simp
  go_wp2_with (go_at_call 114; refine (txFaultR_any tx _).mono ?_; rintro e w' ⟨rfl, hw'⟩; subst w')
  refine hK.out _ _ (hHeld) (fun hHeld => ?_)
  clear hK K
  try simp only [Act.put]
  try simp only [List.setIfInBounds_toArray]
  try simp only [List.set]
  refine wpAnyH_ready (rs := [5]) (by kernel_rfl) (by simp) ?_
  refine AllReadyH.cons rfl (fun K hK => ?_) AllReadyH.nil
  go_simp
  go_wp2_with (go_at_call 180; refine (pageFault_any pg _).mono ?_; rintro e w' ⟨rfl, hw'⟩; subst w')
  refine hK.out _ _ (hHeld) (fun hHeld => ?_)
  clear hK K
  try simp only [Act.put]
  try simp only [List.setIfInBounds_toArray]
  try simp only [List.set]
  refine wpAnyH_ready (rs := [8]) (by kernel_rfl) (by simp) ?_
  refine AllReadyH.cons rfl (fun K hK => ?_) AllReadyH.nil
  go_simp
  go_wp2_with (go_at_call 181; refine (implRunsFault_any a n c P A C Z _ hm hz.out hHeld.rd).mono ?_; rintro e w' ⟨rfl, hb⟩)
  refine hK.out _ _ (hHeld.up hb) (fun hHeld => ?_)
  clear hK K
  clear hb
  try simp only [Act.put]
  try simp only [List.setIfInBounds_toArray]
  try simp only [List.set]
  have gb : Below w'.heap.size w' (w'.alloc (.cells #[.int .i64 (txQ tx), .int .i64 (pgQ pg), .int .i64 (rfQ n P Z)] 2)) := by go_grown
  have o0 : (w'.alloc (.cells #[.int .i64 (txQ tx), .int .i64 (pgQ pg), .int .i64 (rfQ n P Z)] 2)).cell? ⟨w'.heap.size, 0, none⟩ = some (.int .i64 (txQ tx)) := by simp [go_sem]
  have o1 : (w'.alloc (.cells #[.int .i64 (txQ tx), .int .i64 (pgQ pg), .int .i64 (rfQ n P Z)] 2)).cell? ⟨w'.heap.size, 1, none⟩ = some (.int .i64 (pgQ pg)) := by simp [go_sem]
  have o2 : (w'.alloc (.cells #[.int .i64 (txQ tx), .int .i64 (pgQ pg), .int .i64 (rfQ n P Z)] 2)).cell? ⟨w'.heap.size, 2, none⟩ = some (.int .i64 (rfQ n P Z)) := by simp [go_sem]
  refine wpAnyH_ready (rs := [9]) (by kernel_rfl) (by simp) ?_
  refine AllReadyH.cons rfl (fun K hK => ?_) AllReadyH.nil
  go_simp
  refine hK.out _ _ (hHeld.up gb) (fun hHeld => ?_)
  clear hK K gb
  generalize w'.alloc (.cells #[.int .i64 (txQ tx), .int .i64 (pgQ pg), .int .i64 (rfQ n P Z)] 2) = D2 at hHeld o0 o1 o2 ⊢
  generalize w'.heap.size = ob at o0 o1 o2 ⊢
  rw [HR.out] at o2 ⊢
  try simp only [Act.put]
  try simp only [List.setIfInBounds_toArray]
  try simp only [List.set]
  refine wpAnyH_ready (rs := [10]) (by kernel_rfl) (by simp) ?_
  refine AllReadyH.cons rfl (fun K hK => ?_) AllReadyH.nil
  go_simp
  go_wp2_with (go_at_call 52; refine (cmpOr_three ob 3 (txQ tx) (pgQ pg) r _ o0 o1 o2).mono ?_; rintro e w' ⟨rfl, hw'⟩; subst w'; rw [HX.out])
  refine hK.out _ _ (hHeld) (fun hHeld => ?_)
  clear hK K
  try simp only [Act.put]
  try simp only [List.setIfInBounds_toArray]
  try simp only [List.set]
  clear o0 o1 o2
  refine wpAnyH_take (i := 11) (v := ?v7) rfl (by kernel_rfl) (by kernel_rfl) (by kernel_rfl) (fun _ _ _ h => h) (Or.inl ⟨by kernel_rfl, ?h7⟩) hHeld ?_
  case h7 => intro u hSw; (try dsimp only at hSw); go_simp; try with_reducible rfl
  try simp only [List.getElem_toArray]
  try simp only [List.getElem_cons_succ]
  try simp only [List.getElem_cons_zero]
  try simp only [Act.put]
  try simp only [List.setIfInBounds_toArray]
  try simp only [List.set]
  refine wpAnyH_done (by kernel_rfl) ?_ _
  by_cases hx0 : x = 0
  · subst hx0
    obtain ⟨c0, c1, c2, rd, g⟩ := hHeld
    by_cases hn0 : n = 0
    · have HQ2 : Hid (deQ tx pg n P Z = 1) := by show _ = _; rw [HQ.out, if_pos rfl, if_pos hn0]
      subst hn0
      go_wp2_with fail
      go_ret
      exact ⟨by rw [HQ2.out]; rfl, g⟩
    · have HQ2 : Hid (deQ tx pg n P Z = 0) := by show _ = _; rw [HQ.out, if_pos rfl, if_neg hn0]
      have dn : ((n : Int) == 0) = false := by simp; omega
      go_wp2_with fail
      go_ret
      exact ⟨by rw [HQ2.out]; rfl, g⟩
  · have HQ2 : Hid (deQ tx pg n P Z = x) := by show _ = _; rw [HQ.out, if_neg hx0]
    have dx : (x != 0) = true := by simpa using hx0
    obtain ⟨c0, c1, c2, rd, g⟩ := hHeld
    go_wp2_with fail
    go_ret
    exact ⟨by rw [HQ2.out]; rfl, g⟩

/-- The fault of an image. -/
def imQ (pg : Int) (n : Nat) (P : Nat → Int) (Z : Nat → List Int) : Int := if or2 (pgQ pg) (rfQ n P Z) = 0 then (if n = 1 ∧ (Z 0).length = 64 then 0 else 1) else or2 (pgQ pg) (rfQ n P Z)

set_option maxHeartbeats 1000000 in
theorem imageFault_any (pg : Int) (a : Option Addr) (n c : Nat) (P : Nat → Int) (A : Nat → Option Addr) (C : Nat → Nat) (Z : Nat → List Int) (w : World) (hm : n ≤ 1048576) (hz : Hid (∀ i, i < n → (Z i).length ≤ 1048576)) (hr : RunsRead w a n P A C Z) :
    Calls Try.prog 161 #[.agg #[.int .i64 pg, .slice a n c]] w fun e w' => e = .returned (.int .i64 (imQ pg n P Z)) ∧ Below w.heap.size w w' := by
  obtain ⟨r, hrv⟩ : ∃ r, r = rfQ n P Z := ⟨_, rfl⟩
  obtain ⟨x, hx⟩ : ∃ x, x = or2 (pgQ pg) r := ⟨_, rfl⟩
  have HQ : Hid (imQ pg n P Z = if x = 0 then (if n = 1 ∧ (Z 0).length = 64 then 0 else 1) else x) := by show _ = _; unfold imQ; rw [hx, hrv]
  have HR : Hid (rfQ n P Z = r) := hrv.symm
  have HX : Hid (or2 (pgQ pg) r = x) := hx.symm
  have HRd : Hid (RunsRead w a n P A C Z) := hr
  clear hrv hx hr
  go_enter Try.func161, Try.ntmps161
  go_upto_region 1 with (fail)
  generalize hY : World.alloc w _ = Y
  have hHeld : ImS w w.heap.size pg a n c P A C Z Y := by
    have g : Below w.heap.size w Y := by rw [← hY]; go_grown
    exact ⟨by rw [← hY]; simp [go_sem], by rw [← hY]; simp [go_sem], HRd.out.below g (Nat.le_refl _), g⟩
  clear hY
  refine wp_region_held_drew (S := fun V => ImS w w.heap.size pg a n c P A C Z V) (by kernel_rfl) (hHeld.up (Below.refl _ _).drew) (fun hHeld => ?_)
  generalize Y.drew = D at hHeld ⊢
  refine wpAnyH_take (i := 0) (v := ?v8) rfl (by kernel_rfl) (by kernel_rfl) (by kernel_rfl) (fun _ _ _ h => h) (Or.inl ⟨by kernel_rfl, ?h8⟩) hHeld ?_
  case h8 => intro u hSw; (try dsimp only at hSw); go_simp; try with_reducible rfl
  try simp only [List.getElem_toArray]
  try simp only [List.getElem_cons_succ]
  try simp only [List.getElem_cons_zero]
  try simp only [Act.put]
  try simp only [List.setIfInBounds_toArray]
  try simp only [List.set]
  refine wpAnyH_take (i := 1) (v := ?v9) rfl (by kernel_rfl) (by kernel_rfl) (by kernel_rfl) (fun _ _ _ h => h) (Or.inl ⟨by kernel_rfl, ?h9⟩) hHeld ?_
  case h9 => intro u hSw; obtain ⟨c0, c1, _, _⟩ := hSw; go_simp; try with_reducible rfl
  try simp only [List.getElem_toArray]
  try simp only [List.getElem_cons_succ]
  try simp only [List.getElem_cons_zero]
  try simp only [Act.put]
  try simp only [List.setIfInBounds_toArray]
  try simp only [List.set]
  refine wpAnyH_take (i := 3) (v := ?v10) rfl (by kernel_rfl) (by kernel_rfl) (by kernel_rfl) (fun _ _ _ h => h) (Or.inl ⟨by kernel_rfl, ?h10⟩) hHeld ?_
  case h10 => intro u hSw; (try dsimp only at hSw); go_simp; try with_reducible rfl
  try simp only [List.getElem_toArray]
  try simp only [List.getElem_cons_succ]
  try simp only [List.getElem_cons_zero]
  try simp only [Act.put]
  try simp only [List.setIfInBounds_toArray]
  try simp only [List.set]
  refine wpAnyH_take (i := 4) (v := ?v11) rfl (by kernel_rfl) (by kernel_rfl) (by kernel_rfl) (fun _ _ _ h => h) (Or.inl ⟨by kernel_rfl, ?h11⟩) hHeld ?_
  case h11 => intro u hSw; obtain ⟨c0, c1, _, _⟩ := hSw; go_simp; try with_reducible rfl
  try simp only [List.getElem_toArray]
  try simp only [List.getElem_cons_succ]
  try simp only [List.getElem_cons_zero]
  try simp only [Act.put]
  try simp only [List.setIfInBounds_toArray]
  try simp only [List.set]
  refine wpAnyH_ready (rs := [2]) (by kernel_rfl) (by simp) ?_
  refine AllReadyH.cons rfl (fun K hK => ?_) AllReadyH.nil
  go_simp
  go_wp2_with (go_at_call 180; refine (pageFault_any pg _).mono ?_; rintro e w' ⟨rfl, hw'⟩; subst w')
  refine hK.out _ _ (hHeld) (fun hHeld => ?_)
  clear hK K
  try simp only [Act.put]
  try simp only [List.setIfInBounds_toArray]
  try simp only [List.set]
  refine wpAnyH_ready (rs := [5]) (by kernel_rfl) (by simp) ?_
  refine AllReadyH.cons rfl (fun K hK => ?_) AllReadyH.nil
  go_simp
  go_wp2_with (go_at_call 181; refine (implRunsFault_any a n c P A C Z _ hm hz.out hHeld.rd).mono ?_; rintro e w' ⟨rfl, hb⟩)
  refine hK.out _ _ (hHeld.up hb) (fun hHeld => ?_)
  clear hK K
  clear hb
  try simp only [Act.put]
  try simp only [List.setIfInBounds_toArray]
  try simp only [List.set]
  have gb : Below w'.heap.size w' (w'.alloc (.cells #[.int .i64 (pgQ pg), .int .i64 (rfQ n P Z)] 2)) := by go_grown
  have o0 : (w'.alloc (.cells #[.int .i64 (pgQ pg), .int .i64 (rfQ n P Z)] 2)).cell? ⟨w'.heap.size, 0, none⟩ = some (.int .i64 (pgQ pg)) := by simp [go_sem]
  have o1 : (w'.alloc (.cells #[.int .i64 (pgQ pg), .int .i64 (rfQ n P Z)] 2)).cell? ⟨w'.heap.size, 1, none⟩ = some (.int .i64 (rfQ n P Z)) := by simp [go_sem]
  refine wpAnyH_ready (rs := [6]) (by kernel_rfl) (by simp) ?_
  refine AllReadyH.cons rfl (fun K hK => ?_) AllReadyH.nil
  go_simp
  refine hK.out _ _ (hHeld.up gb) (fun hHeld => ?_)
  clear hK K gb
  generalize w'.alloc (.cells #[.int .i64 (pgQ pg), .int .i64 (rfQ n P Z)] 2) = D2 at hHeld o0 o1 ⊢
  generalize w'.heap.size = ob at o0 o1 ⊢
  rw [HR.out] at o1 ⊢
  try simp only [Act.put]
  try simp only [List.setIfInBounds_toArray]
  try simp only [List.set]
  refine wpAnyH_ready (rs := [7]) (by kernel_rfl) (by simp) ?_
  refine AllReadyH.cons rfl (fun K hK => ?_) AllReadyH.nil
  go_simp
  go_wp2_with (go_at_call 52; refine (cmpOr_two ob 2 (pgQ pg) r _ o0 o1).mono ?_; rintro e w' ⟨rfl, hw'⟩; subst w'; rw [HX.out])
  refine hK.out _ _ (hHeld) (fun hHeld => ?_)
  clear hK K
  try simp only [Act.put]
  try simp only [List.setIfInBounds_toArray]
  try simp only [List.set]
  clear o0 o1
  refine wpAnyH_take (i := 8) (v := ?v12) rfl (by kernel_rfl) (by kernel_rfl) (by kernel_rfl) (fun _ _ _ h => h) (Or.inl ⟨by kernel_rfl, ?h12⟩) hHeld ?_
  case h12 => intro u hSw; (try dsimp only at hSw); go_simp; try with_reducible rfl
  try simp only [List.getElem_toArray]
  try simp only [List.getElem_cons_succ]
  try simp only [List.getElem_cons_zero]
  try simp only [Act.put]
  try simp only [List.setIfInBounds_toArray]
  try simp only [List.set]
  refine wpAnyH_done (by kernel_rfl) ?_ _
  by_cases hx0 : x = 0
  · subst hx0
    obtain ⟨c0, c1, rd, g⟩ := hHeld
    by_cases hn1 : n = 1
    · subst hn1
      rcases rd with rd | ⟨rb, ro, rfl, hc⟩
      · cases rd
      obtain ⟨_, e1, _⟩ := hc 0 (by omega)
      clear hc
      rw [Nat.zero_mul, Nat.add_zero] at e1
      have hz0 := hz.out 0 (by omega)
      have HQ1 : Hid (imQ pg 1 P Z = if (Z 0).length = 64 then 0 else 1) := by show _ = _; rw [HQ.out, if_pos rfl]; simp
      clear HQ
      by_cases hl : (Z 0).length = 64
      · have HQ2 : Hid (imQ pg 1 P Z = 0) := by show _ = _; rw [HQ1.out, if_pos hl]
        rw [hl] at e1
        clear hl HQ1 hz0
        go_wp2_with fail
        go_ret
        exact ⟨by rw [HQ2.out]; rfl, g⟩
      · have HQ2 : Hid (imQ pg 1 P Z = 1) := by show _ = _; rw [HQ1.out, if_neg hl]
        have dl : (((Z 0).length : Int) != 64) = true := by simp; omega
        clear hl HQ1
        go_wp2_with fail
        go_ret
        exact ⟨by rw [HQ2.out]; rfl, g⟩
    · have HQ2 : Hid (imQ pg n P Z = 1) := by show _ = _; rw [HQ.out, if_pos rfl, if_neg (fun h => hn1 h.1)]
      have dn : ((n : Int) != 1) = true := by simp; omega
      go_wp2_with fail
      go_ret
      exact ⟨by rw [HQ2.out]; rfl, g⟩
  · have HQ2 : Hid (imQ pg n P Z = x) := by show _ = _; rw [HQ.out, if_neg hx0]
    have dx : (x != 0) = true := by simpa using hx0
    obtain ⟨c0, c1, rd, g⟩ := hHeld
    go_wp2_with fail
    go_ret
    exact ⟨by rw [HQ2.out]; rfl, g⟩

set_option maxHeartbeats 1000000 in
theorem happeningFault_81 (tx : Int) (w : World) : Calls Try.prog 131 #[.iface 225 (.agg #[.int .i64 tx])] w fun e w' => e = .returned (.int .i64 (txQ tx)) ∧ Below w.heap.size w w' := by
  have f81 := as81_81 (.agg #[.int .i64 tx])
  go_enter Try.func131, Try.ntmps131
  go_wp2_with fail
  refine (txFaultR_any tx _).mono ?_
  rintro e w' ⟨rfl, hw'⟩
  subst w'
  go_wp2_with fail
  go_ret
  exact ⟨rfl, by go_grown⟩

set_option maxHeartbeats 1000000 in
theorem happeningFault_87 (tx : Int) (w : World) : Calls Try.prog 131 #[.iface 231 (.agg #[.int .i64 tx])] w fun e w' => e = .returned (.int .i64 (txQ tx)) ∧ Below w.heap.size w w' := by
  have f81 := as87_81 (.agg #[.int .i64 tx])
  have f83 := as87_83 (.agg #[.int .i64 tx])
  have f84 := as87_84 (.agg #[.int .i64 tx])
  have f86 := as87_86 (.agg #[.int .i64 tx])
  have f87 := as87_87 (.agg #[.int .i64 tx])
  go_enter Try.func131, Try.ntmps131
  go_wp2_with fail
  refine (txFaultR_any tx _).mono ?_
  rintro e w' ⟨rfl, hw'⟩
  subst w'
  go_wp2_with fail
  go_ret
  exact ⟨rfl, by go_grown⟩

set_option maxHeartbeats 1000000 in
theorem happeningFault_88 (tx : Int) (w : World) : Calls Try.prog 131 #[.iface 232 (.agg #[.int .i64 tx])] w fun e w' => e = .returned (.int .i64 (txQ tx)) ∧ Below w.heap.size w w' := by
  have f81 := as88_81 (.agg #[.int .i64 tx])
  have f83 := as88_83 (.agg #[.int .i64 tx])
  have f84 := as88_84 (.agg #[.int .i64 tx])
  have f86 := as88_86 (.agg #[.int .i64 tx])
  have f87 := as88_87 (.agg #[.int .i64 tx])
  have f88 := as88_88 (.agg #[.int .i64 tx])
  go_enter Try.func131, Try.ntmps131
  go_wp2_with fail
  refine (txFaultR_any tx _).mono ?_
  rintro e w' ⟨rfl, hw'⟩
  subst w'
  go_wp2_with fail
  go_ret
  exact ⟨rfl, by go_grown⟩

set_option maxHeartbeats 1000000 in
theorem happeningFault_83 (tx pg : Int) (a : Option Addr) (n c : Nat) (P : Nat → Int) (A : Nat → Option Addr) (C : Nat → Nat) (Z : Nat → List Int) (w : World) (hm : n ≤ 1048576) (hz : Hid (∀ i, i < n → (Z i).length ≤ 1048576)) (hr : RunsRead w a n P A C Z) :
    Calls Try.prog 131 #[.iface 227 (.agg #[.int .i64 tx, .int .i64 pg, .slice a n c])] w fun e w' => e = .returned (.int .i64 (deQ tx pg n P Z)) ∧ Below w.heap.size w w' := by
  have f81 := as83_81 (.agg #[.int .i64 tx, .int .i64 pg, .slice a n c])
  have f83 := as83_83 (.agg #[.int .i64 tx, .int .i64 pg, .slice a n c])
  go_enter Try.func131, Try.ntmps131
  go_wp2_with fail
  refine (deltaFault_any tx pg a n c P A C Z _ hm hz (hr.below (by go_grown) (Nat.le_refl _))).mono ?_
  rintro e w' ⟨rfl, hb⟩
  have g : Below w.heap.size w w' := Below.trans (by go_grown) (hb.mono (by simp))
  clear hb
  go_wp2_with fail
  go_ret
  exact ⟨rfl, g⟩

set_option maxHeartbeats 1000000 in
theorem happeningFault_84 (tx pg : Int) (a : Option Addr) (n c : Nat) (P : Nat → Int) (A : Nat → Option Addr) (C : Nat → Nat) (Z : Nat → List Int) (w : World) (hm : n ≤ 1048576) (hz : Hid (∀ i, i < n → (Z i).length ≤ 1048576)) (hr : RunsRead w a n P A C Z) :
    Calls Try.prog 131 #[.iface 228 (.agg #[.int .i64 tx, .int .i64 pg, .slice a n c])] w fun e w' => e = .returned (.int .i64 (deQ tx pg n P Z)) ∧ Below w.heap.size w w' := by
  have f81 := as84_81 (.agg #[.int .i64 tx, .int .i64 pg, .slice a n c])
  have f83 := as84_83 (.agg #[.int .i64 tx, .int .i64 pg, .slice a n c])
  have f84 := as84_84 (.agg #[.int .i64 tx, .int .i64 pg, .slice a n c])
  go_enter Try.func131, Try.ntmps131
  go_wp2_with fail
  refine (deltaFault_any tx pg a n c P A C Z _ hm hz (hr.below (by go_grown) (Nat.le_refl _))).mono ?_
  rintro e w' ⟨rfl, hb⟩
  have g : Below w.heap.size w w' := Below.trans (by go_grown) (hb.mono (by simp))
  clear hb
  go_wp2_with fail
  go_ret
  exact ⟨rfl, g⟩

set_option maxHeartbeats 1000000 in
theorem happeningFault_86 (tx pg : Int) (a : Option Addr) (n c : Nat) (P : Nat → Int) (A : Nat → Option Addr) (C : Nat → Nat) (Z : Nat → List Int) (w : World) (hm : n ≤ 1048576) (hz : Hid (∀ i, i < n → (Z i).length ≤ 1048576)) (hr : RunsRead w a n P A C Z) :
    Calls Try.prog 131 #[.iface 230 (.agg #[.int .i64 pg, .slice a n c])] w fun e w' => e = .returned (.int .i64 (imQ pg n P Z)) ∧ Below w.heap.size w w' := by
  have f81 := as86_81 (.agg #[.int .i64 pg, .slice a n c])
  have f83 := as86_83 (.agg #[.int .i64 pg, .slice a n c])
  have f84 := as86_84 (.agg #[.int .i64 pg, .slice a n c])
  have f86 := as86_86 (.agg #[.int .i64 pg, .slice a n c])
  go_enter Try.func131, Try.ntmps131
  go_wp2_with fail
  refine (imageFault_any pg a n c P A C Z _ hm hz (hr.below (by go_grown) (Nat.le_refl _))).mono ?_
  rintro e w' ⟨rfl, hb⟩
  have g : Below w.heap.size w w' := Below.trans (by go_grown) (hb.mono (by simp))
  clear hb
  go_wp2_with fail
  go_ret
  exact ⟨rfl, g⟩

set_option maxHeartbeats 1000000 in
theorem happeningFault_no (w : World) : Calls Try.prog 131 #[.nilIface] w fun e w' => e = .returned (.int .i64 1) ∧ Below w.heap.size w w' := by
  have f81 := asN_81
  have f83 := asN_83
  have f84 := asN_84
  have f86 := asN_86
  have f87 := asN_87
  have f88 := asN_88
  go_enter Try.func131, Try.ntmps131
  go_wp2_with fail
  go_ret
  exact ⟨rfl, by go_grown⟩

/-- The fault of a record. -/
def recQ (k tx pg : Int) (n : Nat) (P : Nat → Int) (Z : Nat → List Int) : Int :=
  if k = 1 ∨ k = 5 ∨ k = 6 then (if muchB pg n = true then 1 else txQ tx)
  else if k = 2 ∨ k = 3 then deQ tx pg n P Z
  else if k = 4 then (if tx ≠ 0 then 1 else imQ pg n P Z)
  else 1

set_option maxHeartbeats 1000000 in
theorem implRecordFault_1 (tx pg : Int) (a : Option Addr) (n c : Nat) (P : Nat → Int) (A : Nat → Option Addr) (C : Nat → Nat) (Z : Nat → List Int) (w : World) (hm : n ≤ 1048576) (hz : Hid (∀ i, i < n → (Z i).length ≤ 1048576)) (hr : RunsRead w a n P A C Z) :
    Calls Try.prog 81 #[.agg #[.int .i64 1, .int .i64 tx, .int .i64 pg, .slice a n c]] w fun e w' => e = .returned (.int .i64 (recQ 1 tx pg n P Z)) ∧ Below w.heap.size w w' := by
  cases hmu : muchB pg n
  · have HQ : Hid (recQ 1 tx pg n P Z = txQ tx) := by show _ = _; unfold recQ; rw [if_pos (by decide), hmu]; rfl
    go_enter Try.func81, Try.ntmps81
    go_upto_region 1 with (fail)
    generalize hY : World.alloc w _ = Y
    have g : Below w.heap.size w Y := by rw [← hY]; go_grown
    have x0 : Y.cell? ⟨w.heap.size, 0, none⟩ = some (.int .i64 1) := by rw [← hY]; simp [go_sem]
    have x1 : Y.cell? ⟨w.heap.size, 1, none⟩ = some (.int .i64 tx) := by rw [← hY]; simp [go_sem]
    have x2 : Y.cell? ⟨w.heap.size, 2, none⟩ = some (.int .i64 pg) := by rw [← hY]; simp [go_sem]
    have x3 : Y.cell? ⟨w.heap.size, 3, none⟩ = some (.slice a n c) := by rw [← hY]; simp [go_sem]
    clear hY
    go_wp2_with fail
    refine (happeningOf_1 tx pg a n c _).mono ?_
    rintro e w1 ⟨rfl, g1⟩
    have x0 := cellUp g1 x0
    have x1 := cellUp g1 x1
    have x2 := cellUp g1 x2
    have x3 := cellUp g1 x3
    have g : Below w.heap.size w w1 := g.trans (g1.mono g.size)
    clear g1
    go_wp2_with fail
    refine (isTooMuch_1 1 tx pg a n c _).mono ?_
    rintro e w2 ⟨rfl, g1⟩
    have g : Below w.heap.size w w2 := g.trans (g1.mono g.size)
    clear g1 x0 x1 x2 x3
    rw [hmu]
    clear hmu
    go_wp2_with fail
    refine (happeningFault_81 tx _).mono ?_
    rintro e w3 ⟨rfl, g1⟩
    have g : Below w.heap.size w w3 := g.trans (g1.mono g.size)
    clear g1
    go_wp2_with fail
    go_ret
    exact ⟨by rw [HQ.out]; rfl, g⟩
  · have HQ : Hid (recQ 1 tx pg n P Z = 1) := by show _ = _; unfold recQ; rw [if_pos (by decide), hmu]; rfl
    go_enter Try.func81, Try.ntmps81
    go_upto_region 1 with (fail)
    generalize hY : World.alloc w _ = Y
    have g : Below w.heap.size w Y := by rw [← hY]; go_grown
    have x0 : Y.cell? ⟨w.heap.size, 0, none⟩ = some (.int .i64 1) := by rw [← hY]; simp [go_sem]
    have x1 : Y.cell? ⟨w.heap.size, 1, none⟩ = some (.int .i64 tx) := by rw [← hY]; simp [go_sem]
    have x2 : Y.cell? ⟨w.heap.size, 2, none⟩ = some (.int .i64 pg) := by rw [← hY]; simp [go_sem]
    have x3 : Y.cell? ⟨w.heap.size, 3, none⟩ = some (.slice a n c) := by rw [← hY]; simp [go_sem]
    clear hY
    go_wp2_with fail
    refine (happeningOf_1 tx pg a n c _).mono ?_
    rintro e w1 ⟨rfl, g1⟩
    have x0 := cellUp g1 x0
    have x1 := cellUp g1 x1
    have x2 := cellUp g1 x2
    have x3 := cellUp g1 x3
    have g : Below w.heap.size w w1 := g.trans (g1.mono g.size)
    clear g1
    go_wp2_with fail
    refine (isTooMuch_1 1 tx pg a n c _).mono ?_
    rintro e w2 ⟨rfl, g1⟩
    have g : Below w.heap.size w w2 := g.trans (g1.mono g.size)
    clear g1 x0 x1 x2 x3
    rw [hmu]
    clear hmu
    go_wp2_with fail
    go_ret
    exact ⟨by rw [HQ.out]; rfl, g⟩

set_option maxHeartbeats 1000000 in
theorem implRecordFault_2 (tx pg : Int) (a : Option Addr) (n c : Nat) (P : Nat → Int) (A : Nat → Option Addr) (C : Nat → Nat) (Z : Nat → List Int) (w : World) (hm : n ≤ 1048576) (hz : Hid (∀ i, i < n → (Z i).length ≤ 1048576)) (hr : RunsRead w a n P A C Z) :
    Calls Try.prog 81 #[.agg #[.int .i64 2, .int .i64 tx, .int .i64 pg, .slice a n c]] w fun e w' => e = .returned (.int .i64 (recQ 2 tx pg n P Z)) ∧ Below w.heap.size w w' := by
  have HQ : Hid (recQ 2 tx pg n P Z = deQ tx pg n P Z) := by show _ = _; unfold recQ; rw [if_neg (by decide), if_pos (by decide)]
  go_enter Try.func81, Try.ntmps81
  go_upto_region 1 with (fail)
  generalize hY : World.alloc w _ = Y
  have g : Below w.heap.size w Y := by rw [← hY]; go_grown
  have x0 : Y.cell? ⟨w.heap.size, 0, none⟩ = some (.int .i64 2) := by rw [← hY]; simp [go_sem]
  have x1 : Y.cell? ⟨w.heap.size, 1, none⟩ = some (.int .i64 tx) := by rw [← hY]; simp [go_sem]
  have x2 : Y.cell? ⟨w.heap.size, 2, none⟩ = some (.int .i64 pg) := by rw [← hY]; simp [go_sem]
  have x3 : Y.cell? ⟨w.heap.size, 3, none⟩ = some (.slice a n c) := by rw [← hY]; simp [go_sem]
  clear hY
  go_wp2_with fail
  refine (happeningOf_2 tx pg a n c _).mono ?_
  rintro e w1 ⟨rfl, g1⟩
  have x0 := cellUp g1 x0
  have x1 := cellUp g1 x1
  have x2 := cellUp g1 x2
  have x3 := cellUp g1 x3
  have g : Below w.heap.size w w1 := g.trans (g1.mono g.size)
  clear g1
  go_wp2_with fail
  refine (isTooMuch_2 2 tx pg a n c _).mono ?_
  rintro e w2 ⟨rfl, g1⟩
  have g : Below w.heap.size w w2 := g.trans (g1.mono g.size)
  clear g1 x0 x1 x2 x3
  go_wp2_with fail
  refine (happeningFault_83 tx pg a n c P A C Z _ hm hz (hr.below g (Nat.le_refl _))).mono ?_
  rintro e w3 ⟨rfl, g1⟩
  have g : Below w.heap.size w w3 := g.trans (g1.mono g.size)
  clear g1
  go_wp2_with fail
  go_ret
  exact ⟨by rw [HQ.out]; rfl, g⟩

set_option maxHeartbeats 1000000 in
theorem implRecordFault_3 (tx pg : Int) (a : Option Addr) (n c : Nat) (P : Nat → Int) (A : Nat → Option Addr) (C : Nat → Nat) (Z : Nat → List Int) (w : World) (hm : n ≤ 1048576) (hz : Hid (∀ i, i < n → (Z i).length ≤ 1048576)) (hr : RunsRead w a n P A C Z) :
    Calls Try.prog 81 #[.agg #[.int .i64 3, .int .i64 tx, .int .i64 pg, .slice a n c]] w fun e w' => e = .returned (.int .i64 (recQ 3 tx pg n P Z)) ∧ Below w.heap.size w w' := by
  have HQ : Hid (recQ 3 tx pg n P Z = deQ tx pg n P Z) := by show _ = _; unfold recQ; rw [if_neg (by decide), if_pos (by decide)]
  go_enter Try.func81, Try.ntmps81
  go_upto_region 1 with (fail)
  generalize hY : World.alloc w _ = Y
  have g : Below w.heap.size w Y := by rw [← hY]; go_grown
  have x0 : Y.cell? ⟨w.heap.size, 0, none⟩ = some (.int .i64 3) := by rw [← hY]; simp [go_sem]
  have x1 : Y.cell? ⟨w.heap.size, 1, none⟩ = some (.int .i64 tx) := by rw [← hY]; simp [go_sem]
  have x2 : Y.cell? ⟨w.heap.size, 2, none⟩ = some (.int .i64 pg) := by rw [← hY]; simp [go_sem]
  have x3 : Y.cell? ⟨w.heap.size, 3, none⟩ = some (.slice a n c) := by rw [← hY]; simp [go_sem]
  clear hY
  go_wp2_with fail
  refine (happeningOf_3 tx pg a n c _).mono ?_
  rintro e w1 ⟨rfl, g1⟩
  have x0 := cellUp g1 x0
  have x1 := cellUp g1 x1
  have x2 := cellUp g1 x2
  have x3 := cellUp g1 x3
  have g : Below w.heap.size w w1 := g.trans (g1.mono g.size)
  clear g1
  go_wp2_with fail
  refine (isTooMuch_3 3 tx pg a n c _).mono ?_
  rintro e w2 ⟨rfl, g1⟩
  have g : Below w.heap.size w w2 := g.trans (g1.mono g.size)
  clear g1 x0 x1 x2 x3
  go_wp2_with fail
  refine (happeningFault_84 tx pg a n c P A C Z _ hm hz (hr.below g (Nat.le_refl _))).mono ?_
  rintro e w3 ⟨rfl, g1⟩
  have g : Below w.heap.size w w3 := g.trans (g1.mono g.size)
  clear g1
  go_wp2_with fail
  go_ret
  exact ⟨by rw [HQ.out]; rfl, g⟩

set_option maxHeartbeats 1000000 in
theorem implRecordFault_4 (tx pg : Int) (a : Option Addr) (n c : Nat) (P : Nat → Int) (A : Nat → Option Addr) (C : Nat → Nat) (Z : Nat → List Int) (w : World) (hm : n ≤ 1048576) (hz : Hid (∀ i, i < n → (Z i).length ≤ 1048576)) (hr : RunsRead w a n P A C Z) :
    Calls Try.prog 81 #[.agg #[.int .i64 4, .int .i64 tx, .int .i64 pg, .slice a n c]] w fun e w' => e = .returned (.int .i64 (recQ 4 tx pg n P Z)) ∧ Below w.heap.size w w' := by
  by_cases h0 : tx = 0
  · have HQ : Hid (recQ 4 tx pg n P Z = imQ pg n P Z) := by show _ = _; unfold recQ; rw [if_neg (by decide), if_neg (by decide), if_pos rfl, if_neg (by simpa using h0)]
    have dt : (tx != 0) = false := by simpa using h0
    clear h0
    go_enter Try.func81, Try.ntmps81
    go_upto_region 1 with (fail)
    generalize hY : World.alloc w _ = Y
    have g : Below w.heap.size w Y := by rw [← hY]; go_grown
    have x0 : Y.cell? ⟨w.heap.size, 0, none⟩ = some (.int .i64 4) := by rw [← hY]; simp [go_sem]
    have x1 : Y.cell? ⟨w.heap.size, 1, none⟩ = some (.int .i64 tx) := by rw [← hY]; simp [go_sem]
    have x2 : Y.cell? ⟨w.heap.size, 2, none⟩ = some (.int .i64 pg) := by rw [← hY]; simp [go_sem]
    have x3 : Y.cell? ⟨w.heap.size, 3, none⟩ = some (.slice a n c) := by rw [← hY]; simp [go_sem]
    clear hY
    go_wp2_with fail
    refine (happeningOf_4 tx pg a n c _).mono ?_
    rintro e w1 ⟨rfl, g1⟩
    have x0 := cellUp g1 x0
    have x1 := cellUp g1 x1
    have x2 := cellUp g1 x2
    have x3 := cellUp g1 x3
    have g : Below w.heap.size w w1 := g.trans (g1.mono g.size)
    clear g1
    go_wp2_with fail
    refine (isTooMuch_4 4 tx pg a n c _).mono ?_
    rintro e w2 ⟨rfl, g1⟩
    have g : Below w.heap.size w w2 := g.trans (g1.mono g.size)
    clear g1 x0 x1 x2 x3
    rw [dt]
    clear dt
    go_wp2_with fail
    refine (happeningFault_86 tx pg a n c P A C Z _ hm hz (hr.below g (Nat.le_refl _))).mono ?_
    rintro e w3 ⟨rfl, g1⟩
    have g : Below w.heap.size w w3 := g.trans (g1.mono g.size)
    clear g1
    go_wp2_with fail
    go_ret
    exact ⟨by rw [HQ.out]; rfl, g⟩
  · have HQ : Hid (recQ 4 tx pg n P Z = 1) := by show _ = _; unfold recQ; rw [if_neg (by decide), if_neg (by decide), if_pos rfl, if_pos h0]
    have dt : (tx != 0) = true := by simpa using h0
    clear h0
    go_enter Try.func81, Try.ntmps81
    go_upto_region 1 with (fail)
    generalize hY : World.alloc w _ = Y
    have g : Below w.heap.size w Y := by rw [← hY]; go_grown
    have x0 : Y.cell? ⟨w.heap.size, 0, none⟩ = some (.int .i64 4) := by rw [← hY]; simp [go_sem]
    have x1 : Y.cell? ⟨w.heap.size, 1, none⟩ = some (.int .i64 tx) := by rw [← hY]; simp [go_sem]
    have x2 : Y.cell? ⟨w.heap.size, 2, none⟩ = some (.int .i64 pg) := by rw [← hY]; simp [go_sem]
    have x3 : Y.cell? ⟨w.heap.size, 3, none⟩ = some (.slice a n c) := by rw [← hY]; simp [go_sem]
    clear hY
    go_wp2_with fail
    refine (happeningOf_4 tx pg a n c _).mono ?_
    rintro e w1 ⟨rfl, g1⟩
    have x0 := cellUp g1 x0
    have x1 := cellUp g1 x1
    have x2 := cellUp g1 x2
    have x3 := cellUp g1 x3
    have g : Below w.heap.size w w1 := g.trans (g1.mono g.size)
    clear g1
    go_wp2_with fail
    refine (isTooMuch_4 4 tx pg a n c _).mono ?_
    rintro e w2 ⟨rfl, g1⟩
    have g : Below w.heap.size w w2 := g.trans (g1.mono g.size)
    clear g1 x0 x1 x2 x3
    rw [dt]
    clear dt
    go_wp2_with fail
    go_ret
    exact ⟨by rw [HQ.out]; rfl, g⟩

set_option maxHeartbeats 1000000 in
theorem implRecordFault_5 (tx pg : Int) (a : Option Addr) (n c : Nat) (P : Nat → Int) (A : Nat → Option Addr) (C : Nat → Nat) (Z : Nat → List Int) (w : World) (hm : n ≤ 1048576) (hz : Hid (∀ i, i < n → (Z i).length ≤ 1048576)) (hr : RunsRead w a n P A C Z) :
    Calls Try.prog 81 #[.agg #[.int .i64 5, .int .i64 tx, .int .i64 pg, .slice a n c]] w fun e w' => e = .returned (.int .i64 (recQ 5 tx pg n P Z)) ∧ Below w.heap.size w w' := by
  cases hmu : muchB pg n
  · have HQ : Hid (recQ 5 tx pg n P Z = txQ tx) := by show _ = _; unfold recQ; rw [if_pos (by decide), hmu]; rfl
    go_enter Try.func81, Try.ntmps81
    go_upto_region 1 with (fail)
    generalize hY : World.alloc w _ = Y
    have g : Below w.heap.size w Y := by rw [← hY]; go_grown
    have x0 : Y.cell? ⟨w.heap.size, 0, none⟩ = some (.int .i64 5) := by rw [← hY]; simp [go_sem]
    have x1 : Y.cell? ⟨w.heap.size, 1, none⟩ = some (.int .i64 tx) := by rw [← hY]; simp [go_sem]
    have x2 : Y.cell? ⟨w.heap.size, 2, none⟩ = some (.int .i64 pg) := by rw [← hY]; simp [go_sem]
    have x3 : Y.cell? ⟨w.heap.size, 3, none⟩ = some (.slice a n c) := by rw [← hY]; simp [go_sem]
    clear hY
    go_wp2_with fail
    refine (happeningOf_5 tx pg a n c _).mono ?_
    rintro e w1 ⟨rfl, g1⟩
    have x0 := cellUp g1 x0
    have x1 := cellUp g1 x1
    have x2 := cellUp g1 x2
    have x3 := cellUp g1 x3
    have g : Below w.heap.size w w1 := g.trans (g1.mono g.size)
    clear g1
    go_wp2_with fail
    refine (isTooMuch_5 5 tx pg a n c _).mono ?_
    rintro e w2 ⟨rfl, g1⟩
    have g : Below w.heap.size w w2 := g.trans (g1.mono g.size)
    clear g1 x0 x1 x2 x3
    rw [hmu]
    clear hmu
    go_wp2_with fail
    refine (happeningFault_87 tx _).mono ?_
    rintro e w3 ⟨rfl, g1⟩
    have g : Below w.heap.size w w3 := g.trans (g1.mono g.size)
    clear g1
    go_wp2_with fail
    go_ret
    exact ⟨by rw [HQ.out]; rfl, g⟩
  · have HQ : Hid (recQ 5 tx pg n P Z = 1) := by show _ = _; unfold recQ; rw [if_pos (by decide), hmu]; rfl
    go_enter Try.func81, Try.ntmps81
    go_upto_region 1 with (fail)
    generalize hY : World.alloc w _ = Y
    have g : Below w.heap.size w Y := by rw [← hY]; go_grown
    have x0 : Y.cell? ⟨w.heap.size, 0, none⟩ = some (.int .i64 5) := by rw [← hY]; simp [go_sem]
    have x1 : Y.cell? ⟨w.heap.size, 1, none⟩ = some (.int .i64 tx) := by rw [← hY]; simp [go_sem]
    have x2 : Y.cell? ⟨w.heap.size, 2, none⟩ = some (.int .i64 pg) := by rw [← hY]; simp [go_sem]
    have x3 : Y.cell? ⟨w.heap.size, 3, none⟩ = some (.slice a n c) := by rw [← hY]; simp [go_sem]
    clear hY
    go_wp2_with fail
    refine (happeningOf_5 tx pg a n c _).mono ?_
    rintro e w1 ⟨rfl, g1⟩
    have x0 := cellUp g1 x0
    have x1 := cellUp g1 x1
    have x2 := cellUp g1 x2
    have x3 := cellUp g1 x3
    have g : Below w.heap.size w w1 := g.trans (g1.mono g.size)
    clear g1
    go_wp2_with fail
    refine (isTooMuch_5 5 tx pg a n c _).mono ?_
    rintro e w2 ⟨rfl, g1⟩
    have g : Below w.heap.size w w2 := g.trans (g1.mono g.size)
    clear g1 x0 x1 x2 x3
    rw [hmu]
    clear hmu
    go_wp2_with fail
    go_ret
    exact ⟨by rw [HQ.out]; rfl, g⟩

set_option maxHeartbeats 1000000 in
theorem implRecordFault_6 (tx pg : Int) (a : Option Addr) (n c : Nat) (P : Nat → Int) (A : Nat → Option Addr) (C : Nat → Nat) (Z : Nat → List Int) (w : World) (hm : n ≤ 1048576) (hz : Hid (∀ i, i < n → (Z i).length ≤ 1048576)) (hr : RunsRead w a n P A C Z) :
    Calls Try.prog 81 #[.agg #[.int .i64 6, .int .i64 tx, .int .i64 pg, .slice a n c]] w fun e w' => e = .returned (.int .i64 (recQ 6 tx pg n P Z)) ∧ Below w.heap.size w w' := by
  cases hmu : muchB pg n
  · have HQ : Hid (recQ 6 tx pg n P Z = txQ tx) := by show _ = _; unfold recQ; rw [if_pos (by decide), hmu]; rfl
    go_enter Try.func81, Try.ntmps81
    go_upto_region 1 with (fail)
    generalize hY : World.alloc w _ = Y
    have g : Below w.heap.size w Y := by rw [← hY]; go_grown
    have x0 : Y.cell? ⟨w.heap.size, 0, none⟩ = some (.int .i64 6) := by rw [← hY]; simp [go_sem]
    have x1 : Y.cell? ⟨w.heap.size, 1, none⟩ = some (.int .i64 tx) := by rw [← hY]; simp [go_sem]
    have x2 : Y.cell? ⟨w.heap.size, 2, none⟩ = some (.int .i64 pg) := by rw [← hY]; simp [go_sem]
    have x3 : Y.cell? ⟨w.heap.size, 3, none⟩ = some (.slice a n c) := by rw [← hY]; simp [go_sem]
    clear hY
    go_wp2_with fail
    refine (happeningOf_6 tx pg a n c _).mono ?_
    rintro e w1 ⟨rfl, g1⟩
    have x0 := cellUp g1 x0
    have x1 := cellUp g1 x1
    have x2 := cellUp g1 x2
    have x3 := cellUp g1 x3
    have g : Below w.heap.size w w1 := g.trans (g1.mono g.size)
    clear g1
    go_wp2_with fail
    refine (isTooMuch_6 6 tx pg a n c _).mono ?_
    rintro e w2 ⟨rfl, g1⟩
    have g : Below w.heap.size w w2 := g.trans (g1.mono g.size)
    clear g1 x0 x1 x2 x3
    rw [hmu]
    clear hmu
    go_wp2_with fail
    refine (happeningFault_88 tx _).mono ?_
    rintro e w3 ⟨rfl, g1⟩
    have g : Below w.heap.size w w3 := g.trans (g1.mono g.size)
    clear g1
    go_wp2_with fail
    go_ret
    exact ⟨by rw [HQ.out]; rfl, g⟩
  · have HQ : Hid (recQ 6 tx pg n P Z = 1) := by show _ = _; unfold recQ; rw [if_pos (by decide), hmu]; rfl
    go_enter Try.func81, Try.ntmps81
    go_upto_region 1 with (fail)
    generalize hY : World.alloc w _ = Y
    have g : Below w.heap.size w Y := by rw [← hY]; go_grown
    have x0 : Y.cell? ⟨w.heap.size, 0, none⟩ = some (.int .i64 6) := by rw [← hY]; simp [go_sem]
    have x1 : Y.cell? ⟨w.heap.size, 1, none⟩ = some (.int .i64 tx) := by rw [← hY]; simp [go_sem]
    have x2 : Y.cell? ⟨w.heap.size, 2, none⟩ = some (.int .i64 pg) := by rw [← hY]; simp [go_sem]
    have x3 : Y.cell? ⟨w.heap.size, 3, none⟩ = some (.slice a n c) := by rw [← hY]; simp [go_sem]
    clear hY
    go_wp2_with fail
    refine (happeningOf_6 tx pg a n c _).mono ?_
    rintro e w1 ⟨rfl, g1⟩
    have x0 := cellUp g1 x0
    have x1 := cellUp g1 x1
    have x2 := cellUp g1 x2
    have x3 := cellUp g1 x3
    have g : Below w.heap.size w w1 := g.trans (g1.mono g.size)
    clear g1
    go_wp2_with fail
    refine (isTooMuch_6 6 tx pg a n c _).mono ?_
    rintro e w2 ⟨rfl, g1⟩
    have g : Below w.heap.size w w2 := g.trans (g1.mono g.size)
    clear g1 x0 x1 x2 x3
    rw [hmu]
    clear hmu
    go_wp2_with fail
    go_ret
    exact ⟨by rw [HQ.out]; rfl, g⟩

set_option maxHeartbeats 1000000 in
theorem implRecordFault_no (k tx pg : Int) (a : Option Addr) (n c : Nat) (w : World) (h : inR k 1 6 = false) (P : Nat → Int) (Z : Nat → List Int) :
    Calls Try.prog 81 #[.agg #[.int .i64 k, .int .i64 tx, .int .i64 pg, .slice a n c]] w fun e w' => e = .returned (.int .i64 (recQ k tx pg n P Z)) ∧ Below w.heap.size w w' := by
  have hk : k < 1 ∨ 6 < k := by simp [inR] at h; omega
  have HQ : Hid (recQ k tx pg n P Z = 1) := by show _ = _; unfold recQ; rw [if_neg (by omega), if_neg (by omega), if_neg (by omega)]
  clear hk
  go_enter Try.func81, Try.ntmps81
  go_upto_region 1 with (fail)
  generalize hY : World.alloc w _ = Y
  have g : Below w.heap.size w Y := by rw [← hY]; go_grown
  have x0 : Y.cell? ⟨w.heap.size, 0, none⟩ = some (.int .i64 k) := by rw [← hY]; simp [go_sem]
  have x1 : Y.cell? ⟨w.heap.size, 1, none⟩ = some (.int .i64 tx) := by rw [← hY]; simp [go_sem]
  have x2 : Y.cell? ⟨w.heap.size, 2, none⟩ = some (.int .i64 pg) := by rw [← hY]; simp [go_sem]
  have x3 : Y.cell? ⟨w.heap.size, 3, none⟩ = some (.slice a n c) := by rw [← hY]; simp [go_sem]
  clear hY
  go_wp2_with fail
  refine (happeningOf_no k tx pg a n c _ h).mono ?_
  rintro e w1 ⟨rfl, g1⟩
  have x0 := cellUp g1 x0
  have x1 := cellUp g1 x1
  have x2 := cellUp g1 x2
  have x3 := cellUp g1 x3
  have g : Below w.heap.size w w1 := g.trans (g1.mono g.size)
  clear g1
  go_wp2_with fail
  refine (isTooMuch_no k tx pg a n c _).mono ?_
  rintro e w2 ⟨rfl, g1⟩
  have g : Below w.heap.size w w2 := g.trans (g1.mono g.size)
  clear g1 x0 x1 x2 x3
  go_wp2_with fail
  refine (happeningFault_no _).mono ?_
  rintro e w3 ⟨rfl, g1⟩
  have g : Below w.heap.size w w3 := g.trans (g1.mono g.size)
  clear g1
  go_wp2_with fail
  go_ret
  exact ⟨by rw [HQ.out]; rfl, g⟩

theorem implRecordFault_any (k tx pg : Int) (a : Option Addr) (n c : Nat) (P : Nat → Int) (A : Nat → Option Addr) (C : Nat → Nat) (Z : Nat → List Int) (w : World) (hm : n ≤ 1048576) (hz : Hid (∀ i, i < n → (Z i).length ≤ 1048576)) (hr : RunsRead w a n P A C Z) :
    Calls Try.prog 81 #[.agg #[.int .i64 k, .int .i64 tx, .int .i64 pg, .slice a n c]] w fun e w' => e = .returned (.int .i64 (recQ k tx pg n P Z)) ∧ Below w.heap.size w w' := by
  cases h : inR k 1 6
  · exact implRecordFault_no k tx pg a n c w h P Z
  · have hk : k = 1 ∨ k = 2 ∨ k = 3 ∨ k = 4 ∨ k = 5 ∨ k = 6 := by simp [inR] at h; omega
    rcases hk with rfl | rfl | rfl | rfl | rfl | rfl
    · exact implRecordFault_1 tx pg a n c P A C Z w hm hz hr
    · exact implRecordFault_2 tx pg a n c P A C Z w hm hz hr
    · exact implRecordFault_3 tx pg a n c P A C Z w hm hz hr
    · exact implRecordFault_4 tx pg a n c P A C Z w hm hz hr
    · exact implRecordFault_5 tx pg a n c P A C Z w hm hz hr
    · exact implRecordFault_6 tx pg a n c P A C Z w hm hz hr

end Go.Proofs.Yteebbaleejbodaa
