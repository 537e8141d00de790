/-
  The program's changes alone and in a list: aloneFault, changedKey, ownChange, foldedFault.
-/
import Derived.Test.YtmbllmhpnopbdaaFFFcp
import Derived.Test.YtmbllmhpnopbdaaFFChf
import Derived.Test.YtmbllmhpnopbdaaFFPit
import Derived.Test.YtmbllmhpnopbdaaFFRkd
import Derived.Lib.AppendIntMem

namespace Go.Proofs.Ytmbllmhpnopbdaa
open Go.RowKit Go.Maps
set_option linter.unusedVariables false
set_option maxRecDepth 20000

set_option maxRecDepth 20000 in
set_option maxHeartbeats 1000000 in
theorem changedKey_any (x : Chg) (w : World) : Calls Try.prog 37 #[.agg #[.bool x.was, .int .i64 x.b.t, .int .i64 x.b.k, .int .i64 x.b.v, .string x.b.s, .bool x.is, .int .i64 x.a.t, .int .i64 x.a.k, .int .i64 x.a.v, .string x.a.s]] w fun e w' => e = .returned (.agg #[.int .i64 (kT x), .int .i64 (kK x)]) ∧ Below w.heap.size w w' := by
  obtain ⟨x0, ⟨bt, bk, bv, bs⟩, x5, ⟨at', ak, av, sa⟩⟩ := x
  dsimp only
  cases x5
  · go_enter Try.func37, Try.ntmps37
    go_wp2_with fail
    refine (keyOf_any _ _ _ _ _).mono ?_
    rintro e w' ⟨rfl, g⟩
    have c0 := (g.cell (p := ⟨w.heap.size + 1, 0, none⟩) (by simp)).trans (show _ = some (Value.int .i64 0) by simp [go_sem])
    have c1 := (g.cell (p := ⟨w.heap.size + 1, 1, none⟩) (by simp)).trans (show _ = some (Value.int .i64 0) by simp [go_sem])
    have f0 := (g.frozen (p := ⟨w.heap.size + 1, 0, none⟩) (by simp)).trans (show _ = false by simp [go_sem])
    have f1 := (g.frozen (p := ⟨w.heap.size + 1, 1, none⟩) (by simp)).trans (show _ = false by simp [go_sem])
    have gg : Below w.heap.size w w' := Below.trans (by go_grown) (g.mono (by simp; omega))
    clear g
    go_wp2_with fail
    refine bodyPost_ret (v := .agg #[.int .i64 bt, .int .i64 bk]) (by simp [results, Try.results37, go_sem, *]) rfl ?_
    exact ⟨rfl, by go_grown⟩
  · go_enter Try.func37, Try.ntmps37
    go_wp2_with fail
    refine (keyOf_any _ _ _ _ _).mono ?_
    rintro e w' ⟨rfl, g⟩
    have c0 := (g.cell (p := ⟨w.heap.size + 1, 0, none⟩) (by simp)).trans (show _ = some (Value.int .i64 0) by simp [go_sem])
    have c1 := (g.cell (p := ⟨w.heap.size + 1, 1, none⟩) (by simp)).trans (show _ = some (Value.int .i64 0) by simp [go_sem])
    have f0 := (g.frozen (p := ⟨w.heap.size + 1, 0, none⟩) (by simp)).trans (show _ = false by simp [go_sem])
    have f1 := (g.frozen (p := ⟨w.heap.size + 1, 1, none⟩) (by simp)).trans (show _ = false by simp [go_sem])
    have gg : Below w.heap.size w w' := Below.trans (by go_grown) (g.mono (by simp; omega))
    clear g
    go_wp2_with fail
    refine bodyPost_ret (v := .agg #[.int .i64 at', .int .i64 ak]) (by simp [results, Try.results37, go_sem, *]) rfl ?_
    exact ⟨rfl, by go_grown⟩

set_option maxHeartbeats 2000000 in
theorem aloneFault_any (x0 : Bool) (bt bk bv : Int) (bs : ByteArray) (x5 : Bool) (at' ak av : Int) (sa : ByteArray) (w : World) (hb : bs.size ≤ maxLen) (ha : sa.size ≤ maxLen) :
    Calls Try.prog 20 #[.agg #[.bool x0, .int .i64 bt, .int .i64 bk, .int .i64 bv, .string bs, .bool x5, .int .i64 at', .int .i64 ak, .int .i64 av, .string sa]] w fun e w' => e = .returned (.int .i64 (alQ (⟨x0, ⟨bt, bk, bv, bs⟩, x5, ⟨at', ak, av, sa⟩⟩ : Chg))) ∧ Below w.heap.size w w' := by
  obtain ⟨r, hr⟩ : ∃ r, alQ (⟨x0, ⟨bt, bk, bv, bs⟩, x5, ⟨at', ak, av, sa⟩⟩ : Chg) = r := ⟨_, rfl⟩
  have HE0 : Hid (r = if chQ (⟨x0, ⟨bt, bk, bv, bs⟩, x5, ⟨at', ak, av, sa⟩⟩ : Chg) = 0 then (if nthB (⟨x0, ⟨bt, bk, bv, bs⟩, x5, ⟨at', ak, av, sa⟩⟩ : Chg) = true then 1 else 0) else chQ (⟨x0, ⟨bt, bk, bv, bs⟩, x5, ⟨at', ak, av, sa⟩⟩ : Chg)) := by show _ = _; rw [← hr]; rfl
  rw [hr]
  clear hr
  go_enter Try.func20, Try.ntmps20
  go_upto_region 1 with (fail)
  generalize hX : World.alloc _ _ = X
  have gX : Below w.heap.size w X := by rw [← hX]; go_grown
  have hC : ChC X w.heap.size 0 (⟨x0, ⟨bt, bk, bv, bs⟩, x5, ⟨at', ak, av, sa⟩⟩ : Chg) := by rw [← hX]; exact ⟨by simp [go_sem], by simp [go_sem], by simp [go_sem], by simp [go_sem], by simp [go_sem], by simp [go_sem], by simp [go_sem], by simp [go_sem], by simp [go_sem], by simp [go_sem]⟩
  clear hX
  generalize w.heap.size = cb at hC ⊢
  have hcf := changeFault_any x0 bt bk bv bs x5 at' ak av sa X hb ha
  generalize chQ (⟨x0, ⟨bt, bk, bv, bs⟩, x5, ⟨at', ak, av, sa⟩⟩ : Chg) = q at HE0 hcf
  obtain ⟨z0, z1, z2, z3, z4, z5, z6, z7, z8, z9⟩ := hC
  dsimp only at z0 z1 z2 z3 z4 z5 z6 z7 z8 z9
  go_wp2_with (go_at_call 38; refine hcf.mono ?_)
  rintro e W1 ⟨rfl, g1⟩
  have hC : ChC W1 cb 0 (⟨x0, ⟨bt, bk, bv, bs⟩, x5, ⟨at', ak, av, sa⟩⟩ : Chg) := ChC.below (w := X) ⟨z0, z1, z2, z3, z4, z5, z6, z7, z8, z9⟩ g1 (World.block_lt_of_cell? _ _ z0)
  have g := gX.trans (g1.mono gX.size)
  clear z0 z1 z2 z3 z4 z5 z6 z7 z8 z9 gX g1 hcf
  by_cases hq : q = 0
  · have d : (q != 0) = false := by simpa using hq
    have HE1 : Hid (r = if nthB (⟨x0, ⟨bt, bk, bv, bs⟩, x5, ⟨at', ak, av, sa⟩⟩ : Chg) = true then 1 else 0) := by show _ = _; rw [HE0.out, if_pos hq]
    clear HE0
    have hno := isNothing_any x0 bt bk bv bs x5 at' ak av sa W1
    generalize nthB (⟨x0, ⟨bt, bk, bv, bs⟩, x5, ⟨at', ak, av, sa⟩⟩ : Chg) = t at HE1 hno
    obtain ⟨z0, z1, z2, z3, z4, z5, z6, z7, z8, z9⟩ := hC
    dsimp only at z0 z1 z2 z3 z4 z5 z6 z7 z8 z9
    go_wp2_with (go_at_call 39; refine hno.mono ?_)
    rintro e W2 ⟨rfl, g2⟩
    have g := g.trans (g2.mono g.size)
    clear z0 z1 z2 z3 z4 z5 z6 z7 z8 z9 g2 hno
    cases t
    · have HE : Hid (r = 0) := by show _ = _; rw [HE1.out]; rfl
      go_wp2_with fail
      go_ret
      exact ⟨by rw [HE.out]; rfl, g⟩
    · have HE : Hid (r = 1) := by show _ = _; rw [HE1.out]; rfl
      go_wp2_with fail
      go_ret
      exact ⟨by rw [HE.out]; rfl, g⟩
  · have d : (q != 0) = true := by simpa using hq
    have HE : Hid (r = q) := by show _ = _; rw [HE0.out, if_neg hq]
    clear hC
    go_wp2_with fail
    go_ret
    exact ⟨by rw [HE.out]; rfl, g⟩

/-- The rows of a change are laid again where they lie. -/
theorem ChC.setB {W : World} {b : Nat} {x : Chg} (h : ChC W b 0 x) : ChC ((((W.setCell ⟨b, 1, none⟩ (.int .i64 x.b.t)).setCell ⟨b, 2, none⟩ (.int .i64 x.b.k)).setCell ⟨b, 3, none⟩ (.int .i64 x.b.v)).setCell ⟨b, 4, none⟩ (.string x.b.s)) b 0 x := by
  obtain ⟨z0, z1, z2, z3, z4, z5, z6, z7, z8, z9⟩ := h
  simp only [Nat.zero_add] at z0 z1 z2 z3 z4 z5 z6 z7 z8 z9
  exact ⟨by simp [go_sem, *], by simp [go_sem, *], by simp [go_sem, *], by simp [go_sem, *], by simp [go_sem, *], by simp [go_sem, *], by simp [go_sem, *], by simp [go_sem, *], by simp [go_sem, *], by simp [go_sem, *]⟩
theorem ChC.setA {W : World} {b : Nat} {x : Chg} (h : ChC W b 0 x) : ChC ((((W.setCell ⟨b, 6, none⟩ (.int .i64 x.a.t)).setCell ⟨b, 7, none⟩ (.int .i64 x.a.k)).setCell ⟨b, 8, none⟩ (.int .i64 x.a.v)).setCell ⟨b, 9, none⟩ (.string x.a.s)) b 0 x := by
  obtain ⟨z0, z1, z2, z3, z4, z5, z6, z7, z8, z9⟩ := h
  simp only [Nat.zero_add] at z0 z1 z2 z3 z4 z5 z6 z7 z8 z9
  exact ⟨by simp [go_sem, *], by simp [go_sem, *], by simp [go_sem, *], by simp [go_sem, *], by simp [go_sem, *], by simp [go_sem, *], by simp [go_sem, *], by simp [go_sem, *], by simp [go_sem, *], by simp [go_sem, *]⟩

/-- What ownChange keeps. -/
structure OcS (w : World) (cb : Nat) (x : Chg) (V : World) : Prop where
  c : ChC V cb 0 x
  f : ∀ k, V.frozen? ⟨cb, k, none⟩ = false
  o : ∀ k, k < 10 → ∃ u, V.cell? ⟨cb + 1, k, none⟩ = some u
  fo : ∀ k, V.frozen? ⟨cb + 1, k, none⟩ = false
  g : Below w.heap.size w V
theorem OcS.below {w V V' : World} {cb : Nat} {x : Chg} (h : OcS w cb x V) (hb : Below V.heap.size V V') : OcS w cb x V' := by
  have hl : cb + 1 < V.heap.size := by obtain ⟨u, hu⟩ := h.o 0 (by omega); exact World.block_lt_of_cell? V _ hu
  refine ⟨h.c.below hb h.c.lt, fun k => (hb.frozen (p := ⟨cb, k, none⟩) h.c.lt).trans (h.f k), fun k hk => ?_, fun k => (hb.frozen (p := ⟨cb + 1, k, none⟩) hl).trans (h.fo k), h.g.trans (hb.mono h.g.size)⟩
  obtain ⟨u, hu⟩ := h.o k hk
  exact ⟨u, (hb.cell hl).trans hu⟩
theorem OcS.turned {w V V' : World} {cb : Nat} {x : Chg} (h : OcS w cb x V) (ht : Turned cb (cb + 1) V V') (hc : ChC V' cb 0 x) (hf : ∀ k, V'.frozen? ⟨cb, k, none⟩ = false) (hw : w.heap.size ≤ cb) : OcS w cb x V' := by
  refine ⟨hc, hf, fun k hk => ?_, fun k => ?_, h.g.trans (ht.toBelow h.g.size hw)⟩
  · obtain ⟨u, hu⟩ := h.o k hk
    exact ⟨u, ht.cell (p := ⟨cb + 1, k, none⟩) hu (.inr (Nat.le_refl _))⟩
  · obtain ⟨u, hu⟩ := h.o 0 (by omega)
    have hl : cb + 1 < V.heap.size := World.block_lt_of_cell? V _ hu
    exact (World.frozen?_of_block (ht.block (cb + 1) hl (by omega))).trans (h.fo k)

set_option maxHeartbeats 4000000 in
theorem ownChange_any (x0 : Bool) (bt bk bv : Int) (bs : ByteArray) (x5 : Bool) (at' ak av : Int) (sa : ByteArray) (w : World) (hb : bs.size ≤ 1048576) (ha : sa.size ≤ 1048576) :
    Calls Try.prog 23 #[.agg #[.bool x0, .int .i64 bt, .int .i64 bk, .int .i64 bv, .string bs, .bool x5, .int .i64 at', .int .i64 ak, .int .i64 av, .string sa]] w fun e w' => e = .returned (.agg #[.bool x0, .int .i64 bt, .int .i64 bk, .int .i64 bv, .string bs, .bool x5, .int .i64 at', .int .i64 ak, .int .i64 av, .string sa]) ∧ Below w.heap.size w w' := by
  go_enter Try.func23, Try.ntmps23
  go_upto_region 1 with (fail)
  generalize hX : World.alloc _ _ = X
  have hS : OcS w w.heap.size (⟨x0, ⟨bt, bk, bv, bs⟩, x5, ⟨at', ak, av, sa⟩⟩ : Chg) X := by
    rw [← hX]
    refine ⟨⟨by simp [go_sem], by simp [go_sem], by simp [go_sem], by simp [go_sem], by simp [go_sem], by simp [go_sem], by simp [go_sem], by simp [go_sem], by simp [go_sem], by simp [go_sem]⟩, fun k => by simp [go_sem], fun k hk => ?_, fun k => by simp [go_sem], by go_grown⟩
    match k, hk with
    | 0, _ => exact ⟨_, by simp [go_sem]; rfl⟩
    | 1, _ => exact ⟨_, by simp [go_sem]; rfl⟩
    | 2, _ => exact ⟨_, by simp [go_sem]; rfl⟩
    | 3, _ => exact ⟨_, by simp [go_sem]; rfl⟩
    | 4, _ => exact ⟨_, by simp [go_sem]; rfl⟩
    | 5, _ => exact ⟨_, by simp [go_sem]; rfl⟩
    | 6, _ => exact ⟨_, by simp [go_sem]; rfl⟩
    | 7, _ => exact ⟨_, by simp [go_sem]; rfl⟩
    | 8, _ => exact ⟨_, by simp [go_sem]; rfl⟩
    | 9, _ => exact ⟨_, by simp [go_sem]; rfl⟩
  clear hX
  obtain ⟨cb, hcb⟩ : ∃ cb, w.heap.size = cb := ⟨_, rfl⟩
  have hcb1 : w.heap.size ≤ cb := by omega
  rw [hcb] at hS
  simp only [hcb]
  clear hcb
  have h0 : OcS w cb (⟨x0, ⟨bt, bk, bv, bs⟩, x5, ⟨at', ak, av, sa⟩⟩ : Chg) X.drew := hS.below (Below.refl _ _).drew
  refine wp_region_held_drew (S := OcS w cb (⟨x0, ⟨bt, bk, bv, bs⟩, x5, ⟨at', ak, av, sa⟩⟩ : Chg)) (by kernel_rfl) h0 (fun hHeld => ?_)
  generalize X.drew = D at hHeld ⊢
  clear hS h0
  refine wpAnyH_take (i := 0) (v := ?v1) rfl (by kernel_rfl) (by kernel_rfl) (by kernel_rfl) (fun _ _ _ h => h) (Or.inl ⟨by kernel_rfl, ?h1⟩) hHeld ?_
  case h1 => intro u hSw; clear hSw; go_simp; try with_reducible rfl
  try simp only [List.getElem_toArray]
  try simp only [List.getElem_cons_succ]
  try simp only [List.getElem_cons_zero]
  try simp only [Act.put]
  try simp only [List.setIfInBounds_toArray]
  try simp only [List.set]
  refine wpAnyH_take (i := 1) (v := ?v2) rfl (by kernel_rfl) (by kernel_rfl) (by kernel_rfl) (fun _ _ _ h => h) (Or.inl ⟨by kernel_rfl, ?h2⟩) hHeld ?_
  case h2 => intro u hSw; (obtain ⟨z0, z1, z2, z3, z4, z5, z6, z7, z8, z9⟩ := hSw.c); dsimp only at z0 z1 z2 z3 z4 z5 z6 z7 z8 z9; simp only [Nat.zero_add] at z0 z1 z2 z3 z4 z5 z6 z7 z8 z9; clear hSw; go_simp; try with_reducible rfl
  try simp only [List.getElem_toArray]
  try simp only [List.getElem_cons_succ]
  try simp only [List.getElem_cons_zero]
  try simp only [Act.put]
  try simp only [List.setIfInBounds_toArray]
  try simp only [List.set]
  refine wpAnyH_take (i := 3) (v := ?v3) rfl (by kernel_rfl) (by kernel_rfl) (by kernel_rfl) (fun _ _ _ h => h) (Or.inl ⟨by kernel_rfl, ?h3⟩) hHeld ?_
  case h3 => intro u hSw; clear hSw; go_simp; try with_reducible rfl
  try simp only [List.getElem_toArray]
  try simp only [List.getElem_cons_succ]
  try simp only [List.getElem_cons_zero]
  try simp only [Act.put]
  try simp only [List.setIfInBounds_toArray]
  try simp only [List.set]
  refine wpAnyH_take (i := 4) (v := ?v4) rfl (by kernel_rfl) (by kernel_rfl) (by kernel_rfl) (fun _ _ _ h => h) (Or.inl ⟨by kernel_rfl, ?h4⟩) hHeld ?_
  case h4 => intro u hSw; (obtain ⟨z0, z1, z2, z3, z4, z5, z6, z7, z8, z9⟩ := hSw.c); dsimp only at z0 z1 z2 z3 z4 z5 z6 z7 z8 z9; simp only [Nat.zero_add] at z0 z1 z2 z3 z4 z5 z6 z7 z8 z9; clear hSw; go_simp; try with_reducible rfl
  try simp only [List.getElem_toArray]
  try simp only [List.getElem_cons_succ]
  try simp only [List.getElem_cons_zero]
  try simp only [Act.put]
  try simp only [List.setIfInBounds_toArray]
  try simp only [List.set]
  refine wpAnyH_ready (rs := [2]) (by kernel_rfl) (by simp) ?_
  refine AllReadyH.cons rfl (fun K hK => ?_) AllReadyH.nil
  go_simp
  go_wp2_with (go_at_call 32; refine (ownRow_any _ _ _ _ _ hb).mono ?_; rintro e W2 ⟨rfl, gg⟩)
  refine hK.out _ _ (hHeld.below gg) (fun hHeld => ?_)
  clear hK K
  clear gg
  try simp only [Act.put]
  try simp only [List.setIfInBounds_toArray]
  try simp only [List.set]
  refine wpAnyH_take (i := 6) (v := ?v5) rfl (by kernel_rfl) (by kernel_rfl) (by kernel_rfl) (fun _ _ _ h => h) (Or.inl ⟨by kernel_rfl, ?h5⟩) hHeld ?_
  case h5 => intro u hSw; clear hSw; go_simp; try with_reducible rfl
  try simp only [List.getElem_toArray]
  try simp only [List.getElem_cons_succ]
  try simp only [List.getElem_cons_zero]
  try simp only [Act.put]
  try simp only [List.setIfInBounds_toArray]
  try simp only [List.set]
  refine wpAnyH_ready (rs := [5]) (by kernel_rfl) (by simp) ?_
  refine AllReadyH.cons rfl (fun K hK => ?_) AllReadyH.nil
  go_simp
  go_wp2_with (go_at_call 32; refine (ownRow_any _ _ _ _ _ ha).mono ?_; rintro e W5 ⟨rfl, gg⟩)
  refine hK.out _ _ (hHeld.below gg) (fun hHeld => ?_)
  clear hK K
  clear gg
  try simp only [Act.put]
  try simp only [List.setIfInBounds_toArray]
  try simp only [List.set]
  have T7 : Turned cb (cb + 1) W5 ((((W5.setCell ⟨cb, 1, none⟩ (.int .i64 bt)).setCell ⟨cb, 2, none⟩ (.int .i64 bk)).setCell ⟨cb, 3, none⟩ (.int .i64 bv)).setCell ⟨cb, 4, none⟩ (.string bs)) := (((((Turned.refl _ _ W5).setCell (p := ⟨cb, 1, none⟩) (Nat.le_refl _) (Nat.lt_succ_self _) _).setCell (p := ⟨cb, 2, none⟩) (Nat.le_refl _) (Nat.lt_succ_self _) _).setCell (p := ⟨cb, 3, none⟩) (Nat.le_refl _) (Nat.lt_succ_self _) _).setCell (p := ⟨cb, 4, none⟩) (Nat.le_refl _) (Nat.lt_succ_self _) _)
  have hS7 : OcS w cb (⟨x0, ⟨bt, bk, bv, bs⟩, x5, ⟨at', ak, av, sa⟩⟩ : Chg) ((((W5.setCell ⟨cb, 1, none⟩ (.int .i64 bt)).setCell ⟨cb, 2, none⟩ (.int .i64 bk)).setCell ⟨cb, 3, none⟩ (.int .i64 bv)).setCell ⟨cb, 4, none⟩ (.string bs)) := hHeld.turned T7 (hHeld.c.setB) (fun k => by simp only [World.frozen?_setCell]; exact hHeld.f k) hcb1
  have f1 := hHeld.f 1
  have f2 := hHeld.f 2
  have f3 := hHeld.f 3
  have f4 := hHeld.f 4
  obtain ⟨z0, z1, z2, z3, z4, z5, z6, z7, z8, z9⟩ := hHeld.c
  dsimp only at z0 z1 z2 z3 z4 z5 z6 z7 z8 z9
  simp only [Nat.zero_add] at z0 z1 z2 z3 z4 z5 z6 z7 z8 z9
  refine wpAnyH_ready (rs := [7]) (by kernel_rfl) (by simp) ?_
  refine AllReadyH.cons rfl (fun K hK => ?_) AllReadyH.nil
  go_simp
  refine hK.out _ _ hS7 (fun hHeld => ?_)
  clear hK K z0 z1 z2 z3 z4 z5 z6 z7 z8 z9 f1 f2 f3 f4 T7 hS7
  generalize ((((W5.setCell ⟨cb, 1, none⟩ (.int .i64 bt)).setCell ⟨cb, 2, none⟩ (.int .i64 bk)).setCell ⟨cb, 3, none⟩ (.int .i64 bv)).setCell ⟨cb, 4, none⟩ (.string bs)) = U7 at hHeld ⊢
  try simp only [Act.put]
  try simp only [List.setIfInBounds_toArray]
  try simp only [List.set]
  refine wpAnyH_take (i := 8) (v := ?v6) rfl (by kernel_rfl) (by kernel_rfl) (by kernel_rfl) (fun _ _ _ h => h) (Or.inl ⟨by kernel_rfl, ?h6⟩) hHeld ?_
  case h6 => intro u hSw; clear hSw; go_simp; try with_reducible rfl
  try simp only [List.getElem_toArray]
  try simp only [List.getElem_cons_succ]
  try simp only [List.getElem_cons_zero]
  try simp only [Act.put]
  try simp only [List.setIfInBounds_toArray]
  try simp only [List.set]
  have T9 : Turned cb (cb + 1) U7 ((((U7.setCell ⟨cb, 6, none⟩ (.int .i64 at')).setCell ⟨cb, 7, none⟩ (.int .i64 ak)).setCell ⟨cb, 8, none⟩ (.int .i64 av)).setCell ⟨cb, 9, none⟩ (.string sa)) := (((((Turned.refl _ _ U7).setCell (p := ⟨cb, 6, none⟩) (Nat.le_refl _) (Nat.lt_succ_self _) _).setCell (p := ⟨cb, 7, none⟩) (Nat.le_refl _) (Nat.lt_succ_self _) _).setCell (p := ⟨cb, 8, none⟩) (Nat.le_refl _) (Nat.lt_succ_self _) _).setCell (p := ⟨cb, 9, none⟩) (Nat.le_refl _) (Nat.lt_succ_self _) _)
  have hS9 : OcS w cb (⟨x0, ⟨bt, bk, bv, bs⟩, x5, ⟨at', ak, av, sa⟩⟩ : Chg) ((((U7.setCell ⟨cb, 6, none⟩ (.int .i64 at')).setCell ⟨cb, 7, none⟩ (.int .i64 ak)).setCell ⟨cb, 8, none⟩ (.int .i64 av)).setCell ⟨cb, 9, none⟩ (.string sa)) := hHeld.turned T9 (hHeld.c.setA) (fun k => by simp only [World.frozen?_setCell]; exact hHeld.f k) hcb1
  have f6 := hHeld.f 6
  have f7 := hHeld.f 7
  have f8 := hHeld.f 8
  have f9 := hHeld.f 9
  obtain ⟨z0, z1, z2, z3, z4, z5, z6, z7, z8, z9⟩ := hHeld.c
  dsimp only at z0 z1 z2 z3 z4 z5 z6 z7 z8 z9
  simp only [Nat.zero_add] at z0 z1 z2 z3 z4 z5 z6 z7 z8 z9
  refine wpAnyH_ready (rs := [9]) (by kernel_rfl) (by simp) ?_
  refine AllReadyH.cons rfl (fun K hK => ?_) AllReadyH.nil
  go_simp
  refine hK.out _ _ hS9 (fun hHeld => ?_)
  clear hK K z0 z1 z2 z3 z4 z5 z6 z7 z8 z9 f6 f7 f8 f9 T9 hS9
  generalize ((((U7.setCell ⟨cb, 6, none⟩ (.int .i64 at')).setCell ⟨cb, 7, none⟩ (.int .i64 ak)).setCell ⟨cb, 8, none⟩ (.int .i64 av)).setCell ⟨cb, 9, none⟩ (.string sa)) = U9 at hHeld ⊢
  try simp only [Act.put]
  try simp only [List.setIfInBounds_toArray]
  try simp only [List.set]
  refine wpAnyH_done (by kernel_rfl) ?_ _
  have g := hHeld.g
  have hl : w.heap.size ≤ cb + 1 := by omega
  obtain ⟨z0, z1, z2, z3, z4, z5, z6, z7, z8, z9⟩ := hHeld.c
  dsimp only at z0 z1 z2 z3 z4 z5 z6 z7 z8 z9
  simp only [Nat.zero_add] at z0 z1 z2 z3 z4 z5 z6 z7 z8 z9
  obtain ⟨u0', o0⟩ := hHeld.o 0 (by omega)
  have f0 := hHeld.fo 0
  obtain ⟨u1', o1⟩ := hHeld.o 1 (by omega)
  have f1 := hHeld.fo 1
  obtain ⟨u2', o2⟩ := hHeld.o 2 (by omega)
  have f2 := hHeld.fo 2
  obtain ⟨u3', o3⟩ := hHeld.o 3 (by omega)
  have f3 := hHeld.fo 3
  obtain ⟨u4', o4⟩ := hHeld.o 4 (by omega)
  have f4 := hHeld.fo 4
  obtain ⟨u5', o5⟩ := hHeld.o 5 (by omega)
  have f5 := hHeld.fo 5
  obtain ⟨u6', o6⟩ := hHeld.o 6 (by omega)
  have f6 := hHeld.fo 6
  obtain ⟨u7', o7⟩ := hHeld.o 7 (by omega)
  have f7 := hHeld.fo 7
  obtain ⟨u8', o8⟩ := hHeld.o 8 (by omega)
  have f8 := hHeld.fo 8
  obtain ⟨u9', o9⟩ := hHeld.o 9 (by omega)
  have f9 := hHeld.fo 9
  clear hHeld
  go_wp2_with fail
  refine bodyPost_ret (v := .agg #[.bool x0, .int .i64 bt, .int .i64 bk, .int .i64 bv, .string bs, .bool x5, .int .i64 at', .int .i64 ak, .int .i64 av, .string sa]) (by simp [results, Try.results23, go_sem, *]) rfl ?_
  refine ⟨rfl, g.trans (Turned.toBelow (lo := cb + 1) (hi := cb + 1 + 1) ?_ g.size hl)⟩
  exact ((((((((((Turned.refl _ _ U9).setCell (p := ⟨cb + 1, 0, none⟩) (Nat.le_refl _) (Nat.lt_succ_self _) _).setCell (p := ⟨cb + 1, 1, none⟩) (Nat.le_refl _) (Nat.lt_succ_self _) _).setCell (p := ⟨cb + 1, 2, none⟩) (Nat.le_refl _) (Nat.lt_succ_self _) _).setCell (p := ⟨cb + 1, 3, none⟩) (Nat.le_refl _) (Nat.lt_succ_self _) _).setCell (p := ⟨cb + 1, 4, none⟩) (Nat.le_refl _) (Nat.lt_succ_self _) _).setCell (p := ⟨cb + 1, 5, none⟩) (Nat.le_refl _) (Nat.lt_succ_self _) _).setCell (p := ⟨cb + 1, 6, none⟩) (Nat.le_refl _) (Nat.lt_succ_self _) _).setCell (p := ⟨cb + 1, 7, none⟩) (Nat.le_refl _) (Nat.lt_succ_self _) _).setCell (p := ⟨cb + 1, 8, none⟩) (Nat.le_refl _) (Nat.lt_succ_self _) _).setCell (p := ⟨cb + 1, 9, none⟩) (Nat.le_refl _) (Nat.lt_succ_self _) _

end Go.Proofs.Ytmbllmhpnopbdaa
