/-
  slices.IndexFunc and slices.ContainsFunc over rows, with the closures of hasRows and hasLonger.
-/
import Derived.Test.YtpjlpnaamkbicaaGreatDoorCKLon
import Derived.Deep.RegionHeld

namespace Go.Proofs.YtpjlpnaamkbicaaGreatDoor
open Go.RowKit
set_option linter.unusedVariables false

set_option maxHeartbeats 400000 in
theorem hasRows1_any (xt xk xv : Int) (xs : ByteArray) (tb : Nat) (t : Int) (w : World) (ht : w.cell? ⟨tb, 0, none⟩ = some (.int .i64 t)) :
    Calls Tryz.prog 126 #[.agg #[.int .i64 xt, .int .i64 xk, .int .i64 xv, .string xs], .pointer (some ⟨tb, 0, none⟩)] w fun e w' => e = .returned (.bool (decide (xt = t))) ∧ Below w.heap.size w w' := by
  go_enter Tryz.func126, Tryz.ntmps126
  have hlt := World.block_lt_of_cell? w _ ht
  go_wp2_with fail
  go_ret
  exact ⟨rfl, by go_grown⟩

set_option maxHeartbeats 400000 in
theorem textLength_any (xt xk xv : Int) (xs : ByteArray) (w : World) (hs : xs.size ≤ maxLen) :
    Calls Tryz.prog 121 #[.agg #[.int .i64 xt, .int .i64 xk, .int .i64 xv, .string xs]] w fun e w' => e = .returned (.int .i64 (xs.size : Int)) ∧ Below w.heap.size w w' := by
  go_enter Tryz.func121, Tryz.ntmps121
  go_wp2_with fail
  go_ret
  exact ⟨rfl, by go_grown⟩

structure HlS (w : World) (b tb lb : Nat) (x : Rw) (t l : Int) (V : World) : Prop where
  r : RowC V b 0 x
  t0 : V.cell? ⟨tb, 0, none⟩ = some (.int .i64 t)
  l0 : V.cell? ⟨lb, 0, none⟩ = some (.int .i64 l)
  g : Below w.heap.size w V
theorem HlS.up {w V W : World} {b tb lb : Nat} {x : Rw} {t l : Int} (h : HlS w b tb lb x t l V) (hb : Below V.heap.size V W) : HlS w b tb lb x t l W :=
  ⟨h.r.below hb (World.block_lt_of_cell? V _ h.r.c0), (hb.cell (p := ⟨tb, 0, none⟩) (World.block_lt_of_cell? V _ h.t0)).trans h.t0, (hb.cell (p := ⟨lb, 0, none⟩) (World.block_lt_of_cell? V _ h.l0)).trans h.l0, h.g.trans (hb.mono h.g.size)⟩
theorem HlS.drew {w V : World} {b tb lb : Nat} {x : Rw} {t l : Int} (h : HlS w b tb lb x t l V) : HlS w b tb lb x t l V.drew := ⟨⟨h.r.c0, h.r.c1, h.r.c2, h.r.c3⟩, h.t0, h.l0, h.g.drew⟩

/-- Whether a row is of a table, and its text longer than that. -/
def lngB (x : Rw) (t l : Int) : Bool := decide (x.t = t) && decide ((x.s.size : Int) > l)

set_option maxRecDepth 20000 in
set_option maxHeartbeats 4000000 in
theorem hasLonger1_any (xt xk xv : Int) (xs : ByteArray) (tb lb : Nat) (t l : Int) (w : World) (hs : xs.size ≤ maxLen) (ht : w.cell? ⟨tb, 0, none⟩ = some (.int .i64 t)) (hl : w.cell? ⟨lb, 0, none⟩ = some (.int .i64 l)) :
    Calls Tryz.prog 125 #[.agg #[.int .i64 xt, .int .i64 xk, .int .i64 xv, .string xs], .pointer (some ⟨tb, 0, none⟩), .pointer (some ⟨lb, 0, none⟩)] w fun e w' => e = .returned (.bool (lngB ⟨xt, xk, xv, xs⟩ t l)) ∧ Below w.heap.size w w' := by
  go_enter Tryz.func125, Tryz.ntmps125
  go_upto_region 1 with (fail)
  generalize hY : World.alloc _ _ = Y
  have gY : Below w.heap.size w Y := by rw [← hY]; go_grown
  have H : HlS w w.heap.size tb lb ⟨xt, xk, xv, xs⟩ t l Y := ⟨by rw [← hY]; exact ⟨by simp [go_sem], by simp [go_sem], by simp [go_sem], by simp [go_sem]⟩, (gY.cell (p := ⟨tb, 0, none⟩) (World.block_lt_of_cell? w _ ht)).trans ht, (gY.cell (p := ⟨lb, 0, none⟩) (World.block_lt_of_cell? w _ hl)).trans hl, gY⟩
  clear hY gY ht hl
  refine wp_region_held_drew (S := HlS w w.heap.size tb lb ⟨xt, xk, xv, xs⟩ t l) (by kernel_rfl) H.drew (fun hHeld => ?_)
  generalize Y.drew = D at hHeld ⊢
  clear H
  by_cases h0 : xt = t
  · subst h0
    have HB : Hid (lngB ⟨xt, xk, xv, xs⟩ xt l = decide ((xs.size : Int) > l)) := by show _ = _; unfold lngB; simp
    refine wpAnyH_take (i := 0) (v := ?v1) rfl (by kernel_rfl) (by kernel_rfl) (by kernel_rfl) (fun _ _ _ h => h) (Or.inl ⟨by kernel_rfl, ?h1⟩) hHeld ?_
    case h1 => intro u hSw; (obtain ⟨x0, x1, x2, x3⟩ := hSw.r; dsimp only at x0 x1 x2 x3); have tt := hSw.t0; have ll := hSw.l0; clear hSw; go_simp; try with_reducible rfl
    try simp only [List.getElem_toArray]
    try simp only [List.getElem_cons_succ]
    try simp only [List.getElem_cons_zero]
    try simp only [Act.put]
    try simp only [List.setIfInBounds_toArray]
    try simp only [List.set]
    refine wpAnyH_take (i := 1) (v := ?v2) rfl (by kernel_rfl) (by kernel_rfl) (by kernel_rfl) (fun _ _ _ h => h) (Or.inl ⟨by kernel_rfl, ?h2⟩) hHeld ?_
    case h2 => intro u hSw; (obtain ⟨x0, x1, x2, x3⟩ := hSw.r; dsimp only at x0 x1 x2 x3); have tt := hSw.t0; have ll := hSw.l0; clear hSw; go_simp; try with_reducible rfl
    try simp only [List.getElem_toArray]
    try simp only [List.getElem_cons_succ]
    try simp only [List.getElem_cons_zero]
    try simp only [Act.put]
    try simp only [List.setIfInBounds_toArray]
    try simp only [List.set]
    refine wpAnyH_take (i := 2) (v := ?v3) rfl (by kernel_rfl) (by kernel_rfl) (by kernel_rfl) (fun _ _ _ h => h) (Or.inl ⟨by kernel_rfl, ?h3⟩) hHeld ?_
    case h3 => intro u hSw; (obtain ⟨x0, x1, x2, x3⟩ := hSw.r; dsimp only at x0 x1 x2 x3); have tt := hSw.t0; have ll := hSw.l0; clear hSw; go_simp; try with_reducible rfl
    try simp only [List.getElem_toArray]
    try simp only [List.getElem_cons_succ]
    try simp only [List.getElem_cons_zero]
    try simp only [Act.put]
    try simp only [List.setIfInBounds_toArray]
    try simp only [List.set]
    refine wpAnyH_take (i := 3) (v := ?v4) rfl (by kernel_rfl) (by kernel_rfl) (by kernel_rfl) (fun _ _ _ h => h) (Or.inl ⟨by kernel_rfl, ?h4⟩) hHeld ?_
    case h4 => intro u hSw; (obtain ⟨x0, x1, x2, x3⟩ := hSw.r; dsimp only at x0 x1 x2 x3); have tt := hSw.t0; have ll := hSw.l0; clear hSw; go_simp; try with_reducible rfl
    try simp only [List.getElem_toArray]
    try simp only [List.getElem_cons_succ]
    try simp only [List.getElem_cons_zero]
    try simp only [Act.put]
    try simp only [List.setIfInBounds_toArray]
    try simp only [List.set]
    refine wpAnyH_take (i := 4) (v := ?v5) rfl (by kernel_rfl) (by kernel_rfl) (by kernel_rfl) (fun _ _ _ h => h) (Or.inl ⟨by kernel_rfl, ?h5⟩) hHeld ?_
    case h5 => intro u hSw; (obtain ⟨x0, x1, x2, x3⟩ := hSw.r; dsimp only at x0 x1 x2 x3); have tt := hSw.t0; have ll := hSw.l0; clear hSw; go_simp; try with_reducible rfl
    try simp only [List.getElem_toArray]
    try simp only [List.getElem_cons_succ]
    try simp only [List.getElem_cons_zero]
    try simp only [Act.put]
    try simp only [List.setIfInBounds_toArray]
    try simp only [List.set]
    refine wpAnyH_take (i := 5) (v := ?v6) rfl (by kernel_rfl) (by kernel_rfl) (by kernel_rfl) (fun _ _ _ h => h) (Or.inl ⟨by kernel_rfl, ?h6⟩) hHeld ?_
    case h6 => intro u hSw; (obtain ⟨x0, x1, x2, x3⟩ := hSw.r; dsimp only at x0 x1 x2 x3); have tt := hSw.t0; have ll := hSw.l0; clear hSw; go_simp; try with_reducible rfl
    try simp only [List.getElem_toArray]
    try simp only [List.getElem_cons_succ]
    try simp only [List.getElem_cons_zero]
    try simp only [Act.put]
    try simp only [List.setIfInBounds_toArray]
    try simp only [List.set]
    refine wpAnyH_take (i := 7) (v := ?v7) rfl (by kernel_rfl) (by kernel_rfl) (by kernel_rfl) (fun _ _ _ h => h) (Or.inl ⟨by kernel_rfl, ?h7⟩) hHeld ?_
    case h7 => intro u hSw; (obtain ⟨x0, x1, x2, x3⟩ := hSw.r; dsimp only at x0 x1 x2 x3); have tt := hSw.t0; have ll := hSw.l0; clear hSw; go_simp; try with_reducible rfl
    try simp only [List.getElem_toArray]
    try simp only [List.getElem_cons_succ]
    try simp only [List.getElem_cons_zero]
    try simp only [Act.put]
    try simp only [List.setIfInBounds_toArray]
    try simp only [List.set]
    refine wpAnyH_ready (rs := [6]) (by kernel_rfl) (by simp) ?_
    refine AllReadyH.cons rfl (fun K hK => ?_) AllReadyH.nil
    go_simp
    go_wp2_with (go_at_call 121; refine (textLength_any xt xk xv xs _ hs).mono ?_; rintro e D1 ⟨rfl, gb⟩)
    refine hK.out _ _ (hHeld.up gb) (fun hHeld => ?_)
    clear hK K
    clear gb
    try simp only [Act.put]
    try simp only [List.setIfInBounds_toArray]
    try simp only [List.set]
    refine wpAnyH_take (i := 8) (v := ?v8) rfl (by kernel_rfl) (by kernel_rfl) (by kernel_rfl) (fun _ _ _ h => h) (Or.inl ⟨by kernel_rfl, ?h8⟩) hHeld ?_
    case h8 => intro u hSw; (obtain ⟨x0, x1, x2, x3⟩ := hSw.r; dsimp only at x0 x1 x2 x3); have tt := hSw.t0; have ll := hSw.l0; clear hSw; go_simp; try with_reducible rfl
    try simp only [List.getElem_toArray]
    try simp only [List.getElem_cons_succ]
    try simp only [List.getElem_cons_zero]
    try simp only [Act.put]
    try simp only [List.setIfInBounds_toArray]
    try simp only [List.set]
    refine wpAnyH_take (i := 9) (v := ?v9) rfl (by kernel_rfl) (by kernel_rfl) (by kernel_rfl) (fun _ _ _ h => h) (Or.inl ⟨by kernel_rfl, ?h9⟩) hHeld ?_
    case h9 => intro u hSw; (obtain ⟨x0, x1, x2, x3⟩ := hSw.r; dsimp only at x0 x1 x2 x3); have tt := hSw.t0; have ll := hSw.l0; clear hSw; go_simp; try with_reducible rfl
    try simp only [List.getElem_toArray]
    try simp only [List.getElem_cons_succ]
    try simp only [List.getElem_cons_zero]
    try simp only [Act.put]
    try simp only [List.setIfInBounds_toArray]
    try simp only [List.set]
    refine wpAnyH_take (i := 10) (v := ?v10) rfl (by kernel_rfl) (by kernel_rfl) (by kernel_rfl) (fun _ _ _ h => h) (Or.inl ⟨by kernel_rfl, ?h10⟩) hHeld ?_
    case h10 => intro u hSw; (obtain ⟨x0, x1, x2, x3⟩ := hSw.r; dsimp only at x0 x1 x2 x3); have tt := hSw.t0; have ll := hSw.l0; clear hSw; go_simp; try with_reducible rfl
    try simp only [List.getElem_toArray]
    try simp only [List.getElem_cons_succ]
    try simp only [List.getElem_cons_zero]
    try simp only [Act.put]
    try simp only [List.setIfInBounds_toArray]
    try simp only [List.set]
    refine wpAnyH_done (by kernel_rfl) ?_ _
    have g2 := hHeld.g
    go_wp2_with fail
    go_ret
    exact ⟨by rw [HB.out]; rfl, g2⟩
  · have hd : (xt == t) = false := by simpa using h0
    have HB : Hid (lngB ⟨xt, xk, xv, xs⟩ t l = false) := by show _ = _; unfold lngB; simp [h0]
    refine wpAnyH_take (i := 0) (v := ?v11) rfl (by kernel_rfl) (by kernel_rfl) (by kernel_rfl) (fun _ _ _ h => h) (Or.inl ⟨by kernel_rfl, ?h11⟩) hHeld ?_
    case h11 => intro u hSw; (obtain ⟨x0, x1, x2, x3⟩ := hSw.r; dsimp only at x0 x1 x2 x3); have tt := hSw.t0; have ll := hSw.l0; clear hSw; go_simp; try with_reducible rfl
    try simp only [List.getElem_toArray]
    try simp only [List.getElem_cons_succ]
    try simp only [List.getElem_cons_zero]
    try simp only [Act.put]
    try simp only [List.setIfInBounds_toArray]
    try simp only [List.set]
    refine wpAnyH_take (i := 1) (v := ?v12) rfl (by kernel_rfl) (by kernel_rfl) (by kernel_rfl) (fun _ _ _ h => h) (Or.inl ⟨by kernel_rfl, ?h12⟩) hHeld ?_
    case h12 => intro u hSw; (obtain ⟨x0, x1, x2, x3⟩ := hSw.r; dsimp only at x0 x1 x2 x3); have tt := hSw.t0; have ll := hSw.l0; clear hSw; go_simp; try with_reducible rfl
    try simp only [List.getElem_toArray]
    try simp only [List.getElem_cons_succ]
    try simp only [List.getElem_cons_zero]
    try simp only [Act.put]
    try simp only [List.setIfInBounds_toArray]
    try simp only [List.set]
    refine wpAnyH_take (i := 2) (v := ?v13) rfl (by kernel_rfl) (by kernel_rfl) (by kernel_rfl) (fun _ _ _ h => h) (Or.inl ⟨by kernel_rfl, ?h13⟩) hHeld ?_
    case h13 => intro u hSw; (obtain ⟨x0, x1, x2, x3⟩ := hSw.r; dsimp only at x0 x1 x2 x3); have tt := hSw.t0; have ll := hSw.l0; clear hSw; go_simp; try with_reducible rfl
    try simp only [List.getElem_toArray]
    try simp only [List.getElem_cons_succ]
    try simp only [List.getElem_cons_zero]
    try simp only [Act.put]
    try simp only [List.setIfInBounds_toArray]
    try simp only [List.set]
    refine wpAnyH_take (i := 3) (v := ?v14) rfl (by kernel_rfl) (by kernel_rfl) (by kernel_rfl) (fun _ _ _ h => h) (Or.inl ⟨by kernel_rfl, ?h14⟩) hHeld ?_
    case h14 => intro u hSw; (obtain ⟨x0, x1, x2, x3⟩ := hSw.r; dsimp only at x0 x1 x2 x3); have tt := hSw.t0; have ll := hSw.l0; clear hSw; go_simp; try with_reducible rfl
    try simp only [List.getElem_toArray]
    try simp only [List.getElem_cons_succ]
    try simp only [List.getElem_cons_zero]
    try simp only [Act.put]
    try simp only [List.setIfInBounds_toArray]
    try simp only [List.set]
    refine wpAnyH_take (i := 4) (v := ?v15) rfl (by kernel_rfl) (by kernel_rfl) (by kernel_rfl) (fun _ _ _ h => h) (Or.inl ⟨by kernel_rfl, ?h15⟩) hHeld ?_
    case h15 => intro u hSw; (obtain ⟨x0, x1, x2, x3⟩ := hSw.r; dsimp only at x0 x1 x2 x3); have tt := hSw.t0; have ll := hSw.l0; clear hSw; go_simp; try with_reducible rfl
    try simp only [List.getElem_toArray]
    try simp only [List.getElem_cons_succ]
    try simp only [List.getElem_cons_zero]
    try simp only [Act.put]
    try simp only [List.setIfInBounds_toArray]
    try simp only [List.set]
    try simp only [hd]
    refine wpAnyH_take (i := 5) (v := undef) rfl (by kernel_rfl) (by kernel_rfl) (by kernel_rfl) (fun _ _ _ h => h) (Or.inr ⟨by kernel_rfl, rfl⟩) hHeld ?_
    try simp only [List.getElem_toArray]
    try simp only [List.getElem_cons_succ]
    try simp only [List.getElem_cons_zero]
    try simp only [Act.put]
    try simp only [List.setIfInBounds_toArray]
    try simp only [List.set]
    refine wpAnyH_take (i := 6) (v := undef) rfl (by kernel_rfl) (by kernel_rfl) (by kernel_rfl) (fun _ _ _ h => h) (Or.inr ⟨by kernel_rfl, rfl⟩) hHeld ?_
    try simp only [List.getElem_toArray]
    try simp only [List.getElem_cons_succ]
    try simp only [List.getElem_cons_zero]
    try simp only [Act.put]
    try simp only [List.setIfInBounds_toArray]
    try simp only [List.set]
    refine wpAnyH_take (i := 7) (v := undef) rfl (by kernel_rfl) (by kernel_rfl) (by kernel_rfl) (fun _ _ _ h => h) (Or.inr ⟨by kernel_rfl, rfl⟩) hHeld ?_
    try simp only [List.getElem_toArray]
    try simp only [List.getElem_cons_succ]
    try simp only [List.getElem_cons_zero]
    try simp only [Act.put]
    try simp only [List.setIfInBounds_toArray]
    try simp only [List.set]
    refine wpAnyH_take (i := 8) (v := undef) rfl (by kernel_rfl) (by kernel_rfl) (by kernel_rfl) (fun _ _ _ h => h) (Or.inr ⟨by kernel_rfl, rfl⟩) hHeld ?_
    try simp only [List.getElem_toArray]
    try simp only [List.getElem_cons_succ]
    try simp only [List.getElem_cons_zero]
    try simp only [Act.put]
    try simp only [List.setIfInBounds_toArray]
    try simp only [List.set]
    refine wpAnyH_take (i := 9) (v := ?v16) rfl (by kernel_rfl) (by kernel_rfl) (by kernel_rfl) (fun _ _ _ h => h) (Or.inl ⟨by kernel_rfl, ?h16⟩) hHeld ?_
    case h16 => intro u hSw; (obtain ⟨x0, x1, x2, x3⟩ := hSw.r; dsimp only at x0 x1 x2 x3); have tt := hSw.t0; have ll := hSw.l0; clear hSw; go_simp; try with_reducible rfl
    try simp only [List.getElem_toArray]
    try simp only [List.getElem_cons_succ]
    try simp only [List.getElem_cons_zero]
    try simp only [Act.put]
    try simp only [List.setIfInBounds_toArray]
    try simp only [List.set]
    refine wpAnyH_take (i := 10) (v := ?v17) rfl (by kernel_rfl) (by kernel_rfl) (by kernel_rfl) (fun _ _ _ h => h) (Or.inl ⟨by kernel_rfl, ?h17⟩) hHeld ?_
    case h17 => intro u hSw; (obtain ⟨x0, x1, x2, x3⟩ := hSw.r; dsimp only at x0 x1 x2 x3); have tt := hSw.t0; have ll := hSw.l0; clear hSw; go_simp; try with_reducible rfl
    try simp only [List.getElem_toArray]
    try simp only [List.getElem_cons_succ]
    try simp only [List.getElem_cons_zero]
    try simp only [Act.put]
    try simp only [List.setIfInBounds_toArray]
    try simp only [List.set]
    refine wpAnyH_done (by kernel_rfl) ?_ _
    have g2 := hHeld.g
    go_wp2_with fail
    go_ret
    exact ⟨by rw [HB.out]; rfl, g2⟩

set_option maxRecDepth 20000 in
set_option maxHeartbeats 4000000 in
theorem indexRows_any (a : Option Addr) (rs : List Rw) (n c tb : Nat) (t : Int) (w : World) (hn : rs.length = n) (hm : n ≤ 60) (hs : ∀ r ∈ rs, r.s.size ≤ maxLen) (hr : Rs rwE 4 w a rs) (ht : w.cell? ⟨tb, 0, none⟩ = some (.int .i64 t)) :
    Calls Tryz.prog 131 #[.slice a n c, .func (.func 126) #[] #[.pointer (some ⟨tb, 0, none⟩)]] w fun e w' => ∃ r : Int, e = .returned (.int .i64 r) ∧ decide (0 ≤ r) = rs.any (fun x => decide (x.t = t)) ∧ Below w.heap.size w w' := by
  have HN : Hid (rs.length = n) := hn
  have HS : Hid (∀ r ∈ rs, r.s.size ≤ maxLen) := hs
  have HR : Hid (∀ W, Below w.heap.size w W → Rs rwE 4 W a rs) := fun W hW => hr.below hW (Nat.le_refl _)
  have HC : Hid (∀ x ∈ rs, ∀ W, Below w.heap.size w W → Calls Tryz.prog 126 #[.agg #[.int .i64 x.t, .int .i64 x.k, .int .i64 x.v, .string x.s], .pointer (some ⟨tb, 0, none⟩)] W fun e w' => e = .returned (.bool (decide (x.t = t))) ∧ Below W.heap.size W w') := fun x hx W hW => hasRows1_any x.t x.k x.v x.s tb t W ((hW.cell (p := ⟨tb, 0, none⟩) (World.block_lt_of_cell? w _ ht)).trans ht)
  clear hn hr hs ht
  go_enter Tryz.func131, Tryz.ntmps131
  go_wp2_with fail
  go_loopw [8] (fun i wr => ∃ j : Nat, j ≤ n ∧ i = .int .i64 j ∧ Below w.heap.size w wr ∧ Hid (∀ x ∈ rs.take j, (decide (x.t = t)) = false)) (fun i _ => n - (intOf i).toNat)
  case atStart => exact ⟨0, Nat.zero_le _, rfl, Below.refl _ _, by intro x hx; simp at hx⟩
  case round =>
    obtain ⟨j, hj, rfl, gr, hA⟩ := hrel
    by_cases hlt : j < n
    · obtain ⟨x, hx⟩ := at_lt (rs := rs) (i := j) (by rw [HN.out]; exact hlt)
      obtain ⟨b, off, rfl, X⟩ := (HR.out _ gr).row hx
      have hjn : (j : Int) < (n : Int) := by omega
      have HX : Hid (rs[j]? = some x) := hx
      have hcon := HC.out x (List.mem_of_getElem? hx) wr gr
      obtain ⟨p, hp⟩ : ∃ p, p = (decide (x.t = t)) := ⟨_, rfl⟩
      have HP : Hid ((decide (x.t = t)) = p) := hp.symm
      rw [← hp] at hcon
      clear hx hp
      obtain ⟨xt, xk, xv, xs⟩ := x
      obtain ⟨x0, x1, x2, x3⟩ := X
      dsimp only at x0 x1 x2 x3 hcon
      go_wp2_with fail
      refine hcon.mono ?_
      rintro e W ⟨rfl, gW⟩
      have gr := gr.trans (gW.mono gr.size)
      clear gW hcon x0 x1 x2 x3
      cases p
      · have HA2 : Hid (∀ x ∈ rs.take (j + 1), (decide (x.t = t)) = false) := by
          intro x hx
          rw [take_snoc HX.out] at hx
          rcases List.mem_append.1 hx with hx | hx
          · exact hA.out x hx
          · simp only [List.mem_singleton] at hx; rw [hx]; exact HP.out
        go_wp2_with fail
        go_roundw
        case rel => exact ⟨j + 1, by omega, by go_num, gr, HA2⟩
        case measure => simp [intOf]; omega
      · have HE : Hid (decide ((0 : Int) ≤ (j : Int)) = rs.any (fun x => decide (x.t = t))) := by
          show _ = _
          rw [List.any_eq_true.2 ⟨_, List.mem_of_getElem? HX.out, HP.out⟩]
          simp
        go_wp2_with fail
        go_ret
        exact ⟨_, rfl, HE.out, gr⟩
    · have HE : Hid (decide ((0 : Int) ≤ (-1 : Int)) = rs.any (fun x => decide (x.t = t))) := by
        show _ = _
        have h2 := hA.out
        rw [List.take_of_length_le (by rw [HN.out]; omega)] at h2
        rw [List.any_eq_false.2 (fun x hx => by rw [h2 x hx]; simp)]
        rfl
      have hjm : ¬ (j : Int) < (n : Int) := by omega
      go_wp2_with fail
      go_ret
      exact ⟨_, rfl, HE.out, gr⟩

set_option maxHeartbeats 1000000 in
theorem containsRows_any (a : Option Addr) (rs : List Rw) (n c tb : Nat) (t : Int) (w : World) (hn : rs.length = n) (hm : n ≤ 60) (hs : ∀ r ∈ rs, r.s.size ≤ maxLen) (hr : Rs rwE 4 w a rs) (ht : w.cell? ⟨tb, 0, none⟩ = some (.int .i64 t)) :
    Calls Tryz.prog 124 #[.slice a n c, .func (.func 126) #[] #[.pointer (some ⟨tb, 0, none⟩)]] w fun e w' => e = .returned (.bool (rs.any (fun x => decide (x.t = t)))) ∧ Below w.heap.size w w' := by
  have hcon := indexRows_any a rs n c tb t w hn hm hs hr ht
  clear hr ht hs
  generalize rs.any (fun x => decide (x.t = t)) = y at hcon ⊢
  go_enter Tryz.func124, Tryz.ntmps124
  go_wp2_with fail
  refine hcon.mono ?_
  rintro e w' ⟨r, rfl, hd, g⟩
  by_cases h0 : 0 ≤ r
  · have hy : y = true := by rw [← hd]; simpa using h0
    subst hy
    go_wp2_with fail
    go_ret
    exact ⟨by simp, g⟩
  · have hy : y = false := by rw [← hd]; simpa using h0
    subst hy
    go_wp2_with fail
    go_ret
    exact ⟨by simp, g⟩

set_option maxRecDepth 20000 in
set_option maxHeartbeats 4000000 in
theorem indexLonger_any (a : Option Addr) (rs : List Rw) (n c tb lb : Nat) (t l : Int) (w : World) (hn : rs.length = n) (hm : n ≤ 60) (hs : ∀ r ∈ rs, r.s.size ≤ maxLen) (hr : Rs rwE 4 w a rs) (ht : w.cell? ⟨tb, 0, none⟩ = some (.int .i64 t)) (hl : w.cell? ⟨lb, 0, none⟩ = some (.int .i64 l)) :
    Calls Tryz.prog 131 #[.slice a n c, .func (.func 125) #[] #[.pointer (some ⟨tb, 0, none⟩), .pointer (some ⟨lb, 0, none⟩)]] w fun e w' => ∃ r : Int, e = .returned (.int .i64 r) ∧ decide (0 ≤ r) = rs.any (fun x => lngB x t l) ∧ Below w.heap.size w w' := by
  have HN : Hid (rs.length = n) := hn
  have HS : Hid (∀ r ∈ rs, r.s.size ≤ maxLen) := hs
  have HR : Hid (∀ W, Below w.heap.size w W → Rs rwE 4 W a rs) := fun W hW => hr.below hW (Nat.le_refl _)
  have HC : Hid (∀ x ∈ rs, ∀ W, Below w.heap.size w W → Calls Tryz.prog 125 #[.agg #[.int .i64 x.t, .int .i64 x.k, .int .i64 x.v, .string x.s], .pointer (some ⟨tb, 0, none⟩), .pointer (some ⟨lb, 0, none⟩)] W fun e w' => e = .returned (.bool (lngB x t l)) ∧ Below W.heap.size W w') := fun x hx W hW => hasLonger1_any x.t x.k x.v x.s tb lb t l W (hs x hx) ((hW.cell (p := ⟨tb, 0, none⟩) (World.block_lt_of_cell? w _ ht)).trans ht) ((hW.cell (p := ⟨lb, 0, none⟩) (World.block_lt_of_cell? w _ hl)).trans hl)
  clear hn hr hs ht hl
  go_enter Tryz.func131, Tryz.ntmps131
  go_wp2_with fail
  go_loopw [8] (fun i wr => ∃ j : Nat, j ≤ n ∧ i = .int .i64 j ∧ Below w.heap.size w wr ∧ Hid (∀ x ∈ rs.take j, (lngB x t l) = false)) (fun i _ => n - (intOf i).toNat)
  case atStart => exact ⟨0, Nat.zero_le _, rfl, Below.refl _ _, by intro x hx; simp at hx⟩
  case round =>
    obtain ⟨j, hj, rfl, gr, hA⟩ := hrel
    by_cases hlt : j < n
    · obtain ⟨x, hx⟩ := at_lt (rs := rs) (i := j) (by rw [HN.out]; exact hlt)
      obtain ⟨b, off, rfl, X⟩ := (HR.out _ gr).row hx
      have hjn : (j : Int) < (n : Int) := by omega
      have HX : Hid (rs[j]? = some x) := hx
      have hcon := HC.out x (List.mem_of_getElem? hx) wr gr
      obtain ⟨p, hp⟩ : ∃ p, p = (lngB x t l) := ⟨_, rfl⟩
      have HP : Hid ((lngB x t l) = p) := hp.symm
      rw [← hp] at hcon
      clear hx hp
      obtain ⟨xt, xk, xv, xs⟩ := x
      obtain ⟨x0, x1, x2, x3⟩ := X
      dsimp only at x0 x1 x2 x3 hcon
      go_wp2_with fail
      refine hcon.mono ?_
      rintro e W ⟨rfl, gW⟩
      have gr := gr.trans (gW.mono gr.size)
      clear gW hcon x0 x1 x2 x3
      cases p
      · have HA2 : Hid (∀ x ∈ rs.take (j + 1), (lngB x t l) = false) := by
          intro x hx
          rw [take_snoc HX.out] at hx
          rcases List.mem_append.1 hx with hx | hx
          · exact hA.out x hx
          · simp only [List.mem_singleton] at hx; rw [hx]; exact HP.out
        go_wp2_with fail
        go_roundw
        case rel => exact ⟨j + 1, by omega, by go_num, gr, HA2⟩
        case measure => simp [intOf]; omega
      · have HE : Hid (decide ((0 : Int) ≤ (j : Int)) = rs.any (fun x => lngB x t l)) := by
          show _ = _
          rw [List.any_eq_true.2 ⟨_, List.mem_of_getElem? HX.out, HP.out⟩]
          simp
        go_wp2_with fail
        go_ret
        exact ⟨_, rfl, HE.out, gr⟩
    · have HE : Hid (decide ((0 : Int) ≤ (-1 : Int)) = rs.any (fun x => lngB x t l)) := by
        show _ = _
        have h2 := hA.out
        rw [List.take_of_length_le (by rw [HN.out]; omega)] at h2
        rw [List.any_eq_false.2 (fun x hx => by rw [h2 x hx]; simp)]
        rfl
      have hjm : ¬ (j : Int) < (n : Int) := by omega
      go_wp2_with fail
      go_ret
      exact ⟨_, rfl, HE.out, gr⟩

set_option maxHeartbeats 1000000 in
theorem containsLonger_any (a : Option Addr) (rs : List Rw) (n c tb lb : Nat) (t l : Int) (w : World) (hn : rs.length = n) (hm : n ≤ 60) (hs : ∀ r ∈ rs, r.s.size ≤ maxLen) (hr : Rs rwE 4 w a rs) (ht : w.cell? ⟨tb, 0, none⟩ = some (.int .i64 t)) (hl : w.cell? ⟨lb, 0, none⟩ = some (.int .i64 l)) :
    Calls Tryz.prog 124 #[.slice a n c, .func (.func 125) #[] #[.pointer (some ⟨tb, 0, none⟩), .pointer (some ⟨lb, 0, none⟩)]] w fun e w' => e = .returned (.bool (rs.any (fun x => lngB x t l))) ∧ Below w.heap.size w w' := by
  have hcon := indexLonger_any a rs n c tb lb t l w hn hm hs hr ht hl
  clear hr ht hl hs
  generalize rs.any (fun x => lngB x t l) = y at hcon ⊢
  go_enter Tryz.func124, Tryz.ntmps124
  go_wp2_with fail
  refine hcon.mono ?_
  rintro e w' ⟨r, rfl, hd, g⟩
  by_cases h0 : 0 ≤ r
  · have hy : y = true := by rw [← hd]; simpa using h0
    subst hy
    go_wp2_with fail
    go_ret
    exact ⟨by simp, g⟩
  · have hy : y = false := by rw [← hd]; simpa using h0
    subst hy
    go_wp2_with fail
    go_ret
    exact ⟨by simp, g⟩

set_option maxHeartbeats 1000000 in
theorem hasRows_any (a : Option Addr) (rs : List Rw) (n c : Nat) (t : Int) (w : World) (hn : rs.length = n) (hm : n ≤ 60) (hs : ∀ r ∈ rs, r.s.size ≤ maxLen) (hr : Rs rwE 4 w a rs) :
    Calls Tryz.prog 118 #[.slice a n c, .int .i64 t] w fun e w' => e = .returned (.bool (rs.any (fun x => decide (x.t = t)))) ∧ Below w.heap.size w w' := by
  have gX : Below w.heap.size w (w.alloc (.cells #[.int .i64 t] 2)) := by go_grown
  have hcon := containsRows_any a rs n c w.heap.size t _ hn hm hs (hr.below gX (Nat.le_refl _)) (by simp [go_sem])
  clear hr hs
  go_enter Tryz.func118, Tryz.ntmps118
  go_wp2_with fail
  refine hcon.mono ?_
  rintro e w' ⟨rfl, g⟩
  have gg := gX.trans (g.mono gX.size)
  clear hcon g gX
  go_wp2_with fail
  go_ret
  exact ⟨rfl, gg⟩

set_option maxHeartbeats 1000000 in
theorem hasLonger_any (a : Option Addr) (rs : List Rw) (n c : Nat) (t l : Int) (w : World) (hn : rs.length = n) (hm : n ≤ 60) (hs : ∀ r ∈ rs, r.s.size ≤ maxLen) (hr : Rs rwE 4 w a rs) :
    Calls Tryz.prog 117 #[.slice a n c, .int .i64 t, .int .i64 l] w fun e w' => e = .returned (.bool (rs.any (fun x => lngB x t l))) ∧ Below w.heap.size w w' := by
  have gX : Below w.heap.size w ((w.alloc (.cells #[.int .i64 t] 2)).alloc (.cells #[.int .i64 l] 2)) := by go_grown
  have hcon := containsLonger_any a rs n c w.heap.size (w.heap.size + 1) t l _ hn hm hs (hr.below gX (Nat.le_refl _)) (by simp [go_sem]) (by simp [go_sem])
  clear hr hs
  go_enter Tryz.func117, Tryz.ntmps117
  go_wp2_with fail
  refine hcon.mono ?_
  rintro e w' ⟨rfl, g⟩
  have gg := gX.trans (g.mono gX.size)
  clear hcon g gX
  go_wp2_with fail
  go_ret
  exact ⟨rfl, gg⟩

end Go.Proofs.YtpjlpnaamkbicaaGreatDoor
