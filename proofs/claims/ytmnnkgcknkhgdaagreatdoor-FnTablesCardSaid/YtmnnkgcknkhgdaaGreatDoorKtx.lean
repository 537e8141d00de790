/-
  KeyText, the program's and the model's.
-/
import Derived.Test.YtmnnkgcknkhgdaaGreatDoorDig
import Derived.Test.YtmnnkgcknkhgdaaGreatDoorShelf
import Derived.Lib.AppendIntMem
namespace Go.Proofs.YtmnnkgcknkhgdaaGreatDoor
open Go.RowKit
set_option linter.unusedVariables false

/-- The library's table of powers of ten is as its text lays it. -/
def Tab (w : World) : Prop := Lib.TabIs Tryz.prog w "internal/strconv.uint64pow10" .u64 Lib.pow10Tab
theorem gTen : Tryz.prog.globalNamed "internal/strconv.uint64pow10" = some 1 := by kernel_rfl
theorem Tab.below {w w' : World} (h : Tab w) (hb : Below w.heap.size w w') : Tab w' := by
  unfold Tab Lib.TabIs World.var? at h ⊢
  rw [gTen] at h ⊢
  simp only [Option.bind_some] at h ⊢
  have hlt : 1 < w.heap.size := by
    rcases Nat.lt_or_ge 1 w.heap.size with h' | h'
    · exact h'
    · rw [Array.getElem?_eq_none h'] at h; cases h
  rw [hb.block 1 hlt]
  exact h

theorem format_any (n : Nat) (hn : n < 1000000) (w : World) (hT : Tab w) :
    Calls Tryz.prog 74 #[.int .i64 n, .int .i64 10] w fun e w' => e = .returned (.string (decS n)) ∧ Below w.heap.size w w' := by
  refine (Tryz.internal_strconv_FormatInt_10 n (by omega) (by omega) w hT).mono ?_
  rintro e w' ⟨rfl, k, os, rfl⟩
  exact ⟨by rw [Lib.itoa_nonneg]; rfl, Lib.below_grow _ _ (Nat.le_refl _) _ _⟩

set_option maxHeartbeats 400000 in
theorem formatInt_any (n : Nat) (hn : n < 1000000) (w : World) (hT : Tab w) :
    Calls Tryz.prog 61 #[.int .i64 n, .int .i64 10] w fun e w' => e = .returned (.string (decS n)) ∧ Below w.heap.size w w' := by
  go_enter Tryz.func61, Tryz.ntmps61
  go_wp2_with (go_at_call 74; refine (format_any n hn _ hT).mono ?_; rintro e w1 ⟨rfl, g1⟩)
  go_ret
  exact ⟨rfl, g1⟩

set_option maxHeartbeats 400000 in
theorem numberText_any (n : Nat) (hn : n < 1000000) (w : World) (hT : Tab w) :
    Calls Tryz.prog 40 #[.int .i64 n] w fun e w' => e = .returned (.string (decS n)) ∧ Below w.heap.size w w' := by
  go_enter Tryz.func40, Tryz.ntmps40
  go_wp2_with (go_at_call 61; refine (formatInt_any n hn _ hT).mono ?_; rintro e w1 ⟨rfl, g1⟩)
  go_ret
  exact ⟨rfl, g1⟩

/-- The text of a key. -/
def keyS (t k : Nat) : ByteArray := decS t ++ ⟨#[47]⟩ ++ decS k
/-- Whether it is a key. -/
def keyB (t k : Int) : Bool := inW t 0 3 && inW k 1 99

/-- What is carried through the region that puts the text together. -/
structure KtS (w : World) (b c : Nat) (t k : Int) (V : World) : Prop where
  k0 : V.cell? ⟨b, 0, none⟩ = some (.int .i64 t)
  k1 : V.cell? ⟨b, 1, none⟩ = some (.int .i64 k)
  x0 : ∃ x, V.cell? ⟨c, 0, none⟩ = some x
  x1 : ∃ x, V.cell? ⟨c, 1, none⟩ = some x
  f0 : V.frozen? ⟨c, 0, none⟩ = false
  f1 : V.frozen? ⟨c, 1, none⟩ = false
  g : Below w.heap.size w V
  hb : b ≠ c
  hc : w.heap.size ≤ c
theorem KtS.up {w V W : World} {b c : Nat} {t k : Int} (h : KtS w b c t k V) (hb : Below V.heap.size V W) : KtS w b c t k W := by
  obtain ⟨x, hx⟩ := h.x0
  obtain ⟨y, hy⟩ := h.x1
  have lb := World.block_lt_of_cell? V _ h.k0
  have lc := World.block_lt_of_cell? V _ hx
  exact ⟨(hb.cell (p := ⟨b, 0, none⟩) lb).trans h.k0, (hb.cell (p := ⟨b, 1, none⟩) lb).trans h.k1, ⟨x, (hb.cell (p := ⟨c, 0, none⟩) lc).trans hx⟩, ⟨y, (hb.cell (p := ⟨c, 1, none⟩) lc).trans hy⟩, (hb.frozen (p := ⟨c, 0, none⟩) lc).trans h.f0, (hb.frozen (p := ⟨c, 1, none⟩) lc).trans h.f1, h.g.trans (hb.mono h.g.size), h.hb, h.hc⟩
theorem KtS.drew {w V : World} {b c : Nat} {t k : Int} (h : KtS w b c t k V) : KtS w b c t k V.drew := ⟨h.k0, h.k1, h.x0, h.x1, h.f0, h.f1, h.g.drew, h.hb, h.hc⟩
theorem KtS.put {w V : World} {b c : Nat} {t k : Int} (h : KtS w b c t k V) (u v : Value) : KtS w b c t k ((V.setCell ⟨c, 0, none⟩ u).setCell ⟨c, 1, none⟩ v) := by
  obtain ⟨x, hx⟩ := h.x0
  obtain ⟨y, hy⟩ := h.x1
  have hb := h.hb
  have hc := h.hc
  have g := h.g
  exact ⟨by simp [go_sem, h.k0], by simp [go_sem, h.k1], ⟨u, by simp [go_sem, hx]⟩, ⟨v, by simp [go_sem, hy]⟩, by simp [go_sem, h.f0], by simp [go_sem, h.f1], by go_grown, hb, hc⟩

set_option maxHeartbeats 1000000 in
theorem isKey_any (t k : Int) (w : World) : Calls Tryz.prog 39 #[.agg #[.int .i64 t, .int .i64 k]] w fun e w' => e = .returned (.bool (keyB t k)) ∧ Below w.heap.size w w' := by
  have hc1 := isWithinW_any t 0 3
  have hc2 := isWithinW_any k 1 99
  unfold keyB
  generalize inW t 0 3 = x1 at hc1 ⊢
  generalize inW k 1 99 = x2 at hc2 ⊢
  cases x1
  · go_enter Tryz.func39, Tryz.ntmps39
    go_wp2_with (go_at_call 60; refine (hc1 _).mono ?_; rintro e w' ⟨rfl, rfl⟩)
    go_ret
    exact ⟨rfl, by go_grown⟩
  · go_enter Tryz.func39, Tryz.ntmps39
    go_wp2_with fail
    refine (hc1 _).mono ?_
    rintro e w' ⟨rfl, rfl⟩
    go_wp2_with fail
    refine (hc2 _).mono ?_
    rintro e w' ⟨rfl, rfl⟩
    go_wp2_with fail
    go_ret
    exact ⟨rfl, by go_grown⟩

set_option maxRecDepth 20000 in
set_option maxHeartbeats 4000000 in
theorem implKeyText_ok (t k : Nat) (w : World) (hk : keyB t k = true) (ht : t < 1000) (hkk : k < 1000) (hT : Tab w) :
    Calls Tryz.prog 14 #[.agg #[.int .i64 t, .int .i64 k]] w fun e w' => e = .returned (.agg #[.int .i64 0, .string (keyS t k)]) ∧ Below w.heap.size w w' := by
  have HT : Hid (∀ V, Below w.heap.size w V → Tab V) := fun V hV => hT.below hV
  have z1 := decS_size t (by omega)
  have z2 := decS_size k (by omega)
  have e1 : ¬ 9223372036854775807 < (decS t).size + 1 := by omega
  have e2 : ¬ 9223372036854775807 < (decS t).size + 1 + (decS k).size := by omega
  clear hT
  go_enter Tryz.func14, Tryz.ntmps14
  go_wp2_with fail
  refine (isKey_any t k _).mono ?_
  rintro e w1 ⟨rfl, gb⟩
  rw [hk]
  have hH : KtS w w.heap.size (w.heap.size + 1) t k w1 := KtS.up (V := (w.alloc _).alloc _) ⟨by simp [go_sem], by simp [go_sem], ⟨_, by simp [go_sem]; rfl⟩, ⟨_, by simp [go_sem]; rfl⟩, by simp [go_sem], by simp [go_sem], by go_grown, by omega, by omega⟩ gb
  clear gb
  go_upto_region 3 with (fail)
  refine wp_region_held_drew (S := KtS w w.heap.size (w.heap.size + 1) t k) (by kernel_rfl) hH.drew (fun hHeld => ?_)
  generalize w1.drew = D at hHeld ⊢
  clear hH
  refine wpAnyH_take (i := 0) (v := ?v1) rfl (by kernel_rfl) (by kernel_rfl) (by kernel_rfl) (fun _ _ _ h => h) (Or.inl ⟨by kernel_rfl, ?h1⟩) hHeld ?_
  case h1 => intro u hSw; (try dsimp only at hSw); go_simp; try with_reducible rfl
  try simp only [List.getElem_toArray]
  try simp only [List.getElem_cons_succ]
  try simp only [List.getElem_cons_zero]
  try simp only [Act.put]
  try simp only [List.setIfInBounds_toArray]
  try simp only [List.set]
  refine wpAnyH_take (i := 1) (v := ?v2) rfl (by kernel_rfl) (by kernel_rfl) (by kernel_rfl) (fun _ _ _ h => h) (Or.inl ⟨by kernel_rfl, ?h2⟩) hHeld ?_
  case h2 => intro u hSw; have c0 := hSw.k0; clear hSw; go_simp; try with_reducible rfl
  try simp only [List.getElem_toArray]
  try simp only [List.getElem_cons_succ]
  try simp only [List.getElem_cons_zero]
  try simp only [Act.put]
  try simp only [List.setIfInBounds_toArray]
  try simp only [List.set]
  refine wpAnyH_take (i := 4) (v := ?v3) rfl (by kernel_rfl) (by kernel_rfl) (by kernel_rfl) (fun _ _ _ h => h) (Or.inl ⟨by kernel_rfl, ?h3⟩) hHeld ?_
  case h3 => intro u hSw; (try dsimp only at hSw); go_simp; try with_reducible rfl
  try simp only [List.getElem_toArray]
  try simp only [List.getElem_cons_succ]
  try simp only [List.getElem_cons_zero]
  try simp only [Act.put]
  try simp only [List.setIfInBounds_toArray]
  try simp only [List.set]
  refine wpAnyH_take (i := 5) (v := ?v4) rfl (by kernel_rfl) (by kernel_rfl) (by kernel_rfl) (fun _ _ _ h => h) (Or.inl ⟨by kernel_rfl, ?h4⟩) hHeld ?_
  case h4 => intro u hSw; have c0 := hSw.k1; clear hSw; go_simp; try with_reducible rfl
  try simp only [List.getElem_toArray]
  try simp only [List.getElem_cons_succ]
  try simp only [List.getElem_cons_zero]
  try simp only [Act.put]
  try simp only [List.setIfInBounds_toArray]
  try simp only [List.set]
  refine wpAnyH_ready (rs := [2]) (by kernel_rfl) (by simp) ?_
  refine AllReadyH.cons rfl (fun K hK => ?_) AllReadyH.nil
  go_simp
  go_wp2_with (go_at_call 40; refine (numberText_any t (by omega) _ (HT.out _ hHeld.g)).mono ?_; rintro e D1 ⟨rfl, gb⟩)
  refine hK.out _ _ (hHeld.up gb) (fun hHeld => ?_)
  clear hK K
  clear gb
  try simp only [Act.put]
  try simp only [List.setIfInBounds_toArray]
  try simp only [List.set]
  refine wpAnyH_take (i := 3) (v := ?v5) rfl (by kernel_rfl) (by kernel_rfl) (by kernel_rfl) (fun _ _ _ h => h) (Or.inl ⟨by kernel_rfl, ?h5⟩) hHeld ?_
  case h5 => intro u hSw; (try dsimp only at hSw); go_simp; try with_reducible rfl
  try simp only [List.getElem_toArray]
  try simp only [List.getElem_cons_succ]
  try simp only [List.getElem_cons_zero]
  try simp only [Act.put]
  try simp only [List.setIfInBounds_toArray]
  try simp only [List.set]
  refine wpAnyH_ready (rs := [6]) (by kernel_rfl) (by simp) ?_
  refine AllReadyH.cons rfl (fun K hK => ?_) AllReadyH.nil
  go_simp
  go_wp2_with (go_at_call 40; refine (numberText_any k (by omega) _ (HT.out _ hHeld.g)).mono ?_; rintro e D2 ⟨rfl, gb⟩)
  refine hK.out _ _ (hHeld.up gb) (fun hHeld => ?_)
  clear hK K
  clear gb
  try simp only [Act.put]
  try simp only [List.setIfInBounds_toArray]
  try simp only [List.set]
  refine wpAnyH_take (i := 7) (v := ?v6) rfl (by kernel_rfl) (by kernel_rfl) (by kernel_rfl) (fun _ _ _ h => h) (Or.inl ⟨by kernel_rfl, ?h6⟩) hHeld ?_
  case h6 => intro u hSw; (try dsimp only at hSw); go_simp; try with_reducible rfl
  try simp only [List.getElem_toArray]
  try simp only [List.getElem_cons_succ]
  try simp only [List.getElem_cons_zero]
  try simp only [Act.put]
  try simp only [List.setIfInBounds_toArray]
  try simp only [List.set]
  refine wpAnyH_take (i := 8) (v := ?v7) rfl (by kernel_rfl) (by kernel_rfl) (by kernel_rfl) (fun _ _ _ h => h) (Or.inl ⟨by kernel_rfl, ?h7⟩) hHeld ?_
  case h7 => intro u hSw; (try dsimp only at hSw); go_simp; try with_reducible rfl
  try simp only [List.getElem_toArray]
  try simp only [List.getElem_cons_succ]
  try simp only [List.getElem_cons_zero]
  try simp only [Act.put]
  try simp only [List.setIfInBounds_toArray]
  try simp only [List.set]
  obtain ⟨x0, hx0⟩ := hHeld.x0
  obtain ⟨x1, hx1⟩ := hHeld.x1
  have hf0 := hHeld.f0
  have hf1 := hHeld.f1
  refine wpAnyH_ready (rs := [9]) (by kernel_rfl) (by simp) ?_
  refine AllReadyH.cons rfl (fun K hK => ?_) AllReadyH.nil
  go_simp
  go_wp2_with fail
  refine hK.out _ _ (hHeld.put _ _) (fun hHeld2 => ?_)
  clear hK K
  try simp only [Act.put]
  try simp only [List.setIfInBounds_toArray]
  try simp only [List.set]
  refine wpAnyH_done (by kernel_rfl) ?_ _
  have g2 := hHeld2.g
  go_wp2_with fail
  refine bodyPost_ret (v := .agg #[.int .i64 0, .string (keyS t k)]) (by simp [results, Tryz.results14, go_sem, hx0, hx1, keyS]) rfl ?_
  exact ⟨rfl, g2⟩

set_option maxRecDepth 20000 in
set_option maxHeartbeats 4000000 in
theorem implKeyText_bad (t k : Int) (w : World) (hk : keyB t k = false) :
    Calls Tryz.prog 14 #[.agg #[.int .i64 t, .int .i64 k]] w fun e w' => e = .returned (.agg #[.int .i64 3, .string ⟨#[]⟩]) ∧ Below w.heap.size w w' := by
  go_enter Tryz.func14, Tryz.ntmps14
  go_wp2_with fail
  refine (isKey_any t k _).mono ?_
  rintro e w1 ⟨rfl, gb⟩
  rw [hk]
  have c0 : w1.cell? ⟨w.heap.size + 1, 0, none⟩ = some (.int .i64 0) := (gb.cell (p := ⟨w.heap.size + 1, 0, none⟩) (by simp)).trans (by simp [go_sem])
  have c1 : w1.cell? ⟨w.heap.size + 1, 1, none⟩ = some (.string ⟨#[]⟩) := (gb.cell (p := ⟨w.heap.size + 1, 1, none⟩) (by simp)).trans (by simp [go_sem])
  have f0 : w1.frozen? ⟨w.heap.size + 1, 0, none⟩ = false := (gb.frozen (p := ⟨w.heap.size + 1, 0, none⟩) (by simp)).trans (by simp [go_sem])
  have f1 : w1.frozen? ⟨w.heap.size + 1, 1, none⟩ = false := (gb.frozen (p := ⟨w.heap.size + 1, 1, none⟩) (by simp)).trans (by simp [go_sem])
  have g1 : Below w.heap.size w w1 := Below.trans (by go_grown) (gb.mono (by simp; omega))
  clear gb
  go_wp2_with fail
  refine bodyPost_ret (v := .agg #[.int .i64 3, .string ⟨#[]⟩]) (by simp [results, Tryz.results14, go_sem, *]) rfl ?_
  exact ⟨rfl, by go_grown⟩

set_option maxRecDepth 20000 in
set_option maxHeartbeats 4000000 in
theorem specKeyText_ok (t k : Nat) (w : World) (hk : keyB t k = true) (ht : t < 1000) (hkk : k < 1000) :
    Calls Tryz.prog 15 #[.agg #[.int .i64 t, .int .i64 k]] w fun e w' => e = .returned (.agg #[.int .i64 0, .string (keyS t k)]) ∧ Below w.heap.size w w' := by
  have z1 := decS_size t (by omega)
  have z2 := decS_size k (by omega)
  have e1 : ¬ 9223372036854775807 < (decS t).size + 1 := by omega
  have e2 : ¬ 9223372036854775807 < (decS t).size + 1 + (decS k).size := by omega
  have hc1 := l1InW_any t 0 3
  have hc2 := l1InW_any k 1 99
  unfold keyB at hk
  rw [Bool.and_eq_true] at hk
  rw [hk.1] at hc1
  rw [hk.2] at hc2
  clear hk
  go_enter Tryz.func15, Tryz.ntmps15
  go_wp2_with fail
  refine (hc1 _).mono ?_
  rintro e w' ⟨rfl, rfl⟩
  go_wp2_with fail
  refine (hc2 _).mono ?_
  rintro e w' ⟨rfl, rfl⟩
  go_upto_region 3 with (fail)
  generalize hw1 : World.alloc _ _ = w1
  have hH : KtS w w.heap.size (w.heap.size + 1) t k w1 := by rw [← hw1]; exact ⟨by simp [go_sem], by simp [go_sem], ⟨_, by simp [go_sem]; rfl⟩, ⟨_, by simp [go_sem]; rfl⟩, by simp [go_sem], by simp [go_sem], by go_grown, by omega, by omega⟩
  clear hw1 hc1 hc2
  refine wp_region_held_drew (S := KtS w w.heap.size (w.heap.size + 1) t k) (by kernel_rfl) hH.drew (fun hHeld => ?_)
  generalize w1.drew = D at hHeld ⊢
  clear hH
  refine wpAnyH_take (i := 0) (v := ?v8) rfl (by kernel_rfl) (by kernel_rfl) (by kernel_rfl) (fun _ _ _ h => h) (Or.inl ⟨by kernel_rfl, ?h8⟩) hHeld ?_
  case h8 => intro u hSw; (try dsimp only at hSw); go_simp; try with_reducible rfl
  try simp only [List.getElem_toArray]
  try simp only [List.getElem_cons_succ]
  try simp only [List.getElem_cons_zero]
  try simp only [Act.put]
  try simp only [List.setIfInBounds_toArray]
  try simp only [List.set]
  refine wpAnyH_take (i := 1) (v := ?v9) rfl (by kernel_rfl) (by kernel_rfl) (by kernel_rfl) (fun _ _ _ h => h) (Or.inl ⟨by kernel_rfl, ?h9⟩) hHeld ?_
  case h9 => intro u hSw; have c0 := hSw.k0; clear hSw; go_simp; try with_reducible rfl
  try simp only [List.getElem_toArray]
  try simp only [List.getElem_cons_succ]
  try simp only [List.getElem_cons_zero]
  try simp only [Act.put]
  try simp only [List.setIfInBounds_toArray]
  try simp only [List.set]
  refine wpAnyH_take (i := 4) (v := ?v10) rfl (by kernel_rfl) (by kernel_rfl) (by kernel_rfl) (fun _ _ _ h => h) (Or.inl ⟨by kernel_rfl, ?h10⟩) hHeld ?_
  case h10 => intro u hSw; (try dsimp only at hSw); go_simp; try with_reducible rfl
  try simp only [List.getElem_toArray]
  try simp only [List.getElem_cons_succ]
  try simp only [List.getElem_cons_zero]
  try simp only [Act.put]
  try simp only [List.setIfInBounds_toArray]
  try simp only [List.set]
  refine wpAnyH_take (i := 5) (v := ?v11) rfl (by kernel_rfl) (by kernel_rfl) (by kernel_rfl) (fun _ _ _ h => h) (Or.inl ⟨by kernel_rfl, ?h11⟩) hHeld ?_
  case h11 => intro u hSw; have c0 := hSw.k1; clear hSw; go_simp; try with_reducible rfl
  try simp only [List.getElem_toArray]
  try simp only [List.getElem_cons_succ]
  try simp only [List.getElem_cons_zero]
  try simp only [Act.put]
  try simp only [List.setIfInBounds_toArray]
  try simp only [List.set]
  refine wpAnyH_ready (rs := [2]) (by kernel_rfl) (by simp) ?_
  refine AllReadyH.cons rfl (fun K hK => ?_) AllReadyH.nil
  go_simp
  go_wp2_with (go_at_call 41; refine (l1Digits_any t (by omega) _).mono ?_; rintro e D1 ⟨rfl, gb⟩)
  refine hK.out _ _ (hHeld.up gb) (fun hHeld => ?_)
  clear hK K
  clear gb
  try simp only [Act.put]
  try simp only [List.setIfInBounds_toArray]
  try simp only [List.set]
  refine wpAnyH_take (i := 3) (v := ?v12) rfl (by kernel_rfl) (by kernel_rfl) (by kernel_rfl) (fun _ _ _ h => h) (Or.inl ⟨by kernel_rfl, ?h12⟩) hHeld ?_
  case h12 => intro u hSw; (try dsimp only at hSw); go_simp; try with_reducible rfl
  try simp only [List.getElem_toArray]
  try simp only [List.getElem_cons_succ]
  try simp only [List.getElem_cons_zero]
  try simp only [Act.put]
  try simp only [List.setIfInBounds_toArray]
  try simp only [List.set]
  refine wpAnyH_ready (rs := [6]) (by kernel_rfl) (by simp) ?_
  refine AllReadyH.cons rfl (fun K hK => ?_) AllReadyH.nil
  go_simp
  go_wp2_with (go_at_call 41; refine (l1Digits_any k (by omega) _).mono ?_; rintro e D2 ⟨rfl, gb⟩)
  refine hK.out _ _ (hHeld.up gb) (fun hHeld => ?_)
  clear hK K
  clear gb
  try simp only [Act.put]
  try simp only [List.setIfInBounds_toArray]
  try simp only [List.set]
  refine wpAnyH_take (i := 7) (v := ?v13) rfl (by kernel_rfl) (by kernel_rfl) (by kernel_rfl) (fun _ _ _ h => h) (Or.inl ⟨by kernel_rfl, ?h13⟩) hHeld ?_
  case h13 => intro u hSw; (try dsimp only at hSw); go_simp; try with_reducible rfl
  try simp only [List.getElem_toArray]
  try simp only [List.getElem_cons_succ]
  try simp only [List.getElem_cons_zero]
  try simp only [Act.put]
  try simp only [List.setIfInBounds_toArray]
  try simp only [List.set]
  refine wpAnyH_take (i := 8) (v := ?v14) rfl (by kernel_rfl) (by kernel_rfl) (by kernel_rfl) (fun _ _ _ h => h) (Or.inl ⟨by kernel_rfl, ?h14⟩) hHeld ?_
  case h14 => intro u hSw; (try dsimp only at hSw); go_simp; try with_reducible rfl
  try simp only [List.getElem_toArray]
  try simp only [List.getElem_cons_succ]
  try simp only [List.getElem_cons_zero]
  try simp only [Act.put]
  try simp only [List.setIfInBounds_toArray]
  try simp only [List.set]
  obtain ⟨x0, hx0⟩ := hHeld.x0
  obtain ⟨x1, hx1⟩ := hHeld.x1
  have hf0 := hHeld.f0
  have hf1 := hHeld.f1
  refine wpAnyH_ready (rs := [9]) (by kernel_rfl) (by simp) ?_
  refine AllReadyH.cons rfl (fun K hK => ?_) AllReadyH.nil
  go_simp
  go_wp2_with fail
  refine hK.out _ _ (hHeld.put _ _) (fun hHeld2 => ?_)
  clear hK K
  try simp only [Act.put]
  try simp only [List.setIfInBounds_toArray]
  try simp only [List.set]
  refine wpAnyH_done (by kernel_rfl) ?_ _
  have g2 := hHeld2.g
  go_wp2_with fail
  refine bodyPost_ret (v := .agg #[.int .i64 0, .string (keyS t k)]) (by simp [results, Tryz.results15, go_sem, hx0, hx1, keyS]) rfl ?_
  exact ⟨rfl, g2⟩

set_option maxRecDepth 20000 in
set_option maxHeartbeats 4000000 in
theorem specKeyText_bad (t k : Int) (w : World) (hk : keyB t k = false) :
    Calls Tryz.prog 15 #[.agg #[.int .i64 t, .int .i64 k]] w fun e w' => e = .returned (.agg #[.int .i64 3, .string ⟨#[]⟩]) ∧ Below w.heap.size w w' := by
  have hc1 := l1InW_any t 0 3
  have hc2 := l1InW_any k 1 99
  unfold keyB at hk
  generalize inW t 0 3 = x1 at hc1 hk
  generalize inW k 1 99 = x2 at hc2 hk
  cases x1
  · go_enter Tryz.func15, Tryz.ntmps15
    go_wp2_with fail
    refine (hc1 _).mono ?_
    rintro e w' ⟨rfl, rfl⟩
    go_wp2_with fail
    refine bodyPost_ret (v := .agg #[.int .i64 3, .string ⟨#[]⟩]) (by simp [results, Tryz.results15, go_sem]) rfl ?_
    exact ⟨rfl, by go_grown⟩
  · rw [Bool.true_and] at hk
    subst hk
    go_enter Tryz.func15, Tryz.ntmps15
    go_wp2_with fail
    refine (hc1 _).mono ?_
    rintro e w' ⟨rfl, rfl⟩
    go_wp2_with fail
    refine (hc2 _).mono ?_
    rintro e w' ⟨rfl, rfl⟩
    go_wp2_with fail
    refine bodyPost_ret (v := .agg #[.int .i64 3, .string ⟨#[]⟩]) (by simp [results, Tryz.results15, go_sem]) rfl ?_
    exact ⟨rfl, by go_grown⟩

/-- What KeyText answers. -/
def ktQ (t k : Int) : Int := if keyB t k = true then 0 else 3
def ktS (t k : Int) : ByteArray := if keyB t k = true then keyS t.toNat k.toNat else ⟨#[]⟩
theorem keyB_nat {t k : Int} (h : keyB t k = true) : ∃ a b : Nat, t = a ∧ k = b ∧ a < 1000 ∧ b < 1000 := by
  simp only [keyB, inW, Bool.and_eq_true, decide_eq_true_eq] at h
  exact ⟨t.toNat, k.toNat, by omega, by omega, by omega, by omega⟩
theorem implKeyText_any (t k : Int) (w : World) (hT : Tab w) :
    Calls Tryz.prog 14 #[.agg #[.int .i64 t, .int .i64 k]] w fun e w' => e = .returned (.agg #[.int .i64 (ktQ t k), .string (ktS t k)]) ∧ Below w.heap.size w w' := by
  unfold ktQ ktS
  by_cases h : keyB t k = true
  · obtain ⟨a, b, rfl, rfl, ha, hb⟩ := keyB_nat h
    rw [if_pos h, if_pos h]
    exact implKeyText_ok a b w h ha hb hT
  · rw [if_neg h, if_neg h]
    exact implKeyText_bad t k w (by simpa using h)
theorem specKeyText_any (t k : Int) (w : World) :
    Calls Tryz.prog 15 #[.agg #[.int .i64 t, .int .i64 k]] w fun e w' => e = .returned (.agg #[.int .i64 (ktQ t k), .string (ktS t k)]) ∧ Below w.heap.size w w' := by
  unfold ktQ ktS
  by_cases h : keyB t k = true
  · obtain ⟨a, b, rfl, rfl, ha, hb⟩ := keyB_nat h
    rw [if_pos h, if_pos h]
    exact specKeyText_ok a b w h ha hb
  · rw [if_neg h, if_neg h]
    exact specKeyText_bad t k w (by simpa using h)

end Go.Proofs.YtmnnkgcknkhgdaaGreatDoor

