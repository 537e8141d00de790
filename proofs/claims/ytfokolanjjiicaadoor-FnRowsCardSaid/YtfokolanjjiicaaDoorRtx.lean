/-
  The program's RowText: the numerals of the table, the key and the value with a blank between them, and a blank and the text where there is one.
-/
import Derived.Test.YtfokolanjjiicaaDoorDig
import Derived.Test.YtfokolanjjiicaaDoorShelf
import Derived.Lib.AppendIntMem
namespace Go.Proofs.YtfokolanjjiicaaDoor
open Go.RowKit
set_option linter.unusedVariables false

/-- The library's table of powers of ten is as its text lays it. -/
def Tab (w : World) : Prop := Lib.TabIs Tryd.prog w "internal/strconv.uint64pow10" .u64 Lib.pow10Tab

theorem gTen : Tryd.prog.globalNamed "internal/strconv.uint64pow10" = some 0 := by kernel_rfl

theorem Tab.below {w w' : World} (h : Tab w) (hb : Below w.heap.size w w') : Tab w' := by
  unfold Tab Lib.TabIs World.var? at h ⊢
  rw [gTen] at h ⊢
  simp only [Option.bind_some] at h ⊢
  have hlt : 0 < w.heap.size := by
    rcases Nat.lt_or_ge 0 w.heap.size with h' | h'
    · exact h'
    · rw [Array.getElem?_eq_none h'] at h; cases h
  rw [hb.block 0 hlt]
  exact h

/-- Block b holds the cells of a TextResult with nothing in it, and they may be written. -/
structure OutT (w : World) (b : Nat) : Prop where
  c0 : w.cell? ⟨b, 0, none⟩ = some (.int .i64 0)
  c1 : w.cell? ⟨b, 1, none⟩ = some (.string ⟨#[]⟩)
  f0 : w.frozen? ⟨b, 0, none⟩ = false
  f1 : w.frozen? ⟨b, 1, none⟩ = false

theorem OutT.lt {w : World} {b : Nat} (h : OutT w b) : b < w.heap.size := World.block_lt_of_cell? w _ h.c0
theorem OutT.below {w w' : World} {b : Nat} (h : OutT w b) (hb : Below w.heap.size w w') : OutT w' b :=
  ⟨(hb.cell (p := ⟨b, 0, none⟩) h.lt).trans h.c0, (hb.cell (p := ⟨b, 1, none⟩) h.lt).trans h.c1, (hb.frozen (p := ⟨b, 0, none⟩) h.lt).trans h.f0, (hb.frozen (p := ⟨b, 1, none⟩) h.lt).trans h.f1⟩

theorem rt_keep {V W : World} {b c : Nat} {t k v : Int} {s : ByteArray} (h : RowAt V b t k v s ∧ Tab V ∧ OutT V c) (hb : Below V.heap.size V W) : RowAt W b t k v s ∧ Tab W ∧ OutT W c :=
  ⟨rowAt_below hb (World.block_lt_of_cell? V _ h.1.c0) h.1, h.2.1.below hb, h.2.2.below hb⟩

theorem format_any (n : Nat) (hn : n < 1000000) (w : World) (hT : Tab w) :
    Calls Tryd.prog 39 #[.int .i64 n, .int .i64 10] w fun e w' => e = .returned (.string (decS n)) ∧ Below w.heap.size w w' := by
  refine (Tryd.internal_strconv_FormatInt_10 n (by omega) (by omega) w hT).mono ?_
  rintro e w' ⟨rfl, k, os, rfl⟩
  exact ⟨by rw [Lib.itoa_nonneg]; rfl, Lib.below_grow _ _ (Nat.le_refl _) _ _⟩

set_option maxHeartbeats 400000 in
theorem formatInt_any (n : Nat) (hn : n < 1000000) (w : World) (hT : Tab w) :
    Calls Tryd.prog 34 #[.int .i64 n, .int .i64 10] w fun e w' => e = .returned (.string (decS n)) ∧ Below w.heap.size w w' := by
  go_enter Tryd.func34, Tryd.ntmps34
  go_wp2_with (go_at_call 39; refine (format_any n hn _ hT).mono ?_; rintro e w1 ⟨rfl, g1⟩)
  go_ret
  exact ⟨rfl, g1⟩

set_option maxHeartbeats 400000 in
theorem numberText_any (n : Nat) (hn : n < 1000000) (w : World) (hT : Tab w) :
    Calls Tryd.prog 24 #[.int .i64 n] w fun e w' => e = .returned (.string (decS n)) ∧ Below w.heap.size w w' := by
  go_enter Tryd.func24, Tryd.ntmps24
  go_wp2_with (go_at_call 34; refine (formatInt_any n hn _ hT).mono ?_; rintro e w1 ⟨rfl, g1⟩)
  go_ret
  exact ⟨rfl, g1⟩

/-- The three numerals of a row's text. -/
def numS (t k v : Nat) : ByteArray := decS t ++ ⟨#[32]⟩ ++ decS k ++ ⟨#[32]⟩ ++ decS v

/-- A row's text. -/
def rowS (t k v : Nat) (s : ByteArray) : ByteArray := if s.toList.isEmpty = true then numS t k v else numS t k v ++ (⟨#[32]⟩ ++ s)

set_option maxHeartbeats 1000000 in
theorem implRowText_bad (t k v : Int) (s : ByteArray) (w : World) (hs : s.size ≤ maxLen) (hf : faultI t k v s ≠ 0) :
    Calls Tryd.prog 8 #[.agg #[.int .i64 t, .int .i64 k, .int .i64 v, .string s]] w fun e w' => e = .returned (.agg #[.int .i64 (faultI t k v s), .string ⟨#[]⟩]) ∧ Below w.heap.size w w' := by
  have hc := implRowFault_any t k v s
  generalize faultI t k v s = f at hf hc ⊢
  have hz : (f != 0) = true := by simpa using hf
  go_enter Tryd.func8, Tryd.ntmps8
  go_wp2_with fail
  refine (hc _ hs).mono ?_
  rintro e w1 ⟨rfl, gb⟩
  have hO : OutT w1 (w.heap.size + 1) := OutT.below ⟨by simp [go_sem], by simp [go_sem], by simp [go_sem], by simp [go_sem]⟩ gb
  have g1 : Below w.heap.size w w1 := Below.trans (by go_grown) (gb.mono (by simp; omega))
  clear gb
  have hsz := hO.lt
  obtain ⟨r0, r1, r2, r3⟩ := hO
  go_wp2_with fail
  refine bodyPost_ret (v := .agg #[.int .i64 f, .string ⟨#[]⟩]) (by simp [results, Tryd.results8, go_sem, r0, r1]) rfl ?_
  exact ⟨rfl, by go_grown⟩

set_option maxHeartbeats 1000000 in
theorem implRowText_good (t k v : Nat) (s : ByteArray) (w : World) (hs : s.size ≤ 8) (hf : faultI t k v s = 0) (ht : t < 1000000) (hk : k < 1000000) (hv : v < 1000000) (hT : Tab w) :
    Calls Tryd.prog 8 #[.agg #[.int .i64 t, .int .i64 k, .int .i64 v, .string s]] w fun e w' => e = .returned (.agg #[.int .i64 0, .string (rowS t k v s)]) ∧ Below w.heap.size w w' := by
  have hc := implRowFault_any t k v s
  rw [hf] at hc
  have z1 := decS_size t ht
  have z2 := decS_size k hk
  have z3 := decS_size v hv
  have e1 : ¬ 9223372036854775807 < (decS t).size + 1 := by omega
  have e2 : ¬ 9223372036854775807 < (decS t).size + 1 + (decS k).size := by omega
  have e3 : ¬ 9223372036854775807 < (decS t).size + 1 + (decS k).size + 1 := by omega
  have e4 : ¬ 9223372036854775807 < (decS t).size + 1 + (decS k).size + 1 + (decS v).size := by omega
  go_enter Tryd.func8, Tryd.ntmps8
  go_wp2_with fail
  refine (hc _ (by unfold maxLen; omega)).mono ?_
  rintro e w1 ⟨rfl, gb⟩
  have hO : OutT w1 (w.heap.size + 1) := OutT.below ⟨by simp [go_sem], by simp [go_sem], by simp [go_sem], by simp [go_sem]⟩ gb
  have hR : RowAt w1 w.heap.size t k v s := rowAt_below gb (by simp; omega) ⟨by simp [go_sem], by simp [go_sem], by simp [go_sem], by simp [go_sem]⟩
  have hT : Tab w1 := (hT.below (by go_grown)).below gb
  have g1 : Below w.heap.size w w1 := Below.trans (by go_grown) (gb.mono (by simp; omega))
  clear gb
  go_upto_region 4 with (fail)
  refine wp_region_held_drew (S := fun V => RowAt V w.heap.size t k v s ∧ Tab V ∧ OutT V (w.heap.size + 1)) (by kernel_rfl) (rt_keep ⟨hR, hT, hO⟩ (Below.refl _ _).drew) (fun hHeld => ?_)
  have gD : Below w.heap.size w w1.drew := g1.drew
  generalize w1.drew = D at hHeld gD ⊢
  clear hR hT hO g1
  refine wpAnyH_take (i := 0) (v := .pointer (some ⟨w.heap.size, 0, none⟩)) rfl (by kernel_rfl) (by kernel_rfl) (by kernel_rfl) (fun _ _ _ h => h) (Or.inl ⟨by kernel_rfl, fun u hSw => by (try dsimp only at hSw); go_simp; try with_reducible rfl⟩) hHeld ?_
  try simp only [List.getElem_toArray]
  try simp only [List.getElem_cons_succ]
  try simp only [List.getElem_cons_zero]
  try simp only [Act.put]
  try simp only [List.setIfInBounds_toArray]
  try simp only [List.set]
  refine wpAnyH_take (i := 1) (v := .int .i64 t) rfl (by kernel_rfl) (by kernel_rfl) (by kernel_rfl) (fun _ _ _ h => h) (Or.inl ⟨by kernel_rfl, fun u hSw => by have c0 := hSw.1.c0; clear hSw; go_simp; try with_reducible rfl⟩) hHeld ?_
  try simp only [List.getElem_toArray]
  try simp only [List.getElem_cons_succ]
  try simp only [List.getElem_cons_zero]
  try simp only [Act.put]
  try simp only [List.setIfInBounds_toArray]
  try simp only [List.set]
  refine wpAnyH_take (i := 4) (v := .pointer (some ⟨w.heap.size, 1, none⟩)) rfl (by kernel_rfl) (by kernel_rfl) (by kernel_rfl) (fun _ _ _ h => h) (Or.inl ⟨by kernel_rfl, fun u hSw => by (try dsimp only at hSw); go_simp; try with_reducible rfl⟩) hHeld ?_
  try simp only [List.getElem_toArray]
  try simp only [List.getElem_cons_succ]
  try simp only [List.getElem_cons_zero]
  try simp only [Act.put]
  try simp only [List.setIfInBounds_toArray]
  try simp only [List.set]
  refine wpAnyH_take (i := 5) (v := .int .i64 k) rfl (by kernel_rfl) (by kernel_rfl) (by kernel_rfl) (fun _ _ _ h => h) (Or.inl ⟨by kernel_rfl, fun u hSw => by have c0 := hSw.1.c1; clear hSw; go_simp; try with_reducible rfl⟩) hHeld ?_
  try simp only [List.getElem_toArray]
  try simp only [List.getElem_cons_succ]
  try simp only [List.getElem_cons_zero]
  try simp only [Act.put]
  try simp only [List.setIfInBounds_toArray]
  try simp only [List.set]
  refine wpAnyH_take (i := 9) (v := .pointer (some ⟨w.heap.size, 2, none⟩)) rfl (by kernel_rfl) (by kernel_rfl) (by kernel_rfl) (fun _ _ _ h => h) (Or.inl ⟨by kernel_rfl, fun u hSw => by (try dsimp only at hSw); go_simp; try with_reducible rfl⟩) hHeld ?_
  try simp only [List.getElem_toArray]
  try simp only [List.getElem_cons_succ]
  try simp only [List.getElem_cons_zero]
  try simp only [Act.put]
  try simp only [List.setIfInBounds_toArray]
  try simp only [List.set]
  refine wpAnyH_take (i := 10) (v := .int .i64 v) rfl (by kernel_rfl) (by kernel_rfl) (by kernel_rfl) (fun _ _ _ h => h) (Or.inl ⟨by kernel_rfl, fun u hSw => by have c0 := hSw.1.c2; clear hSw; go_simp; try with_reducible rfl⟩) hHeld ?_
  try simp only [List.getElem_toArray]
  try simp only [List.getElem_cons_succ]
  try simp only [List.getElem_cons_zero]
  try simp only [Act.put]
  try simp only [List.setIfInBounds_toArray]
  try simp only [List.set]
  refine wpAnyH_ready (rs := [2]) (by kernel_rfl) (by simp) ?_
  refine AllReadyH.cons rfl (fun K hK => ?_) AllReadyH.nil
  go_simp
  go_wp2_with (go_at_call 24; refine (numberText_any t (by omega) _ hHeld.2.1).mono ?_; rintro e D1 ⟨rfl, gb⟩)
  refine hK.out _ _ (rt_keep hHeld gb) (fun hHeld => ?_)
  have gD := gD.trans (gb.mono gD.size)
  clear hK K gb
  try simp only [Act.put]
  try simp only [List.setIfInBounds_toArray]
  try simp only [List.set]
  refine wpAnyH_take (i := 3) (v := .string (decS t ++ ⟨#[32]⟩)) rfl (by kernel_rfl) (by kernel_rfl) (by kernel_rfl) (fun _ _ _ h => h) (Or.inl ⟨by kernel_rfl, fun u hSw => by (try dsimp only at hSw); go_simp; try with_reducible rfl⟩) hHeld ?_
  try simp only [List.getElem_toArray]
  try simp only [List.getElem_cons_succ]
  try simp only [List.getElem_cons_zero]
  try simp only [Act.put]
  try simp only [List.setIfInBounds_toArray]
  try simp only [List.set]
  refine wpAnyH_ready (rs := [6]) (by kernel_rfl) (by simp) ?_
  refine AllReadyH.cons rfl (fun K hK => ?_) AllReadyH.nil
  go_simp
  go_wp2_with (go_at_call 24; refine (numberText_any k (by omega) _ hHeld.2.1).mono ?_; rintro e D2 ⟨rfl, gb⟩)
  refine hK.out _ _ (rt_keep hHeld gb) (fun hHeld => ?_)
  have gD := gD.trans (gb.mono gD.size)
  clear hK K gb
  try simp only [Act.put]
  try simp only [List.setIfInBounds_toArray]
  try simp only [List.set]
  refine wpAnyH_take (i := 7) (v := .string (decS t ++ ⟨#[32]⟩ ++ decS k)) rfl (by kernel_rfl) (by kernel_rfl) (by kernel_rfl) (fun _ _ _ h => h) (Or.inl ⟨by kernel_rfl, fun u hSw => by (try dsimp only at hSw); go_simp; try with_reducible rfl⟩) hHeld ?_
  try simp only [List.getElem_toArray]
  try simp only [List.getElem_cons_succ]
  try simp only [List.getElem_cons_zero]
  try simp only [Act.put]
  try simp only [List.setIfInBounds_toArray]
  try simp only [List.set]
  refine wpAnyH_take (i := 8) (v := .string (decS t ++ ⟨#[32]⟩ ++ decS k ++ ⟨#[32]⟩)) rfl (by kernel_rfl) (by kernel_rfl) (by kernel_rfl) (fun _ _ _ h => h) (Or.inl ⟨by kernel_rfl, fun u hSw => by (try dsimp only at hSw); go_simp; try with_reducible rfl⟩) hHeld ?_
  try simp only [List.getElem_toArray]
  try simp only [List.getElem_cons_succ]
  try simp only [List.getElem_cons_zero]
  try simp only [Act.put]
  try simp only [List.setIfInBounds_toArray]
  try simp only [List.set]
  refine wpAnyH_ready (rs := [11]) (by kernel_rfl) (by simp) ?_
  refine AllReadyH.cons rfl (fun K hK => ?_) AllReadyH.nil
  go_simp
  go_wp2_with (go_at_call 24; refine (numberText_any v (by omega) _ hHeld.2.1).mono ?_; rintro e D3 ⟨rfl, gb⟩)
  refine hK.out _ _ (rt_keep hHeld gb) (fun hHeld => ?_)
  have gD := gD.trans (gb.mono gD.size)
  clear hK K gb
  try simp only [Act.put]
  try simp only [List.setIfInBounds_toArray]
  try simp only [List.set]
  refine wpAnyH_take (i := 12) (v := .string (decS t ++ ⟨#[32]⟩ ++ decS k ++ ⟨#[32]⟩ ++ decS v)) rfl (by kernel_rfl) (by kernel_rfl) (by kernel_rfl) (fun _ _ _ h => h) (Or.inl ⟨by kernel_rfl, fun u hSw => by (try dsimp only at hSw); go_simp; try with_reducible rfl⟩) hHeld ?_
  try simp only [List.getElem_toArray]
  try simp only [List.getElem_cons_succ]
  try simp only [List.getElem_cons_zero]
  try simp only [Act.put]
  try simp only [List.setIfInBounds_toArray]
  try simp only [List.set]
  refine wpAnyH_take (i := 13) (v := .string (decS t ++ ⟨#[32]⟩ ++ decS k ++ ⟨#[32]⟩ ++ decS v)) rfl (by kernel_rfl) (by kernel_rfl) (by kernel_rfl) (fun _ _ _ h => h) (Or.inl ⟨by kernel_rfl, fun u hSw => by (try dsimp only at hSw); go_simp; try with_reducible rfl⟩) hHeld ?_
  try simp only [List.getElem_toArray]
  try simp only [List.getElem_cons_succ]
  try simp only [List.getElem_cons_zero]
  try simp only [Act.put]
  try simp only [List.setIfInBounds_toArray]
  try simp only [List.set]
  refine wpAnyH_done (by kernel_rfl) ?_ _
  have HX : Hid (numS t k v = decS t ++ ⟨#[32]⟩ ++ decS k ++ ⟨#[32]⟩ ++ decS v) := rfl
  have hXs : (decS t ++ ⟨#[32]⟩ ++ decS k ++ ⟨#[32]⟩ ++ decS v).size ≤ 65 := by
    simp only [ByteArray.size_append]
    have : (⟨#[32]⟩ : ByteArray).size = 1 := rfl
    omega
  have HN : Hid (rowS t k v s = if s.toList.isEmpty = true then numS t k v else numS t k v ++ (⟨#[32]⟩ ++ s)) := rfl
  rw [HX.out] at HN
  generalize decS t ++ ⟨#[32]⟩ ++ decS k ++ ⟨#[32]⟩ ++ decS v = X at hXs HN ⊢
  obtain ⟨⟨p0, p1, p2, p3⟩, hT, hO⟩ := hHeld
  have hsz := hO.lt
  obtain ⟨r0, r1, r2, r3⟩ := hO
  clear e1 e2 e3 e4 z1 z2 z3 hT
  by_cases hE : s.toList.isEmpty = true
  · have HE : Hid (rowS t k v s = X) := by have := HN.out; rw [if_pos hE] at this; exact this
    clear HN
    go_wp2_with fail
    refine bodyPost_ret (v := .agg #[.int .i64 0, .string X]) (by simp [results, Tryd.results8, go_sem, r0, r1]) rfl ?_
    exact ⟨by rw [HE.out], by go_grown⟩
  · have HE : Hid (rowS t k v s = X ++ (⟨#[32]⟩ ++ s)) := by have := HN.out; rw [if_neg hE] at this; exact this
    have de : s.toList.isEmpty = false := Bool.eq_false_iff.2 hE
    have e1 : ¬ 9223372036854775807 < 1 + s.size := by omega
    have e2 : ¬ 9223372036854775807 < X.size + (1 + s.size) := by omega
    clear HN hE
    go_wp2_with fail
    refine bodyPost_ret (v := .agg #[.int .i64 0, .string (X ++ (⟨#[32]⟩ ++ s))]) (by simp [results, Tryd.results8, go_sem, r0, r1]) rfl ?_
    exact ⟨by rw [HE.out], by go_grown⟩

end Go.Proofs.YtfokolanjjiicaaDoor
