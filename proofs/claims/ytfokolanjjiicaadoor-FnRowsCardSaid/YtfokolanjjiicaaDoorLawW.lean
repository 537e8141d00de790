/-
  The law FnRows answers true at all bytes, where the library's table of powers of ten is as its text lays it.
-/
import Derived.Test.YtfokolanjjiicaaDoorDrw
import Derived.Test.YtfokolanjjiicaaDoorRowB
namespace Go.Proofs.YtfokolanjjiicaaDoor
open Go.RowKit
set_option linter.unusedVariables false

/-- Block b holds the cells of a RowResult. -/
structure UAt (w : World) (b : Nat) (q t k v : Int) (s : ByteArray) : Prop where
  c0 : w.cell? ⟨b, 0, none⟩ = some (.int .i64 q)
  c1 : w.cell? ⟨b, 1, none⟩ = some (.int .i64 t)
  c2 : w.cell? ⟨b, 2, none⟩ = some (.int .i64 k)
  c3 : w.cell? ⟨b, 3, none⟩ = some (.int .i64 v)
  c4 : w.cell? ⟨b, 4, none⟩ = some (.string s)

theorem uk_keep {V W : World} {b : Nat} {q t k v : Int} {s : ByteArray} (h : UAt V b q t k v s) (hb : Below V.heap.size V W) : UAt W b q t k v s := by
  have hlt : b < V.heap.size := World.block_lt_of_cell? V _ h.c0
  exact ⟨(hb.cell (p := ⟨b, 0, none⟩) hlt).trans h.c0, (hb.cell (p := ⟨b, 1, none⟩) hlt).trans h.c1, (hb.cell (p := ⟨b, 2, none⟩) hlt).trans h.c2, (hb.cell (p := ⟨b, 3, none⟩) hlt).trans h.c3, (hb.cell (p := ⟨b, 4, none⟩) hlt).trans h.c4⟩

theorem rt2_keep {V W : World} {b c : Nat} {t k v f : Int} {s x : ByteArray} (h : RowAt V b t k v s ∧ V.cell? ⟨c, 0, none⟩ = some (.int .i64 f) ∧ V.cell? ⟨c, 1, none⟩ = some (.string x)) (hb : Below V.heap.size V W) : RowAt W b t k v s ∧ W.cell? ⟨c, 0, none⟩ = some (.int .i64 f) ∧ W.cell? ⟨c, 1, none⟩ = some (.string x) := by
  have hlt : c < V.heap.size := World.block_lt_of_cell? V _ h.2.1
  exact ⟨rs_keep h.1 hb, (hb.cell (p := ⟨c, 0, none⟩) hlt).trans h.2.1, (hb.cell (p := ⟨c, 1, none⟩) hlt).trans h.2.2⟩

theorem words_ok (ws : List ByteArray) (h : (wordsRow ws).ok = true) : faultI (wordsRow ws).t (wordsRow ws).k (wordsRow ws).v (wordsRow ws).s = 0 := by
  unfold wordsRow at h ⊢
  split at h
  · simpa using h
  · simp only [Bool.and_eq_true, beq_iff_eq] at h
    exact h.1
  · cases h

/-- What parsing a text gives: a row whose text it is, or the code 5. -/
theorem parse_ways (x : ByteArray) : (∃ (t k v : Nat) (s : ByteArray), parseV (wordsRow (cutSt x (x.size + 1)).1) = .agg #[.int .i64 0, .int .i64 t, .int .i64 k, .int .i64 v, .string s] ∧ faultI t k v s = 0 ∧ rowS t k v s = x) ∨ parseV (wordsRow (cutSt x (x.size + 1)).1) = .agg #[.int .i64 5, .int .i64 0, .int .i64 0, .int .i64 0, .string ⟨#[]⟩] := by
  cases hk : (wordsRow (cutSt x (x.size + 1)).1).ok
  · exact .inr (by unfold parseV; rw [hk]; rfl)
  · have hf := words_ok _ hk
    have hp := parse_print x (t := (wordsRow (cutSt x (x.size + 1)).1).t) (k := (wordsRow (cutSt x (x.size + 1)).1).k) (v := (wordsRow (cutSt x (x.size + 1)).1).v) (x := (wordsRow (cutSt x (x.size + 1)).1).s) (by rw [← hk])
    obtain ⟨⟨t0, _⟩, ⟨k0, _⟩, ⟨v0, _⟩, _⟩ := fault_zero hf
    refine .inl ⟨_, _, _, _, ?_, ?_, hp⟩
    · unfold parseV
      rw [hk, if_pos rfl, Int.toNat_of_nonneg t0, Int.toNat_of_nonneg (by omega), Int.toNat_of_nonneg v0]
    · rw [Int.toNat_of_nonneg t0, Int.toNat_of_nonneg (by omega), Int.toNat_of_nonneg v0]
      exact hf

theorem fld31_0 (q : Int) (x : ByteArray) (u : World) : (Instr.field 31 (.agg #[.int .i64 q, .string x]) 0).run Tryd.prog u = .ok (.int .i64 q) u := by kernel_rfl
theorem fld31_1 (q : Int) (x : ByteArray) (u : World) : (Instr.field 31 (.agg #[.int .i64 q, .string x]) 1).run Tryd.prog u = .ok (.string x) u := by kernel_rfl
theorem fld28_0 (q t k v : Int) (x : ByteArray) (u : World) : (Instr.field 28 (.agg #[.int .i64 q, .int .i64 t, .int .i64 k, .int .i64 v, .string x]) 0).run Tryd.prog u = .ok (.int .i64 q) u := by kernel_rfl
theorem fld28_1 (q t k v : Int) (x : ByteArray) (u : World) : (Instr.field 28 (.agg #[.int .i64 q, .int .i64 t, .int .i64 k, .int .i64 v, .string x]) 1).run Tryd.prog u = .ok (.agg #[.int .i64 t, .int .i64 k, .int .i64 v, .string x]) u := by kernel_rfl

set_option maxRecDepth 20000 in
set_option maxHeartbeats 4000000 in
theorem lawRows_fits (a : Option Addr) (n c : Nat) (zs : List Int) (w : World) (rd : Reads w a zs) (hn : zs.length = n) (hm : n ≤ 1048576) (hz : ∀ z ∈ zs, 0 ≤ z ∧ z ≤ 255) (hT : Tab w) :
    Calls Tryd.prog 3 #[.slice a n c] w fun e w' => e = .returned (.bool true) ∧ Below w.heap.size w w' := by
  have HT : Hid (∀ W : World, Below w.heap.size w W → Tab W) := fun W h => hT.below h
  have HD1 : Hid (∀ W : World, Below w.heap.size w W → Calls Tryd.prog 10 #[.slice a n c] W fun e w' => (∃ t k v s t' k' v' s', e = .returned (.tuple #[.agg #[.int .i64 t, .int .i64 k, .int .i64 v, .string s], .agg #[.int .i64 t', .int .i64 k', .int .i64 v', .string s']])) ∧ Below W.heap.size W w') := fun W h => drawIsBefore_any a n c zs W (rd.below h (Nat.le_refl _)) hn hm hz
  have HD2 : Hid (∀ W : World, Below w.heap.size w W → Calls Tryd.prog 12 #[.slice a n c] W fun e w' => (∃ t k v s, e = .returned (.agg #[.int .i64 t, .int .i64 k, .int .i64 v, .string s]) ∧ ByteArray.size s ≤ 9) ∧ Below W.heap.size W w') := fun W h => drawRowText_any a n c zs W (rd.below h (Nat.le_refl _)) hn hm hz
  go_enter Tryd.func3, Tryd.ntmps3
  go_wp2_with fail
  refine (lwBig_small a n c _ hm).mono ?_
  rintro e w0 ⟨rfl, h0⟩
  rw [h0]
  clear h0 w0
  go_wp2_with fail
  refine (drawParseRow_any a n c zs _ rd hn hm hz).mono ?_
  rintro e w1 ⟨⟨x, rfl, hx⟩, g1⟩
  clear rd hn hm hz hT
  go_wp2_with fail
  refine (implParseRow_of scanSaid x _ (by omega)).mono ?_
  rintro e w2 ⟨rfl, g20⟩
  have HW := parse_ways x
  have hSp := fun W : World => specParseRow_any x W (by omega)
  obtain ⟨q, t, k, v, s, hp⟩ := parseV_form (wordsRow (cutSt x (x.size + 1)).1)
  rw [hp] at HW hSp ⊢
  have HSp : Hid (∀ W : World, Calls Tryd.prog 9 #[.string x] W fun e w' => e = .returned (.agg #[.int .i64 q, .int .i64 t, .int .i64 k, .int .i64 v, .string s]) ∧ Below W.heap.size W w') := hSp
  clear hp hSp
  have g2 : Below w.heap.size w w2 := g1.trans (g20.mono g1.size)
  clear g20 g1 w1 hx
  go_upto_region 5 with (fail)
  have hU : UAt (w2.alloc (.cells #[.int .i64 q, .int .i64 t, .int .i64 k, .int .i64 v, .string s] 28)) w2.heap.size q t k v s := ⟨by simp [go_sem], by simp [go_sem], by simp [go_sem], by simp [go_sem], by simp [go_sem]⟩
  have gW := g2.alloc g2.size (.cells #[.int .i64 q, .int .i64 t, .int .i64 k, .int .i64 v, .string s] 28)
  generalize w2.alloc (.cells #[.int .i64 q, .int .i64 t, .int .i64 k, .int .i64 v, .string s] 28) = W at hU gW ⊢
  generalize w2.heap.size = ub at hU ⊢
  clear g2 w2
  go_cut [39] from 10 (fun s39 wc => s39 = .bool false ∧ Below w.heap.size w wc)
  case first =>
    rcases HW with ⟨tn, kn, vn, sn, he, hf, hxs⟩ | he
    · simp only [Value.agg.injEq, Array.mk.injEq, List.cons.injEq, Value.int.injEq, Value.string.injEq, true_and, and_true] at he
      obtain ⟨rfl, rfl, rfl, rfl, rfl⟩ := he
      obtain ⟨⟨_, t1⟩, ⟨_, k1⟩, ⟨_, v1⟩, h8, _⟩ := fault_zero hf
      have HF : Hid (faultI tn kn vn s = 0) := hf
      have HX : Hid (rowS tn kn vn s = x) := hxs
      have HS8 : Hid (s.size ≤ 8) := h8
      clear hf hxs h8 HSp HD1 HD2
      refine wp_region_held_drew (S := fun V => UAt V ub 0 tn kn vn s) (by kernel_rfl) (uk_keep hU (Below.refl _ _).drew) (fun hHeld => ?_)
      have gD : Below w.heap.size w W.drew := gW.drew
      generalize W.drew = D at hHeld gD ⊢
      clear hU gW
      refine wpAnyH_take (i := 0) (v := .pointer (some ⟨ub, 0, none⟩)) rfl (by kernel_rfl) (by kernel_rfl) (by kernel_rfl) (fun _ _ _ h => h) (Or.inl ⟨by kernel_rfl, fun u hSw => by (try dsimp only at hSw); go_simp; try with_reducible rfl⟩) hHeld ?_
      try simp only [List.getElem_toArray]
      try simp only [List.getElem_cons_succ]
      try simp only [List.getElem_cons_zero]
      try simp only [Act.put]
      try simp only [List.setIfInBounds_toArray]
      try simp only [List.set]
      refine wpAnyH_take (i := 1) (v := .int .i64 0) rfl (by kernel_rfl) (by kernel_rfl) (by kernel_rfl) (fun _ _ _ h => h) (Or.inl ⟨by kernel_rfl, fun u hSw => by obtain ⟨c0, c1, c2, c3, c4⟩ := hSw; go_simp; try with_reducible rfl⟩) hHeld ?_
      try simp only [List.getElem_toArray]
      try simp only [List.getElem_cons_succ]
      try simp only [List.getElem_cons_zero]
      try simp only [Act.put]
      try simp only [List.setIfInBounds_toArray]
      try simp only [List.set]
      refine wpAnyH_take (i := 2) (v := .bool true) rfl (by kernel_rfl) (by kernel_rfl) (by kernel_rfl) (fun _ _ _ h => h) (Or.inl ⟨by kernel_rfl, fun u hSw => by (try dsimp only at hSw); go_simp; try with_reducible rfl⟩) hHeld ?_
      try simp only [List.getElem_toArray]
      try simp only [List.getElem_cons_succ]
      try simp only [List.getElem_cons_zero]
      try simp only [Act.put]
      try simp only [List.setIfInBounds_toArray]
      try simp only [List.set]
      refine wpAnyH_take (i := 3) (v := .bool true) rfl (by kernel_rfl) (by kernel_rfl) (by kernel_rfl) (fun _ _ _ h => h) (Or.inl ⟨by kernel_rfl, fun u hSw => by (try dsimp only at hSw); go_simp; try with_reducible rfl⟩) hHeld ?_
      try simp only [List.getElem_toArray]
      try simp only [List.getElem_cons_succ]
      try simp only [List.getElem_cons_zero]
      try simp only [Act.put]
      try simp only [List.setIfInBounds_toArray]
      try simp only [List.set]
      refine wpAnyH_take (i := 4) (v := .pointer (some ⟨ub, 1, none⟩)) rfl (by kernel_rfl) (by kernel_rfl) (by kernel_rfl) (fun _ _ _ h => h) (Or.inl ⟨by kernel_rfl, fun u hSw => by (try dsimp only at hSw); go_simp; try with_reducible rfl⟩) hHeld ?_
      try simp only [List.getElem_toArray]
      try simp only [List.getElem_cons_succ]
      try simp only [List.getElem_cons_zero]
      try simp only [Act.put]
      try simp only [List.setIfInBounds_toArray]
      try simp only [List.set]
      refine wpAnyH_take (i := 5) (v := .agg #[.int .i64 (tn : Nat), .int .i64 (kn : Nat), .int .i64 (vn : Nat), .string s]) rfl (by kernel_rfl) (by kernel_rfl) (by kernel_rfl) (fun _ _ _ h => h) (Or.inl ⟨by kernel_rfl, fun u hSw => by obtain ⟨c0, c1, c2, c3, c4⟩ := hSw; go_simp; try with_reducible rfl⟩) hHeld ?_
      try simp only [List.getElem_toArray]
      try simp only [List.getElem_cons_succ]
      try simp only [List.getElem_cons_zero]
      try simp only [Act.put]
      try simp only [List.setIfInBounds_toArray]
      try simp only [List.set]
      refine wpAnyH_take (i := 8) (v := .string x) rfl (by kernel_rfl) (by kernel_rfl) (by kernel_rfl) (fun _ _ _ h => h) (Or.inl ⟨by kernel_rfl, fun u hSw => by (try dsimp only at hSw); go_simp; try with_reducible rfl⟩) hHeld ?_
      try simp only [List.getElem_toArray]
      try simp only [List.getElem_cons_succ]
      try simp only [List.getElem_cons_zero]
      try simp only [Act.put]
      try simp only [List.setIfInBounds_toArray]
      try simp only [List.set]
      refine wpAnyH_ready (rs := [6]) (by kernel_rfl) (by simp) ?_
      refine AllReadyH.cons rfl (fun K hK => ?_) AllReadyH.nil
      go_simp
      go_wp2_with (go_at_call 8; refine (implRowText_good tn kn vn s _ HS8.out HF.out (by omega) (by omega) (by omega) (HT.out _ gD)).mono ?_; rintro e D1 ⟨rfl, gb⟩)
      refine hK.out _ _ (uk_keep hHeld gb) (fun hHeld => ?_)
      have gD := gD.trans (gb.mono gD.size)
      clear hK K gb
      try simp only [Act.put]
      try simp only [List.setIfInBounds_toArray]
      try simp only [List.set]
      rw [HX.out]
      refine wpAnyH_take (i := 7) (v := .string x) rfl (by kernel_rfl) (by kernel_rfl) (by kernel_rfl) (fun _ _ _ h => h) (Or.inl ⟨by kernel_rfl, fun u hSw => by have hfd := fld31_1 0 x u; go_simp; try with_reducible rfl⟩) hHeld ?_
      try simp only [List.getElem_toArray]
      try simp only [List.getElem_cons_succ]
      try simp only [List.getElem_cons_zero]
      try simp only [Act.put]
      try simp only [List.setIfInBounds_toArray]
      try simp only [List.set]
      refine wpAnyH_take (i := 9) (v := .bool false) rfl (by kernel_rfl) (by kernel_rfl) (by kernel_rfl) (fun _ _ _ h => h) (Or.inl ⟨by kernel_rfl, fun u hSw => by (try dsimp only at hSw); go_simp; try with_reducible rfl⟩) hHeld ?_
      try simp only [List.getElem_toArray]
      try simp only [List.getElem_cons_succ]
      try simp only [List.getElem_cons_zero]
      try simp only [Act.put]
      try simp only [List.setIfInBounds_toArray]
      try simp only [List.set]
      refine wpAnyH_take (i := 10) (v := .bool false) rfl (by kernel_rfl) (by kernel_rfl) (by kernel_rfl) (fun _ _ _ h => h) (Or.inl ⟨by kernel_rfl, fun u hSw => by (try dsimp only at hSw); go_simp; try with_reducible rfl⟩) hHeld ?_
      try simp only [List.getElem_toArray]
      try simp only [List.getElem_cons_succ]
      try simp only [List.getElem_cons_zero]
      try simp only [Act.put]
      try simp only [List.setIfInBounds_toArray]
      try simp only [List.set]
      refine wpAnyH_take (i := 11) (v := .bool false) rfl (by kernel_rfl) (by kernel_rfl) (by kernel_rfl) (fun _ _ _ h => h) (Or.inl ⟨by kernel_rfl, fun u hSw => by (try dsimp only at hSw); go_simp; try with_reducible rfl⟩) hHeld ?_
      try simp only [List.getElem_toArray]
      try simp only [List.getElem_cons_succ]
      try simp only [List.getElem_cons_zero]
      try simp only [Act.put]
      try simp only [List.setIfInBounds_toArray]
      try simp only [List.set]
      refine wpAnyH_take (i := 12) (v := .pointer (some ⟨ub, 0, none⟩)) rfl (by kernel_rfl) (by kernel_rfl) (by kernel_rfl) (fun _ _ _ h => h) (Or.inl ⟨by kernel_rfl, fun u hSw => by (try dsimp only at hSw); go_simp; try with_reducible rfl⟩) hHeld ?_
      try simp only [List.getElem_toArray]
      try simp only [List.getElem_cons_succ]
      try simp only [List.getElem_cons_zero]
      try simp only [Act.put]
      try simp only [List.setIfInBounds_toArray]
      try simp only [List.set]
      refine wpAnyH_take (i := 13) (v := .int .i64 0) rfl (by kernel_rfl) (by kernel_rfl) (by kernel_rfl) (fun _ _ _ h => h) (Or.inl ⟨by kernel_rfl, fun u hSw => by obtain ⟨c0, c1, c2, c3, c4⟩ := hSw; go_simp; try with_reducible rfl⟩) hHeld ?_
      try simp only [List.getElem_toArray]
      try simp only [List.getElem_cons_succ]
      try simp only [List.getElem_cons_zero]
      try simp only [Act.put]
      try simp only [List.setIfInBounds_toArray]
      try simp only [List.set]
      refine wpAnyH_take (i := 14) (v := .bool false) rfl (by kernel_rfl) (by kernel_rfl) (by kernel_rfl) (fun _ _ _ h => h) (Or.inl ⟨by kernel_rfl, fun u hSw => by (try dsimp only at hSw); go_simp; try with_reducible rfl⟩) hHeld ?_
      try simp only [List.getElem_toArray]
      try simp only [List.getElem_cons_succ]
      try simp only [List.getElem_cons_zero]
      try simp only [Act.put]
      try simp only [List.setIfInBounds_toArray]
      try simp only [List.set]
      refine wpAnyH_take (i := 15) (v := .bool false) rfl (by kernel_rfl) (by kernel_rfl) (by kernel_rfl) (fun _ _ _ h => h) (Or.inl ⟨by kernel_rfl, fun u hSw => by (try dsimp only at hSw); go_simp; try with_reducible rfl⟩) hHeld ?_
      try simp only [List.getElem_toArray]
      try simp only [List.getElem_cons_succ]
      try simp only [List.getElem_cons_zero]
      try simp only [Act.put]
      try simp only [List.setIfInBounds_toArray]
      try simp only [List.set]
      refine wpAnyH_take (i := 16) (v := undef) rfl (by kernel_rfl) (by kernel_rfl) (by kernel_rfl) (fun _ _ _ h => h) (Or.inr ⟨by kernel_rfl, rfl⟩) hHeld ?_
      try simp only [List.getElem_toArray]
      try simp only [List.getElem_cons_succ]
      try simp only [List.getElem_cons_zero]
      try simp only [Act.put]
      try simp only [List.setIfInBounds_toArray]
      try simp only [List.set]
      refine wpAnyH_take (i := 17) (v := undef) rfl (by kernel_rfl) (by kernel_rfl) (by kernel_rfl) (fun _ _ _ h => h) (Or.inr ⟨by kernel_rfl, rfl⟩) hHeld ?_
      try simp only [List.getElem_toArray]
      try simp only [List.getElem_cons_succ]
      try simp only [List.getElem_cons_zero]
      try simp only [Act.put]
      try simp only [List.setIfInBounds_toArray]
      try simp only [List.set]
      refine wpAnyH_take (i := 18) (v := undef) rfl (by kernel_rfl) (by kernel_rfl) (by kernel_rfl) (fun _ _ _ h => h) (Or.inr ⟨by kernel_rfl, rfl⟩) hHeld ?_
      try simp only [List.getElem_toArray]
      try simp only [List.getElem_cons_succ]
      try simp only [List.getElem_cons_zero]
      try simp only [Act.put]
      try simp only [List.setIfInBounds_toArray]
      try simp only [List.set]
      refine wpAnyH_take (i := 19) (v := undef) rfl (by kernel_rfl) (by kernel_rfl) (by kernel_rfl) (fun _ _ _ h => h) (Or.inr ⟨by kernel_rfl, rfl⟩) hHeld ?_
      try simp only [List.getElem_toArray]
      try simp only [List.getElem_cons_succ]
      try simp only [List.getElem_cons_zero]
      try simp only [Act.put]
      try simp only [List.setIfInBounds_toArray]
      try simp only [List.set]
      refine wpAnyH_take (i := 20) (v := undef) rfl (by kernel_rfl) (by kernel_rfl) (by kernel_rfl) (fun _ _ _ h => h) (Or.inr ⟨by kernel_rfl, rfl⟩) hHeld ?_
      try simp only [List.getElem_toArray]
      try simp only [List.getElem_cons_succ]
      try simp only [List.getElem_cons_zero]
      try simp only [Act.put]
      try simp only [List.setIfInBounds_toArray]
      try simp only [List.set]
      refine wpAnyH_take (i := 21) (v := undef) rfl (by kernel_rfl) (by kernel_rfl) (by kernel_rfl) (fun _ _ _ h => h) (Or.inr ⟨by kernel_rfl, rfl⟩) hHeld ?_
      try simp only [List.getElem_toArray]
      try simp only [List.getElem_cons_succ]
      try simp only [List.getElem_cons_zero]
      try simp only [Act.put]
      try simp only [List.setIfInBounds_toArray]
      try simp only [List.set]
      refine wpAnyH_take (i := 22) (v := .bool false) rfl (by kernel_rfl) (by kernel_rfl) (by kernel_rfl) (fun _ _ _ h => h) (Or.inl ⟨by kernel_rfl, fun u hSw => by (try dsimp only at hSw); go_simp; try with_reducible rfl⟩) hHeld ?_
      try simp only [List.getElem_toArray]
      try simp only [List.getElem_cons_succ]
      try simp only [List.getElem_cons_zero]
      try simp only [Act.put]
      try simp only [List.setIfInBounds_toArray]
      try simp only [List.set]
      refine wpAnyH_take (i := 23) (v := .bool false) rfl (by kernel_rfl) (by kernel_rfl) (by kernel_rfl) (fun _ _ _ h => h) (Or.inl ⟨by kernel_rfl, fun u hSw => by (try dsimp only at hSw); go_simp; try with_reducible rfl⟩) hHeld ?_
      try simp only [List.getElem_toArray]
      try simp only [List.getElem_cons_succ]
      try simp only [List.getElem_cons_zero]
      try simp only [Act.put]
      try simp only [List.setIfInBounds_toArray]
      try simp only [List.set]
      refine wpAnyH_done (by kernel_rfl) ?_ _
      go_wp2_with fail
      go_meet
      case rel => exact ⟨rfl, gD⟩
    · simp only [Value.agg.injEq, Array.mk.injEq, List.cons.injEq, Value.int.injEq, Value.string.injEq, true_and, and_true] at he
      obtain ⟨rfl, rfl, rfl, rfl, rfl⟩ := he
      clear HD1 HD2 HT
      refine wp_region_held_drew (S := fun V => UAt V ub 5 0 0 0 ⟨#[]⟩) (by kernel_rfl) (uk_keep hU (Below.refl _ _).drew) (fun hHeld => ?_)
      have gD : Below w.heap.size w W.drew := gW.drew
      generalize W.drew = D at hHeld gD ⊢
      clear hU gW
      refine wpAnyH_take (i := 0) (v := .pointer (some ⟨ub, 0, none⟩)) rfl (by kernel_rfl) (by kernel_rfl) (by kernel_rfl) (fun _ _ _ h => h) (Or.inl ⟨by kernel_rfl, fun u hSw => by (try dsimp only at hSw); go_simp; try with_reducible rfl⟩) hHeld ?_
      try simp only [List.getElem_toArray]
      try simp only [List.getElem_cons_succ]
      try simp only [List.getElem_cons_zero]
      try simp only [Act.put]
      try simp only [List.setIfInBounds_toArray]
      try simp only [List.set]
      refine wpAnyH_take (i := 1) (v := .int .i64 5) rfl (by kernel_rfl) (by kernel_rfl) (by kernel_rfl) (fun _ _ _ h => h) (Or.inl ⟨by kernel_rfl, fun u hSw => by obtain ⟨c0, c1, c2, c3, c4⟩ := hSw; go_simp; try with_reducible rfl⟩) hHeld ?_
      try simp only [List.getElem_toArray]
      try simp only [List.getElem_cons_succ]
      try simp only [List.getElem_cons_zero]
      try simp only [Act.put]
      try simp only [List.setIfInBounds_toArray]
      try simp only [List.set]
      refine wpAnyH_take (i := 2) (v := .bool false) rfl (by kernel_rfl) (by kernel_rfl) (by kernel_rfl) (fun _ _ _ h => h) (Or.inl ⟨by kernel_rfl, fun u hSw => by (try dsimp only at hSw); go_simp; try with_reducible rfl⟩) hHeld ?_
      try simp only [List.getElem_toArray]
      try simp only [List.getElem_cons_succ]
      try simp only [List.getElem_cons_zero]
      try simp only [Act.put]
      try simp only [List.setIfInBounds_toArray]
      try simp only [List.set]
      refine wpAnyH_take (i := 3) (v := .bool false) rfl (by kernel_rfl) (by kernel_rfl) (by kernel_rfl) (fun _ _ _ h => h) (Or.inl ⟨by kernel_rfl, fun u hSw => by (try dsimp only at hSw); go_simp; try with_reducible rfl⟩) hHeld ?_
      try simp only [List.getElem_toArray]
      try simp only [List.getElem_cons_succ]
      try simp only [List.getElem_cons_zero]
      try simp only [Act.put]
      try simp only [List.setIfInBounds_toArray]
      try simp only [List.set]
      refine wpAnyH_take (i := 4) (v := undef) rfl (by kernel_rfl) (by kernel_rfl) (by kernel_rfl) (fun _ _ _ h => h) (Or.inr ⟨by kernel_rfl, rfl⟩) hHeld ?_
      try simp only [List.getElem_toArray]
      try simp only [List.getElem_cons_succ]
      try simp only [List.getElem_cons_zero]
      try simp only [Act.put]
      try simp only [List.setIfInBounds_toArray]
      try simp only [List.set]
      refine wpAnyH_take (i := 5) (v := undef) rfl (by kernel_rfl) (by kernel_rfl) (by kernel_rfl) (fun _ _ _ h => h) (Or.inr ⟨by kernel_rfl, rfl⟩) hHeld ?_
      try simp only [List.getElem_toArray]
      try simp only [List.getElem_cons_succ]
      try simp only [List.getElem_cons_zero]
      try simp only [Act.put]
      try simp only [List.setIfInBounds_toArray]
      try simp only [List.set]
      refine wpAnyH_take (i := 6) (v := undef) rfl (by kernel_rfl) (by kernel_rfl) (by kernel_rfl) (fun _ _ _ h => h) (Or.inr ⟨by kernel_rfl, rfl⟩) hHeld ?_
      try simp only [List.getElem_toArray]
      try simp only [List.getElem_cons_succ]
      try simp only [List.getElem_cons_zero]
      try simp only [Act.put]
      try simp only [List.setIfInBounds_toArray]
      try simp only [List.set]
      refine wpAnyH_take (i := 7) (v := undef) rfl (by kernel_rfl) (by kernel_rfl) (by kernel_rfl) (fun _ _ _ h => h) (Or.inr ⟨by kernel_rfl, rfl⟩) hHeld ?_
      try simp only [List.getElem_toArray]
      try simp only [List.getElem_cons_succ]
      try simp only [List.getElem_cons_zero]
      try simp only [Act.put]
      try simp only [List.setIfInBounds_toArray]
      try simp only [List.set]
      refine wpAnyH_take (i := 8) (v := undef) rfl (by kernel_rfl) (by kernel_rfl) (by kernel_rfl) (fun _ _ _ h => h) (Or.inr ⟨by kernel_rfl, rfl⟩) hHeld ?_
      try simp only [List.getElem_toArray]
      try simp only [List.getElem_cons_succ]
      try simp only [List.getElem_cons_zero]
      try simp only [Act.put]
      try simp only [List.setIfInBounds_toArray]
      try simp only [List.set]
      refine wpAnyH_take (i := 9) (v := undef) rfl (by kernel_rfl) (by kernel_rfl) (by kernel_rfl) (fun _ _ _ h => h) (Or.inr ⟨by kernel_rfl, rfl⟩) hHeld ?_
      try simp only [List.getElem_toArray]
      try simp only [List.getElem_cons_succ]
      try simp only [List.getElem_cons_zero]
      try simp only [Act.put]
      try simp only [List.setIfInBounds_toArray]
      try simp only [List.set]
      refine wpAnyH_take (i := 10) (v := .bool false) rfl (by kernel_rfl) (by kernel_rfl) (by kernel_rfl) (fun _ _ _ h => h) (Or.inl ⟨by kernel_rfl, fun u hSw => by (try dsimp only at hSw); go_simp; try with_reducible rfl⟩) hHeld ?_
      try simp only [List.getElem_toArray]
      try simp only [List.getElem_cons_succ]
      try simp only [List.getElem_cons_zero]
      try simp only [Act.put]
      try simp only [List.setIfInBounds_toArray]
      try simp only [List.set]
      refine wpAnyH_take (i := 11) (v := .bool false) rfl (by kernel_rfl) (by kernel_rfl) (by kernel_rfl) (fun _ _ _ h => h) (Or.inl ⟨by kernel_rfl, fun u hSw => by (try dsimp only at hSw); go_simp; try with_reducible rfl⟩) hHeld ?_
      try simp only [List.getElem_toArray]
      try simp only [List.getElem_cons_succ]
      try simp only [List.getElem_cons_zero]
      try simp only [Act.put]
      try simp only [List.setIfInBounds_toArray]
      try simp only [List.set]
      refine wpAnyH_take (i := 12) (v := .pointer (some ⟨ub, 0, none⟩)) rfl (by kernel_rfl) (by kernel_rfl) (by kernel_rfl) (fun _ _ _ h => h) (Or.inl ⟨by kernel_rfl, fun u hSw => by (try dsimp only at hSw); go_simp; try with_reducible rfl⟩) hHeld ?_
      try simp only [List.getElem_toArray]
      try simp only [List.getElem_cons_succ]
      try simp only [List.getElem_cons_zero]
      try simp only [Act.put]
      try simp only [List.setIfInBounds_toArray]
      try simp only [List.set]
      refine wpAnyH_take (i := 13) (v := .int .i64 5) rfl (by kernel_rfl) (by kernel_rfl) (by kernel_rfl) (fun _ _ _ h => h) (Or.inl ⟨by kernel_rfl, fun u hSw => by obtain ⟨c0, c1, c2, c3, c4⟩ := hSw; go_simp; try with_reducible rfl⟩) hHeld ?_
      try simp only [List.getElem_toArray]
      try simp only [List.getElem_cons_succ]
      try simp only [List.getElem_cons_zero]
      try simp only [Act.put]
      try simp only [List.setIfInBounds_toArray]
      try simp only [List.set]
      refine wpAnyH_take (i := 14) (v := .bool true) rfl (by kernel_rfl) (by kernel_rfl) (by kernel_rfl) (fun _ _ _ h => h) (Or.inl ⟨by kernel_rfl, fun u hSw => by (try dsimp only at hSw); go_simp; try with_reducible rfl⟩) hHeld ?_
      try simp only [List.getElem_toArray]
      try simp only [List.getElem_cons_succ]
      try simp only [List.getElem_cons_zero]
      try simp only [Act.put]
      try simp only [List.setIfInBounds_toArray]
      try simp only [List.set]
      refine wpAnyH_take (i := 15) (v := .bool true) rfl (by kernel_rfl) (by kernel_rfl) (by kernel_rfl) (fun _ _ _ h => h) (Or.inl ⟨by kernel_rfl, fun u hSw => by (try dsimp only at hSw); go_simp; try with_reducible rfl⟩) hHeld ?_
      try simp only [List.getElem_toArray]
      try simp only [List.getElem_cons_succ]
      try simp only [List.getElem_cons_zero]
      try simp only [Act.put]
      try simp only [List.setIfInBounds_toArray]
      try simp only [List.set]
      refine wpAnyH_take (i := 16) (v := .string x) rfl (by kernel_rfl) (by kernel_rfl) (by kernel_rfl) (fun _ _ _ h => h) (Or.inl ⟨by kernel_rfl, fun u hSw => by (try dsimp only at hSw); go_simp; try with_reducible rfl⟩) hHeld ?_
      try simp only [List.getElem_toArray]
      try simp only [List.getElem_cons_succ]
      try simp only [List.getElem_cons_zero]
      try simp only [Act.put]
      try simp only [List.setIfInBounds_toArray]
      try simp only [List.set]
      refine wpAnyH_take (i := 19) (v := .pointer (some ⟨ub, 0, none⟩)) rfl (by kernel_rfl) (by kernel_rfl) (by kernel_rfl) (fun _ _ _ h => h) (Or.inl ⟨by kernel_rfl, fun u hSw => by (try dsimp only at hSw); go_simp; try with_reducible rfl⟩) hHeld ?_
      try simp only [List.getElem_toArray]
      try simp only [List.getElem_cons_succ]
      try simp only [List.getElem_cons_zero]
      try simp only [Act.put]
      try simp only [List.setIfInBounds_toArray]
      try simp only [List.set]
      refine wpAnyH_take (i := 20) (v := .int .i64 5) rfl (by kernel_rfl) (by kernel_rfl) (by kernel_rfl) (fun _ _ _ h => h) (Or.inl ⟨by kernel_rfl, fun u hSw => by obtain ⟨c0, c1, c2, c3, c4⟩ := hSw; go_simp; try with_reducible rfl⟩) hHeld ?_
      try simp only [List.getElem_toArray]
      try simp only [List.getElem_cons_succ]
      try simp only [List.getElem_cons_zero]
      try simp only [Act.put]
      try simp only [List.setIfInBounds_toArray]
      try simp only [List.set]
      refine wpAnyH_ready (rs := [17]) (by kernel_rfl) (by simp) ?_
      refine AllReadyH.cons rfl (fun K hK => ?_) AllReadyH.nil
      go_simp
      go_wp2_with (go_at_call 9; refine (HSp.out _).mono ?_; rintro e D1 ⟨rfl, gb⟩)
      refine hK.out _ _ (uk_keep hHeld gb) (fun hHeld => ?_)
      have gD := gD.trans (gb.mono gD.size)
      clear hK K gb
      try simp only [Act.put]
      try simp only [List.setIfInBounds_toArray]
      try simp only [List.set]
      refine wpAnyH_take (i := 18) (v := .int .i64 5) rfl (by kernel_rfl) (by kernel_rfl) (by kernel_rfl) (fun _ _ _ h => h) (Or.inl ⟨by kernel_rfl, fun u hSw => by have hfd := fld28_0 5 0 0 0 ⟨#[]⟩ u; go_simp; try with_reducible rfl⟩) hHeld ?_
      try simp only [List.getElem_toArray]
      try simp only [List.getElem_cons_succ]
      try simp only [List.getElem_cons_zero]
      try simp only [Act.put]
      try simp only [List.setIfInBounds_toArray]
      try simp only [List.set]
      refine wpAnyH_take (i := 21) (v := .bool false) rfl (by kernel_rfl) (by kernel_rfl) (by kernel_rfl) (fun _ _ _ h => h) (Or.inl ⟨by kernel_rfl, fun u hSw => by (try dsimp only at hSw); go_simp; try with_reducible rfl⟩) hHeld ?_
      try simp only [List.getElem_toArray]
      try simp only [List.getElem_cons_succ]
      try simp only [List.getElem_cons_zero]
      try simp only [Act.put]
      try simp only [List.setIfInBounds_toArray]
      try simp only [List.set]
      refine wpAnyH_take (i := 22) (v := .bool false) rfl (by kernel_rfl) (by kernel_rfl) (by kernel_rfl) (fun _ _ _ h => h) (Or.inl ⟨by kernel_rfl, fun u hSw => by (try dsimp only at hSw); go_simp; try with_reducible rfl⟩) hHeld ?_
      try simp only [List.getElem_toArray]
      try simp only [List.getElem_cons_succ]
      try simp only [List.getElem_cons_zero]
      try simp only [Act.put]
      try simp only [List.setIfInBounds_toArray]
      try simp only [List.set]
      refine wpAnyH_take (i := 23) (v := .bool false) rfl (by kernel_rfl) (by kernel_rfl) (by kernel_rfl) (fun _ _ _ h => h) (Or.inl ⟨by kernel_rfl, fun u hSw => by (try dsimp only at hSw); go_simp; try with_reducible rfl⟩) hHeld ?_
      try simp only [List.getElem_toArray]
      try simp only [List.getElem_cons_succ]
      try simp only [List.getElem_cons_zero]
      try simp only [Act.put]
      try simp only [List.setIfInBounds_toArray]
      try simp only [List.set]
      refine wpAnyH_done (by kernel_rfl) ?_ _
      go_wp2_with fail
      go_meet
      case rel => exact ⟨rfl, gD⟩
  case rest =>
    obtain ⟨rfl, gC⟩ := hcut
    clear HW HSp hU gW
    go_wp2_with fail
    refine (HD1.out _ gC).mono ?_
    rintro e w3 ⟨⟨t, k, v, s, t', k', v', s', rfl⟩, g3⟩
    have g4 : Below w.heap.size w w3 := gC.trans (g3.mono gC.size)
    clear g3 gC HD1
    go_upto_region 8 with (fail)
    obtain ⟨p0, p1, p2, p3⟩ : RowAt ((w3.alloc (.cells #[.int .i64 t, .int .i64 k, .int .i64 v, .string s] 26)).alloc (.cells #[.int .i64 t', .int .i64 k', .int .i64 v', .string s'] 26)) w3.heap.size t k v s := ⟨by simp [go_sem], by simp [go_sem], by simp [go_sem], by simp [go_sem]⟩
    obtain ⟨q0, q1, q2, q3⟩ : RowAt ((w3.alloc (.cells #[.int .i64 t, .int .i64 k, .int .i64 v, .string s] 26)).alloc (.cells #[.int .i64 t', .int .i64 k', .int .i64 v', .string s'] 26)) (w3.heap.size + 1) t' k' v' s' := ⟨by simp [go_sem], by simp [go_sem], by simp [go_sem], by simp [go_sem]⟩
    have gE := (g4.alloc g4.size (.cells #[.int .i64 t, .int .i64 k, .int .i64 v, .string s] 26)).alloc (by have := g4.size; simp; omega) (.cells #[.int .i64 t', .int .i64 k', .int .i64 v', .string s'] 26)
    generalize (w3.alloc (.cells #[.int .i64 t, .int .i64 k, .int .i64 v, .string s] 26)).alloc (.cells #[.int .i64 t', .int .i64 k', .int .i64 v', .string s'] 26) = W at p0 p1 p2 p3 q0 q1 q2 q3 gE ⊢
    generalize w3.heap.size + 1 = B at q0 q1 q2 q3 ⊢
    generalize w3.heap.size = A at p0 p1 p2 p3 ⊢
    clear g4
    go_cut [7] from 10 (fun s7 wd => s7 = .bool (t == t' && k == k') ∧ wd = W)
    case first =>
      by_cases h1 : t = t'
      · subst h1
        by_cases h2 : k = k'
        · subst h2
          go_wp2_with fail
          go_meet
          case rel => exact ⟨by simp, rfl⟩
        · have hke : (k == k') = false := by simpa using h2
          go_wp2_with fail
          go_meet
          case rel => exact ⟨by simp [hke], rfl⟩
      · have hte : (t == t') = false := by simpa using h1
        go_wp2_with fail
        go_meet
        case rel => exact ⟨by simp [hte], rfl⟩
    case rest =>
      obtain ⟨hs7, hwd⟩ := hcut
      subst hs7
      rw [hwd]
      clear hwd
      go_upto_region 9 with (fail)
      go_cut [7, 78] from 10 (fun s7 s78 wd => s78 = .bool false ∧ Below w.heap.size w wd)
      case first =>
        have hc : t < t' ∨ t' < t ∨ (t = t' ∧ k < k') ∨ (t = t' ∧ k' < k) ∨ (t = t' ∧ k = k') := by omega
        rcases hc with h | h | ⟨rfl, h⟩ | ⟨rfl, h⟩ | ⟨rfl, rfl⟩
        · have B1 : Hid (befB t k t' k' = true) := by show _ = _; simp [befB] <;> omega
          have B2 : Hid (befB t' k' t k = false) := by show _ = _; simp [befB] <;> omega
          have hte : (t == t') = false := by simp; omega
          go_wp2_with fail
          refine (implIsBefore_any t k v s t' k' v' s' _).mono ?_
          rintro e x0 ⟨rfl, gb⟩
          rw [B1.out]
          obtain ⟨p0, p1, p2, p3⟩ := rs_keep ⟨p0, p1, p2, p3⟩ gb
          obtain ⟨q0, q1, q2, q3⟩ := rs_keep ⟨q0, q1, q2, q3⟩ gb
          have gE := gE.trans (gb.mono gE.size)
          clear gb
          go_wp2_with fail
          refine (implIsBefore_any t' k' v' s' t k v s _).mono ?_
          rintro e x1 ⟨rfl, gb⟩
          rw [B2.out]
          obtain ⟨p0, p1, p2, p3⟩ := rs_keep ⟨p0, p1, p2, p3⟩ gb
          obtain ⟨q0, q1, q2, q3⟩ := rs_keep ⟨q0, q1, q2, q3⟩ gb
          have gE := gE.trans (gb.mono gE.size)
          clear gb
          go_wp2_with fail
          refine (implIsBefore_any t k v s t' k' v' s' _).mono ?_
          rintro e x2 ⟨rfl, gb⟩
          rw [B1.out]
          obtain ⟨p0, p1, p2, p3⟩ := rs_keep ⟨p0, p1, p2, p3⟩ gb
          obtain ⟨q0, q1, q2, q3⟩ := rs_keep ⟨q0, q1, q2, q3⟩ gb
          have gE := gE.trans (gb.mono gE.size)
          clear gb
          go_wp2_with fail
          go_meet
          case rel => exact ⟨rfl, gE⟩
        · have B1 : Hid (befB t k t' k' = false) := by show _ = _; simp [befB] <;> omega
          have B2 : Hid (befB t' k' t k = true) := by show _ = _; simp [befB] <;> omega
          have hte : (t == t') = false := by simp; omega
          go_wp2_with fail
          refine (implIsBefore_any t k v s t' k' v' s' _).mono ?_
          rintro e x0 ⟨rfl, gb⟩
          rw [B1.out]
          obtain ⟨p0, p1, p2, p3⟩ := rs_keep ⟨p0, p1, p2, p3⟩ gb
          obtain ⟨q0, q1, q2, q3⟩ := rs_keep ⟨q0, q1, q2, q3⟩ gb
          have gE := gE.trans (gb.mono gE.size)
          clear gb
          go_wp2_with fail
          refine (implIsBefore_any t k v s t' k' v' s' _).mono ?_
          rintro e x1 ⟨rfl, gb⟩
          rw [B1.out]
          obtain ⟨p0, p1, p2, p3⟩ := rs_keep ⟨p0, p1, p2, p3⟩ gb
          obtain ⟨q0, q1, q2, q3⟩ := rs_keep ⟨q0, q1, q2, q3⟩ gb
          have gE := gE.trans (gb.mono gE.size)
          clear gb
          go_wp2_with fail
          refine (implIsBefore_any t' k' v' s' t k v s _).mono ?_
          rintro e x2 ⟨rfl, gb⟩
          rw [B2.out]
          obtain ⟨p0, p1, p2, p3⟩ := rs_keep ⟨p0, p1, p2, p3⟩ gb
          obtain ⟨q0, q1, q2, q3⟩ := rs_keep ⟨q0, q1, q2, q3⟩ gb
          have gE := gE.trans (gb.mono gE.size)
          clear gb
          go_wp2_with fail
          go_meet
          case rel => exact ⟨rfl, gE⟩
        · have B1 : Hid (befB t k t k' = true) := by show _ = _; simp [befB] <;> omega
          have B2 : Hid (befB t k' t k = false) := by show _ = _; simp [befB] <;> omega
          have hke : (k == k') = false := by simp; omega
          go_wp2_with fail
          refine (implIsBefore_any t k v s t k' v' s' _).mono ?_
          rintro e x0 ⟨rfl, gb⟩
          rw [B1.out]
          obtain ⟨p0, p1, p2, p3⟩ := rs_keep ⟨p0, p1, p2, p3⟩ gb
          obtain ⟨q0, q1, q2, q3⟩ := rs_keep ⟨q0, q1, q2, q3⟩ gb
          have gE := gE.trans (gb.mono gE.size)
          clear gb
          go_wp2_with fail
          refine (implIsBefore_any t k' v' s' t k v s _).mono ?_
          rintro e x1 ⟨rfl, gb⟩
          rw [B2.out]
          obtain ⟨p0, p1, p2, p3⟩ := rs_keep ⟨p0, p1, p2, p3⟩ gb
          obtain ⟨q0, q1, q2, q3⟩ := rs_keep ⟨q0, q1, q2, q3⟩ gb
          have gE := gE.trans (gb.mono gE.size)
          clear gb
          go_wp2_with fail
          refine (implIsBefore_any t k v s t k' v' s' _).mono ?_
          rintro e x2 ⟨rfl, gb⟩
          rw [B1.out]
          obtain ⟨p0, p1, p2, p3⟩ := rs_keep ⟨p0, p1, p2, p3⟩ gb
          obtain ⟨q0, q1, q2, q3⟩ := rs_keep ⟨q0, q1, q2, q3⟩ gb
          have gE := gE.trans (gb.mono gE.size)
          clear gb
          go_wp2_with fail
          go_meet
          case rel => exact ⟨rfl, gE⟩
        · have B1 : Hid (befB t k t k' = false) := by show _ = _; simp [befB] <;> omega
          have B2 : Hid (befB t k' t k = true) := by show _ = _; simp [befB] <;> omega
          have hke : (k == k') = false := by simp; omega
          go_wp2_with fail
          refine (implIsBefore_any t k v s t k' v' s' _).mono ?_
          rintro e x0 ⟨rfl, gb⟩
          rw [B1.out]
          obtain ⟨p0, p1, p2, p3⟩ := rs_keep ⟨p0, p1, p2, p3⟩ gb
          obtain ⟨q0, q1, q2, q3⟩ := rs_keep ⟨q0, q1, q2, q3⟩ gb
          have gE := gE.trans (gb.mono gE.size)
          clear gb
          go_wp2_with fail
          refine (implIsBefore_any t k v s t k' v' s' _).mono ?_
          rintro e x1 ⟨rfl, gb⟩
          rw [B1.out]
          obtain ⟨p0, p1, p2, p3⟩ := rs_keep ⟨p0, p1, p2, p3⟩ gb
          obtain ⟨q0, q1, q2, q3⟩ := rs_keep ⟨q0, q1, q2, q3⟩ gb
          have gE := gE.trans (gb.mono gE.size)
          clear gb
          go_wp2_with fail
          refine (implIsBefore_any t k' v' s' t k v s _).mono ?_
          rintro e x2 ⟨rfl, gb⟩
          rw [B2.out]
          obtain ⟨p0, p1, p2, p3⟩ := rs_keep ⟨p0, p1, p2, p3⟩ gb
          obtain ⟨q0, q1, q2, q3⟩ := rs_keep ⟨q0, q1, q2, q3⟩ gb
          have gE := gE.trans (gb.mono gE.size)
          clear gb
          go_wp2_with fail
          go_meet
          case rel => exact ⟨rfl, gE⟩
        · have B1 : Hid (befB t k t k = false) := by show _ = _; simp [befB] <;> omega
          have B2 : Hid (befB t k t k = false) := by show _ = _; simp [befB] <;> omega
          go_wp2_with fail
          refine (implIsBefore_any t k v s t k v' s' _).mono ?_
          rintro e x0 ⟨rfl, gb⟩
          rw [B1.out]
          obtain ⟨p0, p1, p2, p3⟩ := rs_keep ⟨p0, p1, p2, p3⟩ gb
          obtain ⟨q0, q1, q2, q3⟩ := rs_keep ⟨q0, q1, q2, q3⟩ gb
          have gE := gE.trans (gb.mono gE.size)
          clear gb
          go_wp2_with fail
          refine (implIsBefore_any t k v s t k v' s' _).mono ?_
          rintro e x1 ⟨rfl, gb⟩
          rw [B1.out]
          obtain ⟨p0, p1, p2, p3⟩ := rs_keep ⟨p0, p1, p2, p3⟩ gb
          obtain ⟨q0, q1, q2, q3⟩ := rs_keep ⟨q0, q1, q2, q3⟩ gb
          have gE := gE.trans (gb.mono gE.size)
          clear gb
          go_wp2_with fail
          refine (implIsBefore_any t k v' s' t k v s _).mono ?_
          rintro e x2 ⟨rfl, gb⟩
          rw [B2.out]
          obtain ⟨p0, p1, p2, p3⟩ := rs_keep ⟨p0, p1, p2, p3⟩ gb
          obtain ⟨q0, q1, q2, q3⟩ := rs_keep ⟨q0, q1, q2, q3⟩ gb
          have gE := gE.trans (gb.mono gE.size)
          clear gb
          go_wp2_with fail
          go_meet
          case rel => exact ⟨rfl, gE⟩
      case rest =>
        obtain ⟨rfl, gC⟩ := hcut
        clear gE p0 p1 p2 p3 q0 q1 q2 q3
        go_wp2_with fail
        refine (HD2.out _ gC).mono ?_
        rintro e w5 ⟨⟨t, k, v, s, rfl, hs9⟩, g3⟩
        have g5 : Below w.heap.size w w5 := gC.trans (g3.mono gC.size)
        clear g3 gC HD2
        go_wp2_with fail
        have hR : RowAt (w5.alloc (.cells #[.int .i64 t, .int .i64 k, .int .i64 v, .string s] 26)) w5.heap.size t k v s := ⟨by simp [go_sem], by simp [go_sem], by simp [go_sem], by simp [go_sem]⟩
        have gR := g5.alloc g5.size (.cells #[.int .i64 t, .int .i64 k, .int .i64 v, .string s] 26)
        generalize w5.alloc (.cells #[.int .i64 t, .int .i64 k, .int .i64 v, .string s] 26) = X at hR gR ⊢
        generalize w5.heap.size = R at hR ⊢
        clear g5
        have hmx : s.size ≤ maxLen := by unfold maxLen; omega
        by_cases hf : faultI t k v s = 0
        · obtain ⟨⟨t0, t1⟩, ⟨k0, k1⟩, ⟨v0, v1⟩, h8, _⟩ := fault_zero hf
          obtain ⟨tn, rfl⟩ : ∃ q : Nat, t = q := ⟨t.toNat, by omega⟩
          obtain ⟨kn, rfl⟩ : ∃ q : Nat, k = q := ⟨k.toNat, by omega⟩
          obtain ⟨vn, rfl⟩ : ∃ q : Nat, v = q := ⟨v.toNat, by omega⟩
          have hpp := print_parse tn kn vn s hf
          obtain ⟨z0, z1⟩ := rowS_size tn kn vn s (by omega) (by omega) (by omega) h8
          refine (implRowText_good tn kn vn s _ h8 hf (by omega) (by omega) (by omega) (HT.out _ gR)).mono ?_
          generalize rowS tn kn vn s = x at hpp z0 z1
          have hP := fun W : World => implParseRow_of scanSaid x W (by omega)
          rw [hpp] at hP
          have HP : Hid (∀ W : World, Calls Tryd.prog 7 #[.string x] W fun e w' => e = .returned (.agg #[.int .i64 0, .int .i64 tn, .int .i64 kn, .int .i64 vn, .string s]) ∧ Below W.heap.size W w') := hP
          have hne : x.toList.isEmpty = false := by
            cases hb : x.toList.isEmpty
            · rfl
            · have := empty_L hb
              have hl := L_size x
              rw [this] at hl
              simp at hl
              omega
          clear hP hpp hf t0 k0 v0
          rintro e w6 ⟨rfl, gb⟩
          have hR := rs_keep hR gb
          have g6 := gR.trans (gb.mono gR.size)
          clear gb gR
          go_upto_region 15 with (fail)
          have hU : RowAt (w6.alloc (.cells #[.int .i64 0, .string x] 31)) R tn kn vn s ∧ (w6.alloc (.cells #[.int .i64 0, .string x] 31)).cell? ⟨w6.heap.size, 0, none⟩ = some (.int .i64 0) ∧ (w6.alloc (.cells #[.int .i64 0, .string x] 31)).cell? ⟨w6.heap.size, 1, none⟩ = some (.string x) := ⟨rs_keep hR (by go_grown), by simp [go_sem], by simp [go_sem]⟩
          have gW := g6.alloc g6.size (.cells #[.int .i64 0, .string x] 31)
          generalize w6.alloc (.cells #[.int .i64 0, .string x] 31) = W at hU gW ⊢
          generalize w6.heap.size = T at hU ⊢
          clear hR g6
          refine wp_region_held_drew (S := fun V => RowAt V R tn kn vn s ∧ V.cell? ⟨T, 0, none⟩ = some (.int .i64 0) ∧ V.cell? ⟨T, 1, none⟩ = some (.string x)) (by kernel_rfl) (rt2_keep hU (Below.refl _ _).drew) (fun hHeld => ?_)
          have gD : Below w.heap.size w W.drew := gW.drew
          generalize W.drew = D at hHeld gD ⊢
          clear hU gW
          refine wpAnyH_take (i := 0) (v := .pointer (some ⟨T, 1, none⟩)) rfl (by kernel_rfl) (by kernel_rfl) (by kernel_rfl) (fun _ _ _ h => h) (Or.inl ⟨by kernel_rfl, fun u hSw => by (try dsimp only at hSw); go_simp; try with_reducible rfl⟩) hHeld ?_
          try simp only [List.getElem_toArray]
          try simp only [List.getElem_cons_succ]
          try simp only [List.getElem_cons_zero]
          try simp only [Act.put]
          try simp only [List.setIfInBounds_toArray]
          try simp only [List.set]
          refine wpAnyH_take (i := 1) (v := .string x) rfl (by kernel_rfl) (by kernel_rfl) (by kernel_rfl) (fun _ _ _ h => h) (Or.inl ⟨by kernel_rfl, fun u hSw => by obtain ⟨⟨p0, p1, p2, p3⟩, c0, c1⟩ := hSw; go_simp; try with_reducible rfl⟩) hHeld ?_
          try simp only [List.getElem_toArray]
          try simp only [List.getElem_cons_succ]
          try simp only [List.getElem_cons_zero]
          try simp only [Act.put]
          try simp only [List.setIfInBounds_toArray]
          try simp only [List.set]
          refine wpAnyH_take (i := 4) (v := .agg #[.int .i64 (tn : Nat), .int .i64 (kn : Nat), .int .i64 (vn : Nat), .string s]) rfl (by kernel_rfl) (by kernel_rfl) (by kernel_rfl) (fun _ _ _ h => h) (Or.inl ⟨by kernel_rfl, fun u hSw => by obtain ⟨⟨p0, p1, p2, p3⟩, c0, c1⟩ := hSw; go_simp; try with_reducible rfl⟩) hHeld ?_
          try simp only [List.getElem_toArray]
          try simp only [List.getElem_cons_succ]
          try simp only [List.getElem_cons_zero]
          try simp only [Act.put]
          try simp only [List.setIfInBounds_toArray]
          try simp only [List.set]
          refine wpAnyH_ready (rs := [2]) (by kernel_rfl) (by simp) ?_
          refine AllReadyH.cons rfl (fun K hK => ?_) AllReadyH.nil
          go_simp
          go_wp2_with (go_at_call 7; refine (HP.out _).mono ?_; rintro e D1 ⟨rfl, gb⟩)
          refine hK.out _ _ (rt2_keep hHeld gb) (fun hHeld => ?_)
          have gD := gD.trans (gb.mono gD.size)
          clear hK K gb
          try simp only [Act.put]
          try simp only [List.setIfInBounds_toArray]
          try simp only [List.set]
          refine wpAnyH_take (i := 3) (v := .agg #[.int .i64 (tn : Nat), .int .i64 (kn : Nat), .int .i64 (vn : Nat), .string s]) rfl (by kernel_rfl) (by kernel_rfl) (by kernel_rfl) (fun _ _ _ h => h) (Or.inl ⟨by kernel_rfl, fun u hSw => by have hfd := fld28_1 0 tn kn vn s u; go_simp; try with_reducible rfl⟩) hHeld ?_
          try simp only [List.getElem_toArray]
          try simp only [List.getElem_cons_succ]
          try simp only [List.getElem_cons_zero]
          try simp only [Act.put]
          try simp only [List.setIfInBounds_toArray]
          try simp only [List.set]
          refine wpAnyH_take (i := 5) (v := .bool true) rfl (by kernel_rfl) (by kernel_rfl) (by kernel_rfl) (fun _ _ _ h => h) (Or.inl ⟨by kernel_rfl, fun u hSw => by (try dsimp only at hSw); go_simp; try with_reducible rfl⟩) hHeld ?_
          try simp only [List.getElem_toArray]
          try simp only [List.getElem_cons_succ]
          try simp only [List.getElem_cons_zero]
          try simp only [Act.put]
          try simp only [List.setIfInBounds_toArray]
          try simp only [List.set]
          refine wpAnyH_take (i := 6) (v := .bool true) rfl (by kernel_rfl) (by kernel_rfl) (by kernel_rfl) (fun _ _ _ h => h) (Or.inl ⟨by kernel_rfl, fun u hSw => by (try dsimp only at hSw); go_simp; try with_reducible rfl⟩) hHeld ?_
          try simp only [List.getElem_toArray]
          try simp only [List.getElem_cons_succ]
          try simp only [List.getElem_cons_zero]
          try simp only [Act.put]
          try simp only [List.setIfInBounds_toArray]
          try simp only [List.set]
          refine wpAnyH_take (i := 7) (v := .pointer (some ⟨T, 1, none⟩)) rfl (by kernel_rfl) (by kernel_rfl) (by kernel_rfl) (fun _ _ _ h => h) (Or.inl ⟨by kernel_rfl, fun u hSw => by (try dsimp only at hSw); go_simp; try with_reducible rfl⟩) hHeld ?_
          try simp only [List.getElem_toArray]
          try simp only [List.getElem_cons_succ]
          try simp only [List.getElem_cons_zero]
          try simp only [Act.put]
          try simp only [List.setIfInBounds_toArray]
          try simp only [List.set]
          refine wpAnyH_take (i := 8) (v := .string x) rfl (by kernel_rfl) (by kernel_rfl) (by kernel_rfl) (fun _ _ _ h => h) (Or.inl ⟨by kernel_rfl, fun u hSw => by obtain ⟨⟨p0, p1, p2, p3⟩, c0, c1⟩ := hSw; go_simp; try with_reducible rfl⟩) hHeld ?_
          try simp only [List.getElem_toArray]
          try simp only [List.getElem_cons_succ]
          try simp only [List.getElem_cons_zero]
          try simp only [Act.put]
          try simp only [List.setIfInBounds_toArray]
          try simp only [List.set]
          refine wpAnyH_ready (rs := [9]) (by kernel_rfl) (by simp) ?_
          refine AllReadyH.cons rfl (fun K hK => ?_) AllReadyH.nil
          go_simp
          go_wp2_with (go_at_call 7; refine (HP.out _).mono ?_; rintro e D2 ⟨rfl, gb⟩)
          refine hK.out _ _ (rt2_keep hHeld gb) (fun hHeld => ?_)
          have gD := gD.trans (gb.mono gD.size)
          clear hK K gb
          try simp only [Act.put]
          try simp only [List.setIfInBounds_toArray]
          try simp only [List.set]
          refine wpAnyH_take (i := 10) (v := .int .i64 0) rfl (by kernel_rfl) (by kernel_rfl) (by kernel_rfl) (fun _ _ _ h => h) (Or.inl ⟨by kernel_rfl, fun u hSw => by have hfd := fld28_0 0 tn kn vn s u; go_simp; try with_reducible rfl⟩) hHeld ?_
          try simp only [List.getElem_toArray]
          try simp only [List.getElem_cons_succ]
          try simp only [List.getElem_cons_zero]
          try simp only [Act.put]
          try simp only [List.setIfInBounds_toArray]
          try simp only [List.set]
          refine wpAnyH_take (i := 11) (v := .bool true) rfl (by kernel_rfl) (by kernel_rfl) (by kernel_rfl) (fun _ _ _ h => h) (Or.inl ⟨by kernel_rfl, fun u hSw => by (try dsimp only at hSw); go_simp; try with_reducible rfl⟩) hHeld ?_
          try simp only [List.getElem_toArray]
          try simp only [List.getElem_cons_succ]
          try simp only [List.getElem_cons_zero]
          try simp only [Act.put]
          try simp only [List.setIfInBounds_toArray]
          try simp only [List.set]
          refine wpAnyH_take (i := 12) (v := .bool true) rfl (by kernel_rfl) (by kernel_rfl) (by kernel_rfl) (fun _ _ _ h => h) (Or.inl ⟨by kernel_rfl, fun u hSw => by (try dsimp only at hSw); go_simp; try with_reducible rfl⟩) hHeld ?_
          try simp only [List.getElem_toArray]
          try simp only [List.getElem_cons_succ]
          try simp only [List.getElem_cons_zero]
          try simp only [Act.put]
          try simp only [List.setIfInBounds_toArray]
          try simp only [List.set]
          refine wpAnyH_take (i := 13) (v := .bool true) rfl (by kernel_rfl) (by kernel_rfl) (by kernel_rfl) (fun _ _ _ h => h) (Or.inl ⟨by kernel_rfl, fun u hSw => by (try dsimp only at hSw); go_simp; try with_reducible rfl⟩) hHeld ?_
          try simp only [List.getElem_toArray]
          try simp only [List.getElem_cons_succ]
          try simp only [List.getElem_cons_zero]
          try simp only [Act.put]
          try simp only [List.setIfInBounds_toArray]
          try simp only [List.set]
          refine wpAnyH_take (i := 14) (v := .pointer (some ⟨T, 1, none⟩)) rfl (by kernel_rfl) (by kernel_rfl) (by kernel_rfl) (fun _ _ _ h => h) (Or.inl ⟨by kernel_rfl, fun u hSw => by (try dsimp only at hSw); go_simp; try with_reducible rfl⟩) hHeld ?_
          try simp only [List.getElem_toArray]
          try simp only [List.getElem_cons_succ]
          try simp only [List.getElem_cons_zero]
          try simp only [Act.put]
          try simp only [List.setIfInBounds_toArray]
          try simp only [List.set]
          refine wpAnyH_take (i := 15) (v := .string x) rfl (by kernel_rfl) (by kernel_rfl) (by kernel_rfl) (fun _ _ _ h => h) (Or.inl ⟨by kernel_rfl, fun u hSw => by obtain ⟨⟨p0, p1, p2, p3⟩, c0, c1⟩ := hSw; go_simp; try with_reducible rfl⟩) hHeld ?_
          try simp only [List.getElem_toArray]
          try simp only [List.getElem_cons_succ]
          try simp only [List.getElem_cons_zero]
          try simp only [Act.put]
          try simp only [List.setIfInBounds_toArray]
          try simp only [List.set]
          refine wpAnyH_take (i := 16) (v := .bool true) rfl (by kernel_rfl) (by kernel_rfl) (by kernel_rfl) (fun _ _ _ h => h) (Or.inl ⟨by kernel_rfl, fun u hSw => by (try dsimp only at hSw); go_simp; try with_reducible rfl⟩) hHeld ?_
          try simp only [List.getElem_toArray]
          try simp only [List.getElem_cons_succ]
          try simp only [List.getElem_cons_zero]
          try simp only [Act.put]
          try simp only [List.setIfInBounds_toArray]
          try simp only [List.set]
          refine wpAnyH_take (i := 17) (v := .bool true) rfl (by kernel_rfl) (by kernel_rfl) (by kernel_rfl) (fun _ _ _ h => h) (Or.inl ⟨by kernel_rfl, fun u hSw => by (try dsimp only at hSw); go_simp; try with_reducible rfl⟩) hHeld ?_
          try simp only [List.getElem_toArray]
          try simp only [List.getElem_cons_succ]
          try simp only [List.getElem_cons_zero]
          try simp only [Act.put]
          try simp only [List.setIfInBounds_toArray]
          try simp only [List.set]
          refine wpAnyH_take (i := 18) (v := .bool true) rfl (by kernel_rfl) (by kernel_rfl) (by kernel_rfl) (fun _ _ _ h => h) (Or.inl ⟨by kernel_rfl, fun u hSw => by (try dsimp only at hSw); go_simp; try with_reducible rfl⟩) hHeld ?_
          try simp only [List.getElem_toArray]
          try simp only [List.getElem_cons_succ]
          try simp only [List.getElem_cons_zero]
          try simp only [Act.put]
          try simp only [List.setIfInBounds_toArray]
          try simp only [List.set]
          refine wpAnyH_done (by kernel_rfl) ?_ _
          go_wp2_with fail
          go_ret
          exact ⟨rfl, gD⟩
        · have hS := fun W : World => specRowText_bad t k v s W hmx hf
          have hF := fun W : World => implRowFault_any t k v s W hmx
          refine (implRowText_bad t k v s _ hmx hf).mono ?_
          generalize faultI t k v s = f at hf hS hF
          have HS : Hid (∀ W : World, Calls Tryd.prog 13 #[.agg #[.int .i64 t, .int .i64 k, .int .i64 v, .string s]] W fun e w' => e = .returned (.agg #[.int .i64 f, .string ⟨#[]⟩]) ∧ Below W.heap.size W w') := hS
          have HF : Hid (∀ W : World, Calls Tryd.prog 14 #[.agg #[.int .i64 t, .int .i64 k, .int .i64 v, .string s]] W fun e w' => e = .returned (.int .i64 f) ∧ Below W.heap.size W w') := hF
          have hq : (f != 0) = true := by simpa using hf
          clear hS hF hf
          rintro e w6 ⟨rfl, gb⟩
          have hR := rs_keep hR gb
          have g6 := gR.trans (gb.mono gR.size)
          clear gb gR
          go_upto_region 14 with (fail)
          have hU : RowAt (w6.alloc (.cells #[.int .i64 f, .string ⟨#[]⟩] 31)) R t k v s ∧ (w6.alloc (.cells #[.int .i64 f, .string ⟨#[]⟩] 31)).cell? ⟨w6.heap.size, 0, none⟩ = some (.int .i64 f) ∧ (w6.alloc (.cells #[.int .i64 f, .string ⟨#[]⟩] 31)).cell? ⟨w6.heap.size, 1, none⟩ = some (.string ⟨#[]⟩) := ⟨rs_keep hR (by go_grown), by simp [go_sem], by simp [go_sem]⟩
          have gW := g6.alloc g6.size (.cells #[.int .i64 f, .string ⟨#[]⟩] 31)
          generalize w6.alloc (.cells #[.int .i64 f, .string ⟨#[]⟩] 31) = W at hU gW ⊢
          generalize w6.heap.size = T at hU ⊢
          clear hR g6
          refine wp_region_held_drew (S := fun V => RowAt V R t k v s ∧ V.cell? ⟨T, 0, none⟩ = some (.int .i64 f) ∧ V.cell? ⟨T, 1, none⟩ = some (.string ⟨#[]⟩)) (by kernel_rfl) (rt2_keep hU (Below.refl _ _).drew) (fun hHeld => ?_)
          have gD : Below w.heap.size w W.drew := gW.drew
          generalize W.drew = D at hHeld gD ⊢
          clear hU gW
          refine wpAnyH_take (i := 0) (v := .agg #[.int .i64 t, .int .i64 k, .int .i64 v, .string s]) rfl (by kernel_rfl) (by kernel_rfl) (by kernel_rfl) (fun _ _ _ h => h) (Or.inl ⟨by kernel_rfl, fun u hSw => by obtain ⟨⟨p0, p1, p2, p3⟩, c0, c1⟩ := hSw; go_simp; try with_reducible rfl⟩) hHeld ?_
          try simp only [List.getElem_toArray]
          try simp only [List.getElem_cons_succ]
          try simp only [List.getElem_cons_zero]
          try simp only [Act.put]
          try simp only [List.setIfInBounds_toArray]
          try simp only [List.set]
          refine wpAnyH_take (i := 3) (v := .pointer (some ⟨T, 0, none⟩)) rfl (by kernel_rfl) (by kernel_rfl) (by kernel_rfl) (fun _ _ _ h => h) (Or.inl ⟨by kernel_rfl, fun u hSw => by (try dsimp only at hSw); go_simp; try with_reducible rfl⟩) hHeld ?_
          try simp only [List.getElem_toArray]
          try simp only [List.getElem_cons_succ]
          try simp only [List.getElem_cons_zero]
          try simp only [Act.put]
          try simp only [List.setIfInBounds_toArray]
          try simp only [List.set]
          refine wpAnyH_take (i := 4) (v := .int .i64 f) rfl (by kernel_rfl) (by kernel_rfl) (by kernel_rfl) (fun _ _ _ h => h) (Or.inl ⟨by kernel_rfl, fun u hSw => by obtain ⟨⟨p0, p1, p2, p3⟩, c0, c1⟩ := hSw; go_simp; try with_reducible rfl⟩) hHeld ?_
          try simp only [List.getElem_toArray]
          try simp only [List.getElem_cons_succ]
          try simp only [List.getElem_cons_zero]
          try simp only [Act.put]
          try simp only [List.setIfInBounds_toArray]
          try simp only [List.set]
          refine wpAnyH_ready (rs := [1]) (by kernel_rfl) (by simp) ?_
          refine AllReadyH.cons rfl (fun K hK => ?_) AllReadyH.nil
          go_simp
          go_wp2_with (go_at_call 13; refine (HS.out _).mono ?_; rintro e D1 ⟨rfl, gb⟩)
          refine hK.out _ _ (rt2_keep hHeld gb) (fun hHeld => ?_)
          have gD := gD.trans (gb.mono gD.size)
          clear hK K gb
          try simp only [Act.put]
          try simp only [List.setIfInBounds_toArray]
          try simp only [List.set]
          refine wpAnyH_take (i := 2) (v := .int .i64 f) rfl (by kernel_rfl) (by kernel_rfl) (by kernel_rfl) (fun _ _ _ h => h) (Or.inl ⟨by kernel_rfl, fun u hSw => by have hfd := fld31_0 f ⟨#[]⟩ u; go_simp; try with_reducible rfl⟩) hHeld ?_
          try simp only [List.getElem_toArray]
          try simp only [List.getElem_cons_succ]
          try simp only [List.getElem_cons_zero]
          try simp only [Act.put]
          try simp only [List.setIfInBounds_toArray]
          try simp only [List.set]
          refine wpAnyH_take (i := 5) (v := .bool true) rfl (by kernel_rfl) (by kernel_rfl) (by kernel_rfl) (fun _ _ _ h => h) (Or.inl ⟨by kernel_rfl, fun u hSw => by (try dsimp only at hSw); go_simp; try with_reducible rfl⟩) hHeld ?_
          try simp only [List.getElem_toArray]
          try simp only [List.getElem_cons_succ]
          try simp only [List.getElem_cons_zero]
          try simp only [Act.put]
          try simp only [List.setIfInBounds_toArray]
          try simp only [List.set]
          refine wpAnyH_take (i := 6) (v := .bool true) rfl (by kernel_rfl) (by kernel_rfl) (by kernel_rfl) (fun _ _ _ h => h) (Or.inl ⟨by kernel_rfl, fun u hSw => by (try dsimp only at hSw); go_simp; try with_reducible rfl⟩) hHeld ?_
          try simp only [List.getElem_toArray]
          try simp only [List.getElem_cons_succ]
          try simp only [List.getElem_cons_zero]
          try simp only [Act.put]
          try simp only [List.setIfInBounds_toArray]
          try simp only [List.set]
          refine wpAnyH_take (i := 7) (v := .agg #[.int .i64 t, .int .i64 k, .int .i64 v, .string s]) rfl (by kernel_rfl) (by kernel_rfl) (by kernel_rfl) (fun _ _ _ h => h) (Or.inl ⟨by kernel_rfl, fun u hSw => by obtain ⟨⟨p0, p1, p2, p3⟩, c0, c1⟩ := hSw; go_simp; try with_reducible rfl⟩) hHeld ?_
          try simp only [List.getElem_toArray]
          try simp only [List.getElem_cons_succ]
          try simp only [List.getElem_cons_zero]
          try simp only [Act.put]
          try simp only [List.setIfInBounds_toArray]
          try simp only [List.set]
          refine wpAnyH_take (i := 9) (v := .pointer (some ⟨T, 0, none⟩)) rfl (by kernel_rfl) (by kernel_rfl) (by kernel_rfl) (fun _ _ _ h => h) (Or.inl ⟨by kernel_rfl, fun u hSw => by (try dsimp only at hSw); go_simp; try with_reducible rfl⟩) hHeld ?_
          try simp only [List.getElem_toArray]
          try simp only [List.getElem_cons_succ]
          try simp only [List.getElem_cons_zero]
          try simp only [Act.put]
          try simp only [List.setIfInBounds_toArray]
          try simp only [List.set]
          refine wpAnyH_take (i := 10) (v := .int .i64 f) rfl (by kernel_rfl) (by kernel_rfl) (by kernel_rfl) (fun _ _ _ h => h) (Or.inl ⟨by kernel_rfl, fun u hSw => by obtain ⟨⟨p0, p1, p2, p3⟩, c0, c1⟩ := hSw; go_simp; try with_reducible rfl⟩) hHeld ?_
          try simp only [List.getElem_toArray]
          try simp only [List.getElem_cons_succ]
          try simp only [List.getElem_cons_zero]
          try simp only [Act.put]
          try simp only [List.setIfInBounds_toArray]
          try simp only [List.set]
          refine wpAnyH_ready (rs := [8]) (by kernel_rfl) (by simp) ?_
          refine AllReadyH.cons rfl (fun K hK => ?_) AllReadyH.nil
          go_simp
          go_wp2_with (go_at_call 14; refine (HF.out _).mono ?_; rintro e D2 ⟨rfl, gb⟩)
          refine hK.out _ _ (rt2_keep hHeld gb) (fun hHeld => ?_)
          have gD := gD.trans (gb.mono gD.size)
          clear hK K gb
          try simp only [Act.put]
          try simp only [List.setIfInBounds_toArray]
          try simp only [List.set]
          refine wpAnyH_take (i := 11) (v := .bool true) rfl (by kernel_rfl) (by kernel_rfl) (by kernel_rfl) (fun _ _ _ h => h) (Or.inl ⟨by kernel_rfl, fun u hSw => by (try dsimp only at hSw); go_simp; try with_reducible rfl⟩) hHeld ?_
          try simp only [List.getElem_toArray]
          try simp only [List.getElem_cons_succ]
          try simp only [List.getElem_cons_zero]
          try simp only [Act.put]
          try simp only [List.setIfInBounds_toArray]
          try simp only [List.set]
          refine wpAnyH_take (i := 12) (v := .bool true) rfl (by kernel_rfl) (by kernel_rfl) (by kernel_rfl) (fun _ _ _ h => h) (Or.inl ⟨by kernel_rfl, fun u hSw => by (try dsimp only at hSw); go_simp; try with_reducible rfl⟩) hHeld ?_
          try simp only [List.getElem_toArray]
          try simp only [List.getElem_cons_succ]
          try simp only [List.getElem_cons_zero]
          try simp only [Act.put]
          try simp only [List.setIfInBounds_toArray]
          try simp only [List.set]
          refine wpAnyH_take (i := 13) (v := .bool true) rfl (by kernel_rfl) (by kernel_rfl) (by kernel_rfl) (fun _ _ _ h => h) (Or.inl ⟨by kernel_rfl, fun u hSw => by (try dsimp only at hSw); go_simp; try with_reducible rfl⟩) hHeld ?_
          try simp only [List.getElem_toArray]
          try simp only [List.getElem_cons_succ]
          try simp only [List.getElem_cons_zero]
          try simp only [Act.put]
          try simp only [List.setIfInBounds_toArray]
          try simp only [List.set]
          refine wpAnyH_done (by kernel_rfl) ?_ _
          go_wp2_with fail
          go_ret
          exact ⟨rfl, gD⟩


end Go.Proofs.YtfokolanjjiicaaDoor
