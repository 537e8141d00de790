/-
  The program's take: a change folded into a fold.
-/
import Derived.Test.YtmbllmhpnopbdaaFFFck

namespace Go.Proofs.Ytmbllmhpnopbdaa
open Go.RowKit Go.Maps
set_option linter.unusedVariables false
set_option maxRecDepth 20000

/-- What take keeps. -/
structure TkS (n₀ : Nat) (w : World) (cb kb fb mb : Nat) (tx : Int) (c : Chg) (kt kk : Int) (V : World) : Prop where
  c : ChC V cb 0 c
  k : V.cell? ⟨kb, 0, none⟩ = some (.int .i64 kt) ∧ V.cell? ⟨kb, 1, none⟩ = some (.int .i64 kk)
  fo : FoC V fb mb tx
  g : Below n₀ w V
section
variable {n₀ : Nat} {w V V' : World} {cb kb fb mb : Nat} {tx : Int} {c : Chg} {kt kk : Int}
theorem TkS.lt (h : TkS n₀ w cb kb fb mb tx c kt kk V) : kb < V.heap.size := World.block_lt_of_cell? V _ h.k.1
theorem TkS.up (h : TkS n₀ w cb kb fb mb tx c kt kk V) (hb : Below V.heap.size V V') (hn : n₀ ≤ w.heap.size := by assumption) : TkS n₀ w cb kb fb mb tx c kt kk V' :=
  ⟨h.c.below hb h.c.lt, ⟨(hb.cell h.lt).trans h.k.1, (hb.cell (p := ⟨kb, 1, none⟩) h.lt).trans h.k.2⟩, h.fo.below hb, h.g.trans (hb.mono (Nat.le_trans hn h.g.size))⟩
theorem TkS.turn (h : TkS n₀ w cb kb fb mb tx c kt kk V) (ht : V.mapTurned V' mb) (hn : n₀ ≤ mb) (hl : mb < V.heap.size) : TkS n₀ w cb kb fb mb tx c kt kk V' :=
  ⟨h.c.turn ht, ⟨cell_turn ht h.k.1, cell_turn ht h.k.2⟩, h.fo.turn ht, h.g.trans (turned_below ht hn hl)⟩
theorem TkS.turned (h : TkS n₀ w cb kb fb mb tx c kt kk V) {ab : Nat} (ht : Turned ab (ab + 1) V V') (hn : n₀ ≤ w.heap.size) (hw : n₀ ≤ ab) (h1 : ab ≠ cb) (h2 : ab ≠ kb) (h3 : ab ≠ fb) : TkS n₀ w cb kb fb mb tx c kt kk V' :=
  ⟨h.c.turned ht (by omega), ⟨ht.cell (p := ⟨kb, 0, none⟩) h.k.1 (by show kb < ab ∨ ab + 1 ≤ kb; omega), ht.cell (p := ⟨kb, 1, none⟩) h.k.2 (by show kb < ab ∨ ab + 1 ≤ kb; omega)⟩, ⟨ht.cell (p := ⟨fb, 0, none⟩) h.fo.c0 (by show fb < ab ∨ ab + 1 ≤ fb; omega), ht.cell (p := ⟨fb, 1, none⟩) h.fo.c1 (by show fb < ab ∨ ab + 1 ≤ fb; omega)⟩, h.g.trans (ht.toBelow (Nat.le_trans hn h.g.size) hw)⟩
end

/-- What take hands back. -/
def TkPost (R : Option (Int → Int → Option Chg)) (n₀ fb mb : Nat) (tx : Int) (sz : Nat) (w : World) (e : Ending) (w' : World) : Prop := match R with
  | none => e = .returned (.int .i64 8) ∧ Below n₀ w w'
  | some f => e = .returned (.int .i64 0) ∧ Below n₀ w w' ∧ FoC w' fb mb tx ∧ ∃ sz', sz' ≤ sz + 1 ∧ MapF 65 w' mb (fKV f) sz'
theorem updC_updC (f : Int → Int → Option Chg) (x y : Int) (o o' : Option Chg) : updC (updC f x y o) x y o' = updC f x y o' := by
  funext a b
  unfold updC
  split <;> rfl

set_option maxHeartbeats 16000000 in
theorem foldTake_any (n₀ fb mb sz : Nat) (tx : Int) (f : Int → Int → Option Chg) (c0 : Bool) (ct ck cv : Int) (cst : ByteArray) (c5 : Bool) (dt dk dv : Int) (dst : ByteArray) (w : World) (hF : FoC w fb mb tx) (hM : MapF 65 w mb (fKV f) sz) (hsz : sz ≤ 60) (hk : Kw (kT (⟨c0, ⟨ct, ck, cv, cst⟩, c5, ⟨dt, dk, dv, dst⟩⟩ : Chg)) (kK (⟨c0, ⟨ct, ck, cv, cst⟩, c5, ⟨dt, dk, dv, dst⟩⟩ : Chg))) (hn : n₀ ≤ mb) (hw : n₀ ≤ w.heap.size) :
    Calls Try.prog 22 #[.pointer (some ⟨fb, 0, none⟩), .agg #[.bool c0, .int .i64 ct, .int .i64 ck, .int .i64 cv, .string cst, .bool c5, .int .i64 dt, .int .i64 dk, .int .i64 dv, .string dst]] w fun e w' => TkPost (stepF f (⟨c0, ⟨ct, ck, cv, cst⟩, c5, ⟨dt, dk, dv, dst⟩⟩ : Chg)) n₀ fb mb tx sz w e w' := by
  have HFo : Hid (FoC w fb mb tx) := hF
  have HM : Hid (MapF 65 w mb (fKV f) sz) := hM
  have HCk : Hid (∀ V, Calls Try.prog 37 #[.agg #[.bool c0, .int .i64 ct, .int .i64 ck, .int .i64 cv, .string cst, .bool c5, .int .i64 dt, .int .i64 dk, .int .i64 dv, .string dst]] V fun e w' => e = .returned (.agg #[.int .i64 (kT (⟨c0, ⟨ct, ck, cv, cst⟩, c5, ⟨dt, dk, dv, dst⟩⟩ : Chg)), .int .i64 (kK (⟨c0, ⟨ct, ck, cv, cst⟩, c5, ⟨dt, dk, dv, dst⟩⟩ : Chg))]) ∧ Below V.heap.size V w') := fun V => changedKey_any (⟨c0, ⟨ct, ck, cv, cst⟩, c5, ⟨dt, dk, dv, dst⟩⟩ : Chg) V
  obtain ⟨R, hR⟩ : ∃ R, stepF f (⟨c0, ⟨ct, ck, cv, cst⟩, c5, ⟨dt, dk, dv, dst⟩⟩ : Chg) = R := ⟨_, rfl⟩
  have HR : Hid ((match f (kT (⟨c0, ⟨ct, ck, cv, cst⟩, c5, ⟨dt, dk, dv, dst⟩⟩ : Chg)) (kK (⟨c0, ⟨ct, ck, cv, cst⟩, c5, ⟨dt, dk, dv, dst⟩⟩ : Chg)) with | none => some (updC f (kT (⟨c0, ⟨ct, ck, cv, cst⟩, c5, ⟨dt, dk, dv, dst⟩⟩ : Chg)) (kK (⟨c0, ⟨ct, ck, cv, cst⟩, c5, ⟨dt, dk, dv, dst⟩⟩ : Chg)) (some (⟨c0, ⟨ct, ck, cv, cst⟩, c5, ⟨dt, dk, dv, dst⟩⟩ : Chg))) | some x => if onB x (⟨c0, ⟨ct, ck, cv, cst⟩, c5, ⟨dt, dk, dv, dst⟩⟩ : Chg) = true then some (updC f (kT (⟨c0, ⟨ct, ck, cv, cst⟩, c5, ⟨dt, dk, dv, dst⟩⟩ : Chg)) (kK (⟨c0, ⟨ct, ck, cv, cst⟩, c5, ⟨dt, dk, dv, dst⟩⟩ : Chg)) (if nthB (joinC x (⟨c0, ⟨ct, ck, cv, cst⟩, c5, ⟨dt, dk, dv, dst⟩⟩ : Chg)) = true then none else some (joinC x (⟨c0, ⟨ct, ck, cv, cst⟩, c5, ⟨dt, dk, dv, dst⟩⟩ : Chg)))) else none) = R) := hR
  rw [hR]
  have hKw : Hid (Kw (kT (⟨c0, ⟨ct, ck, cv, cst⟩, c5, ⟨dt, dk, dv, dst⟩⟩ : Chg)) (kK (⟨c0, ⟨ct, ck, cv, cst⟩, c5, ⟨dt, dk, dv, dst⟩⟩ : Chg))) := hk
  clear hF hM hk hR
  generalize kT (⟨c0, ⟨ct, ck, cv, cst⟩, c5, ⟨dt, dk, dv, dst⟩⟩ : Chg) = kt at HCk HR hKw
  generalize kK (⟨c0, ⟨ct, ck, cv, cst⟩, c5, ⟨dt, dk, dv, dst⟩⟩ : Chg) = kk at HCk HR hKw
  have hlt0 := HM.out.lt
  have hfl0 := HFo.out.lt
  cases hf : f kt kk with
  | none =>
    have HR : Hid (R = some (updC f kt kk (some (⟨c0, ⟨ct, ck, cv, cst⟩, c5, ⟨dt, dk, dv, dst⟩⟩ : Chg)))) := by show _ = _; rw [← HR.out, hf]
    have HV : Hid (fKV f kt kk = none) := by show _ = _; unfold fKV; rw [hf]; rfl
    clear hf
    go_enter Try.func22, Try.ntmps22
    go_upto_region 1 with (fail)
    generalize hX : World.alloc _ _ = X
    have gX : Below w.heap.size w X := by rw [← hX]; go_grown
    have hC : ChC X w.heap.size 0 (⟨c0, ⟨ct, ck, cv, cst⟩, c5, ⟨dt, dk, dv, dst⟩⟩ : Chg) := by rw [← hX]; exact ⟨by simp [go_sem], by simp [go_sem], by simp [go_sem], by simp [go_sem], by simp [go_sem], by simp [go_sem], by simp [go_sem], by simp [go_sem], by simp [go_sem], by simp [go_sem]⟩
    have hFo := HFo.out.below gX
    have hM := HM.out.below gX
    have g : Below n₀ w X := gX.mono hw
    clear hX gX
    generalize w.heap.size = cb at hC ⊢
    have hln := hM.len Try.underlying77 3
    have hsz6 : ¬ ((60 : Int) < (sz : Int)) := by omega
    obtain ⟨fo0, fo1⟩ := hFo
    have hfl : fb < X.heap.size := World.block_lt_of_cell? _ _ fo0
    obtain ⟨z0, z1, z2, z3, z4, z5, z6, z7, z8, z9⟩ := hC
    dsimp only at z0 z1 z2 z3 z4 z5 z6 z7 z8 z9
    go_upto_region 3 with (fail)
    have hck := HCk.out X
    go_wp2_with fail
    refine hck.mono ?_
    rintro e W1 ⟨rfl, g1⟩
    clear hck
    have hC : ChC W1 cb 0 (⟨c0, ⟨ct, ck, cv, cst⟩, c5, ⟨dt, dk, dv, dst⟩⟩ : Chg) := ChC.below (w := X) ⟨z0, z1, z2, z3, z4, z5, z6, z7, z8, z9⟩ g1 (World.block_lt_of_cell? _ _ z0)
    have hFo : FoC W1 fb mb tx := FoC.below (W := X) ⟨fo0, fo1⟩ g1
    have hM := hM.below g1
    have g := g.trans (g1.mono (Nat.le_trans hw g.size))
    clear z0 z1 z2 z3 z4 z5 z6 z7 z8 z9 fo0 fo1 g1 hfl hln
    go_upto_region 4 with (fail)
    generalize hY : World.alloc _ _ = Y
    have gY : Below W1.heap.size W1 Y := by rw [← hY]; go_grown
    have hKc : Y.cell? ⟨W1.heap.size, 0, none⟩ = some (.int .i64 kt) ∧ Y.cell? ⟨W1.heap.size, 1, none⟩ = some (.int .i64 kk) := by rw [← hY]; exact ⟨by simp [go_sem], by simp [go_sem]⟩
    have hS : TkS n₀ w cb W1.heap.size fb mb tx (⟨c0, ⟨ct, ck, cv, cst⟩, c5, ⟨dt, dk, dv, dst⟩⟩ : Chg) kt kk Y := ⟨hC.below gY hC.lt, hKc, hFo.below gY, g.trans (gY.mono (Nat.le_trans hw g.size))⟩
    have hM := hM.below gY
    have hcl : cb < Y.heap.size := (hC.below gY hC.lt).lt
    clear hY gY hKc hC hFo g
    generalize W1.heap.size = kb at hS ⊢
    have HL : Hid (∀ V, Below Y.heap.size Y V → (Instr.lookup 77 (.map (some mb)) (.agg #[.int .i64 kt, .int .i64 kk]) true).run Try.prog V = .ok (.tuple #[.agg #[.bool false, .int .i64 0, .int .i64 0, .int .i64 0, .string ⟨#[]⟩, .bool false, .int .i64 0, .int .i64 0, .int .i64 0, .string ⟨#[]⟩], .bool false]) V) := fun V hV => by
      have hl := (hM.below hV).look_ok keyT73 Try.underlying77 (Try.zeroValue28 V) hKw.out
      rw [HV.out] at hl
      exact hl
    refine wp_region_held_drew (S := fun V => (TkS n₀ w cb kb fb mb tx (⟨c0, ⟨ct, ck, cv, cst⟩, c5, ⟨dt, dk, dv, dst⟩⟩ : Chg) kt kk) V ∧ Below Y.heap.size Y V) (by kernel_rfl) ⟨hS.up (Below.refl _ _).drew, (Below.refl _ _).drew⟩ (fun hHeld => ?_)
    have hM := hM.below (Below.refl _ Y).drew
    have hDs : Y.heap.size ≤ Y.drew.heap.size := Nat.le_refl _
    clear hS
    generalize Y.drew = D at hHeld hM hDs ⊢
    refine wpAnyH_take (i := 0) (v := ?v1) rfl (by kernel_rfl) (by kernel_rfl) (by kernel_rfl) (fun _ _ _ h => h) (Or.inl ⟨by kernel_rfl, ?h1⟩) hHeld ?_
    case h1 => intro u hSw; clear hSw; go_simp; try with_reducible rfl
    try simp only [List.getElem_toArray]
    try simp only [List.getElem_cons_succ]
    try simp only [List.getElem_cons_zero]
    try simp only [Act.put]
    try simp only [List.setIfInBounds_toArray]
    try simp only [List.set]
    refine wpAnyH_take (i := 1) (v := ?v2) rfl (by kernel_rfl) (by kernel_rfl) (by kernel_rfl) (fun _ _ _ h => h) (Or.inl ⟨by kernel_rfl, ?h2⟩) hHeld ?_
    case h2 => intro u hSw; clear hSw; go_simp; try with_reducible rfl
    try simp only [List.getElem_toArray]
    try simp only [List.getElem_cons_succ]
    try simp only [List.getElem_cons_zero]
    try simp only [Act.put]
    try simp only [List.setIfInBounds_toArray]
    try simp only [List.set]
    refine wpAnyH_take (i := 2) (v := ?v3) rfl (by kernel_rfl) (by kernel_rfl) (by kernel_rfl) (fun _ _ _ h => h) (Or.inl ⟨by kernel_rfl, ?h3⟩) hHeld ?_
    case h3 => intro u hSw; clear hSw; go_simp; try with_reducible rfl
    try simp only [List.getElem_toArray]
    try simp only [List.getElem_cons_succ]
    try simp only [List.getElem_cons_zero]
    try simp only [Act.put]
    try simp only [List.setIfInBounds_toArray]
    try simp only [List.set]
    refine wpAnyH_take (i := 3) (v := ?v4) rfl (by kernel_rfl) (by kernel_rfl) (by kernel_rfl) (fun _ _ _ h => h) (Or.inl ⟨by kernel_rfl, ?h4⟩) hHeld ?_
    case h4 => intro u hSw; (obtain ⟨fo0, fo1⟩ := hSw.1.fo); clear hSw; go_simp; try with_reducible rfl
    try simp only [List.getElem_toArray]
    try simp only [List.getElem_cons_succ]
    try simp only [List.getElem_cons_zero]
    try simp only [Act.put]
    try simp only [List.setIfInBounds_toArray]
    try simp only [List.set]
    refine wpAnyH_take (i := 4) (v := ?v5) rfl (by kernel_rfl) (by kernel_rfl) (by kernel_rfl) (fun _ _ _ h => h) (Or.inl ⟨by kernel_rfl, ?h5⟩) hHeld ?_
    case h5 => intro u hSw; (obtain ⟨q0, q1⟩ := hSw.1.k); clear hSw; go_simp; try with_reducible rfl
    try simp only [List.getElem_toArray]
    try simp only [List.getElem_cons_succ]
    try simp only [List.getElem_cons_zero]
    try simp only [Act.put]
    try simp only [List.setIfInBounds_toArray]
    try simp only [List.set]
    refine wpAnyH_take (i := 5) (v := ?v6) rfl (by kernel_rfl) (by kernel_rfl) (by kernel_rfl) (fun _ _ _ h => h) (Or.inl ⟨by kernel_rfl, ?h6⟩) hHeld ?_
    case h6 => intro u hSw; (have hl := HL.out u hSw.2); clear hSw; go_simp; try with_reducible rfl
    try simp only [List.getElem_toArray]
    try simp only [List.getElem_cons_succ]
    try simp only [List.getElem_cons_zero]
    try simp only [Act.put]
    try simp only [List.setIfInBounds_toArray]
    try simp only [List.set]
    refine wpAnyH_take (i := 6) (v := ?v7) rfl (by kernel_rfl) (by kernel_rfl) (by kernel_rfl) (fun _ _ _ h => h) (Or.inl ⟨by kernel_rfl, ?h7⟩) hHeld ?_
    case h7 => intro u hSw; clear hSw; go_simp; try with_reducible rfl
    try simp only [List.getElem_toArray]
    try simp only [List.getElem_cons_succ]
    try simp only [List.getElem_cons_zero]
    try simp only [Act.put]
    try simp only [List.setIfInBounds_toArray]
    try simp only [List.set]
    refine wpAnyH_take (i := 7) (v := ?v8) rfl (by kernel_rfl) (by kernel_rfl) (by kernel_rfl) (fun _ _ _ h => h) (Or.inl ⟨by kernel_rfl, ?h8⟩) hHeld ?_
    case h8 => intro u hSw; clear hSw; go_simp; try with_reducible rfl
    try simp only [List.getElem_toArray]
    try simp only [List.getElem_cons_succ]
    try simp only [List.getElem_cons_zero]
    try simp only [Act.put]
    try simp only [List.setIfInBounds_toArray]
    try simp only [List.set]
    refine wpAnyH_take (i := 8) (v := ?v9) rfl (by kernel_rfl) (by kernel_rfl) (by kernel_rfl) (fun _ _ _ h => h) (Or.inl ⟨by kernel_rfl, ?h9⟩) hHeld ?_
    case h9 => intro u hSw; clear hSw; go_simp; try with_reducible rfl
    try simp only [List.getElem_toArray]
    try simp only [List.getElem_cons_succ]
    try simp only [List.getElem_cons_zero]
    try simp only [Act.put]
    try simp only [List.setIfInBounds_toArray]
    try simp only [List.set]
    have gA : Below D.heap.size D (D.alloc (.cells #[.bool false, .int .i64 0, .int .i64 0, .int .i64 0, .string ⟨#[]⟩, .bool false, .int .i64 0, .int .i64 0, .int .i64 0, .string ⟨#[]⟩] 28)) := by go_grown
    have hA : ∀ k, (D.alloc (.cells #[.bool false, .int .i64 0, .int .i64 0, .int .i64 0, .string ⟨#[]⟩, .bool false, .int .i64 0, .int .i64 0, .int .i64 0, .string ⟨#[]⟩] 28)).frozen? ⟨D.heap.size, k, none⟩ = false := fun k => by simp [go_sem]
    have hZ : ChC (D.alloc (.cells #[.bool false, .int .i64 0, .int .i64 0, .int .i64 0, .string ⟨#[]⟩, .bool false, .int .i64 0, .int .i64 0, .int .i64 0, .string ⟨#[]⟩] 28)) D.heap.size 0 ⟨false, ⟨0, 0, 0, ⟨#[]⟩⟩, false, ⟨0, 0, 0, ⟨#[]⟩⟩⟩ := ⟨by simp [go_sem], by simp [go_sem], by simp [go_sem], by simp [go_sem], by simp [go_sem], by simp [go_sem], by simp [go_sem], by simp [go_sem], by simp [go_sem], by simp [go_sem]⟩
    have hmab : mb ≠ D.heap.size := by have := hM.lt; omega
    have hM := hM.below gA
    have hab : D.heap.size ≠ cb ∧ D.heap.size ≠ kb ∧ D.heap.size ≠ fb ∧ n₀ ≤ D.heap.size ∧ Y.heap.size ≤ D.heap.size := ⟨fun e => by have := hHeld.1.c.lt; omega, fun e => by have := hHeld.1.lt; omega, fun e => by have := hHeld.1.fo.lt; omega, Nat.le_trans hw hHeld.1.g.size, hDs⟩
    refine wpAnyH_ready (rs := [9]) (by kernel_rfl) (by simp) ?_
    refine AllReadyH.cons rfl (fun K hK => ?_) AllReadyH.nil
    go_simp
    refine hK.out _ _ ⟨hHeld.1.up gA, hHeld.2.trans (gA.mono hDs)⟩ (fun hHeld => ?_)
    clear hK K gA hDs
    generalize D.alloc (.cells #[.bool false, .int .i64 0, .int .i64 0, .int .i64 0, .string ⟨#[]⟩, .bool false, .int .i64 0, .int .i64 0, .int .i64 0, .string ⟨#[]⟩] 28) = A at hHeld hM hA hZ ⊢
    generalize D.heap.size = ab at hA hZ hab hmab ⊢
    try simp only [Act.put]
    try simp only [List.setIfInBounds_toArray]
    try simp only [List.set]
    obtain ⟨B, hB⟩ : ∃ B, ((((((((((A.setCell ⟨ab, 0, none⟩ (.bool false)).setCell ⟨ab, 1, none⟩ (.int .i64 0)).setCell ⟨ab, 2, none⟩ (.int .i64 0)).setCell ⟨ab, 3, none⟩ (.int .i64 0)).setCell ⟨ab, 4, none⟩ (.string ⟨#[]⟩)).setCell ⟨ab, 5, none⟩ (.bool false)).setCell ⟨ab, 6, none⟩ (.int .i64 0)).setCell ⟨ab, 7, none⟩ (.int .i64 0)).setCell ⟨ab, 8, none⟩ (.int .i64 0)).setCell ⟨ab, 9, none⟩ (.string ⟨#[]⟩)) = B := ⟨_, rfl⟩
    have tB : Turned ab (ab + 1) A B := by rw [← hB]; exact (((((((((((Turned.refl _ _ A).setCell (p := ⟨ab, 0, none⟩) (Nat.le_refl _) (Nat.lt_succ_self _) _).setCell (p := ⟨ab, 1, none⟩) (Nat.le_refl _) (Nat.lt_succ_self _) _).setCell (p := ⟨ab, 2, none⟩) (Nat.le_refl _) (Nat.lt_succ_self _) _).setCell (p := ⟨ab, 3, none⟩) (Nat.le_refl _) (Nat.lt_succ_self _) _).setCell (p := ⟨ab, 4, none⟩) (Nat.le_refl _) (Nat.lt_succ_self _) _).setCell (p := ⟨ab, 5, none⟩) (Nat.le_refl _) (Nat.lt_succ_self _) _).setCell (p := ⟨ab, 6, none⟩) (Nat.le_refl _) (Nat.lt_succ_self _) _).setCell (p := ⟨ab, 7, none⟩) (Nat.le_refl _) (Nat.lt_succ_self _) _).setCell (p := ⟨ab, 8, none⟩) (Nat.le_refl _) (Nat.lt_succ_self _) _).setCell (p := ⟨ab, 9, none⟩) (Nat.le_refl _) (Nat.lt_succ_self _) _)
    have hfB : ∀ k, B.frozen? ⟨ab, k, none⟩ = false := fun k => by rw [← hB]; simp only [World.frozen?_setCell]; exact hA k
    have hx : ChC B ab 0 ⟨false, ⟨0, 0, 0, ⟨#[]⟩⟩, false, ⟨0, 0, 0, ⟨#[]⟩⟩⟩ := by
      rw [← hB]
      clear hB tB hfB
      obtain ⟨z0, z1, z2, z3, z4, z5, z6, z7, z8, z9⟩ := hZ
      dsimp only at z0 z1 z2 z3 z4 z5 z6 z7 z8 z9
      simp only [Nat.zero_add] at z0 z1 z2 z3 z4 z5 z6 z7 z8 z9
      exact ⟨by simp [go_sem, *], by simp [go_sem, *], by simp [go_sem, *], by simp [go_sem, *], by simp [go_sem, *], by simp [go_sem, *], by simp [go_sem, *], by simp [go_sem, *], by simp [go_sem, *], by simp [go_sem, *]⟩
    have hM := hM.kept (row := some ab) ⟨tB.os, tB.tape, tB.output, tB.size, fun k hk hne => tB.block k hk (fun e => hne (by rw [show k = ab by omega]))⟩ (fun e => by injection e with e; omega)
    have f0 := hA 0
    have f1 := hA 1
    have f2 := hA 2
    have f3 := hA 3
    have f4 := hA 4
    have f5 := hA 5
    have f6 := hA 6
    have f7 := hA 7
    have f8 := hA 8
    have f9 := hA 9
    obtain ⟨z0, z1, z2, z3, z4, z5, z6, z7, z8, z9⟩ := hZ
    dsimp only at z0 z1 z2 z3 z4 z5 z6 z7 z8 z9
    simp only [Nat.zero_add] at z0 z1 z2 z3 z4 z5 z6 z7 z8 z9
    refine wpAnyH_ready (rs := [10]) (by kernel_rfl) (by simp) ?_
    refine AllReadyH.cons rfl (fun K hK => ?_) AllReadyH.nil
    go_simp
    try rw [hB]
    refine hK.out _ _ ⟨hHeld.1.turned tB hw hab.2.2.2.1 hab.1 hab.2.1 hab.2.2.1, hHeld.2.trans (tB.toBelow (Nat.le_of_lt (Nat.lt_of_le_of_lt hab.2.2.2.2 (World.block_lt_of_cell? A _ z0))) hab.2.2.2.2)⟩ (fun hHeld => ?_)
    clear hK K z0 z1 z2 z3 z4 z5 z6 z7 z8 z9 f0 f1 f2 f3 f4 f5 f6 f7 f8 f9 hB tB hA
    try simp only [Act.put]
    try simp only [List.setIfInBounds_toArray]
    try simp only [List.set]
    refine wpAnyH_take (i := 11) (v := ?v10) rfl (by kernel_rfl) (by kernel_rfl) (by kernel_rfl) (fun _ _ _ h => h) (Or.inl ⟨by kernel_rfl, ?h10⟩) hHeld ?_
    case h10 => intro u hSw; clear hSw; go_simp; try with_reducible rfl
    try simp only [List.getElem_toArray]
    try simp only [List.getElem_cons_succ]
    try simp only [List.getElem_cons_zero]
    try simp only [Act.put]
    try simp only [List.setIfInBounds_toArray]
    try simp only [List.set]
    refine wpAnyH_done (by kernel_rfl) ?_ _
    have hS := hHeld.1
    clear hHeld HL
    clear hx hfB hab
    go_upto_region 6 with (fail)
    refine wp_region_held_drew (S := (TkS n₀ w cb kb fb mb tx (⟨c0, ⟨ct, ck, cv, cst⟩, c5, ⟨dt, dk, dv, dst⟩⟩ : Chg) kt kk)) (by kernel_rfl) (hS.up (Below.refl _ _).drew) (fun hHeld => ?_)
    have hM := hM.below (Below.refl _ B).drew
    clear hS
    generalize B.drew = D6 at hHeld hM ⊢
    refine wpAnyH_take (i := 0) (v := ?v11) rfl (by kernel_rfl) (by kernel_rfl) (by kernel_rfl) (fun _ _ _ h => h) (Or.inl ⟨by kernel_rfl, ?h11⟩) hHeld ?_
    case h11 => intro u hSw; clear hSw; go_simp; try with_reducible rfl
    try simp only [List.getElem_toArray]
    try simp only [List.getElem_cons_succ]
    try simp only [List.getElem_cons_zero]
    try simp only [Act.put]
    try simp only [List.setIfInBounds_toArray]
    try simp only [List.set]
    refine wpAnyH_take (i := 1) (v := ?v12) rfl (by kernel_rfl) (by kernel_rfl) (by kernel_rfl) (fun _ _ _ h => h) (Or.inl ⟨by kernel_rfl, ?h12⟩) hHeld ?_
    case h12 => intro u hSw; clear hSw; go_simp; try with_reducible rfl
    try simp only [List.getElem_toArray]
    try simp only [List.getElem_cons_succ]
    try simp only [List.getElem_cons_zero]
    try simp only [Act.put]
    try simp only [List.setIfInBounds_toArray]
    try simp only [List.set]
    refine wpAnyH_take (i := 2) (v := ?v13) rfl (by kernel_rfl) (by kernel_rfl) (by kernel_rfl) (fun _ _ _ h => h) (Or.inl ⟨by kernel_rfl, ?h13⟩) hHeld ?_
    case h13 => intro u hSw; clear hSw; go_simp; try with_reducible rfl
    try simp only [List.getElem_toArray]
    try simp only [List.getElem_cons_succ]
    try simp only [List.getElem_cons_zero]
    try simp only [Act.put]
    try simp only [List.setIfInBounds_toArray]
    try simp only [List.set]
    refine wpAnyH_take (i := 3) (v := ?v14) rfl (by kernel_rfl) (by kernel_rfl) (by kernel_rfl) (fun _ _ _ h => h) (Or.inl ⟨by kernel_rfl, ?h14⟩) hHeld ?_
    case h14 => intro u hSw; (obtain ⟨fo0, fo1⟩ := hSw.fo); clear hSw; go_simp; try with_reducible rfl
    try simp only [List.getElem_toArray]
    try simp only [List.getElem_cons_succ]
    try simp only [List.getElem_cons_zero]
    try simp only [Act.put]
    try simp only [List.setIfInBounds_toArray]
    try simp only [List.set]
    refine wpAnyH_take (i := 4) (v := ?v15) rfl (by kernel_rfl) (by kernel_rfl) (by kernel_rfl) (fun _ _ _ h => h) (Or.inl ⟨by kernel_rfl, ?h15⟩) hHeld ?_
    case h15 => intro u hSw; (obtain ⟨q0, q1⟩ := hSw.k); clear hSw; go_simp; try with_reducible rfl
    try simp only [List.getElem_toArray]
    try simp only [List.getElem_cons_succ]
    try simp only [List.getElem_cons_zero]
    try simp only [Act.put]
    try simp only [List.setIfInBounds_toArray]
    try simp only [List.set]
    refine wpAnyH_take (i := 5) (v := ?v16) rfl (by kernel_rfl) (by kernel_rfl) (by kernel_rfl) (fun _ _ _ h => h) (Or.inl ⟨by kernel_rfl, ?h16⟩) hHeld ?_
    case h16 => intro u hSw; (obtain ⟨z0, z1, z2, z3, z4, z5, z6, z7, z8, z9⟩ := hSw.c); dsimp only at z0 z1 z2 z3 z4 z5 z6 z7 z8 z9; clear hSw; go_simp; try with_reducible rfl
    try simp only [List.getElem_toArray]
    try simp only [List.getElem_cons_succ]
    try simp only [List.getElem_cons_zero]
    try simp only [Act.put]
    try simp only [List.setIfInBounds_toArray]
    try simp only [List.set]
    obtain ⟨W8, e8, m8, t8⟩ := hM.store keyT73 Try.underlying77 hKw.out (.agg #[.bool c0, .int .i64 ct, .int .i64 ck, .int .i64 cv, .string cst, .bool c5, .int .i64 dt, .int .i64 dk, .int .i64 dv, .string dst]) (by omega)
    simp only [kv] at e8
    have hlt1 := hM.lt
    refine wpAnyH_ready (rs := [6]) (by kernel_rfl) (by simp) ?_
    refine AllReadyH.cons rfl (fun K hK => ?_) AllReadyH.nil
    go_simp
    refine hK.out _ _ (hHeld.turn t8 hn hlt1) (fun hHeld => ?_)
    clear hK K e8
    try simp only [Act.put]
    try simp only [List.setIfInBounds_toArray]
    try simp only [List.set]
    refine wpAnyH_done (by kernel_rfl) ?_ _
    have g := hHeld.g
    have hFo := hHeld.fo
    have hsz8 : nSz (fKV f kt kk) sz ≤ sz + 1 := nSz_le _ _
    have m8 : MapF 65 W8 mb (fKV (updC f kt kk (some (⟨c0, ⟨ct, ck, cv, cst⟩, c5, ⟨dt, dk, dv, dst⟩⟩ : Chg)))) (nSz (fKV f kt kk) sz) := by rw [← fKV_upd]; exact m8
    have HFin : Hid (TkPost R n₀ fb mb tx sz w (.returned (.int .i64 0)) W8) := by show TkPost _ _ _ _ _ _ _ _ _; rw [HR.out]; exact ⟨rfl, g, hFo, _, hsz8, m8⟩
    clear hHeld hM m8 t8 g hFo
    go_wp2_with fail
    go_ret
    exact HFin.out
  | some x =>
    have HR : Hid (R = if onB x (⟨c0, ⟨ct, ck, cv, cst⟩, c5, ⟨dt, dk, dv, dst⟩⟩ : Chg) = true then some (updC f kt kk (if nthB (joinC x (⟨c0, ⟨ct, ck, cv, cst⟩, c5, ⟨dt, dk, dv, dst⟩⟩ : Chg)) = true then none else some (joinC x (⟨c0, ⟨ct, ck, cv, cst⟩, c5, ⟨dt, dk, dv, dst⟩⟩ : Chg)))) else none) := by show _ = _; rw [← HR.out, hf]
    obtain ⟨x0, ⟨xt, xk, xv, xst⟩, x5, ⟨yt, yk, yv, yst⟩⟩ := x
    have HV : Hid (fKV f kt kk = some (.agg #[.bool x0, .int .i64 xt, .int .i64 xk, .int .i64 xv, .string xst, .bool x5, .int .i64 yt, .int .i64 yk, .int .i64 yv, .string yst])) := by show _ = _; unfold fKV; rw [hf]; rfl
    clear hf
    go_enter Try.func22, Try.ntmps22
    go_upto_region 1 with (fail)
    generalize hX : World.alloc _ _ = X
    have gX : Below w.heap.size w X := by rw [← hX]; go_grown
    have hC : ChC X w.heap.size 0 (⟨c0, ⟨ct, ck, cv, cst⟩, c5, ⟨dt, dk, dv, dst⟩⟩ : Chg) := by rw [← hX]; exact ⟨by simp [go_sem], by simp [go_sem], by simp [go_sem], by simp [go_sem], by simp [go_sem], by simp [go_sem], by simp [go_sem], by simp [go_sem], by simp [go_sem], by simp [go_sem]⟩
    have hFo := HFo.out.below gX
    have hM := HM.out.below gX
    have g : Below n₀ w X := gX.mono hw
    clear hX gX
    generalize w.heap.size = cb at hC ⊢
    have hln := hM.len Try.underlying77 3
    have hsz6 : ¬ ((60 : Int) < (sz : Int)) := by omega
    obtain ⟨fo0, fo1⟩ := hFo
    have hfl : fb < X.heap.size := World.block_lt_of_cell? _ _ fo0
    obtain ⟨z0, z1, z2, z3, z4, z5, z6, z7, z8, z9⟩ := hC
    dsimp only at z0 z1 z2 z3 z4 z5 z6 z7 z8 z9
    go_upto_region 3 with (fail)
    have hck := HCk.out X
    go_wp2_with fail
    refine hck.mono ?_
    rintro e W1 ⟨rfl, g1⟩
    clear hck
    have hC : ChC W1 cb 0 (⟨c0, ⟨ct, ck, cv, cst⟩, c5, ⟨dt, dk, dv, dst⟩⟩ : Chg) := ChC.below (w := X) ⟨z0, z1, z2, z3, z4, z5, z6, z7, z8, z9⟩ g1 (World.block_lt_of_cell? _ _ z0)
    have hFo : FoC W1 fb mb tx := FoC.below (W := X) ⟨fo0, fo1⟩ g1
    have hM := hM.below g1
    have g := g.trans (g1.mono (Nat.le_trans hw g.size))
    clear z0 z1 z2 z3 z4 z5 z6 z7 z8 z9 fo0 fo1 g1 hfl hln
    go_upto_region 4 with (fail)
    generalize hY : World.alloc _ _ = Y
    have gY : Below W1.heap.size W1 Y := by rw [← hY]; go_grown
    have hKc : Y.cell? ⟨W1.heap.size, 0, none⟩ = some (.int .i64 kt) ∧ Y.cell? ⟨W1.heap.size, 1, none⟩ = some (.int .i64 kk) := by rw [← hY]; exact ⟨by simp [go_sem], by simp [go_sem]⟩
    have hS : TkS n₀ w cb W1.heap.size fb mb tx (⟨c0, ⟨ct, ck, cv, cst⟩, c5, ⟨dt, dk, dv, dst⟩⟩ : Chg) kt kk Y := ⟨hC.below gY hC.lt, hKc, hFo.below gY, g.trans (gY.mono (Nat.le_trans hw g.size))⟩
    have hM := hM.below gY
    have hcl : cb < Y.heap.size := (hC.below gY hC.lt).lt
    clear hY gY hKc hC hFo g
    generalize W1.heap.size = kb at hS ⊢
    have HL : Hid (∀ V, Below Y.heap.size Y V → (Instr.lookup 77 (.map (some mb)) (.agg #[.int .i64 kt, .int .i64 kk]) true).run Try.prog V = .ok (.tuple #[.agg #[.bool x0, .int .i64 xt, .int .i64 xk, .int .i64 xv, .string xst, .bool x5, .int .i64 yt, .int .i64 yk, .int .i64 yv, .string yst], .bool true]) V) := fun V hV => by
      have hl := (hM.below hV).look_ok keyT73 Try.underlying77 (Try.zeroValue28 V) hKw.out
      rw [HV.out] at hl
      exact hl
    refine wp_region_held_drew (S := fun V => (TkS n₀ w cb kb fb mb tx (⟨c0, ⟨ct, ck, cv, cst⟩, c5, ⟨dt, dk, dv, dst⟩⟩ : Chg) kt kk) V ∧ Below Y.heap.size Y V) (by kernel_rfl) ⟨hS.up (Below.refl _ _).drew, (Below.refl _ _).drew⟩ (fun hHeld => ?_)
    have hM := hM.below (Below.refl _ Y).drew
    have hDs : Y.heap.size ≤ Y.drew.heap.size := Nat.le_refl _
    clear hS
    generalize Y.drew = D at hHeld hM hDs ⊢
    refine wpAnyH_take (i := 0) (v := ?v17) rfl (by kernel_rfl) (by kernel_rfl) (by kernel_rfl) (fun _ _ _ h => h) (Or.inl ⟨by kernel_rfl, ?h17⟩) hHeld ?_
    case h17 => intro u hSw; clear hSw; go_simp; try with_reducible rfl
    try simp only [List.getElem_toArray]
    try simp only [List.getElem_cons_succ]
    try simp only [List.getElem_cons_zero]
    try simp only [Act.put]
    try simp only [List.setIfInBounds_toArray]
    try simp only [List.set]
    refine wpAnyH_take (i := 1) (v := ?v18) rfl (by kernel_rfl) (by kernel_rfl) (by kernel_rfl) (fun _ _ _ h => h) (Or.inl ⟨by kernel_rfl, ?h18⟩) hHeld ?_
    case h18 => intro u hSw; clear hSw; go_simp; try with_reducible rfl
    try simp only [List.getElem_toArray]
    try simp only [List.getElem_cons_succ]
    try simp only [List.getElem_cons_zero]
    try simp only [Act.put]
    try simp only [List.setIfInBounds_toArray]
    try simp only [List.set]
    refine wpAnyH_take (i := 2) (v := ?v19) rfl (by kernel_rfl) (by kernel_rfl) (by kernel_rfl) (fun _ _ _ h => h) (Or.inl ⟨by kernel_rfl, ?h19⟩) hHeld ?_
    case h19 => intro u hSw; clear hSw; go_simp; try with_reducible rfl
    try simp only [List.getElem_toArray]
    try simp only [List.getElem_cons_succ]
    try simp only [List.getElem_cons_zero]
    try simp only [Act.put]
    try simp only [List.setIfInBounds_toArray]
    try simp only [List.set]
    refine wpAnyH_take (i := 3) (v := ?v20) rfl (by kernel_rfl) (by kernel_rfl) (by kernel_rfl) (fun _ _ _ h => h) (Or.inl ⟨by kernel_rfl, ?h20⟩) hHeld ?_
    case h20 => intro u hSw; (obtain ⟨fo0, fo1⟩ := hSw.1.fo); clear hSw; go_simp; try with_reducible rfl
    try simp only [List.getElem_toArray]
    try simp only [List.getElem_cons_succ]
    try simp only [List.getElem_cons_zero]
    try simp only [Act.put]
    try simp only [List.setIfInBounds_toArray]
    try simp only [List.set]
    refine wpAnyH_take (i := 4) (v := ?v21) rfl (by kernel_rfl) (by kernel_rfl) (by kernel_rfl) (fun _ _ _ h => h) (Or.inl ⟨by kernel_rfl, ?h21⟩) hHeld ?_
    case h21 => intro u hSw; (obtain ⟨q0, q1⟩ := hSw.1.k); clear hSw; go_simp; try with_reducible rfl
    try simp only [List.getElem_toArray]
    try simp only [List.getElem_cons_succ]
    try simp only [List.getElem_cons_zero]
    try simp only [Act.put]
    try simp only [List.setIfInBounds_toArray]
    try simp only [List.set]
    refine wpAnyH_take (i := 5) (v := ?v22) rfl (by kernel_rfl) (by kernel_rfl) (by kernel_rfl) (fun _ _ _ h => h) (Or.inl ⟨by kernel_rfl, ?h22⟩) hHeld ?_
    case h22 => intro u hSw; (have hl := HL.out u hSw.2); clear hSw; go_simp; try with_reducible rfl
    try simp only [List.getElem_toArray]
    try simp only [List.getElem_cons_succ]
    try simp only [List.getElem_cons_zero]
    try simp only [Act.put]
    try simp only [List.setIfInBounds_toArray]
    try simp only [List.set]
    refine wpAnyH_take (i := 6) (v := ?v23) rfl (by kernel_rfl) (by kernel_rfl) (by kernel_rfl) (fun _ _ _ h => h) (Or.inl ⟨by kernel_rfl, ?h23⟩) hHeld ?_
    case h23 => intro u hSw; clear hSw; go_simp; try with_reducible rfl
    try simp only [List.getElem_toArray]
    try simp only [List.getElem_cons_succ]
    try simp only [List.getElem_cons_zero]
    try simp only [Act.put]
    try simp only [List.setIfInBounds_toArray]
    try simp only [List.set]
    refine wpAnyH_take (i := 7) (v := ?v24) rfl (by kernel_rfl) (by kernel_rfl) (by kernel_rfl) (fun _ _ _ h => h) (Or.inl ⟨by kernel_rfl, ?h24⟩) hHeld ?_
    case h24 => intro u hSw; clear hSw; go_simp; try with_reducible rfl
    try simp only [List.getElem_toArray]
    try simp only [List.getElem_cons_succ]
    try simp only [List.getElem_cons_zero]
    try simp only [Act.put]
    try simp only [List.setIfInBounds_toArray]
    try simp only [List.set]
    refine wpAnyH_take (i := 8) (v := ?v25) rfl (by kernel_rfl) (by kernel_rfl) (by kernel_rfl) (fun _ _ _ h => h) (Or.inl ⟨by kernel_rfl, ?h25⟩) hHeld ?_
    case h25 => intro u hSw; clear hSw; go_simp; try with_reducible rfl
    try simp only [List.getElem_toArray]
    try simp only [List.getElem_cons_succ]
    try simp only [List.getElem_cons_zero]
    try simp only [Act.put]
    try simp only [List.setIfInBounds_toArray]
    try simp only [List.set]
    have gA : Below D.heap.size D (D.alloc (.cells #[.bool false, .int .i64 0, .int .i64 0, .int .i64 0, .string ⟨#[]⟩, .bool false, .int .i64 0, .int .i64 0, .int .i64 0, .string ⟨#[]⟩] 28)) := by go_grown
    have hA : ∀ k, (D.alloc (.cells #[.bool false, .int .i64 0, .int .i64 0, .int .i64 0, .string ⟨#[]⟩, .bool false, .int .i64 0, .int .i64 0, .int .i64 0, .string ⟨#[]⟩] 28)).frozen? ⟨D.heap.size, k, none⟩ = false := fun k => by simp [go_sem]
    have hZ : ChC (D.alloc (.cells #[.bool false, .int .i64 0, .int .i64 0, .int .i64 0, .string ⟨#[]⟩, .bool false, .int .i64 0, .int .i64 0, .int .i64 0, .string ⟨#[]⟩] 28)) D.heap.size 0 ⟨false, ⟨0, 0, 0, ⟨#[]⟩⟩, false, ⟨0, 0, 0, ⟨#[]⟩⟩⟩ := ⟨by simp [go_sem], by simp [go_sem], by simp [go_sem], by simp [go_sem], by simp [go_sem], by simp [go_sem], by simp [go_sem], by simp [go_sem], by simp [go_sem], by simp [go_sem]⟩
    have hmab : mb ≠ D.heap.size := by have := hM.lt; omega
    have hM := hM.below gA
    have hab : D.heap.size ≠ cb ∧ D.heap.size ≠ kb ∧ D.heap.size ≠ fb ∧ n₀ ≤ D.heap.size ∧ Y.heap.size ≤ D.heap.size := ⟨fun e => by have := hHeld.1.c.lt; omega, fun e => by have := hHeld.1.lt; omega, fun e => by have := hHeld.1.fo.lt; omega, Nat.le_trans hw hHeld.1.g.size, hDs⟩
    refine wpAnyH_ready (rs := [9]) (by kernel_rfl) (by simp) ?_
    refine AllReadyH.cons rfl (fun K hK => ?_) AllReadyH.nil
    go_simp
    refine hK.out _ _ ⟨hHeld.1.up gA, hHeld.2.trans (gA.mono hDs)⟩ (fun hHeld => ?_)
    clear hK K gA hDs
    generalize D.alloc (.cells #[.bool false, .int .i64 0, .int .i64 0, .int .i64 0, .string ⟨#[]⟩, .bool false, .int .i64 0, .int .i64 0, .int .i64 0, .string ⟨#[]⟩] 28) = A at hHeld hM hA hZ ⊢
    generalize D.heap.size = ab at hA hZ hab hmab ⊢
    try simp only [Act.put]
    try simp only [List.setIfInBounds_toArray]
    try simp only [List.set]
    obtain ⟨B, hB⟩ : ∃ B, ((((((((((A.setCell ⟨ab, 0, none⟩ (.bool x0)).setCell ⟨ab, 1, none⟩ (.int .i64 xt)).setCell ⟨ab, 2, none⟩ (.int .i64 xk)).setCell ⟨ab, 3, none⟩ (.int .i64 xv)).setCell ⟨ab, 4, none⟩ (.string xst)).setCell ⟨ab, 5, none⟩ (.bool x5)).setCell ⟨ab, 6, none⟩ (.int .i64 yt)).setCell ⟨ab, 7, none⟩ (.int .i64 yk)).setCell ⟨ab, 8, none⟩ (.int .i64 yv)).setCell ⟨ab, 9, none⟩ (.string yst)) = B := ⟨_, rfl⟩
    have tB : Turned ab (ab + 1) A B := by rw [← hB]; exact (((((((((((Turned.refl _ _ A).setCell (p := ⟨ab, 0, none⟩) (Nat.le_refl _) (Nat.lt_succ_self _) _).setCell (p := ⟨ab, 1, none⟩) (Nat.le_refl _) (Nat.lt_succ_self _) _).setCell (p := ⟨ab, 2, none⟩) (Nat.le_refl _) (Nat.lt_succ_self _) _).setCell (p := ⟨ab, 3, none⟩) (Nat.le_refl _) (Nat.lt_succ_self _) _).setCell (p := ⟨ab, 4, none⟩) (Nat.le_refl _) (Nat.lt_succ_self _) _).setCell (p := ⟨ab, 5, none⟩) (Nat.le_refl _) (Nat.lt_succ_self _) _).setCell (p := ⟨ab, 6, none⟩) (Nat.le_refl _) (Nat.lt_succ_self _) _).setCell (p := ⟨ab, 7, none⟩) (Nat.le_refl _) (Nat.lt_succ_self _) _).setCell (p := ⟨ab, 8, none⟩) (Nat.le_refl _) (Nat.lt_succ_self _) _).setCell (p := ⟨ab, 9, none⟩) (Nat.le_refl _) (Nat.lt_succ_self _) _)
    have hfB : ∀ k, B.frozen? ⟨ab, k, none⟩ = false := fun k => by rw [← hB]; simp only [World.frozen?_setCell]; exact hA k
    have hx : ChC B ab 0 (⟨x0, ⟨xt, xk, xv, xst⟩, x5, ⟨yt, yk, yv, yst⟩⟩ : Chg) := by
      rw [← hB]
      clear hB tB hfB
      obtain ⟨z0, z1, z2, z3, z4, z5, z6, z7, z8, z9⟩ := hZ
      dsimp only at z0 z1 z2 z3 z4 z5 z6 z7 z8 z9
      simp only [Nat.zero_add] at z0 z1 z2 z3 z4 z5 z6 z7 z8 z9
      exact ⟨by simp [go_sem, *], by simp [go_sem, *], by simp [go_sem, *], by simp [go_sem, *], by simp [go_sem, *], by simp [go_sem, *], by simp [go_sem, *], by simp [go_sem, *], by simp [go_sem, *], by simp [go_sem, *]⟩
    have hM := hM.kept (row := some ab) ⟨tB.os, tB.tape, tB.output, tB.size, fun k hk hne => tB.block k hk (fun e => hne (by rw [show k = ab by omega]))⟩ (fun e => by injection e with e; omega)
    have f0 := hA 0
    have f1 := hA 1
    have f2 := hA 2
    have f3 := hA 3
    have f4 := hA 4
    have f5 := hA 5
    have f6 := hA 6
    have f7 := hA 7
    have f8 := hA 8
    have f9 := hA 9
    obtain ⟨z0, z1, z2, z3, z4, z5, z6, z7, z8, z9⟩ := hZ
    dsimp only at z0 z1 z2 z3 z4 z5 z6 z7 z8 z9
    simp only [Nat.zero_add] at z0 z1 z2 z3 z4 z5 z6 z7 z8 z9
    refine wpAnyH_ready (rs := [10]) (by kernel_rfl) (by simp) ?_
    refine AllReadyH.cons rfl (fun K hK => ?_) AllReadyH.nil
    go_simp
    try rw [hB]
    refine hK.out _ _ ⟨hHeld.1.turned tB hw hab.2.2.2.1 hab.1 hab.2.1 hab.2.2.1, hHeld.2.trans (tB.toBelow (Nat.le_of_lt (Nat.lt_of_le_of_lt hab.2.2.2.2 (World.block_lt_of_cell? A _ z0))) hab.2.2.2.2)⟩ (fun hHeld => ?_)
    clear hK K z0 z1 z2 z3 z4 z5 z6 z7 z8 z9 f0 f1 f2 f3 f4 f5 f6 f7 f8 f9 hB tB hA
    try simp only [Act.put]
    try simp only [List.setIfInBounds_toArray]
    try simp only [List.set]
    refine wpAnyH_take (i := 11) (v := ?v26) rfl (by kernel_rfl) (by kernel_rfl) (by kernel_rfl) (fun _ _ _ h => h) (Or.inl ⟨by kernel_rfl, ?h26⟩) hHeld ?_
    case h26 => intro u hSw; clear hSw; go_simp; try with_reducible rfl
    try simp only [List.getElem_toArray]
    try simp only [List.getElem_cons_succ]
    try simp only [List.getElem_cons_zero]
    try simp only [Act.put]
    try simp only [List.setIfInBounds_toArray]
    try simp only [List.set]
    refine wpAnyH_done (by kernel_rfl) ?_ _
    have hS := hHeld.1
    clear hHeld HL
    obtain ⟨tb, htb⟩ : ∃ tb, tb = onB (⟨x0, ⟨xt, xk, xv, xst⟩, x5, ⟨yt, yk, yv, yst⟩⟩ : Chg) (⟨c0, ⟨ct, ck, cv, cst⟩, c5, ⟨dt, dk, dv, dst⟩⟩ : Chg) := ⟨_, rfl⟩
    have HTB : Hid (onB (⟨x0, ⟨xt, xk, xv, xst⟩, x5, ⟨yt, yk, yv, yst⟩⟩ : Chg) (⟨c0, ⟨ct, ck, cv, cst⟩, c5, ⟨dt, dk, dv, dst⟩⟩ : Chg) = tb) := htb.symm
    have HS : Hid ((TkS n₀ w cb kb fb mb tx (⟨c0, ⟨ct, ck, cv, cst⟩, c5, ⟨dt, dk, dv, dst⟩⟩ : Chg) kt kk) B) := hS
    have HX : Hid (ChC B ab 0 (⟨x0, ⟨xt, xk, xv, xst⟩, x5, ⟨yt, yk, yv, yst⟩⟩ : Chg)) := hx
    clear htb hS hx
    go_upto_region 8 with (fail)
    go_cut [48] from 8 (fun s wc => s = .bool (!tb) ∧ wc = B)
    case first =>
      obtain ⟨z0, z1, z2, z3, z4, z5, z6, z7, z8, z9⟩ := HS.out.c
      obtain ⟨v0, v1, v2, v3, v4, v5, v6, v7, v8, v9⟩ := HX.out
      dsimp only at z0 z1 z2 z3 z4 z5 z6 z7 z8 z9 v0 v1 v2 v3 v4 v5 v6 v7 v8 v9
      clear HR
      cases c0
      · cases x5
        · have HW : Hid (tb = true) := by show _ = _; rw [← HTB.out]; rfl
          go_wp2_with fail
          go_meet
          case rel => exact ⟨by rw [HW.out]; rfl, rfl⟩
        · have HW : Hid (tb = false) := by show _ = _; rw [← HTB.out]; rfl
          go_wp2_with fail
          go_meet
          case rel => exact ⟨by rw [HW.out]; rfl, rfl⟩
      · cases x5
        · have HW : Hid (tb = false) := by show _ = _; rw [← HTB.out]; rfl
          go_wp2_with fail
          go_meet
          case rel => exact ⟨by rw [HW.out]; rfl, rfl⟩
        · have HTB : Hid (rwEq ⟨ct, ck, cv, cst⟩ ⟨yt, yk, yv, yst⟩ = tb) := HTB
          by_cases ht : ct = yt
          · by_cases hk : ck = yk
            · by_cases hv : cv = yv
              · by_cases hs : cst = yst
                · have HW : Hid (tb = true) := by show _ = _; rw [← HTB.out]; simp [rwEq, ht, hk, hv, hs]
                  clear HTB
                  subst ht hk hv hs
                  go_wp2_with fail
                  go_meet
                  case rel => exact ⟨by rw [HW.out]; rfl, rfl⟩
                · have HW : Hid (tb = false) := by show _ = _; rw [← HTB.out]; simp [rwEq, hs]
                  clear HTB
                  subst ht hk hv
                  have d : ¬ cst.toList = yst.toList := fun h => hs (by rw [ByteArray.toList_eq, ByteArray.toList_eq] at h; exact ByteArray.ext (Array.toList_inj.1 h))
                  go_wp2_with fail
                  go_meet
                  case rel => exact ⟨by rw [HW.out]; rfl, rfl⟩
              · have HW : Hid (tb = false) := by show _ = _; rw [← HTB.out]; simp [rwEq, hv]
                clear HTB
                subst ht hk
                have d : (cv == yv) = false := by simpa using hv
                go_wp2_with fail
                go_meet
                case rel => exact ⟨by rw [HW.out]; rfl, rfl⟩
            · have HW : Hid (tb = false) := by show _ = _; rw [← HTB.out]; simp [rwEq, hk]
              clear HTB
              subst ht
              have d : (ck == yk) = false := by simpa using hk
              go_wp2_with fail
              go_meet
              case rel => exact ⟨by rw [HW.out]; rfl, rfl⟩
          · have HW : Hid (tb = false) := by show _ = _; rw [← HTB.out]; simp [rwEq, ht]
            clear HTB
            have d : (ct == yt) = false := by simpa using ht
            go_wp2_with fail
            go_meet
            case rel => exact ⟨by rw [HW.out]; rfl, rfl⟩
    case rest =>
    obtain ⟨rfl, rfl⟩ := hcut
    have hS := HS.out
    have hx := HX.out
    clear HS HX
    cases tb
    · have HFin : Hid (TkPost R n₀ fb mb tx sz w (.returned (.int .i64 8)) wc) := by show TkPost _ _ _ _ _ _ _ _ _; rw [HR.out, if_neg (by rw [HTB.out]; simp)]; exact ⟨rfl, hS.g⟩
      clear hS hx hM HR HTB
      go_wp2_with fail
      go_ret
      exact HFin.out
    · have HR : Hid (R = some (updC f kt kk (if nthB (⟨x0, ⟨xt, xk, xv, xst⟩, c5, ⟨dt, dk, dv, dst⟩⟩ : Chg) = true then none else some (⟨x0, ⟨xt, xk, xv, xst⟩, c5, ⟨dt, dk, dv, dst⟩⟩ : Chg)))) := by show _ = _; rw [HR.out, if_pos HTB.out]; rfl
      clear HTB
      go_upto_region 10 with (fail)
      refine wp_region_held_drew (S := (TkS n₀ w cb kb fb mb tx (⟨c0, ⟨ct, ck, cv, cst⟩, c5, ⟨dt, dk, dv, dst⟩⟩ : Chg) kt kk)) (by kernel_rfl) (hS.up (Below.refl _ _).drew) (fun hHeld => ?_)
      have hM := hM.below (Below.refl _ wc).drew
      have hx := hx.below (Below.refl _ wc).drew hx.lt
      have hfB : ∀ k, wc.drew.frozen? ⟨ab, k, none⟩ = false := hfB
      clear hS
      generalize wc.drew = D10 at hHeld hM hx hfB ⊢
      refine wpAnyH_take (i := 0) (v := ?v27) rfl (by kernel_rfl) (by kernel_rfl) (by kernel_rfl) (fun _ _ _ h => h) (Or.inl ⟨by kernel_rfl, ?h27⟩) hHeld ?_
      case h27 => intro u hSw; clear hSw; go_simp; try with_reducible rfl
      try simp only [List.getElem_toArray]
      try simp only [List.getElem_cons_succ]
      try simp only [List.getElem_cons_zero]
      try simp only [Act.put]
      try simp only [List.setIfInBounds_toArray]
      try simp only [List.set]
      refine wpAnyH_take (i := 1) (v := ?v28) rfl (by kernel_rfl) (by kernel_rfl) (by kernel_rfl) (fun _ _ _ h => h) (Or.inl ⟨by kernel_rfl, ?h28⟩) hHeld ?_
      case h28 => intro u hSw; (obtain ⟨z0, z1, z2, z3, z4, z5, z6, z7, z8, z9⟩ := hSw.c); dsimp only at z0 z1 z2 z3 z4 z5 z6 z7 z8 z9; clear hSw; go_simp; try with_reducible rfl
      try simp only [List.getElem_toArray]
      try simp only [List.getElem_cons_succ]
      try simp only [List.getElem_cons_zero]
      try simp only [Act.put]
      try simp only [List.setIfInBounds_toArray]
      try simp only [List.set]
      refine wpAnyH_take (i := 2) (v := ?v29) rfl (by kernel_rfl) (by kernel_rfl) (by kernel_rfl) (fun _ _ _ h => h) (Or.inl ⟨by kernel_rfl, ?h29⟩) hHeld ?_
      case h29 => intro u hSw; clear hSw; go_simp; try with_reducible rfl
      try simp only [List.getElem_toArray]
      try simp only [List.getElem_cons_succ]
      try simp only [List.getElem_cons_zero]
      try simp only [Act.put]
      try simp only [List.setIfInBounds_toArray]
      try simp only [List.set]
      refine wpAnyH_take (i := 3) (v := ?v30) rfl (by kernel_rfl) (by kernel_rfl) (by kernel_rfl) (fun _ _ _ h => h) (Or.inl ⟨by kernel_rfl, ?h30⟩) hHeld ?_
      case h30 => intro u hSw; (obtain ⟨z0, z1, z2, z3, z4, z5, z6, z7, z8, z9⟩ := hSw.c); dsimp only at z0 z1 z2 z3 z4 z5 z6 z7 z8 z9; clear hSw; go_simp; try with_reducible rfl
      try simp only [List.getElem_toArray]
      try simp only [List.getElem_cons_succ]
      try simp only [List.getElem_cons_zero]
      try simp only [Act.put]
      try simp only [List.setIfInBounds_toArray]
      try simp only [List.set]
      refine wpAnyH_take (i := 4) (v := ?v31) rfl (by kernel_rfl) (by kernel_rfl) (by kernel_rfl) (fun _ _ _ h => h) (Or.inl ⟨by kernel_rfl, ?h31⟩) hHeld ?_
      case h31 => intro u hSw; clear hSw; go_simp; try with_reducible rfl
      try simp only [List.getElem_toArray]
      try simp only [List.getElem_cons_succ]
      try simp only [List.getElem_cons_zero]
      try simp only [Act.put]
      try simp only [List.setIfInBounds_toArray]
      try simp only [List.set]
      have t5 : Turned ab (ab + 1) D10 (D10.setCell ⟨ab, 5, none⟩ (.bool c5)) := (Turned.refl _ _ D10).setCell (p := ⟨ab, 5, none⟩) (Nat.le_refl _) (Nat.lt_succ_self _) _
      obtain ⟨v0, v1, v2, v3, v4, v5, v6, v7, v8, v9⟩ := hx
      dsimp only at v0 v1 v2 v3 v4 v5 v6 v7 v8 v9
      simp only [Nat.zero_add] at v0 v1 v2 v3 v4 v5 v6 v7 v8 v9
      have f5 := hfB 5
      refine wpAnyH_ready (rs := [5]) (by kernel_rfl) (by simp) ?_
      refine AllReadyH.cons rfl (fun K hK => ?_) AllReadyH.nil
      go_simp
      refine hK.out _ _ (hHeld.turned t5 hw hab.2.2.2.1 hab.1 hab.2.1 hab.2.2.1) (fun hHeld => ?_)
      clear hK K f5
      try simp only [Act.put]
      try simp only [List.setIfInBounds_toArray]
      try simp only [List.set]
      refine wpAnyH_take (i := 6) (v := ?v32) rfl (by kernel_rfl) (by kernel_rfl) (by kernel_rfl) (fun _ _ _ h => h) (Or.inl ⟨by kernel_rfl, ?h32⟩) hHeld ?_
      case h32 => intro u hSw; clear hSw; go_simp; try with_reducible rfl
      try simp only [List.getElem_toArray]
      try simp only [List.getElem_cons_succ]
      try simp only [List.getElem_cons_zero]
      try simp only [Act.put]
      try simp only [List.setIfInBounds_toArray]
      try simp only [List.set]
      obtain ⟨E, hE⟩ : ∃ E, (((((D10.setCell ⟨ab, 5, none⟩ (.bool c5)).setCell ⟨ab, 6, none⟩ (.int .i64 dt)).setCell ⟨ab, 7, none⟩ (.int .i64 dk)).setCell ⟨ab, 8, none⟩ (.int .i64 dv)).setCell ⟨ab, 9, none⟩ (.string dst)) = E := ⟨_, rfl⟩
      have t9 : Turned ab (ab + 1) (D10.setCell ⟨ab, 5, none⟩ (.bool c5)) E := by rw [← hE]; exact (((((Turned.refl _ _ (D10.setCell ⟨ab, 5, none⟩ (.bool c5))).setCell (p := ⟨ab, 6, none⟩) (Nat.le_refl _) (Nat.lt_succ_self _) _).setCell (p := ⟨ab, 7, none⟩) (Nat.le_refl _) (Nat.lt_succ_self _) _).setCell (p := ⟨ab, 8, none⟩) (Nat.le_refl _) (Nat.lt_succ_self _) _).setCell (p := ⟨ab, 9, none⟩) (Nat.le_refl _) (Nat.lt_succ_self _) _)
      have hx : ChC E ab 0 (⟨x0, ⟨xt, xk, xv, xst⟩, c5, ⟨dt, dk, dv, dst⟩⟩ : Chg) := by
        rw [← hE]
        clear hE t9
        exact ⟨by simp [go_sem, *], by simp [go_sem, *], by simp [go_sem, *], by simp [go_sem, *], by simp [go_sem, *], by simp [go_sem, *], by simp [go_sem, *], by simp [go_sem, *], by simp [go_sem, *], by simp [go_sem, *]⟩
      have hM := hM.kept (row := some ab) ⟨(t5.trans t9).os, (t5.trans t9).tape, (t5.trans t9).output, (t5.trans t9).size, fun k hk hne => (t5.trans t9).block k hk (fun e => hne (by rw [show k = ab by omega]))⟩ (fun e => by injection e with e; omega)
      have f6 : (D10.setCell ⟨ab, 5, none⟩ (.bool c5)).frozen? ⟨ab, 6, none⟩ = false := by rw [World.frozen?_setCell]; exact hfB 6
      have f7 : (D10.setCell ⟨ab, 5, none⟩ (.bool c5)).frozen? ⟨ab, 7, none⟩ = false := by rw [World.frozen?_setCell]; exact hfB 7
      have f8 : (D10.setCell ⟨ab, 5, none⟩ (.bool c5)).frozen? ⟨ab, 8, none⟩ = false := by rw [World.frozen?_setCell]; exact hfB 8
      have f9 : (D10.setCell ⟨ab, 5, none⟩ (.bool c5)).frozen? ⟨ab, 9, none⟩ = false := by rw [World.frozen?_setCell]; exact hfB 9
      refine wpAnyH_ready (rs := [7]) (by kernel_rfl) (by simp) ?_
      refine AllReadyH.cons rfl (fun K hK => ?_) AllReadyH.nil
      go_simp
      try rw [hE]
      refine hK.out _ _ (hHeld.turned t9 hw hab.2.2.2.1 hab.1 hab.2.1 hab.2.2.1) (fun hHeld => ?_)
      clear hK K f6 f7 f8 f9 hE t5 t9 v0 v1 v2 v3 v4 v5 v6 v7 v8 v9
      try simp only [Act.put]
      try simp only [List.setIfInBounds_toArray]
      try simp only [List.set]
      refine wpAnyH_done (by kernel_rfl) ?_ _
      have hS := hHeld
      clear hHeld hfB
      go_upto_region 11 with (fail)
      refine wp_region_held_drew (S := fun V => (TkS n₀ w cb kb fb mb tx (⟨c0, ⟨ct, ck, cv, cst⟩, c5, ⟨dt, dk, dv, dst⟩⟩ : Chg) kt kk) V ∧ ChC V ab 0 (⟨x0, ⟨xt, xk, xv, xst⟩, c5, ⟨dt, dk, dv, dst⟩⟩ : Chg)) (by kernel_rfl) ⟨hS.up (Below.refl _ _).drew, hx.below (Below.refl _ _).drew hx.lt⟩ (fun hHeld => ?_)
      have hM := hM.below (Below.refl _ E).drew
      clear hS hx
      generalize E.drew = D11 at hHeld hM ⊢
      refine wpAnyH_take (i := 0) (v := ?v33) rfl (by kernel_rfl) (by kernel_rfl) (by kernel_rfl) (fun _ _ _ h => h) (Or.inl ⟨by kernel_rfl, ?h33⟩) hHeld ?_
      case h33 => intro u hSw; clear hSw; go_simp; try with_reducible rfl
      try simp only [List.getElem_toArray]
      try simp only [List.getElem_cons_succ]
      try simp only [List.getElem_cons_zero]
      try simp only [Act.put]
      try simp only [List.setIfInBounds_toArray]
      try simp only [List.set]
      refine wpAnyH_take (i := 1) (v := ?v34) rfl (by kernel_rfl) (by kernel_rfl) (by kernel_rfl) (fun _ _ _ h => h) (Or.inl ⟨by kernel_rfl, ?h34⟩) hHeld ?_
      case h34 => intro u hSw; clear hSw; go_simp; try with_reducible rfl
      try simp only [List.getElem_toArray]
      try simp only [List.getElem_cons_succ]
      try simp only [List.getElem_cons_zero]
      try simp only [Act.put]
      try simp only [List.setIfInBounds_toArray]
      try simp only [List.set]
      refine wpAnyH_take (i := 2) (v := ?v35) rfl (by kernel_rfl) (by kernel_rfl) (by kernel_rfl) (fun _ _ _ h => h) (Or.inl ⟨by kernel_rfl, ?h35⟩) hHeld ?_
      case h35 => intro u hSw; clear hSw; go_simp; try with_reducible rfl
      try simp only [List.getElem_toArray]
      try simp only [List.getElem_cons_succ]
      try simp only [List.getElem_cons_zero]
      try simp only [Act.put]
      try simp only [List.setIfInBounds_toArray]
      try simp only [List.set]
      refine wpAnyH_take (i := 3) (v := ?v36) rfl (by kernel_rfl) (by kernel_rfl) (by kernel_rfl) (fun _ _ _ h => h) (Or.inl ⟨by kernel_rfl, ?h36⟩) hHeld ?_
      case h36 => intro u hSw; (obtain ⟨fo0, fo1⟩ := hSw.1.fo); clear hSw; go_simp; try with_reducible rfl
      try simp only [List.getElem_toArray]
      try simp only [List.getElem_cons_succ]
      try simp only [List.getElem_cons_zero]
      try simp only [Act.put]
      try simp only [List.setIfInBounds_toArray]
      try simp only [List.set]
      refine wpAnyH_take (i := 4) (v := ?v37) rfl (by kernel_rfl) (by kernel_rfl) (by kernel_rfl) (fun _ _ _ h => h) (Or.inl ⟨by kernel_rfl, ?h37⟩) hHeld ?_
      case h37 => intro u hSw; (obtain ⟨q0, q1⟩ := hSw.1.k); clear hSw; go_simp; try with_reducible rfl
      try simp only [List.getElem_toArray]
      try simp only [List.getElem_cons_succ]
      try simp only [List.getElem_cons_zero]
      try simp only [Act.put]
      try simp only [List.setIfInBounds_toArray]
      try simp only [List.set]
      refine wpAnyH_take (i := 5) (v := ?v38) rfl (by kernel_rfl) (by kernel_rfl) (by kernel_rfl) (fun _ _ _ h => h) (Or.inl ⟨by kernel_rfl, ?h38⟩) hHeld ?_
      case h38 => intro u hSw; (obtain ⟨z0, z1, z2, z3, z4, z5, z6, z7, z8, z9⟩ := hSw.2); dsimp only at z0 z1 z2 z3 z4 z5 z6 z7 z8 z9; clear hSw; go_simp; try with_reducible rfl
      try simp only [List.getElem_toArray]
      try simp only [List.getElem_cons_succ]
      try simp only [List.getElem_cons_zero]
      try simp only [Act.put]
      try simp only [List.setIfInBounds_toArray]
      try simp only [List.set]
      obtain ⟨W8, e8, m8, t8⟩ := hM.store keyT73 Try.underlying77 hKw.out (.agg #[.bool x0, .int .i64 xt, .int .i64 xk, .int .i64 xv, .string xst, .bool c5, .int .i64 dt, .int .i64 dk, .int .i64 dv, .string dst]) (by omega)
      simp only [kv] at e8
      have hlt1 := hM.lt
      refine wpAnyH_ready (rs := [6]) (by kernel_rfl) (by simp) ?_
      refine AllReadyH.cons rfl (fun K hK => ?_) AllReadyH.nil
      go_simp
      refine hK.out _ _ ⟨hHeld.1.turn t8 hn hlt1, hHeld.2.turn t8⟩ (fun hHeld => ?_)
      clear hK K e8
      try simp only [Act.put]
      try simp only [List.setIfInBounds_toArray]
      try simp only [List.set]
      refine wpAnyH_done (by kernel_rfl) ?_ _
      have hS := hHeld.1
      have hx := hHeld.2
      have hsz8 : nSz (fKV f kt kk) sz ≤ sz + 1 := nSz_le _ _
      have hM : MapF 65 W8 mb (fKV (updC f kt kk (some (⟨x0, ⟨xt, xk, xv, xst⟩, c5, ⟨dt, dk, dv, dst⟩⟩ : Chg)))) (nSz (fKV f kt kk) sz) := by rw [← fKV_upd]; exact m8
      clear hHeld m8 t8
      generalize nSz (fKV f kt kk) sz = sz8 at hM hsz8
      have hno := isNothing_any x0 xt xk xv xst c5 dt dk dv dst W8
      obtain ⟨v0, v1, v2, v3, v4, v5, v6, v7, v8, v9⟩ := hx
      dsimp only at v0 v1 v2 v3 v4 v5 v6 v7 v8 v9
      go_wp2_with (go_at_call 39; refine hno.mono ?_)
      rintro e W9 ⟨rfl, g9⟩
      have hS := hS.up g9
      have hM := hM.below g9
      clear v0 v1 v2 v3 v4 v5 v6 v7 v8 v9 g9 hno
      obtain ⟨tn, htn⟩ : ∃ tn, nthB (⟨x0, ⟨xt, xk, xv, xst⟩, c5, ⟨dt, dk, dv, dst⟩⟩ : Chg) = tn := ⟨_, rfl⟩
      have HTN : Hid (nthB (⟨x0, ⟨xt, xk, xv, xst⟩, c5, ⟨dt, dk, dv, dst⟩⟩ : Chg) = tn) := htn
      rw [htn]
      clear htn
      cases tn
      · have HFin : Hid (TkPost R n₀ fb mb tx sz w (.returned (.int .i64 0)) W9) := by show TkPost _ _ _ _ _ _ _ _ _; rw [HR.out, if_neg (by rw [HTN.out]; simp)]; exact ⟨rfl, hS.g, hS.fo, _, hsz8, hM⟩
        clear hS hM HR HTN
        go_wp2_with fail
        go_ret
        exact HFin.out
      · go_upto_region 13 with (fail)
        refine wp_region_held_drew (S := (TkS n₀ w cb kb fb mb tx (⟨c0, ⟨ct, ck, cv, cst⟩, c5, ⟨dt, dk, dv, dst⟩⟩ : Chg) kt kk)) (by kernel_rfl) (hS.up (Below.refl _ _).drew) (fun hHeld => ?_)
        have hM := hM.below (Below.refl _ W9).drew
        clear hS
        generalize W9.drew = D13 at hHeld hM ⊢
        refine wpAnyH_take (i := 0) (v := ?v39) rfl (by kernel_rfl) (by kernel_rfl) (by kernel_rfl) (fun _ _ _ h => h) (Or.inl ⟨by kernel_rfl, ?h39⟩) hHeld ?_
        case h39 => intro u hSw; clear hSw; go_simp; try with_reducible rfl
        try simp only [List.getElem_toArray]
        try simp only [List.getElem_cons_succ]
        try simp only [List.getElem_cons_zero]
        try simp only [Act.put]
        try simp only [List.setIfInBounds_toArray]
        try simp only [List.set]
        refine wpAnyH_take (i := 1) (v := ?v40) rfl (by kernel_rfl) (by kernel_rfl) (by kernel_rfl) (fun _ _ _ h => h) (Or.inl ⟨by kernel_rfl, ?h40⟩) hHeld ?_
        case h40 => intro u hSw; clear hSw; go_simp; try with_reducible rfl
        try simp only [List.getElem_toArray]
        try simp only [List.getElem_cons_succ]
        try simp only [List.getElem_cons_zero]
        try simp only [Act.put]
        try simp only [List.setIfInBounds_toArray]
        try simp only [List.set]
        refine wpAnyH_take (i := 2) (v := ?v41) rfl (by kernel_rfl) (by kernel_rfl) (by kernel_rfl) (fun _ _ _ h => h) (Or.inl ⟨by kernel_rfl, ?h41⟩) hHeld ?_
        case h41 => intro u hSw; clear hSw; go_simp; try with_reducible rfl
        try simp only [List.getElem_toArray]
        try simp only [List.getElem_cons_succ]
        try simp only [List.getElem_cons_zero]
        try simp only [Act.put]
        try simp only [List.setIfInBounds_toArray]
        try simp only [List.set]
        refine wpAnyH_take (i := 3) (v := ?v42) rfl (by kernel_rfl) (by kernel_rfl) (by kernel_rfl) (fun _ _ _ h => h) (Or.inl ⟨by kernel_rfl, ?h42⟩) hHeld ?_
        case h42 => intro u hSw; (obtain ⟨fo0, fo1⟩ := hSw.fo); clear hSw; go_simp; try with_reducible rfl
        try simp only [List.getElem_toArray]
        try simp only [List.getElem_cons_succ]
        try simp only [List.getElem_cons_zero]
        try simp only [Act.put]
        try simp only [List.setIfInBounds_toArray]
        try simp only [List.set]
        refine wpAnyH_take (i := 4) (v := ?v43) rfl (by kernel_rfl) (by kernel_rfl) (by kernel_rfl) (fun _ _ _ h => h) (Or.inl ⟨by kernel_rfl, ?h43⟩) hHeld ?_
        case h43 => intro u hSw; (obtain ⟨q0, q1⟩ := hSw.k); clear hSw; go_simp; try with_reducible rfl
        try simp only [List.getElem_toArray]
        try simp only [List.getElem_cons_succ]
        try simp only [List.getElem_cons_zero]
        try simp only [Act.put]
        try simp only [List.setIfInBounds_toArray]
        try simp only [List.set]
        obtain ⟨W14, e14, m14, t14⟩ := hM.drop keyT73 Try.underlying77 hKw.out 0
        simp only [kv] at e14
        have hlt2 := hM.lt
        refine wpAnyH_ready (rs := [5]) (by kernel_rfl) (by simp) ?_
        refine AllReadyH.cons rfl (fun K hK => ?_) AllReadyH.nil
        go_simp
        refine hK.out _ _ (hHeld.turn t14 hn hlt2) (fun hHeld => ?_)
        clear hK K e14
        try simp only [Act.put]
        try simp only [List.setIfInBounds_toArray]
        try simp only [List.set]
        refine wpAnyH_done (by kernel_rfl) ?_ _
        have hM : MapF 65 W14 mb (fKV (updC f kt kk none)) (if (fKV (updC f kt kk (some (⟨x0, ⟨xt, xk, xv, xst⟩, c5, ⟨dt, dk, dv, dst⟩⟩ : Chg))) kt kk).isSome = true then sz8 - 1 else sz8) := by rw [← updC_updC f kt kk (some (⟨x0, ⟨xt, xk, xv, xst⟩, c5, ⟨dt, dk, dv, dst⟩⟩ : Chg)) none, ← fKV_upd]; exact m14
        have hsz9 : (if (fKV (updC f kt kk (some (⟨x0, ⟨xt, xk, xv, xst⟩, c5, ⟨dt, dk, dv, dst⟩⟩ : Chg))) kt kk).isSome = true then sz8 - 1 else sz8) ≤ sz + 1 := by split <;> omega
        have HFin : Hid (TkPost R n₀ fb mb tx sz w (.returned (.int .i64 0)) W14) := by show TkPost _ _ _ _ _ _ _ _ _; rw [HR.out, if_pos HTN.out]; exact ⟨rfl, hHeld.g, hHeld.fo, _, hsz9, hM⟩
        clear hHeld hM m14 t14 HR HTN
        go_wp2_with fail
        go_ret
        exact HFin.out

end Go.Proofs.Ytmbllmhpnopbdaa
