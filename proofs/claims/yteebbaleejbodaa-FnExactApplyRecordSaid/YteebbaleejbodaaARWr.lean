/-
  The contracts of endsEmpty and isSpanWrong.
-/
import Derived.Test.YteebbaleejbodaaARRdw

namespace Go.Proofs.Yteebbaleejbodaa
open Go.RowKit
set_option linter.unusedVariables false

/-- A whole page is read, where its guard says yes. -/
theorem wpList_loadPgW {ops : Array Oper} {rest : List Oper} {o : Oper} {a : Act} {w : World} {Q : Exit → Act → World → Prop} (hw : Region.wanted o (yielded ops a.tmps) = true) (x : Operand) (ho : o.op = .load 239 x)
    (g : Nat) (hx : a.eval x = .pointer (some ⟨g, 0, none⟩)) (zs : List Int) (hA : Arr w g zs)
    (h : wpList Try.prog ops Q rest (a.put o.dst (.agg (pgC zs))) w) : wpList Try.prog ops Q (o :: rest) a w :=
  BigFrame.wpList_want hw fun _ hK => wp_load_row 239 x ho g hx 239 (pgC zs) (0, 0) _ hA.row Try.underlying239 rfl (by rw [pgC_size, hA.len]; exact info57) (hK _ _ h)

/-- Has the page slots, and is the last one empty? -/
def endB (zs : List Int) : Bool := decide (0 < nb zs 0) && empB zs (nb zs 0 - 1)

set_option maxHeartbeats 1000000 in
theorem endsEmpty_any (zs : List Int) (w : World) (h : IsPg zs) (hc : nb zs 0 ≤ 16) :
    Calls Try.prog 215 #[.agg (pgC zs)] w fun e w' => e = .returned (.bool (endB zs)) ∧ Below w.heap.size w w' := by
  obtain ⟨X, hX, hA, g⟩ := boxed zs w h
  obtain ⟨n, hn⟩ : ∃ n, n = nb zs 0 := ⟨_, rfl⟩
  have HN : Hid (n = nb zs 0) := hn
  have HE : Hid (endB zs = (decide (0 < n) && empB zs (n - 1))) := by show _ = _; rw [hn]; rfl
  rw [← hn] at hc
  clear hn
  go_enter Try.func215, Try.ntmps215
  go_wp2_with (refine wpList_loadPg rfl _ rfl _ rfl zs (by assumption) ?_)
  refine (slots_any zs _ h).mono ?_
  rintro e w1 ⟨rfl, g1⟩
  rw [← HN.out]
  have hA := hA.grown g1
  have g : Below w.heap.size w w1 := g.trans (g1.mono g.size)
  clear g1 hX
  by_cases h0 : n = 0
  · subst h0
    go_wp2_with (refine wpList_loadPg rfl _ rfl _ rfl zs (by assumption) ?_)
    go_ret
    exact ⟨by rw [HE.out]; rfl, g⟩
  · have hp : (0 : Int) < (n : Int) := by omega
    have dn : decide (0 < n) = true := by simp; omega
    go_wp2_with (refine wpList_loadPgW (by kernel_rfl) _ rfl _ rfl zs (by assumption) ?_)
    rw [show (n : Int) - 1 = ((n - 1 : Nat) : Int) by omega]
    refine (spanOf_any zs (n - 1) _ h (by omega)).mono ?_
    rintro e w4 ⟨rfl, g4⟩
    have hA := hA.grown g4
    have g : Below w.heap.size w w4 := g.trans (g4.mono g.size)
    clear g4
    go_wp2_with fail
    refine (isEmpty_any _ _ _).mono ?_
    rintro e w5 ⟨rfl, g5⟩
    have g : Below w.heap.size w w5 := g.trans (g5.mono g.size)
    clear g5
    go_wp2_with fail
    go_ret
    exact ⟨by rw [HE.out, show decide (0 < n) = true by simp; omega]; rfl, g⟩

/-- Is what a slot tells no place of a cell? -/
def wrongB (low p l : Nat) : Bool := !(p == 0 && l == 0) && (p == 0 || l == 0 || decide (p < low) || decide (64 < p + l))

set_option maxHeartbeats 1000000 in
theorem isSpanWrong_zero (zs : List Int) (l : Nat) (w : World) (h : IsPg zs) (hl0 : l ≠ 0) :
    Calls Try.prog 213 #[.agg (pgC zs), .agg #[.int .u64 (0 : Nat), .int .u64 l]] w fun e w' => e = .returned (.bool true) ∧ Below w.heap.size w w' := by
  obtain ⟨X, hX, hA, g⟩ := boxed zs w h
  have hlt := hA.lt
  go_enter Try.func213, Try.ntmps213
  go_wp2_with fail
  refine (isEmpty_any _ _ _).mono ?_
  rintro e w5 ⟨rfl, g5⟩
  rw [show ((0 : Nat) == 0 && l == 0) = false by simp [hl0]]
  have x0 : w5.cell? ⟨X.heap.size, 0, none⟩ = some (.int .u64 0) := (g5.cell (p := ⟨X.heap.size, 0, none⟩) (by simp)).trans (by simp [go_sem])
  have x1 : w5.cell? ⟨X.heap.size, 1, none⟩ = some (.int .u64 l) := (g5.cell (p := ⟨X.heap.size, 1, none⟩) (by simp)).trans (by simp [go_sem])
  have g : Below w.heap.size w w5 := g.trans (Below.trans ((Below.refl _ _).alloc (Nat.le_refl _) _) (g5.mono (by simp)) |>.mono g.size)
  clear g5
  go_wp2_with fail
  go_quiet (fail)
  go_wp2_with fail
  go_ret
  exact ⟨rfl, below_draws g _⟩

set_option maxHeartbeats 1000000 in
theorem isSpanWrong_empty (zs : List Int) (w : World) (h : IsPg zs) :
    Calls Try.prog 213 #[.agg (pgC zs), .agg #[.int .u64 (0 : Nat), .int .u64 (0 : Nat)]] w fun e w' => e = .returned (.bool false) ∧ Below w.heap.size w w' := by
  obtain ⟨X, hX, hA, g⟩ := boxed zs w h
  go_enter Try.func213, Try.ntmps213
  go_wp2_with fail
  refine (isEmpty_any 0 0 _).mono ?_
  rintro e w5 ⟨rfl, g5⟩
  have g : Below w.heap.size w w5 := g.trans (Below.trans ((Below.refl _ _).alloc (Nat.le_refl _) _) (g5.mono (by simp)) |>.mono g.size)
  clear g5
  rw [show ((0 : Nat) == 0 && (0 : Nat) == 0) = true by rfl]
  go_wp2_with fail
  go_ret
  exact ⟨rfl, g⟩

set_option maxHeartbeats 1000000 in
theorem isSpanWrong_none (zs : List Int) (p : Nat) (w : World) (h : IsPg zs) (hp0 : p ≠ 0) :
    Calls Try.prog 213 #[.agg (pgC zs), .agg #[.int .u64 p, .int .u64 (0 : Nat)]] w fun e w' => e = .returned (.bool true) ∧ Below w.heap.size w w' := by
  obtain ⟨X, hX, hA, g⟩ := boxed zs w h
  have hlt := hA.lt
  have dp : ((p : Int) == 0) = false := by simp; omega
  go_enter Try.func213, Try.ntmps213
  go_wp2_with fail
  refine (isEmpty_any p 0 _).mono ?_
  rintro e w5 ⟨rfl, g5⟩
  rw [show (p == 0 && (0 : Nat) == 0) = false by simp [hp0]]
  have x0 : w5.cell? ⟨X.heap.size, 0, none⟩ = some (.int .u64 p) := (g5.cell (p := ⟨X.heap.size, 0, none⟩) (by simp)).trans (by simp [go_sem])
  have x1 : w5.cell? ⟨X.heap.size, 1, none⟩ = some (.int .u64 0) := (g5.cell (p := ⟨X.heap.size, 1, none⟩) (by simp)).trans (by simp [go_sem])
  have g : Below w.heap.size w w5 := g.trans (Below.trans ((Below.refl _ _).alloc (Nat.le_refl _) _) (g5.mono (by simp)) |>.mono g.size)
  clear g5 hp0
  go_wp2_with fail
  go_quiet (fail)
  go_wp2_with fail
  go_ret
  exact ⟨rfl, below_draws g _⟩

/-- A whole page is read, in a region that draws its order. -/
theorem yieldsIf_loadPg {ops : Array Oper} {S : World → Prop} {op : Oper} {a : Act} (hw : Region.wanted op (yielded ops a.tmps) = true) (x : Operand) (ho : op.op = .load 239 x)
    (b : Nat) (hx : a.eval x = .pointer (some ⟨b, 0, none⟩)) (zs : List Int) (hS : ∀ w, S w → Arr w b zs) : YieldsIf Try.prog ops S op (.agg (pgC zs)) a :=
  .inl ⟨hw, fun w hw' => by
    unfold execOp
    simp only [ho, hx, Instr.loadAt, Instr.sureAddr, Sem.run_bind, Sem.run_pure, Result.andThen_ok, run_loadVar_row w b 239 239 (pgC zs) (0, 0) _ (hS w hw').row Try.underlying239 rfl (by rw [pgC_size, (hS w hw').len]; exact info57)]⟩

/-- What isSpanWrong knows while it asks. -/
def SpW (w : World) (zs : List Int) (x p l : Nat) (W : World) : Prop :=
  W.cell? ⟨x, 0, none⟩ = some (.int .u64 p) ∧ W.cell? ⟨x, 1, none⟩ = some (.int .u64 l) ∧ Arr W w.heap.size zs ∧ Below w.heap.size w W
theorem SpW.keep {w : World} {zs : List Int} {x p l : Nat} {W V : World} (h : SpW w zs x p l W) (hb : Below W.heap.size W V) : SpW w zs x p l V :=
  ⟨(hb.cell (p := ⟨x, 0, none⟩) (World.block_lt_of_cell? W _ h.1)).trans h.1, (hb.cell (p := ⟨x, 1, none⟩) (World.block_lt_of_cell? W _ h.2.1)).trans h.2.1, h.2.2.1.grown hb, h.2.2.2.trans (hb.mono h.2.2.2.size)⟩

set_option maxHeartbeats 2000000 in
theorem isSpanWrong_below (zs : List Int) (p l : Nat) (w : World) (h : IsPg zs) (hp : p ≤ 255) (hp0 : p ≠ 0) (hl : l ≤ 255) (hl0 : l ≠ 0) (hlow : p < nb zs 1) :
    Calls Try.prog 213 #[.agg (pgC zs), .agg #[.int .u64 p, .int .u64 l]] w fun e w' => e = .returned (.bool true) ∧ Below w.heap.size w w' := by
  obtain ⟨X, hX, hA, g⟩ := boxed zs w h
  have hlt := hA.lt
  have dp : ((p : Int) == 0) = false := by simp; omega
  have dl : ((l : Int) == 0) = false := by simp; omega
  have hlb := nb_lt h 1
  obtain ⟨m, hm⟩ : ∃ m, m = nb zs 1 := ⟨_, rfl⟩
  have HM : Hid (m = nb zs 1) := hm
  rw [← hm] at hlow hlb
  clear hm
  have dm : decide (p < m) = true := by simpa using hlow
  go_enter Try.func213, Try.ntmps213
  go_wp2_with fail
  refine (isEmpty_any p l _).mono ?_
  rintro e w5 ⟨rfl, g5⟩
  rw [show (p == 0 && l == 0) = false by simp [hp0]]
  have x0 : w5.cell? ⟨X.heap.size, 0, none⟩ = some (.int .u64 p) := (g5.cell (p := ⟨X.heap.size, 0, none⟩) (by simp)).trans (by simp [go_sem])
  have x1 : w5.cell? ⟨X.heap.size, 1, none⟩ = some (.int .u64 l) := (g5.cell (p := ⟨X.heap.size, 1, none⟩) (by simp)).trans (by simp [go_sem])
  have hX5 : Below X.heap.size X w5 := Below.trans ((Below.refl _ _).alloc (Nat.le_refl _) _) (g5.mono (by simp))
  have hA := hA.grown hX5
  have g : Below w.heap.size w w5 := g.trans (hX5.mono g.size)
  clear g5 hp0 hl0 hX5 hX
  go_wp2_with fail
  refine wp_region_held_drew (S := fun V => V.cell? ⟨X.heap.size, 0, none⟩ = some (.int .u64 p) ∧ V.cell? ⟨X.heap.size, 1, none⟩ = some (.int .u64 l) ∧ Arr V w.heap.size zs ∧ Below w.heap.size w V) (by kernel_rfl) ⟨x0, x1, hA.grown (Below.refl _ _).drew, g.drew⟩ (fun hHeld => ?_)
  refine wpAnyH_take (i := 0) (v := .pointer (some ⟨X.heap.size, 0, none⟩)) rfl (by kernel_rfl) (by kernel_rfl) (by kernel_rfl) (fun _ _ _ h => h) (Or.inl ⟨by kernel_rfl, fun u hSw => by (try dsimp only at hSw); go_simp; try with_reducible rfl⟩) hHeld ?_
  try simp only [List.getElem_toArray]
  try simp only [List.getElem_cons_succ]
  try simp only [List.getElem_cons_zero]
  try simp only [Act.put]
  try simp only [List.setIfInBounds_toArray]
  try simp only [List.set]
  refine wpAnyH_take (i := 1) (v := .int .u64 p) rfl (by kernel_rfl) (by kernel_rfl) (by kernel_rfl) (fun _ _ _ h => h) (Or.inl ⟨by kernel_rfl, fun u hSw => by (try dsimp only at hSw); go_simp; try with_reducible rfl⟩) hHeld ?_
  try simp only [List.getElem_toArray]
  try simp only [List.getElem_cons_succ]
  try simp only [List.getElem_cons_zero]
  try simp only [Act.put]
  try simp only [List.setIfInBounds_toArray]
  try simp only [List.set]
  refine wpAnyH_take (i := 2) (v := .bool false) rfl (by kernel_rfl) (by kernel_rfl) (by kernel_rfl) (fun _ _ _ h => h) (Or.inl ⟨by kernel_rfl, fun u hSw => by (try dsimp only at hSw); go_simp; try with_reducible rfl⟩) hHeld ?_
  try simp only [List.getElem_toArray]
  try simp only [List.getElem_cons_succ]
  try simp only [List.getElem_cons_zero]
  try simp only [Act.put]
  try simp only [List.setIfInBounds_toArray]
  try simp only [List.set]
  refine wpAnyH_take (i := 3) (v := .bool false) rfl (by kernel_rfl) (by kernel_rfl) (by kernel_rfl) (fun _ _ _ h => h) (Or.inl ⟨by kernel_rfl, fun u hSw => by (try dsimp only at hSw); go_simp; try with_reducible rfl⟩) hHeld ?_
  try simp only [List.getElem_toArray]
  try simp only [List.getElem_cons_succ]
  try simp only [List.getElem_cons_zero]
  try simp only [Act.put]
  try simp only [List.setIfInBounds_toArray]
  try simp only [List.set]
  refine wpAnyH_take (i := 4) (v := .pointer (some ⟨X.heap.size, 1, none⟩)) rfl (by kernel_rfl) (by kernel_rfl) (by kernel_rfl) (fun _ _ _ h => h) (Or.inl ⟨by kernel_rfl, fun u hSw => by (try dsimp only at hSw); go_simp; try with_reducible rfl⟩) hHeld ?_
  try simp only [List.getElem_toArray]
  try simp only [List.getElem_cons_succ]
  try simp only [List.getElem_cons_zero]
  try simp only [Act.put]
  try simp only [List.setIfInBounds_toArray]
  try simp only [List.set]
  refine wpAnyH_take (i := 5) (v := .int .u64 l) rfl (by kernel_rfl) (by kernel_rfl) (by kernel_rfl) (fun _ _ _ h => h) (Or.inl ⟨by kernel_rfl, fun u hSw => by (try dsimp only at hSw); go_simp; try with_reducible rfl⟩) hHeld ?_
  try simp only [List.getElem_toArray]
  try simp only [List.getElem_cons_succ]
  try simp only [List.getElem_cons_zero]
  try simp only [Act.put]
  try simp only [List.setIfInBounds_toArray]
  try simp only [List.set]
  refine wpAnyH_take (i := 6) (v := .bool false) rfl (by kernel_rfl) (by kernel_rfl) (by kernel_rfl) (fun _ _ _ h => h) (Or.inl ⟨by kernel_rfl, fun u hSw => by (try dsimp only at hSw); go_simp; try with_reducible rfl⟩) hHeld ?_
  try simp only [List.getElem_toArray]
  try simp only [List.getElem_cons_succ]
  try simp only [List.getElem_cons_zero]
  try simp only [Act.put]
  try simp only [List.setIfInBounds_toArray]
  try simp only [List.set]
  refine wpAnyH_take (i := 7) (v := .bool false) rfl (by kernel_rfl) (by kernel_rfl) (by kernel_rfl) (fun _ _ _ h => h) (Or.inl ⟨by kernel_rfl, fun u hSw => by (try dsimp only at hSw); go_simp; try with_reducible rfl⟩) hHeld ?_
  try simp only [List.getElem_toArray]
  try simp only [List.getElem_cons_succ]
  try simp only [List.getElem_cons_zero]
  try simp only [Act.put]
  try simp only [List.setIfInBounds_toArray]
  try simp only [List.set]
  refine wpAnyH_take (i := 8) (v := .bool false) rfl (by kernel_rfl) (by kernel_rfl) (by kernel_rfl) (fun _ _ _ h => h) (Or.inl ⟨by kernel_rfl, fun u hSw => by (try dsimp only at hSw); go_simp; try with_reducible rfl⟩) hHeld ?_
  try simp only [List.getElem_toArray]
  try simp only [List.getElem_cons_succ]
  try simp only [List.getElem_cons_zero]
  try simp only [Act.put]
  try simp only [List.setIfInBounds_toArray]
  try simp only [List.set]
  refine wpAnyH_take (i := 9) (v := .pointer (some ⟨X.heap.size, 0, none⟩)) rfl (by kernel_rfl) (by kernel_rfl) (by kernel_rfl) (fun _ _ _ h => h) (Or.inl ⟨by kernel_rfl, fun u hSw => by (try dsimp only at hSw); go_simp; try with_reducible rfl⟩) hHeld ?_
  try simp only [List.getElem_toArray]
  try simp only [List.getElem_cons_succ]
  try simp only [List.getElem_cons_zero]
  try simp only [Act.put]
  try simp only [List.setIfInBounds_toArray]
  try simp only [List.set]
  refine wpAnyH_take (i := 10) (v := .int .u64 p) rfl (by kernel_rfl) (by kernel_rfl) (by kernel_rfl) (fun _ _ _ h => h) (Or.inl ⟨by kernel_rfl, fun u hSw => by (try dsimp only at hSw); go_simp; try with_reducible rfl⟩) hHeld ?_
  try simp only [List.getElem_toArray]
  try simp only [List.getElem_cons_succ]
  try simp only [List.getElem_cons_zero]
  try simp only [Act.put]
  try simp only [List.setIfInBounds_toArray]
  try simp only [List.set]
  refine wpAnyH_take (i := 11) (v := .agg (pgC zs)) rfl (by kernel_rfl) (by kernel_rfl) (by kernel_rfl) (fun _ _ _ h => h) (yieldsIf_loadPg (by kernel_rfl) _ rfl w.heap.size rfl zs (fun W hS => hS.2.2.1)) hHeld ?_
  try simp only [List.getElem_toArray]
  try simp only [List.getElem_cons_succ]
  try simp only [List.getElem_cons_zero]
  try simp only [Act.put]
  try simp only [List.setIfInBounds_toArray]
  try simp only [List.set]
  refine wpAnyH_ready (rs := [12]) (by kernel_rfl) (by simp) ?_
  refine AllReadyH.cons rfl (fun K hK => ?_) AllReadyH.nil
  go_simp
  go_wp2_with (go_at_call 212; refine (low_any zs _ h).mono ?_; rintro e w' ⟨rfl, hb⟩; rw [← HM.out])
  refine hK.out _ _ (SpW.keep hHeld hb) (fun hHeld => ?_)
  clear hK K
  try simp only [Act.put]
  try simp only [List.setIfInBounds_toArray]
  try simp only [List.set]
  refine wpAnyH_take (i := 13) (v := .bool true) rfl (by kernel_rfl) (by kernel_rfl) (by kernel_rfl) (fun _ _ _ h => h) (Or.inl ⟨by kernel_rfl, fun u hSw => by (try dsimp only at hSw); go_simp; try with_reducible rfl⟩) hHeld ?_
  try simp only [List.getElem_toArray]
  try simp only [List.getElem_cons_succ]
  try simp only [List.getElem_cons_zero]
  try simp only [Act.put]
  try simp only [List.setIfInBounds_toArray]
  try simp only [List.set]
  refine wpAnyH_take (i := 14) (v := .bool true) rfl (by kernel_rfl) (by kernel_rfl) (by kernel_rfl) (fun _ _ _ h => h) (Or.inl ⟨by kernel_rfl, fun u hSw => by (try dsimp only at hSw); go_simp; try with_reducible rfl⟩) hHeld ?_
  try simp only [List.getElem_toArray]
  try simp only [List.getElem_cons_succ]
  try simp only [List.getElem_cons_zero]
  try simp only [Act.put]
  try simp only [List.setIfInBounds_toArray]
  try simp only [List.set]
  refine wpAnyH_take (i := 15) (v := .bool true) rfl (by kernel_rfl) (by kernel_rfl) (by kernel_rfl) (fun _ _ _ h => h) (Or.inl ⟨by kernel_rfl, fun u hSw => by (try dsimp only at hSw); go_simp; try with_reducible rfl⟩) hHeld ?_
  try simp only [List.getElem_toArray]
  try simp only [List.getElem_cons_succ]
  try simp only [List.getElem_cons_zero]
  try simp only [Act.put]
  try simp only [List.setIfInBounds_toArray]
  try simp only [List.set]
  refine wpAnyH_take (i := 16) (v := undef) rfl (by kernel_rfl) (by kernel_rfl) (by kernel_rfl) (fun _ _ _ h => h) (Or.inr ⟨by kernel_rfl, rfl⟩) hHeld ?_
  try simp only [List.getElem_toArray]
  try simp only [List.getElem_cons_succ]
  try simp only [List.getElem_cons_zero]
  try simp only [Act.put]
  try simp only [List.setIfInBounds_toArray]
  try simp only [List.set]
  refine wpAnyH_take (i := 17) (v := undef) rfl (by kernel_rfl) (by kernel_rfl) (by kernel_rfl) (fun _ _ _ h => h) (Or.inr ⟨by kernel_rfl, rfl⟩) hHeld ?_
  try simp only [List.getElem_toArray]
  try simp only [List.getElem_cons_succ]
  try simp only [List.getElem_cons_zero]
  try simp only [Act.put]
  try simp only [List.setIfInBounds_toArray]
  try simp only [List.set]
  refine wpAnyH_take (i := 18) (v := undef) rfl (by kernel_rfl) (by kernel_rfl) (by kernel_rfl) (fun _ _ _ h => h) (Or.inr ⟨by kernel_rfl, rfl⟩) hHeld ?_
  try simp only [List.getElem_toArray]
  try simp only [List.getElem_cons_succ]
  try simp only [List.getElem_cons_zero]
  try simp only [Act.put]
  try simp only [List.setIfInBounds_toArray]
  try simp only [List.set]
  refine wpAnyH_take (i := 19) (v := .bool true) rfl (by kernel_rfl) (by kernel_rfl) (by kernel_rfl) (fun _ _ _ h => h) (Or.inl ⟨by kernel_rfl, fun u hSw => by (try dsimp only at hSw); go_simp; try with_reducible rfl⟩) hHeld ?_
  try simp only [List.getElem_toArray]
  try simp only [List.getElem_cons_succ]
  try simp only [List.getElem_cons_zero]
  try simp only [Act.put]
  try simp only [List.setIfInBounds_toArray]
  try simp only [List.set]
  refine wpAnyH_take (i := 20) (v := .bool true) rfl (by kernel_rfl) (by kernel_rfl) (by kernel_rfl) (fun _ _ _ h => h) (Or.inl ⟨by kernel_rfl, fun u hSw => by (try dsimp only at hSw); go_simp; try with_reducible rfl⟩) hHeld ?_
  try simp only [List.getElem_toArray]
  try simp only [List.getElem_cons_succ]
  try simp only [List.getElem_cons_zero]
  try simp only [Act.put]
  try simp only [List.setIfInBounds_toArray]
  try simp only [List.set]
  refine wpAnyH_done (by kernel_rfl) ?_ _
  go_wp2_with fail
  go_ret
  exact ⟨rfl, hHeld.2.2.2⟩


set_option maxHeartbeats 2000000 in
theorem isSpanWrong_above (zs : List Int) (p l : Nat) (w : World) (h : IsPg zs) (hp : p ≤ 255) (hp0 : p ≠ 0) (hl : l ≤ 255) (hl0 : l ≠ 0) (hlow : nb zs 1 ≤ p) :
    Calls Try.prog 213 #[.agg (pgC zs), .agg #[.int .u64 p, .int .u64 l]] w fun e w' => e = .returned (.bool (decide (64 < p + l))) ∧ Below w.heap.size w w' := by
  obtain ⟨X, hX, hA, g⟩ := boxed zs w h
  have hlt := hA.lt
  have dp : ((p : Int) == 0) = false := by simp; omega
  have dl : ((l : Int) == 0) = false := by simp; omega
  have hlb := nb_lt h 1
  obtain ⟨m, hm⟩ : ∃ m, m = nb zs 1 := ⟨_, rfl⟩
  have HM : Hid (m = nb zs 1) := hm
  rw [← hm] at hlow hlb
  clear hm
  have dm : decide (p < m) = false := by simp; omega
  obtain ⟨q, hq⟩ : ∃ q, q = p + l := ⟨_, rfl⟩
  have HQ : Hid (q = p + l) := hq
  clear hq
  go_enter Try.func213, Try.ntmps213
  go_wp2_with fail
  refine (isEmpty_any p l _).mono ?_
  rintro e w5 ⟨rfl, g5⟩
  rw [show (p == 0 && l == 0) = false by simp [hp0]]
  have x0 : w5.cell? ⟨X.heap.size, 0, none⟩ = some (.int .u64 p) := (g5.cell (p := ⟨X.heap.size, 0, none⟩) (by simp)).trans (by simp [go_sem])
  have x1 : w5.cell? ⟨X.heap.size, 1, none⟩ = some (.int .u64 l) := (g5.cell (p := ⟨X.heap.size, 1, none⟩) (by simp)).trans (by simp [go_sem])
  have hX5 : Below X.heap.size X w5 := Below.trans ((Below.refl _ _).alloc (Nat.le_refl _) _) (g5.mono (by simp))
  have hA := hA.grown hX5
  have g : Below w.heap.size w w5 := g.trans (hX5.mono g.size)
  clear g5 hp0 hl0 hX5 hX
  go_wp2_with fail
  refine wp_region_held_drew (S := fun V => V.cell? ⟨X.heap.size, 0, none⟩ = some (.int .u64 p) ∧ V.cell? ⟨X.heap.size, 1, none⟩ = some (.int .u64 l) ∧ Arr V w.heap.size zs ∧ Below w.heap.size w V) (by kernel_rfl) ⟨x0, x1, hA.grown (Below.refl _ _).drew, g.drew⟩ (fun hHeld => ?_)
  refine wpAnyH_take (i := 0) (v := .pointer (some ⟨X.heap.size, 0, none⟩)) rfl (by kernel_rfl) (by kernel_rfl) (by kernel_rfl) (fun _ _ _ h => h) (Or.inl ⟨by kernel_rfl, fun u hSw => by (try dsimp only at hSw); go_simp; try with_reducible rfl⟩) hHeld ?_
  try simp only [List.getElem_toArray]
  try simp only [List.getElem_cons_succ]
  try simp only [List.getElem_cons_zero]
  try simp only [Act.put]
  try simp only [List.setIfInBounds_toArray]
  try simp only [List.set]
  refine wpAnyH_take (i := 1) (v := .int .u64 p) rfl (by kernel_rfl) (by kernel_rfl) (by kernel_rfl) (fun _ _ _ h => h) (Or.inl ⟨by kernel_rfl, fun u hSw => by (try dsimp only at hSw); go_simp; try with_reducible rfl⟩) hHeld ?_
  try simp only [List.getElem_toArray]
  try simp only [List.getElem_cons_succ]
  try simp only [List.getElem_cons_zero]
  try simp only [Act.put]
  try simp only [List.setIfInBounds_toArray]
  try simp only [List.set]
  refine wpAnyH_take (i := 2) (v := .bool false) rfl (by kernel_rfl) (by kernel_rfl) (by kernel_rfl) (fun _ _ _ h => h) (Or.inl ⟨by kernel_rfl, fun u hSw => by (try dsimp only at hSw); go_simp; try with_reducible rfl⟩) hHeld ?_
  try simp only [List.getElem_toArray]
  try simp only [List.getElem_cons_succ]
  try simp only [List.getElem_cons_zero]
  try simp only [Act.put]
  try simp only [List.setIfInBounds_toArray]
  try simp only [List.set]
  refine wpAnyH_take (i := 3) (v := .bool false) rfl (by kernel_rfl) (by kernel_rfl) (by kernel_rfl) (fun _ _ _ h => h) (Or.inl ⟨by kernel_rfl, fun u hSw => by (try dsimp only at hSw); go_simp; try with_reducible rfl⟩) hHeld ?_
  try simp only [List.getElem_toArray]
  try simp only [List.getElem_cons_succ]
  try simp only [List.getElem_cons_zero]
  try simp only [Act.put]
  try simp only [List.setIfInBounds_toArray]
  try simp only [List.set]
  refine wpAnyH_take (i := 4) (v := .pointer (some ⟨X.heap.size, 1, none⟩)) rfl (by kernel_rfl) (by kernel_rfl) (by kernel_rfl) (fun _ _ _ h => h) (Or.inl ⟨by kernel_rfl, fun u hSw => by (try dsimp only at hSw); go_simp; try with_reducible rfl⟩) hHeld ?_
  try simp only [List.getElem_toArray]
  try simp only [List.getElem_cons_succ]
  try simp only [List.getElem_cons_zero]
  try simp only [Act.put]
  try simp only [List.setIfInBounds_toArray]
  try simp only [List.set]
  refine wpAnyH_take (i := 5) (v := .int .u64 l) rfl (by kernel_rfl) (by kernel_rfl) (by kernel_rfl) (fun _ _ _ h => h) (Or.inl ⟨by kernel_rfl, fun u hSw => by (try dsimp only at hSw); go_simp; try with_reducible rfl⟩) hHeld ?_
  try simp only [List.getElem_toArray]
  try simp only [List.getElem_cons_succ]
  try simp only [List.getElem_cons_zero]
  try simp only [Act.put]
  try simp only [List.setIfInBounds_toArray]
  try simp only [List.set]
  refine wpAnyH_take (i := 6) (v := .bool false) rfl (by kernel_rfl) (by kernel_rfl) (by kernel_rfl) (fun _ _ _ h => h) (Or.inl ⟨by kernel_rfl, fun u hSw => by (try dsimp only at hSw); go_simp; try with_reducible rfl⟩) hHeld ?_
  try simp only [List.getElem_toArray]
  try simp only [List.getElem_cons_succ]
  try simp only [List.getElem_cons_zero]
  try simp only [Act.put]
  try simp only [List.setIfInBounds_toArray]
  try simp only [List.set]
  refine wpAnyH_take (i := 7) (v := .bool false) rfl (by kernel_rfl) (by kernel_rfl) (by kernel_rfl) (fun _ _ _ h => h) (Or.inl ⟨by kernel_rfl, fun u hSw => by (try dsimp only at hSw); go_simp; try with_reducible rfl⟩) hHeld ?_
  try simp only [List.getElem_toArray]
  try simp only [List.getElem_cons_succ]
  try simp only [List.getElem_cons_zero]
  try simp only [Act.put]
  try simp only [List.setIfInBounds_toArray]
  try simp only [List.set]
  refine wpAnyH_take (i := 8) (v := .bool false) rfl (by kernel_rfl) (by kernel_rfl) (by kernel_rfl) (fun _ _ _ h => h) (Or.inl ⟨by kernel_rfl, fun u hSw => by (try dsimp only at hSw); go_simp; try with_reducible rfl⟩) hHeld ?_
  try simp only [List.getElem_toArray]
  try simp only [List.getElem_cons_succ]
  try simp only [List.getElem_cons_zero]
  try simp only [Act.put]
  try simp only [List.setIfInBounds_toArray]
  try simp only [List.set]
  refine wpAnyH_take (i := 9) (v := .pointer (some ⟨X.heap.size, 0, none⟩)) rfl (by kernel_rfl) (by kernel_rfl) (by kernel_rfl) (fun _ _ _ h => h) (Or.inl ⟨by kernel_rfl, fun u hSw => by (try dsimp only at hSw); go_simp; try with_reducible rfl⟩) hHeld ?_
  try simp only [List.getElem_toArray]
  try simp only [List.getElem_cons_succ]
  try simp only [List.getElem_cons_zero]
  try simp only [Act.put]
  try simp only [List.setIfInBounds_toArray]
  try simp only [List.set]
  refine wpAnyH_take (i := 10) (v := .int .u64 p) rfl (by kernel_rfl) (by kernel_rfl) (by kernel_rfl) (fun _ _ _ h => h) (Or.inl ⟨by kernel_rfl, fun u hSw => by (try dsimp only at hSw); go_simp; try with_reducible rfl⟩) hHeld ?_
  try simp only [List.getElem_toArray]
  try simp only [List.getElem_cons_succ]
  try simp only [List.getElem_cons_zero]
  try simp only [Act.put]
  try simp only [List.setIfInBounds_toArray]
  try simp only [List.set]
  refine wpAnyH_take (i := 11) (v := .agg (pgC zs)) rfl (by kernel_rfl) (by kernel_rfl) (by kernel_rfl) (fun _ _ _ h => h) (yieldsIf_loadPg (by kernel_rfl) _ rfl w.heap.size rfl zs (fun W hS => hS.2.2.1)) hHeld ?_
  try simp only [List.getElem_toArray]
  try simp only [List.getElem_cons_succ]
  try simp only [List.getElem_cons_zero]
  try simp only [Act.put]
  try simp only [List.setIfInBounds_toArray]
  try simp only [List.set]
  refine wpAnyH_ready (rs := [12]) (by kernel_rfl) (by simp) ?_
  refine AllReadyH.cons rfl (fun K hK => ?_) AllReadyH.nil
  go_simp
  go_wp2_with (go_at_call 212; refine (low_any zs _ h).mono ?_; rintro e w' ⟨rfl, hb⟩; rw [← HM.out])
  refine hK.out _ _ (SpW.keep hHeld hb) (fun hHeld => ?_)
  clear hK K
  try simp only [Act.put]
  try simp only [List.setIfInBounds_toArray]
  try simp only [List.set]
  refine wpAnyH_take (i := 13) (v := .bool false) rfl (by kernel_rfl) (by kernel_rfl) (by kernel_rfl) (fun _ _ _ h => h) (Or.inl ⟨by kernel_rfl, fun u hSw => by (try dsimp only at hSw); go_simp; try with_reducible rfl⟩) hHeld ?_
  try simp only [List.getElem_toArray]
  try simp only [List.getElem_cons_succ]
  try simp only [List.getElem_cons_zero]
  try simp only [Act.put]
  try simp only [List.setIfInBounds_toArray]
  try simp only [List.set]
  refine wpAnyH_take (i := 14) (v := .bool false) rfl (by kernel_rfl) (by kernel_rfl) (by kernel_rfl) (fun _ _ _ h => h) (Or.inl ⟨by kernel_rfl, fun u hSw => by (try dsimp only at hSw); go_simp; try with_reducible rfl⟩) hHeld ?_
  try simp only [List.getElem_toArray]
  try simp only [List.getElem_cons_succ]
  try simp only [List.getElem_cons_zero]
  try simp only [Act.put]
  try simp only [List.setIfInBounds_toArray]
  try simp only [List.set]
  refine wpAnyH_take (i := 15) (v := .bool false) rfl (by kernel_rfl) (by kernel_rfl) (by kernel_rfl) (fun _ _ _ h => h) (Or.inl ⟨by kernel_rfl, fun u hSw => by (try dsimp only at hSw); go_simp; try with_reducible rfl⟩) hHeld ?_
  try simp only [List.getElem_toArray]
  try simp only [List.getElem_cons_succ]
  try simp only [List.getElem_cons_zero]
  try simp only [Act.put]
  try simp only [List.setIfInBounds_toArray]
  try simp only [List.set]
  refine wpAnyH_take (i := 16) (v := .agg #[.int .u64 p, .int .u64 l]) rfl (by kernel_rfl) (by kernel_rfl) (by kernel_rfl) (fun _ _ _ h => h) (Or.inl ⟨by kernel_rfl, fun u hSw => by (try dsimp only at hSw); go_simp; try with_reducible rfl⟩) hHeld ?_
  try simp only [List.getElem_toArray]
  try simp only [List.getElem_cons_succ]
  try simp only [List.getElem_cons_zero]
  try simp only [Act.put]
  try simp only [List.setIfInBounds_toArray]
  try simp only [List.set]
  refine wpAnyH_ready (rs := [17]) (by kernel_rfl) (by simp) ?_
  refine AllReadyH.cons rfl (fun K hK => ?_) AllReadyH.nil
  go_simp
  go_wp2_with (go_at_call 191; refine (spanEnd_any p l _ hp hl).mono ?_; rintro e w' ⟨rfl, hb⟩; rw [← HQ.out])
  refine hK.out _ _ (SpW.keep hHeld hb) (fun hHeld => ?_)
  clear hK K
  try simp only [Act.put]
  try simp only [List.setIfInBounds_toArray]
  try simp only [List.set]
  refine wpAnyH_take (i := 18) (v := .bool (decide ((64 : Int) < (q : Int)))) rfl (by kernel_rfl) (by kernel_rfl) (by kernel_rfl) (fun _ _ _ h => h) (Or.inl ⟨by kernel_rfl, fun u hSw => by (try dsimp only at hSw); go_simp; try with_reducible rfl⟩) hHeld ?_
  try simp only [List.getElem_toArray]
  try simp only [List.getElem_cons_succ]
  try simp only [List.getElem_cons_zero]
  try simp only [Act.put]
  try simp only [List.setIfInBounds_toArray]
  try simp only [List.set]
  refine wpAnyH_take (i := 19) (v := .bool (decide ((64 : Int) < (q : Int)))) rfl (by kernel_rfl) (by kernel_rfl) (by kernel_rfl) (fun _ _ _ h => h) (Or.inl ⟨by kernel_rfl, fun u hSw => by (try dsimp only at hSw); go_simp; try with_reducible rfl⟩) hHeld ?_
  try simp only [List.getElem_toArray]
  try simp only [List.getElem_cons_succ]
  try simp only [List.getElem_cons_zero]
  try simp only [Act.put]
  try simp only [List.setIfInBounds_toArray]
  try simp only [List.set]
  refine wpAnyH_take (i := 20) (v := .bool (decide ((64 : Int) < (q : Int)))) rfl (by kernel_rfl) (by kernel_rfl) (by kernel_rfl) (fun _ _ _ h => h) (Or.inl ⟨by kernel_rfl, fun u hSw => by (try dsimp only at hSw); go_simp; try with_reducible rfl⟩) hHeld ?_
  try simp only [List.getElem_toArray]
  try simp only [List.getElem_cons_succ]
  try simp only [List.getElem_cons_zero]
  try simp only [Act.put]
  try simp only [List.setIfInBounds_toArray]
  try simp only [List.set]
  refine wpAnyH_done (by kernel_rfl) ?_ _
  go_wp2_with fail
  go_ret
  exact ⟨by rw [← HQ.out, show decide (64 < q) = decide ((64 : Int) < (q : Int)) from decide_eq_decide.2 (by omega)]; rfl, hHeld.2.2.2⟩


theorem isSpanWrong_any (zs : List Int) (p l : Nat) (w : World) (h : IsPg zs) (hp : p ≤ 255) (hl : l ≤ 255) :
    Calls Try.prog 213 #[.agg (pgC zs), .agg #[.int .u64 p, .int .u64 l]] w fun e w' => e = .returned (.bool (wrongB (nb zs 1) p l)) ∧ Below w.heap.size w w' := by
  by_cases hp0 : p = 0
  · subst hp0
    by_cases hl0 : l = 0
    · subst hl0
      exact isSpanWrong_empty zs w h
    · rw [show wrongB (nb zs 1) 0 l = true by simp [wrongB, hl0]]
      exact isSpanWrong_zero zs l w h hl0
  · by_cases hl0 : l = 0
    · subst hl0
      rw [show wrongB (nb zs 1) p 0 = true by simp [wrongB, hp0]]
      exact isSpanWrong_none zs p w h hp0
    · by_cases hlow : p < nb zs 1
      · rw [show wrongB (nb zs 1) p l = true by simp [wrongB, hp0, hlow]]
        exact isSpanWrong_below zs p l w h hp hp0 hl hl0 hlow
      · rw [show wrongB (nb zs 1) p l = decide (64 < p + l) by
          have e1 : (p == 0) = false := beq_eq_false_iff_ne.2 hp0
          have e2 : (l == 0) = false := beq_eq_false_iff_ne.2 hl0
          have e3 : decide (p < nb zs 1) = false := decide_eq_false hlow
          simp [wrongB, e1, e2, e3]]
        exact isSpanWrong_above zs p l w h hp hp0 hl hl0 (by omega)

end Go.Proofs.Yteebbaleejbodaa
