/-
  The model's l3Bent: runs, whatever is drawn.
-/
import Derived.Test.YtcjkjenebnodbaaDoorSDrd
import Derived.Shelf.Abstract

namespace Go.Proofs.YtcjkjenebnodbaaDoor
open Go.RowKit
set_option linter.unusedVariables false

/-- Runs that are few and short. -/
structure RnOk (n : Nat) (Z : Nat → List Int) : Prop where
  few : n ≤ 70
  len : ∀ i, i < n → (Z i).length ≤ 64
  bd : ∀ i, i < n → ∀ z ∈ Z i, 0 ≤ z ∧ z ≤ 255
theorem RunsOk.rn {n : Nat} {Z : Nat → List Int} (h : RunsOk n Z) : RnOk n Z := ⟨by have := h.few; omega, fun i hi => (h.len i hi).2, h.bd⟩
theorem took_max (Z : Nat → List Int) (m : Nat) : ∀ n, (∀ i, i < n → (Z i).length ≤ m) → took Z n ≤ m * n
  | 0, _ => by simp [took]
  | n + 1, h => by
    have h1 := took_max Z m n (fun i hi => h i (by omega))
    have h2 := h n (by omega)
    simp only [took]
    rw [Nat.mul_succ]
    omega
theorem RnOk.tot {n : Nat} {Z : Nat → List Int} (h : RnOk n Z) : took Z n ≤ 4480 := by
  have h1 := took_max Z 64 n h.len
  have h2 := h.few
  omega
/-- What l3Bent hands back. -/
def BrPost (b : Nat) (w : World) (e : Ending) (w' : World) : Prop := ∃ a l c P A C Z, e = .returned (.slice a l c) ∧ RnOk l Z ∧ RunsLo w.heap.size w' a l P A C Z ∧ Dr.Turned b (b + 1) w w'

section
variable {n₀ : Nat} {W W' : World} {v : Value} {k : Nat} {P : Nat → Int} {V : Nat → Value} {Z : Nat → List Int} {B : Nat → Nat}
theorem ownsRow_drTurned {base e size n lo hi : Nat} {xs : List Value} (h : W.ownsRow base e size v n xs) (ht : Dr.Turned lo hi W W') (hb : hi ≤ base) : W'.ownsRow base e size v n xs := by
  obtain ⟨hl, h1 | ⟨g, cap, cur, rfl, hbb, hc, r⟩⟩ := h
  · exact ⟨hl, .inl h1⟩
  · exact ⟨hl, .inr ⟨g, cap, cur, rfl, hbb, (ht.block g (Array.getElem?_eq_some_iff.1 hc).1 (by omega)).trans hc, r⟩⟩
theorem Dlt.drTurned {lo hi : Nat} (h : Dlt n₀ W v k P V Z B) (ht : Dr.Turned lo hi W W') (hb : hi ≤ n₀) : Dlt n₀ W' v k P V Z B :=
  ⟨ownsRow_drTurned h.row ht hb, fun i hi => ownsRow_drTurned (h.by' i hi) ht (Nat.le_trans hb (h.lo i hi)), h.lo, h.sep, fun i hi => Nat.le_trans (h.hi i hi) ht.size⟩
end

theorem made_at (n i : Nat) (h : i < n) : (madeCells #[.int .i64 0, .slice none 0 0] (n * 2)).toList[i * 2]? = some (.int .i64 0) ∧ (madeCells #[.int .i64 0, .slice none 0 0] (n * 2)).toList[i * 2 + 1]? = some (.slice none 0 0) := by
  have h0 : i * 2 < n * 2 := by omega
  have h1 : i * 2 + 1 < n * 2 := by omega
  constructor
  · simp [madeCells, h0]
  · have e : (i * 2 + 1) % 2 = 1 := by omega
    simp [madeCells, h1, e]
theorem made_runs {w w' : World} {n : Nat} (h : w'.ownsRow w.heap.size 82 2 (.slice (some ⟨w.heap.size, 0, none⟩) n n) n (madeCells (Value.agg #[.int .i64 0, .slice none 0 0]).cells (n * 2)).toList) : RunsLo w.heap.size w' (some ⟨w.heap.size, 0, none⟩) n (fun _ => 0) (fun _ => none) (fun _ => 0) (fun _ => []) := by
  refine .inr ⟨w.heap.size, 0, rfl, Nat.le_refl _, fun i hi => ?_⟩
  have hm := made_at n i hi
  rw [show (Value.agg #[.int .i64 0, .slice none 0 0]).cells = #[.int .i64 0, .slice none 0 0] from rfl] at h
  refine ⟨?_, ?_, .inl rfl⟩
  · rw [Nat.zero_add, h.cellAt (i * 2) (by omega)]; exact hm.1
  · rw [Nat.zero_add, h.cellAt (i * 2 + 1) (by omega)]; exact hm.2

set_option maxRecDepth 20000 in
set_option maxHeartbeats 4000000 in
theorem l3Bent_any (b : Nat) (a : Option Addr) (n c : Nat) (zs : List Int) (i : Int) (w : World) (h : Dr.SrcAt w b a n c zs i) (i9 : i ≤ 98000) :
    Calls Tryd.prog 54 #[.pointer (some ⟨b, 0, none⟩)] w fun e w' => BrPost b w e w' ∧ ∃ j, j ≤ i + 400 ∧ Dr.SrcAt w' b a n c zs j := by
  obtain ⟨i5, hi5, hz50, hz51, hz52⟩ := info35
  have hbl := h.lt
  go_enter Tryd.func54, Tryd.ntmps54
  go_wp2_with fail
  refine (Dr.l3Two_any b a n c zs i w h (by omega)).mono ?_
  rintro e w1 ⟨g, dd, ys, g2, d2, ys2, mid, rfl, hdd, hd2, hTw, hT, ⟨j, hj, hS⟩⟩
  have hb1 := hT.size
  go_wp2_with fail
  refine (Df.l3DiffD_any _ ys dd _ ys2 d2 _ hTw.l hTw.l2 hTw.y.reads hTw.y2.reads).mono ?_
  rintro e w2 ⟨a', c', V, B, rfl, g1, hD⟩
  have hok := runsOk_dn ys ys2 hTw.l2 hTw.b2
  generalize (Df.dn ys ys2 64 0).length = m at hD hok ⊢
  generalize Df.rP (Df.dn ys ys2 64 0) = P at hD
  generalize Df.rZ ys2 (Df.dn ys ys2 64 0) = Z at hD hok
  have hfew := hok.few
  have HZ : Hid (RunsOk m Z) := hok
  clear hok
  have hS := hS.below g1
  have hT := hT.trans (Dr.Turned.ofBelow g1)
  have hsz2 := g1.size
  clear g1 hTw
  generalize hn₀ : w1.heap.size = n₀ at hD hsz2 hb1
  clear hn₀
  go_wp2_with fail
  refine (Dr.l1Next_any b a n c zs j 10 _ hS (by omega) (by omega) (by omega)).mono ?_
  rintro e w3 ⟨⟨r, rfl, r0, r1⟩, ht, hS⟩
  have hD := hD.drTurned ht (by omega)
  have hT := hT.trans ht
  have hsz3 := ht.size
  clear ht
  have hcase : r = 0 ∨ r = 1 ∨ 2 ≤ r := by omega
  rcases hcase with rfl | rfl | hr
  · have hb3 := hS.lt
    go_wp2_with fail
    refine (Dr.l1Pick_any b w3.heap.size 4 a n c zs [-1, 0, 63, 64] _ _ (hS.below (by go_grown)) (by omega) ?_ rfl (by omega) (by omega) hb3).mono ?_
    · intro k hk
      match k, hk with
      | 0, _ => simp [go_sem]
      | 1, _ => simp [go_sem]
      | 2, _ => simp [go_sem]
      | 3, _ => simp [go_sem]
    rintro e w4 ⟨⟨q, hq, rfl⟩, ht, hS⟩
    generalize ([-1, 0, 63, 64] : List Int).getD q 0 = p
    have gA : ∀ o, Below w3.heap.size w3 (w3.alloc o) := fun o => by go_grown
    have hD := (hD.below (gA _)).drTurned ht (by omega)
    have hT := (hT.trans (Dr.Turned.ofBelow (gA _))).trans ht
    have hsz4 : w3.heap.size ≤ w4.heap.size := Nat.le_trans (gA _).size ht.size
    clear ht hq gA
    go_wp2_with fail
    refine (Dr.l1Next_any b a n c zs _ 4 _ hS (by omega) (by omega) (by omega)).mono ?_
    rintro e w5 ⟨⟨y, rfl, y0, y1⟩, ht, hS⟩
    have hD := hD.drTurned ht (by omega)
    have hT := hT.trans ht
    have hsz5 := ht.size
    clear ht
    obtain ⟨y, rfl⟩ : ∃ y' : Nat, y = y' := ⟨y.toNat, by omega⟩
    go_wp2_with fail
    refine (Dr.l1Some_any b a n c zs _ y _ hS (by omega) (by omega)).mono ?_
    rintro e w6 ⟨u, rfl, ⟨xs, xl, xb, hu⟩, ht, hS⟩
    have hbV : ∀ i, i < m → ∀ g, (V i).ownBlock = some g → g < w5.heap.size := fun i hi g e => ((hD.by' i hi).lt g e).2
    have hD := hD.drTurned ht (by omega)
    have hT := hT.trans ht
    have hsz6 := ht.size
    have hsz := hT.size
    clear ht
    obtain ⟨au, cu, rfl⟩ : ∃ au cu, u = .slice au y cu := by
      rcases hu.2 with ⟨e, h0⟩ | ⟨g', cap, cur, e, _⟩
      · exact ⟨none, 0, by rw [e, h0]⟩
      · exact ⟨_, _, e⟩
    have gL : Below w6.heap.size w6 (w6.alloc (.cells #[.int .i64 p, .slice au y cu] 82)) := by go_grown
    go_wp2_with (at_builtin; refine wpList_append_own _ rfl _ _ 25 rfl n₀ 82 i5 (.agg #[.int .i64 0, .slice none 0 0]) 2 32 Tryd.underlying25 hi5 hz50 hz51 hz52 rfl (by decide) _ _ _ rfl (hD.row.alloc _) ⟨w6.heap.size, 0, none⟩ 1 1 [.int .i64 p, .slice au y cu] rfl rfl ?n1 ?n2 ?n3 ?n4 ?n5 ?_)
    case n1 =>
      intro j u hu
      match j, hu with
      | 0, hu => simp at hu; subst hu; simp [go_sem, Addr.add]
      | 1, hu => simp at hu; subst hu; simp [go_sem, Addr.add]
    case n2 =>
      intro u hu
      simp at hu
      rcases hu with rfl | rfl <;> rfl
    case n3 => unfold maxLen; omega
    case n4 => omega
    case n5 => simp; omega
    intro v' w7 hown' hgrow _
    have hD := (hD.below gL).congr (P' := fun i => if i = m then p else P i) (Z' := fun i => if i = m then xs else Z i) (fun i hi => ⟨(if_neg (by omega)).symm, (if_neg (by omega)).symm⟩)
    have hu := ownsRow_below hu gL
    have hDc : dcells P V m = dcells (fun i => if i = m then p else P i) V m := dcells_congr m (fun i hi => ⟨(if_neg (by omega)).symm, rfl⟩)
    rw [hDc] at hown'
    have hD7 := hD.add (v' := v') (u := .slice au y cu) (b := w5.heap.size) (by simp only [if_true]; rw [xl]; exact hu) hbV (by omega) (by simp; omega) (by simpa using hown') hgrow
    have hlo : ∀ j, (Value.slice a' m c').ownBlock = some j → n₀ ≤ j := fun j e => (hD.row.lt j e).1
    have hB7 : Below w.heap.size w6 w7 := Below.grown ((Below.refl w.heap.size w6).alloc (by omega) _) hgrow (by simp; omega) (fun j e => Nat.le_trans (by omega) (hlo j e))
    have hT7 : Dr.Turned b (b + 1) w w7 := ⟨hB7.os.trans hT.os, hB7.tape.trans hT.tape, hB7.output.trans hT.output, Nat.le_trans hT.size hB7.size, fun q hq hn => (hB7.block q hq).trans (hT.block q hq hn)⟩
    have hS7 := hS.low hB7 hbl
    have HRn : Hid (BrPost b w (.returned v') w7 ∧ ∃ j, j ≤ i + 400 ∧ Dr.SrcAt w7 b a n c zs j) := by
      obtain ⟨a1, c1, A, C, e1, hR⟩ := hD7.runsLo
      refine ⟨⟨a1, m + 1, c1, _, A, C, _, by rw [e1], ⟨by omega, fun i hi => ?_, fun i hi z hz => ?_⟩, hR.mono (by omega), hT7⟩, ⟨_, by omega, hS7⟩⟩
      · by_cases e : i = m
        · simp only [e, if_true]; omega
        · simp only [e, if_false]; exact (HZ.out.len i (by omega)).2
      · by_cases e : i = m
        · simp only [e, if_true] at hz; exact xb z hz
        · simp only [e, if_false] at hz; exact HZ.out.bd i (by omega) z hz
    clear hD7 hD hown' hgrow hDc hlo hB7 hu
    go_wp2_with fail
    go_ret
    exact HRn.out
  · obtain ⟨wm, hrun, hown, hgr⟩ := run_make_full (P := Tryd.prog) (w := w3) w3.heap.size 25 82 i5 (.agg #[.int .i64 0, .slice none 0 0]) 2 Tryd.underlying25 hi5 hz50 hz51 .i64 .i64 65 (by rw [hz52]; omega) (by unfold maxLen; omega) (Nat.le_refl _)
    have hrun : (Instr.makeSlice 25 (.int .i64 65) (.int .i64 65)).run Tryd.prog w3 = .ok (.slice (some ⟨w3.heap.size, 0, none⟩) 65 65) wm := hrun
    have gm : Below w3.heap.size w3 wm := Below.grown (Below.refl _ _) hgr (Nat.le_refl _) (fun k hk => by cases hk)
    have hT := hT.trans (Dr.Turned.ofBelow gm)
    have HRn : Hid (BrPost b w (.returned (.slice (some ⟨w3.heap.size, 0, none⟩) 65 65)) wm ∧ ∃ j, j ≤ i + 400 ∧ Dr.SrcAt wm b a n c zs j) := ⟨⟨_, 65, 65, _, _, _, _, rfl, ⟨by omega, fun i hi => by simp, fun i hi z hz => by simp at hz⟩, (made_runs hown).mono (by omega), hT⟩, ⟨_, by omega, hS.below gm⟩⟩
    clear hi5 hz50 hz51 hz52 hown hgr gm hD
    go_wp2_with fail
    go_ret
    exact HRn.out
  · have d0 : (r == 0) = false := by simp; omega
    have d1 : (r == 1) = false := by simp; omega
    have HRn : Hid (BrPost b w (.returned (.slice a' m c')) w3 ∧ ∃ j, j ≤ i + 400 ∧ Dr.SrcAt w3 b a n c zs j) := by
      obtain ⟨a1, c1, A, C, e1, hR⟩ := hD.runsLo
      exact ⟨⟨a1, m, c1, P, A, C, Z, by rw [e1], ⟨by omega, fun i hi => (HZ.out.len i hi).2, HZ.out.bd⟩, hR.mono (by omega), hT⟩, ⟨_, by omega, hS⟩⟩
    clear hD
    go_wp2_with fail
    go_ret
    exact HRn.out

end Go.Proofs.YtcjkjenebnodbaaDoor
