/-
  The model's l3Bent and DrawApplyRuns: runs, whatever is drawn.
-/
import Derived.Test.YtpoccjlngbdjlaaQDTwo
import Derived.Test.YtpoccjlngbdjlaaQLdd
import Derived.Test.YtpoccjlngbdjlaaQDfr

namespace Go.Proofs.Ytpoccjlngbdjlaa
open Go.RowKit Go.Shelf
set_option linter.unusedVariables false

/-- Runs that read, few and short. -/
def RnAt (w : World) (v : Value) : Prop := ∃ a n c P A C Z, v = .slice a n c ∧ RunsRead w a n P A C Z ∧ n ≤ 65 ∧ ∀ i, i < n → (Z i).length ≤ 64

theorem dn_few (za zb : List Int) : (dn za zb 64 0).length ≤ 64 := by
  rcases inc_few (dn_inc za zb 0) with e | e
  · rw [e]; simp
  · omega

theorem made_at (n i : Nat) (h : i < n) : (madeCells #[.int .i64 0, .slice none 0 0] (n * 2)).toList[i * 2]? = some (.int .i64 0) ∧ (madeCells #[.int .i64 0, .slice none 0 0] (n * 2)).toList[i * 2 + 1]? = some (.slice none 0 0) := by
  have h0 : i * 2 < n * 2 := by omega
  have h1 : i * 2 + 1 < n * 2 := by omega
  constructor
  · simp [madeCells, h0]
  · have e : (i * 2 + 1) % 2 = 1 := by omega
    simp [madeCells, h1, e]
theorem made_runs {w w' : World} {n : Nat} (h : w'.ownsRow w.heap.size 35 2 (.slice (some ⟨w.heap.size, 0, none⟩) n n) n (madeCells (Value.agg #[.int .i64 0, .slice none 0 0]).cells (n * 2)).toList) (hn : n ≤ 65) : RnAt w' (.slice (some ⟨w.heap.size, 0, none⟩) n n) := by
  refine ⟨_, n, n, fun _ => 0, fun _ => none, fun _ => 0, fun _ => [], rfl, .inr ⟨w.heap.size, 0, rfl, fun i hi => ?_⟩, hn, fun i hi => by simp⟩
  have hm := made_at n i hi
  rw [show (Value.agg #[.int .i64 0, .slice none 0 0]).cells = #[.int .i64 0, .slice none 0 0] from rfl] at h
  refine ⟨?_, ?_, .inl rfl⟩
  · rw [Nat.zero_add, h.cellAt (i * 2) (by omega)]; exact hm.1
  · rw [Nat.zero_add, h.cellAt (i * 2 + 1) (by omega)]; exact hm.2

set_option maxRecDepth 20000 in
set_option maxHeartbeats 4000000 in
theorem l3Bent_any (b : Nat) (a : Option Addr) (n c : Nat) (zs : List Int) (i : Int) (w : World) (h : Dr.SrcAt w b a n c zs i) (i9 : i ≤ 600) :
    Calls Try.prog 42 #[.pointer (some ⟨b, 0, none⟩)] w fun e w' => ∃ v, e = .returned v ∧ RnAt w' v ∧ Dr.Turned b (b + 1) w w' := by
  obtain ⟨i5, hi5, hz50, hz51, hz52⟩ := info35
  have hbl := h.lt
  go_enter Try.func42, Try.ntmps42
  go_wp2_with fail
  refine (Dr.l3Two_any b a n c zs i w h i9).mono ?_
  rintro e w1 ⟨g, dd, ys, g2, d2, ys2, mid, rfl, hdd, hd2, hTw, hT, ⟨j, hj, hS⟩⟩
  have hb1 := hT.size
  go_wp2_with fail
  refine (l3DiffD_any _ ys dd _ ys2 d2 _ hTw.l hTw.l2 hTw.y.reads hTw.y2.reads).mono ?_
  rintro e w2 ⟨a', c', V, B, rfl, g1, hD⟩
  have hfew := dn_few ys ys2
  have HZ : Hid (∀ i, i < (dn ys ys2 64 0).length → (rZ ys2 (dn ys ys2 64 0) i).length ≤ 64) := fun i hi => by
    rw [rZ_len hTw.l2 (dn_inc ys ys2 0) i hi]
    have := (inc_at (dn_inc ys ys2 0) i hi).2.1
    omega
  generalize (dn ys ys2 64 0).length = m at hD hfew HZ ⊢
  generalize rP (dn ys ys2 64 0) = P at hD
  generalize rZ ys2 (dn ys ys2 64 0) = Z at hD HZ
  have hS := hS.below g1
  have hT := hT.trans (Dr.Turned.ofBelow g1)
  have hsz2 := g1.size
  clear g1 hTw
  generalize hn₀ : w1.heap.size = n₀ at hD hsz2 hb1
  clear hn₀
  go_wp2_with fail
  refine (Dr.l1Next_any b a n c zs j 10 _ hS (by omega) (by omega) (by omega)).mono ?_
  rintro e w3 ⟨⟨r, rfl, r0, r1⟩, ht, hS⟩
  have hD := hD.turned ht (by omega)
  have hT := hT.trans ht
  have hsz3 := ht.size
  clear ht
  have hcase : r = 0 ∨ r = 1 ∨ 2 ≤ r := by omega
  rcases hcase with rfl | rfl | hr
  · have hb3 := hS.lt
    go_wp2_with fail
    refine (Dr.l1Pick_any b w3.heap.size 4 a n c zs [-1, 0, 63, 64] _ _ (hS.below (by go_grown)) (by omega) ?_ rfl (by omega) (by omega) hb3).mono ?_
    · intro k hk
      match k, hk with
      | 0, _ => simp [go_sem]
      | 1, _ => simp [go_sem]
      | 2, _ => simp [go_sem]
      | 3, _ => simp [go_sem]
    rintro e w4 ⟨⟨q, hq, rfl⟩, ht, hS⟩
    generalize ([-1, 0, 63, 64] : List Int).getD q 0 = p
    have gA : ∀ o, Below w3.heap.size w3 (w3.alloc o) := fun o => by go_grown
    have hD := (hD.below (gA _)).turned ht (by omega)
    have hT := (hT.trans (Dr.Turned.ofBelow (gA _))).trans ht
    have hsz4 : w3.heap.size ≤ w4.heap.size := Nat.le_trans (gA _).size ht.size
    clear ht hq gA
    go_wp2_with fail
    refine (Dr.l1Next_any b a n c zs _ 4 _ hS (by omega) (by omega) (by omega)).mono ?_
    rintro e w5 ⟨⟨y, rfl, y0, y1⟩, ht, hS⟩
    have hD := hD.turned ht (by omega)
    have hT := hT.trans ht
    have hsz5 := ht.size
    clear ht
    obtain ⟨y, rfl⟩ : ∃ y' : Nat, y = y' := ⟨y.toNat, by omega⟩
    go_wp2_with fail
    refine (Dr.l1Some_any b a n c zs _ y _ hS (by omega) (by omega)).mono ?_
    rintro e w6 ⟨u, rfl, ⟨xs, xl, xb, hu⟩, ht, hS⟩
    have hbV : ∀ i, i < m → ∀ g, (V i).ownBlock = some g → g < w5.heap.size := fun i hi g e => ((hD.by' i hi).lt g e).2
    have hD := hD.turned ht (by omega)
    have hT := hT.trans ht
    have hsz6 := ht.size
    have hsz := hT.size
    clear ht hS
    obtain ⟨au, cu, rfl⟩ : ∃ au cu, u = .slice au y cu := by
      rcases hu.2 with ⟨e, h0⟩ | ⟨g', cap, cur, e, _⟩
      · exact ⟨none, 0, by rw [e, h0]⟩
      · exact ⟨_, _, e⟩
    have gL : Below w6.heap.size w6 (w6.alloc (.cells #[.int .i64 p, .slice au y cu] 35)) := by go_grown
    go_wp2_with (at_builtin; refine wpList_append_own _ rfl _ _ 26 rfl n₀ 35 i5 (.agg #[.int .i64 0, .slice none 0 0]) 2 32 Try.underlying26 hi5 hz50 hz51 hz52 rfl (by decide) _ _ _ rfl (hD.row.alloc _) ⟨w6.heap.size, 0, none⟩ 1 1 [.int .i64 p, .slice au y cu] rfl rfl ?n1 ?n2 ?n3 ?n4 ?n5 ?_)
    case n1 =>
      intro j u hu
      match j, hu with
      | 0, hu => simp at hu; subst hu; simp [go_sem, Addr.add]
      | 1, hu => simp at hu; subst hu; simp [go_sem, Addr.add]
    case n2 =>
      intro u hu
      simp at hu
      rcases hu with rfl | rfl <;> rfl
    case n3 => unfold maxLen; omega
    case n4 => omega
    case n5 => simp; omega
    intro v' w7 hown' hgrow _
    have hD := (hD.below gL).congr (P' := fun i => if i = m then p else P i) (Z' := fun i => if i = m then xs else Z i) (fun i hi => ⟨(if_neg (by omega)).symm, (if_neg (by omega)).symm⟩)
    have hu := ownsRow_below hu gL
    have hDc : dcells P V m = dcells (fun i => if i = m then p else P i) V m := dcells_congr m (fun i hi => ⟨(if_neg (by omega)).symm, rfl⟩)
    rw [hDc] at hown'
    have hD7 := hD.add (v' := v') (u := .slice au y cu) (b := w5.heap.size) (by simp only [if_true]; rw [xl]; exact hu) hbV (by omega) (by simp; omega) (by simpa using hown') hgrow
    have hlo : ∀ j, (Value.slice a' m c').ownBlock = some j → n₀ ≤ j := fun j e => (hD.row.lt j e).1
    have hB7 : Below w.heap.size w6 w7 := Below.grown ((Below.refl w.heap.size w6).alloc (by omega) _) hgrow (by simp; omega) (fun j e => Nat.le_trans (by omega) (hlo j e))
    have hT7 : Dr.Turned b (b + 1) w w7 := ⟨hB7.os.trans hT.os, hB7.tape.trans hT.tape, hB7.output.trans hT.output, Nat.le_trans hT.size hB7.size, fun q hq hn => (hB7.block q hq).trans (hT.block q hq hn)⟩
    have HRn : Hid (RnAt w7 v') := by
      obtain ⟨a1, c1, A, C, e1, hR⟩ := hD7.reads
      refine ⟨a1, m + 1, c1, _, A, C, _, e1, hR, by omega, fun i hi => ?_⟩
      by_cases e : i = m
      · simp only [e, if_true]; omega
      · simp only [e, if_false]; exact HZ.out i (by omega)
    clear hD7 hD hown' hgrow hDc hlo hB7 hu
    go_wp2_with fail
    go_ret
    exact ⟨_, rfl, HRn.out, hT7⟩
  · obtain ⟨wm, hrun, hown, hgr⟩ := run_make_full (P := Try.prog) (w := w3) w3.heap.size 26 35 i5 (.agg #[.int .i64 0, .slice none 0 0]) 2 Try.underlying26 hi5 hz50 hz51 .i64 .i64 65 (by rw [hz52]; omega) (by unfold maxLen; omega) (Nat.le_refl _)
    have hrun : (Instr.makeSlice 26 (.int .i64 65) (.int .i64 65)).run Try.prog w3 = .ok (.slice (some ⟨w3.heap.size, 0, none⟩) 65 65) wm := hrun
    have gm : Below w3.heap.size w3 wm := Below.grown (Below.refl _ _) hgr (Nat.le_refl _) (fun k hk => by cases hk)
    have HRn : Hid (RnAt wm (.slice (some ⟨w3.heap.size, 0, none⟩) 65 65)) := made_runs hown (by omega)
    have hT := hT.trans (Dr.Turned.ofBelow gm)
    clear hi5 hz50 hz51 hz52 hown hgr gm hD
    go_wp2_with fail
    go_ret
    exact ⟨_, rfl, HRn.out, hT⟩
  · have d0 : (r == 0) = false := by simp; omega
    have d1 : (r == 1) = false := by simp; omega
    have HRn : Hid (RnAt w3 (.slice a' m c')) := by
      obtain ⟨a1, c1, A, C, e1, hR⟩ := hD.reads
      exact ⟨a1, m, c1, P, A, C, Z, e1, hR, by omega, HZ.out⟩
    clear hD
    go_wp2_with fail
    go_ret
    exact ⟨_, rfl, HRn.out, hT⟩

set_option maxHeartbeats 1000000 in
theorem drawApplyRuns_any (a : Option Addr) (n c : Nat) (zs : List Int) (w : World) (rd : Dr.Reads w a zs) (hn : zs.length = n) (hm : n ≤ 1048576) (hz : ∀ z ∈ zs, 0 ≤ z ∧ z ≤ 255) :
    Calls Try.prog 14 #[.slice a n c] w fun e w' => ∃ v u, e = .returned (.tuple #[v, u]) ∧ Dr.BtAt w.heap.size w' v ∧ RnAt w' u ∧ Below w.heap.size w w' := by
  go_enter Try.func14, Try.ntmps14
  go_wp2_with fail
  refine (Dr.l1Source_any a n c zs w rd hn hm hz).mono ?_
  rintro e w1 ⟨rfl, g1, hlt, hS⟩
  go_wp2_with fail
  refine (Dr.l2Bent_any _ a n c zs 0 w1 hS (by omega)).mono ?_
  rintro e w2 ⟨v, rfl, hB, hT, ⟨j, hj, hS⟩⟩
  have hsz := hT.size
  go_wp2_with fail
  refine (l3Bent_any _ a n c zs j _ hS (by omega)).mono ?_
  rintro e w3 ⟨u, rfl, hR, ht⟩
  have g : Below w.heap.size w w3 := (g1.trans (hT.toBelow (Nat.le_of_lt hlt) (Nat.le_refl _))).trans (ht.toBelow (by omega) (Nat.le_refl _))
  have hB3 : Dr.BtAt w.heap.size w3 v := by
    obtain ⟨g, o, m, d, ys, rfl, l0, l1, l2, l3, l4, l5⟩ := hB
    exact ⟨g, o, m, d, ys, rfl, l0, l1, l2, l3, ((l4.turned ht (.inr (by omega))).mono (by omega) ht.size), l5⟩
  go_wp2_with fail
  refine bodyPost_ret (v := .tuple #[v, u]) (by simp [results, Try.results14, go_sem]) rfl ?_
  exact ⟨v, u, rfl, hB3, hR, g⟩

end Go.Proofs.Ytpoccjlngbdjlaa
