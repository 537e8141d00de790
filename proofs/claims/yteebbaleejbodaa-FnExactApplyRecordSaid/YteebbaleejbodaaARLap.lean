/-
  The model's l3Apply, what it hands back owned.
-/
import Derived.Test.YteebbaleejbodaaARArn
import Derived.Test.YteebbaleejbodaaARAru

namespace Go.Proofs.Yteebbaleejbodaa
set_option maxRecDepth 20000
open Go.RowKit
set_option linter.unusedVariables false

/-- Block g holds the 64 bytes zs first of all, d cells in all. -/
structure S64 (d : Nat) (w : World) (g : Nat) (zs : List Int) : Prop where
  len : zs.length = 64
  cap : d ≤ maxLen
  row : ∃ tl : List Value, tl.length + 64 = d ∧ w.heap[g]? = some (.cells (zs.map (Value.int .u8) ++ tl).toArray 5)

section
variable {w w' : World} {g d : Nat} {zs : List Int}
theorem S64.lt (h : S64 d w g zs) : g < w.heap.size := by obtain ⟨_, _, ht⟩ := h.row; exact (Array.getElem?_eq_some_iff.1 ht).1
theorem S64.below {B : Nat} (h : S64 d w g zs) (hb : Below B w w') (hlt : g < B) : S64 d w' g zs := ⟨h.len, h.cap, by obtain ⟨tl, htl, ht⟩ := h.row; exact ⟨tl, htl, (hb.block g hlt).trans ht⟩⟩
theorem S64.grown (h : S64 d w g zs) (hb : Below w.heap.size w w') : S64 d w' g zs := h.below hb h.lt
theorem S64.gb {base : Nat} (h : S64 d w g zs) (hb : base ≤ g) : Gb base w (.slice (some ⟨g, 0, none⟩) 64 d) zs := by
  obtain ⟨tl, htl, ht⟩ := h.row
  refine ⟨5, .inl rfl, ?_⟩
  rw [h.len]
  have hl := h.len
  refine ⟨by simp [h.len], .inr ⟨g, d, _, rfl, hb, ht, by omega, h.cap, by simp [hl]; omega, ?_⟩⟩
  simp only []
  rw [List.take_append_of_le_length (by simp; omega), List.take_of_length_le (by simp; omega)]

theorem S64.put (h : S64 d w g zs) (off : Nat) (cs : List Int) (hfit : off + cs.length ≤ 64) (tl : List Value) (htl : tl.length + 64 = d) (ht : w.heap[g]? = some (.cells (zs.map (Value.int .u8) ++ tl).toArray 5)) :
    S64 d (w.setRow g ((zs.map (Value.int .u8) ++ tl).toArray.toList.take off ++ cs.map (Value.int .u8) ++ (zs.map (Value.int .u8) ++ tl).toArray.toList.drop (off + (cs.map (Value.int .u8)).length)).toArray) g (splice zs off cs) := by
  refine ⟨by rw [length_splice _ _ _ (by rw [h.len]; exact hfit)]; exact h.len, h.cap, tl, htl, ?_⟩
  rw [setRow_heap w g _ _ _ _ ht]
  have hl := h.len
  congr 2
  rw [List.length_map]
  simp only []
  rw [List.take_append_of_le_length (by simp; omega), List.drop_append_of_le_length (by simp; omega)]
  simp [splice]

theorem S64.cell (h : S64 d w g zs) (i : Nat) (hi : i < 64) : w.cell? ⟨g, i, none⟩ = some (.int .u8 (zs.getD i 0)) := by
  obtain ⟨tl, _, ht⟩ := h.row
  have hl := h.len
  rw [cell_of_row w g i _ _ _ ht]
  simp [List.getElem?_append, hl, hi, List.getD]
theorem S64.frozen (h : S64 d w g zs) (i : Nat) : w.frozen? ⟨g, i, none⟩ = false := by obtain ⟨tl, _, ht⟩ := h.row; simp [World.frozen?, ht]
theorem S64.set (h : S64 d w g zs) (i : Nat) (hi : i < 64) (v : Int) : S64 d (w.setCell ⟨g, i, none⟩ (.int .u8 v)) g (zs.set i v) := by
  obtain ⟨tl, htl, ht⟩ := h.row
  refine ⟨by rw [List.length_set]; exact h.len, h.cap, tl, htl, ?_⟩
  have hv : w.heap[g]'h.lt = .cells (zs.map (Value.int .u8) ++ tl).toArray 5 := (Array.getElem?_eq_some_iff.1 ht).2
  unfold World.setCell
  rw [Array.getElem?_eq_getElem (by simpa using h.lt), Array.getElem_modify]
  have hl := h.len
  simp [hv, List.set_append_left, hl, hi]
theorem S64.own {base : Nat} (hown : w.ownsRow base 5 1 (.slice (some ⟨g, 0, none⟩) 64 d) 64 (zs.map (Value.int .u8))) (h : zs.length = 64) : S64 d w g zs := by
  rcases hown.2 with ⟨hv, h0⟩ | ⟨g', cap, cur, hv, hg0, hg, hcap, hmx, hsz, htk⟩
  · cases h0
  · injection hv with h1 _ h3
    injection h1 with h1
    injection h1 with h1
    subst h1
    subst h3
    refine ⟨h, hmx, (cur.toList.drop (64 * 1)), ?_, ?_⟩
    · rw [List.length_drop, Array.length_toList, hsz]; omega
    · rw [hg, ← htk, List.take_append_drop]

end

theorem wp_copyS6 {e6 : Nat} {o : Oper} {a : Act} {w : World} {K : Act → World → Prop} {Q : Exit → Act → World → Prop} (d s : Operand)
    (ho : o.op = .call { callee := .builtin .copy, args := #[d, s], argTypes := #[106, 106] })
    (b off n dLen dCap : Nat) (ad : Addr) (sCap : Nat) (hd : a.eval d = .slice (some ⟨b, off, none⟩) dLen dCap) (hs : a.eval s = .slice (some ad) n sCap)
    (zs cs : List Int) (hA : S64 e6 w b zs) (hn : cs.length = n) (hnd : n ≤ dLen) (hsrc : ∀ j v, (cs.map (Value.int .u8))[j]? = some v → w.cell? (ad.add j) = some v) (hfit : off + n ≤ 64)
    (h : ∀ V, S64 e6 V b (splice zs off cs) → Turned b (b + 1) w V → K (a.put o.dst (goInt n)) V) : o.wp Try.prog a w K Q := by
  have hinf : (Try.prog.info? 5).map (·.size) = some 1 := by kernel_rfl
  obtain ⟨tl, htl, ht⟩ := hA.row
  have hput := hA.put off cs (by rw [hn]; exact hfit) tl htl ht
  have hrun := run_copy_row (P := Try.prog) w 106 106 o.type 5 b off dLen dCap ad n sCap (zs.map (Value.int .u8) ++ tl).toArray 5 (cs.map (Value.int .u8)) Try.underlying106 hinf ht (by rw [List.length_map, hn]; show n = min n dLen; omega) hsrc (by rw [List.length_map, hn]; simp [hA.len]; omega) (fun v hv => by
    rw [List.mem_map] at hv
    obtain ⟨z, _, rfl⟩ := hv
    rfl)
  have htP : ∀ cs', Turned b (b + 1) w (w.setRow b cs') := fun cs' => ⟨rfl, rfl, rfl, by rw [setRow_size]; exact Nat.le_refl _, fun k hk hn => setRow_other _ b k _ (by omega)⟩
  have hK := h _ hput (htP _)
  unfold Oper.wp
  rw [List.length_map, hn] at hrun hK
  simp [execOp, ho, resolve, invoke, builtin, hd, hs, hrun, Result.andThen]
  simp only [List.append_assoc] at hK
  exact hK

set_option maxHeartbeats 1000000 in
theorem l2CopyC_any (a : Option Addr) (zs : List Int) (c : Nat) (w : World) (hr : Reads w a zs) (h : zs.length = 64) :
    Calls Try.prog 122 #[.slice a 64 c] w fun e w' => ∃ g d, e = .returned (.slice (some ⟨g, 0, none⟩) 64 d) ∧ 64 ≤ d ∧ Below w.heap.size w w' ∧ w.heap.size ≤ g ∧ S64 d w' g zs := by
  obtain ⟨i0, hi, hz0, hz1, hz2⟩ := info5
  obtain ⟨b, off, rfl⟩ : ∃ b off, a = some ⟨b, off, none⟩ := by
    rcases hr with hr | ⟨b, off, ha, _⟩
    · rw [hr] at h; simp at h
    · exact ⟨b, off, ha⟩
  have hO : (w.alloc (.cells #[] 5)).ownsRow w.heap.size 5 1 (.slice (some ⟨w.heap.size, 0, none⟩) 0 0) 0 [] := by simpa using World.ownsRow_lit (base := w.heap.size) (e := 5) (size := 1) w #[] 0 (Nat.le_refl _) (by unfold maxLen; omega) rfl
  have hl : (zs.map (Value.int .u8)).length = 64 * 1 := by simpa using h
  go_enter Try.func122, Try.ntmps122
  go_wp2_with (at_builtin; go_must (refine wpList_append_own _ rfl _ _ 106 rfl w.heap.size 5 i0 (.int .u8 0) 1 1 Try.underlying106 hi hz0 hz1 hz2 rfl (by decide) _ _ _ rfl hO ⟨b, off, none⟩ 64 c (zs.map (Value.int .u8)) rfl hl ?c1 ?c2 ?c3 ?c4 ?c5 ?_))
  case c1 =>
    intro j u hu
    exact reads_src (hr.below (B := w.heap.size) (by go_grown) (Nat.le_refl _)) j u hu
  case c2 =>
    intro u hu
    rw [List.mem_map] at hu
    obtain ⟨z, _, rfl⟩ := hu
    rfl
  case c3 => unfold maxLen; omega
  case c4 => omega
  case c5 => simp
  intro v' w1 hown' hgrow _
  have hB' : Below w.heap.size w w1 := Below.grown ((Below.refl _ _).alloc (Nat.le_refl _) _) hgrow (by simp) (fun j hj => by simp [Value.ownBlock] at hj; omega)
  clear hgrow
  go_wp2_with fail
  go_ret
  have hown : w1.ownsRow w.heap.size 5 1 v' 64 (zs.map (Value.int .u8)) := by simpa using hown'
  rcases hown.2 with ⟨_, h0⟩ | ⟨g, cap, cur, hv, hg0, hg, hcap, hmx, hsz, htk⟩
  · cases h0
  · refine ⟨g, cap, by rw [← hv]; rfl, by omega, hB', hg0, h, hmx, (cur.toList.drop (64 * 1)), ?_, ?_⟩
    · rw [List.length_drop, Array.length_toList, hsz]; omega
    rw [hg, ← htk, List.take_append_drop]

set_option maxHeartbeats 4000000 in
theorem l3ApplyG_any (pa : Option Addr) (zs : List Int) (pc : Nat) (a : Option Addr) (n c : Nat) (P : Nat → Int) (A : Nat → Option Addr) (C : Nat → Nat) (Z : Nat → List Int) (w : World) (hp : Reads w pa zs) (hz : zs.length = 64) (hq : rfQ n P Z = 0) (hr : RunsRead w a n P A C Z) :
    Calls Try.prog 79 #[.slice pa 64 pc, .slice a n c] w fun e w' => ∃ g d, e = .returned (.slice (some ⟨g, 0, none⟩) 64 d) ∧ Below w.heap.size w w' ∧ w.heap.size ≤ g ∧ S64 d w' g (apP zs P Z n) := by
  have HQ : Hid (n ≤ 64 ∧ ∀ i, i < n → 0 ≤ P i ∧ 1 ≤ (Z i).length ∧ P i + (Z i).length ≤ 64) := rfQ_zero hq
  have HR : Hid (RunsRead w a n P A C Z) := hr
  have hn64 := HQ.out.1
  clear hq
  go_enter Try.func79, Try.ntmps79
  go_wp2_with fail
  refine (l2CopyC_any pa zs pc _ hp hz).mono ?_
  rintro e w1 ⟨gb, d, rfl, hd, g1, hgb, hS1⟩
  by_cases h0 : n = 0
  · subst h0
    go_wp2_with fail
    go_rounds 1
    go_ret
    exact ⟨gb, d, rfl, g1, hgb, hS1⟩
  rcases hr with hr | ⟨rb, off, rfl, hc⟩
  · exact absurd hr h0
  have hrb : rb < w.heap.size := World.block_lt_of_cell? w _ (hc 0 (by omega)).1
  have hrg : rb < gb := by omega
  clear hc
  go_wp2_with fail
  go_loopw [6] (fun i wr => ∃ k : Nat, k ≤ n ∧ i = .int .i64 k ∧ Below w.heap.size w wr ∧ S64 d wr gb (apP zs P Z k)) (fun i _ => n - (intOf i).toNat)
  case atStart => exact ⟨0, Nat.zero_le _, rfl, g1, hS1⟩
  case round =>
    obtain ⟨k, hk, rfl, g, hS⟩ := hrel
    clear g1 hS1
    by_cases hlt : k < n
    · obtain ⟨e0, e1, e2⟩ := (HR.out.below g (Nat.le_refl _)).at_ k hlt
      have hkn : (k : Int) < (n : Int) := by omega
      obtain ⟨q0, q1, q2⟩ := HQ.out.2 k hlt
      obtain ⟨p, hpv⟩ : ∃ p : Nat, P k = (p : Int) := ⟨(P k).toNat, by omega⟩
      obtain ⟨m, hmv⟩ : ∃ m, m = (Z k).length := ⟨_, rfl⟩
      have HZ : Hid ((Z k).length = m) := hmv.symm
      have HE : Hid (apP zs P Z (k + 1) = splice (apP zs P Z k) p (Z k)) := by show _ = _; simp only [apP]; rw [hpv, Int.toNat_natCast]
      rw [hpv] at e0 q2
      rw [← hmv] at e1 q1 q2
      obtain ⟨sb, so, hA⟩ : ∃ sb so, A k = some ⟨sb, so, none⟩ := by
        rcases e2 with h0 | ⟨sb, so, hb, _⟩
        · rw [h0] at hmv; simp at hmv; omega
        · exact ⟨sb, so, hb⟩
      rw [hA] at e1 e2
      have hpm : p + m ≤ 64 := by omega
      have hdp : ¬ (d = p) := by omega
      have i1 : (p : Int) ≤ 64 := by omega
      have i2 : (p : Int) ≤ (d : Int) := by omega
      clear hA hpv hmv q0 q2
      go_upto_region 5 with (fail)
      refine wp_region_held_drew (S := fun V => V.cell? ⟨rb, off + k * 2, none⟩ = some (.int .i64 p) ∧ V.cell? ⟨rb, off + k * 2 + 1, none⟩ = some (.slice (some ⟨sb, so, none⟩) m (C k))) (by kernel_rfl) ⟨e0, e1⟩ (fun hHeld => ?_)
      have hSD := hS.grown (w' := wr.drew) (Below.refl _ _).drew
      have hrD := e2.below (w' := wr.drew) (Below.refl _ _).drew (Nat.le_refl _)
      have gD : Below w.heap.size w wr.drew := g.drew
      generalize wr.drew = D at hHeld hSD hrD gD ⊢
      clear e0 e1 e2 hS g
      refine wpAnyH_take (i := 0) (v := .slice (some ⟨gb, 0, none⟩) 64 d) rfl (by kernel_rfl) (by kernel_rfl) (by kernel_rfl) (fun _ _ _ h => h) (Or.inl ⟨by kernel_rfl, fun u hSw => by (try dsimp only at hSw); go_simp; try with_reducible rfl⟩) hHeld ?_
      try simp only [List.getElem_toArray]
      try simp only [List.getElem_cons_succ]
      try simp only [List.getElem_cons_zero]
      try simp only [Act.put]
      try simp only [List.setIfInBounds_toArray]
      try simp only [List.set]
      refine wpAnyH_take (i := 1) (v := .slice (some ⟨rb, off, none⟩) n c) rfl (by kernel_rfl) (by kernel_rfl) (by kernel_rfl) (fun _ _ _ h => h) (Or.inl ⟨by kernel_rfl, fun u hSw => by (try dsimp only at hSw); go_simp; try with_reducible rfl⟩) hHeld ?_
      try simp only [List.getElem_toArray]
      try simp only [List.getElem_cons_succ]
      try simp only [List.getElem_cons_zero]
      try simp only [Act.put]
      try simp only [List.setIfInBounds_toArray]
      try simp only [List.set]
      refine wpAnyH_take (i := 2) (v := .int .i64 k) rfl (by kernel_rfl) (by kernel_rfl) (by kernel_rfl) (fun _ _ _ h => h) (Or.inl ⟨by kernel_rfl, fun u hSw => by (try dsimp only at hSw); go_simp; try with_reducible rfl⟩) hHeld ?_
      try simp only [List.getElem_toArray]
      try simp only [List.getElem_cons_succ]
      try simp only [List.getElem_cons_zero]
      try simp only [Act.put]
      try simp only [List.setIfInBounds_toArray]
      try simp only [List.set]
      refine wpAnyH_take (i := 3) (v := .pointer (some ⟨rb, off + k * 2, none⟩)) rfl (by kernel_rfl) (by kernel_rfl) (by kernel_rfl) (fun _ _ _ h => h) (Or.inl ⟨by kernel_rfl, fun u hSw => by (try dsimp only at hSw); go_simp; try with_reducible rfl⟩) hHeld ?_
      try simp only [List.getElem_toArray]
      try simp only [List.getElem_cons_succ]
      try simp only [List.getElem_cons_zero]
      try simp only [Act.put]
      try simp only [List.setIfInBounds_toArray]
      try simp only [List.set]
      refine wpAnyH_take (i := 4) (v := .pointer (some ⟨rb, off + k * 2, none⟩)) rfl (by kernel_rfl) (by kernel_rfl) (by kernel_rfl) (fun _ _ _ h => h) (Or.inl ⟨by kernel_rfl, fun u hSw => by (try dsimp only at hSw); go_simp; try with_reducible rfl⟩) hHeld ?_
      try simp only [List.getElem_toArray]
      try simp only [List.getElem_cons_succ]
      try simp only [List.getElem_cons_zero]
      try simp only [Act.put]
      try simp only [List.setIfInBounds_toArray]
      try simp only [List.set]
      refine wpAnyH_take (i := 5) (v := .int .i64 p) rfl (by kernel_rfl) (by kernel_rfl) (by kernel_rfl) (fun _ _ _ h => h) (Or.inl ⟨by kernel_rfl, fun u hSw => by (try dsimp only at hSw); go_simp; try with_reducible rfl⟩) hHeld ?_
      try simp only [List.getElem_toArray]
      try simp only [List.getElem_cons_succ]
      try simp only [List.getElem_cons_zero]
      try simp only [Act.put]
      try simp only [List.setIfInBounds_toArray]
      try simp only [List.set]
      refine wpAnyH_take (i := 6) (v := .slice (some ⟨gb, p, none⟩) (64 - p) (d - p)) rfl (by kernel_rfl) (by kernel_rfl) (by kernel_rfl) (fun _ _ _ h => h) (Or.inl ⟨by kernel_rfl, fun u hSw => by (try dsimp only at hSw); go_simp; try with_reducible rfl⟩) hHeld ?_
      try simp only [List.getElem_toArray]
      try simp only [List.getElem_cons_succ]
      try simp only [List.getElem_cons_zero]
      try simp only [Act.put]
      try simp only [List.setIfInBounds_toArray]
      try simp only [List.set]
      refine wpAnyH_take (i := 7) (v := .slice (some ⟨rb, off, none⟩) n c) rfl (by kernel_rfl) (by kernel_rfl) (by kernel_rfl) (fun _ _ _ h => h) (Or.inl ⟨by kernel_rfl, fun u hSw => by (try dsimp only at hSw); go_simp; try with_reducible rfl⟩) hHeld ?_
      try simp only [List.getElem_toArray]
      try simp only [List.getElem_cons_succ]
      try simp only [List.getElem_cons_zero]
      try simp only [Act.put]
      try simp only [List.setIfInBounds_toArray]
      try simp only [List.set]
      refine wpAnyH_take (i := 8) (v := .int .i64 k) rfl (by kernel_rfl) (by kernel_rfl) (by kernel_rfl) (fun _ _ _ h => h) (Or.inl ⟨by kernel_rfl, fun u hSw => by (try dsimp only at hSw); go_simp; try with_reducible rfl⟩) hHeld ?_
      try simp only [List.getElem_toArray]
      try simp only [List.getElem_cons_succ]
      try simp only [List.getElem_cons_zero]
      try simp only [Act.put]
      try simp only [List.setIfInBounds_toArray]
      try simp only [List.set]
      refine wpAnyH_take (i := 9) (v := .pointer (some ⟨rb, off + k * 2, none⟩)) rfl (by kernel_rfl) (by kernel_rfl) (by kernel_rfl) (fun _ _ _ h => h) (Or.inl ⟨by kernel_rfl, fun u hSw => by (try dsimp only at hSw); go_simp; try with_reducible rfl⟩) hHeld ?_
      try simp only [List.getElem_toArray]
      try simp only [List.getElem_cons_succ]
      try simp only [List.getElem_cons_zero]
      try simp only [Act.put]
      try simp only [List.setIfInBounds_toArray]
      try simp only [List.set]
      refine wpAnyH_take (i := 10) (v := .pointer (some ⟨rb, off + k * 2 + 1, none⟩)) rfl (by kernel_rfl) (by kernel_rfl) (by kernel_rfl) (fun _ _ _ h => h) (Or.inl ⟨by kernel_rfl, fun u hSw => by (try dsimp only at hSw); go_simp; try with_reducible rfl⟩) hHeld ?_
      try simp only [List.getElem_toArray]
      try simp only [List.getElem_cons_succ]
      try simp only [List.getElem_cons_zero]
      try simp only [Act.put]
      try simp only [List.setIfInBounds_toArray]
      try simp only [List.set]
      refine wpAnyH_take (i := 11) (v := .slice (some ⟨sb, so, none⟩) m (C k)) rfl (by kernel_rfl) (by kernel_rfl) (by kernel_rfl) (fun _ _ _ h => h) (Or.inl ⟨by kernel_rfl, fun u hSw => by (try dsimp only at hSw); go_simp; try with_reducible rfl⟩) hHeld ?_
      try simp only [List.getElem_toArray]
      try simp only [List.getElem_cons_succ]
      try simp only [List.getElem_cons_zero]
      try simp only [Act.put]
      try simp only [List.setIfInBounds_toArray]
      try simp only [List.set]
      refine wpAnyH_ready (rs := [12]) (by kernel_rfl) (by simp) ?_
      refine AllReadyH.cons rfl (fun K hK => ?_) AllReadyH.nil
      rw [if_pos (by kernel_rfl)]
      refine wp_copyS6 _ _ rfl gb p m (64 - p) (d - p) ⟨sb, so, none⟩ (C k) rfl rfl _ (Z k) hSD HZ.out (by omega) (reads_src hrD) hpm ?_
      intro V hSV tV
      refine hK.out _ _ ⟨tV.cell hHeld.1 (.inl hrg), tV.cell hHeld.2 (.inl hrg)⟩ (fun hHeld => ?_)
      clear hK K
      try simp only [Act.put]
      try simp only [List.setIfInBounds_toArray]
      try simp only [List.set]
      refine wpAnyH_done (by kernel_rfl) ?_ _

      have HSV : Hid (S64 d V gb (apP zs P Z (k + 1))) := by show S64 _ _ _ _; rw [HE.out]; exact hSV
      have gV : Below w.heap.size w V := gD.trans (tV.toBelow gD.size hgb)
      clear hSV tV hHeld hSD hrD gD
      go_wp2_with fail
      go_roundw
      case rel => exact ⟨k + 1, by omega, by go_num, gV, HSV.out⟩
      case measure => simp [intOf]; omega
    · have e : k = n := by omega
      subst e
      go_wp2_with fail
      go_ret
      exact ⟨gb, d, rfl, g, hgb, hS⟩

set_option maxHeartbeats 1000000 in
theorem l2NewG_any (f : Int) (w : World) :
    Calls Try.prog 78 #[.int .u8 f] w fun e w' => e = .returned (.slice (some ⟨w.heap.size, 0, none⟩) 64 64) ∧ Below w.heap.size w w' ∧ S64 64 w' w.heap.size (newBytes f) := by
  obtain ⟨i0, hi, hz0, hz1, hz2⟩ := info5
  go_enter Try.func78, Try.ntmps78
  go_wp2_with (at_make; refine wpList_make_full _ rfl _ _ 106 rfl w.heap.size 5 i0 (.int .u8 0) 1 Try.underlying106 hi hz0 hz1 .i64 .i64 _ _ 64 rfl rfl rfl rfl ?c1 ?c2 (Nat.le_refl _) ?_)
  case c1 => rw [hz2]; omega
  case c2 => unfold maxLen; omega
  intro w1 hown hg
  have hB : Below w.heap.size w w1 := Below.grown (Below.refl _ _) hg (Nat.le_refl _) (fun k hk => by cases hk)
  have hlt1 : w.heap.size < w1.heap.size := (hown.lt w.heap.size (by simp [Value.ownBlock])).2
  have hx : (madeCells (Value.int .u8 0).cells (64 * 1)).toList = (filled f 0).map (Value.int .u8) := by
    refine List.ext_getElem? fun i => ?_
    by_cases h : i < 64
    · refine (made_zero 64 i h).trans ?_
      show _ = ((List.replicate 64 (0 : Int)).map (Value.int .u8))[i]?
      rw [List.map_replicate, List.getElem?_replicate, if_pos h]
    · rw [List.getElem?_eq_none (by simp [madeCells]; omega), List.getElem?_eq_none (by rw [List.length_map, filled_length f 0 (by omega)]; omega)]
  have hY : S64 64 w1 w.heap.size (filled f 0) := S64.own (by rw [← hx]; exact hown) (filled_length f 0 (by omega))
  clear hown hg hx hi hz0 hz1 hz2
  go_wp2_with fail
  go_loopw [4] (fun i wr => ∃ k : Nat, k ≤ 64 ∧ i = .int .i64 k ∧ Below w.heap.size w wr ∧ S64 64 wr w.heap.size (filled f k)) (fun i _ => 64 - (intOf i).toNat)
  case atStart => exact ⟨0, by omega, rfl, hB, hY⟩
  case round =>
    obtain ⟨k, hk, rfl, g, hA⟩ := hrel
    by_cases hlt : k < 64
    · have e1 := hA.cell k hlt
      have e2 := hA.frozen k
      have hi : (k : Int) < 64 := by omega
      go_wp2
      go_roundw
      case rel => exact ⟨k + 1, by omega, by go_num, g.setCell (by simp) _, by rw [← filled_set f k hlt]; exact hA.set k hlt f⟩
      case measure => simp [intOf]; omega
    · have e : k = 64 := by omega
      subst e
      have e0 := hA.cell 0 (by omega)
      have e1 := hA.frozen 0
      have e2 := hA.cell 1 (by omega)
      have e3 := hA.frozen 1
      have hY := (hA.set 0 (by omega) 0).set 1 (by omega) 64
      rw [filled_new] at hY
      go_wp2
      go_ret
      exact ⟨rfl, (g.setCell (by simp) _).setCell (by simp) _, hY⟩


end Go.Proofs.Yteebbaleejbodaa
