/-
  The contracts of ApplyRuns, the model's and the program's.
-/
import Derived.Test.YteebbaleejbodaaARRunC
import Derived.Test.YteebbaleejbodaaARRunF

namespace Go.Proofs.Yteebbaleejbodaa
set_option maxRecDepth 20000
open Go.RowKit
set_option linter.unusedVariables false

/-- Bytes are copied into a slice of 64. -/
theorem wp_copySl {o : Oper} {a : Act} {w : World} {K : Act → World → Prop} {Q : Exit → Act → World → Prop} (d s : Operand)
    (ho : o.op = .call { callee := .builtin .copy, args := #[d, s], argTypes := #[106, 106] })
    (b off n dLen dCap : Nat) (ad : Addr) (sCap : Nat) (hd : a.eval d = .slice (some ⟨b, off, none⟩) dLen dCap) (hs : a.eval s = .slice (some ad) n sCap)
    (zs cs : List Int) (hA : Sl64 w b zs) (hn : cs.length = n) (hnd : n ≤ dLen) (hsrc : ∀ j v, (cs.map (Value.int .u8))[j]? = some v → w.cell? (ad.add j) = some v) (hfit : off + n ≤ 64)
    (h : ∀ V, Sl64 V b (splice zs off cs) → Turned b (b + 1) w V → K (a.put o.dst (goInt n)) V) : o.wp Try.prog a w K Q := by
  have hinf : (Try.prog.info? 5).map (·.size) = some 1 := by kernel_rfl
  obtain ⟨tl, ht⟩ := hA.row
  have hput := hA.put off cs (by rw [hn]; exact hfit) tl ht
  have hrun := run_copy_row (P := Try.prog) w 106 106 o.type 5 b off dLen dCap ad n sCap (zs.map (Value.int .u8) ++ tl).toArray 5 (cs.map (Value.int .u8)) Try.underlying106 hinf ht (by rw [List.length_map, hn]; show n = min n dLen; omega) hsrc (by rw [List.length_map, hn]; simp [hA.len]; omega) (fun v hv => by
    rw [List.mem_map] at hv
    obtain ⟨z, _, rfl⟩ := hv
    rfl)
  have htP : ∀ cs', Turned b (b + 1) w (w.setRow b cs') := fun cs' => ⟨rfl, rfl, rfl, by rw [setRow_size]; exact Nat.le_refl _, fun k hk hn => setRow_other _ b k _ (by omega)⟩
  have hK := h _ hput (htP _)
  unfold Oper.wp
  rw [List.length_map, hn] at hrun hK
  simp [execOp, ho, resolve, invoke, builtin, hd, hs, hrun, Result.andThen]
  simp only [List.append_assoc] at hK
  exact hK

/-- Bytes are copied into an array. -/
theorem wp_copyArr {o : Oper} {a : Act} {w : World} {K : Act → World → Prop} {Q : Exit → Act → World → Prop} (d s : Operand)
    (ho : o.op = .call { callee := .builtin .copy, args := #[d, s], argTypes := #[106, 106] })
    (b off n dLen dCap : Nat) (ad : Addr) (sCap : Nat) (hd : a.eval d = .slice (some ⟨b, off, none⟩) dLen dCap) (hs : a.eval s = .slice (some ad) n sCap)
    (zs cs : List Int) (hA : Arr w b zs) (hn : cs.length = n) (hnd : n ≤ dLen) (hsrc : ∀ j v, (cs.map (Value.int .u8))[j]? = some v → w.cell? (ad.add j) = some v) (hfit : off + n ≤ 64)
    (h : ∀ V, Arr V b (splice zs off cs) → Turned b (b + 1) w V → K (a.put o.dst (goInt n)) V) : o.wp Try.prog a w K Q := by
  have hinf : (Try.prog.info? 5).map (·.size) = some 1 := by kernel_rfl
  have hrun := run_copy_row (P := Try.prog) w 106 106 o.type 5 b off dLen dCap ad n sCap (pgC zs) 239 (cs.map (Value.int .u8)) Try.underlying106 hinf hA.row (by rw [List.length_map, hn]; show n = min n dLen; omega) hsrc (by rw [pgC_size, hA.len, List.length_map, hn]; exact hfit) (fun v hv => by
    rw [List.mem_map] at hv
    obtain ⟨z, _, rfl⟩ := hv
    rfl)
  have e : ((pgC zs).toList.take off ++ cs.map (Value.int .u8) ++ (pgC zs).toList.drop (off + (cs.map (Value.int .u8)).length)).toArray = pgC (splice zs off cs) := by
    simp [pgC, splice]
  rw [e, List.length_map, hn] at hrun
  have htP : Turned b (b + 1) w (w.setRow b (pgC (splice zs off cs))) := ⟨rfl, rfl, rfl, by rw [setRow_size]; exact Nat.le_refl _, fun k hk hn => setRow_other _ b k _ (by omega)⟩
  have hK := h _ (hA.put (ys := splice zs off cs) (by rw [length_splice _ _ _ (by rw [hA.len, hn]; exact hfit)]; exact hA.len)) htP
  unfold Oper.wp
  simp [execOp, ho, resolve, invoke, builtin, hd, hs, hrun, Result.andThen]
  exact hK

/-- The fault of a page and n runs. -/
def apQ (zs : List Int) (n : Nat) (P : Nat → Int) (Z : Nat → List Int) : Int := if zs.length = 64 then rfQ n P Z else 1
/-- The page behind k runs. -/
def apP (zs : List Int) (P : Nat → Int) (Z : Nat → List Int) : Nat → List Int
  | 0 => zs
  | k + 1 => splice (apP zs P Z k) (P k).toNat (Z k)
def apB (zs : List Int) (n : Nat) (P : Nat → Int) (Z : Nat → List Int) : List Int := if apQ zs n P Z = 0 then apP zs P Z n else []

theorem rfFrom_zero (P : Nat → Int) (Z : Nat → List Int) : ∀ k j, rfFrom P Z k j = 0 → ∀ i, j ≤ i → i < j + k → runQ (P i) (Z i).length (lst P Z i) = 0
  | 0, j, _, i, h1, h2 => by omega
  | k + 1, j, h, i, h1, h2 => by
    simp only [rfFrom] at h
    split at h
    · rename_i h0
      by_cases e : i = j
      · subst e; exact h0
      · exact rfFrom_zero P Z k (j + 1) h i (by omega) (by omega)
    · rename_i h0; exact absurd h h0
theorem rfQ_zero {n : Nat} {P : Nat → Int} {Z : Nat → List Int} (h : rfQ n P Z = 0) : n ≤ 64 ∧ ∀ i, i < n → 0 ≤ P i ∧ 1 ≤ (Z i).length ∧ P i + (Z i).length ≤ 64 := by
  unfold rfQ at h
  split at h
  · cases h
  · exact ⟨by omega, fun i hi => by have := runQ_zero (rfFrom_zero P Z n 0 h i (Nat.zero_le _) (by omega)); omega⟩

theorem apP_length {zs : List Int} {n : Nat} {P : Nat → Int} {Z : Nat → List Int} (hz : zs.length = 64) (h : rfQ n P Z = 0) : ∀ k, k ≤ n → (apP zs P Z k).length = 64
  | 0, _ => hz
  | k + 1, hk => by
    have ih := apP_length hz h k (by omega)
    have := (rfQ_zero h).2 k (by omega)
    simp only [apP]
    rw [length_splice _ _ _ (by omega)]
    exact ih

set_option maxHeartbeats 400000 in
theorem pageAndRunsFault_any (pa : Option Addr) (zs : List Int) (m pc : Nat) (a : Option Addr) (n c : Nat) (P : Nat → Int) (A : Nat → Option Addr) (C : Nat → Nat) (Z : Nat → List Int) (w : World) (hml : zs.length = m) (hmm : m ≤ 1048576) (hm : n ≤ 1048576) (hz : ∀ i, i < n → (Z i).length ≤ 1048576) (hr : RunsRead w a n P A C Z) :
    Calls Try.prog 163 #[.slice pa m pc, .slice a n c] w fun e w' => e = .returned (.int .i64 (apQ zs n P Z)) ∧ Below w.heap.size w w' := by
  by_cases h : m = 64
  · have HQ : Hid (apQ zs n P Z = rfQ n P Z) := by show _ = _; unfold apQ; rw [hml, if_pos h]
    have d : ((m : Int) != 64) = false := by simp; omega
    clear h
    go_enter Try.func163, Try.ntmps163
    go_wp2_with fail
    refine (implRunsFault_any a n c P A C Z _ hm hz hr).mono ?_
    rintro e w' ⟨rfl, g⟩
    go_wp2_with fail
    go_ret
    exact ⟨by rw [HQ.out]; rfl, g⟩
  · have HQ : Hid (apQ zs n P Z = 1) := by show _ = _; unfold apQ; rw [hml, if_neg h]
    have d : ((m : Int) != 64) = true := by simp; omega
    clear h
    go_enter Try.func163, Try.ntmps163
    go_wp2_with fail
    go_ret
    exact ⟨by rw [HQ.out]; rfl, Below.refl _ _⟩

set_option maxHeartbeats 4000000 in
theorem l3Apply_any (pa : Option Addr) (zs : List Int) (pc : Nat) (a : Option Addr) (n c : Nat) (P : Nat → Int) (A : Nat → Option Addr) (C : Nat → Nat) (Z : Nat → List Int) (w : World) (hp : Reads w pa zs) (hz : zs.length = 64) (hq : rfQ n P Z = 0) (hr : RunsRead w a n P A C Z) :
    Calls Try.prog 79 #[.slice pa 64 pc, .slice a n c] w fun e w' => ∃ g d, e = .returned (.slice (some ⟨g, 0, none⟩) 64 d) ∧ Below w.heap.size w w' ∧ w.heap.size ≤ g ∧ Sl64 w' g (apP zs P Z n) := by
  have HQ : Hid (n ≤ 64 ∧ ∀ i, i < n → 0 ≤ P i ∧ 1 ≤ (Z i).length ∧ P i + (Z i).length ≤ 64) := rfQ_zero hq
  have HR : Hid (RunsRead w a n P A C Z) := hr
  have hn64 := HQ.out.1
  clear hq
  go_enter Try.func79, Try.ntmps79
  go_wp2_with fail
  refine (l2Copy_any pa zs pc _ hp hz).mono ?_
  rintro e w1 ⟨gb, d, rfl, hd, g1, hgb, hS1⟩
  by_cases h0 : n = 0
  · subst h0
    go_wp2_with fail
    go_rounds 1
    go_ret
    exact ⟨gb, d, rfl, g1, hgb, hS1⟩
  rcases hr with hr | ⟨rb, off, rfl, hc⟩
  · exact absurd hr h0
  have hrb : rb < w.heap.size := World.block_lt_of_cell? w _ (hc 0 (by omega)).1
  have hrg : rb < gb := by omega
  clear hc
  go_wp2_with fail
  go_loopw [6] (fun i wr => ∃ k : Nat, k ≤ n ∧ i = .int .i64 k ∧ Below w.heap.size w wr ∧ Sl64 wr gb (apP zs P Z k)) (fun i _ => n - (intOf i).toNat)
  case atStart => exact ⟨0, Nat.zero_le _, rfl, g1, hS1⟩
  case round =>
    obtain ⟨k, hk, rfl, g, hS⟩ := hrel
    clear g1 hS1
    by_cases hlt : k < n
    · obtain ⟨e0, e1, e2⟩ := (HR.out.below g (Nat.le_refl _)).at_ k hlt
      have hkn : (k : Int) < (n : Int) := by omega
      obtain ⟨q0, q1, q2⟩ := HQ.out.2 k hlt
      obtain ⟨p, hpv⟩ : ∃ p : Nat, P k = (p : Int) := ⟨(P k).toNat, by omega⟩
      obtain ⟨m, hmv⟩ : ∃ m, m = (Z k).length := ⟨_, rfl⟩
      have HZ : Hid ((Z k).length = m) := hmv.symm
      have HE : Hid (apP zs P Z (k + 1) = splice (apP zs P Z k) p (Z k)) := by show _ = _; simp only [apP]; rw [hpv, Int.toNat_natCast]
      rw [hpv] at e0 q2
      rw [← hmv] at e1 q1 q2
      obtain ⟨sb, so, hA⟩ : ∃ sb so, A k = some ⟨sb, so, none⟩ := by
        rcases e2 with h0 | ⟨sb, so, hb, _⟩
        · rw [h0] at hmv; simp at hmv; omega
        · exact ⟨sb, so, hb⟩
      rw [hA] at e1 e2
      have hpm : p + m ≤ 64 := by omega
      have hdp : ¬ (d = p) := by omega
      have i1 : (p : Int) ≤ 64 := by omega
      have i2 : (p : Int) ≤ (d : Int) := by omega
      clear hA hpv hmv q0 q2
      go_upto_region 5 with (fail)
      refine wp_region_held_drew (S := fun V => V.cell? ⟨rb, off + k * 2, none⟩ = some (.int .i64 p) ∧ V.cell? ⟨rb, off + k * 2 + 1, none⟩ = some (.slice (some ⟨sb, so, none⟩) m (C k))) (by kernel_rfl) ⟨e0, e1⟩ (fun hHeld => ?_)
      have hSD := hS.grown (w' := wr.drew) (Below.refl _ _).drew
      have hrD := e2.below (w' := wr.drew) (Below.refl _ _).drew (Nat.le_refl _)
      have gD : Below w.heap.size w wr.drew := g.drew
      generalize wr.drew = D at hHeld hSD hrD gD ⊢
      clear e0 e1 e2 hS g
      refine wpAnyH_take (i := 0) (v := .slice (some ⟨gb, 0, none⟩) 64 d) rfl (by kernel_rfl) (by kernel_rfl) (by kernel_rfl) (fun _ _ _ h => h) (Or.inl ⟨by kernel_rfl, fun u hSw => by (try dsimp only at hSw); go_simp; try with_reducible rfl⟩) hHeld ?_
      try simp only [List.getElem_toArray]
      try simp only [List.getElem_cons_succ]
      try simp only [List.getElem_cons_zero]
      try simp only [Act.put]
      try simp only [List.setIfInBounds_toArray]
      try simp only [List.set]
      refine wpAnyH_take (i := 1) (v := .slice (some ⟨rb, off, none⟩) n c) rfl (by kernel_rfl) (by kernel_rfl) (by kernel_rfl) (fun _ _ _ h => h) (Or.inl ⟨by kernel_rfl, fun u hSw => by (try dsimp only at hSw); go_simp; try with_reducible rfl⟩) hHeld ?_
      try simp only [List.getElem_toArray]
      try simp only [List.getElem_cons_succ]
      try simp only [List.getElem_cons_zero]
      try simp only [Act.put]
      try simp only [List.setIfInBounds_toArray]
      try simp only [List.set]
      refine wpAnyH_take (i := 2) (v := .int .i64 k) rfl (by kernel_rfl) (by kernel_rfl) (by kernel_rfl) (fun _ _ _ h => h) (Or.inl ⟨by kernel_rfl, fun u hSw => by (try dsimp only at hSw); go_simp; try with_reducible rfl⟩) hHeld ?_
      try simp only [List.getElem_toArray]
      try simp only [List.getElem_cons_succ]
      try simp only [List.getElem_cons_zero]
      try simp only [Act.put]
      try simp only [List.setIfInBounds_toArray]
      try simp only [List.set]
      refine wpAnyH_take (i := 3) (v := .pointer (some ⟨rb, off + k * 2, none⟩)) rfl (by kernel_rfl) (by kernel_rfl) (by kernel_rfl) (fun _ _ _ h => h) (Or.inl ⟨by kernel_rfl, fun u hSw => by (try dsimp only at hSw); go_simp; try with_reducible rfl⟩) hHeld ?_
      try simp only [List.getElem_toArray]
      try simp only [List.getElem_cons_succ]
      try simp only [List.getElem_cons_zero]
      try simp only [Act.put]
      try simp only [List.setIfInBounds_toArray]
      try simp only [List.set]
      refine wpAnyH_take (i := 4) (v := .pointer (some ⟨rb, off + k * 2, none⟩)) rfl (by kernel_rfl) (by kernel_rfl) (by kernel_rfl) (fun _ _ _ h => h) (Or.inl ⟨by kernel_rfl, fun u hSw => by (try dsimp only at hSw); go_simp; try with_reducible rfl⟩) hHeld ?_
      try simp only [List.getElem_toArray]
      try simp only [List.getElem_cons_succ]
      try simp only [List.getElem_cons_zero]
      try simp only [Act.put]
      try simp only [List.setIfInBounds_toArray]
      try simp only [List.set]
      refine wpAnyH_take (i := 5) (v := .int .i64 p) rfl (by kernel_rfl) (by kernel_rfl) (by kernel_rfl) (fun _ _ _ h => h) (Or.inl ⟨by kernel_rfl, fun u hSw => by (try dsimp only at hSw); go_simp; try with_reducible rfl⟩) hHeld ?_
      try simp only [List.getElem_toArray]
      try simp only [List.getElem_cons_succ]
      try simp only [List.getElem_cons_zero]
      try simp only [Act.put]
      try simp only [List.setIfInBounds_toArray]
      try simp only [List.set]
      refine wpAnyH_take (i := 6) (v := .slice (some ⟨gb, p, none⟩) (64 - p) (d - p)) rfl (by kernel_rfl) (by kernel_rfl) (by kernel_rfl) (fun _ _ _ h => h) (Or.inl ⟨by kernel_rfl, fun u hSw => by (try dsimp only at hSw); go_simp; try with_reducible rfl⟩) hHeld ?_
      try simp only [List.getElem_toArray]
      try simp only [List.getElem_cons_succ]
      try simp only [List.getElem_cons_zero]
      try simp only [Act.put]
      try simp only [List.setIfInBounds_toArray]
      try simp only [List.set]
      refine wpAnyH_take (i := 7) (v := .slice (some ⟨rb, off, none⟩) n c) rfl (by kernel_rfl) (by kernel_rfl) (by kernel_rfl) (fun _ _ _ h => h) (Or.inl ⟨by kernel_rfl, fun u hSw => by (try dsimp only at hSw); go_simp; try with_reducible rfl⟩) hHeld ?_
      try simp only [List.getElem_toArray]
      try simp only [List.getElem_cons_succ]
      try simp only [List.getElem_cons_zero]
      try simp only [Act.put]
      try simp only [List.setIfInBounds_toArray]
      try simp only [List.set]
      refine wpAnyH_take (i := 8) (v := .int .i64 k) rfl (by kernel_rfl) (by kernel_rfl) (by kernel_rfl) (fun _ _ _ h => h) (Or.inl ⟨by kernel_rfl, fun u hSw => by (try dsimp only at hSw); go_simp; try with_reducible rfl⟩) hHeld ?_
      try simp only [List.getElem_toArray]
      try simp only [List.getElem_cons_succ]
      try simp only [List.getElem_cons_zero]
      try simp only [Act.put]
      try simp only [List.setIfInBounds_toArray]
      try simp only [List.set]
      refine wpAnyH_take (i := 9) (v := .pointer (some ⟨rb, off + k * 2, none⟩)) rfl (by kernel_rfl) (by kernel_rfl) (by kernel_rfl) (fun _ _ _ h => h) (Or.inl ⟨by kernel_rfl, fun u hSw => by (try dsimp only at hSw); go_simp; try with_reducible rfl⟩) hHeld ?_
      try simp only [List.getElem_toArray]
      try simp only [List.getElem_cons_succ]
      try simp only [List.getElem_cons_zero]
      try simp only [Act.put]
      try simp only [List.setIfInBounds_toArray]
      try simp only [List.set]
      refine wpAnyH_take (i := 10) (v := .pointer (some ⟨rb, off + k * 2 + 1, none⟩)) rfl (by kernel_rfl) (by kernel_rfl) (by kernel_rfl) (fun _ _ _ h => h) (Or.inl ⟨by kernel_rfl, fun u hSw => by (try dsimp only at hSw); go_simp; try with_reducible rfl⟩) hHeld ?_
      try simp only [List.getElem_toArray]
      try simp only [List.getElem_cons_succ]
      try simp only [List.getElem_cons_zero]
      try simp only [Act.put]
      try simp only [List.setIfInBounds_toArray]
      try simp only [List.set]
      refine wpAnyH_take (i := 11) (v := .slice (some ⟨sb, so, none⟩) m (C k)) rfl (by kernel_rfl) (by kernel_rfl) (by kernel_rfl) (fun _ _ _ h => h) (Or.inl ⟨by kernel_rfl, fun u hSw => by (try dsimp only at hSw); go_simp; try with_reducible rfl⟩) hHeld ?_
      try simp only [List.getElem_toArray]
      try simp only [List.getElem_cons_succ]
      try simp only [List.getElem_cons_zero]
      try simp only [Act.put]
      try simp only [List.setIfInBounds_toArray]
      try simp only [List.set]
      refine wpAnyH_ready (rs := [12]) (by kernel_rfl) (by simp) ?_
      refine AllReadyH.cons rfl (fun K hK => ?_) AllReadyH.nil
      rw [if_pos (by kernel_rfl)]
      refine wp_copySl _ _ rfl gb p m (64 - p) (d - p) ⟨sb, so, none⟩ (C k) rfl rfl _ (Z k) hSD HZ.out (by omega) (reads_src hrD) hpm ?_
      intro V hSV tV
      refine hK.out _ _ ⟨tV.cell hHeld.1 (.inl hrg), tV.cell hHeld.2 (.inl hrg)⟩ (fun hHeld => ?_)
      clear hK K
      try simp only [Act.put]
      try simp only [List.setIfInBounds_toArray]
      try simp only [List.set]
      refine wpAnyH_done (by kernel_rfl) ?_ _

      have HSV : Hid (Sl64 V gb (apP zs P Z (k + 1))) := by show Sl64 _ _ _; rw [HE.out]; exact hSV
      have gV : Below w.heap.size w V := gD.trans (tV.toBelow gD.size hgb)
      clear hSV tV hHeld hSD hrD gD
      go_wp2_with fail
      go_roundw
      case rel => exact ⟨k + 1, by omega, by go_num, gV, HSV.out⟩
      case measure => simp [intOf]; omega
    · have e : k = n := by omega
      subst e
      go_wp2_with fail
      go_ret
      exact ⟨gb, d, rfl, g, hgb, hS⟩

end Go.Proofs.Yteebbaleejbodaa
