/-
  The contract of what turnedSpans hands back: it tells the longest spans in which two pages differ.
-/
import Derived.Test.YtpoccjlngbdjlaaQSpo
import Derived.Test.YtpoccjlngbdjlaaQRim

namespace Go.Proofs.Ytpoccjlngbdjlaa
open Go.RowKit Go.Shelf
set_option linter.unusedVariables false

def byt (zs : List Int) (i : Nat) : Int := zs.getD i 0

/-- How many places from k on differ in a row. -/
def rl (za zb : List Int) (k : Nat) : Nat := if h : k < 64 ∧ byt za k ≠ byt zb k then rl za zb (k + 1) + 1 else 0
termination_by 64 - k
decreasing_by omega

theorem rl_diff {za zb : List Int} {k : Nat} (h : k < 64) (hd : byt za k ≠ byt zb k) : rl za zb k = rl za zb (k + 1) + 1 := by rw [rl, dif_pos ⟨h, hd⟩]
theorem rl_same {za zb : List Int} {k : Nat} (hd : byt za k = byt zb k) : rl za zb k = 0 := by rw [rl, dif_neg (fun e => e.2 hd)]
theorem rl_end {za zb : List Int} {k : Nat} (h : ¬ k < 64) : rl za zb k = 0 := by rw [rl, dif_neg (fun e => h e.1)]
theorem rl_le (za zb : List Int) (k : Nat) (h : k ≤ 64) : k + rl za zb k ≤ 64 := by
  rw [rl]
  split
  · rename_i h1
    have := rl_le za zb (k + 1) h1.1
    omega
  · omega
termination_by 64 - k
decreasing_by omega

/-- The longest spans from k on in which two pages differ. -/
def dS (za zb : List Int) (k : Nat) : List Sp :=
  if h : k < 64 then (if h1 : 1 ≤ rl za zb k then ⟨(k, rl za zb k), h1, rl_le za zb k (Nat.le_of_lt h)⟩ :: dS za zb (k + rl za zb k + 1) else dS za zb (k + 1)) else []
termination_by 64 - k
decreasing_by all_goals omega

theorem dS_span {za zb : List Int} {k : Nat} (h : k < 64) (h1 : 1 ≤ rl za zb k) : dS za zb k = ⟨(k, rl za zb k), h1, rl_le za zb k (Nat.le_of_lt h)⟩ :: dS za zb (k + rl za zb k + 1) := by rw [dS, dif_pos h, dif_pos h1]
theorem dS_none {za zb : List Int} {k : Nat} (h : k < 64) (h1 : rl za zb k = 0) : dS za zb k = dS za zb (k + 1) := by rw [dS, dif_pos h, dif_neg (by omega)]
theorem dS_end {za zb : List Int} {k : Nat} (h : ¬ k < 64) : dS za zb k = [] := by rw [dS, dif_neg h]
theorem dS_length (za zb : List Int) (k : Nat) (hk : k ≤ 65) : (dS za zb k).length + k ≤ 65 := by
  rw [dS]
  split
  · rename_i h
    have hl := rl_le za zb k (Nat.le_of_lt h)
    split
    · have := dS_length za zb (k + rl za zb k + 1) (by omega)
      simp only [List.length_cons]
      omega
    · have := dS_length za zb (k + 1) (by omega)
      omega
  · simp; omega
termination_by 64 - k
decreasing_by all_goals omega

set_option maxHeartbeats 400000 in
theorem turnedSpans_any (za zb : List Int) (w : World) (ha : za.length = 64) (hb : zb.length = 64) :
    Calls Try.prog 37 #[.agg (pgC za), .agg (pgC zb)] w fun e w' => e = .returned (.func (.func 56) #[] #[.pointer (some ⟨w.heap.size, 0, none⟩), .pointer (some ⟨w.heap.size + 1, 0, none⟩)]) ∧ Below w.heap.size w w' ∧ Arr w' w.heap.size za ∧ Arr w' (w.heap.size + 1) zb := by
  obtain ⟨X, hX, hA, g⟩ := boxed za w ha
  obtain ⟨Y, hY, hB, g2⟩ := boxed zb X hb
  have hs : X.heap.size = w.heap.size + 1 := by rw [← hX]; simp
  rw [hs] at hB g2
  have hA2 : Arr Y w.heap.size za := hA.below g2 (by omega)
  have gg : Below w.heap.size w Y := g.trans (g2.mono (by omega))
  go_enter Try.func37, Try.ntmps37
  go_wp2_with fail
  go_ret
  exact ⟨by simp [], gg, hA2, hB⟩

/-- Block y is a span that begins at k and is m long. -/
def SpanAt (W : World) (y k m : Nat) : Prop := W.heap[y]? = some (.cells #[.int .u64 (k : Nat), .int .u64 (m : Nat)] 79 (0, 0))
def spanN (W : World) (y : Nat) : Nat := match W.cell? ⟨y, 1, none⟩ with | some (.int _ m) => m.toNat | _ => 0
section
variable {W W' : World} {y k m : Nat}
theorem SpanAt.lt (h : SpanAt W y k m) : y < W.heap.size := (Array.getElem?_eq_some_iff.1 h).1
theorem SpanAt.cell0 (h : SpanAt W y k m) : W.cell? ⟨y, 0, none⟩ = some (.int .u64 (k : Nat)) := by simp [World.cell?, show W.heap[y]? = _ from h]
theorem SpanAt.cell1 (h : SpanAt W y k m) : W.cell? ⟨y, 1, none⟩ = some (.int .u64 (m : Nat)) := by simp [World.cell?, show W.heap[y]? = _ from h]
theorem SpanAt.frozen1 (h : SpanAt W y k m) : W.frozen? ⟨y, 1, none⟩ = false := by simp [World.frozen?, show W.heap[y]? = _ from h]
theorem SpanAt.below (h : SpanAt W y k m) (hb : Below W.heap.size W W') : SpanAt W' y k m := (hb.block y h.lt).trans h
theorem SpanAt.n (h : SpanAt W y k m) : spanN W y = m := by unfold spanN; rw [h.cell1]; simp
theorem SpanAt.set (h : SpanAt W y k m) (m' : Nat) : SpanAt (W.setCell ⟨y, 1, none⟩ (.int .u64 (m' : Nat))) y k m' := by
  obtain ⟨hlt, hk⟩ := Array.getElem?_eq_some_iff.1 h
  show (W.heap.modify y _)[y]? = _
  rw [Array.getElem?_eq_getElem (by rw [Array.size_modify]; exact hlt), Array.getElem_modify_self, hk]
  rfl
end
theorem tsKeep {wr W V : World} {y k m pa pb : Nat} {za zb : List Int} (h : SpanAt W y k m ∧ Arr W pa za ∧ Arr W pb zb ∧ Below wr.heap.size wr W) (hb : Below W.heap.size W V) : SpanAt V y k m ∧ Arr V pa za ∧ Arr V pb zb ∧ Below wr.heap.size wr V :=
  ⟨h.1.below hb, h.2.1.grown hb, h.2.2.1.grown hb, h.2.2.2.trans (hb.mono h.2.2.2.size)⟩

set_option maxRecDepth 100000 in
set_option maxHeartbeats 8000000 in
theorem turned1_in (n9 : Nat) (l pa pb n₀ : Nat) (za zb : List Int) (hza : ∀ z ∈ za, 0 ≤ z ∧ z ≤ 255) (hzb : ∀ z ∈ zb, 0 ≤ z ∧ z ≤ 255)
    (J Jx : List Sp → World → Prop) (W : World) (hJ : AbidesFrom W.heap.size J)
    (hY : ∀ pre x W1, J pre W1 → pre.length < (dS za zb 0).length → YieldAt Fence.wide (n9 - 1) Try.prog l (spE x) W1 fun e W' => (e = .returned (.bool true) ∧ J (pre ++ [x]) W' ∧ Kp79 n₀ W1 W') ∨ (e = .returned (.bool false) ∧ Jx (pre ++ [x]) W'))
    (hn₀ : n₀ ≤ W.heap.size) (hpa : pa < n₀) (hpb : pb < n₀) (hA : Arr W pa za) (hB : Arr W pb zb) (h0 : J [] W) :
    CallsIn Fence.wide n9 Try.prog 56 #[.func (.yield l) #[] #[], .pointer (some ⟨pa, 0, none⟩), .pointer (some ⟨pb, 0, none⟩)] W fun e W' => (∃ v, e = .returned v) ∧ ((∃ ys, ys = dS za zb 0 ∧ J ys W') ∨ (∃ pre, pre <+: dS za zb 0 ∧ Jx pre W')) := by
  obtain ⟨xs, hxs⟩ : ∃ xs, xs = dS za zb 0 := ⟨_, rfl⟩
  have HX : Hid (dS za zb 0 = xs) := hxs.symm
  rw [← hxs] at hY ⊢
  clear hxs
  have HA : Hid (Arr W pa za) := hA
  have HB : Hid (Arr W pb zb) := hB
  clear hA hB
  refine callsIn_of_wp Try.func56 rfl trivial ?_ rfl
  simp only [Try.ntmps56, List.size_toArray, List.length_cons, List.length_nil, Nat.reduceAdd, Nat.reduceSub, Array.replicate_succ, Array.replicate_zero, List.push_toArray, List.append_toArray, List.nil_append, List.cons_append]
  gi_wp2
  gi_loopw [4] (fun i wr => ∃ (k : Nat) (pre : List Sp), k ≤ 65 ∧ i = .int .u64 k ∧ J pre wr ∧ Below n₀ W wr ∧ Hid (xs = pre ++ dS za zb k)) (fun i _ => 66 - (intOf i).toNat)
  case atStart => exact ⟨0, [], by omega, rfl, h0, Below.refl _ _, by show _ = _; rw [← HX.out]; rfl⟩
  case round =>
    obtain ⟨k, pre, hk, rfl, hJp, g, HP⟩ := hrel
    by_cases hlt : k < 64
    · have hk64 : (k : Int) < 64 := by omega
      gi_wp2
      obtain ⟨wo, hwo⟩ : ∃ wo, wo = wr := ⟨_, rfl⟩
      subst hwo
      have hs0 : SpanAt (wo.alloc (.cells #[.int .u64 (k : Nat), .int .u64 ((0 : Nat) : Int)] 79)) wo.heap.size k 0 := World.alloc_heap_new wo _
      have gi0 : Below wo.heap.size wo (wo.alloc (.cells #[.int .u64 (k : Nat), .int .u64 ((0 : Nat) : Int)] 79)) := (Below.refl _ _).alloc (Nat.le_refl _) _
      have hA0 : Arr wo pa za := HA.out.below g hpa
      have hB0 : Arr wo pb zb := HB.out.below g hpb
      have hrl0 := rl_le za zb k (by omega)
      simp only [Int.natCast_zero] at hs0 gi0
      refine wpIn_wide.2 ?_
      go_loopw [10] (fun _ wi => ∃ m : Nat, SpanAt wi wo.heap.size k m ∧ Below wo.heap.size wo wi ∧ k + m ≤ 64 ∧ Hid (rl za zb k = m + rl za zb (k + m))) (fun _ wi => 64 - spanN wi wo.heap.size)
      case atStart => exact ⟨0, hs0, gi0, by omega, by show _ = _; simp⟩
      case round =>
        obtain ⟨m, hs, gi, hkm, HRl⟩ := hrel
        have HN0 : Hid (spanN wr wo.heap.size = m) := hs.n
        clear hs0 gi0
        have hA := hA0.below gi hA0.lt
        have hB := hB0.below gi hB0.lt
        obtain ⟨e, he⟩ : ∃ e, e = k + m := ⟨_, rfl⟩
        have HE : Hid (k + m = e) := he.symm
        have HRe : Hid (rl za zb k = m + rl za zb e) := by show _ = _; rw [he]; exact HRl.out
        have he64 : e ≤ 64 := by omega
        clear he HRl
        by_cases hdiff : e < 64 ∧ byt za e ≠ byt zb e
        · obtain ⟨he1, he2⟩ := hdiff
          have hei : (e : Int) < 64 := by omega
          have hd : (byt za e != byt zb e) = true := by simpa using he2
          have HR2 : Hid (rl za zb k = (m + 1) + rl za zb (k + (m + 1))) := by show _ = _; rw [HRe.out, rl_diff he1 he2, ← HE.out, show k + (m + 1) = k + m + 1 by omega]; omega
          have hmE := HE.out
          go_upto_region 3 with (fail)
          refine wp_region_held_drew (S := fun V => SpanAt V wo.heap.size k m ∧ Arr V pa za ∧ Arr V pb zb ∧ Below wo.heap.size wo V) (by kernel_rfl) (tsKeep ⟨hs, hA, hB, gi⟩ (Below.refl _ _).drew) (fun hHeld => ?_)
          clear hs hA hB gi
          generalize wr.drew = D at hHeld ⊢
          refine wpAnyH_take (i := 0) (v := .agg #[.int .u64 (k : Nat), .int .u64 (m : Nat)]) rfl (by kernel_rfl) (by kernel_rfl) (by kernel_rfl) (fun _ _ _ h => h) (Or.inl ⟨by kernel_rfl, fun u hSw => by have x0 := hSw.1.cell0; have x1 := hSw.1.cell1; clear hSw; go_simp; try with_reducible rfl⟩) hHeld ?_
          try simp only [List.getElem_toArray]
          try simp only [List.getElem_cons_succ]
          try simp only [List.getElem_cons_zero]
          try simp only [Act.put]
          try simp only [List.setIfInBounds_toArray]
          try simp only [List.set]
          refine wpAnyH_ready (rs := [1]) (by kernel_rfl) (by simp) ?_
          refine AllReadyH.cons rfl (fun K hK => ?_) AllReadyH.nil
          go_simp
          go_wp2_with (go_at_call 55; refine (spanEnd_any k m _ (by omega) (by omega)).mono ?_; rintro e w2 ⟨rfl, hb⟩; rw [HE.out])
          refine hK.out _ _ (tsKeep hHeld hb) (fun hHeld => ?_)
          clear hK K
          try simp only [Act.put]
          try simp only [List.setIfInBounds_toArray]
          try simp only [List.set]
          clear hb
          refine wpAnyH_take (i := 2) (v := .bool true) rfl (by kernel_rfl) (by kernel_rfl) (by kernel_rfl) (fun _ _ _ h => h) (Or.inl ⟨by kernel_rfl, fun u hSw => by (try dsimp only at hSw); go_simp; try with_reducible rfl⟩) hHeld ?_
          try simp only [List.getElem_toArray]
          try simp only [List.getElem_cons_succ]
          try simp only [List.getElem_cons_zero]
          try simp only [Act.put]
          try simp only [List.setIfInBounds_toArray]
          try simp only [List.set]
          refine wpAnyH_take (i := 3) (v := .bool true) rfl (by kernel_rfl) (by kernel_rfl) (by kernel_rfl) (fun _ _ _ h => h) (Or.inl ⟨by kernel_rfl, fun u hSw => by (try dsimp only at hSw); go_simp; try with_reducible rfl⟩) hHeld ?_
          try simp only [List.getElem_toArray]
          try simp only [List.getElem_cons_succ]
          try simp only [List.getElem_cons_zero]
          try simp only [Act.put]
          try simp only [List.setIfInBounds_toArray]
          try simp only [List.set]
          refine wpAnyH_take (i := 4) (v := .agg #[.int .u64 (k : Nat), .int .u64 (m : Nat)]) rfl (by kernel_rfl) (by kernel_rfl) (by kernel_rfl) (fun _ _ _ h => h) (Or.inl ⟨by kernel_rfl, fun u hSw => by have x0 := hSw.1.cell0; have x1 := hSw.1.cell1; clear hSw; go_simp; try with_reducible rfl⟩) hHeld ?_
          try simp only [List.getElem_toArray]
          try simp only [List.getElem_cons_succ]
          try simp only [List.getElem_cons_zero]
          try simp only [Act.put]
          try simp only [List.setIfInBounds_toArray]
          try simp only [List.set]
          refine wpAnyH_take (i := 8) (v := .agg #[.int .u64 (k : Nat), .int .u64 (m : Nat)]) rfl (by kernel_rfl) (by kernel_rfl) (by kernel_rfl) (fun _ _ _ h => h) (Or.inl ⟨by kernel_rfl, fun u hSw => by have x0 := hSw.1.cell0; have x1 := hSw.1.cell1; clear hSw; go_simp; try with_reducible rfl⟩) hHeld ?_
          try simp only [List.getElem_toArray]
          try simp only [List.getElem_cons_succ]
          try simp only [List.getElem_cons_zero]
          try simp only [Act.put]
          try simp only [List.setIfInBounds_toArray]
          try simp only [List.set]
          refine wpAnyH_ready (rs := [5]) (by kernel_rfl) (by simp) ?_
          refine AllReadyH.cons rfl (fun K hK => ?_) AllReadyH.nil
          go_simp
          go_wp2_with (go_at_call 55; refine (spanEnd_any k m _ (by omega) (by omega)).mono ?_; rintro e w2 ⟨rfl, hb⟩; rw [HE.out])
          refine hK.out _ _ (tsKeep hHeld hb) (fun hHeld => ?_)
          clear hK K
          try simp only [Act.put]
          try simp only [List.setIfInBounds_toArray]
          try simp only [List.set]
          clear hb
          refine wpAnyH_take (i := 6) (v := .pointer (some ⟨pa, e, none⟩)) rfl (by kernel_rfl) (by kernel_rfl) (by kernel_rfl) (fun _ _ _ h => h) (Or.inl ⟨by kernel_rfl, fun u hSw => by (try dsimp only at hSw); go_simp; try with_reducible rfl⟩) hHeld ?_
          try simp only [List.getElem_toArray]
          try simp only [List.getElem_cons_succ]
          try simp only [List.getElem_cons_zero]
          try simp only [Act.put]
          try simp only [List.setIfInBounds_toArray]
          try simp only [List.set]
          refine wpAnyH_take (i := 7) (v := .int .u8 (byt za e)) rfl (by kernel_rfl) (by kernel_rfl) (by kernel_rfl) (fun _ _ _ h => h) (Or.inl ⟨by kernel_rfl, fun u hSw => by have x0 := hSw.2.1.cell e (by omega); change _ = some (Value.int .u8 (byt za e)) at x0; clear hSw; go_simp; try with_reducible rfl⟩) hHeld ?_
          try simp only [List.getElem_toArray]
          try simp only [List.getElem_cons_succ]
          try simp only [List.getElem_cons_zero]
          try simp only [Act.put]
          try simp only [List.setIfInBounds_toArray]
          try simp only [List.set]
          refine wpAnyH_ready (rs := [9]) (by kernel_rfl) (by simp) ?_
          refine AllReadyH.cons rfl (fun K hK => ?_) AllReadyH.nil
          go_simp
          go_wp2_with (go_at_call 55; refine (spanEnd_any k m _ (by omega) (by omega)).mono ?_; rintro e w2 ⟨rfl, hb⟩; rw [HE.out])
          refine hK.out _ _ (tsKeep hHeld hb) (fun hHeld => ?_)
          clear hK K
          try simp only [Act.put]
          try simp only [List.setIfInBounds_toArray]
          try simp only [List.set]
          clear hb
          refine wpAnyH_take (i := 10) (v := .pointer (some ⟨pb, e, none⟩)) rfl (by kernel_rfl) (by kernel_rfl) (by kernel_rfl) (fun _ _ _ h => h) (Or.inl ⟨by kernel_rfl, fun u hSw => by (try dsimp only at hSw); go_simp; try with_reducible rfl⟩) hHeld ?_
          try simp only [List.getElem_toArray]
          try simp only [List.getElem_cons_succ]
          try simp only [List.getElem_cons_zero]
          try simp only [Act.put]
          try simp only [List.setIfInBounds_toArray]
          try simp only [List.set]
          refine wpAnyH_take (i := 11) (v := .int .u8 (byt zb e)) rfl (by kernel_rfl) (by kernel_rfl) (by kernel_rfl) (fun _ _ _ h => h) (Or.inl ⟨by kernel_rfl, fun u hSw => by have x0 := hSw.2.2.1.cell e (by omega); change _ = some (Value.int .u8 (byt zb e)) at x0; clear hSw; go_simp; try with_reducible rfl⟩) hHeld ?_
          try simp only [List.getElem_toArray]
          try simp only [List.getElem_cons_succ]
          try simp only [List.getElem_cons_zero]
          try simp only [Act.put]
          try simp only [List.setIfInBounds_toArray]
          try simp only [List.set]
          refine wpAnyH_take (i := 12) (v := .bool (byt za e != byt zb e)) rfl (by kernel_rfl) (by kernel_rfl) (by kernel_rfl) (fun _ _ _ h => h) (Or.inl ⟨by kernel_rfl, fun u hSw => by (try dsimp only at hSw); go_simp; try with_reducible rfl⟩) hHeld ?_
          try simp only [List.getElem_toArray]
          try simp only [List.getElem_cons_succ]
          try simp only [List.getElem_cons_zero]
          try simp only [Act.put]
          try simp only [List.setIfInBounds_toArray]
          try simp only [List.set]
          refine wpAnyH_take (i := 13) (v := .bool (byt za e != byt zb e)) rfl (by kernel_rfl) (by kernel_rfl) (by kernel_rfl) (fun _ _ _ h => h) (Or.inl ⟨by kernel_rfl, fun u hSw => by (try dsimp only at hSw); go_simp; try with_reducible rfl⟩) hHeld ?_
          try simp only [List.getElem_toArray]
          try simp only [List.getElem_cons_succ]
          try simp only [List.getElem_cons_zero]
          try simp only [Act.put]
          try simp only [List.setIfInBounds_toArray]
          try simp only [List.set]
          refine wpAnyH_done (by kernel_rfl) ?_ _

          rw [hd]
          obtain ⟨hs, hA, hB, gi⟩ := hHeld
          have x1 := hs.cell1
          have f1 := hs.frozen1
          have hs2 := hs.set (m + 1)
          have gi2 : Below wo.heap.size wo (w2.setCell ⟨wo.heap.size, 1, none⟩ (.int .u64 ((m + 1 : Nat) : Int))) := gi.setCell (Nat.le_refl _) _
          have hsn := hs.n
          have hsn2 := hs2.n
          clear hd he2
          go_wp2_with fail
          go_roundw
          case rel => exact ⟨m + 1, by simpa using hs2, by simpa using gi2, by omega, HR2⟩
          case measure =>
            have h1 := hsn2
            simp only [Int.natCast_add, Int.natCast_one] at h1
            rw [h1, HN0.out]
            omega
        · have hrm : rl za zb k = m := by
            rw [HRe.out]
            by_cases h1 : e < 64
            · by_cases h2 : byt za e = byt zb e
              · rw [rl_same h2]; rfl
              · exact absurd ⟨h1, h2⟩ hdiff
            · rw [rl_end h1]; rfl
          have HRm : Hid (rl za zb k = m) := hrm
          clear hrm HRe HN0
          by_cases he1 : e < 64
          · have he2 : byt za e = byt zb e := by
              by_cases h2 : byt za e = byt zb e
              · exact h2
              · exact absurd ⟨he1, h2⟩ hdiff
            have hei : (e : Int) < 64 := by omega
            have hd : (byt za e != byt zb e) = false := by simpa using he2
            clear hdiff
            go_upto_region 3 with (fail)
            refine wp_region_held_drew (S := fun V => SpanAt V wo.heap.size k m ∧ Arr V pa za ∧ Arr V pb zb ∧ Below wo.heap.size wo V) (by kernel_rfl) (tsKeep ⟨hs, hA, hB, gi⟩ (Below.refl _ _).drew) (fun hHeld => ?_)
            clear hs hA hB gi
            generalize wr.drew = D at hHeld ⊢
            refine wpAnyH_take (i := 0) (v := .agg #[.int .u64 (k : Nat), .int .u64 (m : Nat)]) rfl (by kernel_rfl) (by kernel_rfl) (by kernel_rfl) (fun _ _ _ h => h) (Or.inl ⟨by kernel_rfl, fun u hSw => by have x0 := hSw.1.cell0; have x1 := hSw.1.cell1; clear hSw; go_simp; try with_reducible rfl⟩) hHeld ?_
            try simp only [List.getElem_toArray]
            try simp only [List.getElem_cons_succ]
            try simp only [List.getElem_cons_zero]
            try simp only [Act.put]
            try simp only [List.setIfInBounds_toArray]
            try simp only [List.set]
            refine wpAnyH_ready (rs := [1]) (by kernel_rfl) (by simp) ?_
            refine AllReadyH.cons rfl (fun K hK => ?_) AllReadyH.nil
            go_simp
            go_wp2_with (go_at_call 55; refine (spanEnd_any k m _ (by omega) (by omega)).mono ?_; rintro e w2 ⟨rfl, hb⟩; rw [HE.out])
            refine hK.out _ _ (tsKeep hHeld hb) (fun hHeld => ?_)
            clear hK K
            try simp only [Act.put]
            try simp only [List.setIfInBounds_toArray]
            try simp only [List.set]
            clear hb
            refine wpAnyH_take (i := 2) (v := .bool true) rfl (by kernel_rfl) (by kernel_rfl) (by kernel_rfl) (fun _ _ _ h => h) (Or.inl ⟨by kernel_rfl, fun u hSw => by (try dsimp only at hSw); go_simp; try with_reducible rfl⟩) hHeld ?_
            try simp only [List.getElem_toArray]
            try simp only [List.getElem_cons_succ]
            try simp only [List.getElem_cons_zero]
            try simp only [Act.put]
            try simp only [List.setIfInBounds_toArray]
            try simp only [List.set]
            refine wpAnyH_take (i := 3) (v := .bool true) rfl (by kernel_rfl) (by kernel_rfl) (by kernel_rfl) (fun _ _ _ h => h) (Or.inl ⟨by kernel_rfl, fun u hSw => by (try dsimp only at hSw); go_simp; try with_reducible rfl⟩) hHeld ?_
            try simp only [List.getElem_toArray]
            try simp only [List.getElem_cons_succ]
            try simp only [List.getElem_cons_zero]
            try simp only [Act.put]
            try simp only [List.setIfInBounds_toArray]
            try simp only [List.set]
            refine wpAnyH_take (i := 4) (v := .agg #[.int .u64 (k : Nat), .int .u64 (m : Nat)]) rfl (by kernel_rfl) (by kernel_rfl) (by kernel_rfl) (fun _ _ _ h => h) (Or.inl ⟨by kernel_rfl, fun u hSw => by have x0 := hSw.1.cell0; have x1 := hSw.1.cell1; clear hSw; go_simp; try with_reducible rfl⟩) hHeld ?_
            try simp only [List.getElem_toArray]
            try simp only [List.getElem_cons_succ]
            try simp only [List.getElem_cons_zero]
            try simp only [Act.put]
            try simp only [List.setIfInBounds_toArray]
            try simp only [List.set]
            refine wpAnyH_take (i := 8) (v := .agg #[.int .u64 (k : Nat), .int .u64 (m : Nat)]) rfl (by kernel_rfl) (by kernel_rfl) (by kernel_rfl) (fun _ _ _ h => h) (Or.inl ⟨by kernel_rfl, fun u hSw => by have x0 := hSw.1.cell0; have x1 := hSw.1.cell1; clear hSw; go_simp; try with_reducible rfl⟩) hHeld ?_
            try simp only [List.getElem_toArray]
            try simp only [List.getElem_cons_succ]
            try simp only [List.getElem_cons_zero]
            try simp only [Act.put]
            try simp only [List.setIfInBounds_toArray]
            try simp only [List.set]
            refine wpAnyH_ready (rs := [5]) (by kernel_rfl) (by simp) ?_
            refine AllReadyH.cons rfl (fun K hK => ?_) AllReadyH.nil
            go_simp
            go_wp2_with (go_at_call 55; refine (spanEnd_any k m _ (by omega) (by omega)).mono ?_; rintro e w2 ⟨rfl, hb⟩; rw [HE.out])
            refine hK.out _ _ (tsKeep hHeld hb) (fun hHeld => ?_)
            clear hK K
            try simp only [Act.put]
            try simp only [List.setIfInBounds_toArray]
            try simp only [List.set]
            clear hb
            refine wpAnyH_take (i := 6) (v := .pointer (some ⟨pa, e, none⟩)) rfl (by kernel_rfl) (by kernel_rfl) (by kernel_rfl) (fun _ _ _ h => h) (Or.inl ⟨by kernel_rfl, fun u hSw => by (try dsimp only at hSw); go_simp; try with_reducible rfl⟩) hHeld ?_
            try simp only [List.getElem_toArray]
            try simp only [List.getElem_cons_succ]
            try simp only [List.getElem_cons_zero]
            try simp only [Act.put]
            try simp only [List.setIfInBounds_toArray]
            try simp only [List.set]
            refine wpAnyH_take (i := 7) (v := .int .u8 (byt za e)) rfl (by kernel_rfl) (by kernel_rfl) (by kernel_rfl) (fun _ _ _ h => h) (Or.inl ⟨by kernel_rfl, fun u hSw => by have x0 := hSw.2.1.cell e (by omega); change _ = some (Value.int .u8 (byt za e)) at x0; clear hSw; go_simp; try with_reducible rfl⟩) hHeld ?_
            try simp only [List.getElem_toArray]
            try simp only [List.getElem_cons_succ]
            try simp only [List.getElem_cons_zero]
            try simp only [Act.put]
            try simp only [List.setIfInBounds_toArray]
            try simp only [List.set]
            refine wpAnyH_ready (rs := [9]) (by kernel_rfl) (by simp) ?_
            refine AllReadyH.cons rfl (fun K hK => ?_) AllReadyH.nil
            go_simp
            go_wp2_with (go_at_call 55; refine (spanEnd_any k m _ (by omega) (by omega)).mono ?_; rintro e w2 ⟨rfl, hb⟩; rw [HE.out])
            refine hK.out _ _ (tsKeep hHeld hb) (fun hHeld => ?_)
            clear hK K
            try simp only [Act.put]
            try simp only [List.setIfInBounds_toArray]
            try simp only [List.set]
            clear hb
            refine wpAnyH_take (i := 10) (v := .pointer (some ⟨pb, e, none⟩)) rfl (by kernel_rfl) (by kernel_rfl) (by kernel_rfl) (fun _ _ _ h => h) (Or.inl ⟨by kernel_rfl, fun u hSw => by (try dsimp only at hSw); go_simp; try with_reducible rfl⟩) hHeld ?_
            try simp only [List.getElem_toArray]
            try simp only [List.getElem_cons_succ]
            try simp only [List.getElem_cons_zero]
            try simp only [Act.put]
            try simp only [List.setIfInBounds_toArray]
            try simp only [List.set]
            refine wpAnyH_take (i := 11) (v := .int .u8 (byt zb e)) rfl (by kernel_rfl) (by kernel_rfl) (by kernel_rfl) (fun _ _ _ h => h) (Or.inl ⟨by kernel_rfl, fun u hSw => by have x0 := hSw.2.2.1.cell e (by omega); change _ = some (Value.int .u8 (byt zb e)) at x0; clear hSw; go_simp; try with_reducible rfl⟩) hHeld ?_
            try simp only [List.getElem_toArray]
            try simp only [List.getElem_cons_succ]
            try simp only [List.getElem_cons_zero]
            try simp only [Act.put]
            try simp only [List.setIfInBounds_toArray]
            try simp only [List.set]
            refine wpAnyH_take (i := 12) (v := .bool (byt za e != byt zb e)) rfl (by kernel_rfl) (by kernel_rfl) (by kernel_rfl) (fun _ _ _ h => h) (Or.inl ⟨by kernel_rfl, fun u hSw => by (try dsimp only at hSw); go_simp; try with_reducible rfl⟩) hHeld ?_
            try simp only [List.getElem_toArray]
            try simp only [List.getElem_cons_succ]
            try simp only [List.getElem_cons_zero]
            try simp only [Act.put]
            try simp only [List.setIfInBounds_toArray]
            try simp only [List.set]
            refine wpAnyH_take (i := 13) (v := .bool (byt za e != byt zb e)) rfl (by kernel_rfl) (by kernel_rfl) (by kernel_rfl) (fun _ _ _ h => h) (Or.inl ⟨by kernel_rfl, fun u hSw => by (try dsimp only at hSw); go_simp; try with_reducible rfl⟩) hHeld ?_
            try simp only [List.getElem_toArray]
            try simp only [List.getElem_cons_succ]
            try simp only [List.getElem_cons_zero]
            try simp only [Act.put]
            try simp only [List.setIfInBounds_toArray]
            try simp only [List.set]
            refine wpAnyH_done (by kernel_rfl) ?_ _

            rw [hd]
            clear hd he2 hei
            obtain ⟨hs, _, _, gi⟩ := hHeld
            clear hA0 hB0
            by_cases hm0 : m = 0
            · subst hm0
              have x0 := hs.cell0
              have x1 := hs.cell1
              have HP2 : Hid (xs = pre ++ dS za zb (k + 1)) := by show _ = _; rw [HP.out, dS_none hlt HRm.out]
              have hJ2 : J pre w2 := hJ _ _ _ none hJp ⟨gi.os, gi.tape, gi.output, gi.size, fun j hj _ => gi.block j hj⟩ (fun r e => by cases e)
              have he0 := HE.out
              go_wp2_with fail
              refine wpIn_wide.2 ?_
              go_wp2_with fail
              refine (spanEnd_any k 0 _ (by omega) (by omega)).mono ?_
              rintro e' w3 ⟨rfl, hb⟩
              rw [Nat.add_zero]
              have g3 : Below n₀ W w3 := (g.trans (gi.mono (Nat.le_trans hn₀ (Nat.le_trans g.size (Nat.le_refl _))))).trans (hb.mono (Nat.le_trans hn₀ (Nat.le_trans g.size gi.size)))
              have hJ3 : J pre w3 := hJ _ _ _ none hJ2 ⟨hb.os, hb.tape, hb.output, hb.size, fun j hj _ => hb.block j hj⟩ (fun r e => by cases e)
              clear hb x0 x1 hs gi hJ2 hJp
              go_wp2_with fail
              go_roundw
              case rel => exact ⟨k + 1, pre, by omega, by go_num, hJ3, g3, HP2⟩
              case measure => simp [intOf]; omega
            · have hm1 : 1 ≤ rl za zb k := by rw [HRm.out]; omega
              have hrl := HRm.out
              obtain ⟨x, hx1, hx2, hx3⟩ : ∃ x : Sp, dS za zb k = x :: dS za zb (k + m + 1) ∧ x.1.1 = k ∧ x.1.2 = m := ⟨⟨(k, rl za zb k), hm1, rl_le za zb k (Nat.le_of_lt hlt)⟩, by rw [dS_span hlt hm1, show k + rl za zb k + 1 = k + m + 1 by rw [HRm.out]], rfl, HRm.out⟩
              have HP2 : Hid (xs = (pre ++ [x]) ++ dS za zb (k + m + 1)) := by show _ = _; rw [HP.out, hx1, List.append_assoc]; rfl
              have hJ2 : J pre w2 := hJ _ _ _ none hJp ⟨gi.os, gi.tape, gi.output, gi.size, fun j hj _ => gi.block j hj⟩ (fun r e => by cases e)
              have hE : spE x = #[.agg #[.int .u64 (k : Nat), .int .u64 (m : Nat)]] := by unfold spE; rw [hx2, hx3]
              obtain ⟨fn, tmps, assign, body, hy, hR'⟩ := hY pre x w2 hJ2 (by rw [HP2.out]; simp)
              rw [hE] at hy
              have x0 := hs.cell0
              have x1 := hs.cell1
              have hmpos : (0 : Int) < (m : Int) := by omega
              have HS : Hid (SpanAt w2 wo.heap.size k m) := hs
              have g2 : Below n₀ W w2 := g.trans (gi.mono (Nat.le_trans hn₀ g.size))
              have hkm2 : k + m ≤ 64 := hkm
              clear hE hx1 hx2 hx3 hJp hJ2 hm1 hrl hs gi
              go_wp2_with fail
              gi_wp2
              refine ⟨fun hd => (by cases hd), ?_⟩
              refine hR'.mono ?_
              rintro e' W3 (⟨rfl, hJ3, hk3⟩ | ⟨rfl, hJx3⟩)
              · have hs3 : SpanAt W3 wo.heap.size k m := (hk3.2 _ _ _ HS.out).trans HS.out
                have g3 : Below n₀ W W3 := g2.trans hk3.1
                clear x0 x1 hy hR' hk3 HS g2
                have x0 := hs3.cell0
                have x1 := hs3.cell1
                gi_wp2
                refine ⟨trivial, fun hd => (by cases hd), ?_⟩
                refine (callsIn_wide.2 (spanEnd_any k m _ (by omega) (by omega))).mono ?_
                rintro e2 w4 ⟨rfl, hb⟩
                have g4 : Below n₀ W w4 := g3.trans (hb.mono (Nat.le_trans hn₀ g3.size))
                have hJ4 : J (pre ++ [x]) w4 := hJ _ _ _ none hJ3 ⟨hb.os, hb.tape, hb.output, hb.size, fun j hj _ => hb.block j hj⟩ (fun r e => by cases e)
                clear hb x0 x1 hs3 g3 hJ3
                obtain ⟨q, hq⟩ : ∃ q, q = k + m := ⟨_, rfl⟩
                rw [← hq] at HP2 ⊢
                have hq64 : q ≤ 64 := by omega
                have hqk : k < q := by omega
                clear hq
                gi_wp2
                go_roundw
                case rel => exact ⟨q + 1, pre ++ [x], by omega, by go_num, hJ4, g4, HP2⟩
                case measure => simp [intOf]; omega
              · gi_wp2
                refine bodyPost_ret (results_none rfl _ _ _) rfl ?_
                exact ⟨⟨_, rfl⟩, .inr ⟨pre ++ [x], by rw [HP2.out]; exact List.prefix_append _ _, hJx3⟩⟩

          · have hei : ¬ ((e : Int) < 64) := by omega
            clear hdiff
            go_upto_region 3 with (fail)
            refine wp_region_held_drew (S := fun V => SpanAt V wo.heap.size k m ∧ Arr V pa za ∧ Arr V pb zb ∧ Below wo.heap.size wo V) (by kernel_rfl) (tsKeep ⟨hs, hA, hB, gi⟩ (Below.refl _ _).drew) (fun hHeld => ?_)
            clear hs hA hB gi
            generalize wr.drew = D at hHeld ⊢
            refine wpAnyH_take (i := 0) (v := .agg #[.int .u64 (k : Nat), .int .u64 (m : Nat)]) rfl (by kernel_rfl) (by kernel_rfl) (by kernel_rfl) (fun _ _ _ h => h) (Or.inl ⟨by kernel_rfl, fun u hSw => by have x0 := hSw.1.cell0; have x1 := hSw.1.cell1; clear hSw; go_simp; try with_reducible rfl⟩) hHeld ?_
            try simp only [List.getElem_toArray]
            try simp only [List.getElem_cons_succ]
            try simp only [List.getElem_cons_zero]
            try simp only [Act.put]
            try simp only [List.setIfInBounds_toArray]
            try simp only [List.set]
            refine wpAnyH_ready (rs := [1]) (by kernel_rfl) (by simp) ?_
            refine AllReadyH.cons rfl (fun K hK => ?_) AllReadyH.nil
            go_simp
            go_wp2_with (go_at_call 55; refine (spanEnd_any k m _ (by omega) (by omega)).mono ?_; rintro e w2 ⟨rfl, hb⟩; rw [HE.out])
            refine hK.out _ _ (tsKeep hHeld hb) (fun hHeld => ?_)
            clear hK K
            try simp only [Act.put]
            try simp only [List.setIfInBounds_toArray]
            try simp only [List.set]
            clear hb
            refine wpAnyH_take (i := 2) (v := .bool false) rfl (by kernel_rfl) (by kernel_rfl) (by kernel_rfl) (fun _ _ _ h => h) (Or.inl ⟨by kernel_rfl, fun u hSw => by (try dsimp only at hSw); go_simp; try with_reducible rfl⟩) hHeld ?_
            try simp only [List.getElem_toArray]
            try simp only [List.getElem_cons_succ]
            try simp only [List.getElem_cons_zero]
            try simp only [Act.put]
            try simp only [List.setIfInBounds_toArray]
            try simp only [List.set]
            refine wpAnyH_take (i := 3) (v := .bool false) rfl (by kernel_rfl) (by kernel_rfl) (by kernel_rfl) (fun _ _ _ h => h) (Or.inl ⟨by kernel_rfl, fun u hSw => by (try dsimp only at hSw); go_simp; try with_reducible rfl⟩) hHeld ?_
            try simp only [List.getElem_toArray]
            try simp only [List.getElem_cons_succ]
            try simp only [List.getElem_cons_zero]
            try simp only [Act.put]
            try simp only [List.setIfInBounds_toArray]
            try simp only [List.set]
            refine wpAnyH_take (i := 4) (v := undef) rfl (by kernel_rfl) (by kernel_rfl) (by kernel_rfl) (fun _ _ _ h => h) (Or.inr ⟨by kernel_rfl, rfl⟩) hHeld ?_
            try simp only [List.getElem_toArray]
            try simp only [List.getElem_cons_succ]
            try simp only [List.getElem_cons_zero]
            try simp only [Act.put]
            try simp only [List.setIfInBounds_toArray]
            try simp only [List.set]
            refine wpAnyH_take (i := 5) (v := undef) rfl (by kernel_rfl) (by kernel_rfl) (by kernel_rfl) (fun _ _ _ h => h) (Or.inr ⟨by kernel_rfl, rfl⟩) hHeld ?_
            try simp only [List.getElem_toArray]
            try simp only [List.getElem_cons_succ]
            try simp only [List.getElem_cons_zero]
            try simp only [Act.put]
            try simp only [List.setIfInBounds_toArray]
            try simp only [List.set]
            refine wpAnyH_take (i := 6) (v := undef) rfl (by kernel_rfl) (by kernel_rfl) (by kernel_rfl) (fun _ _ _ h => h) (Or.inr ⟨by kernel_rfl, rfl⟩) hHeld ?_
            try simp only [List.getElem_toArray]
            try simp only [List.getElem_cons_succ]
            try simp only [List.getElem_cons_zero]
            try simp only [Act.put]
            try simp only [List.setIfInBounds_toArray]
            try simp only [List.set]
            refine wpAnyH_take (i := 7) (v := undef) rfl (by kernel_rfl) (by kernel_rfl) (by kernel_rfl) (fun _ _ _ h => h) (Or.inr ⟨by kernel_rfl, rfl⟩) hHeld ?_
            try simp only [List.getElem_toArray]
            try simp only [List.getElem_cons_succ]
            try simp only [List.getElem_cons_zero]
            try simp only [Act.put]
            try simp only [List.setIfInBounds_toArray]
            try simp only [List.set]
            refine wpAnyH_take (i := 8) (v := undef) rfl (by kernel_rfl) (by kernel_rfl) (by kernel_rfl) (fun _ _ _ h => h) (Or.inr ⟨by kernel_rfl, rfl⟩) hHeld ?_
            try simp only [List.getElem_toArray]
            try simp only [List.getElem_cons_succ]
            try simp only [List.getElem_cons_zero]
            try simp only [Act.put]
            try simp only [List.setIfInBounds_toArray]
            try simp only [List.set]
            refine wpAnyH_take (i := 9) (v := undef) rfl (by kernel_rfl) (by kernel_rfl) (by kernel_rfl) (fun _ _ _ h => h) (Or.inr ⟨by kernel_rfl, rfl⟩) hHeld ?_
            try simp only [List.getElem_toArray]
            try simp only [List.getElem_cons_succ]
            try simp only [List.getElem_cons_zero]
            try simp only [Act.put]
            try simp only [List.setIfInBounds_toArray]
            try simp only [List.set]
            refine wpAnyH_take (i := 10) (v := undef) rfl (by kernel_rfl) (by kernel_rfl) (by kernel_rfl) (fun _ _ _ h => h) (Or.inr ⟨by kernel_rfl, rfl⟩) hHeld ?_
            try simp only [List.getElem_toArray]
            try simp only [List.getElem_cons_succ]
            try simp only [List.getElem_cons_zero]
            try simp only [Act.put]
            try simp only [List.setIfInBounds_toArray]
            try simp only [List.set]
            refine wpAnyH_take (i := 11) (v := undef) rfl (by kernel_rfl) (by kernel_rfl) (by kernel_rfl) (fun _ _ _ h => h) (Or.inr ⟨by kernel_rfl, rfl⟩) hHeld ?_
            try simp only [List.getElem_toArray]
            try simp only [List.getElem_cons_succ]
            try simp only [List.getElem_cons_zero]
            try simp only [Act.put]
            try simp only [List.setIfInBounds_toArray]
            try simp only [List.set]
            refine wpAnyH_take (i := 12) (v := undef) rfl (by kernel_rfl) (by kernel_rfl) (by kernel_rfl) (fun _ _ _ h => h) (Or.inr ⟨by kernel_rfl, rfl⟩) hHeld ?_
            try simp only [List.getElem_toArray]
            try simp only [List.getElem_cons_succ]
            try simp only [List.getElem_cons_zero]
            try simp only [Act.put]
            try simp only [List.setIfInBounds_toArray]
            try simp only [List.set]
            refine wpAnyH_take (i := 13) (v := .bool false) rfl (by kernel_rfl) (by kernel_rfl) (by kernel_rfl) (fun _ _ _ h => h) (Or.inl ⟨by kernel_rfl, fun u hSw => by (try dsimp only at hSw); go_simp; try with_reducible rfl⟩) hHeld ?_
            try simp only [List.getElem_toArray]
            try simp only [List.getElem_cons_succ]
            try simp only [List.getElem_cons_zero]
            try simp only [Act.put]
            try simp only [List.setIfInBounds_toArray]
            try simp only [List.set]
            refine wpAnyH_done (by kernel_rfl) ?_ _

            clear hei
            obtain ⟨hs, _, _, gi⟩ := hHeld
            clear hA0 hB0
            by_cases hm0 : m = 0
            · exfalso
              have := HE.out
              omega
            · have hm1 : 1 ≤ rl za zb k := by rw [HRm.out]; omega
              have hrl := HRm.out
              obtain ⟨x, hx1, hx2, hx3⟩ : ∃ x : Sp, dS za zb k = x :: dS za zb (k + m + 1) ∧ x.1.1 = k ∧ x.1.2 = m := ⟨⟨(k, rl za zb k), hm1, rl_le za zb k (Nat.le_of_lt hlt)⟩, by rw [dS_span hlt hm1, show k + rl za zb k + 1 = k + m + 1 by rw [HRm.out]], rfl, HRm.out⟩
              have HP2 : Hid (xs = (pre ++ [x]) ++ dS za zb (k + m + 1)) := by show _ = _; rw [HP.out, hx1, List.append_assoc]; rfl
              have hJ2 : J pre w2 := hJ _ _ _ none hJp ⟨gi.os, gi.tape, gi.output, gi.size, fun j hj _ => gi.block j hj⟩ (fun r e => by cases e)
              have hE : spE x = #[.agg #[.int .u64 (k : Nat), .int .u64 (m : Nat)]] := by unfold spE; rw [hx2, hx3]
              obtain ⟨fn, tmps, assign, body, hy, hR'⟩ := hY pre x w2 hJ2 (by rw [HP2.out]; simp)
              rw [hE] at hy
              have x0 := hs.cell0
              have x1 := hs.cell1
              have hmpos : (0 : Int) < (m : Int) := by omega
              have HS : Hid (SpanAt w2 wo.heap.size k m) := hs
              have g2 : Below n₀ W w2 := g.trans (gi.mono (Nat.le_trans hn₀ g.size))
              have hkm2 : k + m ≤ 64 := hkm
              clear hE hx1 hx2 hx3 hJp hJ2 hm1 hrl hs gi
              go_wp2_with fail
              gi_wp2
              refine ⟨fun hd => (by cases hd), ?_⟩
              refine hR'.mono ?_
              rintro e' W3 (⟨rfl, hJ3, hk3⟩ | ⟨rfl, hJx3⟩)
              · have hs3 : SpanAt W3 wo.heap.size k m := (hk3.2 _ _ _ HS.out).trans HS.out
                have g3 : Below n₀ W W3 := g2.trans hk3.1
                clear x0 x1 hy hR' hk3 HS g2
                have x0 := hs3.cell0
                have x1 := hs3.cell1
                gi_wp2
                refine ⟨trivial, fun hd => (by cases hd), ?_⟩
                refine (callsIn_wide.2 (spanEnd_any k m _ (by omega) (by omega))).mono ?_
                rintro e2 w4 ⟨rfl, hb⟩
                have g4 : Below n₀ W w4 := g3.trans (hb.mono (Nat.le_trans hn₀ g3.size))
                have hJ4 : J (pre ++ [x]) w4 := hJ _ _ _ none hJ3 ⟨hb.os, hb.tape, hb.output, hb.size, fun j hj _ => hb.block j hj⟩ (fun r e => by cases e)
                clear hb x0 x1 hs3 g3 hJ3
                obtain ⟨q, hq⟩ : ∃ q, q = k + m := ⟨_, rfl⟩
                rw [← hq] at HP2 ⊢
                have hq64 : q ≤ 64 := by omega
                have hqk : k < q := by omega
                clear hq
                gi_wp2
                go_roundw
                case rel => exact ⟨q + 1, pre ++ [x], by omega, by go_num, hJ4, g4, HP2⟩
                case measure => simp [intOf]; omega
              · gi_wp2
                refine bodyPost_ret (results_none rfl _ _ _) rfl ?_
                exact ⟨⟨_, rfl⟩, .inr ⟨pre ++ [x], by rw [HP2.out]; exact List.prefix_append _ _, hJx3⟩⟩

    · have hk64 : ¬ ((k : Int) < 64) := by omega
      gi_wp2
      go_end0
      exact ⟨⟨_, rfl⟩, .inl (by rw [HP.out, dS_end hlt, List.append_nil]; exact hJp)⟩

/-- What turnedSpans hands back tells the longest spans in which the pages differ. -/
theorem turned_stops (pa pb n₀ : Nat) (za zb : List Int) (hza : ∀ z ∈ za, 0 ≤ z ∧ z ≤ 255) (hzb : ∀ z ∈ zb, 0 ≤ z ∧ z ≤ 255) (w : World) (hn₀ : n₀ ≤ w.heap.size) (hpa : pa < n₀) (hpb : pb < n₀) (hA : Arr w pa za) (hB : Arr w pb zb) :
    SeqStopsK Fence.wide 9 Try.prog 56 #[.pointer (some ⟨pa, 0, none⟩), .pointer (some ⟨pb, 0, none⟩)] spE (Kp79 n₀) (fun ys => ys = dS za zb 0) (fun pre => pre <+: dS za zb 0) (dS za zb 0).length w := fun l J Jx W hW hJ _ hY h0 =>
  turned1_in 9 l pa pb n₀ za zb hza hzb J Jx W hJ hY (Nat.le_trans hn₀ hW.size) hpa hpb (hA.below hW (Nat.lt_of_lt_of_le hpa hn₀)) (hB.below hW (Nat.lt_of_lt_of_le hpb hn₀)) h0

end Go.Proofs.Ytpoccjlngbdjlaa
