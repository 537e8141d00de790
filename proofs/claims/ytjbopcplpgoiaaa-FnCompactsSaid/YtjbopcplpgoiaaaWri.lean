/-
  The contract of writeCell: a cell is copied into a page, and its slot tells it.
-/
import Derived.Test.YtjbopcplpgoiaaaPut
import Derived.Laws.CopyOwn
namespace Go.Proofs.Ytjbopcplpgoiaaa
open Go.RowKit
set_option linter.unusedVariables false

/-- Bytes are copied into a page. -/
theorem wp_copyPg {o : Oper} {a : Act} {w : World} {K : Act → World → Prop} {Q : Exit → Act → World → Prop} (d s : Operand)
    (ho : o.op = .call { callee := .builtin .copy, args := #[d, s], argTypes := #[22, 22] })
    (b off n dCap : Nat) (ad : Addr) (sCap : Nat) (hd : a.eval d = .slice (some ⟨b, off, none⟩) n dCap) (hs : a.eval s = .slice (some ad) n sCap)
    (zs cs : List Int) (hA : Arr w b zs) (hn : cs.length = n) (hsrc : ∀ j v, (cs.map (Value.int .u8))[j]? = some v → w.cell? (ad.add j) = some v) (hfit : off + n ≤ 64)
    (h : K (a.put o.dst (goInt n)) (w.setRow b (pgC (splice zs off cs)))) : o.wp Try.prog a w K Q := by
  have hinf : (Try.prog.info? 5).map (·.size) = some 1 := by kernel_rfl
  have hrun := run_copy_row (P := Try.prog) w 22 22 o.type 5 b off n dCap ad n sCap (pgC zs) 57 (cs.map (Value.int .u8)) Try.underlying22 hinf hA.row (by simp [hn]) hsrc (by rw [pgC_size, hA.len, List.length_map, hn]; exact hfit) (fun v hv => by
    rw [List.mem_map] at hv
    obtain ⟨z, _, rfl⟩ := hv
    rfl)
  have e : ((pgC zs).toList.take off ++ cs.map (Value.int .u8) ++ (pgC zs).toList.drop (off + (cs.map (Value.int .u8)).length)).toArray = pgC (splice zs off cs) := by
    simp [pgC, splice]
  rw [e, List.length_map, hn] at hrun
  unfold Oper.wp
  simp [execOp, ho, resolve, invoke, builtin, hd, hs, hrun, Result.andThen]
  exact h

def WcS (w : World) (b y p n : Nat) (V : World) : Prop := V.cell? ⟨y, 0, none⟩ = some (.int .u64 p) ∧ V.cell? ⟨y, 1, none⟩ = some (.int .u64 n) ∧ (∃ ys, Arr V b ys) ∧ Turned b (b + 1) w V
theorem wcKeep {w : World} {b y p n : Nat} {W V : World} (h : WcS w b y p n W) (hb : Below W.heap.size W V) : WcS w b y p n V := by
  obtain ⟨h1, h2, ⟨ys, h3⟩, h4⟩ := h
  have hy : y < W.heap.size := World.block_lt_of_cell? W _ h1
  exact ⟨(hb.cell (p := ⟨y, 0, none⟩) hy).trans h1, (hb.cell (p := ⟨y, 1, none⟩) hy).trans h2, ⟨ys, h3.grown hb⟩, h4.trans (Turned.ofBelow hb)⟩

set_option maxHeartbeats 2000000 in
theorem writeCell_any (b s p n sb so c : Nat) (zs cs : List Int) (w : World) (hA : Arr w b zs) (hn : cs.length = n) (h1 : 1 ≤ n) (h64 : p + n ≤ 64) (hs : s < 30) (hr : Reads w (some ⟨sb, so, none⟩) cs) :
    Calls Try.prog 73 #[.pointer (some ⟨b, 0, none⟩), .int .u64 s, .slice (some ⟨sb, so, none⟩) n c, .int .u64 (p + n : Nat)] w fun e w' => e = .returned (.tuple #[]) ∧ Turned b (b + 1) w w' ∧ Arr w' b (spanSet (splice zs p cs) s p n) := by
  have hblt := hA.lt
  have HNl : Hid (cs.length = n) := hn
  clear hn
  go_enter Try.func73, Try.ntmps73
  go_upto_region 1 with (fail)
  generalize hX : World.alloc w _ = X
  have gX : Below w.heap.size w X := by rw [← hX]; exact (Below.refl _ _).alloc (Nat.le_refl _) _
  have s0 : X.cell? ⟨w.heap.size, 0, none⟩ = some (.int .u64 p) := by rw [← hX]; simp [go_sem]
  have s1 : X.cell? ⟨w.heap.size, 1, none⟩ = some (.int .u64 n) := by rw [← hX]; simp [go_sem]
  have hAX := hA.grown gX
  have hrX := hr.below gX (Nat.le_refl _)
  have htX : Turned b (b + 1) w X := Turned.ofBelow gX
  clear hX gX hA hr
  have hyb : w.heap.size ≠ b := by omega
  obtain ⟨y, hy⟩ : ∃ y, y = w.heap.size := ⟨_, rfl⟩
  rw [← hy] at s0 s1 hyb ⊢
  clear hy
  obtain ⟨q, hq⟩ : ∃ q, q = p + n := ⟨_, rfl⟩
  have HQ : Hid (p + n = q) := hq.symm
  have hq64 : (q : Int) ≤ 64 := by omega
  have hpq : (p : Int) ≤ (q : Int) := by omega
  have hql : q - p = n := by omega
  have hp64 : ¬ (64 = p) := by omega
  clear hq
  refine wp_region_held_drew (S := fun V => V.cell? ⟨y, 0, none⟩ = some (.int .u64 p) ∧ V.cell? ⟨y, 1, none⟩ = some (.int .u64 n) ∧ (∃ ys, Arr V b ys) ∧ Turned b (b + 1) w V) (by kernel_rfl) ⟨s0, s1, ⟨zs, hAX.grown (Below.refl _ _).drew⟩, htX.trans (Turned.ofBelow (Below.refl _ _).drew)⟩ (fun hHeld => ?_)
  have hAD := hAX.grown (w' := X.drew) (Below.refl _ _).drew
  have hrD := hrX.below (w' := X.drew) (Below.refl _ _).drew (Nat.le_refl _)
  generalize X.drew = D at hHeld hAD hrD ⊢
  clear s0 s1 htX hAX hrX
  refine wpAnyH_take (i := 0) (v := .pointer (some ⟨b, 0, none⟩)) rfl (by kernel_rfl) (by kernel_rfl) (by kernel_rfl) (fun _ _ _ h => h) (Or.inl ⟨by kernel_rfl, fun u hSw => by (try dsimp only at hSw); go_simp; try with_reducible rfl⟩) hHeld ?_
  try simp only [List.getElem_toArray]
  try simp only [List.getElem_cons_succ]
  try simp only [List.getElem_cons_zero]
  try simp only [Act.put]
  try simp only [List.setIfInBounds_toArray]
  try simp only [List.set]
  refine wpAnyH_take (i := 1) (v := .pointer (some ⟨b, 0, none⟩)) rfl (by kernel_rfl) (by kernel_rfl) (by kernel_rfl) (fun _ _ _ h => h) (Or.inl ⟨by kernel_rfl, fun u hSw => by (try dsimp only at hSw); go_simp; try with_reducible rfl⟩) hHeld ?_
  try simp only [List.getElem_toArray]
  try simp only [List.getElem_cons_succ]
  try simp only [List.getElem_cons_zero]
  try simp only [Act.put]
  try simp only [List.setIfInBounds_toArray]
  try simp only [List.set]
  refine wpAnyH_take (i := 2) (v := .pointer (some ⟨y, 0, none⟩)) rfl (by kernel_rfl) (by kernel_rfl) (by kernel_rfl) (fun _ _ _ h => h) (Or.inl ⟨by kernel_rfl, fun u hSw => by (try dsimp only at hSw); go_simp; try with_reducible rfl⟩) hHeld ?_
  try simp only [List.getElem_toArray]
  try simp only [List.getElem_cons_succ]
  try simp only [List.getElem_cons_zero]
  try simp only [Act.put]
  try simp only [List.setIfInBounds_toArray]
  try simp only [List.set]
  refine wpAnyH_take (i := 3) (v := .int .u64 p) rfl (by kernel_rfl) (by kernel_rfl) (by kernel_rfl) (fun _ _ _ h => h) (Or.inl ⟨by kernel_rfl, fun u hSw => by (try dsimp only at hSw); go_simp; try with_reducible rfl⟩) hHeld ?_
  try simp only [List.getElem_toArray]
  try simp only [List.getElem_cons_succ]
  try simp only [List.getElem_cons_zero]
  try simp only [Act.put]
  try simp only [List.setIfInBounds_toArray]
  try simp only [List.set]
  refine wpAnyH_take (i := 4) (v := .agg #[.int .u64 p, .int .u64 n]) rfl (by kernel_rfl) (by kernel_rfl) (by kernel_rfl) (fun _ _ _ h => h) (Or.inl ⟨by kernel_rfl, fun u hSw => by (try dsimp only at hSw); go_simp; try with_reducible rfl⟩) hHeld ?_
  try simp only [List.getElem_toArray]
  try simp only [List.getElem_cons_succ]
  try simp only [List.getElem_cons_zero]
  try simp only [Act.put]
  try simp only [List.setIfInBounds_toArray]
  try simp only [List.set]
  refine wpAnyH_take (i := 7) (v := .slice (some ⟨sb, so, none⟩) n c) rfl (by kernel_rfl) (by kernel_rfl) (by kernel_rfl) (fun _ _ _ h => h) (Or.inl ⟨by kernel_rfl, fun u hSw => by (try dsimp only at hSw); go_simp; try with_reducible rfl⟩) hHeld ?_
  try simp only [List.getElem_toArray]
  try simp only [List.getElem_cons_succ]
  try simp only [List.getElem_cons_zero]
  try simp only [Act.put]
  try simp only [List.setIfInBounds_toArray]
  try simp only [List.set]
  refine wpAnyH_ready (rs := [5]) (by kernel_rfl) (by simp) ?_
  refine AllReadyH.cons rfl (fun K hK => ?_) AllReadyH.nil
  go_simp
  go_wp2_with (go_at_call 62; refine (spanEnd_any p n _ (by omega) (by omega)).mono ?_; rintro e w' ⟨rfl, hb⟩; rw [HQ.out])
  have hAE := hAD.grown hb
  have hrE := hrD.below hb (Nat.le_refl _)
  refine hK.out _ _ (wcKeep hHeld hb) (fun hHeld => ?_)
  clear hAD hrD hb
  clear hK K
  try simp only [Act.put]
  try simp only [List.setIfInBounds_toArray]
  try simp only [List.set]
  refine wpAnyH_take (i := 6) (v := .slice (some ⟨b, p, none⟩) n (64 - p)) rfl (by kernel_rfl) (by kernel_rfl) (by kernel_rfl) (fun _ _ _ h => h) (Or.inl ⟨by kernel_rfl, fun u hSw => by (try dsimp only at hSw); go_simp; try with_reducible rfl⟩) hHeld ?_
  try simp only [List.getElem_toArray]
  try simp only [List.getElem_cons_succ]
  try simp only [List.getElem_cons_zero]
  try simp only [Act.put]
  try simp only [List.setIfInBounds_toArray]
  try simp only [List.set]
  refine wpAnyH_ready (rs := [8]) (by kernel_rfl) (by simp) ?_
  refine AllReadyH.cons rfl (fun K hK => ?_) AllReadyH.nil
  rw [if_pos (by kernel_rfl)]
  refine wp_copyPg _ _ rfl b p n (64 - p) ⟨sb, so, none⟩ c rfl rfl zs cs hAE HNl.out (reads_src hrE) h64 ?_
  obtain ⟨x0, x1, _, ht⟩ := id hHeld
  have hlen : (splice zs p cs).length = 64 := by rw [length_splice _ _ _ (by rw [hAE.len, HNl.out]; exact h64)]; exact hAE.len
  have hAF := hAE.put (ys := splice zs p cs) hlen
  generalize hV : World.setRow _ b (pgC (splice zs p cs)) = V at hAF ⊢
  have cellV : ∀ i u, World.cell? _ ⟨y, i, none⟩ = some u → V.cell? ⟨y, i, none⟩ = some u := fun i u hc => by
    rw [← hV]
    exact (World.cell?_of_block (setRow_other _ b y _ hyb)).trans hc
  have y0 := cellV 0 _ x0
  have y1 := cellV 1 _ x1
  have htV : Turned b (b + 1) w V := ht.trans ⟨by rw [← hV]; rfl, by rw [← hV]; rfl, by rw [← hV]; rfl, by rw [← hV, setRow_size]; exact Nat.le_refl _, fun k hk hn => by rw [← hV]; exact setRow_other _ b k _ (by omega)⟩
  refine hK.out _ _ ⟨y0, y1, ⟨_, hAF⟩, htV⟩ (fun hHeld => ?_)
  clear hK K hV cellV x0 x1 ht hAE hrE
  try simp only [Act.put]
  try simp only [List.setIfInBounds_toArray]
  try simp only [List.set]
  refine wpAnyH_done (by kernel_rfl) ?_ _
  go_wp2_with fail
  refine (setSpan_any b s p n _ _ hAF hs (by omega) (by omega)).mono ?_
  rintro e w9 ⟨rfl, ht9, hA9⟩
  have ht := htV.trans ht9
  clear ht9 htV y0 y1 hHeld
  go_wp2_with fail
  go_end0
  exact ⟨rfl, ht, hA9⟩

end Go.Proofs.Ytjbopcplpgoiaaa
