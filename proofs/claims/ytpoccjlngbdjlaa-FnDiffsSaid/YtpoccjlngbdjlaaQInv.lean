/-
  The contracts of InverseRuns: the program's and the model's.
-/
import Derived.Test.YtpoccjlngbdjlaaQSpo
import Derived.Test.YtpoccjlngbdjlaaQApm

namespace Go.Proofs.Ytpoccjlngbdjlaa
open Go.RowKit Go.Shelf
set_option linter.unusedVariables false

/-- How many runs InverseRuns answers, and their bytes. -/
def ivN (zs : List Int) (n : Nat) (P : Nat → Int) (Z : Nat → List Int) : Nat := if apQ zs n P Z = 0 then n else 0
def ivZ (zs : List Int) (P : Nat → Int) (Z : Nat → List Int) (i : Nat) : List Int := (zs.drop (P i).toNat).take (Z i).length

section
variable {lo hi : Nat} {w w' : World} {a : Option Addr} {n : Nat} {P P' : Nat → Int} {A : Nat → Option Addr} {C : Nat → Nat} {Z Z' : Nat → List Int} {F : Nat → Nat}
theorem OwnS.turned (h : OwnS lo hi w a n P A C Z F) {x y : Nat} (ht : Turned x y w w') (hn : hi ≤ x ∨ y ≤ lo) : OwnS lo hi w' a n P A C Z F := h.imp id (fun ⟨b, e, ho⟩ => ⟨b, e, ho.turned ht hn⟩)
theorem OwnS.below (h : OwnS lo hi w a n P A C Z F) (hb : Below w.heap.size w w') : OwnS lo hi w' a n P A C Z F := h.imp id (fun ⟨b, e, ho⟩ => ⟨b, e, ho.below hb⟩)
theorem OwnS.mono (h : OwnS lo hi w a n P A C Z F) {lo' hi' : Nat} (hl : lo' ≤ lo) (hh : hi ≤ hi') : OwnS lo' hi' w a n P A C Z F := h.imp id (fun ⟨b, e, ho⟩ => ⟨b, e, ho.mono hl hh⟩)
theorem OwnS.congr (h : OwnS lo hi w a n P A C Z F) (hP : ∀ i, i < n → P i = P' i) (hZ : ∀ i, i < n → Z i = Z' i) : OwnS lo hi w a n P' A C Z' F := h.imp id (fun ⟨b, e, ho⟩ => ⟨b, e, ho.congr hP hZ⟩)
theorem OwnS.none_ : OwnS lo hi w a 0 P A C Z F := .inl rfl
end

theorem yieldsIf_arrayAt {ops : Array Oper} {S : World → Prop} {op : Oper} {a : Act} (hw : Region.wanted op (yielded ops a.tmps) = true) (x : Operand) (ho : op.op = .sliceToArrayPointer 58 x)
    (ad : Option Addr) (c : Nat) (hx : a.eval x = .slice ad 64 c) : YieldsIf Try.prog ops S op (.pointer ad) a :=
  .inl ⟨hw, fun w _ => by
    unfold execOp
    simp only [ho, hx, Instr.arrayAt, Sem.run_bind, run_underlying Try.underlying58, Result.andThen_ok, Nat.lt_irrefl, if_false, Sem.run_pure]⟩

/-- What InverseRuns knows while it asks for the runs. -/
def IvS (w : World) (V : World) : Prop := (∃ v : Value, V.cell? ⟨w.heap.size, 1, none⟩ = some v) ∧ V.cell? ⟨w.heap.size, 0, none⟩ = some (.int .i64 0) ∧ V.frozen? ⟨w.heap.size, 0, none⟩ = false ∧ V.frozen? ⟨w.heap.size, 1, none⟩ = false ∧ Below w.heap.size w V
theorem ivKeep {w W V : World} (h : IvS w W) (hb : Below W.heap.size W V) : IvS w V := by
  obtain ⟨⟨v, h1⟩, h0, f0, f1, g⟩ := h
  exact ⟨⟨v, (hb.cell (World.block_lt_of_cell? W _ h1)).trans h1⟩, (hb.cell (World.block_lt_of_cell? W _ h0)).trans h0, (hb.frozen (World.block_lt_of_cell? W _ h0)).trans f0, (hb.frozen (World.block_lt_of_cell? W _ h1)).trans f1, g.trans (hb.mono g.size)⟩

theorem spansOf_box (a : Option Addr) (n c : Nat) (w : World) :
    Calls Try.prog 40 #[.slice a n c] w fun e w' => e = .returned (.func (.func 57) #[] #[.pointer (some ⟨w.heap.size, 0, none⟩)]) ∧ Below w.heap.size w w' ∧ w'.cell? ⟨w.heap.size, 0, none⟩ = some (.slice a n c) := by
  refine (spansOf_any a n c w).mono ?_
  rintro e w' ⟨rfl, rfl⟩
  exact ⟨rfl, (Below.refl _ _).alloc (Nat.le_refl _) _, (Boxed.new _ 26 (.slice a n c)).cell⟩

set_option maxHeartbeats 4000000 in
theorem implInverseRuns_any (pa : Option Addr) (zs : List Int) (m pc : Nat) (a : Option Addr) (n c : Nat) (P : Nat → Int) (A : Nat → Option Addr) (C : Nat → Nat) (Z : Nat → List Int) (w : World) (hml : zs.length = m) (hmm : m ≤ 1048576) (hp : Reads w pa zs) (hm : n ≤ 1048576) (hz : ∀ i, i < n → (Z i).length ≤ 1048576) (hr : RunsRead w a n P A C Z) :
    Calls Try.prog 13 #[.slice pa m pc, .slice a n c] w fun e w' => ∃ a' c' A' C' F', e = .returned (.agg #[.int .i64 (apQ zs n P Z), .slice a' (ivN zs n P Z) c']) ∧ Below w.heap.size w w' ∧ OwnS w.heap.size w'.heap.size w' a' (ivN zs n P Z) P A' C' (ivZ zs P Z) F' := by
  have hX : BRes (w.alloc (.cells #[.int .i64 0, .slice none 0 0] 28)) w.heap.size 0 (.slice none 0 0) := ⟨by simp [go_sem], by simp [go_sem], by simp [go_sem], by simp [go_sem]⟩
  have g : Below w.heap.size w (w.alloc (.cells #[.int .i64 0, .slice none 0 0] 28)) := by go_grown
  have HR : Hid (RunsRead w a n P A C Z) := hr
  have HP : Hid (Reads w pa zs) := hp
  have hr := hr.below g (Nat.le_refl _)
  obtain ⟨X, hX0⟩ : ∃ X, w.alloc (.cells #[.int .i64 0, .slice none 0 0] 28) = X := ⟨_, rfl⟩
  rw [hX0] at hX g hr
  go_enter Try.func13, Try.ntmps13
  go_wp2_with fail
  refine (pageAndRunsFault_any pa zs m pc a n c P A C Z _ hml hmm hm hz hr).mono ?_
  rintro e w1 ⟨rfl, g1⟩
  have hX := hX.below g1
  have g : Below w.heap.size w w1 := g.trans (g1.mono g.size)
  clear hX0 g1 hr hp
  by_cases hq : apQ zs n P Z = 0
  · have h64 : zs.length = 64 ∧ rfQ n P Z = 0 := by
      unfold apQ at hq
      by_cases e : zs.length = 64
      · rw [if_pos e] at hq; exact ⟨e, hq⟩
      · rw [if_neg e] at hq; cases hq
    obtain rfl : m = 64 := hml.symm.trans h64.1
    have HB : Hid (apQ zs n P Z = 0 ∧ ivN zs n P Z = n) := by refine ⟨hq, ?_⟩; unfold ivN; rw [if_pos hq]
    have HQ : Hid (n ≤ 64 ∧ ∀ i, i < n → 0 ≤ P i ∧ 1 ≤ (Z i).length ∧ P i + (Z i).length ≤ 64) := rfQ_zero h64.2
    have hn64 := HQ.out.1
    rw [hq]
    clear hq
    obtain ⟨h64, _⟩ := h64
    have HLz : Hid (zs.length = 64) := h64
    obtain ⟨b0, off0, rfl⟩ : ∃ b off, pa = some ⟨b, off, none⟩ := by
      rcases HP.out with h0 | ⟨b, off, hb, _⟩
      · rw [h0] at h64; simp at h64
      · exact ⟨b, off, hb⟩
    have HIn : Hid ((Try.prog.info? 58).map (·.size) = some (zs.map (Value.int .u8)).length) := by show _ = _; rw [List.length_map, h64]; exact info58
    clear h64 hml
    go_upto_region 4 with (fail)
    refine wp_region_held_drew (S := fun V' => (∃ v : Value, V'.cell? ⟨w.heap.size, 1, none⟩ = some v) ∧ V'.cell? ⟨w.heap.size, 0, none⟩ = some (.int .i64 0) ∧ V'.frozen? ⟨w.heap.size, 0, none⟩ = false ∧ V'.frozen? ⟨w.heap.size, 1, none⟩ = false ∧ Below w.heap.size w V') (by kernel_rfl) (ivKeep ⟨⟨_, hX.c1⟩, hX.c0, hX.f0, hX.f1, g⟩ (Below.refl _ _).drew) (fun hHeld => ?_)
    clear hX g
    generalize w1.drew = D at hHeld ⊢
    refine wpAnyH_take (i := 0) (v := .slice (some ⟨b0, off0, none⟩) 64 pc) rfl (by kernel_rfl) (by kernel_rfl) (by kernel_rfl) (fun _ _ _ h => h) (Or.inl ⟨by kernel_rfl, fun u hSw => by (try dsimp only at hSw); go_simp; try with_reducible rfl⟩) hHeld ?_
    try simp only [List.getElem_toArray]
    try simp only [List.getElem_cons_succ]
    try simp only [List.getElem_cons_zero]
    try simp only [Act.put]
    try simp only [List.setIfInBounds_toArray]
    try simp only [List.set]
    refine wpAnyH_take (i := 1) (v := .pointer (some ⟨b0, off0, none⟩)) rfl (by kernel_rfl) (by kernel_rfl) (by kernel_rfl) (fun _ _ _ h => h) (yieldsIf_arrayAt (by kernel_rfl) _ rfl (some ⟨b0, off0, none⟩) pc rfl) hHeld ?_
    try simp only [List.getElem_toArray]
    try simp only [List.getElem_cons_succ]
    try simp only [List.getElem_cons_zero]
    try simp only [Act.put]
    try simp only [List.setIfInBounds_toArray]
    try simp only [List.set]
    refine wpAnyH_take (i := 2) (v := .agg (pgC zs)) rfl (by kernel_rfl) (by kernel_rfl) (by kernel_rfl) (fun _ _ _ h => h) (yieldsIf_load_mid (by kernel_rfl) 58 _ rfl b0 off0 rfl (zs.map (Value.int .u8)) _ (fun W hS => (HP.out.below hS.2.2.2.2 (Nat.le_refl _)).range) Try.underlying58 rfl HIn.out) hHeld ?_
    try simp only [List.getElem_toArray]
    try simp only [List.getElem_cons_succ]
    try simp only [List.getElem_cons_zero]
    try simp only [Act.put]
    try simp only [List.setIfInBounds_toArray]
    try simp only [List.set]
    refine wpAnyH_take (i := 3) (v := .slice a n c) rfl (by kernel_rfl) (by kernel_rfl) (by kernel_rfl) (fun _ _ _ h => h) (Or.inl ⟨by kernel_rfl, fun u hSw => by (try dsimp only at hSw); go_simp; try with_reducible rfl⟩) hHeld ?_
    try simp only [List.getElem_toArray]
    try simp only [List.getElem_cons_succ]
    try simp only [List.getElem_cons_zero]
    try simp only [Act.put]
    try simp only [List.setIfInBounds_toArray]
    try simp only [List.set]
    refine wpAnyH_ready (rs := [4]) (by kernel_rfl) (by simp) ?_
    refine AllReadyH.cons rfl (fun K hK => ?_) AllReadyH.nil
    go_simp
    go_wp2_with (go_at_call 40; refine (spansOf_box a n c _).mono ?_; rintro e w2 ⟨rfl, hb, hcx⟩)
    refine hK.out _ _ (ivKeep hHeld hb) (fun hHeld => ?_)
    clear hK K
    try simp only [Act.put]
    try simp only [List.setIfInBounds_toArray]
    try simp only [List.set]
    have hbD : D.heap.size < w2.heap.size := World.block_lt_of_cell? w2 _ hcx
    clear hb
    generalize D.heap.size = bx at hcx hbD ⊢
    have hst : ∀ W, Below w2.heap.size w2 W → SeqStopsK Fence.wide 9 Try.prog 57 #[.pointer (some ⟨bx, 0, none⟩)] spE (Below w2.heap.size) (fun ys => ys = spOf n P Z HQ.out.2) (fun pre => pre <+: spOf n P Z HQ.out.2) (spOf n P Z HQ.out.2).length W := fun W hW => spans_stops bx a n c P A C Z HQ.out.2 hn64 w2.heap.size W hW.size hbD ((hW.cell (p := ⟨bx, 0, none⟩) hbD).trans hcx) (fun V hV => HR.out.below ((hHeld.2.2.2.2.trans (hW.mono hHeld.2.2.2.2.size)).trans (hV.mono hHeld.2.2.2.2.size)) (Nat.le_refl _))
    have hw2 := hHeld.2.2.2.2.size
    have hw2l : w.heap.size < w2.heap.size := World.block_lt_of_cell? w2 _ hHeld.2.1
    refine wpAnyH_ready (rs := [5]) (by kernel_rfl) (by simp) ?_
    refine AllReadyH.cons rfl (fun K hK => ?_) AllReadyH.nil
    go_simp
    go_wp2_with (go_at_call 36; refine (runsIn_any 57 #[.pointer (some ⟨bx, 0, none⟩)] zs (spOf n P Z HQ.out.2) _ HLz.out (by rw [spOf_length]; exact hn64) (enters_of Try.func57 (by kernel_rfl) rfl) hst).mono ?_; rintro e w3 ⟨a3, c3, A3, C3, F3, rfl, hb, ho⟩; rw [spOf_length])
    refine hK.out _ _ (ivKeep hHeld hb) (fun hHeld => ?_)
    clear hK K
    try simp only [Act.put]
    try simp only [List.setIfInBounds_toArray]
    try simp only [List.set]
    rw [spOf_length] at ho
    have ho := ho.congr (P' := P) (Z' := ivZ zs P Z) (fun i hi => spOf_P i hi) (fun i hi => spOf_Z zs i hi)
    clear hb hst hcx
    refine wpAnyH_take (i := 6) (v := .agg #[.int .i64 0, .slice a3 n c3]) rfl (by kernel_rfl) (by kernel_rfl) (by kernel_rfl) (fun _ _ _ h => h) (Or.inl ⟨by kernel_rfl, fun u hSw => by (try dsimp only at hSw); go_simp; try with_reducible rfl⟩) hHeld ?_
    try simp only [List.getElem_toArray]
    try simp only [List.getElem_cons_succ]
    try simp only [List.getElem_cons_zero]
    try simp only [Act.put]
    try simp only [List.setIfInBounds_toArray]
    try simp only [List.set]
    refine wpAnyH_ready (rs := [7]) (by kernel_rfl) (by simp) ?_
    refine AllReadyH.cons rfl (fun K hK => ?_) AllReadyH.nil
    obtain ⟨⟨v, e1⟩, e0, f0, f1, g⟩ := id hHeld
    go_simp
    go_wp2_with fail
    generalize hV : World.setCell (World.setCell _ _ _) _ _ = V
    have c0 : V.cell? ⟨w.heap.size, 0, none⟩ = some (.int .i64 0) := by rw [← hV]; simp [go_sem, e0]
    have c1 : V.cell? ⟨w.heap.size, 1, none⟩ = some (.slice a3 n c3) := by rw [← hV]; simp [go_sem, e1]
    have gV : Below w.heap.size w V := by rw [← hV]; exact (g.setCell (Nat.le_refl _) _).setCell (Nat.le_refl _) _
    have hoV : OwnS w.heap.size V.heap.size V a3 n P A3 C3 (ivZ zs P Z) F3 := by
      have tV : Turned w.heap.size (w.heap.size + 1) w3 V := by rw [← hV]; exact ((Turned.refl _ _ _).setCell (p := ⟨w.heap.size, 0, none⟩) (Nat.le_refl _) (Nat.lt_succ_self _) _).setCell (p := ⟨w.heap.size, 1, none⟩) (Nat.le_refl _) (Nat.lt_succ_self _) _
      exact (ho.turned tV (.inr hw2l)).mono hw2 tV.size
    have hHeld : IvS w V := ⟨⟨_, c1⟩, c0, by rw [← hV, World.frozen?_setCell, World.frozen?_setCell]; exact f0, by rw [← hV, World.frozen?_setCell, World.frozen?_setCell]; exact f1, gV⟩
    clear hV e0 e1 f0 f1 g ho
    refine hK.out _ _ hHeld (fun hHeld => ?_)
    clear hK K
    refine wpAnyH_done (by kernel_rfl) ?_ _
    go_wp2_with fail
    refine bodyPost_ret (v := .agg #[.int .i64 0, .slice a3 n c3]) (by simp [results, Try.results13, go_sem, c0, c1]) rfl ?_
    exact ⟨a3, c3, A3, C3, F3, by rw [HB.out.1, HB.out.2], gV, by rw [HB.out.2]; exact hoV⟩

  · obtain ⟨q, hqq⟩ : ∃ q, q = apQ zs n P Z := ⟨_, rfl⟩
    have HB : Hid (apQ zs n P Z = q ∧ ivN zs n P Z = 0) := by refine ⟨hqq.symm, ?_⟩; unfold ivN; rw [if_neg hq]
    have dq : (q != 0) = true := by rw [hqq]; simpa using hq
    rw [← hqq]
    clear hq hqq
    obtain ⟨c0, c1, f0, f1⟩ := hX
    go_wp2_with fail
    refine bodyPost_ret (v := .agg #[.int .i64 q, .slice none 0 0]) (by simp [results, Try.results13, go_sem, c0, c1]) rfl ?_
    exact ⟨none, 0, fun _ => none, fun _ => 0, fun _ => 0, by rw [HB.out.1, HB.out.2], by go_grown, by rw [HB.out.2]; exact .inl rfl⟩

end Go.Proofs.Ytpoccjlngbdjlaa
