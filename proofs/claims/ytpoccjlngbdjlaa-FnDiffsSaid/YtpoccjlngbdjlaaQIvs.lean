/-
  The contract of the model's InverseRuns.
-/
import Derived.Test.YtpoccjlngbdjlaaQInv

namespace Go.Proofs.Ytpoccjlngbdjlaa
open Go.RowKit Go.Shelf
set_option linter.unusedVariables false

set_option maxHeartbeats 1000000 in
theorem l2CopyN_any (ad : Addr) (zs : List Int) (m c : Nat) (w : World) (h : zs.length = m) (h1 : 1 ≤ m) (hm : m ≤ 1048576) (hr : Reads w (some ad) zs) :
    Calls Try.prog 52 #[.slice (some ad) m c] w fun e w' => ∃ g d, e = .returned (.slice (some ⟨g, 0, none⟩) m d) ∧ Below w.heap.size w w' ∧ w.heap.size ≤ g ∧ g < w'.heap.size ∧ BytesIn g (g + 1) w' (some ⟨g, 0, none⟩) zs := by
  obtain ⟨i0, hi, hz0, hz1, hz2⟩ := info5
  obtain ⟨b, off, rfl⟩ : ∃ b off, ad = ⟨b, off, none⟩ := by
    rcases hr with hr | ⟨b, off, ha, _⟩
    · rw [hr] at h; simp at h; omega
    · simp only [Option.some.injEq] at ha; exact ⟨b, off, ha⟩
  have hO : (w.alloc (.cells #[] 5)).ownsRow w.heap.size 5 1 (.slice (some ⟨w.heap.size, 0, none⟩) 0 0) 0 [] := by simpa using World.ownsRow_lit (base := w.heap.size) (e := 5) (size := 1) w #[] 0 (Nat.le_refl _) (by unfold maxLen; omega) rfl
  have hl : (zs.map (Value.int .u8)).length = m * 1 := by simpa using h
  go_enter Try.func52, Try.ntmps52
  go_wp2_with (at_builtin; go_must (refine wpList_append_own _ rfl _ _ 22 rfl w.heap.size 5 i0 (.int .u8 0) 1 1 Try.underlying22 hi hz0 hz1 hz2 rfl (by decide) _ _ _ rfl hO ⟨b, off, none⟩ m c (zs.map (Value.int .u8)) rfl hl ?c1 ?c2 ?c3 ?c4 ?c5 ?_))
  case c1 =>
    intro j u hu
    exact reads_src (hr.below (B := w.heap.size) (by go_grown) (Nat.le_refl _)) j u hu
  case c2 =>
    intro u hu
    rw [List.mem_map] at hu
    obtain ⟨z, _, rfl⟩ := hu
    rfl
  case c3 => unfold maxLen; omega
  case c4 => omega
  case c5 => simp
  intro v' w1 hown' hgrow _
  have hB' : Below w.heap.size w w1 := Below.grown ((Below.refl _ _).alloc (Nat.le_refl _) _) hgrow (by simp) (fun j hj => by simp [Value.ownBlock] at hj; omega)
  clear hgrow
  go_wp2_with fail
  go_ret
  have hown : w1.ownsRow w.heap.size 5 1 v' m (zs.map (Value.int .u8)) := by simpa using hown'
  obtain ⟨k, rfl⟩ : ∃ k, m = k + 1 := ⟨m - 1, by omega⟩
  obtain ⟨g, cap, rfl⟩ := ownsRow_succ hown
  have hlt := hown.lt g rfl
  refine ⟨g, cap, rfl, hB', hlt.1, hlt.2, ?_⟩
  refine .inr ⟨g, 0, rfl, Nat.le_refl _, Nat.lt_succ_self _, fun i hi' => ?_, fun i hi' => ?_⟩
  · rw [Nat.zero_add, hown.cellAt i (by omega)]
    simp [List.getElem?_eq_getElem hi', List.getD]
  · rw [Nat.zero_add]; exact hown.frozenAt i

/-- Block b is a RunsResult without a code, with the runs v. -/
def OutAt (W : World) (b : Nat) (v : Value) : Prop := W.heap[b]? = some (.cells #[.int .i64 0, v] 28 (0, 0))
section
variable {W W' : World} {b : Nat} {v : Value}
theorem OutAt.lt (h : OutAt W b v) : b < W.heap.size := (Array.getElem?_eq_some_iff.1 h).1
theorem OutAt.cell0 (h : OutAt W b v) : W.cell? ⟨b, 0, none⟩ = some (.int .i64 0) := by simp [World.cell?, show W.heap[b]? = _ from h]
theorem OutAt.cell1 (h : OutAt W b v) : W.cell? ⟨b, 1, none⟩ = some v := by simp [World.cell?, show W.heap[b]? = _ from h]
theorem OutAt.frozen1 (h : OutAt W b v) : W.frozen? ⟨b, 1, none⟩ = false := by simp [World.frozen?, show W.heap[b]? = _ from h]
theorem OutAt.below (h : OutAt W b v) (hb : Below W.heap.size W W') : OutAt W' b v := (hb.block b h.lt).trans h
theorem OutAt.set (h : OutAt W b v) (u : Value) : OutAt (W.setCell ⟨b, 1, none⟩ u) b u := by
  obtain ⟨hlt, hk⟩ := Array.getElem?_eq_some_iff.1 h
  show (W.heap.modify b _)[b]? = _
  rw [Array.getElem?_eq_getElem (by rw [Array.size_modify]; exact hlt), Array.getElem_modify_self, hk]
  rfl
theorem OutAt.not_row (h : OutAt W b v) {base k : Nat} {u : Value} {xs : List Value} (hr : W.ownsRow base 35 2 u k xs) : some b ≠ u.ownBlock := by
  intro e
  rcases hr.2 with ⟨rfl, _⟩ | ⟨g, cap, cur, rfl, _, hg, _⟩
  · cases e
  · simp only [Value.ownBlock, Option.some.injEq] at e
    rw [← e, show W.heap[b]? = _ from h] at hg
    have h2 : (28 : TypeId) = 35 := by injection hg with hg; injection hg
    exact absurd h2 (by decide)
theorem Blt.turned {n₀ k : Nat} {P : Nat → Int} {C : Nat → Nat} {Z : Nat → List Int} {F : Nat → Nat} (h : Blt n₀ W v k P C Z F) {x y : Nat} (ht : Turned x y W W') (hv : ∀ g, v.ownBlock = some g → g < x ∨ y ≤ g) (hF : ∀ i, i < k → F i < x ∨ y ≤ F i) : Blt n₀ W' v k P C Z F := by
  refine ⟨⟨h.row.1, ?_⟩, fun i hi => (h.by' i hi).turned ht (by have := hF i hi; omega), fun i hi => ⟨(h.fr i hi).1, Nat.lt_of_lt_of_le (h.fr i hi).2 ht.size⟩, h.ne, h.nz⟩
  rcases h.row.2 with h0 | ⟨g, cap, cur, e, h1, hgb, hh⟩
  · exact .inl h0
  · exact .inr ⟨g, cap, cur, e, h1, (ht.block g (Array.getElem?_eq_some_iff.1 hgb).1 (by have := hv g (by rw [e]; rfl); omega)).trans hgb, hh⟩
end

/-- The cells of the k-th run, while it is taken back. -/
def IvsS (rb off k p : Nat) (A : Nat → Option Addr) (m : Nat) (C : Nat → Nat) (V : World) : Prop := V.cell? ⟨rb, off + k * 2, none⟩ = some (.int .i64 (p : Nat)) ∧ V.cell? ⟨rb, off + k * 2 + 1, none⟩ = some (.slice (A k) m (C k))
theorem ivs_keep {rb off k p : Nat} {A : Nat → Option Addr} {m : Nat} {C : Nat → Nat} {W V : World} (h : IvsS rb off k p A m C W) (hb : Below W.heap.size W V) : IvsS rb off k p A m C V :=
  ⟨(hb.cell (World.block_lt_of_cell? W _ h.1)).trans h.1, (hb.cell (World.block_lt_of_cell? W _ h.2)).trans h.2⟩

theorem BRes.grown {W W' : World} {b : Nat} {q : Int} {v : Value} (h : BRes W b q v) {row : Option Nat} (hg : W.grownBy W' row) (hn : some b ≠ row) : BRes W' b q v :=
  ⟨hg.cell h.c0 hn, hg.cell h.c1 hn, (World.frozen?_of_block (hg.block b h.lt hn)).trans h.f0, (World.frozen?_of_block (hg.block b h.lt hn)).trans h.f1⟩

set_option maxHeartbeats 8000000 in
theorem specInverseRuns_any (pa : Option Addr) (zs : List Int) (m pc : Nat) (a : Option Addr) (n c : Nat) (P : Nat → Int) (A : Nat → Option Addr) (C : Nat → Nat) (Z : Nat → List Int) (w : World) (hml : zs.length = m) (hmm : m ≤ 1048576) (hmc : m ≤ pc) (hp : Reads w pa zs) (hm : n ≤ 1048576) (hz : ∀ i, i < n → (Z i).length ≤ 1048576) (hr : RunsRead w a n P A C Z) :
    Calls Try.prog 32 #[.slice pa m pc, .slice a n c] w fun e w' => ∃ a' c' A' C' F', e = .returned (.agg #[.int .i64 (apQ zs n P Z), .slice a' (ivN zs n P Z) c']) ∧ Below w.heap.size w w' ∧ OwnS w.heap.size w'.heap.size w' a' (ivN zs n P Z) P A' C' (ivZ zs P Z) F' := by
  have hX : BRes (w.alloc (.cells #[.int .i64 0, .slice none 0 0] 28)) w.heap.size 0 (.slice none 0 0) := ⟨by simp [go_sem], by simp [go_sem], by simp [go_sem], by simp [go_sem]⟩
  have g : Below w.heap.size w (w.alloc (.cells #[.int .i64 0, .slice none 0 0] 28)) := by go_grown
  have HR : Hid (RunsRead w a n P A C Z) := hr
  have HP : Hid (Reads w pa zs) := hp
  have hr := hr.below g (Nat.le_refl _)
  obtain ⟨X, hX0⟩ : ∃ X, w.alloc (.cells #[.int .i64 0, .slice none 0 0] 28) = X := ⟨_, rfl⟩
  rw [hX0] at hX g hr
  go_enter Try.func32, Try.ntmps32
  go_wp2_with fail
  refine (l3Asked_any pa zs m pc a n c P A C Z _ hml hmm hm hz hr).mono ?_
  rintro e w' ⟨rfl, k1, rfl⟩
  have hX := hX.below (below_draws (Below.refl _ _) k1)
  have g := below_draws g k1
  clear hX0 hr hp
  generalize X.drewN k1 = X1 at hX g
  by_cases hq : apQ zs n P Z = 0
  · have h64 : zs.length = 64 ∧ rfQ n P Z = 0 := by
      unfold apQ at hq
      by_cases e : zs.length = 64
      · rw [if_pos e] at hq; exact ⟨e, hq⟩
      · rw [if_neg e] at hq; cases hq
    obtain rfl : m = 64 := hml.symm.trans h64.1
    have HB : Hid (apQ zs n P Z = 0 ∧ ivN zs n P Z = n) := by refine ⟨hq, ?_⟩; unfold ivN; rw [if_pos hq]
    have HQ : Hid (n ≤ 64 ∧ ∀ i, i < n → 0 ≤ P i ∧ 1 ≤ (Z i).length ∧ P i + (Z i).length ≤ 64) := rfQ_zero h64.2
    have hn64 := HQ.out.1
    rw [hq]
    clear hq
    obtain ⟨h64, _⟩ := h64
    have HLz : Hid (zs.length = 64) := h64
    obtain ⟨b0, off0, rfl⟩ : ∃ b off, pa = some ⟨b, off, none⟩ := by
      rcases HP.out with h0 | ⟨b, off, hb, _⟩
      · rw [h0] at h64; simp at h64
      · exact ⟨b, off, hb⟩
    clear h64 hml
    obtain ⟨i5, hi5, hz50, hz51, hz52⟩ := info35
    have hXl := hX.lt
    go_upto_region 5 with (fail)
    generalize hV : World.alloc X1 _ = V
    have hO0 : OutAt V X1.heap.size (.slice none 0 0) := by rw [← hV]; exact World.alloc_heap_new X1 _
    have gV : Below X1.heap.size X1 V := by rw [← hV]; exact (Below.refl _ _).alloc (Nat.le_refl _) _
    have hX0 := hX.below gV
    have g0 : Below w.heap.size w V := g.trans (gV.mono g.size)
    clear hV gV hX g
    generalize X1.heap.size = ob at hO0 hXl
    have hXo : w.heap.size < ob := hXl
    go_wp2_with fail
    go_loopw [7] (fun i wr => ∃ (k : Nat) (v : Value) (C1 F1 : Nat → Nat), k ≤ n ∧ i = .int .i64 k ∧ Blt (ob + 1) wr v k P C1 (ivZ zs P Z) F1 ∧ OutAt wr ob v ∧ BRes wr w.heap.size 0 (.slice none 0 0) ∧ Below w.heap.size w wr) (fun i _ => n - (intOf i).toNat)
    case atStart => exact ⟨0, _, fun _ => 0, fun _ => 0, Nat.zero_le _, rfl, Blt.nil _ _ _ _ _ _, hO0, hX0, g0⟩
    case round =>
      obtain ⟨k, v, C1, F1, hk, rfl, hB, hO, hX, g⟩ := hrel
      clear hO0 hX0 g0
      by_cases hlt : k < n
      · obtain ⟨rb, off, rfl⟩ : ∃ b off, a = some ⟨b, off, none⟩ := by
          rcases HR.out with h1 | ⟨b, off, hb, _⟩
          · omega
          · exact ⟨b, off, hb⟩
        obtain ⟨e0', e1', _⟩ := HR.out.at_ k hlt
        have hrbw : rb < w.heap.size := World.block_lt_of_cell? w _ e0'
        have e0 := (g.cell (p := ⟨rb, off + k * 2, none⟩) hrbw).trans e0'
        have e1 := (g.cell (p := ⟨rb, off + k * 2 + 1, none⟩) hrbw).trans e1'
        clear e0' e1'
        have hkn : (k : Int) < (n : Int) := by omega
        obtain ⟨q0, q1, q2⟩ := HQ.out.2 k hlt
        obtain ⟨p, hpv⟩ : ∃ p : Nat, P k = (p : Int) := ⟨(P k).toNat, by omega⟩
        obtain ⟨m, hmv⟩ : ∃ m, m = (Z k).length := ⟨_, rfl⟩
        rw [hpv] at e0 q2
        rw [← hmv] at e1 q1 q2
        obtain ⟨cs, hcs⟩ : ∃ cs, cs = (zs.drop p).take m := ⟨_, rfl⟩
        have HPk : Hid (P k = (p : Int)) := hpv
        have HZk : Hid (ivZ zs P Z k = cs) := by show _ = _; unfold ivZ; rw [hpv, Int.toNat_natCast, ← hmv, hcs]
        have hpm : p + m ≤ 64 := by omega
        have HCL : Hid (cs.length = m) := by show _ = _; rw [hcs, List.length_take, List.length_drop, HLz.out]; omega
        have HRd : Hid (∀ V, Below w.heap.size w V → Reads V (some ⟨b0, off0 + p, none⟩) cs) := fun V hV => by rw [hcs]; exact (HP.out.below hV (Nat.le_refl _)).cell p m (by rw [HLz.out]; exact hpm)
        obtain ⟨q, hq⟩ : ∃ q, q = p + m := ⟨_, rfl⟩
        have i0 : (p : Int) + (m : Int) = (q : Int) := by omega
        have i1 : (q : Int) ≤ (pc : Int) := by omega
        have i2 : (p : Int) ≤ (q : Int) := by omega
        have i3 : q - p = m := by omega
        have i4 : ¬ (pc = p) := by omega
        have iw : IntKind.i64.wrap (q : Int) = (q : Int) := by rw [IntKind.wrap_i64]; omega
        clear hpv hmv hcs hq q0 q2
        go_upto_region 9 with (fail)
        refine wp_region_held_drew (S := fun V => V.cell? ⟨rb, off + k * 2, none⟩ = some (.int .i64 (p : Nat)) ∧ V.cell? ⟨rb, off + k * 2 + 1, none⟩ = some (.slice (A k) m (C k))) (by kernel_rfl) ⟨e0, e1⟩ (fun hHeld => ?_)
        have gd : Below wr.heap.size wr wr.drew := (Below.refl _ _).drew
        have hB := hB.below gd
        have hO := hO.below gd
        have hX := hX.below gd
        have gD := g.trans (gd.mono g.size)
        have hB0 := hB
        generalize wr.drew = D at hHeld hB hB0 hO hX gD ⊢
        clear e0 e1 g gd
        refine wpAnyH_take (i := 0) (v := .pointer (some ⟨ob, 1, none⟩)) rfl (by kernel_rfl) (by kernel_rfl) (by kernel_rfl) (fun _ _ _ h => h) (Or.inl ⟨by kernel_rfl, fun u hSw => by (try dsimp only at hSw); go_simp; try with_reducible rfl⟩) hHeld ?_
        try simp only [List.getElem_toArray]
        try simp only [List.getElem_cons_succ]
        try simp only [List.getElem_cons_zero]
        try simp only [Act.put]
        try simp only [List.setIfInBounds_toArray]
        try simp only [List.set]
        refine wpAnyH_take (i := 2) (v := .slice (some ⟨rb, off, none⟩) n c) rfl (by kernel_rfl) (by kernel_rfl) (by kernel_rfl) (fun _ _ _ h => h) (Or.inl ⟨by kernel_rfl, fun u hSw => by (try dsimp only at hSw); go_simp; try with_reducible rfl⟩) hHeld ?_
        try simp only [List.getElem_toArray]
        try simp only [List.getElem_cons_succ]
        try simp only [List.getElem_cons_zero]
        try simp only [Act.put]
        try simp only [List.setIfInBounds_toArray]
        try simp only [List.set]
        refine wpAnyH_take (i := 3) (v := .int .i64 k) rfl (by kernel_rfl) (by kernel_rfl) (by kernel_rfl) (fun _ _ _ h => h) (Or.inl ⟨by kernel_rfl, fun u hSw => by (try dsimp only at hSw); go_simp; try with_reducible rfl⟩) hHeld ?_
        try simp only [List.getElem_toArray]
        try simp only [List.getElem_cons_succ]
        try simp only [List.getElem_cons_zero]
        try simp only [Act.put]
        try simp only [List.setIfInBounds_toArray]
        try simp only [List.set]
        refine wpAnyH_take (i := 4) (v := .pointer (some ⟨rb, off + k * 2, none⟩)) rfl (by kernel_rfl) (by kernel_rfl) (by kernel_rfl) (fun _ _ _ h => h) (Or.inl ⟨by kernel_rfl, fun u hSw => by (try dsimp only at hSw); go_simp; try with_reducible rfl⟩) hHeld ?_
        try simp only [List.getElem_toArray]
        try simp only [List.getElem_cons_succ]
        try simp only [List.getElem_cons_zero]
        try simp only [Act.put]
        try simp only [List.setIfInBounds_toArray]
        try simp only [List.set]
        refine wpAnyH_take (i := 5) (v := .pointer (some ⟨rb, off + k * 2, none⟩)) rfl (by kernel_rfl) (by kernel_rfl) (by kernel_rfl) (fun _ _ _ h => h) (Or.inl ⟨by kernel_rfl, fun u hSw => by (try dsimp only at hSw); go_simp; try with_reducible rfl⟩) hHeld ?_
        try simp only [List.getElem_toArray]
        try simp only [List.getElem_cons_succ]
        try simp only [List.getElem_cons_zero]
        try simp only [Act.put]
        try simp only [List.setIfInBounds_toArray]
        try simp only [List.set]
        refine wpAnyH_take (i := 6) (v := .int .i64 (p : Nat)) rfl (by kernel_rfl) (by kernel_rfl) (by kernel_rfl) (fun _ _ _ h => h) (Or.inl ⟨by kernel_rfl, fun u hSw => by (try dsimp only at hSw); go_simp; try with_reducible rfl⟩) hHeld ?_
        try simp only [List.getElem_toArray]
        try simp only [List.getElem_cons_succ]
        try simp only [List.getElem_cons_zero]
        try simp only [Act.put]
        try simp only [List.setIfInBounds_toArray]
        try simp only [List.set]
        refine wpAnyH_take (i := 7) (v := .slice (some ⟨b0, off0, none⟩) 64 pc) rfl (by kernel_rfl) (by kernel_rfl) (by kernel_rfl) (fun _ _ _ h => h) (Or.inl ⟨by kernel_rfl, fun u hSw => by (try dsimp only at hSw); go_simp; try with_reducible rfl⟩) hHeld ?_
        try simp only [List.getElem_toArray]
        try simp only [List.getElem_cons_succ]
        try simp only [List.getElem_cons_zero]
        try simp only [Act.put]
        try simp only [List.setIfInBounds_toArray]
        try simp only [List.set]
        refine wpAnyH_take (i := 8) (v := .int .i64 (p : Nat)) rfl (by kernel_rfl) (by kernel_rfl) (by kernel_rfl) (fun _ _ _ h => h) (Or.inl ⟨by kernel_rfl, fun u hSw => by (try dsimp only at hSw); go_simp; try with_reducible rfl⟩) hHeld ?_
        try simp only [List.getElem_toArray]
        try simp only [List.getElem_cons_succ]
        try simp only [List.getElem_cons_zero]
        try simp only [Act.put]
        try simp only [List.setIfInBounds_toArray]
        try simp only [List.set]
        refine wpAnyH_take (i := 9) (v := .int .i64 (p : Nat)) rfl (by kernel_rfl) (by kernel_rfl) (by kernel_rfl) (fun _ _ _ h => h) (Or.inl ⟨by kernel_rfl, fun u hSw => by (try dsimp only at hSw); go_simp; try with_reducible rfl⟩) hHeld ?_
        try simp only [List.getElem_toArray]
        try simp only [List.getElem_cons_succ]
        try simp only [List.getElem_cons_zero]
        try simp only [Act.put]
        try simp only [List.setIfInBounds_toArray]
        try simp only [List.set]
        refine wpAnyH_take (i := 10) (v := .slice (some ⟨rb, off, none⟩) n c) rfl (by kernel_rfl) (by kernel_rfl) (by kernel_rfl) (fun _ _ _ h => h) (Or.inl ⟨by kernel_rfl, fun u hSw => by (try dsimp only at hSw); go_simp; try with_reducible rfl⟩) hHeld ?_
        try simp only [List.getElem_toArray]
        try simp only [List.getElem_cons_succ]
        try simp only [List.getElem_cons_zero]
        try simp only [Act.put]
        try simp only [List.setIfInBounds_toArray]
        try simp only [List.set]
        refine wpAnyH_take (i := 11) (v := .int .i64 k) rfl (by kernel_rfl) (by kernel_rfl) (by kernel_rfl) (fun _ _ _ h => h) (Or.inl ⟨by kernel_rfl, fun u hSw => by (try dsimp only at hSw); go_simp; try with_reducible rfl⟩) hHeld ?_
        try simp only [List.getElem_toArray]
        try simp only [List.getElem_cons_succ]
        try simp only [List.getElem_cons_zero]
        try simp only [Act.put]
        try simp only [List.setIfInBounds_toArray]
        try simp only [List.set]
        refine wpAnyH_take (i := 12) (v := .pointer (some ⟨rb, off + k * 2, none⟩)) rfl (by kernel_rfl) (by kernel_rfl) (by kernel_rfl) (fun _ _ _ h => h) (Or.inl ⟨by kernel_rfl, fun u hSw => by (try dsimp only at hSw); go_simp; try with_reducible rfl⟩) hHeld ?_
        try simp only [List.getElem_toArray]
        try simp only [List.getElem_cons_succ]
        try simp only [List.getElem_cons_zero]
        try simp only [Act.put]
        try simp only [List.setIfInBounds_toArray]
        try simp only [List.set]
        refine wpAnyH_take (i := 13) (v := .pointer (some ⟨rb, off + k * 2 + 1, none⟩)) rfl (by kernel_rfl) (by kernel_rfl) (by kernel_rfl) (fun _ _ _ h => h) (Or.inl ⟨by kernel_rfl, fun u hSw => by (try dsimp only at hSw); go_simp; try with_reducible rfl⟩) hHeld ?_
        try simp only [List.getElem_toArray]
        try simp only [List.getElem_cons_succ]
        try simp only [List.getElem_cons_zero]
        try simp only [Act.put]
        try simp only [List.setIfInBounds_toArray]
        try simp only [List.set]
        refine wpAnyH_take (i := 14) (v := .slice (A k) m (C k)) rfl (by kernel_rfl) (by kernel_rfl) (by kernel_rfl) (fun _ _ _ h => h) (Or.inl ⟨by kernel_rfl, fun u hSw => by (try dsimp only at hSw); go_simp; try with_reducible rfl⟩) hHeld ?_
        try simp only [List.getElem_toArray]
        try simp only [List.getElem_cons_succ]
        try simp only [List.getElem_cons_zero]
        try simp only [Act.put]
        try simp only [List.setIfInBounds_toArray]
        try simp only [List.set]
        refine wpAnyH_take (i := 15) (v := .int .i64 (m : Nat)) rfl (by kernel_rfl) (by kernel_rfl) (by kernel_rfl) (fun _ _ _ h => h) (Or.inl ⟨by kernel_rfl, fun u hSw => by (try dsimp only at hSw); go_simp; try with_reducible rfl⟩) hHeld ?_
        try simp only [List.getElem_toArray]
        try simp only [List.getElem_cons_succ]
        try simp only [List.getElem_cons_zero]
        try simp only [Act.put]
        try simp only [List.setIfInBounds_toArray]
        try simp only [List.set]
        refine wpAnyH_take (i := 16) (v := .int .i64 (q : Nat)) rfl (by kernel_rfl) (by kernel_rfl) (by kernel_rfl) (fun _ _ _ h => h) (Or.inl ⟨by kernel_rfl, fun u hSw => by (try dsimp only at hSw); go_simp; try with_reducible rfl⟩) hHeld ?_
        try simp only [List.getElem_toArray]
        try simp only [List.getElem_cons_succ]
        try simp only [List.getElem_cons_zero]
        try simp only [Act.put]
        try simp only [List.setIfInBounds_toArray]
        try simp only [List.set]
        refine wpAnyH_take (i := 17) (v := .slice (some ⟨b0, off0 + p, none⟩) m (pc - p)) rfl (by kernel_rfl) (by kernel_rfl) (by kernel_rfl) (fun _ _ _ h => h) (Or.inl ⟨by kernel_rfl, fun u hSw => by (try dsimp only at hSw); go_simp; try with_reducible rfl⟩) hHeld ?_
        try simp only [List.getElem_toArray]
        try simp only [List.getElem_cons_succ]
        try simp only [List.getElem_cons_zero]
        try simp only [Act.put]
        try simp only [List.setIfInBounds_toArray]
        try simp only [List.set]
        have hrd : Reads D (some ⟨b0, off0 + p, none⟩) cs := HRd.out D gD
        have hsz := hO.lt
        refine wpAnyH_ready (rs := [1, 18]) (by kernel_rfl) (by simp) ?_
        refine AllReadyH.cons rfl (fun K hK => ?_) (AllReadyH.cons rfl (fun K hK => ?_) AllReadyH.nil)
        ·
          have c1 := hO.cell1
          go_simp
          go_wp2_with fail
          refine hK.out _ _ hHeld (fun hHeld => ?_)
          clear hK K c1
          try simp only [Act.put]
          try simp only [List.setIfInBounds_toArray]
          try simp only [List.set]
          refine wpAnyH_ready (rs := [18]) (by kernel_rfl) (by simp) ?_
          refine AllReadyH.cons rfl (fun K hK => ?_) AllReadyH.nil
          go_simp
          go_wp2_with (go_at_call 52; refine (l2CopyN_any ⟨b0, off0 + p, none⟩ cs m (pc - p) _ HCL.out q1 (by omega) hrd).mono ?_; rintro e w2 ⟨g2, d2, rfl, gb, hg2, hg2l, hy2⟩)
          refine hK.out _ _ (ivs_keep hHeld gb) (fun hHeld => ?_)
          have hO := hO.below gb
          have hX := hX.below gb
          have hB := hB.below gb
          have gD := gD.trans (gb.mono gD.size)
          clear hK K
          try simp only [Act.put]
          try simp only [List.setIfInBounds_toArray]
          try simp only [List.set]
          refine wpAnyH_take (i := 19) (v := .agg #[.int .i64 (p : Nat), .slice (some ⟨g2, 0, none⟩) m d2]) rfl (by kernel_rfl) (by kernel_rfl) (by kernel_rfl) (fun _ _ _ h => h) (Or.inl ⟨by kernel_rfl, fun u hSw => by (try dsimp only at hSw); go_simp; try with_reducible rfl⟩) hHeld ?_
          try simp only [List.getElem_toArray]
          try simp only [List.getElem_cons_succ]
          try simp only [List.getElem_cons_zero]
          try simp only [Act.put]
          try simp only [List.setIfInBounds_toArray]
          try simp only [List.set]
          refine wpAnyH_ready (rs := [20]) (by kernel_rfl) (by simp) ?_
          refine AllReadyH.cons rfl (fun K hK => ?_) AllReadyH.nil
          go_simp
          go_wp2_with fail
          refine hK.out _ _ (ivs_keep hHeld ((Below.refl _ _).alloc (Nat.le_refl _) _)) (fun hHeld => ?_)
          clear hK K
          try simp only [Act.put]
          try simp only [List.setIfInBounds_toArray]
          try simp only [List.set]
          have gT : Below w2.heap.size w2 (w2.alloc (.cells #[.int .i64 (p : Nat), .slice (some ⟨g2, 0, none⟩) m d2] 35)) := (Below.refl _ w2).alloc (Nat.le_refl _) _
          have hO3 := hO.below gT
          have hB3 := hB.below gT
          have hy3 := hy2.below gT
          have hX3 := hX.below gT
          have gD3 := gD.trans (gT.mono gD.size)
          have hob3 := hO3.lt
          refine wpAnyH_ready (rs := [21]) (by kernel_rfl) (by simp) ?_
          refine AllReadyH.cons rfl (fun K hK => ?_) AllReadyH.nil
          rw [if_pos (by kernel_rfl)]
          refine wp_append_own _ _ _ 26 rfl (ob + 1) 35 i5 (.agg #[.int .i64 0, .slice none 0 0]) 2 32 Try.underlying26 hi5 hz50 hz51 hz52 rfl (by decide) v k (rcells P C1 (ivZ zs P Z) F1 k) rfl hB3.row ⟨w2.heap.size, 0, none⟩ 1 1 [.int .i64 (p : Nat), .slice (some ⟨g2, 0, none⟩) m d2] rfl rfl (by
            intro j u hu
            match j, hu with
            | 0, hu => simp at hu; subst hu; simp [go_sem, Addr.add]
            | 1, hu => simp at hu; subst hu; simp [go_sem, Addr.add]) (by
            intro u hu
            simp at hu
            rcases hu with rfl | rfl <;> rfl) (by unfold maxLen; omega) (by omega) hob3 ?_
          intro v' w6 hown' hgrow _
          obtain ⟨gg, cap', rfl⟩ := ownsRow_succ hown'
          have hB6 : Blt (ob + 1) w6 (.slice (some ⟨gg, 0, none⟩) (k + 1) cap') (k + 1) P (fun i => if i = k then d2 else C1 i) (ivZ zs P Z) (fun i => if i = k then g2 else F1 i) := by
            have hce : ∀ i, i < k → P i = P i ∧ C1 i = (if i = k then d2 else C1 i) ∧ ivZ zs P Z i = ivZ zs P Z i ∧ F1 i = (if i = k then g2 else F1 i) := fun i hi => ⟨rfl, by rw [if_neg (by omega)], rfl, by rw [if_neg (by omega)]⟩
            refine (hB3.congr hce).append (v' := .slice (some ⟨gg, 0, none⟩) (k + 1) cap') ?_ hgrow ?_ ?_ ?_ ?_ ?_ ?_
            · rw [← rcells_congr k hce]
              simp only [if_true]
              rw [HPk.out, HZk.out, HCL.out]
              exact hown'
            · simp only [if_true]
              rw [HZk.out]
              exact hy3
            · rw [HZk.out]
              intro e
              have := HCL.out
              rw [e] at this
              simp at this
              omega
            · simp only [if_true]; omega
            · simp only [if_true]; simp; omega
            · intro i hi
              simp only [if_true, if_neg (show ¬ i = k by omega)]
              have := (hB0.fr i hi).2
              omega
            · simp only [if_true]
              intro e
              have := (hB0.row.lt _ e.symm).2
              omega
          have hown1 : ∀ j, v.ownBlock = some j → ob + 1 ≤ j := fun j e => (hB3.row.lt j e).1
          have hO6 : OutAt w6 ob v := (hgrow.block ob hO3.lt (fun e => by have := hown1 _ e.symm; omega)).trans hO3
          have hX6 := hX3.grown hgrow (fun e => by have := hown1 _ e.symm; omega)
          have g6 : Below w.heap.size w w6 := gD3.grown hgrow gD3.size (fun j e => by have := hown1 _ e; omega)
          have hHeld6 : IvsS rb off k p A m C w6 := ⟨hgrow.cell hHeld.1 (fun e => by have := hown1 _ e.symm; simp only at this; omega), hgrow.cell hHeld.2 (fun e => by have := hown1 _ e.symm; simp only at this; omega)⟩
          refine hK.out _ _ hHeld6 (fun hHeld => ?_)
          clear hK K hHeld6 hO3 hB3 hy3 gD3 hgrow hown' gT hX3 hown1
          try simp only [Act.put]
          try simp only [List.setIfInBounds_toArray]
          try simp only [List.set]
          refine wpAnyH_take (i := 22) (v := .pointer (some ⟨ob, 1, none⟩)) rfl (by kernel_rfl) (by kernel_rfl) (by kernel_rfl) (fun _ _ _ h => h) (Or.inl ⟨by kernel_rfl, fun u hSw => by (try dsimp only at hSw); go_simp; try with_reducible rfl⟩) hHeld ?_
          try simp only [List.getElem_toArray]
          try simp only [List.getElem_cons_succ]
          try simp only [List.getElem_cons_zero]
          try simp only [Act.put]
          try simp only [List.setIfInBounds_toArray]
          try simp only [List.set]
          refine wpAnyH_ready (rs := [23]) (by kernel_rfl) (by simp) ?_
          refine AllReadyH.cons rfl (fun K hK => ?_) AllReadyH.nil
          have c1 := hO6.cell1
          have f1 := hO6.frozen1
          go_simp
          go_wp2_with fail
          have tV : Turned ob (ob + 1) w6 (w6.setCell ⟨ob, 1, none⟩ (.slice (some ⟨gg, 0, none⟩) (k + 1) cap')) := (Turned.refl _ _ _).setCell (p := ⟨ob, 1, none⟩) (Nat.le_refl _) (Nat.lt_succ_self _) _
          have hO7 := hO6.set (.slice (some ⟨gg, 0, none⟩) (k + 1) cap')
          have hB7 := hB6.turned tV (fun j e => .inr (hB6.row.lt j e).1) (fun i hi => .inr (hB6.fr i hi).1)
          have hX7 := hX6.turned tV (.inl hXo)
          have g7 : Below w.heap.size w _ := g6.trans (tV.toBelow g6.size (by omega))
          have hHeld7 : IvsS rb off k p A m C _ := ⟨tV.cell hHeld.1 (.inl (by simp only; omega)), tV.cell hHeld.2 (.inl (by simp only; omega))⟩
          generalize w6.setCell ⟨ob, 1, none⟩ (.slice (some ⟨gg, 0, none⟩) (k + 1) cap') = w7 at hO7 hB7 hX7 g7 hHeld7 ⊢
          refine hK.out _ _ hHeld7 (fun hHeld => ?_)
          clear hK K c1 f1 tV hO6 hB6 hX6 g6 hHeld7 hHeld
          refine wpAnyH_done (by kernel_rfl) ?_ _
          clear hO hB hX gD hB0
          go_wp2_with fail
          go_roundw
          case rel => exact ⟨k + 1, _, _, _, by omega, by go_num, hB7, hO7, hX7, g7⟩
          case measure => simp [intOf]; omega
        ·
          go_simp
          go_wp2_with (go_at_call 52; refine (l2CopyN_any ⟨b0, off0 + p, none⟩ cs m (pc - p) _ HCL.out q1 (by omega) hrd).mono ?_; rintro e w2 ⟨g2, d2, rfl, gb, hg2, hg2l, hy2⟩)
          refine hK.out _ _ (ivs_keep hHeld gb) (fun hHeld => ?_)
          have hO := hO.below gb
          have hX := hX.below gb
          have hB := hB.below gb
          have gD := gD.trans (gb.mono gD.size)
          clear hK K
          try simp only [Act.put]
          try simp only [List.setIfInBounds_toArray]
          try simp only [List.set]
          refine wpAnyH_take (i := 19) (v := .agg #[.int .i64 (p : Nat), .slice (some ⟨g2, 0, none⟩) m d2]) rfl (by kernel_rfl) (by kernel_rfl) (by kernel_rfl) (fun _ _ _ h => h) (Or.inl ⟨by kernel_rfl, fun u hSw => by (try dsimp only at hSw); go_simp; try with_reducible rfl⟩) hHeld ?_
          try simp only [List.getElem_toArray]
          try simp only [List.getElem_cons_succ]
          try simp only [List.getElem_cons_zero]
          try simp only [Act.put]
          try simp only [List.setIfInBounds_toArray]
          try simp only [List.set]
          refine wpAnyH_ready (rs := [1, 20]) (by kernel_rfl) (by simp) ?_
          refine AllReadyH.cons rfl (fun K hK => ?_) (AllReadyH.cons rfl (fun K hK => ?_) AllReadyH.nil)
          ·
            have c1 := hO.cell1
            go_simp
            go_wp2_with fail
            refine hK.out _ _ hHeld (fun hHeld => ?_)
            clear hK K c1
            try simp only [Act.put]
            try simp only [List.setIfInBounds_toArray]
            try simp only [List.set]
            refine wpAnyH_ready (rs := [20]) (by kernel_rfl) (by simp) ?_
            refine AllReadyH.cons rfl (fun K hK => ?_) AllReadyH.nil
            go_simp
            go_wp2_with fail
            refine hK.out _ _ (ivs_keep hHeld ((Below.refl _ _).alloc (Nat.le_refl _) _)) (fun hHeld => ?_)
            clear hK K
            try simp only [Act.put]
            try simp only [List.setIfInBounds_toArray]
            try simp only [List.set]
            have gT : Below w2.heap.size w2 (w2.alloc (.cells #[.int .i64 (p : Nat), .slice (some ⟨g2, 0, none⟩) m d2] 35)) := (Below.refl _ w2).alloc (Nat.le_refl _) _
            have hO3 := hO.below gT
            have hB3 := hB.below gT
            have hy3 := hy2.below gT
            have hX3 := hX.below gT
            have gD3 := gD.trans (gT.mono gD.size)
            have hob3 := hO3.lt
            refine wpAnyH_ready (rs := [21]) (by kernel_rfl) (by simp) ?_
            refine AllReadyH.cons rfl (fun K hK => ?_) AllReadyH.nil
            rw [if_pos (by kernel_rfl)]
            refine wp_append_own _ _ _ 26 rfl (ob + 1) 35 i5 (.agg #[.int .i64 0, .slice none 0 0]) 2 32 Try.underlying26 hi5 hz50 hz51 hz52 rfl (by decide) v k (rcells P C1 (ivZ zs P Z) F1 k) rfl hB3.row ⟨w2.heap.size, 0, none⟩ 1 1 [.int .i64 (p : Nat), .slice (some ⟨g2, 0, none⟩) m d2] rfl rfl (by
              intro j u hu
              match j, hu with
              | 0, hu => simp at hu; subst hu; simp [go_sem, Addr.add]
              | 1, hu => simp at hu; subst hu; simp [go_sem, Addr.add]) (by
              intro u hu
              simp at hu
              rcases hu with rfl | rfl <;> rfl) (by unfold maxLen; omega) (by omega) hob3 ?_
            intro v' w6 hown' hgrow _
            obtain ⟨gg, cap', rfl⟩ := ownsRow_succ hown'
            have hB6 : Blt (ob + 1) w6 (.slice (some ⟨gg, 0, none⟩) (k + 1) cap') (k + 1) P (fun i => if i = k then d2 else C1 i) (ivZ zs P Z) (fun i => if i = k then g2 else F1 i) := by
              have hce : ∀ i, i < k → P i = P i ∧ C1 i = (if i = k then d2 else C1 i) ∧ ivZ zs P Z i = ivZ zs P Z i ∧ F1 i = (if i = k then g2 else F1 i) := fun i hi => ⟨rfl, by rw [if_neg (by omega)], rfl, by rw [if_neg (by omega)]⟩
              refine (hB3.congr hce).append (v' := .slice (some ⟨gg, 0, none⟩) (k + 1) cap') ?_ hgrow ?_ ?_ ?_ ?_ ?_ ?_
              · rw [← rcells_congr k hce]
                simp only [if_true]
                rw [HPk.out, HZk.out, HCL.out]
                exact hown'
              · simp only [if_true]
                rw [HZk.out]
                exact hy3
              · rw [HZk.out]
                intro e
                have := HCL.out
                rw [e] at this
                simp at this
                omega
              · simp only [if_true]; omega
              · simp only [if_true]; simp; omega
              · intro i hi
                simp only [if_true, if_neg (show ¬ i = k by omega)]
                have := (hB0.fr i hi).2
                omega
              · simp only [if_true]
                intro e
                have := (hB0.row.lt _ e.symm).2
                omega
            have hown1 : ∀ j, v.ownBlock = some j → ob + 1 ≤ j := fun j e => (hB3.row.lt j e).1
            have hO6 : OutAt w6 ob v := (hgrow.block ob hO3.lt (fun e => by have := hown1 _ e.symm; omega)).trans hO3
            have hX6 := hX3.grown hgrow (fun e => by have := hown1 _ e.symm; omega)
            have g6 : Below w.heap.size w w6 := gD3.grown hgrow gD3.size (fun j e => by have := hown1 _ e; omega)
            have hHeld6 : IvsS rb off k p A m C w6 := ⟨hgrow.cell hHeld.1 (fun e => by have := hown1 _ e.symm; simp only at this; omega), hgrow.cell hHeld.2 (fun e => by have := hown1 _ e.symm; simp only at this; omega)⟩
            refine hK.out _ _ hHeld6 (fun hHeld => ?_)
            clear hK K hHeld6 hO3 hB3 hy3 gD3 hgrow hown' gT hX3 hown1
            try simp only [Act.put]
            try simp only [List.setIfInBounds_toArray]
            try simp only [List.set]
            refine wpAnyH_take (i := 22) (v := .pointer (some ⟨ob, 1, none⟩)) rfl (by kernel_rfl) (by kernel_rfl) (by kernel_rfl) (fun _ _ _ h => h) (Or.inl ⟨by kernel_rfl, fun u hSw => by (try dsimp only at hSw); go_simp; try with_reducible rfl⟩) hHeld ?_
            try simp only [List.getElem_toArray]
            try simp only [List.getElem_cons_succ]
            try simp only [List.getElem_cons_zero]
            try simp only [Act.put]
            try simp only [List.setIfInBounds_toArray]
            try simp only [List.set]
            refine wpAnyH_ready (rs := [23]) (by kernel_rfl) (by simp) ?_
            refine AllReadyH.cons rfl (fun K hK => ?_) AllReadyH.nil
            have c1 := hO6.cell1
            have f1 := hO6.frozen1
            go_simp
            go_wp2_with fail
            have tV : Turned ob (ob + 1) w6 (w6.setCell ⟨ob, 1, none⟩ (.slice (some ⟨gg, 0, none⟩) (k + 1) cap')) := (Turned.refl _ _ _).setCell (p := ⟨ob, 1, none⟩) (Nat.le_refl _) (Nat.lt_succ_self _) _
            have hO7 := hO6.set (.slice (some ⟨gg, 0, none⟩) (k + 1) cap')
            have hB7 := hB6.turned tV (fun j e => .inr (hB6.row.lt j e).1) (fun i hi => .inr (hB6.fr i hi).1)
            have hX7 := hX6.turned tV (.inl hXo)
            have g7 : Below w.heap.size w _ := g6.trans (tV.toBelow g6.size (by omega))
            have hHeld7 : IvsS rb off k p A m C _ := ⟨tV.cell hHeld.1 (.inl (by simp only; omega)), tV.cell hHeld.2 (.inl (by simp only; omega))⟩
            generalize w6.setCell ⟨ob, 1, none⟩ (.slice (some ⟨gg, 0, none⟩) (k + 1) cap') = w7 at hO7 hB7 hX7 g7 hHeld7 ⊢
            refine hK.out _ _ hHeld7 (fun hHeld => ?_)
            clear hK K c1 f1 tV hO6 hB6 hX6 g6 hHeld7 hHeld
            refine wpAnyH_done (by kernel_rfl) ?_ _
            clear hO hB hX gD hB0
            go_wp2_with fail
            go_roundw
            case rel => exact ⟨k + 1, _, _, _, by omega, by go_num, hB7, hO7, hX7, g7⟩
            case measure => simp [intOf]; omega
          ·
            go_simp
            go_wp2_with fail
            refine hK.out _ _ (ivs_keep hHeld ((Below.refl _ _).alloc (Nat.le_refl _) _)) (fun hHeld => ?_)
            clear hK K
            try simp only [Act.put]
            try simp only [List.setIfInBounds_toArray]
            try simp only [List.set]
            refine wpAnyH_ready (rs := [1]) (by kernel_rfl) (by simp) ?_
            refine AllReadyH.cons rfl (fun K hK => ?_) AllReadyH.nil
            have c1 := (hO.below ((Below.refl _ w2).alloc (Nat.le_refl _) (.cells #[.int .i64 (p : Nat), .slice (some ⟨g2, 0, none⟩) m d2] 35))).cell1
            go_simp
            go_wp2_with fail
            refine hK.out _ _ hHeld (fun hHeld => ?_)
            clear hK K c1
            try simp only [Act.put]
            try simp only [List.setIfInBounds_toArray]
            try simp only [List.set]
            have gT : Below w2.heap.size w2 (w2.alloc (.cells #[.int .i64 (p : Nat), .slice (some ⟨g2, 0, none⟩) m d2] 35)) := (Below.refl _ w2).alloc (Nat.le_refl _) _
            have hO3 := hO.below gT
            have hB3 := hB.below gT
            have hy3 := hy2.below gT
            have hX3 := hX.below gT
            have gD3 := gD.trans (gT.mono gD.size)
            have hob3 := hO3.lt
            refine wpAnyH_ready (rs := [21]) (by kernel_rfl) (by simp) ?_
            refine AllReadyH.cons rfl (fun K hK => ?_) AllReadyH.nil
            rw [if_pos (by kernel_rfl)]
            refine wp_append_own _ _ _ 26 rfl (ob + 1) 35 i5 (.agg #[.int .i64 0, .slice none 0 0]) 2 32 Try.underlying26 hi5 hz50 hz51 hz52 rfl (by decide) v k (rcells P C1 (ivZ zs P Z) F1 k) rfl hB3.row ⟨w2.heap.size, 0, none⟩ 1 1 [.int .i64 (p : Nat), .slice (some ⟨g2, 0, none⟩) m d2] rfl rfl (by
              intro j u hu
              match j, hu with
              | 0, hu => simp at hu; subst hu; simp [go_sem, Addr.add]
              | 1, hu => simp at hu; subst hu; simp [go_sem, Addr.add]) (by
              intro u hu
              simp at hu
              rcases hu with rfl | rfl <;> rfl) (by unfold maxLen; omega) (by omega) hob3 ?_
            intro v' w6 hown' hgrow _
            obtain ⟨gg, cap', rfl⟩ := ownsRow_succ hown'
            have hB6 : Blt (ob + 1) w6 (.slice (some ⟨gg, 0, none⟩) (k + 1) cap') (k + 1) P (fun i => if i = k then d2 else C1 i) (ivZ zs P Z) (fun i => if i = k then g2 else F1 i) := by
              have hce : ∀ i, i < k → P i = P i ∧ C1 i = (if i = k then d2 else C1 i) ∧ ivZ zs P Z i = ivZ zs P Z i ∧ F1 i = (if i = k then g2 else F1 i) := fun i hi => ⟨rfl, by rw [if_neg (by omega)], rfl, by rw [if_neg (by omega)]⟩
              refine (hB3.congr hce).append (v' := .slice (some ⟨gg, 0, none⟩) (k + 1) cap') ?_ hgrow ?_ ?_ ?_ ?_ ?_ ?_
              · rw [← rcells_congr k hce]
                simp only [if_true]
                rw [HPk.out, HZk.out, HCL.out]
                exact hown'
              · simp only [if_true]
                rw [HZk.out]
                exact hy3
              · rw [HZk.out]
                intro e
                have := HCL.out
                rw [e] at this
                simp at this
                omega
              · simp only [if_true]; omega
              · simp only [if_true]; simp; omega
              · intro i hi
                simp only [if_true, if_neg (show ¬ i = k by omega)]
                have := (hB0.fr i hi).2
                omega
              · simp only [if_true]
                intro e
                have := (hB0.row.lt _ e.symm).2
                omega
            have hown1 : ∀ j, v.ownBlock = some j → ob + 1 ≤ j := fun j e => (hB3.row.lt j e).1
            have hO6 : OutAt w6 ob v := (hgrow.block ob hO3.lt (fun e => by have := hown1 _ e.symm; omega)).trans hO3
            have hX6 := hX3.grown hgrow (fun e => by have := hown1 _ e.symm; omega)
            have g6 : Below w.heap.size w w6 := gD3.grown hgrow gD3.size (fun j e => by have := hown1 _ e; omega)
            have hHeld6 : IvsS rb off k p A m C w6 := ⟨hgrow.cell hHeld.1 (fun e => by have := hown1 _ e.symm; simp only at this; omega), hgrow.cell hHeld.2 (fun e => by have := hown1 _ e.symm; simp only at this; omega)⟩
            refine hK.out _ _ hHeld6 (fun hHeld => ?_)
            clear hK K hHeld6 hO3 hB3 hy3 gD3 hgrow hown' gT hX3 hown1
            try simp only [Act.put]
            try simp only [List.setIfInBounds_toArray]
            try simp only [List.set]
            refine wpAnyH_take (i := 22) (v := .pointer (some ⟨ob, 1, none⟩)) rfl (by kernel_rfl) (by kernel_rfl) (by kernel_rfl) (fun _ _ _ h => h) (Or.inl ⟨by kernel_rfl, fun u hSw => by (try dsimp only at hSw); go_simp; try with_reducible rfl⟩) hHeld ?_
            try simp only [List.getElem_toArray]
            try simp only [List.getElem_cons_succ]
            try simp only [List.getElem_cons_zero]
            try simp only [Act.put]
            try simp only [List.setIfInBounds_toArray]
            try simp only [List.set]
            refine wpAnyH_ready (rs := [23]) (by kernel_rfl) (by simp) ?_
            refine AllReadyH.cons rfl (fun K hK => ?_) AllReadyH.nil
            have c1 := hO6.cell1
            have f1 := hO6.frozen1
            go_simp
            go_wp2_with fail
            have tV : Turned ob (ob + 1) w6 (w6.setCell ⟨ob, 1, none⟩ (.slice (some ⟨gg, 0, none⟩) (k + 1) cap')) := (Turned.refl _ _ _).setCell (p := ⟨ob, 1, none⟩) (Nat.le_refl _) (Nat.lt_succ_self _) _
            have hO7 := hO6.set (.slice (some ⟨gg, 0, none⟩) (k + 1) cap')
            have hB7 := hB6.turned tV (fun j e => .inr (hB6.row.lt j e).1) (fun i hi => .inr (hB6.fr i hi).1)
            have hX7 := hX6.turned tV (.inl hXo)
            have g7 : Below w.heap.size w _ := g6.trans (tV.toBelow g6.size (by omega))
            have hHeld7 : IvsS rb off k p A m C _ := ⟨tV.cell hHeld.1 (.inl (by simp only; omega)), tV.cell hHeld.2 (.inl (by simp only; omega))⟩
            generalize w6.setCell ⟨ob, 1, none⟩ (.slice (some ⟨gg, 0, none⟩) (k + 1) cap') = w7 at hO7 hB7 hX7 g7 hHeld7 ⊢
            refine hK.out _ _ hHeld7 (fun hHeld => ?_)
            clear hK K c1 f1 tV hO6 hB6 hX6 g6 hHeld7 hHeld
            refine wpAnyH_done (by kernel_rfl) ?_ _
            clear hO hB hX gD hB0
            go_wp2_with fail
            go_roundw
            case rel => exact ⟨k + 1, _, _, _, by omega, by go_num, hB7, hO7, hX7, g7⟩
            case measure => simp [intOf]; omega

      · have e : k = n := by omega
        subst e
        have c1 := hO.cell1
        have c0 := hO.cell0
        obtain ⟨a0, c0', rfl, ho⟩ := hB.own
        have hx2 := hX.lt
        obtain ⟨x0, x1, f0, f1⟩ := hX
        go_wp2_with fail
        refine bodyPost_ret (v := .agg #[.int .i64 0, .slice a0 k c0']) (by simp [results, Try.results32, go_sem, x0, x1]) rfl ?_
        have tV : Turned w.heap.size (w.heap.size + 1) wr ((wr.setCell ⟨w.heap.size, 0, none⟩ (.int .i64 0)).setCell ⟨w.heap.size, 1, none⟩ (.slice a0 k c0')) := ((Turned.refl _ _ _).setCell (p := ⟨w.heap.size, 0, none⟩) (Nat.le_refl _) (Nat.lt_succ_self _) _).setCell (p := ⟨w.heap.size, 1, none⟩) (Nat.le_refl _) (Nat.lt_succ_self _) _
        exact ⟨a0, c0', _, C1, F1, by rw [HB.out.1, HB.out.2], by go_grown, by rw [HB.out.2]; exact (ho.turned tV (.inr (by omega))).mono (by omega) tV.size⟩
  · obtain ⟨q, hqq⟩ : ∃ q, q = apQ zs n P Z := ⟨_, rfl⟩
    have HB : Hid (apQ zs n P Z = q ∧ ivN zs n P Z = 0) := by refine ⟨hqq.symm, ?_⟩; unfold ivN; rw [if_neg hq]
    have dq : (q != 0) = true := by rw [hqq]; simpa using hq
    rw [← hqq]
    clear hq hqq
    obtain ⟨c0, c1, f0, f1⟩ := hX
    go_wp2_with fail
    refine bodyPost_ret (v := .agg #[.int .i64 q, .slice none 0 0]) (by simp [results, Try.results32, go_sem, c0, c1]) rfl ?_
    exact ⟨none, 0, fun _ => none, fun _ => 0, fun _ => 0, by rw [HB.out.1, HB.out.2], by go_grown, by rw [HB.out.2]; exact .inl rfl⟩

end Go.Proofs.Ytpoccjlngbdjlaa
