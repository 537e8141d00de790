/-
  The contracts of ApplyRuns: the model's and the program's own.
-/
import Derived.Test.YtpoccjlngbdjlaaQApl

namespace Go.Proofs.Ytpoccjlngbdjlaa
open Go.RowKit
set_option linter.unusedVariables false

/-- Block b holds the two cells of a BytesResult, and may be written. -/
structure BRes (w : World) (b : Nat) (q : Int) (v : Value) : Prop where
  c0 : w.cell? ⟨b, 0, none⟩ = some (.int .i64 q)
  c1 : w.cell? ⟨b, 1, none⟩ = some v
  f0 : w.frozen? ⟨b, 0, none⟩ = false
  f1 : w.frozen? ⟨b, 1, none⟩ = false

theorem BRes.lt {b : Nat} {w : World} {q : Int} {v : Value} (h : BRes w b q v) : b < w.heap.size := World.block_lt_of_cell? w _ h.c0

theorem BRes.below {b : Nat} {w w' : World} {q : Int} {v : Value} (h : BRes w b q v) (hb : Below w.heap.size w w') : BRes w' b q v :=
  ⟨(hb.cell (p := ⟨b, 0, none⟩) h.lt).trans h.c0, (hb.cell (p := ⟨b, 1, none⟩) h.lt).trans h.c1, (hb.frozen (p := ⟨b, 0, none⟩) h.lt).trans h.f0, (hb.frozen (p := ⟨b, 1, none⟩) h.lt).trans h.f1⟩


set_option maxHeartbeats 2000000 in
theorem specApplyRuns_any (pa : Option Addr) (zs : List Int) (m pc : Nat) (a : Option Addr) (n c : Nat) (P : Nat → Int) (A : Nat → Option Addr) (C : Nat → Nat) (Z : Nat → List Int) (w : World) (hml : zs.length = m) (hmm : m ≤ 1048576) (hp : Reads w pa zs) (hm : n ≤ 1048576) (hz : ∀ i, i < n → (Z i).length ≤ 1048576) (hr : RunsRead w a n P A C Z) :
    Calls Try.prog 17 #[.slice pa m pc, .slice a n c] w fun e w' => ∃ a' d', e = .returned (.agg #[.int .i64 (apQ zs n P Z), .slice a' (apB zs n P Z).length d']) ∧ Below w.heap.size w w' ∧ BytesIn w.heap.size w'.heap.size w' a' (apB zs n P Z) := by
  have hX : BRes (w.alloc (.cells #[.int .i64 0, .slice none 0 0] 31)) w.heap.size 0 (.slice none 0 0) := ⟨by simp [go_sem], by simp [go_sem], by simp [go_sem], by simp [go_sem]⟩
  have g : Below w.heap.size w (w.alloc (.cells #[.int .i64 0, .slice none 0 0] 31)) := by go_grown
  have hp := hp.below g (Nat.le_refl _)
  have hr := hr.below g (Nat.le_refl _)
  obtain ⟨X, hX0⟩ : ∃ X, w.alloc (.cells #[.int .i64 0, .slice none 0 0] 31) = X := ⟨_, rfl⟩
  rw [hX0] at hX g hp hr
  have hltX := hX.lt
  go_enter Try.func17, Try.ntmps17
  go_wp2_with fail
  refine (l3Asked_any pa zs m pc a n c P A C Z _ hml hmm hm hz hr).mono ?_
  rintro e w' ⟨rfl, k1, rfl⟩
  have hX := hX.below (below_draws (Below.refl _ _) k1)
  have g := below_draws g k1
  have hp := hp.below (below_draws (Below.refl _ _) k1) (Nat.le_refl _)
  have hr := hr.below (below_draws (Below.refl _ _) k1) (Nat.le_refl _)
  clear hX0
  generalize X.drewN k1 = X1 at hX g hp hr
  by_cases hq : apQ zs n P Z = 0
  · have h64 : zs.length = 64 ∧ rfQ n P Z = 0 := by
      unfold apQ at hq
      by_cases e : zs.length = 64
      · rw [if_pos e] at hq; exact ⟨e, hq⟩
      · rw [if_neg e] at hq; cases hq
    obtain rfl : m = 64 := hml.symm.trans h64.1
    have HB : Hid (apQ zs n P Z = 0 ∧ apB zs n P Z = apP zs P Z n) := by refine ⟨hq, ?_⟩; unfold apB; rw [if_pos hq]
    rw [hq]
    clear hq
    go_wp2_with fail
    refine (l3Apply_any pa zs pc a n c P A C Z _ hp h64.1 h64.2 hr).mono ?_
    rintro e w2 ⟨gg, dd, rfl, g2, hgg, hA⟩
    have hX2 := hX.below g2
    have g : Below w.heap.size w w2 := g.trans (g2.mono g.size)
    have hl1 := hX.lt
    have hl2 := hX2.lt
    clear g2 hX
    have hgl := hA.lt
    have hy : BytesIn X1.heap.size w2.heap.size w2 (some ⟨gg, 0, none⟩) (apP zs P Z n) := hA.bytes hgg hgl
    have hlen := hA.len
    have HLen : Hid ((apP zs P Z n).length = 64) := hlen
    clear hlen hA hp hr h64
    obtain ⟨c0, c1, f0, f1⟩ := hX2
    go_wp2_with fail
    refine bodyPost_ret (v := .agg #[.int .i64 0, .slice (some ⟨gg, 0, none⟩) 64 dd]) (by simp [results, Try.results17, go_sem, c0, c1]) rfl ?_
    refine ⟨some ⟨gg, 0, none⟩, dd, by rw [HB.out.1, HB.out.2, HLen.out], by go_grown, ?_⟩
    rw [HB.out.2]
    exact ((hy.setCell (by simp; omega) _).setCell (by simp; omega) _).mono (by omega) (by simp)
  · obtain ⟨q, hqq⟩ : ∃ q, q = apQ zs n P Z := ⟨_, rfl⟩
    have HB : Hid (apQ zs n P Z = q ∧ apB zs n P Z = []) := by refine ⟨hqq.symm, ?_⟩; unfold apB; rw [if_neg hq]
    have dq : (q != 0) = true := by rw [hqq]; simpa using hq
    rw [← hqq]
    clear hq hqq hp hr
    obtain ⟨c0, c1, f0, f1⟩ := hX
    go_wp2_with fail
    refine bodyPost_ret (v := .agg #[.int .i64 q, .slice none 0 0]) (by simp [results, Try.results17, go_sem, c0, c1]) rfl ?_
    exact ⟨none, 0, by rw [HB.out.1, HB.out.2]; rfl, by go_grown, by rw [HB.out.2]; exact .inl rfl⟩

theorem BRes.turned {lo hi b : Nat} {w w' : World} {q : Int} {v : Value} (h : BRes w b q v) (ht : Turned lo hi w w') (hn : b < lo ∨ hi ≤ b) : BRes w' b q v :=
  ⟨ht.cell h.c0 (by simp only; omega), ht.cell h.c1 (by simp only; omega), (ht.frozen h.c0 (by simp only; omega)).trans h.f0, (ht.frozen h.c1 (by simp only; omega)).trans h.f1⟩

set_option maxHeartbeats 4000000 in
theorem implApplyRuns_any (pa : Option Addr) (zs : List Int) (m pc : Nat) (a : Option Addr) (n c : Nat) (P : Nat → Int) (A : Nat → Option Addr) (C : Nat → Nat) (Z : Nat → List Int) (w : World) (hml : zs.length = m) (hmm : m ≤ 1048576) (hp : Reads w pa zs) (hm : n ≤ 1048576) (hz : ∀ i, i < n → (Z i).length ≤ 1048576) (hr : RunsRead w a n P A C Z) :
    Calls Try.prog 12 #[.slice pa m pc, .slice a n c] w fun e w' => ∃ a' d', e = .returned (.agg #[.int .i64 (apQ zs n P Z), .slice a' (apB zs n P Z).length d']) ∧ Below w.heap.size w w' ∧ BytesIn w.heap.size w'.heap.size w' a' (apB zs n P Z) := by
  have hX : BRes (w.alloc (.cells #[.int .i64 0, .slice none 0 0] 31)) w.heap.size 0 (.slice none 0 0) := ⟨by simp [go_sem], by simp [go_sem], by simp [go_sem], by simp [go_sem]⟩
  have g : Below w.heap.size w (w.alloc (.cells #[.int .i64 0, .slice none 0 0] 31)) := by go_grown
  have HR : Hid (RunsRead w a n P A C Z) := hr
  have HP : Hid (Reads w pa zs) := hp
  have hr := hr.below g (Nat.le_refl _)
  obtain ⟨X, hX0⟩ : ∃ X, w.alloc (.cells #[.int .i64 0, .slice none 0 0] 31) = X := ⟨_, rfl⟩
  rw [hX0] at hX g hr
  go_enter Try.func12, Try.ntmps12
  go_wp2_with fail
  refine (pageAndRunsFault_any pa zs m pc a n c P A C Z _ hml hmm hm hz hr).mono ?_
  rintro e w1 ⟨rfl, g1⟩
  have hX := hX.below g1
  have g : Below w.heap.size w w1 := g.trans (g1.mono g.size)
  clear hX0 g1 hr hp
  by_cases hq : apQ zs n P Z = 0
  · have h64 : zs.length = 64 ∧ rfQ n P Z = 0 := by
      unfold apQ at hq
      by_cases e : zs.length = 64
      · rw [if_pos e] at hq; exact ⟨e, hq⟩
      · rw [if_neg e] at hq; cases hq
    obtain rfl : m = 64 := hml.symm.trans h64.1
    have HB : Hid (apQ zs n P Z = 0 ∧ apB zs n P Z = apP zs P Z n) := by refine ⟨hq, ?_⟩; unfold apB; rw [if_pos hq]
    have HQ : Hid (n ≤ 64 ∧ ∀ i, i < n → 0 ≤ P i ∧ 1 ≤ (Z i).length ∧ P i + (Z i).length ≤ 64) := rfQ_zero h64.2
    have hn64 := HQ.out.1
    rw [hq]
    clear hq
    obtain ⟨h64, _⟩ := h64
    have HLz : Hid (zs.length = 64) := h64
    obtain ⟨b0, off0, rfl⟩ : ∃ b off, pa = some ⟨b, off, none⟩ := by
      rcases HP.out with h0 | ⟨b, off, hb, _⟩
      · rw [h0] at h64; simp at h64
      · exact ⟨b, off, hb⟩
    have hrg : w1.rangeAt b0 off0 (zs.map (Value.int .u8)) := (HP.out.below g (Nat.le_refl _)).range
    have hin : (Try.prog.info? 58).map (·.size) = some (zs.map (Value.int .u8)).length := by rw [List.length_map, h64]; exact info58
    clear h64 hml
    have hXl := hX.lt
    go_upto_region 4 with (fail)
    go_wp2_with (first | refine wpList_arrayAt rfl _ rfl _ _ rfl ?_ | refine wpList_load_mid rfl 58 _ rfl b0 off0 rfl _ _ hrg Try.underlying58 rfl hin ?_ | refine wpList_storePg rfl _ _ rfl w1.heap.size zs rfl rfl HLz.out (filled 0 0) (arr_new w1 (filled 0 0) rfl) ?_)
    generalize hZ : World.setRow _ w1.heap.size (pgC zs) = W
    have hA0 : Arr W w1.heap.size (apP zs P Z 0) := by rw [← hZ]; exact (arr_new w1 (filled 0 0) rfl).put HLz.out
    have gZ : Below w1.heap.size w1 W := by rw [← hZ]; exact setRow_below ((Below.refl _ _).alloc (Nat.le_refl _) _) (Nat.le_refl _) _
    have hX0 := hX.below gZ
    have g0 : Below w.heap.size w W := g.trans (gZ.mono g.size)
    clear hZ gZ hX g hrg hin
    generalize w1.heap.size = b at hA0 hXl
    by_cases h0 : n = 0
    · subst h0
      have hbl := hA0.lt
      have hy : BytesIn (w.heap.size + 1) W.heap.size W (some ⟨b, 0, none⟩) (apP zs P Z 0) := hA0.bytes (by omega) hbl
      have HLen : Hid ((apP zs P Z 0).length = 64) := hA0.len
      have hx2 := hX0.lt
      obtain ⟨c0, c1, f0, f1⟩ := hX0
      clear hA0
      go_rounds 1
      refine bodyPost_ret (v := .agg #[.int .i64 0, .slice (some ⟨b, 0, none⟩) 64 64]) (by simp [results, Try.results12, go_sem, c0, c1]) rfl ?_
      refine ⟨some ⟨b, 0, none⟩, 64, by rw [HB.out.1, HB.out.2, HLen.out], by go_grown, ?_⟩
      rw [HB.out.2]
      exact ((hy.setCell (by simp) _).setCell (by simp) _).mono (by omega) (by simp)
    obtain ⟨rb, off, rfl⟩ : ∃ b off, a = some ⟨b, off, none⟩ := by
      rcases HR.out with h1 | ⟨b, off, hb, _⟩
      · exact absurd h1 h0
      · exact ⟨b, off, hb⟩
    go_loopw [21] (fun i wr => ∃ k : Nat, k ≤ n ∧ i = .int .i64 k ∧ Below w.heap.size w wr ∧ Arr wr b (apP zs P Z k) ∧ BRes wr w.heap.size 0 (.slice none 0 0)) (fun i _ => n - (intOf i).toNat)
    case atStart => exact ⟨0, Nat.zero_le _, rfl, g0, hA0, hX0⟩
    case round =>
      obtain ⟨k, hk, rfl, g, hA, hX⟩ := hrel
      clear g0 hA0 hX0
      by_cases hlt : k < n
      · obtain ⟨e0, e1, e2⟩ := (HR.out.below g (Nat.le_refl _)).at_ k hlt
        have hkn : (k : Int) < (n : Int) := by omega
        obtain ⟨q0, q1, q2⟩ := HQ.out.2 k hlt
        obtain ⟨p, hpv⟩ : ∃ p : Nat, P k = (p : Int) := ⟨(P k).toNat, by omega⟩
        obtain ⟨m, hmv⟩ : ∃ m, m = (Z k).length := ⟨_, rfl⟩
        have HZ : Hid ((Z k).length = m) := hmv.symm
        have HE : Hid (apP zs P Z (k + 1) = splice (apP zs P Z k) p (Z k)) := by show _ = _; simp only [apP]; rw [hpv, Int.toNat_natCast]
        rw [hpv] at e0 q2
        rw [← hmv] at e1 q1 q2
        obtain ⟨sb, so, hAk⟩ : ∃ sb so, A k = some ⟨sb, so, none⟩ := by
          rcases e2 with h0 | ⟨sb, so, hb, _⟩
          · rw [h0] at hmv; simp at hmv; omega
          · exact ⟨sb, so, hb⟩
        rw [hAk] at e1 e2
        have hpm : p + m ≤ 64 := by omega
        have hdp : ¬ (64 = p) := by omega
        have i1 : (p : Int) ≤ 64 := by omega
        have hblt := hA.lt
        clear hAk hpv hmv q0 q2
        go_upto_region 8 with (fail)
        generalize hY : World.alloc wr _ = Y
        have s0 : Y.cell? ⟨wr.heap.size, 0, none⟩ = some (.int .i64 p) := by rw [← hY]; simp [go_sem]
        have s1 : Y.cell? ⟨wr.heap.size, 1, none⟩ = some (.slice (some ⟨sb, so, none⟩) m (C k)) := by rw [← hY]; simp [go_sem]
        have gY : Below wr.heap.size wr Y := by rw [← hY]; exact (Below.refl _ _).alloc (Nat.le_refl _) _
        have hA := hA.grown gY
        have hX := hX.below gY
        have e2 := e2.below gY (Nat.le_refl _)
        have g : Below w.heap.size w Y := g.trans (gY.mono g.size)
        clear hY gY e0 e1
        generalize wr.heap.size = y at s0 s1 hblt
        have hyb : b + 1 ≤ y := hblt
        refine wp_region_held_drew (S := fun V => V.cell? ⟨y, 0, none⟩ = some (.int .i64 p) ∧ V.cell? ⟨y, 1, none⟩ = some (.slice (some ⟨sb, so, none⟩) m (C k))) (by kernel_rfl) ⟨s0, s1⟩ (fun hHeld => ?_)
        have hAD := hA.grown (w' := Y.drew) (Below.refl _ _).drew
        have hrD := e2.below (w' := Y.drew) (Below.refl _ _).drew (Nat.le_refl _)
        have gD : Below w.heap.size w Y.drew := g.drew
        have hXD := hX.below (w' := Y.drew) (Below.refl _ _).drew
        generalize Y.drew = D at hHeld hAD hrD gD hXD ⊢
        clear s0 s1 e2 hA g hX
        refine wpAnyH_take (i := 0) (v := .pointer (some ⟨y, 0, none⟩)) rfl (by kernel_rfl) (by kernel_rfl) (by kernel_rfl) (fun _ _ _ h => h) (Or.inl ⟨by kernel_rfl, fun u hSw => by (try dsimp only at hSw); go_simp; try with_reducible rfl⟩) hHeld ?_
        try simp only [List.getElem_toArray]
        try simp only [List.getElem_cons_succ]
        try simp only [List.getElem_cons_zero]
        try simp only [Act.put]
        try simp only [List.setIfInBounds_toArray]
        try simp only [List.set]
        refine wpAnyH_take (i := 1) (v := .int .i64 p) rfl (by kernel_rfl) (by kernel_rfl) (by kernel_rfl) (fun _ _ _ h => h) (Or.inl ⟨by kernel_rfl, fun u hSw => by (try dsimp only at hSw); go_simp; try with_reducible rfl⟩) hHeld ?_
        try simp only [List.getElem_toArray]
        try simp only [List.getElem_cons_succ]
        try simp only [List.getElem_cons_zero]
        try simp only [Act.put]
        try simp only [List.setIfInBounds_toArray]
        try simp only [List.set]
        refine wpAnyH_take (i := 2) (v := .slice (some ⟨b, p, none⟩) (64 - p) (64 - p)) rfl (by kernel_rfl) (by kernel_rfl) (by kernel_rfl) (fun _ _ _ h => h) (Or.inl ⟨by kernel_rfl, fun u hSw => by (try dsimp only at hSw); go_simp; try with_reducible rfl⟩) hHeld ?_
        try simp only [List.getElem_toArray]
        try simp only [List.getElem_cons_succ]
        try simp only [List.getElem_cons_zero]
        try simp only [Act.put]
        try simp only [List.setIfInBounds_toArray]
        try simp only [List.set]
        refine wpAnyH_take (i := 3) (v := .pointer (some ⟨y, 1, none⟩)) rfl (by kernel_rfl) (by kernel_rfl) (by kernel_rfl) (fun _ _ _ h => h) (Or.inl ⟨by kernel_rfl, fun u hSw => by (try dsimp only at hSw); go_simp; try with_reducible rfl⟩) hHeld ?_
        try simp only [List.getElem_toArray]
        try simp only [List.getElem_cons_succ]
        try simp only [List.getElem_cons_zero]
        try simp only [Act.put]
        try simp only [List.setIfInBounds_toArray]
        try simp only [List.set]
        refine wpAnyH_take (i := 4) (v := .slice (some ⟨sb, so, none⟩) m (C k)) rfl (by kernel_rfl) (by kernel_rfl) (by kernel_rfl) (fun _ _ _ h => h) (Or.inl ⟨by kernel_rfl, fun u hSw => by (try dsimp only at hSw); go_simp; try with_reducible rfl⟩) hHeld ?_
        try simp only [List.getElem_toArray]
        try simp only [List.getElem_cons_succ]
        try simp only [List.getElem_cons_zero]
        try simp only [Act.put]
        try simp only [List.setIfInBounds_toArray]
        try simp only [List.set]
        refine wpAnyH_ready (rs := [5]) (by kernel_rfl) (by simp) ?_
        refine AllReadyH.cons rfl (fun K hK => ?_) AllReadyH.nil
        rw [if_pos (by kernel_rfl)]
        refine wp_copyArr _ _ rfl b p m (64 - p) (64 - p) ⟨sb, so, none⟩ (C k) rfl rfl _ (Z k) hAD HZ.out (by omega) (reads_src hrD) hpm ?_
        intro V hAV tV
        refine hK.out _ _ ⟨tV.cell hHeld.1 (.inr hyb), tV.cell hHeld.2 (.inr hyb)⟩ (fun hHeld => ?_)
        clear hK K
        try simp only [Act.put]
        try simp only [List.setIfInBounds_toArray]
        try simp only [List.set]
        refine wpAnyH_done (by kernel_rfl) ?_ _

        have HAV : Hid (Arr V b (apP zs P Z (k + 1))) := by show Arr _ _ _; rw [HE.out]; exact hAV
        have gV : Below w.heap.size w V := gD.trans (tV.toBelow gD.size (by omega))
        have hXV := hXD.turned tV (.inl hXl)
        clear hAV tV hHeld hAD hrD gD hXD
        go_wp2_with fail
        go_roundw
        case rel => exact ⟨k + 1, by omega, by go_num, gV, HAV.out, hXV⟩
        case measure => simp [intOf]; omega
      · have e : k = n := by omega
        subst e
        have hbl := hA.lt
        have hy : BytesIn (w.heap.size + 1) wr.heap.size wr (some ⟨b, 0, none⟩) (apP zs P Z k) := hA.bytes (by omega) hbl
        have HLen : Hid ((apP zs P Z k).length = 64) := hA.len
        have hx2 := hX.lt
        obtain ⟨c0, c1, f0, f1⟩ := hX
        clear hA
        go_wp2_with fail
        refine bodyPost_ret (v := .agg #[.int .i64 0, .slice (some ⟨b, 0, none⟩) 64 64]) (by simp [results, Try.results12, go_sem, c0, c1]) rfl ?_
        refine ⟨some ⟨b, 0, none⟩, 64, by rw [HB.out.1, HB.out.2, HLen.out], by go_grown, ?_⟩
        rw [HB.out.2]
        exact ((hy.setCell (by simp) _).setCell (by simp) _).mono (by omega) (by simp)
  · obtain ⟨q, hqq⟩ : ∃ q, q = apQ zs n P Z := ⟨_, rfl⟩
    have HB : Hid (apQ zs n P Z = q ∧ apB zs n P Z = []) := by refine ⟨hqq.symm, ?_⟩; unfold apB; rw [if_neg hq]
    have dq : (q != 0) = true := by rw [hqq]; simpa using hq
    rw [← hqq]
    clear hq hqq
    obtain ⟨c0, c1, f0, f1⟩ := hX
    go_wp2_with fail
    refine bodyPost_ret (v := .agg #[.int .i64 q, .slice none 0 0]) (by simp [results, Try.results12, go_sem, c0, c1]) rfl ?_
    exact ⟨none, 0, by rw [HB.out.1, HB.out.2]; rfl, by go_grown, by rw [HB.out.2]; exact .inl rfl⟩

end Go.Proofs.Ytpoccjlngbdjlaa
