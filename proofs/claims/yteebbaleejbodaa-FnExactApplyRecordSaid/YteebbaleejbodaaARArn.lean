/-
  The program's ApplyRuns, its answer an array's block.
-/
import Derived.Test.YteebbaleejbodaaARArm
import Derived.Test.YteebbaleejbodaaAROwp
import Derived.Test.YteebbaleejbodaaARLawA
import Derived.Test.YteebbaleejbodaaARRdw

namespace Go.Proofs.Yteebbaleejbodaa
set_option maxRecDepth 20000
open Go.RowKit
set_option linter.unusedVariables false

theorem Arr.gb {w : World} {g base : Nat} {zs : List Int} (h : Arr w g zs) (hb : base ≤ g) : Gb base w (.slice (some ⟨g, 0, none⟩) 64 64) zs := by
  have hm : (64 : Nat) ≤ maxLen := by decide
  refine ⟨239, .inr rfl, ?_⟩
  rw [h.len]
  refine ⟨by simp [h.len], .inr ⟨g, 64, _, rfl, hb, h.row, Nat.le_refl _, hm, by rw [pgC_size, h.len], ?_⟩⟩
  simp [pgC, h.len, List.take_of_length_le]

set_option maxHeartbeats 4000000 in
theorem implApplyRunsA_any (pa : Option Addr) (zs : List Int) (m pc : Nat) (a : Option Addr) (n c : Nat) (P : Nat → Int) (A : Nat → Option Addr) (C : Nat → Nat) (Z : Nat → List Int) (w : World) (hml : zs.length = m) (hmm : m ≤ 1048576) (hp : Reads w pa zs) (hm : n ≤ 1048576) (hz : ∀ i, i < n → (Z i).length ≤ 1048576) (hr : RunsRead w a n P A C Z) (hq0 : apQ zs n P Z = 0) :
    Calls Try.prog 134 #[.slice pa m pc, .slice a n c] w fun e w' => ∃ g, e = .returned (.agg #[.int .i64 0, .slice (some ⟨g, 0, none⟩) 64 64]) ∧ Below w.heap.size w w' ∧ w.heap.size < g ∧ Arr w' g (apP zs P Z n) := by
  have hX : BRes (w.alloc (.cells #[.int .i64 0, .slice none 0 0] 188)) w.heap.size 0 (.slice none 0 0) := ⟨by simp [go_sem], by simp [go_sem], by simp [go_sem], by simp [go_sem]⟩
  have g : Below w.heap.size w (w.alloc (.cells #[.int .i64 0, .slice none 0 0] 188)) := by go_grown
  have HR : Hid (RunsRead w a n P A C Z) := hr
  have HP : Hid (Reads w pa zs) := hp
  have hr := hr.below g (Nat.le_refl _)
  obtain ⟨X, hX0⟩ : ∃ X, w.alloc (.cells #[.int .i64 0, .slice none 0 0] 188) = X := ⟨_, rfl⟩
  rw [hX0] at hX g hr
  go_enter Try.func134, Try.ntmps134
  go_wp2_with fail
  refine (pageAndRunsFault_any pa zs m pc a n c P A C Z _ hml hmm hm hz hr).mono ?_
  rintro e w1 ⟨rfl, g1⟩
  have hX := hX.below g1
  have g : Below w.heap.size w w1 := g.trans (g1.mono g.size)
  clear hX0 g1 hr hp
  by_cases hq : apQ zs n P Z = 0
  · have h64 : zs.length = 64 ∧ rfQ n P Z = 0 := by
      unfold apQ at hq
      by_cases e : zs.length = 64
      · rw [if_pos e] at hq; exact ⟨e, hq⟩
      · rw [if_neg e] at hq; cases hq
    obtain rfl : m = 64 := hml.symm.trans h64.1
    have HB : Hid (apQ zs n P Z = 0 ∧ apB zs n P Z = apP zs P Z n) := by refine ⟨hq, ?_⟩; unfold apB; rw [if_pos hq]
    have HQ : Hid (n ≤ 64 ∧ ∀ i, i < n → 0 ≤ P i ∧ 1 ≤ (Z i).length ∧ P i + (Z i).length ≤ 64) := rfQ_zero h64.2
    have hn64 := HQ.out.1
    rw [hq]
    clear hq
    obtain ⟨h64, _⟩ := h64
    have HLz : Hid (zs.length = 64) := h64
    obtain ⟨b0, off0, rfl⟩ : ∃ b off, pa = some ⟨b, off, none⟩ := by
      rcases HP.out with h0 | ⟨b, off, hb, _⟩
      · rw [h0] at h64; simp at h64
      · exact ⟨b, off, hb⟩
    have hrg : w1.rangeAt b0 off0 (zs.map (Value.int .u8)) := (HP.out.below g (Nat.le_refl _)).range
    have hin : (Try.prog.info? 239).map (·.size) = some (zs.map (Value.int .u8)).length := by rw [List.length_map, h64]; exact info58
    clear h64 hml
    have hXl := hX.lt
    go_upto_region 4 with (fail)
    go_wp2_with (first | refine wpList_arrayAt rfl _ rfl _ _ rfl ?_ | refine wpList_load_mid rfl 239 _ rfl b0 off0 rfl _ _ hrg Try.underlying239 rfl hin ?_ | refine wpList_storePg rfl _ _ rfl w1.heap.size zs rfl rfl HLz.out (filled 0 0) (arr_new w1 (filled 0 0) rfl) ?_)
    generalize hZ : World.setRow _ w1.heap.size (pgC zs) = W
    have hA0 : Arr W w1.heap.size (apP zs P Z 0) := by rw [← hZ]; exact (arr_new w1 (filled 0 0) rfl).put HLz.out
    have gZ : Below w1.heap.size w1 W := by rw [← hZ]; exact setRow_below ((Below.refl _ _).alloc (Nat.le_refl _) _) (Nat.le_refl _) _
    have hX0 := hX.below gZ
    have g0 : Below w.heap.size w W := g.trans (gZ.mono g.size)
    clear hZ gZ hX g hrg hin
    generalize w1.heap.size = b at hA0 hXl
    by_cases h0 : n = 0
    · subst h0
      have hbl := hA0.lt
      have HA : Hid (Arr W b (apP zs P Z 0)) := hA0
      have hx2 := hX0.lt
      obtain ⟨c0, c1, f0, f1⟩ := hX0
      clear hA0
      go_rounds 1
      refine bodyPost_ret (v := .agg #[.int .i64 0, .slice (some ⟨b, 0, none⟩) 64 64]) (by simp [results, Try.results134, go_sem, c0, c1]) rfl ?_
      exact ⟨b, rfl, by go_grown, by omega, (HA.out.other _ _ (by show w.heap.size ≠ b; omega)).other _ _ (by show w.heap.size ≠ b; omega)⟩
    obtain ⟨rb, off, rfl⟩ : ∃ b off, a = some ⟨b, off, none⟩ := by
      rcases HR.out with h1 | ⟨b, off, hb, _⟩
      · exact absurd h1 h0
      · exact ⟨b, off, hb⟩
    go_loopw [21] (fun i wr => ∃ k : Nat, k ≤ n ∧ i = .int .i64 k ∧ Below w.heap.size w wr ∧ Arr wr b (apP zs P Z k) ∧ BRes wr w.heap.size 0 (.slice none 0 0)) (fun i _ => n - (intOf i).toNat)
    case atStart => exact ⟨0, Nat.zero_le _, rfl, g0, hA0, hX0⟩
    case round =>
      obtain ⟨k, hk, rfl, g, hA, hX⟩ := hrel
      clear g0 hA0 hX0
      by_cases hlt : k < n
      · obtain ⟨e0, e1, e2⟩ := (HR.out.below g (Nat.le_refl _)).at_ k hlt
        have hkn : (k : Int) < (n : Int) := by omega
        obtain ⟨q0, q1, q2⟩ := HQ.out.2 k hlt
        obtain ⟨p, hpv⟩ : ∃ p : Nat, P k = (p : Int) := ⟨(P k).toNat, by omega⟩
        obtain ⟨m, hmv⟩ : ∃ m, m = (Z k).length := ⟨_, rfl⟩
        have HZ : Hid ((Z k).length = m) := hmv.symm
        have HE : Hid (apP zs P Z (k + 1) = splice (apP zs P Z k) p (Z k)) := by show _ = _; simp only [apP]; rw [hpv, Int.toNat_natCast]
        rw [hpv] at e0 q2
        rw [← hmv] at e1 q1 q2
        obtain ⟨sb, so, hAk⟩ : ∃ sb so, A k = some ⟨sb, so, none⟩ := by
          rcases e2 with h0 | ⟨sb, so, hb, _⟩
          · rw [h0] at hmv; simp at hmv; omega
          · exact ⟨sb, so, hb⟩
        rw [hAk] at e1 e2
        have hpm : p + m ≤ 64 := by omega
        have hdp : ¬ (64 = p) := by omega
        have i1 : (p : Int) ≤ 64 := by omega
        have hblt := hA.lt
        clear hAk hpv hmv q0 q2
        go_upto_region 8 with (fail)
        generalize hY : World.alloc wr _ = Y
        have s0 : Y.cell? ⟨wr.heap.size, 0, none⟩ = some (.int .i64 p) := by rw [← hY]; simp [go_sem]
        have s1 : Y.cell? ⟨wr.heap.size, 1, none⟩ = some (.slice (some ⟨sb, so, none⟩) m (C k)) := by rw [← hY]; simp [go_sem]
        have gY : Below wr.heap.size wr Y := by rw [← hY]; exact (Below.refl _ _).alloc (Nat.le_refl _) _
        have hA := hA.grown gY
        have hX := hX.below gY
        have e2 := e2.below gY (Nat.le_refl _)
        have g : Below w.heap.size w Y := g.trans (gY.mono g.size)
        clear hY gY e0 e1
        generalize wr.heap.size = y at s0 s1 hblt
        have hyb : b + 1 ≤ y := hblt
        refine wp_region_held_drew (S := fun V => V.cell? ⟨y, 0, none⟩ = some (.int .i64 p) ∧ V.cell? ⟨y, 1, none⟩ = some (.slice (some ⟨sb, so, none⟩) m (C k))) (by kernel_rfl) ⟨s0, s1⟩ (fun hHeld => ?_)
        have hAD := hA.grown (w' := Y.drew) (Below.refl _ _).drew
        have hrD := e2.below (w' := Y.drew) (Below.refl _ _).drew (Nat.le_refl _)
        have gD : Below w.heap.size w Y.drew := g.drew
        have hXD := hX.below (w' := Y.drew) (Below.refl _ _).drew
        generalize Y.drew = D at hHeld hAD hrD gD hXD ⊢
        clear s0 s1 e2 hA g hX
        refine wpAnyH_take (i := 0) (v := .pointer (some ⟨y, 0, none⟩)) rfl (by kernel_rfl) (by kernel_rfl) (by kernel_rfl) (fun _ _ _ h => h) (Or.inl ⟨by kernel_rfl, fun u hSw => by (try dsimp only at hSw); go_simp; try with_reducible rfl⟩) hHeld ?_
        try simp only [List.getElem_toArray]
        try simp only [List.getElem_cons_succ]
        try simp only [List.getElem_cons_zero]
        try simp only [Act.put]
        try simp only [List.setIfInBounds_toArray]
        try simp only [List.set]
        refine wpAnyH_take (i := 1) (v := .int .i64 p) rfl (by kernel_rfl) (by kernel_rfl) (by kernel_rfl) (fun _ _ _ h => h) (Or.inl ⟨by kernel_rfl, fun u hSw => by (try dsimp only at hSw); go_simp; try with_reducible rfl⟩) hHeld ?_
        try simp only [List.getElem_toArray]
        try simp only [List.getElem_cons_succ]
        try simp only [List.getElem_cons_zero]
        try simp only [Act.put]
        try simp only [List.setIfInBounds_toArray]
        try simp only [List.set]
        refine wpAnyH_take (i := 2) (v := .slice (some ⟨b, p, none⟩) (64 - p) (64 - p)) rfl (by kernel_rfl) (by kernel_rfl) (by kernel_rfl) (fun _ _ _ h => h) (Or.inl ⟨by kernel_rfl, fun u hSw => by (try dsimp only at hSw); go_simp; try with_reducible rfl⟩) hHeld ?_
        try simp only [List.getElem_toArray]
        try simp only [List.getElem_cons_succ]
        try simp only [List.getElem_cons_zero]
        try simp only [Act.put]
        try simp only [List.setIfInBounds_toArray]
        try simp only [List.set]
        refine wpAnyH_take (i := 3) (v := .pointer (some ⟨y, 1, none⟩)) rfl (by kernel_rfl) (by kernel_rfl) (by kernel_rfl) (fun _ _ _ h => h) (Or.inl ⟨by kernel_rfl, fun u hSw => by (try dsimp only at hSw); go_simp; try with_reducible rfl⟩) hHeld ?_
        try simp only [List.getElem_toArray]
        try simp only [List.getElem_cons_succ]
        try simp only [List.getElem_cons_zero]
        try simp only [Act.put]
        try simp only [List.setIfInBounds_toArray]
        try simp only [List.set]
        refine wpAnyH_take (i := 4) (v := .slice (some ⟨sb, so, none⟩) m (C k)) rfl (by kernel_rfl) (by kernel_rfl) (by kernel_rfl) (fun _ _ _ h => h) (Or.inl ⟨by kernel_rfl, fun u hSw => by (try dsimp only at hSw); go_simp; try with_reducible rfl⟩) hHeld ?_
        try simp only [List.getElem_toArray]
        try simp only [List.getElem_cons_succ]
        try simp only [List.getElem_cons_zero]
        try simp only [Act.put]
        try simp only [List.setIfInBounds_toArray]
        try simp only [List.set]
        refine wpAnyH_ready (rs := [5]) (by kernel_rfl) (by simp) ?_
        refine AllReadyH.cons rfl (fun K hK => ?_) AllReadyH.nil
        rw [if_pos (by kernel_rfl)]
        refine wp_copyArr _ _ rfl b p m (64 - p) (64 - p) ⟨sb, so, none⟩ (C k) rfl rfl _ (Z k) hAD HZ.out (by omega) (reads_src hrD) hpm ?_
        intro V hAV tV
        refine hK.out _ _ ⟨tV.cell hHeld.1 (.inr hyb), tV.cell hHeld.2 (.inr hyb)⟩ (fun hHeld => ?_)
        clear hK K
        try simp only [Act.put]
        try simp only [List.setIfInBounds_toArray]
        try simp only [List.set]
        refine wpAnyH_done (by kernel_rfl) ?_ _

        have HAV : Hid (Arr V b (apP zs P Z (k + 1))) := by show Arr _ _ _; rw [HE.out]; exact hAV
        have gV : Below w.heap.size w V := gD.trans (tV.toBelow gD.size (by omega))
        have hXV := hXD.turned tV (.inl hXl)
        clear hAV tV hHeld hAD hrD gD hXD
        go_wp2_with fail
        go_roundw
        case rel => exact ⟨k + 1, by omega, by go_num, gV, HAV.out, hXV⟩
        case measure => simp [intOf]; omega
      · have e : k = n := by omega
        subst e
        have hbl := hA.lt
        have HA : Hid (Arr wr b (apP zs P Z k)) := hA
        have hx2 := hX.lt
        obtain ⟨c0, c1, f0, f1⟩ := hX
        clear hA
        go_wp2_with fail
        refine bodyPost_ret (v := .agg #[.int .i64 0, .slice (some ⟨b, 0, none⟩) 64 64]) (by simp [results, Try.results134, go_sem, c0, c1]) rfl ?_
        exact ⟨b, rfl, by go_grown, by omega, (HA.out.other _ _ (by show w.heap.size ≠ b; omega)).other _ _ (by show w.heap.size ≠ b; omega)⟩
  · exact absurd hq0 hq


end Go.Proofs.Yteebbaleejbodaa

/-
  What the seat lacked of the texts of pages.
-/
namespace Go.Proofs.Yteebbaleejbodaa
open Go.RowKit
set_option linter.unusedVariables false
set_option maxRecDepth 20000

set_option maxHeartbeats 1000000 in
theorem l2New_any (f : Int) (w : World) :
    Calls Try.prog 78 #[.int .u8 f] w fun e w' => e = .returned (.slice (some ⟨w.heap.size, 0, none⟩) 64 64) ∧ Below w.heap.size w w' ∧ BytesIn w.heap.size w'.heap.size w' (some ⟨w.heap.size, 0, none⟩) (newBytes f) := by
  obtain ⟨i0, hi, hz0, hz1, hz2⟩ := info5
  go_enter Try.func78, Try.ntmps78
  go_wp2_with (at_make; refine wpList_make_full _ rfl _ _ 106 rfl w.heap.size 5 i0 (.int .u8 0) 1 Try.underlying106 hi hz0 hz1 .i64 .i64 _ _ 64 rfl rfl rfl rfl ?c1 ?c2 (Nat.le_refl _) ?_)
  case c1 => rw [hz2]; omega
  case c2 => unfold maxLen; omega
  intro w1 hown hg
  have hB : Below w.heap.size w w1 := Below.grown (Below.refl _ _) hg (Nat.le_refl _) (fun k hk => by cases hk)
  have hlt1 : w.heap.size < w1.heap.size := (hown.lt w.heap.size (by simp [Value.ownBlock])).2
  have hY : BytesIn w.heap.size w1.heap.size w1 (some ⟨w.heap.size, 0, none⟩) (filled f 0) :=
    .inr ⟨w.heap.size, 0, rfl, Nat.le_refl _, hlt1, fun i hi => by
      have hi' : i < 64 := by rw [filled_length f 0 (by omega)] at hi; exact hi
      rw [Nat.zero_add, hown.cellAt i (by omega), made_zero 64 i hi']
      rw [filled_zero], fun i _ => by rw [Nat.zero_add]; exact hown.frozenAt i⟩
  clear hown hg hi hz0 hz1 hz2
  go_wp2_with fail
  go_loopw [4] (fun i wr => ∃ k : Nat, k ≤ 64 ∧ i = .int .i64 k ∧ wr.heap.size = w1.heap.size ∧ Below w.heap.size w wr ∧ BytesIn w.heap.size w1.heap.size wr (some ⟨w.heap.size, 0, none⟩) (filled f k)) (fun i _ => 64 - (intOf i).toNat)
  case atStart => exact ⟨0, by omega, rfl, rfl, hB, hY⟩
  case round =>
    obtain ⟨k, hk, rfl, hs, g, hA⟩ := hrel
    by_cases hlt : k < 64
    · obtain ⟨e1, e2⟩ := hA.at k (by rw [filled_length f k hk]; exact hlt)
      simp only [Nat.zero_add] at e1 e2
      have hi : (k : Int) < 64 := by omega
      go_wp2
      go_roundw
      case rel => exact ⟨k + 1, by omega, by go_num, by simpa using hs, g.setCell (by simp) _, by rw [← filled_set f k hlt]; simpa using hA.set k (by rw [filled_length f k hk]; exact hlt) f⟩
      case measure => simp [intOf]; omega
    · have e : k = 64 := by omega
      subst e
      obtain ⟨e0, e1⟩ := hA.at 0 (by rw [filled_length f _ hk]; omega)
      obtain ⟨e2, e3⟩ := hA.at 1 (by rw [filled_length f _ hk]; omega)
      simp only [Nat.zero_add] at e0 e1 e2 e3
      have hY := (hA.set 0 (by rw [filled_length f _ hk]; omega) 0).set 1 (by rw [List.length_set, filled_length f _ hk]; omega) 64
      rw [filled_new] at hY
      simp only [Nat.zero_add] at hY
      go_wp2
      go_ret
      exact ⟨rfl, (g.setCell (by simp) _).setCell (by simp) _, hY.mono (Nat.le_refl _) (by simp; omega)⟩

end Go.Proofs.Yteebbaleejbodaa

/-
  The contracts of NewPage and of the model's: a new page, all its bytes fill but the first two.
-/
namespace Go.Proofs.Yteebbaleejbodaa
set_option maxRecDepth 20000
open Go.RowKit

set_option maxHeartbeats 1000000 in
theorem implNewPage_any (f : Int) (w : World) :
    Calls Try.prog 162 #[.int .u8 f] w fun e w' => e = .returned (.agg #[.int .i64 0, .int .i64 0, .slice (some ⟨w.heap.size + 1, 0, none⟩) 64 64]) ∧ Below w.heap.size w w' ∧ Arr w' (w.heap.size + 1) (newBytes f) := by
  go_enter Try.func162, Try.ntmps162
  go_wp2_with fail
  generalize hX : World.alloc _ _ = X
  have hR : PRes X w.heap.size 0 0 (.slice none 0 0) := by rw [← hX]; exact ⟨by simp [go_sem], by simp [go_sem], by simp [go_sem], by simp [go_sem], by simp [go_sem], by simp [go_sem]⟩
  have hA : Arr X (w.heap.size + 1) (filled f 0) := by
    rw [← hX]
    have := arr_new (w.alloc (.cells #[.int .i64 0, .int .i64 0, .slice none 0 0] 235)) (filled f 0) rfl
    rw [show (w.alloc (.cells #[.int .i64 0, .int .i64 0, .slice none 0 0] 235)).heap.size = w.heap.size + 1 by simp] at this
    exact this
  have g : Below w.heap.size w X := by rw [← hX]; go_grown
  clear hX
  go_loopw [5] (fun i wr => ∃ k : Nat, k ≤ 64 ∧ i = .int .i64 k ∧ Below w.heap.size w wr ∧ PRes wr w.heap.size 0 0 (.slice none 0 0) ∧ Arr wr (w.heap.size + 1) (filled f k)) (fun i _ => 64 - (intOf i).toNat)
  case atStart => exact ⟨0, by omega, rfl, g, hR, hA⟩
  case round =>
    obtain ⟨k, hk, rfl, g, hR, hA⟩ := hrel
    by_cases hlt : k < 64
    · have e1 := hA.cell k hlt
      have e2 := hA.frozen k
      have hi : (k : Int) < 64 := by omega
      go_wp2
      go_roundw
      case rel => exact ⟨k + 1, by omega, by go_num, g.setCell (by simp) _, hR.other _ _ (by simp), by rw [← filled_set f k hlt]; exact hA.set k f⟩
      case measure => simp [intOf]; omega
    · have e : k = 64 := by omega
      subst e
      have e0 := hA.cell 0 (by omega)
      have e1 := hA.cell 1 (by omega)
      have e2 := hA.frozen 0
      have e3 := hA.frozen 1
      obtain ⟨c0, c1, c2, f0, f1, f2⟩ := hR
      go_wp2
      refine bodyPost_ret (v := .agg #[.int .i64 0, .int .i64 0, .slice (some ⟨w.heap.size + 1, 0, none⟩) 64 64]) (by simp [results, Try.results162, go_sem, c0, c1, c2]) rfl ?_
      refine ⟨rfl, by go_grown, ?_⟩
      have h1 := (hA.set 0 0).set 1 64
      rw [filled_new] at h1
      exact ((h1.other _ _ (by simp)).other _ _ (by simp)).other _ _ (by simp)

end Go.Proofs.Yteebbaleejbodaa
