/-
  The contracts of ApplyRuns: the model's and the program's own.
-/
import Derived.Test.YteebbaleejbodaaARAru
import Derived.Test.YteebbaleejbodaaARApn
import Derived.Maps.AppendAt
import Derived.Lib.AppendZeros
import Derived.Lib.Bytes

namespace Go.Proofs.Yteebbaleejbodaa
set_option maxRecDepth 20000
open Go.RowKit
set_option linter.unusedVariables false

/-- Block b holds the two cells of a BytesResult, and may be written. -/
structure BRes (w : World) (b : Nat) (q : Int) (v : Value) : Prop where
  c0 : w.cell? ⟨b, 0, none⟩ = some (.int .i64 q)
  c1 : w.cell? ⟨b, 1, none⟩ = some v
  f0 : w.frozen? ⟨b, 0, none⟩ = false
  f1 : w.frozen? ⟨b, 1, none⟩ = false

theorem BRes.lt {b : Nat} {w : World} {q : Int} {v : Value} (h : BRes w b q v) : b < w.heap.size := World.block_lt_of_cell? w _ h.c0

theorem BRes.below {b : Nat} {w w' : World} {q : Int} {v : Value} (h : BRes w b q v) (hb : Below w.heap.size w w') : BRes w' b q v :=
  ⟨(hb.cell (p := ⟨b, 0, none⟩) h.lt).trans h.c0, (hb.cell (p := ⟨b, 1, none⟩) h.lt).trans h.c1, (hb.frozen (p := ⟨b, 0, none⟩) h.lt).trans h.f0, (hb.frozen (p := ⟨b, 1, none⟩) h.lt).trans h.f1⟩


theorem BRes.turned {lo hi b : Nat} {w w' : World} {q : Int} {v : Value} (h : BRes w b q v) (ht : Turned lo hi w w') (hn : b < lo ∨ hi ≤ b) : BRes w' b q v :=
  ⟨ht.cell h.c0 (by simp only; omega), ht.cell h.c1 (by simp only; omega), (ht.frozen h.c0 (by simp only; omega)).trans h.f0, (ht.frozen h.c1 (by simp only; omega)).trans h.f1⟩

set_option maxHeartbeats 4000000 in
theorem implApplyRuns_any (pa : Option Addr) (zs : List Int) (m pc : Nat) (a : Option Addr) (n c : Nat) (P : Nat → Int) (A : Nat → Option Addr) (C : Nat → Nat) (Z : Nat → List Int) (w : World) (hml : zs.length = m) (hmm : m ≤ 1048576) (hp : Reads w pa zs) (hm : n ≤ 1048576) (hz : ∀ i, i < n → (Z i).length ≤ 1048576) (hr : RunsRead w a n P A C Z) :
    Calls Try.prog 134 #[.slice pa m pc, .slice a n c] w fun e w' => ∃ a' d', e = .returned (.agg #[.int .i64 (apQ zs n P Z), .slice a' (apB zs n P Z).length d']) ∧ Below w.heap.size w w' ∧ BytesIn w.heap.size w'.heap.size w' a' (apB zs n P Z) := by
  have hX : BRes (w.alloc (.cells #[.int .i64 0, .slice none 0 0] 188)) w.heap.size 0 (.slice none 0 0) := ⟨by simp [go_sem], by simp [go_sem], by simp [go_sem], by simp [go_sem]⟩
  have g : Below w.heap.size w (w.alloc (.cells #[.int .i64 0, .slice none 0 0] 188)) := by go_grown
  have HR : Hid (RunsRead w a n P A C Z) := hr
  have HP : Hid (Reads w pa zs) := hp
  have hr := hr.below g (Nat.le_refl _)
  obtain ⟨X, hX0⟩ : ∃ X, w.alloc (.cells #[.int .i64 0, .slice none 0 0] 188) = X := ⟨_, rfl⟩
  rw [hX0] at hX g hr
  go_enter Try.func134, Try.ntmps134
  go_wp2_with fail
  refine (pageAndRunsFault_any pa zs m pc a n c P A C Z _ hml hmm hm hz hr).mono ?_
  rintro e w1 ⟨rfl, g1⟩
  have hX := hX.below g1
  have g : Below w.heap.size w w1 := g.trans (g1.mono g.size)
  clear hX0 g1 hr hp
  by_cases hq : apQ zs n P Z = 0
  · have h64 : zs.length = 64 ∧ rfQ n P Z = 0 := by
      unfold apQ at hq
      by_cases e : zs.length = 64
      · rw [if_pos e] at hq; exact ⟨e, hq⟩
      · rw [if_neg e] at hq; cases hq
    obtain rfl : m = 64 := hml.symm.trans h64.1
    have HB : Hid (apQ zs n P Z = 0 ∧ apB zs n P Z = apP zs P Z n) := by refine ⟨hq, ?_⟩; unfold apB; rw [if_pos hq]
    have HQ : Hid (n ≤ 64 ∧ ∀ i, i < n → 0 ≤ P i ∧ 1 ≤ (Z i).length ∧ P i + (Z i).length ≤ 64) := rfQ_zero h64.2
    have hn64 := HQ.out.1
    rw [hq]
    clear hq
    obtain ⟨h64, _⟩ := h64
    have HLz : Hid (zs.length = 64) := h64
    obtain ⟨b0, off0, rfl⟩ : ∃ b off, pa = some ⟨b, off, none⟩ := by
      rcases HP.out with h0 | ⟨b, off, hb, _⟩
      · rw [h0] at h64; simp at h64
      · exact ⟨b, off, hb⟩
    have hrg : w1.rangeAt b0 off0 (zs.map (Value.int .u8)) := (HP.out.below g (Nat.le_refl _)).range
    have hin : (Try.prog.info? 239).map (·.size) = some (zs.map (Value.int .u8)).length := by rw [List.length_map, h64]; exact info58
    clear h64 hml
    have hXl := hX.lt
    go_upto_region 4 with (fail)
    go_wp2_with (first | refine wpList_arrayAt rfl _ rfl _ _ rfl ?_ | refine wpList_load_mid rfl 239 _ rfl b0 off0 rfl _ _ hrg Try.underlying239 rfl hin ?_ | refine wpList_storePg rfl _ _ rfl w1.heap.size zs rfl rfl HLz.out (filled 0 0) (arr_new w1 (filled 0 0) rfl) ?_)
    generalize hZ : World.setRow _ w1.heap.size (pgC zs) = W
    have hA0 : Arr W w1.heap.size (apP zs P Z 0) := by rw [← hZ]; exact (arr_new w1 (filled 0 0) rfl).put HLz.out
    have gZ : Below w1.heap.size w1 W := by rw [← hZ]; exact setRow_below ((Below.refl _ _).alloc (Nat.le_refl _) _) (Nat.le_refl _) _
    have hX0 := hX.below gZ
    have g0 : Below w.heap.size w W := g.trans (gZ.mono g.size)
    clear hZ gZ hX g hrg hin
    generalize w1.heap.size = b at hA0 hXl
    by_cases h0 : n = 0
    · subst h0
      have hbl := hA0.lt
      have hy : BytesIn (w.heap.size + 1) W.heap.size W (some ⟨b, 0, none⟩) (apP zs P Z 0) := hA0.bytes (by omega) hbl
      have HLen : Hid ((apP zs P Z 0).length = 64) := hA0.len
      have hx2 := hX0.lt
      obtain ⟨c0, c1, f0, f1⟩ := hX0
      clear hA0
      go_rounds 1
      refine bodyPost_ret (v := .agg #[.int .i64 0, .slice (some ⟨b, 0, none⟩) 64 64]) (by simp [results, Try.results134, go_sem, c0, c1]) rfl ?_
      refine ⟨some ⟨b, 0, none⟩, 64, by rw [HB.out.1, HB.out.2, HLen.out], by go_grown, ?_⟩
      rw [HB.out.2]
      exact ((hy.setCell (by simp) _).setCell (by simp) _).mono (by omega) (by simp)
    obtain ⟨rb, off, rfl⟩ : ∃ b off, a = some ⟨b, off, none⟩ := by
      rcases HR.out with h1 | ⟨b, off, hb, _⟩
      · exact absurd h1 h0
      · exact ⟨b, off, hb⟩
    go_loopw [21] (fun i wr => ∃ k : Nat, k ≤ n ∧ i = .int .i64 k ∧ Below w.heap.size w wr ∧ Arr wr b (apP zs P Z k) ∧ BRes wr w.heap.size 0 (.slice none 0 0)) (fun i _ => n - (intOf i).toNat)
    case atStart => exact ⟨0, Nat.zero_le _, rfl, g0, hA0, hX0⟩
    case round =>
      obtain ⟨k, hk, rfl, g, hA, hX⟩ := hrel
      clear g0 hA0 hX0
      by_cases hlt : k < n
      · obtain ⟨e0, e1, e2⟩ := (HR.out.below g (Nat.le_refl _)).at_ k hlt
        have hkn : (k : Int) < (n : Int) := by omega
        obtain ⟨q0, q1, q2⟩ := HQ.out.2 k hlt
        obtain ⟨p, hpv⟩ : ∃ p : Nat, P k = (p : Int) := ⟨(P k).toNat, by omega⟩
        obtain ⟨m, hmv⟩ : ∃ m, m = (Z k).length := ⟨_, rfl⟩
        have HZ : Hid ((Z k).length = m) := hmv.symm
        have HE : Hid (apP zs P Z (k + 1) = splice (apP zs P Z k) p (Z k)) := by show _ = _; simp only [apP]; rw [hpv, Int.toNat_natCast]
        rw [hpv] at e0 q2
        rw [← hmv] at e1 q1 q2
        obtain ⟨sb, so, hAk⟩ : ∃ sb so, A k = some ⟨sb, so, none⟩ := by
          rcases e2 with h0 | ⟨sb, so, hb, _⟩
          · rw [h0] at hmv; simp at hmv; omega
          · exact ⟨sb, so, hb⟩
        rw [hAk] at e1 e2
        have hpm : p + m ≤ 64 := by omega
        have hdp : ¬ (64 = p) := by omega
        have i1 : (p : Int) ≤ 64 := by omega
        have hblt := hA.lt
        clear hAk hpv hmv q0 q2
        go_upto_region 8 with (fail)
        generalize hY : World.alloc wr _ = Y
        have s0 : Y.cell? ⟨wr.heap.size, 0, none⟩ = some (.int .i64 p) := by rw [← hY]; simp [go_sem]
        have s1 : Y.cell? ⟨wr.heap.size, 1, none⟩ = some (.slice (some ⟨sb, so, none⟩) m (C k)) := by rw [← hY]; simp [go_sem]
        have gY : Below wr.heap.size wr Y := by rw [← hY]; exact (Below.refl _ _).alloc (Nat.le_refl _) _
        have hA := hA.grown gY
        have hX := hX.below gY
        have e2 := e2.below gY (Nat.le_refl _)
        have g : Below w.heap.size w Y := g.trans (gY.mono g.size)
        clear hY gY e0 e1
        generalize wr.heap.size = y at s0 s1 hblt
        have hyb : b + 1 ≤ y := hblt
        refine wp_region_held_drew (S := fun V => V.cell? ⟨y, 0, none⟩ = some (.int .i64 p) ∧ V.cell? ⟨y, 1, none⟩ = some (.slice (some ⟨sb, so, none⟩) m (C k))) (by kernel_rfl) ⟨s0, s1⟩ (fun hHeld => ?_)
        have hAD := hA.grown (w' := Y.drew) (Below.refl _ _).drew
        have hrD := e2.below (w' := Y.drew) (Below.refl _ _).drew (Nat.le_refl _)
        have gD : Below w.heap.size w Y.drew := g.drew
        have hXD := hX.below (w' := Y.drew) (Below.refl _ _).drew
        generalize Y.drew = D at hHeld hAD hrD gD hXD ⊢
        clear s0 s1 e2 hA g hX
        refine wpAnyH_take (i := 0) (v := .pointer (some ⟨y, 0, none⟩)) rfl (by kernel_rfl) (by kernel_rfl) (by kernel_rfl) (fun _ _ _ h => h) (Or.inl ⟨by kernel_rfl, fun u hSw => by (try dsimp only at hSw); go_simp; try with_reducible rfl⟩) hHeld ?_
        try simp only [List.getElem_toArray]
        try simp only [List.getElem_cons_succ]
        try simp only [List.getElem_cons_zero]
        try simp only [Act.put]
        try simp only [List.setIfInBounds_toArray]
        try simp only [List.set]
        refine wpAnyH_take (i := 1) (v := .int .i64 p) rfl (by kernel_rfl) (by kernel_rfl) (by kernel_rfl) (fun _ _ _ h => h) (Or.inl ⟨by kernel_rfl, fun u hSw => by (try dsimp only at hSw); go_simp; try with_reducible rfl⟩) hHeld ?_
        try simp only [List.getElem_toArray]
        try simp only [List.getElem_cons_succ]
        try simp only [List.getElem_cons_zero]
        try simp only [Act.put]
        try simp only [List.setIfInBounds_toArray]
        try simp only [List.set]
        refine wpAnyH_take (i := 2) (v := .slice (some ⟨b, p, none⟩) (64 - p) (64 - p)) rfl (by kernel_rfl) (by kernel_rfl) (by kernel_rfl) (fun _ _ _ h => h) (Or.inl ⟨by kernel_rfl, fun u hSw => by (try dsimp only at hSw); go_simp; try with_reducible rfl⟩) hHeld ?_
        try simp only [List.getElem_toArray]
        try simp only [List.getElem_cons_succ]
        try simp only [List.getElem_cons_zero]
        try simp only [Act.put]
        try simp only [List.setIfInBounds_toArray]
        try simp only [List.set]
        refine wpAnyH_take (i := 3) (v := .pointer (some ⟨y, 1, none⟩)) rfl (by kernel_rfl) (by kernel_rfl) (by kernel_rfl) (fun _ _ _ h => h) (Or.inl ⟨by kernel_rfl, fun u hSw => by (try dsimp only at hSw); go_simp; try with_reducible rfl⟩) hHeld ?_
        try simp only [List.getElem_toArray]
        try simp only [List.getElem_cons_succ]
        try simp only [List.getElem_cons_zero]
        try simp only [Act.put]
        try simp only [List.setIfInBounds_toArray]
        try simp only [List.set]
        refine wpAnyH_take (i := 4) (v := .slice (some ⟨sb, so, none⟩) m (C k)) rfl (by kernel_rfl) (by kernel_rfl) (by kernel_rfl) (fun _ _ _ h => h) (Or.inl ⟨by kernel_rfl, fun u hSw => by (try dsimp only at hSw); go_simp; try with_reducible rfl⟩) hHeld ?_
        try simp only [List.getElem_toArray]
        try simp only [List.getElem_cons_succ]
        try simp only [List.getElem_cons_zero]
        try simp only [Act.put]
        try simp only [List.setIfInBounds_toArray]
        try simp only [List.set]
        refine wpAnyH_ready (rs := [5]) (by kernel_rfl) (by simp) ?_
        refine AllReadyH.cons rfl (fun K hK => ?_) AllReadyH.nil
        rw [if_pos (by kernel_rfl)]
        refine wp_copyArr _ _ rfl b p m (64 - p) (64 - p) ⟨sb, so, none⟩ (C k) rfl rfl _ (Z k) hAD HZ.out (by omega) (reads_src hrD) hpm ?_
        intro V hAV tV
        refine hK.out _ _ ⟨tV.cell hHeld.1 (.inr hyb), tV.cell hHeld.2 (.inr hyb)⟩ (fun hHeld => ?_)
        clear hK K
        try simp only [Act.put]
        try simp only [List.setIfInBounds_toArray]
        try simp only [List.set]
        refine wpAnyH_done (by kernel_rfl) ?_ _

        have HAV : Hid (Arr V b (apP zs P Z (k + 1))) := by show Arr _ _ _; rw [HE.out]; exact hAV
        have gV : Below w.heap.size w V := gD.trans (tV.toBelow gD.size (by omega))
        have hXV := hXD.turned tV (.inl hXl)
        clear hAV tV hHeld hAD hrD gD hXD
        go_wp2_with fail
        go_roundw
        case rel => exact ⟨k + 1, by omega, by go_num, gV, HAV.out, hXV⟩
        case measure => simp [intOf]; omega
      · have e : k = n := by omega
        subst e
        have hbl := hA.lt
        have hy : BytesIn (w.heap.size + 1) wr.heap.size wr (some ⟨b, 0, none⟩) (apP zs P Z k) := hA.bytes (by omega) hbl
        have HLen : Hid ((apP zs P Z k).length = 64) := hA.len
        have hx2 := hX.lt
        obtain ⟨c0, c1, f0, f1⟩ := hX
        clear hA
        go_wp2_with fail
        refine bodyPost_ret (v := .agg #[.int .i64 0, .slice (some ⟨b, 0, none⟩) 64 64]) (by simp [results, Try.results134, go_sem, c0, c1]) rfl ?_
        refine ⟨some ⟨b, 0, none⟩, 64, by rw [HB.out.1, HB.out.2, HLen.out], by go_grown, ?_⟩
        rw [HB.out.2]
        exact ((hy.setCell (by simp) _).setCell (by simp) _).mono (by omega) (by simp)
  · obtain ⟨q, hqq⟩ : ∃ q, q = apQ zs n P Z := ⟨_, rfl⟩
    have HB : Hid (apQ zs n P Z = q ∧ apB zs n P Z = []) := by refine ⟨hqq.symm, ?_⟩; unfold apB; rw [if_neg hq]
    have dq : (q != 0) = true := by rw [hqq]; simpa using hq
    rw [← hqq]
    clear hq hqq
    obtain ⟨c0, c1, f0, f1⟩ := hX
    go_wp2_with fail
    refine bodyPost_ret (v := .agg #[.int .i64 q, .slice none 0 0]) (by simp [results, Try.results134, go_sem, c0, c1]) rfl ?_
    exact ⟨none, 0, by rw [HB.out.1, HB.out.2]; rfl, by go_grown, by rw [HB.out.2]; exact .inl rfl⟩

end Go.Proofs.Yteebbaleejbodaa

/-
  Bytes copied and compared.
-/
namespace Go.Proofs.Yteebbaleejbodaa
open Go.RowKit
set_option linter.unusedVariables false

/-- The value v owns a row of bytes, in blocks from base on, laid as bytes. -/
def G5 (base : Nat) (w : World) (v : Value) (xs : List Int) : Prop := w.ownsRow base 5 1 v xs.length (xs.map (Value.int .u8))
/-- What a block of bytes may be laid as: bytes, or an array of them. -/
def Gt (t : TypeId) : Prop := t = 5 ∨ t = 239
/-- The value v owns a row of bytes, in blocks from base on. -/
def Gb (base : Nat) (w : World) (v : Value) (xs : List Int) : Prop := ∃ t, Gt t ∧ w.ownsRow base t 1 v xs.length (xs.map (Value.int .u8))

theorem G5.gb {base : Nat} {w : World} {v : Value} {xs : List Int} (h : G5 base w v xs) : Gb base w v xs := ⟨5, .inl rfl, h⟩
theorem Gb.kept {base : Nat} {w w' : World} {v : Value} {xs : List Int} (h : Gb base w v xs) {row : Option Nat} (hg : w.grownBy w' row) (hn : v.ownBlock = none ∨ v.ownBlock ≠ row) : Gb base w' v xs := by
  obtain ⟨t, ht, h⟩ := h
  exact ⟨t, ht, World.ownsRow.kept h hg hn⟩
theorem Gb.grown {base : Nat} {w w' : World} {v : Value} {xs : List Int} (h : Gb base w v xs) (hb : Below w.heap.size w w') : Gb base w' v xs :=
  h.kept (row := none) ⟨hb.os, hb.tape, hb.output, hb.size, fun k hk _ => hb.block k hk⟩ (by cases hv : v.ownBlock <;> simp)
theorem Gb.lt {base : Nat} {w : World} {v : Value} {xs : List Int} (h : Gb base w v xs) (g : Nat) (e : v.ownBlock = some g) : base ≤ g ∧ g < w.heap.size := by
  obtain ⟨t, ht, h⟩ := h
  exact World.ownsRow.lt h g e
theorem Gb.other {base : Nat} {w : World} {v : Value} {xs : List Int} (h : Gb base w v xs) {a : Addr} (hn : v.ownBlock ≠ some a.block) (u : Value) : Gb base (w.setCell a u) v xs := by
  obtain ⟨t, ht, h⟩ := h
  exact ⟨t, ht, ownsRow_setCell_other h hn u⟩
theorem Gb.base {base m : Nat} {w : World} {v : Value} {xs : List Int} (h : Gb base w v xs) (hm : m ≤ base) : Gb m w v xs := by
  obtain ⟨t, ht, h⟩ := h
  exact ⟨t, ht, ownsRow_base h hm⟩
theorem Gb.below {base : Nat} {w w' : World} {v : Value} {xs : List Int} (h : Gb base w v xs) (hb : Below w.heap.size w w') : Gb base w' v xs := h.grown hb

theorem news_at {w : World} {b o : Nat} {xs : List Int} (h : ∀ i, i < xs.length → w.cell? ⟨b, o + i, none⟩ = some (.int .u8 (xs.getD i 0))) : ∀ j u, (xs.map (Value.int .u8))[j]? = some u → w.cell? ((⟨b, o, none⟩ : Addr).add j) = some u := by
  intro j u hu
  have hj : j < xs.length := by
    have := (List.getElem?_eq_some_iff.1 hu).1
    simpa using this
  have ea : (⟨b, o, none⟩ : Addr).add j = ⟨b, o + j, none⟩ := by unfold Addr.add; split <;> simp_all
  rw [ea, h j hj]
  simp [List.getElem?_eq_getElem hj] at hu
  rw [← hu]
  simp [List.getD, hj]

theorem ones (xs : List Int) : ∀ u ∈ xs.map (Value.int .u8), u.oneCell' = true := by
  intro u hu
  rw [List.mem_map] at hu
  obtain ⟨z, _, rfl⟩ := hu
  rfl

theorem run_append_bytes (w : World) (base : Nat) (ty : TypeId) (v : Value) (us zs : List Int) (x : Option Addr) (c : Nat) (hown : G5 base w v us) (hr : Reads w x zs) (hl : us.length + zs.length ≤ 100000000) (hb : base ≤ w.heap.size) :
    ∃ v' w', (Builtin.append_ #[106, 106] ty #[v, .slice x zs.length c]).run Try.prog w = .ok v' w' ∧ G5 base w' v' (us ++ zs) ∧ w.grownBy w' v.ownBlock ∧ (v'.ownBlock = v.ownBlock ∨ v'.ownBlock = some w.heap.size) := by
  obtain ⟨i0, hi0, hz0, hz1, hz2⟩ := info5
  have fin : ∀ (a : Addr), x = some a → (∀ j u, (zs.map (Value.int .u8))[j]? = some u → w.cell? (a.add j) = some u) → ∃ v' w', (Builtin.append_ #[106, 106] ty #[v, .slice x zs.length c]).run Try.prog w = .ok v' w' ∧ G5 base w' v' (us ++ zs) ∧ w.grownBy w' v.ownBlock ∧ (v'.ownBlock = v.ownBlock ∨ v'.ownBlock = some w.heap.size) := fun a ha hc => by
    subst ha
    obtain ⟨v', w', h1, h2, h3, _, h5⟩ := run_append_own_at (P := Try.prog) w base 106 ty 5 i0 (.int .u8 0) 1 1 Try.underlying106 hi0 hz0 hz1 hz2 rfl (by decide) v us.length (us.map (Value.int .u8)) hown a zs.length c (zs.map (Value.int .u8)) (by simp) hc (ones _) (by unfold maxLen; omega) (by omega) hb
    exact ⟨v', w', h1, by unfold G5; rw [List.length_append, List.map_append]; exact h2, h3, h5⟩
  rcases hr with h | ⟨b, off, ha, hc⟩
  · subst h
    cases x with
    | some a => exact fin a rfl (fun j u h => by simp at h)
    | none => exact ⟨v, w, run_append_none_any w base 106 ty 5 i0 1 c Try.underlying106 hi0 v us.length _ hown, by rw [List.append_nil]; exact hown, ⟨rfl, rfl, rfl, Nat.le_refl _, fun _ _ _ => rfl⟩, .inl rfl⟩
  · exact fin ⟨b, off, none⟩ ha (news_at hc)

theorem wp_append_bytes (w : World) {o : Oper} {a : Act} {K : Act → World → Prop} {Q : Exit → Act → World → Prop} (s x : Operand)
    (ho : o.op = .call { callee := .builtin .append, args := #[s, x], argTypes := #[106, 106] }) (base : Nat) (v : Value) (us zs : List Int) (ax : Option Addr) (n c : Nat) (hs : a.eval s = v) (hx : a.eval x = .slice ax n c) (hn : zs.length = n)
    (hown : G5 base w v us) (hr : Reads w ax zs) (hl : us.length + zs.length ≤ 100000000) (hb : base ≤ w.heap.size)
    (h : ∀ v' w', G5 base w' v' (us ++ zs) → w.grownBy w' v.ownBlock → (v'.ownBlock = v.ownBlock ∨ v'.ownBlock = some w.heap.size) → K (a.put o.dst v') w') : o.wp Try.prog a w K Q := by
  subst hn
  obtain ⟨v', w', h1, h2, h3, h4⟩ := run_append_bytes w base o.type v us zs ax c hown hr hl hb
  exact Go.Lib.wp_append_run w s x 106 106 ho v _ hs hx v' w' h1 (h v' w' h2 h3 h4)

theorem wpList_append_bytes (w : World) {ops : Array Oper} {rest : List Oper} {o : Oper} {a : Act} {Q : Exit → Act → World → Prop} (hgd : o.guard = none) (s x : Operand)
    (ho : o.op = .call { callee := .builtin .append, args := #[s, x], argTypes := #[106, 106] }) (base : Nat) (v : Value) (us zs : List Int) (ax : Option Addr) (n c : Nat) (hs : a.eval s = v) (hx : a.eval x = .slice ax n c) (hn : zs.length = n)
    (hown : G5 base w v us) (hr : Reads w ax zs) (hl : us.length + zs.length ≤ 100000000) (hb : base ≤ w.heap.size)
    (h : ∀ v' w', G5 base w' v' (us ++ zs) → w.grownBy w' v.ownBlock → (v'.ownBlock = v.ownBlock ∨ v'.ownBlock = some w.heap.size) → wpList Try.prog ops Q rest (a.put o.dst v') w') : wpList Try.prog ops Q (o :: rest) a w :=
  wpList_plain hgd fun _ hK => wp_append_bytes w s x ho base v us zs ax n c hs hx hn hown hr hl hb (fun v' w' h1 h2 h3 => hK _ _ (h v' w' h1 h2 h3))

theorem Gb.shape {base : Nat} {w : World} {v : Value} {xs : List Int} (h : Gb base w v xs) : ∃ a c, v = .slice a xs.length c ∧ xs.length ≤ c ∧ c ≤ 9223372036854775807 ∧ BytesIn base w.heap.size w a xs ∧ (a = none → c = 0) := by
  have hml : maxLen = 9223372036854775807 := by decide
  obtain ⟨t, ht, h'⟩ := h
  rcases h'.2 with ⟨e, h0⟩ | ⟨g, cap, cur, e, h1, h2, h3, h4, _⟩
  · exact ⟨none, 0, by rw [e, h0], by omega, by omega, .inl (List.eq_nil_of_length_eq_zero h0), fun _ => rfl⟩
  · refine ⟨_, cap, e, h3, by omega, ?_, fun h => by cases h⟩
    rw [e] at h'
    exact bytesIn_owns h'

theorem Gb.nil (base : Nat) (w : World) : Gb base w (.slice none 0 0) [] := ⟨5, .inl rfl, World.ownsRow_nil _ _ _ _⟩
theorem G5.lit (base : Nat) (w : World) (h : base ≤ w.heap.size) : G5 base (w.alloc (.cells #[] 5)) (.slice (some ⟨w.heap.size, 0, none⟩) 0 0) [] := World.ownsRow_lit (base := base) (e := 5) (size := 1) w #[] 0 h (by unfold maxLen; omega) rfl

set_option maxHeartbeats 400000 in
theorem l2Copy_gen (x : Option Addr) (zs : List Int) (n c : Nat) (w : World) (hn : zs.length = n) (hm : n ≤ 10000000) (hr : Reads w x zs) :
    Calls Try.prog 122 #[.slice x n c] w fun e w' => ∃ v, e = .returned v ∧ Below w.heap.size w w' ∧ Gb w.heap.size w' v zs := by
  have HR : Hid (Reads w x zs) := hr
  have HN : Hid (zs.length = n) := hn
  clear hr hn
  have g0 : Below w.heap.size w (w.alloc (.cells #[] 5)) := by go_grown
  have hG := G5.lit w.heap.size w (Nat.le_refl _)
  go_enter Try.func122, Try.ntmps122
  go_wp2_with (at_builtin; refine wpList_append_bytes _ rfl _ _ rfl w.heap.size _ [] zs x n c rfl rfl HN.out hG (HR.out.below g0 (Nat.le_refl _)) ?n1 ?n2 ?_)
  case n1 => rw [HN.out]; simp; omega
  case n2 => simp
  intro v' w6 hown' hgrow hat
  have g6 : Below w.heap.size w w6 := Below.grown g0 hgrow (by simp) (fun q e => by simp [Value.ownBlock] at e; omega)
  clear hgrow hG g0 hat
  go_wp2_with fail
  go_ret
  exact ⟨v', rfl, g6, G5.gb hown'⟩

set_option maxHeartbeats 400000 in
theorem clone_gen (x : Option Addr) (zs : List Int) (n c : Nat) (w : World) (hn : zs.length = n) (hm : n ≤ 10000000) (hr : Reads w x zs) (hxc : x = none → c = 0) :
    Calls Try.prog 123 #[.slice x n c] w fun e w' => ∃ v, e = .returned v ∧ Below w.heap.size w w' ∧ Gb w.heap.size w' v zs := by
  have HR : Hid (Reads w x zs) := hr
  have HN : Hid (zs.length = n) := hn
  cases x with
  | none =>
    have hz : zs = [] := by
      rcases hr with h | ⟨_, _, h, _⟩
      · exact h
      · cases h
    subst hz
    have hn0 : n = 0 := by simpa using hn.symm
    have hc0 := hxc rfl
    subst hn0 hc0
    have hEq : ∀ W : World, (binOp .eql 106 (.slice none 0 0) (.slice none 0 0)).run Try.prog W = .ok (.bool true) W := fun W => by kernel_rfl
    clear hr hn HR HN
    go_enter Try.func123, Try.ntmps123
    go_wp2_with fail
    go_ret
    exact ⟨_, rfl, Below.refl _ _, Gb.nil _ _⟩
  | some a =>
    clear hr hn
    have g0 : Below w.heap.size w (w.alloc (.cells #[] 5)) := by go_grown
    have hG := G5.lit w.heap.size w (Nat.le_refl _)
    have hEq : ∀ W : World, (binOp .eql 106 (.slice (some a) n c) (.slice none 0 0)).run Try.prog W = .ok (.bool false) W := fun W => by kernel_rfl
    go_enter Try.func123, Try.ntmps123
    go_wp2_with (at_builtin; refine wpList_append_bytes _ rfl _ _ rfl w.heap.size _ [] zs (some a) n c rfl rfl HN.out hG (HR.out.below g0 (Nat.le_refl _)) ?n1 ?n2 ?_)
    case n1 => rw [HN.out]; simp; omega
    case n2 => simp
    intro v' w6 hown' hgrow hat
    have g6 : Below w.heap.size w w6 := Below.grown g0 hgrow (by simp) (fun q e => by simp [Value.ownBlock] at e; omega)
    clear hgrow hG g0 hat
    go_wp2_with fail
    go_ret
    exact ⟨v', rfl, g6, G5.gb hown'⟩


theorem strOf_inj : ∀ (xs ys : List Int), (∀ z ∈ xs, 0 ≤ z ∧ z ≤ 255) → (∀ z ∈ ys, 0 ≤ z ∧ z ≤ 255) → (xs.map fun n => UInt8.ofNat n.toNat) = (ys.map fun n => UInt8.ofNat n.toNat) → xs = ys
  | [], [], _, _, _ => rfl
  | [], _ :: _, _, _, h => by simp at h
  | _ :: _, [], _, _, h => by simp at h
  | x :: xs, y :: ys, hx, hy, h => by
    simp only [List.map_cons, List.cons.injEq] at h
    have h1 := hx x (by simp)
    have h2 := hy y (by simp)
    have e : x = y := by
      have := congrArg UInt8.toNat h.1
      simp only [UInt8.toNat_ofNat'] at this
      omega
    rw [e, strOf_inj xs ys (fun z hz => hx z (by simp [hz])) (fun z hz => hy z (by simp [hz])) h.2]

theorem convert_none (w : World) (a : Option Addr) (c : Nat) : (convert 106 9 (.slice a 0 c)).run Try.prog w = .ok (.string (strOfNums [])) w := by
  rw [run_convert_bytes_string w 106 9 5 a 0 c Try.underlying106 Try.underlying5 Try.underlying9]
  cases a with
  | none => simp [Conv.bytesToString]; rfl
  | some p =>
    have hl : (loadCells p 0).run Try.prog w = .ok (([] : List Int).map (Value.int .u8)).toArray w := run_loadCells_list (P := Try.prog) w p [] (fun j v hj => by simp at hj)
    rw [run_bytesToString w p 0 c [] hl]
    rfl

theorem convert_any (w : World) (a : Option Addr) (n c : Nat) (zs : List Int) (hn : zs.length = n) (h : Reads w a zs) : (convert 106 9 (.slice a n c)).run Try.prog w = .ok (.string (strOfNums zs)) w := by
  by_cases h0 : zs = []
  · subst h0
    simp at hn
    subst hn
    exact convert_none w a c
  · rcases h with h | ⟨b, off, rfl, hc⟩
    · exact absurd h h0
    · exact run_convert_bytes_arg w 106 5 Try.underlying106 Try.underlying5 b off n c zs hn (fun i hi => hc i (by omega)) 9 Try.underlying9

end Go.Proofs.Yteebbaleejbodaa
