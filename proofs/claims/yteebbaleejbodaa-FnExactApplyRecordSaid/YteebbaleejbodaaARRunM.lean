/-
  Runs marked and looked through: markRunS, heldRunS; RunsResult.
-/
import Derived.Test.YteebbaleejbodaaARRunC
import Derived.Test.YteebbaleejbodaaARHbs
import Derived.Test.YteebbaleejbodaaAREdr
import Derived.Deep.SlicePairs
import Derived.OpenShut
import Derived.ProofKit
import Derived.Test.YteebbaleejbodaaARLawA
import Derived.Test.YteebbaleejbodaaARRed

namespace Go.Proofs.Yteebbaleejbodaa
open Go.RowKit
set_option linter.unusedVariables false

section
variable {lo hi b n : Nat} {w w' : World} {P P' : Nat → Int} {A : Nat → Option Addr} {C : Nat → Nat} {Z Z' : Nat → List Int} {F : Nat → Nat}

end

set_option maxHeartbeats 1000000 in
theorem markRunR_own (b n c : Nat) (lo hi : Nat) (P : Nat → Int) (A : Nat → Option Addr) (C : Nat → Nat) (Z : Nat → List Int) (F : Nat → Nat) (k : Int) (w : World) (hm : n + took Z n ≤ 1048576) (hk0 : 0 ≤ k) (hk1 : k ≤ 2000000000000) (h : Own lo hi w b n P A C Z F) :
    Calls Try.prog 85 #[.slice (some ⟨b, 0, none⟩) n c, .int .i64 k] w fun e w' => e = .returned (.int .i64 (mk Z k n)) ∧ Turned lo hi w w' ∧ Own lo hi w' b n (mk Z k) A C (mZ Z k) F := by
  have hzl : ∀ i, i < n → (Z i).length ≤ 140737488351232 := fun i hi => by have := took_one Z i n hi; omega
  have hmk : ∀ i, i ≤ n → 0 ≤ mk Z k i ∧ mk Z k i ≤ 4000000000000 := fun i hi => by have := took_mono Z i n hi; unfold mk; omega
  go_enter Try.func85, Try.ntmps85
  go_wp2_with fail
  go_loopw [5, 1] (fun i kk wr => ∃ j : Nat, j ≤ n ∧ i = .int .i64 j ∧ kk = .int .i64 (mk Z k j) ∧ Turned lo hi w wr ∧ Own lo hi wr b n (fun i => if i < j then mk Z k i else P i) A C (fun i => if i < j then mZ Z k i else Z i) F) (fun i _ _ => n - (intOf i).toNat)
  case atStart => exact ⟨0, Nat.zero_le _, rfl, by simp [mk, took], Turned.refl _ _ _, h.congr (fun i _ => by simp) (fun i _ => by simp)⟩
  case round =>
    obtain ⟨j, hj, rfl, rfl, ht, hO⟩ := hrel
    clear h
    by_cases hlt : j < n
    · have hjn : (j : Int) < (n : Int) := by omega
      obtain ⟨kk, hkk⟩ : ∃ kk, kk = mk Z k j := ⟨_, rfl⟩
      have hb1 := hmk j (by omega)
      rw [← hkk] at hb1 ⊢
      have x0 := hO.c0 j hlt
      have y0 := hO.f0 j hlt
      have x1 := hO.c1 j hlt
      simp only [Nat.lt_irrefl, if_false] at x0 x1
      have hO1 := hO.setAt hlt kk
      have ht1 := ht.setCell (p := ⟨b, j * 2, none⟩) hO.l0 hO.h0 (.int .i64 kk)
      obtain ⟨hb1, hb2⟩ := hb1
      have HK : Hid (kk = mk Z k j) := hkk
      clear hkk
      go_upto_region 5 with (fail)
      have x2 := hO1.c1 j hlt
      simp only [Nat.lt_irrefl, if_false] at x2
      clear x0 y0 x1 hO ht
      generalize wr.setCell ⟨b, j * 2, none⟩ (.int .i64 kk) = V at hO1 ht1 x2 ⊢
      have hbz := hO1.by' j hlt
      simp only [Nat.lt_irrefl, if_false] at hbz
      by_cases hne : Z j = []
      · have hl0 : (Z j).length = 0 := by rw [hne]; rfl
        rw [hl0] at x2
        have hbz0 : BytesIn 0 0 V (A j) [] := .inl rfl
        go_wp2_with fail
        refine (markByteS_any (A j) 0 0 [] 0 (C j) (kk + 1) _ rfl (by omega) (by omega) (by omega) hbz0).mono ?_
        rintro e w2 ⟨rfl, t2, _⟩
        have hO2 := hO1.turned t2 (.inr (Nat.zero_le _))
        have ht2 : Turned lo hi w w2 := ht1.trans ⟨t2.os, t2.tape, t2.output, t2.size, fun i h1 h2 => t2.block i h1 (by omega)⟩
        have HN : Hid (mk Z k (j + 1) = kk + 1 + ((0 : Nat) : Int)) := by show _ = _; rw [mk_succ, hl0, ← HK.out]
        clear hO1 ht1 t2 x2 hbz
        go_wp2_with fail
        go_roundw
        case rel =>
          refine ⟨j + 1, by omega, by go_num, by rw [HN.out]; simp, ht2, hO2.congr (fun i hi => ?_) (fun i hi => ?_)⟩
          · by_cases e : i = j
            · subst e; simp [HK.out]
            · simp only [if_neg e]
              by_cases e2 : i < j
              · rw [if_pos e2, if_pos (by omega)]
              · rw [if_neg e2, if_neg (by omega)]
          · by_cases e : i = j
            · subst e; simp [mZ, hne, marked]
            · by_cases e2 : i < j
              · rw [if_pos e2, if_pos (by omega)]
              · rw [if_neg e2, if_neg (by omega)]
        case measure => simp [intOf]; omega
      · have hzj := hzl j hlt
        go_wp2_with fail
        refine (markByteS_any (A j) _ _ (Z j) (Z j).length (C j) (kk + 1) _ rfl hzj (by omega) (by omega) hbz).mono ?_
        rintro e w2 ⟨rfl, t2, hy2⟩
        have hO2 := hO1.setBytes hlt (by simp only [Nat.lt_irrefl, if_false]; exact hne) t2 (ys := mZ Z k j) (by simp only [Nat.lt_irrefl, if_false]; exact mZ_len Z k j) (by unfold mZ; rw [← HK.out]; exact hy2)
        have hfj := hO1.fr j hlt (by simp only [Nat.lt_irrefl, if_false]; exact hne)
        have ht2 : Turned lo hi w w2 := ht1.trans ⟨t2.os, t2.tape, t2.output, t2.size, fun i h1 h2 => t2.block i h1 (by omega)⟩
        have HN : Hid (mk Z k (j + 1) = kk + 1 + ((Z j).length : Int)) := by show _ = _; rw [mk_succ, ← HK.out]
        clear hO1 ht1 t2 x2 hbz hy2 hfj
        go_wp2_with fail
        go_roundw
        case rel =>
          refine ⟨j + 1, by omega, by go_num, by rw [HN.out], ht2, hO2.congr (fun i hi => ?_) (fun i hi => ?_)⟩
          · by_cases e : i = j
            · subst e; simp [HK.out]
            · simp only [if_neg e]
              by_cases e2 : i < j
              · rw [if_pos e2, if_pos (by omega)]
              · rw [if_neg e2, if_neg (by omega)]
          · by_cases e : i = j
            · subst e; simp
            · simp only [if_neg e]
              by_cases e2 : i < j
              · rw [if_pos e2, if_pos (by omega)]
              · rw [if_neg e2, if_neg (by omega)]
        case measure => simp [intOf]; omega
    · have e : j = n := by omega
      subst e
      go_wp2_with fail
      go_ret
      exact ⟨rfl, ht, hO.congr (fun i hi => by rw [if_pos hi]) (fun i hi => by rw [if_pos hi])⟩

end Go.Proofs.Yteebbaleejbodaa

/-
  What came in, opened: bytes and runs.
-/
namespace Go.Proofs.Yteebbaleejbodaa
open Go.ChangeShapes Go.WideShapes Go.RowKit
set_option linter.unusedVariables false

/-- Runs that came in: what they read as, up to the length. -/
structure IsRuns (w : World) (a : Option Addr) (len : Nat) (P : Nat → Int) (A : Nat → Option Addr) (C : Nat → Nat) (Z : Nat → List Int) : Prop where
  rd : RunsRead w a len P A C Z
  ln : len ≤ 9223372036854775807
  zl : ∀ i, i < len → (Z i).length ≤ 9223372036854775807
  zb : ∀ i, i < len → ∀ z ∈ Z i, 0 ≤ z ∧ z ≤ 255
  pw : ∀ i, i < len → (Lit.int .i64 (P i)).wf = true

theorem open_runs {H : Type} {enc : TypeId × Value → H} {W : World} {base : Nat} {held : Bool} {fuel : Nat} {a : Option Addr} {len cap : Nat} {x : DataW H × List MemPlace}
    (h : DataW.trod enc Try.prog W base (fun _ => true) held fuel 56 [.slice a len cap] = some x) : ∃ P A C Z, IsRuns W a len P A C Z := by
  rcases Go.Deep.open_slice_pairs Try.underlying56 Try.underlying175 (by kernel_rfl) rfl rfl (by kernel_rfl) (by kernel_rfl) h with ⟨hcs, _⟩ | ⟨y, l, c, m, n, V0, V1, D0, D1, P0, P1, hcs, hb, hl, hm, hmm, _, hcell⟩
  · simp only [List.cons.injEq, Value.slice.injEq, and_true] at hcs
    obtain ⟨rfl, rfl, rfl⟩ := hcs
    exact ⟨fun _ => 0, fun _ => none, fun _ => 0, fun _ => [], .inl rfl, by omega, fun i hi => by omega, fun i hi => by omega, fun i hi => by omega⟩
  · simp only [List.cons.injEq, Value.slice.injEq, and_true] at hcs
    obtain ⟨rfl, rfl, rfl⟩ := hcs
    simp only [if_true] at hmm
    subst hmm
    have each : ∀ i, i < len → ∃ q : Int × Option Addr × Nat × List Int, V0 i = .int .i64 q.1 ∧ (Lit.int .i64 q.1).wf = true ∧ V1 i = .slice q.2.1 q.2.2.2.length q.2.2.1 ∧ Reads W q.2.1 q.2.2.2 ∧ q.2.2.2.length ≤ 9223372036854775807 ∧ ∀ z ∈ q.2.2.2, 0 ≤ z ∧ z ≤ 255 := by
      intro i hi
      obtain ⟨_, _, t0, t1⟩ := hcell i (by omega)
      obtain ⟨p, e0, _, hp⟩ := DataW.trod_int Try.underlying2 t0
      simp only [List.cons.injEq, and_true] at e0
      rcases open_ints Try.underlying106 Try.underlying5 (by kernel_rfl) t1 with ⟨hcs, _⟩ | ⟨u, l', c', zs, hcs, _, hl', hm', hz, _, hc', hwz⟩
      · simp only [List.cons.injEq, and_true] at hcs
        exact ⟨(p, none, 0, []), e0, hp, hcs, .inl rfl, by simp, fun z hz => by simp at hz⟩
      · simp only [List.cons.injEq, and_true] at hcs
        have hrow : IsRow .u8 W (some u) l' c' zs := .inr ⟨u, rfl, hl', hm', by simpa using hz, hc', hwz⟩
        obtain ⟨h1, _, h3, h4⟩ := isRow_reads hrow
        have hml : maxLen = 9223372036854775807 := by decide
        exact ⟨(p, some u, c', zs.take l'), e0, hp, by rw [hcs]; simp only [h1], h3, by simp only [h1]; omega, h4⟩
    obtain ⟨q, hq⟩ := Go.Deep.choose_lt each
    refine ⟨fun i => (q i).1, fun i => (q i).2.1, fun i => (q i).2.2.1, fun i => (q i).2.2.2, ?_, ?_, fun i hi => (hq i hi).2.2.2.2.1, fun i hi => (hq i hi).2.2.2.2.2, fun i hi => (hq i hi).2.1⟩
    · by_cases h0 : len = 0
      · exact .inl h0
      · obtain ⟨b, off, spot⟩ := y
        have hc0 := (hcell 0 (by omega)).1
        have hspot : spot = none := by simpa [Addr.add] using World.cell?_spot hc0
        subst hspot
        have ea : ∀ i, (⟨b, off, none⟩ : Addr).add i = ⟨b, off + i, none⟩ := by intro i; unfold Addr.add; split <;> simp_all
        refine .inr ⟨b, off, rfl, fun i hi => ?_⟩
        obtain ⟨c0, c1, _, _⟩ := hcell i (by omega)
        obtain ⟨q0, _, q1, q2, _⟩ := hq i hi
        rw [ea] at c0 c1
        exact ⟨by rw [c0, q0], by rw [← q1, ← c1]; rfl, q2⟩
    · have hml : maxLen = 9223372036854775807 := by decide
      omega

end Go.Proofs.Yteebbaleejbodaa

/-
  What came in, opened: runs that stand in a struct.
-/
namespace Go.Proofs.Yteebbaleejbodaa
open Go.ChangeShapes Go.WideShapes Go.RowKit

theorem open_runs_any {H : Type} {enc : TypeId × Value → H} {W : World} {base : Nat} {held : Bool} {fuel : Nat} {cs : List Value} {x : DataW H × List MemPlace}
    (h : DataW.trod enc Try.prog W base (fun _ => true) held fuel 56 cs = some x) : ∃ a len cap P A C Z, cs = [.slice a len cap] ∧ IsRuns W a len P A C Z := by
  have hk := h
  rcases Go.Deep.open_slice_pairs Try.underlying56 Try.underlying175 (by kernel_rfl) rfl rfl (by kernel_rfl) (by kernel_rfl) h with ⟨hcs, _⟩ | ⟨y, l, c, m, n, V0, V1, D0, D1, P0, P1, hcs, _⟩
  · subst hcs
    obtain ⟨P, A, C, Z, hr⟩ := open_runs hk
    exact ⟨_, _, _, P, A, C, Z, rfl, hr⟩
  · subst hcs
    obtain ⟨P, A, C, Z, hr⟩ := open_runs hk
    exact ⟨_, _, _, P, A, C, Z, rfl, hr⟩

end Go.Proofs.Yteebbaleejbodaa

/-
  Records in memory: szRecord, toRecord, eqRecord, markRecord, heldRecord; the law FnExactRecordFault.
-/
namespace Go.Proofs.Yteebbaleejbodaa
open Go.RowKit
set_option linter.unusedVariables false

set_option maxHeartbeats 400000 in
theorem szRecord_any (k tx pg : Int) (a : Option Addr) (n c : Nat) (P : Nat → Int) (A : Nat → Option Addr) (C : Nat → Nat) (Z : Nat → List Int) (w : World) (hm : n ≤ 9223372036854775807) (hz : ∀ i, i < n → (Z i).length ≤ 9223372036854775807) (hr : RunsRead w a n P A C Z) :
    Calls Try.prog 31 #[.agg #[.int .i64 k, .int .i64 tx, .int .i64 pg, .slice a n c], .int .i64 1048576] w fun e w' => (∃ r : Int, e = .returned (.int .i64 r) ∧ (0 ≤ r → n + took Z n ≤ 1048576)) ∧ Below w.heap.size w w' := by
  have HR : Hid (RunsRead w a n P A C Z) := hr
  have HZ : Hid (∀ i, i < n → (Z i).length ≤ 9223372036854775807) := hz
  clear hr hz
  go_enter Try.func31, Try.ntmps31
  go_wp2_with fail
  refine (szRunS_any a n c P A C Z _ hm HZ.out (HR.out.below (by go_grown) (Nat.le_refl _))).mono ?_
  rintro e w' ⟨⟨r, rfl, hl⟩, hb⟩
  have g : Below w.heap.size w w' := Below.trans (by go_grown) (hb.mono (by simp))
  have HL : Hid (0 ≤ r → n + took Z n ≤ 1048576) := hl
  clear hb hl
  by_cases h0 : r < 0
  · go_wp2_with fail
    go_ret
    exact ⟨⟨-1, rfl, by omega⟩, g⟩
  · have h0 : ¬ (r < 0) := h0
    go_wp2_with fail
    go_ret
    exact ⟨⟨r, rfl, HL.out⟩, g⟩

set_option maxHeartbeats 1000000 in
theorem toRecord_any (k tx pg : Int) (a : Option Addr) (n c : Nat) (P : Nat → Int) (A : Nat → Option Addr) (C : Nat → Nat) (Z : Nat → List Int) (w : World) (hm : n + took Z n ≤ 1048576) (hr : RunsRead w a n P A C Z) :
    Calls Try.prog 33 #[.agg #[.int .i64 k, .int .i64 tx, .int .i64 pg, .slice a n c]] w fun e w' => ∃ b A' F', e = .returned (.agg #[.int .i64 k, .int .i64 tx, .int .i64 pg, .slice (some ⟨b, 0, none⟩) n n]) ∧ Below w.heap.size w w' ∧ Own w.heap.size w'.heap.size w' b n P A' (fun i => (Z i).length) Z F' := by
  have HR : Hid (RunsRead w a n P A C Z) := hr
  clear hr
  go_enter Try.func33, Try.ntmps33
  go_upto_region 5 with (fail)
  generalize hY : World.alloc _ _ = Y
  have g : Below w.heap.size w Y := by rw [← hY]; go_grown
  have hs : Y.heap.size = w.heap.size + 3 := by rw [← hY]; simp
  have x3 : Y.cell? ⟨w.heap.size, 3, none⟩ = some (.slice a n c) := by rw [← hY]; simp [go_sem]
  have y0 : Y.cell? ⟨w.heap.size + 1, 0, none⟩ = some (.int .i64 0) := by rw [← hY]; simp [go_sem]
  have y1 : Y.cell? ⟨w.heap.size + 1, 1, none⟩ = some (.int .i64 0) := by rw [← hY]; simp [go_sem]
  have y2 : Y.cell? ⟨w.heap.size + 1, 2, none⟩ = some (.int .i64 0) := by rw [← hY]; simp [go_sem]
  have y3 : Y.cell? ⟨w.heap.size + 1, 3, none⟩ = some (.slice none 0 0) := by rw [← hY]; simp [go_sem]
  have z0 : Y.cell? ⟨w.heap.size + 1 + 1, 0, none⟩ = some (.int .i64 k) := by rw [← hY]; simp [go_sem]
  have z1 : Y.cell? ⟨w.heap.size + 1 + 1, 1, none⟩ = some (.int .i64 tx) := by rw [← hY]; simp [go_sem]
  have z2 : Y.cell? ⟨w.heap.size + 1 + 1, 2, none⟩ = some (.int .i64 pg) := by rw [← hY]; simp [go_sem]
  have z3 : Y.cell? ⟨w.heap.size + 1 + 1, 3, none⟩ = some (.slice none 0 0) := by rw [← hY]; simp [go_sem]
  have v0 : Y.frozen? ⟨w.heap.size + 1, 0, none⟩ = false := by rw [← hY]; simp [go_sem]
  have v1 : Y.frozen? ⟨w.heap.size + 1, 1, none⟩ = false := by rw [← hY]; simp [go_sem]
  have v2 : Y.frozen? ⟨w.heap.size + 1, 2, none⟩ = false := by rw [← hY]; simp [go_sem]
  have v3 : Y.frozen? ⟨w.heap.size + 1, 3, none⟩ = false := by rw [← hY]; simp [go_sem]
  have u3 : Y.frozen? ⟨w.heap.size + 1 + 1, 3, none⟩ = false := by rw [← hY]; simp [go_sem]
  clear hY
  have hr := HR.out.below g (Nat.le_refl _)
  go_wp2_with fail
  refine (toRunS_any a n c P A C Z _ hm hr).mono ?_
  rintro e w' ⟨rfl, g', A', F', ho⟩
  rw [hs] at ho ⊢
  have hs' := g'.size
  have g2 : Below w.heap.size w w' := g.trans (g'.mono g.size)
  have y0 := (g'.cell (p := ⟨w.heap.size + 1, 0, none⟩) (by simp only; omega)).trans y0
  have y1 := (g'.cell (p := ⟨w.heap.size + 1, 1, none⟩) (by simp only; omega)).trans y1
  have y2 := (g'.cell (p := ⟨w.heap.size + 1, 2, none⟩) (by simp only; omega)).trans y2
  have y3 := (g'.cell (p := ⟨w.heap.size + 1, 3, none⟩) (by simp only; omega)).trans y3
  have z0 := (g'.cell (p := ⟨w.heap.size + 1 + 1, 0, none⟩) (by simp only; omega)).trans z0
  have z1 := (g'.cell (p := ⟨w.heap.size + 1 + 1, 1, none⟩) (by simp only; omega)).trans z1
  have z2 := (g'.cell (p := ⟨w.heap.size + 1 + 1, 2, none⟩) (by simp only; omega)).trans z2
  have z3 := (g'.cell (p := ⟨w.heap.size + 1 + 1, 3, none⟩) (by simp only; omega)).trans z3
  have v0 := (g'.frozen (p := ⟨w.heap.size + 1, 0, none⟩) (by simp only; omega)).trans v0
  have v1 := (g'.frozen (p := ⟨w.heap.size + 1, 1, none⟩) (by simp only; omega)).trans v1
  have v2 := (g'.frozen (p := ⟨w.heap.size + 1, 2, none⟩) (by simp only; omega)).trans v2
  have v3 := (g'.frozen (p := ⟨w.heap.size + 1, 3, none⟩) (by simp only; omega)).trans v3
  have u3 := (g'.frozen (p := ⟨w.heap.size + 1 + 1, 3, none⟩) (by simp only; omega)).trans u3
  have HO : Hid (Own (w.heap.size + 3) w'.heap.size w' (w.heap.size + 3) n P A' (fun i => (Z i).length) Z F') := ho
  clear g g' hs hs' x3 ho hr
  go_wp2_with fail
  refine bodyPost_ret (v := .agg #[.int .i64 k, .int .i64 tx, .int .i64 pg, .slice (some ⟨w.heap.size + 3, 0, none⟩) n n]) (by simp [results, Try.results33, go_sem, *]) rfl ?_
  have hsz : w.heap.size + 3 ≤ w'.heap.size := by have := HO.out.h0; omega
  refine ⟨_, A', F', rfl, by go_grown, ?_⟩
  have T : Turned (w.heap.size + 1) (w.heap.size + 3) w' _ := (((((Turned.refl _ _ w').setCell (p := ⟨w.heap.size + 1 + 1, 3, none⟩) (by simp) (by simp) (.slice (some ⟨w.heap.size + 3, 0, none⟩) n n)).setCell (p := ⟨w.heap.size + 1, 0, none⟩) (by simp) (by simp) (.int .i64 k)).setCell (p := ⟨w.heap.size + 1, 1, none⟩) (by simp) (by simp) (.int .i64 tx)).setCell (p := ⟨w.heap.size + 1, 2, none⟩) (by simp) (by simp) (.int .i64 pg)).setCell (p := ⟨w.heap.size + 1, 3, none⟩) (by simp) (by simp) (.slice (some ⟨w.heap.size + 3, 0, none⟩) n n)
  exact (HO.out.turned T (.inr (Nat.le_refl _))).mono (by omega) (by simp)

set_option maxHeartbeats 1000000 in
theorem eqRecord_same (k tx pg : Int) (x y n c d : Nat) (P : Nat → Int) (A B : Nat → Option Addr) (C D : Nat → Nat) (Z : Nat → List Int) (F G : Nat → Nat) (la ua lb ub : Nat) (w : World) (hm : n + took Z n ≤ 1048576) (hx : Own la ua w x n P A C Z F) (hy : Own lb ub w y n P B D Z G) :
    Calls Try.prog 36 #[.agg #[.int .i64 k, .int .i64 tx, .int .i64 pg, .slice (some ⟨x, 0, none⟩) n c], .agg #[.int .i64 k, .int .i64 tx, .int .i64 pg, .slice (some ⟨y, 0, none⟩) n d]] w fun e w' => e = .returned (.bool true) ∧ Below w.heap.size w w' := by
  have HX : Hid (Own la ua w x n P A C Z F) := hx
  have HY : Hid (Own lb ub w y n P B D Z G) := hy
  clear hx hy
  go_enter Try.func36, Try.ntmps36
  go_wp2_with fail
  refine (eqRunRS_same x y n c d P A B C D Z F G la ua lb ub _ hm (HX.out.below (by go_grown)) (HY.out.below (by go_grown))).mono ?_
  rintro e w' ⟨rfl, hb⟩
  have g : Below w.heap.size w w' := Below.trans (by go_grown) (hb.mono (by simp; omega))
  clear hb
  go_wp2_with fail
  go_ret
  exact ⟨rfl, g⟩

set_option maxHeartbeats 1000000 in
theorem markRecord_own (q tx pg : Int) (b n c : Nat) (lo hi : Nat) (P : Nat → Int) (A : Nat → Option Addr) (C : Nat → Nat) (Z : Nat → List Int) (F : Nat → Nat) (k : Int) (w : World) (hm : n + took Z n ≤ 1048576) (hk0 : 0 ≤ k) (hk1 : k ≤ 2000000000000) (h : Own lo hi w b n P A C Z F) :
    Calls Try.prog 37 #[.agg #[.int .i64 q, .int .i64 tx, .int .i64 pg, .slice (some ⟨b, 0, none⟩) n c], .int .i64 k] w fun e w' => e = .returned (.int .i64 (mk Z k n)) ∧ Turned lo hi w w' ∧ Own lo hi w' b n (mk Z k) A C (mZ Z k) F := by
  have HX : Hid (Own lo hi w b n P A C Z F) := h
  clear h
  go_enter Try.func37, Try.ntmps37
  go_wp2_with fail
  refine (markRunR_own b n c lo hi P A C Z F k _ hm hk0 hk1 (HX.out.below (by go_grown))).mono ?_
  rintro e w' ⟨rfl, ht, ho⟩
  have h1 : Turned lo hi w w' := Turned.trans (Turned.ofBelow (by go_grown)) ht
  clear ht
  go_wp2_with fail
  go_ret
  exact ⟨rfl, h1, ho⟩

end Go.Proofs.Yteebbaleejbodaa
