/-
  What a record without a fault keeps.
-/
import Derived.Test.YtcjkjenebnodbaaDoorSRed
import Derived.Test.YtcjkjenebnodbaaDoorSBy
import Derived.Deep.SlicePairs
import Derived.OpenShut
import Derived.ProofKit

namespace Go.Proofs.YtcjkjenebnodbaaDoor
open Go.RowKit
set_option linter.unusedVariables false

theorem rfFrom_all {P : Nat → Int} {Z : Nat → List Int} : ∀ m j, rfFrom P Z m j = 0 → ∀ i, j ≤ i → i < j + m → runQ (P i) (Z i).length (lst P Z i) = 0
  | 0, j, _, i, h1, h2 => by omega
  | m + 1, j, h, i, h1, h2 => by
    simp only [rfFrom] at h
    split at h
    · rename_i h0
      by_cases e : i = j
      · rw [e]; exact h0
      · exact rfFrom_all m (j + 1) h i (by omega) (by omega)
    · rename_i h0
      exact absurd h h0

/-- What runs without a fault keep. -/
theorem rf_ok {n : Nat} {P : Nat → Int} {Z : Nat → List Int} (h : rfQ n P Z = 0) : n ≤ 32 ∧ (∀ i, i < n → 0 ≤ P i ∧ 1 ≤ (Z i).length ∧ P i + (Z i).length ≤ 64 ∧ lst P Z i ≤ P i) ∧ took Z n + n ≤ 65 := by
  have hall : ∀ i, i < n → 0 ≤ P i ∧ 1 ≤ (Z i).length ∧ P i + (Z i).length ≤ 64 ∧ lst P Z i ≤ P i := by
    unfold rfQ at h
    split at h
    · cases h
    · exact fun i hi => runQ_zero (rfFrom_all n 0 h i (by omega) (by omega))
  have hup : ∀ j, j ≤ n → ((took Z j + j : Nat) : Int) ≤ lst P Z j ∧ j ≤ took Z j := by
    intro j
    induction j with
    | zero => intro _; simp [took, lst]
    | succ j ih =>
      intro hj
      have h1 := ih (by omega)
      have h2 := hall j (by omega)
      simp only [took, lst]
      omega
  have hn := hup n (Nat.le_refl _)
  have hl : n = 0 ∨ lst P Z n ≤ 65 := by
    cases n with
    | zero => exact .inl rfl
    | succ m =>
      have h2 := hall m (by omega)
      right
      simp only [lst]
      omega
  rcases hl with rfl | hl
  · exact ⟨by omega, hall, by simp [took]⟩
  · exact ⟨by omega, hall, by omega⟩

theorem or2_zero {x y : Int} (h : or2 x y = 0) : x = 0 ∧ y = 0 := by
  unfold or2 at h
  split at h
  · rename_i e; exact ⟨e, h⟩
  · rename_i e; exact absurd h e
theorem txQ_zero {x : Int} (h : txQ x = 0) : 1 ≤ x ∧ x ≤ 99 := by
  unfold txQ at h
  split at h
  · rename_i e; simpa [inR] using e
  · cases h
theorem pgQ_zero {x : Int} (h : pgQ x = 0) : 0 ≤ x ∧ x ≤ 11 := by
  unfold pgQ at h
  split at h
  · rename_i e; simpa [inR] using e
  · cases h

/-- What a record without a fault keeps. -/
theorem rec_ok {k tx pg : Int} {n : Nat} {P : Nat → Int} {Z : Nat → List Int} (h : recQ k tx pg n P Z = 0) : 1 ≤ k ∧ k ≤ 6 ∧ 0 ≤ tx ∧ tx ≤ 99 ∧ 0 ≤ pg ∧ pg ≤ 11 ∧ rfQ n P Z = 0 := by
  unfold recQ at h
  split at h
  · rename_i hk
    split at h
    · cases h
    · rename_i hm
      have ht := txQ_zero h
      have hm2 : pg = 0 ∧ n = 0 := by simp [muchB] at hm; omega
      obtain ⟨rfl, rfl⟩ := hm2
      exact ⟨by omega, by omega, by omega, by omega, by omega, by omega, rfl⟩
  · split at h
    · rename_i hk
      unfold deQ at h
      split at h
      · rename_i e
        obtain ⟨e1, e2⟩ := or2_zero e
        obtain ⟨e2, e3⟩ := or2_zero e2
        have ht := txQ_zero e1
        have hp := pgQ_zero e2
        exact ⟨by omega, by omega, by omega, by omega, by omega, by omega, e3⟩
      · rename_i e; exact absurd h e
    · split at h
      · rename_i hk
        split at h
        · cases h
        · rename_i ht
          unfold imQ at h
          split at h
          · rename_i e
            obtain ⟨e2, e3⟩ := or2_zero e
            have hp := pgQ_zero e2
            have ht : tx = 0 := by omega
            exact ⟨by omega, by omega, by omega, by omega, by omega, by omega, e3⟩
          · rename_i e; exact absurd h e
      · cases h

end Go.Proofs.YtcjkjenebnodbaaDoor

/-
  What came in, opened: bytes and runs.
-/
namespace Go.Proofs.YtcjkjenebnodbaaDoor
open Go.ChangeShapes Go.WideShapes Go.RowKit
set_option linter.unusedVariables false

/-- A row of integers that came in: nil, or cells as the list says, up to the capacity. -/
def IsRow (k : IntKind) (w : World) (a : Option Addr) (len cap : Nat) (zs : List Int) : Prop :=
  (a = none ∧ len = 0 ∧ cap = 0 ∧ zs = []) ∨
  ∃ x, a = some x ∧ len ≤ cap ∧ cap ≤ maxLen ∧ zs.length = cap ∧ (∀ i, i < zs.length → w.cell? (x.add i) = some (.int k (zs.getD i 0))) ∧ ∀ n ∈ zs, (Lit.int k n).wf = true

theorem isRow_reads {w : World} {a : Option Addr} {len cap : Nat} {zs : List Int} (h : IsRow .u8 w a len cap zs) : (zs.take len).length = len ∧ len ≤ cap ∧ Reads w a (zs.take len) ∧ ∀ z ∈ zs.take len, 0 ≤ z ∧ z ≤ 255 := by
  rcases h with ⟨rfl, rfl, rfl, rfl⟩ | ⟨x, rfl, hl, hm, hz, hc, hw⟩
  · exact ⟨rfl, Nat.le_refl _, .inl rfl, fun z hz => by simp at hz⟩
  · refine ⟨by simp; omega, hl, ?_, fun z hzz => ?_⟩
    · by_cases h0 : len = 0
      · exact .inl (by simp [h0])
      · obtain ⟨b, off, spot⟩ := x
        have hc0 := hc 0 (by omega)
        have hspot : spot = none := by simpa [Addr.add] using World.cell?_spot hc0
        subst hspot
        refine .inr ⟨b, off, rfl, fun i hi => ?_⟩
        have hil : i < len := by simp at hi; omega
        have e := hc i (by omega)
        have ea : (⟨b, off, none⟩ : Addr).add i = ⟨b, off + i, none⟩ := by unfold Addr.add; split <;> simp_all
        rw [ea] at e
        rw [e]
        simp [List.getD, hil]
    · have := hw z (List.mem_of_mem_take hzz)
      exact bounds_u8 this

/-- Runs that came in: what they read as, up to the length. -/
structure IsRuns (w : World) (a : Option Addr) (len : Nat) (P : Nat → Int) (A : Nat → Option Addr) (C : Nat → Nat) (Z : Nat → List Int) : Prop where
  rd : RunsRead w a len P A C Z
  ln : len ≤ 9223372036854775807
  zl : ∀ i, i < len → (Z i).length ≤ 9223372036854775807
  zb : ∀ i, i < len → ∀ z ∈ Z i, 0 ≤ z ∧ z ≤ 255
  pw : ∀ i, i < len → (Lit.int .i64 (P i)).wf = true

theorem open_runs {H : Type} {enc : TypeId × Value → H} {W : World} {base : Nat} {held : Bool} {fuel : Nat} {a : Option Addr} {len cap : Nat} {x : DataW H × List MemPlace}
    (h : DataW.trod enc Tryd.prog W base (fun _ => true) held fuel 42 [.slice a len cap] = some x) : ∃ P A C Z, IsRuns W a len P A C Z := by
  rcases Go.Deep.open_slice_pairs Tryd.underlying42 Tryd.underlying106 (by kernel_rfl) rfl rfl (by kernel_rfl) (by kernel_rfl) h with ⟨hcs, _⟩ | ⟨y, l, c, m, n, V0, V1, D0, D1, P0, P1, hcs, hb, hl, hm, hmm, _, hcell⟩
  · simp only [List.cons.injEq, Value.slice.injEq, and_true] at hcs
    obtain ⟨rfl, rfl, rfl⟩ := hcs
    exact ⟨fun _ => 0, fun _ => none, fun _ => 0, fun _ => [], .inl rfl, by omega, fun i hi => by omega, fun i hi => by omega, fun i hi => by omega⟩
  · simp only [List.cons.injEq, Value.slice.injEq, and_true] at hcs
    obtain ⟨rfl, rfl, rfl⟩ := hcs
    simp only [if_true] at hmm
    subst hmm
    have each : ∀ i, i < len → ∃ q : Int × Option Addr × Nat × List Int, V0 i = .int .i64 q.1 ∧ (Lit.int .i64 q.1).wf = true ∧ V1 i = .slice q.2.1 q.2.2.2.length q.2.2.1 ∧ Reads W q.2.1 q.2.2.2 ∧ q.2.2.2.length ≤ 9223372036854775807 ∧ ∀ z ∈ q.2.2.2, 0 ≤ z ∧ z ≤ 255 := by
      intro i hi
      obtain ⟨_, _, t0, t1⟩ := hcell i (by omega)
      obtain ⟨p, e0, _, hp⟩ := DataW.trod_int Tryd.underlying2 t0
      simp only [List.cons.injEq, and_true] at e0
      rcases open_ints Tryd.underlying22 Tryd.underlying5 (by kernel_rfl) t1 with ⟨hcs, _⟩ | ⟨u, l', c', zs, hcs, _, hl', hm', hz, _, hc', hwz⟩
      · simp only [List.cons.injEq, and_true] at hcs
        exact ⟨(p, none, 0, []), e0, hp, hcs, .inl rfl, by simp, fun z hz => by simp at hz⟩
      · simp only [List.cons.injEq, and_true] at hcs
        have hrow : IsRow .u8 W (some u) l' c' zs := .inr ⟨u, rfl, hl', hm', by simpa using hz, hc', hwz⟩
        obtain ⟨h1, _, h3, h4⟩ := isRow_reads hrow
        have hml : maxLen = 9223372036854775807 := by decide
        exact ⟨(p, some u, c', zs.take l'), e0, hp, by rw [hcs]; simp only [h1], h3, by simp only [h1]; omega, h4⟩
    obtain ⟨q, hq⟩ := Go.Deep.choose_lt each
    refine ⟨fun i => (q i).1, fun i => (q i).2.1, fun i => (q i).2.2.1, fun i => (q i).2.2.2, ?_, ?_, fun i hi => (hq i hi).2.2.2.2.1, fun i hi => (hq i hi).2.2.2.2.2, fun i hi => (hq i hi).2.1⟩
    · by_cases h0 : len = 0
      · exact .inl h0
      · obtain ⟨b, off, spot⟩ := y
        have hc0 := (hcell 0 (by omega)).1
        have hspot : spot = none := by simpa [Addr.add] using World.cell?_spot hc0
        subst hspot
        have ea : ∀ i, (⟨b, off, none⟩ : Addr).add i = ⟨b, off + i, none⟩ := by intro i; unfold Addr.add; split <;> simp_all
        refine .inr ⟨b, off, rfl, fun i hi => ?_⟩
        obtain ⟨c0, c1, _, _⟩ := hcell i (by omega)
        obtain ⟨q0, _, q1, q2, _⟩ := hq i hi
        rw [ea] at c0 c1
        exact ⟨by rw [c0, q0], by rw [← q1, ← c1]; rfl, q2⟩
    · have hml : maxLen = 9223372036854775807 := by decide
      omega

end Go.Proofs.YtcjkjenebnodbaaDoor

/-
  What came in, opened: runs that stand in a struct.
-/
namespace Go.Proofs.YtcjkjenebnodbaaDoor
open Go.ChangeShapes Go.WideShapes Go.RowKit

theorem open_runs_any {H : Type} {enc : TypeId × Value → H} {W : World} {base : Nat} {held : Bool} {fuel : Nat} {cs : List Value} {x : DataW H × List MemPlace}
    (h : DataW.trod enc Tryd.prog W base (fun _ => true) held fuel 42 cs = some x) : ∃ a len cap P A C Z, cs = [.slice a len cap] ∧ IsRuns W a len P A C Z := by
  have hk := h
  rcases Go.Deep.open_slice_pairs Tryd.underlying42 Tryd.underlying106 (by kernel_rfl) rfl rfl (by kernel_rfl) (by kernel_rfl) h with ⟨hcs, _⟩ | ⟨y, l, c, m, n, V0, V1, D0, D1, P0, P1, hcs, _⟩
  · subst hcs
    obtain ⟨P, A, C, Z, hr⟩ := open_runs hk
    exact ⟨_, _, _, P, A, C, Z, rfl, hr⟩
  · subst hcs
    obtain ⟨P, A, C, Z, hr⟩ := open_runs hk
    exact ⟨_, _, _, P, A, C, Z, rfl, hr⟩

end Go.Proofs.YtcjkjenebnodbaaDoor
