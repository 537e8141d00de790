/-
  Runs that are appended one by one, each with bytes of its own, none too.
-/
import Derived.Test.YtcjkjenebnodbaaDoorSRunM
import Derived.Test.YtcjkjenebnodbaaDoorSPrc
import Derived.Deep.SlicePairs

namespace Go.Proofs.YtcjkjenebnodbaaDoor
open Go.RowKit
set_option linter.unusedVariables false

/-- Runs of one's own, or none. -/
def OwnS (lo hi : Nat) (w : World) (a : Option Addr) (n : Nat) (P : Nat → Int) (A : Nat → Option Addr) (C : Nat → Nat) (Z : Nat → List Int) (F : Nat → Nat) : Prop :=
  n = 0 ∨ ∃ b, a = some ⟨b, 0, none⟩ ∧ Own lo hi w b n P A C Z F

section
variable {lo hi : Nat} {w w' : World} {a : Option Addr} {n : Nat} {P P' : Nat → Int} {A : Nat → Option Addr} {C : Nat → Nat} {Z Z' : Nat → List Int} {F : Nat → Nat}
theorem OwnS.turned (h : OwnS lo hi w a n P A C Z F) {x y : Nat} (ht : Turned x y w w') (hn : hi ≤ x ∨ y ≤ lo) : OwnS lo hi w' a n P A C Z F := h.imp id (fun ⟨b, e, ho⟩ => ⟨b, e, ho.turned ht hn⟩)
theorem OwnS.below (h : OwnS lo hi w a n P A C Z F) (hb : Below w.heap.size w w') : OwnS lo hi w' a n P A C Z F := h.imp id (fun ⟨b, e, ho⟩ => ⟨b, e, ho.below hb⟩)
theorem OwnS.mono (h : OwnS lo hi w a n P A C Z F) {lo' hi' : Nat} (hl : lo' ≤ lo) (hh : hi ≤ hi') : OwnS lo' hi' w a n P A C Z F := h.imp id (fun ⟨b, e, ho⟩ => ⟨b, e, ho.mono hl hh⟩)
theorem OwnS.congr (h : OwnS lo hi w a n P A C Z F) (hP : ∀ i, i < n → P i = P' i) (hZ : ∀ i, i < n → Z i = Z' i) : OwnS lo hi w a n P' A C Z' F := h.imp id (fun ⟨b, e, ho⟩ => ⟨b, e, ho.congr hP hZ⟩)
theorem OwnS.none_ : OwnS lo hi w a 0 P A C Z F := .inl rfl
end

def dcells (P : Nat → Int) (V : Nat → Value) : Nat → List Value
  | 0 => []
  | k + 1 => dcells P V k ++ [.int .i64 (P k), V k]
theorem dcells_length (P : Nat → Int) (V : Nat → Value) : ∀ k, (dcells P V k).length = k * 2
  | 0 => rfl
  | k + 1 => by simp [dcells, dcells_length P V k]; omega
theorem dcells_congr {P P' : Nat → Int} {V V' : Nat → Value} : ∀ k, (∀ i, i < k → P i = P' i ∧ V i = V' i) → dcells P V k = dcells P' V' k
  | 0, _ => rfl
  | k + 1, h => by
    obtain ⟨h1, h2⟩ := h k (by omega)
    simp only [dcells]
    rw [dcells_congr k (fun i hi => h i (by omega)), h1, h2]
theorem dcells_at (P : Nat → Int) (V : Nat → Value) : ∀ k i, i < k → (dcells P V k)[i * 2]? = some (.int .i64 (P i)) ∧ (dcells P V k)[i * 2 + 1]? = some (V i)
  | 0, i, h => absurd h (Nat.not_lt_zero _)
  | k + 1, i, h => by
    have hl := dcells_length P V k
    simp only [dcells]
    by_cases e : i = k
    · subst e
      rw [List.getElem?_append_right (by omega), List.getElem?_append_right (by omega), hl, Nat.sub_self, show i * 2 + 1 - i * 2 = 1 by omega]
      exact ⟨rfl, rfl⟩
    · rw [List.getElem?_append_left (by omega), List.getElem?_append_left (by omega)]
      exact dcells_at P V k i (by omega)
theorem dcells_set (P : Nat → Int) (V : Nat → Value) (k : Nat) (u : Value) : (dcells P V (k + 1)).set (k * 2 + 1) u = dcells P (fun i => if i = k then u else V i) (k + 1) := by
  simp only [dcells]
  rw [List.set_append_right _ _ (by rw [dcells_length]; omega), dcells_length, show k * 2 + 1 - k * 2 = 1 by omega]
  simp only [if_true, List.set_cons_succ, List.set_cons_zero]
  rw [dcells_congr (P' := P) (V' := fun i => if i = k then u else V i) k (fun i hi => ⟨rfl, by rw [if_neg (by omega)]⟩)]

/-- v holds k runs in memory from n₀ on; of the i-th the place P i and the bytes Z i, which V i holds, in memory from B i on. -/
structure Dlt (n₀ : Nat) (W : World) (v : Value) (k : Nat) (P : Nat → Int) (V : Nat → Value) (Z : Nat → List Int) (B : Nat → Nat) : Prop where
  row : W.ownsRow n₀ 82 2 v k (dcells P V k)
  by' : ∀ i, i < k → W.ownsRow (B i) 5 1 (V i) (Z i).length ((Z i).map (Value.int .u8))
  lo : ∀ i, i < k → n₀ ≤ B i
  sep : ∀ i j, i < j → j < k → ∀ g, (V i).ownBlock = some g → g < B j
  hi : ∀ i, i < k → B i ≤ W.heap.size

theorem rows_apart {W : World} {b1 b2 n1 n2 : Nat} {v1 v2 : Value} {x1 x2 : List Value} (h1 : W.ownsRow b1 82 2 v1 n1 x1) (h2 : W.ownsRow b2 5 1 v2 n2 x2) : v1.ownBlock = none ∨ v1.ownBlock ≠ v2.ownBlock := by
  rcases h1.2 with ⟨rfl, _⟩ | ⟨g, cap, cur, rfl, _, hg, _⟩
  · exact .inl rfl
  · refine .inr fun e => ?_
    rcases h2.2 with ⟨rfl, _⟩ | ⟨g', cap', cur', rfl, _, hg', _⟩
    · cases e
    · simp only [Value.ownBlock, Option.some.injEq] at e
      rw [e, hg'] at hg
      have h : (5 : TypeId) = 82 := by injection hg with hg; injection hg
      exact absurd h (by decide)

section
variable {n₀ : Nat} {W W' : World} {v : Value} {k : Nat} {P : Nat → Int} {V : Nat → Value} {Z : Nat → List Int} {B : Nat → Nat}

theorem ownsRow_below {base n : Nat} {e : TypeId} {size : Nat} {u : Value} {xs : List Value} (h : W.ownsRow base e size u n xs) (hb : Below W.heap.size W W') : W'.ownsRow base e size u n xs := by
  refine ⟨h.1, ?_⟩
  rcases h.2 with h0 | ⟨g, cap, cur, e, h1, hgb, hh⟩
  · exact .inl h0
  · exact .inr ⟨g, cap, cur, e, h1, (hb.block g (Array.getElem?_eq_some_iff.1 hgb).1).trans hgb, hh⟩

theorem Dlt.below (h : Dlt n₀ W v k P V Z B) (hb : Below W.heap.size W W') : Dlt n₀ W' v k P V Z B := ⟨ownsRow_below h.row hb, fun i hi => ownsRow_below (h.by' i hi) hb, h.lo, h.sep, fun i hi => Nat.le_trans (h.hi i hi) hb.size⟩

theorem Dlt.congr (h : Dlt n₀ W v k P V Z B) {P' : Nat → Int} {Z' : Nat → List Int} (he : ∀ i, i < k → P i = P' i ∧ Z i = Z' i) : Dlt n₀ W v k P' V Z' B :=
  ⟨by rw [← dcells_congr k (fun i hi => ⟨(he i hi).1, rfl⟩)]; exact h.row, fun i hi => by rw [← (he i hi).2]; exact h.by' i hi, h.lo, h.sep, h.hi⟩

/-- A run comes behind. -/
theorem Dlt.add (h : Dlt n₀ W v k P V Z B) {v' u : Value} {b : Nat} (hu : W.ownsRow b 5 1 u (Z k).length ((Z k).map (Value.int .u8))) (hb : ∀ i, i < k → ∀ g, (V i).ownBlock = some g → g < b) (hn : n₀ ≤ b) (hbW : b ≤ W.heap.size)
    (hrow : W'.ownsRow n₀ 82 2 v' (k + 1) (dcells P V k ++ [.int .i64 (P k), u])) (hg : W.grownBy W' v.ownBlock) :
    Dlt n₀ W' v' (k + 1) P (fun i => if i = k then u else V i) Z (fun i => if i = k then b else B i) := by
  have keep : ∀ {bb n : Nat} {y : Value} {xs : List Value}, W.ownsRow bb 5 1 y n xs → W'.ownsRow bb 5 1 y n xs := fun {bb n y xs} hy => by
    refine hy.kept hg ?_
    rcases rows_apart h.row hy with h1 | h1
    · by_cases h2 : y.ownBlock = none
      · exact .inl h2
      · exact .inr (fun e2 => h2 (e2.trans h1))
    · exact .inr (fun e2 => h1 e2.symm)
  refine ⟨?_, fun i hi => ?_, fun i hi => ?_, fun i j hij hj g hgb => ?_, fun i hi => by
    by_cases e : i = k
    · simp only [if_pos e]; exact Nat.le_trans hbW hg.size
    · simp only [if_neg e]; exact Nat.le_trans (h.hi i (by omega)) hg.size⟩
  · simp only [dcells, if_true]
    rw [← dcells_congr k (P := P) (V := V) (fun i hi => ⟨rfl, by simp only [if_neg (show ¬ i = k by omega)]⟩)]
    exact hrow
  · by_cases e : i = k
    · subst e
      simp only [if_true]
      exact keep hu
    · simp only [if_neg e]
      exact keep (h.by' i (by omega))
  · by_cases e : i = k
    · simp only [if_pos e]; exact hn
    · simp only [if_neg e]; exact h.lo i (by omega)
  · have hik : ¬ i = k := by omega
    simp only [if_neg hik] at hgb
    by_cases e : j = k
    · simp only [if_pos e]
      exact hb i (by omega) g hgb
    · simp only [if_neg e]; exact h.sep i j hij (by omega) g hgb

theorem Dlt.nil (n₀ : Nat) (W : World) (P : Nat → Int) (V : Nat → Value) (Z : Nat → List Int) (B : Nat → Nat) : Dlt n₀ W (.slice none 0 0) 0 P V Z B :=
  ⟨World.ownsRow_nil _ _ _ _, fun i hi => absurd hi (Nat.not_lt_zero _), fun i hi => absurd hi (Nat.not_lt_zero _), fun i j _ hi => absurd hi (Nat.not_lt_zero _), fun i hi => absurd hi (Nat.not_lt_zero _)⟩

/-- Runs that were appended read as what they are. -/
theorem Dlt.reads (h : Dlt n₀ W v k P V Z B) : ∃ a c A C, v = .slice a k c ∧ RunsRead W a k P A C Z := by
  have each : ∀ i, i < k → ∃ q : Option Addr × Nat, V i = .slice q.1 (Z i).length q.2 ∧ Reads W q.1 (Z i) := fun i hi => by
    rcases (h.by' i hi).2 with ⟨e, h0⟩ | ⟨g, cap, cur, e, _⟩
    · exact ⟨(none, 0), by rw [e, h0], .inl (List.eq_nil_of_length_eq_zero h0)⟩
    · refine ⟨(some ⟨g, 0, none⟩, cap), e, ?_⟩
      have hb := h.by' i hi
      rw [e] at hb
      exact (bytesIn_owns hb).reads
  obtain ⟨q, hq⟩ := Go.Deep.choose_lt each
  rcases h.row.2 with ⟨rfl, rfl⟩ | ⟨g, cap, cur, rfl, hn, hg, _⟩
  · exact ⟨none, 0, fun _ => none, fun _ => 0, rfl, .inl rfl⟩
  · have hr := h.row
    refine ⟨some ⟨g, 0, none⟩, cap, fun i => (q i).1, fun i => (q i).2, rfl, .inr ⟨g, 0, rfl, fun i hi => ⟨?_, ?_, (hq i hi).2⟩⟩⟩
    · rw [Nat.zero_add, hr.cellAt (i * 2) (by omega)]; exact (dcells_at P V k i hi).1
    · rw [Nat.zero_add, hr.cellAt (i * 2 + 1) (by omega), (dcells_at P V k i hi).2, (hq i hi).1]

/-- Runs that grew are runs of one's own. -/
theorem Dlt.own (h : Dlt n₀ W v k P V Z B) (hz : ∀ i, i < k → Z i ≠ []) : ∃ a c A C F, v = .slice a k c ∧ OwnS n₀ W.heap.size W a k P A C Z F := by
  have each : ∀ i, i < k → ∃ q : Nat × Nat, V i = .slice (some ⟨q.1, 0, none⟩) (Z i).length q.2 := fun i hi => by
    rcases (h.by' i hi).2 with ⟨_, h0⟩ | ⟨g, cap, cur, e, _⟩
    · exact absurd (List.eq_nil_of_length_eq_zero h0) (hz i hi)
    · exact ⟨(g, cap), e⟩
  obtain ⟨q, hq⟩ := Go.Deep.choose_lt each
  rcases h.row.2 with ⟨rfl, rfl⟩ | ⟨g, cap, cur, rfl, hn, hg, _⟩
  · exact ⟨none, 0, fun _ => none, fun _ => 0, fun _ => 0, rfl, .inl rfl⟩
  · refine ⟨some ⟨g, 0, none⟩, cap, fun i => some ⟨(q i).1, 0, none⟩, fun i => (q i).2, fun i => (q i).1, rfl, ?_⟩
    by_cases h0 : k = 0
    · exact .inl h0
    have hr := h.row
    have hblk : ∀ i, i < k → B i ≤ (q i).1 ∧ (q i).1 < W.heap.size := fun i hi => (h.by' i hi).lt _ (by rw [hq i hi]; rfl)
    have hsep : ∀ i j, i < j → j < k → (q i).1 < (q j).1 := fun i j hij hj => by
      have h1 := h.sep i j hij hj (q i).1 (by rw [hq i (by omega)]; rfl)
      have h2 := hblk j hj
      omega
    refine .inr ⟨g, rfl, hn, (Array.getElem?_eq_some_iff.1 hg).1, fun i hi => ?_, fun i hi => ?_, fun i hi => hr.frozenAt _, fun i hi => hr.frozenAt _, fun i hi => ?_, fun i hi _ => ⟨?_, (hblk i hi).2, fun e => ?_⟩, fun i j hi hj hne _ _ => ?_⟩
    · rw [hr.cellAt (i * 2) (by omega)]; exact (dcells_at P V k i hi).1
    · rw [hr.cellAt (i * 2 + 1) (by omega), (dcells_at P V k i hi).2, hq i hi]
    · have hb := h.by' i hi
      rw [hq i hi] at hb
      refine .inr ⟨(q i).1, 0, rfl, Nat.le_refl _, Nat.lt_succ_self _, fun j hj => ?_, fun j hj => ?_⟩
      · rw [Nat.zero_add, hb.cellAt j (by omega)]
        simp [List.getElem?_eq_getElem hj, List.getD]
      · exact hb.frozenAt _
    · have := h.lo i hi; have := hblk i hi; omega
    · rcases rows_apart h.row (h.by' i hi) with h1 | h1
      · cases h1
      · exact h1 (by rw [hq i hi]; simp only [Value.ownBlock]; rw [e])
    · rcases Nat.lt_or_gt_of_ne hne with h1 | h1
      · have := hsep i j h1 hj; omega
      · have := hsep j i h1 hi; omega
end

end Go.Proofs.YtcjkjenebnodbaaDoor
