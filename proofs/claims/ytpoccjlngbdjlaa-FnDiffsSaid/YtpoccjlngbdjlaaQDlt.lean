/-
  Runs that grow: the last one's bytes are appended to one by one.
-/
import Derived.Test.YtpoccjlngbdjlaaQInv

namespace Go.Proofs.Ytpoccjlngbdjlaa
open Go.RowKit Go.Shelf
set_option linter.unusedVariables false

def dcells (P : Nat → Int) (V : Nat → Value) : Nat → List Value
  | 0 => []
  | k + 1 => dcells P V k ++ [.int .i64 (P k), V k]
theorem dcells_length (P : Nat → Int) (V : Nat → Value) : ∀ k, (dcells P V k).length = k * 2
  | 0 => rfl
  | k + 1 => by simp [dcells, dcells_length P V k]; omega
theorem dcells_congr {P P' : Nat → Int} {V V' : Nat → Value} : ∀ k, (∀ i, i < k → P i = P' i ∧ V i = V' i) → dcells P V k = dcells P' V' k
  | 0, _ => rfl
  | k + 1, h => by
    obtain ⟨h1, h2⟩ := h k (by omega)
    simp only [dcells]
    rw [dcells_congr k (fun i hi => h i (by omega)), h1, h2]
theorem dcells_at (P : Nat → Int) (V : Nat → Value) : ∀ k i, i < k → (dcells P V k)[i * 2]? = some (.int .i64 (P i)) ∧ (dcells P V k)[i * 2 + 1]? = some (V i)
  | 0, i, h => absurd h (Nat.not_lt_zero _)
  | k + 1, i, h => by
    have hl := dcells_length P V k
    simp only [dcells]
    by_cases e : i = k
    · subst e
      rw [List.getElem?_append_right (by omega), List.getElem?_append_right (by omega), hl, Nat.sub_self, show i * 2 + 1 - i * 2 = 1 by omega]
      exact ⟨rfl, rfl⟩
    · rw [List.getElem?_append_left (by omega), List.getElem?_append_left (by omega)]
      exact dcells_at P V k i (by omega)
theorem dcells_set (P : Nat → Int) (V : Nat → Value) (k : Nat) (u : Value) : (dcells P V (k + 1)).set (k * 2 + 1) u = dcells P (fun i => if i = k then u else V i) (k + 1) := by
  simp only [dcells]
  rw [List.set_append_right _ _ (by rw [dcells_length]; omega), dcells_length, show k * 2 + 1 - k * 2 = 1 by omega]
  simp only [if_true, List.set_cons_succ, List.set_cons_zero]
  rw [dcells_congr (P' := P) (V' := fun i => if i = k then u else V i) k (fun i hi => ⟨rfl, by rw [if_neg (by omega)]⟩)]

/-- v holds k runs in memory from n₀ on; of the i-th the place P i and the bytes Z i, which V i holds, in memory from B i on. -/
structure Dlt (n₀ : Nat) (W : World) (v : Value) (k : Nat) (P : Nat → Int) (V : Nat → Value) (Z : Nat → List Int) (B : Nat → Nat) : Prop where
  row : W.ownsRow n₀ 35 2 v k (dcells P V k)
  by' : ∀ i, i < k → W.ownsRow (B i) 5 1 (V i) (Z i).length ((Z i).map (Value.int .u8))
  lo : ∀ i, i < k → n₀ ≤ B i
  sep : ∀ i j, i < j → j < k → ∀ g, (V i).ownBlock = some g → g < B j
  hi : ∀ i, i < k → B i ≤ W.heap.size

theorem rows_apart {W : World} {b1 b2 n1 n2 : Nat} {v1 v2 : Value} {x1 x2 : List Value} (h1 : W.ownsRow b1 35 2 v1 n1 x1) (h2 : W.ownsRow b2 5 1 v2 n2 x2) : v1.ownBlock = none ∨ v1.ownBlock ≠ v2.ownBlock := by
  rcases h1.2 with ⟨rfl, _⟩ | ⟨g, cap, cur, rfl, _, hg, _⟩
  · exact .inl rfl
  · refine .inr fun e => ?_
    rcases h2.2 with ⟨rfl, _⟩ | ⟨g', cap', cur', rfl, _, hg', _⟩
    · cases e
    · simp only [Value.ownBlock, Option.some.injEq] at e
      rw [e, hg'] at hg
      have h : (5 : TypeId) = 35 := by injection hg with hg; injection hg
      exact absurd h (by decide)

section
variable {n₀ : Nat} {W W' : World} {v : Value} {k : Nat} {P : Nat → Int} {V : Nat → Value} {Z : Nat → List Int} {B : Nat → Nat}

theorem ownsRow_below {base n : Nat} {e : TypeId} {size : Nat} {u : Value} {xs : List Value} (h : W.ownsRow base e size u n xs) (hb : Below W.heap.size W W') : W'.ownsRow base e size u n xs := by
  refine ⟨h.1, ?_⟩
  rcases h.2 with h0 | ⟨g, cap, cur, e, h1, hgb, hh⟩
  · exact .inl h0
  · exact .inr ⟨g, cap, cur, e, h1, (hb.block g (Array.getElem?_eq_some_iff.1 hgb).1).trans hgb, hh⟩

theorem Dlt.below (h : Dlt n₀ W v k P V Z B) (hb : Below W.heap.size W W') : Dlt n₀ W' v k P V Z B := ⟨ownsRow_below h.row hb, fun i hi => ownsRow_below (h.by' i hi) hb, h.lo, h.sep, fun i hi => Nat.le_trans (h.hi i hi) hb.size⟩

theorem Dlt.congr (h : Dlt n₀ W v k P V Z B) {P' : Nat → Int} {Z' : Nat → List Int} (he : ∀ i, i < k → P i = P' i ∧ Z i = Z' i) : Dlt n₀ W v k P' V Z' B :=
  ⟨by rw [← dcells_congr k (fun i hi => ⟨(he i hi).1, rfl⟩)]; exact h.row, fun i hi => by rw [← (he i hi).2]; exact h.by' i hi, h.lo, h.sep, h.hi⟩

/-- A run without bytes comes behind. -/
theorem Dlt.open_ (h : Dlt n₀ W v k P V Z B) {v' : Value} (hrow : W'.ownsRow n₀ 35 2 v' (k + 1) (dcells P V k ++ [.int .i64 (P k), .slice none 0 0])) (hg : W.grownBy W' v.ownBlock) (hz : Z k = []) (hn : n₀ ≤ W.heap.size) :
    Dlt n₀ W' v' (k + 1) P (fun i => if i = k then .slice none 0 0 else V i) Z (fun i => if i = k then W'.heap.size else B i) := by
  refine ⟨?_, fun i hi => ?_, fun i hi => ?_, fun i j hij hj g hgb => ?_, fun i hi => by
    by_cases e : i = k
    · simp only [if_pos e]; exact Nat.le_refl _
    · simp only [if_neg e]; exact Nat.le_trans (h.hi i (by omega)) hg.size⟩
  · simp only [dcells, if_true]
    rw [← dcells_congr k (P := P) (V := V) (fun i hi => ⟨rfl, by simp only [if_neg (show ¬ i = k by omega)]⟩)]
    exact hrow
  · by_cases e : i = k
    · subst e
      simp only [if_true]
      rw [hz]
      exact World.ownsRow_nil _ _ _ _
    · simp only [if_neg e]
      refine (h.by' i (by omega)).kept hg ?_
      rcases rows_apart h.row (h.by' i (by omega)) with h1 | h1
      · by_cases h2 : (V i).ownBlock = none
        · exact .inl h2
        · exact .inr (fun e2 => h2 (e2.trans h1))
      · exact .inr (fun e2 => h1 e2.symm)
  · by_cases e : i = k
    · simp only [if_pos e]; have := hg.size; omega
    · simp only [if_neg e]; exact h.lo i (by omega)
  · have hik : ¬ i = k := by omega
    simp only [if_neg hik] at hgb
    by_cases e : j = k
    · simp only [if_pos e]
      have := ((h.by' i (by omega)).lt g hgb).2
      have := hg.size
      omega
    · simp only [if_neg e]; exact h.sep i j hij (by omega) g hgb

/-- A byte comes behind the last run's. -/
theorem Dlt.more (h : Dlt n₀ W v (k + 1) P V Z B) {g cap : Nat} (hv : v = .slice (some ⟨g, 0, none⟩) (k + 1) cap) {u : Value} {z : Int} (hu : W'.ownsRow (B k) 5 1 u ((Z k).length + 1) ((Z k).map (Value.int .u8) ++ [.int .u8 z])) (hg : W.grownBy W' (V k).ownBlock) :
    Dlt n₀ (W'.setCell ⟨g, k * 2 + 1, none⟩ u) v (k + 1) P (fun i => if i = k then u else V i) (fun i => if i = k then Z k ++ [z] else Z i) B := by
  have hrow : W'.ownsRow n₀ 35 2 v (k + 1) (dcells P V (k + 1)) := h.row.kept hg (rows_apart h.row (h.by' k (by omega)))
  have keep : ∀ i, i < k → W'.ownsRow (B i) 5 1 (V i) (Z i).length ((Z i).map (Value.int .u8)) := fun i hi => (h.by' i (by omega)).kept hg (by
    by_cases h2 : (V i).ownBlock = none
    · exact .inl h2
    · refine .inr fun e => ?_
      obtain ⟨gi, hgi⟩ : ∃ gi, (V i).ownBlock = some gi := Option.ne_none_iff_exists'.1 h2
      have h3 := h.sep i k hi (by omega) gi hgi
      have h4 := ((h.by' k (by omega)).lt gi (by rw [← e]; exact hgi)).1
      omega)
  have hgv : v.ownBlock = some g := by rw [hv]; rfl
  have off : ∀ {b n : Nat} {y : Value} {xs : List Value}, W'.ownsRow b 5 1 y n xs → (W'.setCell ⟨g, k * 2 + 1, none⟩ u).ownsRow b 5 1 y n xs := fun {b n y xs} hy => by
    refine ⟨hy.1, ?_⟩
    rcases hy.2 with h0 | ⟨g', cap', cur, e, h1, hgb, hh⟩
    · exact .inl h0
    · refine .inr ⟨g', cap', cur, e, h1, ?_, hh⟩
      rw [Below.heap_setCell _ _ _ _ (fun e2 => ?_)]
      · exact hgb
      · rcases rows_apart hrow hy with h5 | h5
        · rw [hgv] at h5; cases h5
        · exact h5 (by rw [hgv, e, show g' = g from e2]; rfl)
  refine ⟨?_, fun i hi => ?_, h.lo, fun i j hij hj gg hgb => ?_, fun i hi => by rw [World.size_setCell]; exact Nat.le_trans (h.hi i hi) hg.size⟩
  · rw [← dcells_set P V k u]
    rw [hv] at hrow ⊢
    exact (hrow.stored (k * 2 + 1) u).1
  · by_cases e : i = k
    · subst e
      simp only [if_true]
      rw [List.length_append, List.map_append]
      exact off hu
    · simp only [if_neg e]
      exact off (keep i (by omega))
  · have hik : ¬ i = k := by omega
    simp only [if_neg hik] at hgb
    exact h.sep i j hij hj gg hgb

/-- Runs that grew are runs of one's own. -/
theorem Dlt.own (h : Dlt n₀ W v k P V Z B) (hz : ∀ i, i < k → Z i ≠ []) : ∃ a c A C F, v = .slice a k c ∧ OwnS n₀ W.heap.size W a k P A C Z F := by
  have each : ∀ i, i < k → ∃ q : Nat × Nat, V i = .slice (some ⟨q.1, 0, none⟩) (Z i).length q.2 := fun i hi => by
    rcases (h.by' i hi).2 with ⟨_, h0⟩ | ⟨g, cap, cur, e, _⟩
    · exact absurd (List.eq_nil_of_length_eq_zero h0) (hz i hi)
    · exact ⟨(g, cap), e⟩
  obtain ⟨q, hq⟩ := Go.Deep.choose_lt each
  rcases h.row.2 with ⟨rfl, rfl⟩ | ⟨g, cap, cur, rfl, hn, hg, _⟩
  · exact ⟨none, 0, fun _ => none, fun _ => 0, fun _ => 0, rfl, .inl rfl⟩
  · refine ⟨some ⟨g, 0, none⟩, cap, fun i => some ⟨(q i).1, 0, none⟩, fun i => (q i).2, fun i => (q i).1, rfl, ?_⟩
    by_cases h0 : k = 0
    · exact .inl h0
    have hr := h.row
    have hblk : ∀ i, i < k → B i ≤ (q i).1 ∧ (q i).1 < W.heap.size := fun i hi => (h.by' i hi).lt _ (by rw [hq i hi]; rfl)
    have hsep : ∀ i j, i < j → j < k → (q i).1 < (q j).1 := fun i j hij hj => by
      have h1 := h.sep i j hij hj (q i).1 (by rw [hq i (by omega)]; rfl)
      have h2 := hblk j hj
      omega
    refine .inr ⟨g, rfl, hn, (Array.getElem?_eq_some_iff.1 hg).1, fun i hi => ?_, fun i hi => ?_, fun i hi => hr.frozenAt _, fun i hi => hr.frozenAt _, fun i hi => ?_, fun i hi _ => ⟨?_, (hblk i hi).2, fun e => ?_⟩, fun i j hi hj hne _ _ => ?_⟩
    · rw [hr.cellAt (i * 2) (by omega)]; exact (dcells_at P V k i hi).1
    · rw [hr.cellAt (i * 2 + 1) (by omega), (dcells_at P V k i hi).2, hq i hi]
    · have hb := h.by' i hi
      rw [hq i hi] at hb
      refine .inr ⟨(q i).1, 0, rfl, Nat.le_refl _, Nat.lt_succ_self _, fun j hj => ?_, fun j hj => ?_⟩
      · rw [Nat.zero_add, hb.cellAt j (by omega)]
        simp [List.getElem?_eq_getElem hj, List.getD]
      · exact hb.frozenAt _
    · have := h.lo i hi; have := hblk i hi; omega
    · rcases rows_apart h.row (h.by' i hi) with h1 | h1
      · cases h1
      · exact h1 (by rw [hq i hi]; simp only [Value.ownBlock]; rw [e])
    · rcases Nat.lt_or_gt_of_ne hne with h1 | h1
      · have := hsep i j h1 hj; omega
      · have := hsep j i h1 hi; omega
end

end Go.Proofs.Ytpoccjlngbdjlaa
