/-
  Runs that are appended one by one, each with bytes of its own.
-/
import Derived.Test.YtpoccjlngbdjlaaQRft
import Derived.Test.YtpoccjlngbdjlaaQPgs
import Derived.Test.YtpoccjlngbdjlaaQRunM

namespace Go.Proofs.Ytpoccjlngbdjlaa
open Go.RowKit Go.Shelf
set_option linter.unusedVariables false

/-- The cells of the first k runs: of the i-th the place P i, the bytes in block F i, with the capacity C i. -/
def rcells (P : Nat → Int) (C : Nat → Nat) (Z : Nat → List Int) (F : Nat → Nat) : Nat → List Value
  | 0 => []
  | k + 1 => rcells P C Z F k ++ [.int .i64 (P k), .slice (some ⟨F k, 0, none⟩) (Z k).length (C k)]

theorem rcells_length (P : Nat → Int) (C : Nat → Nat) (Z : Nat → List Int) (F : Nat → Nat) : ∀ k, (rcells P C Z F k).length = k * 2
  | 0 => rfl
  | k + 1 => by simp [rcells, rcells_length P C Z F k]; omega
theorem rcells_congr {P P' : Nat → Int} {C C' : Nat → Nat} {Z Z' : Nat → List Int} {F F' : Nat → Nat} : ∀ k, (∀ i, i < k → P i = P' i ∧ C i = C' i ∧ Z i = Z' i ∧ F i = F' i) → rcells P C Z F k = rcells P' C' Z' F' k
  | 0, _ => rfl
  | k + 1, h => by
    obtain ⟨h1, h2, h3, h4⟩ := h k (by omega)
    simp only [rcells]
    rw [rcells_congr k (fun i hi => h i (by omega)), h1, h2, h3, h4]
theorem rcells_at (P : Nat → Int) (C : Nat → Nat) (Z : Nat → List Int) (F : Nat → Nat) : ∀ k i, i < k → (rcells P C Z F k)[i * 2]? = some (.int .i64 (P i)) ∧ (rcells P C Z F k)[i * 2 + 1]? = some (.slice (some ⟨F i, 0, none⟩) (Z i).length (C i))
  | 0, i, h => absurd h (Nat.not_lt_zero _)
  | k + 1, i, h => by
    have hl := rcells_length P C Z F k
    simp only [rcells]
    by_cases e : i = k
    · subst e
      rw [List.getElem?_append_right (by omega), List.getElem?_append_right (by omega), hl, Nat.sub_self, show i * 2 + 1 - i * 2 = 1 by omega]
      exact ⟨rfl, rfl⟩
    · rw [List.getElem?_append_left (by omega), List.getElem?_append_left (by omega)]
      exact rcells_at P C Z F k i (by omega)

/-- v holds k runs that were appended, in memory from n₀ on. -/
structure Blt (n₀ : Nat) (W : World) (v : Value) (k : Nat) (P : Nat → Int) (C : Nat → Nat) (Z : Nat → List Int) (F : Nat → Nat) : Prop where
  row : W.ownsRow n₀ 35 2 v k (rcells P C Z F k)
  by' : ∀ i, i < k → BytesIn (F i) (F i + 1) W (some ⟨F i, 0, none⟩) (Z i)
  fr : ∀ i, i < k → n₀ ≤ F i ∧ F i < W.heap.size
  ne : ∀ i j, i < j → j < k → F i < F j
  nz : ∀ i, i < k → Z i ≠ []

section
variable {n₀ : Nat} {W W' : World} {v : Value} {k : Nat} {P : Nat → Int} {C : Nat → Nat} {Z : Nat → List Int} {F : Nat → Nat}

theorem bytesIn_cell0 {lo hi b : Nat} {zs : List Int} (h : BytesIn lo hi W (some ⟨b, 0, none⟩) zs) (hz : zs ≠ []) : ∃ z, W.cell? ⟨b, 0, none⟩ = some (.int .u8 z) := by
  rcases h with h | ⟨b', o', e, _, _, hc, _⟩
  · exact absurd h hz
  · simp only [Option.some.injEq, Addr.mk.injEq, and_true] at e
    obtain ⟨rfl, rfl⟩ := e
    exact ⟨_, by simpa using hc 0 (List.length_pos_iff.2 hz)⟩

/-- No bytes lie in the row's own block. -/
theorem Blt.apart (h : Blt n₀ W v k P C Z F) {i : Nat} (hi : i < k) : some (F i) ≠ v.ownBlock := by
  intro e
  rcases h.row.2 with ⟨rfl, h0⟩ | ⟨g, cap, cur, rfl, _, hg, _, _, hs, ht⟩
  · cases e
  · simp only [Value.ownBlock, Option.some.injEq] at e
    obtain ⟨z, hz⟩ := bytesIn_cell0 (h.by' i hi) (h.nz i hi)
    have hr := h.row
    have hc := hr.cellAt 0 (by omega)
    have h2 := (rcells_at P C Z F k 0 (by omega)).1
    rw [Nat.zero_mul] at h2
    rw [h2] at hc
    rw [e, hc] at hz
    cases hz

theorem Blt.kept (h : Blt n₀ W v k P C Z F) {row : Option Nat} (hg : W.grownBy W' row) (hr : ∀ r, row = some r → ∃ o : Obj, W.heap[r]? = some o ∧ o.isCells = false) : Blt n₀ W' v k P C Z F := by
  refine ⟨h.row.kept hg ?_, fun i hi => ?_, fun i hi => ⟨(h.fr i hi).1, Nat.lt_of_lt_of_le (h.fr i hi).2 hg.size⟩, h.ne, h.nz⟩
  · rcases h.row.2 with ⟨rfl, _⟩ | ⟨g, cap, cur, rfl, _, hgb, _⟩
    · exact .inl rfl
    · refine .inr fun e => ?_
      obtain ⟨o, ho, hc⟩ := hr g (by simpa [Value.ownBlock] using e.symm)
      rw [hgb] at ho
      cases ho
      cases hc
  · rcases h.by' i hi with h0 | ⟨b, o, e, h1, h2, hc, hf⟩
    · exact .inl h0
    · exact .inr ⟨b, o, e, h1, h2, fun j hj => cell_kept (hc j hj) hg hr, fun j hj => (frozen_kept (hc j hj) hg hr).trans (hf j hj)⟩

theorem Blt.below (h : Blt n₀ W v k P C Z F) (hb : Below W.heap.size W W') : Blt n₀ W' v k P C Z F := by
  refine ⟨⟨h.row.1, ?_⟩, fun i hi => (h.by' i hi).below hb, fun i hi => ⟨(h.fr i hi).1, Nat.lt_of_lt_of_le (h.fr i hi).2 hb.size⟩, h.ne, h.nz⟩
  rcases h.row.2 with h0 | ⟨g, cap, cur, e, h1, hgb, hh⟩
  · exact .inl h0
  · exact .inr ⟨g, cap, cur, e, h1, (hb.block g (Array.getElem?_eq_some_iff.1 hgb).1).trans hgb, hh⟩

theorem Blt.set (h : Blt n₀ W v k P C Z F) {B : Nat} {t : TypeId} {u : Value} (hB : Boxed W B t u) (ht : t ≠ 35) (hB5 : ∀ i, i < k → F i ≠ B) (u' : Value) : Blt n₀ (W.setCell ⟨B, 0, none⟩ u') v k P C Z F := by
  have hrow : some B ≠ v.ownBlock := hB.not_row ht h.row
  refine ⟨h.row.kept (grownBy_setCell' W B u') (.inr fun e => hrow e.symm), fun i hi => (h.by' i hi).setCellE (fun _ => by have := hB5 i hi; simp only; omega) _, fun i hi => by rw [World.size_setCell]; exact h.fr i hi, h.ne, h.nz⟩

theorem Blt.nil (n₀ : Nat) (W : World) (P : Nat → Int) (C : Nat → Nat) (Z : Nat → List Int) (F : Nat → Nat) : Blt n₀ W (.slice none 0 0) 0 P C Z F :=
  ⟨World.ownsRow_nil _ _ _ _, fun i hi => absurd hi (Nat.not_lt_zero _), fun i hi => absurd hi (Nat.not_lt_zero _), fun i j _ hi => absurd hi (Nat.not_lt_zero _), fun i hi => absurd hi (Nat.not_lt_zero _)⟩

theorem Blt.congr (h : Blt n₀ W v k P C Z F) {P' : Nat → Int} {C' : Nat → Nat} {Z' : Nat → List Int} {F' : Nat → Nat} (he : ∀ i, i < k → P i = P' i ∧ C i = C' i ∧ Z i = Z' i ∧ F i = F' i) : Blt n₀ W v k P' C' Z' F' := by
  refine ⟨by rw [← rcells_congr k he]; exact h.row, fun i hi => ?_, fun i hi => ?_, fun i j hij hj => ?_, fun i hi => ?_⟩
  · obtain ⟨_, _, e3, e4⟩ := he i hi
    rw [← e3, ← e4]; exact h.by' i hi
  · rw [← (he i hi).2.2.2]; exact h.fr i hi
  · rw [← (he i (by omega)).2.2.2, ← (he j hj).2.2.2]; exact h.ne i j hij hj
  · rw [← (he i hi).2.2.1]; exact h.nz i hi

/-- One run more. -/
theorem Blt.append (h : Blt n₀ W v k P C Z F) {v' : Value} (hrow : W'.ownsRow n₀ 35 2 v' (k + 1) (rcells P C Z F k ++ [.int .i64 (P k), .slice (some ⟨F k, 0, none⟩) (Z k).length (C k)])) (hg : W.grownBy W' v.ownBlock)
    (hy : BytesIn (F k) (F k + 1) W (some ⟨F k, 0, none⟩) (Z k)) (hz : Z k ≠ []) (hn : n₀ ≤ F k) (hlt : F k < W.heap.size) (hnew : ∀ i, i < k → F i < F k) (hk : some (F k) ≠ v.ownBlock) : Blt n₀ W' v' (k + 1) P C Z F := by
  have keep : ∀ i, (i < k ∨ i = k) → BytesIn (F i) (F i + 1) W (some ⟨F i, 0, none⟩) (Z i) → some (F i) ≠ v.ownBlock → BytesIn (F i) (F i + 1) W' (some ⟨F i, 0, none⟩) (Z i) := fun i _ hb hne => by
    rcases hb with h0 | ⟨b, o, e, h1, h2, hc, hf⟩
    · exact .inl h0
    · obtain rfl : b = F i := by omega
      exact .inr ⟨_, o, e, h1, h2, fun j hj => hg.cell (hc j hj) hne, fun j hj => (World.frozen?_of_block (hg.block _ (World.block_lt_of_cell? W _ (hc j hj)) hne)).trans (hf j hj)⟩
  refine ⟨hrow, fun i hi => ?_, fun i hi => ?_, fun i j hij hj => ?_, fun i hi => ?_⟩
  · by_cases e : i = k
    · subst e; exact keep i (.inr rfl) hy hk
    · exact keep i (.inl (by omega)) (h.by' i (by omega)) (h.apart (by omega))
  · by_cases e : i = k
    · subst e; exact ⟨hn, Nat.lt_of_lt_of_le hlt hg.size⟩
    · have := h.fr i (by omega); exact ⟨this.1, Nat.lt_of_lt_of_le this.2 hg.size⟩
  · by_cases e : j = k
    · subst e; exact hnew i hij
    · exact h.ne i j hij (by omega)
  · by_cases e : i = k
    · subst e; exact hz
    · exact h.nz i (by omega)

/-- Runs of one's own, or none. -/
def OwnS (lo hi : Nat) (w : World) (a : Option Addr) (n : Nat) (P : Nat → Int) (A : Nat → Option Addr) (C : Nat → Nat) (Z : Nat → List Int) (F : Nat → Nat) : Prop :=
  n = 0 ∨ ∃ b, a = some ⟨b, 0, none⟩ ∧ Own lo hi w b n P A C Z F

theorem Blt.own (h : Blt n₀ W v k P C Z F) : ∃ a c, v = .slice a k c ∧ OwnS n₀ W.heap.size W a k P (fun i => some ⟨F i, 0, none⟩) C Z F := by
  rcases h.row.2 with ⟨rfl, rfl⟩ | ⟨g, cap, cur, rfl, hn, hg, _⟩
  · exact ⟨none, 0, rfl, .inl rfl⟩
  · refine ⟨some ⟨g, 0, none⟩, cap, rfl, ?_⟩
    by_cases h0 : k = 0
    · exact .inl h0
    have hr := h.row
    refine .inr ⟨g, rfl, hn, (Array.getElem?_eq_some_iff.1 hg).1, fun i hi => ?_, fun i hi => ?_, fun i hi => hr.frozenAt _, fun i hi => hr.frozenAt _, h.by', fun i hi _ => ⟨(h.fr i hi).1, (h.fr i hi).2, fun e => h.apart hi (by rw [e]; rfl)⟩, fun i j hi hj hne _ _ => ?_⟩
    · rw [hr.cellAt (i * 2) (by omega)]; exact (rcells_at P C Z F k i hi).1
    · rw [hr.cellAt (i * 2 + 1) (by omega)]; exact (rcells_at P C Z F k i hi).2
    · rcases Nat.lt_or_gt_of_ne hne with h1 | h1
      · have := h.ne i j h1 hj; omega
      · have := h.ne j i h1 hi; omega
end

end Go.Proofs.Ytpoccjlngbdjlaa
