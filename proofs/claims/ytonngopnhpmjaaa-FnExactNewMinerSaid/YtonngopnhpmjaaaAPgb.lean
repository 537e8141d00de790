/-
  Pages in memory of one's own that are appended to and turned.
-/
import Derived.Test.YtonngopnhpmjaaaAClg
import Derived.Test.YtonngopnhpmjaaaAEds

namespace Go.Proofs.Ytonngopnhpmjaaa
open Go.RowKit
set_option linter.unusedVariables false

/-- The blocks of a slice and of the slices in it. -/
def blkP (v : Value) (V : List Value) (g : Nat) : Prop := v.ownBlock = some g ∨ ∃ u ∈ V, u.ownBlock = some g
/-- v holds the slices V, and they the bytes ps; all of it in blocks from n₀ on. -/
structure PgB (n₀ : Nat) (W : World) (v : Value) (ps : List (List Int)) (V : List Value) : Prop where
  row : W.ownsRow n₀ 106 1 v ps.length V
  len : V.length = ps.length
  by' : ∀ (i : Nat) (u : Value) (zs : List Int), V[i]? = some u → ps[i]? = some zs → Gb n₀ W u zs
/-- No two of them share a block. -/
def SepV (V : List Value) : Prop := ∀ (i j : Nat) (u u' : Value) (g : Nat), i ≠ j → V[i]? = some u → V[j]? = some u' → u.ownBlock = some g → u'.ownBlock ≠ some g

theorem apart41 {W : World} {b1 b2 n1 : Nat} {v1 v2 : Value} {x1 : List Value} (h1 : W.ownsRow b1 106 1 v1 n1 x1) {zs : List Int} (h2 : Gb b2 W v2 zs) {g : Nat} (e1 : v1.ownBlock = some g) (e2 : v2.ownBlock = some g) : False := by
  obtain ⟨t, ht, h2⟩ := h2
  rcases h1.2 with ⟨rfl, _⟩ | ⟨g1, cap, cur, rfl, _, hg, _⟩
  · cases e1
  · rcases h2.2 with ⟨rfl, _⟩ | ⟨g2, cap', cur', rfl, _, hg', _⟩
    · cases e2
    · simp only [Value.ownBlock, Option.some.injEq] at e1 e2
      rw [e1] at hg
      rw [e2, hg] at hg'
      have h : (106 : TypeId) = t := by injection hg' with hg'; injection hg'
      rcases ht with e | e <;> (rw [e] at h; exact absurd h (by decide))

section
variable {n₀ : Nat} {W W' : World} {v v' u : Value} {ps : List (List Int)} {V : List Value} {zs : List Int}

theorem PgB.nil (n₀ : Nat) (W : World) : PgB n₀ W (.slice none 0 0) [] [] := ⟨World.ownsRow_nil _ _ _ _, rfl, by simp⟩
theorem PgB.lt (h : PgB n₀ W v ps V) {g : Nat} (hb : blkP v V g) : n₀ ≤ g ∧ g < W.heap.size := by
  rcases hb with hb | ⟨u, hu, hb⟩
  · exact h.row.lt g hb
  · obtain ⟨i, hi⟩ := List.getElem?_of_mem hu
    have hl := (List.getElem?_eq_some_iff.1 hi).1
    obtain ⟨zs, hz⟩ : ∃ zs, ps[i]? = some zs := ⟨_, List.getElem?_eq_getElem (by rw [← h.len]; exact hl)⟩
    exact Gb.lt (h.by' i u zs hi hz) g hb
theorem PgB.kept (h : PgB n₀ W v ps V) {row : Option Nat} (hg : W.grownBy W' row) (hn : ∀ g, blkP v V g → row ≠ some g) : PgB n₀ W' v ps V := by
  refine ⟨h.row.kept hg ?_, h.len, fun i u zs hu hz => Gb.kept (h.by' i u zs hu hz) hg ?_⟩
  · cases hv : v.ownBlock with
    | none => exact .inl rfl
    | some g => exact .inr fun e => hn g (.inl hv) e.symm
  · cases hv : u.ownBlock with
    | none => exact .inl rfl
    | some g => exact .inr fun e => hn g (.inr ⟨u, List.mem_of_getElem? hu, hv⟩) e.symm
theorem PgB.below (h : PgB n₀ W v ps V) (hb : Below W.heap.size W W') : PgB n₀ W' v ps V :=
  h.kept (row := none) ⟨hb.os, hb.tape, hb.output, hb.size, fun k hk _ => hb.block k hk⟩ (fun g _ e => by cases e)
theorem PgB.base (h : PgB n₀ W v ps V) {m : Nat} (hm : m ≤ n₀) : PgB m W v ps V := ⟨ownsRow_base h.row hm, h.len, fun i u zs hu hz => Gb.base (h.by' i u zs hu hz) hm⟩

/-- One page more: what the append handed back. -/
theorem PgB.append (h : PgB n₀ W v ps V) (hu : Gb n₀ W u zs) (hrow : W'.ownsRow n₀ 106 1 v' (ps.length + 1) (V ++ [u])) (hg : W.grownBy W' v.ownBlock) : PgB n₀ W' v' (ps ++ [zs]) (V ++ [u]) := by
  have keep : ∀ {x : Value} {ys : List Int}, Gb n₀ W x ys → Gb n₀ W' x ys := fun {x ys} hx => Gb.kept hx hg (by
    cases hv : x.ownBlock with
    | none => exact .inl rfl
    | some g => exact .inr fun e => apart41 h.row hx e.symm hv)
  refine ⟨by simpa using hrow, by simp [h.len], fun i x ys hx hy => ?_⟩
  by_cases e : i < V.length
  · rw [List.getElem?_append_left e] at hx
    rw [List.getElem?_append_left (by rw [← h.len]; exact e)] at hy
    exact keep (h.by' i x ys hx hy)
  · rw [List.getElem?_append_right (by omega)] at hx
    rw [List.getElem?_append_right (by rw [← h.len]; omega), ← h.len] at hy
    have e0 : i - V.length = 0 := by
      have := (List.getElem?_eq_some_iff.1 hx).1
      simp at this; omega
    rw [e0] at hx hy
    simp at hx hy
    subst hx hy
    exact keep hu
/-- A page is another one. -/
theorem PgB.set (h : PgB n₀ W v ps V) (hu : Gb n₀ W u zs) {g n cap i : Nat} (hv : v = .slice (some ⟨g, 0, none⟩) n cap) (hi : i < ps.length) : PgB n₀ (W.setCell ⟨g, i, none⟩ u) v (ps.set i zs) (V.set i u) := by
  have hgv : v.ownBlock = some g := by rw [hv]; rfl
  have keep : ∀ {x : Value} {ys : List Int}, Gb n₀ W x ys → Gb n₀ (W.setCell ⟨g, i, none⟩ u) x ys := fun {x ys} hx => by
    refine Gb.other hx (a := ⟨g, i, none⟩) (fun e => ?_) u
    exact apart41 h.row hx hgv e
  have hn : n = ps.length := by
    have := h.row
    rw [hv] at this
    rcases this.2 with ⟨e, _⟩ | ⟨_, _, _, e, _⟩
    · cases e
    · injection e
  refine ⟨?_, by simp [h.len], fun j x ys hx hy => ?_⟩
  · have hr := h.row
    rw [hv, hn] at hr ⊢
    rw [List.length_set]
    exact (hr.stored i u).1
  · by_cases e : j = i
    · subst e
      rw [List.getElem?_set_self (by rw [h.len]; exact hi)] at hx
      rw [List.getElem?_set_self hi] at hy
      cases hx; cases hy
      exact keep hu
    · rw [List.getElem?_set_ne (by omega)] at hx hy
      exact keep (h.by' j x ys hx hy)
theorem blk_append {g : Nat} (hb : blkP v' (V ++ [u]) g) (hv : v'.ownBlock = v.ownBlock ∨ v'.ownBlock = some n₀) : blkP v V g ∨ g = n₀ ∨ u.ownBlock = some g := by
  rcases hb with hb | ⟨x, hx, hb⟩
  · rcases hv with e | e
    · exact .inl (.inl (by rw [← e]; exact hb))
    · rw [e] at hb; cases hb; exact .inr (.inl rfl)
  · rcases List.mem_append.1 hx with hx | hx
    · exact .inl (.inr ⟨x, hx, hb⟩)
    · simp at hx; subst hx; exact .inr (.inr hb)
theorem sep_append (h : SepV V) (hn : ∀ x ∈ V, ∀ g, u.ownBlock = some g → x.ownBlock ≠ some g) : SepV (V ++ [u]) := by
  have one : ∀ i x, (V ++ [u])[i]? = some x → (i < V.length ∧ V[i]? = some x) ∨ (i = V.length ∧ x = u) := fun i x hx => by
    by_cases e : i < V.length
    · rw [List.getElem?_append_left e] at hx; exact .inl ⟨e, hx⟩
    · rw [List.getElem?_append_right (by omega)] at hx
      have := (List.getElem?_eq_some_iff.1 hx).1
      have e0 : i - V.length = 0 := by simp at this; omega
      rw [e0] at hx
      simp at hx
      exact .inr ⟨by omega, hx.symm⟩
  intro i j x y g hij hx hy hg
  rcases one i x hx with ⟨a, hx1⟩ | ⟨a, e1⟩
  · rcases one j y hy with ⟨b, hy1⟩ | ⟨b, e2⟩
    · exact h i j x y g hij hx1 hy1 hg
    · exact fun e => hn x (List.mem_of_getElem? hx1) g (by rw [← e2]; exact e) hg
  · rcases one j y hy with ⟨b, hy1⟩ | ⟨b, e2⟩
    · exact hn y (List.mem_of_getElem? hy1) g (by rw [← e1]; exact hg)
    · omega
theorem sep_set (h : SepV V) {i : Nat} (hn : ∀ x ∈ V, ∀ g, u.ownBlock = some g → x.ownBlock ≠ some g) : SepV (V.set i u) := by
  have one : ∀ j x, (V.set i u)[j]? = some x → (j ≠ i ∧ V[j]? = some x) ∨ (j = i ∧ x = u) := fun j x hx => by
    by_cases e : j = i
    · subst e
      have hl := (List.getElem?_eq_some_iff.1 hx).1
      rw [List.getElem?_set_self (by simpa using hl)] at hx
      cases hx; exact .inr ⟨rfl, rfl⟩
    · rw [List.getElem?_set_ne (by omega)] at hx
      exact .inl ⟨e, hx⟩
  intro a b x y g hab hx hy hg
  rcases one a x hx with ⟨_, hx1⟩ | ⟨a1, e1⟩
  · rcases one b y hy with ⟨_, hy1⟩ | ⟨_, e2⟩
    · exact h a b x y g hab hx1 hy1 hg
    · exact fun e => hn x (List.mem_of_getElem? hx1) g (by rw [← e2]; exact e) hg
  · rcases one b y hy with ⟨_, hy1⟩ | ⟨b1, e2⟩
    · exact hn y (List.mem_of_getElem? hy1) g (by rw [← e1]; exact hg)
    · omega
end

end Go.Proofs.Ytonngopnhpmjaaa
