/-
  Edits in memory of one's own that are appended to; an answer's edits and pages.
-/
import Derived.Test.YteebbaleejbodaaAROwp

namespace Go.Proofs.Yteebbaleejbodaa
open Go.RowKit
set_option linter.unusedVariables false

/-- The cells of edits. -/
def edC (es : List (Int × List Int)) (V : List Value) : List Value := (es.zip V).flatMap fun x => [.int .i64 x.1.1, x.2]
theorem edC_snoc {es : List (Int × List Int)} {V : List Value} (h : V.length = es.length) (e : Int × List Int) (u : Value) : edC (es ++ [e]) (V ++ [u]) = edC es V ++ [.int .i64 e.1, u] := by
  unfold edC
  rw [List.zip_append h.symm, List.flatMap_append]
  rfl
theorem edC_at : ∀ (es : List (Int × List Int)) (V : List Value), V.length = es.length → ∀ i e u, es[i]? = some e → V[i]? = some u → (edC es V)[i * 2]? = some (.int .i64 e.1) ∧ (edC es V)[i * 2 + 1]? = some u
  | [], _, _, i, e, u, he, _ => by simp at he
  | x :: es, [], h, _, _, _, _, _ => by simp at h
  | x :: es, y :: V, h, i, e, u, he, hu => by
    have ec : edC (x :: es) (y :: V) = [.int .i64 x.1, y] ++ edC es V := rfl
    rw [ec]
    cases i with
    | zero =>
      simp at he hu
      subst he hu
      exact ⟨rfl, rfl⟩
    | succ i =>
      rw [List.getElem?_cons_succ] at he hu
      have := edC_at es V (by simpa using h) i e u he hu
      rw [List.getElem?_append_right (by simp; omega), List.getElem?_append_right (by simp; omega)]
      simp only [List.length_cons, List.length_nil]
      rw [show (i + 1) * 2 - (0 + 1 + 1) = i * 2 by omega, show (i + 1) * 2 + 1 - (0 + 1 + 1) = i * 2 + 1 by omega]
      exact this

/-- v holds the edits es, whose bytes V hold; all of it in blocks from n₀ on. -/
structure EdB (n₀ : Nat) (W : World) (v : Value) (es : List (Int × List Int)) (V : List Value) : Prop where
  row : W.ownsRow n₀ 192 2 v es.length (edC es V)
  len : V.length = es.length
  by' : ∀ (i : Nat) (u : Value) (e : Int × List Int), V[i]? = some u → es[i]? = some e → Gb n₀ W u e.2

theorem apartE {W : World} {b1 b2 n1 n2 s2 : Nat} {t2 : TypeId} {v1 v2 : Value} {x1 x2 : List Value} (h1 : W.ownsRow b1 192 2 v1 n1 x1) (h2 : W.ownsRow b2 t2 s2 v2 n2 x2) (ht : (192 : TypeId) ≠ t2) {g : Nat} (e1 : v1.ownBlock = some g) (e2 : v2.ownBlock = some g) : False := by
  rcases h1.2 with ⟨rfl, _⟩ | ⟨g1, cap, cur, rfl, _, hg, _⟩
  · cases e1
  · rcases h2.2 with ⟨rfl, _⟩ | ⟨g2, cap', cur', rfl, _, hg', _⟩
    · cases e2
    · simp only [Value.ownBlock, Option.some.injEq] at e1 e2
      rw [e1] at hg
      rw [e2, hg] at hg'
      exact ht (by injection hg' with hg'; injection hg')

theorem apartG {W : World} {b1 b2 n1 : Nat} {v1 v2 : Value} {x1 : List Value} {zs : List Int} (h1 : W.ownsRow b1 192 2 v1 n1 x1) (h2 : Gb b2 W v2 zs) {g : Nat} (e1 : v1.ownBlock = some g) (e2 : v2.ownBlock = some g) : False := by
  obtain ⟨t, ht, h2⟩ := h2
  refine apartE h1 h2 ?_ e1 e2
  rcases ht with rfl | rfl <;> decide
section
variable {n₀ : Nat} {W W' : World} {v v' u : Value} {es : List (Int × List Int)} {V : List Value} {zs : List Int}

theorem EdB.nil (n₀ : Nat) (W : World) : EdB n₀ W (.slice none 0 0) [] [] := ⟨World.ownsRow_nil _ _ _ _, rfl, by simp⟩
theorem EdB.lt (h : EdB n₀ W v es V) {g : Nat} (hb : blkP v V g) : n₀ ≤ g ∧ g < W.heap.size := by
  rcases hb with hb | ⟨u, hu, hb⟩
  · exact h.row.lt g hb
  · obtain ⟨i, hi⟩ := List.getElem?_of_mem hu
    have hl := (List.getElem?_eq_some_iff.1 hi).1
    obtain ⟨e, he⟩ : ∃ e, es[i]? = some e := ⟨_, List.getElem?_eq_getElem (by rw [← h.len]; exact hl)⟩
    exact Gb.lt (h.by' i u e hi he) g hb
theorem EdB.kept (h : EdB n₀ W v es V) {row : Option Nat} (hg : W.grownBy W' row) (hn : ∀ g, blkP v V g → row ≠ some g) : EdB n₀ W' v es V := by
  refine ⟨h.row.kept hg ?_, h.len, fun i u e hu he => Gb.kept (h.by' i u e hu he) hg ?_⟩
  · cases hv : v.ownBlock with
    | none => exact .inl rfl
    | some g => exact .inr fun e => hn g (.inl hv) e.symm
  · cases hv : u.ownBlock with
    | none => exact .inl rfl
    | some g => exact .inr fun e => hn g (.inr ⟨u, List.mem_of_getElem? hu, hv⟩) e.symm
theorem EdB.below (h : EdB n₀ W v es V) (hb : Below W.heap.size W W') : EdB n₀ W' v es V :=
  h.kept (row := none) ⟨hb.os, hb.tape, hb.output, hb.size, fun k hk _ => hb.block k hk⟩ (fun g _ e => by cases e)
theorem EdB.base (h : EdB n₀ W v es V) {m : Nat} (hm : m ≤ n₀) : EdB m W v es V := ⟨ownsRow_base h.row hm, h.len, fun i u e hu he => Gb.base (h.by' i u e hu he) hm⟩
theorem EdB.append (h : EdB n₀ W v es V) {p : Int} (hu : Gb n₀ W u zs) (hrow : W'.ownsRow n₀ 192 2 v' (es.length + 1) (edC es V ++ [.int .i64 p, u])) (hg : W.grownBy W' v.ownBlock) : EdB n₀ W' v' (es ++ [(p, zs)]) (V ++ [u]) := by
  have keep : ∀ {x : Value} {ys : List Int}, Gb n₀ W x ys → Gb n₀ W' x ys := fun {x ys} hx => Gb.kept hx hg (by
    cases hv : x.ownBlock with
    | none => exact .inl rfl
    | some g => exact .inr fun e => (apartG h.row hx e.symm hv))
  refine ⟨by rw [edC_snoc h.len, List.length_append]; exact hrow, by simp [h.len], fun i x ys hx hy => ?_⟩
  by_cases e : i < V.length
  · rw [List.getElem?_append_left e] at hx
    rw [List.getElem?_append_left (by rw [← h.len]; exact e)] at hy
    exact keep (h.by' i x ys hx hy)
  · rw [List.getElem?_append_right (by omega)] at hx
    rw [List.getElem?_append_right (by rw [← h.len]; omega), ← h.len] at hy
    have e0 : i - V.length = 0 := by
      have := (List.getElem?_eq_some_iff.1 hx).1
      simp at this; omega
    rw [e0] at hx hy
    simp at hx hy
    subst hx hy
    exact keep hu
end

/-- Bytes of one's own lie in one block. -/
theorem Gb.one {base : Nat} {w : World} {u : Value} {zs : List Int} (h : Gb base w u zs) : ∃ a c f, u = .slice a zs.length c ∧ BytesIn f (f + 1) w a zs ∧ (zs ≠ [] → u.ownBlock = some f) := by
  obtain ⟨t, ht, h⟩ := h
  rcases h.2 with ⟨rfl, h0⟩ | ⟨g, cap, cur, rfl, _⟩
  · have e : zs = [] := List.eq_nil_of_length_eq_zero h0
    subst e
    exact ⟨none, 0, 0, rfl, .inl rfl, fun h => absurd rfl h⟩
  · refine ⟨some ⟨g, 0, none⟩, cap, g, rfl, ?_, fun _ => rfl⟩
    refine .inr ⟨g, 0, rfl, Nat.le_refl _, Nat.lt_succ_self _, fun j hj => ?_, fun j hj => ?_⟩
    · rw [Nat.zero_add, World.ownsRow.cellAt h j (by omega)]
      simp [List.getElem?_eq_getElem hj, List.getD]
    · exact World.ownsRow.frozenAt h _

/-- Edits, told by functions. -/
def eP (es : List (Int × List Int)) (i : Nat) : Int := (es.getD i (0, [])).1
def eZ (es : List (Int × List Int)) (i : Nat) : List Int := (es.getD i (0, [])).2
theorem eP_at {es : List (Int × List Int)} {i : Nat} {e : Int × List Int} (h : es[i]? = some e) : eP es i = e.1 ∧ eZ es i = e.2 := by
  unfold eP eZ
  rw [List.getD_eq_getElem?_getD, h]
  exact ⟨rfl, rfl⟩
theorem EdB.own {n₀ : Nat} {W : World} {v : Value} {es : List (Int × List Int)} {V : List Value} (h : EdB n₀ W v es V) (hS : SepV V) : ∃ a c, v = .slice a es.length c ∧ (es = [] ∨ ∃ b A C F, a = some ⟨b, 0, none⟩ ∧ OwnE (blkP v V) W b es.length (eP es) A C (eZ es) F) := by
  have each : ∀ i, i < es.length → ∃ q : (Option Addr × Nat) × Nat, V[i]? = some (.slice q.1.1 (eZ es i).length q.1.2) ∧ BytesIn q.2 (q.2 + 1) W q.1.1 (eZ es i) ∧ (eZ es i ≠ [] → (Value.slice q.1.1 (eZ es i).length q.1.2).ownBlock = some q.2) := fun i hi => by
    have he : es[i]? = some es[i] := List.getElem?_eq_getElem hi
    have hu : V[i]? = some (V[i]'(by rw [h.len]; exact hi)) := List.getElem?_eq_getElem _
    obtain ⟨a, c, f, e1, e2, e3⟩ := (h.by' i _ _ hu he).one
    rw [(eP_at he).2]
    exact ⟨((a, c), f), by rw [hu, e1], e2, fun hn => by rw [← e1]; exact e3 hn⟩
  obtain ⟨q, hq⟩ := Go.Deep.choose_lt each
  rcases h.row.2 with ⟨rfl, h0⟩ | ⟨g, cap, cur, rfl, hn, hg, _⟩
  · exact ⟨none, 0, by rw [h0], .inl (List.eq_nil_of_length_eq_zero h0)⟩
  · refine ⟨some ⟨g, 0, none⟩, cap, rfl, .inr ⟨g, fun i => (q i).1.1, fun i => (q i).1.2, fun i => (q i).2, rfl, ?_⟩⟩
    have hr := h.row
    have cell : ∀ i, i < es.length → (edC es V)[i * 2]? = some (.int .i64 (eP es i)) ∧ (edC es V)[i * 2 + 1]? = some (.slice (q i).1.1 (eZ es i).length (q i).1.2) := fun i hi => by
      have he : es[i]? = some es[i] := List.getElem?_eq_getElem hi
      have := edC_at es V h.len i _ _ he (hq i hi).1
      rw [(eP_at he).1]
      exact this
    refine ⟨.inl rfl, fun i hi => ?_, fun i hi => ?_, fun i hi => hr.frozenAt _, fun i hi => hr.frozenAt _, fun i hi => (hq i hi).2.1, fun i hi hz => ⟨.inr ⟨_, List.mem_of_getElem? (hq i hi).1, (hq i hi).2.2 hz⟩, fun e => ?_⟩, fun i j hi hj hij z1 z2 e => ?_⟩
    · rw [hr.cellAt (i * 2) (by omega)]; exact (cell i hi).1
    · rw [hr.cellAt (i * 2 + 1) (by omega)]; exact (cell i hi).2
    · have hz' := (hq i hi).2.2 hz
      rw [e] at hz'
      have he : es[i]? = some es[i] := List.getElem?_eq_getElem hi
      exact apartG h.row (h.by' i _ _ (hq i hi).1 he) rfl hz'
    · have e1 := (hq i hi).2.2 z1
      have e2 := (hq j hj).2.2 z2
      exact hS i j _ _ _ hij (hq i hi).1 (hq j hj).1 e1 (by rw [e]; exact e2)
/-- Pages, told by a function. -/
def pZ (ps : List (List Int)) (i : Nat) : List Int := ps.getD i []
theorem pZ_at {ps : List (List Int)} {i : Nat} {zs : List Int} (h : ps[i]? = some zs) : pZ ps i = zs := by
  unfold pZ
  rw [List.getD_eq_getElem?_getD, h]
  rfl
theorem PgB.own {n₀ : Nat} {W : World} {v : Value} {ps : List (List Int)} {V : List Value} (h : PgB n₀ W v ps V) (hS : SepV V) : ∃ a c, v = .slice a ps.length c ∧ (ps = [] ∨ ∃ b A C F, a = some ⟨b, 0, none⟩ ∧ OwnQ (blkP v V) W b ps.length A C (pZ ps) F) := by
  have each : ∀ i, i < ps.length → ∃ q : (Option Addr × Nat) × Nat, V[i]? = some (.slice q.1.1 (pZ ps i).length q.1.2) ∧ BytesIn q.2 (q.2 + 1) W q.1.1 (pZ ps i) ∧ (pZ ps i ≠ [] → (Value.slice q.1.1 (pZ ps i).length q.1.2).ownBlock = some q.2) := fun i hi => by
    have he : ps[i]? = some ps[i] := List.getElem?_eq_getElem hi
    have hu : V[i]? = some (V[i]'(by rw [h.len]; exact hi)) := List.getElem?_eq_getElem _
    obtain ⟨a, c, f, e1, e2, e3⟩ := (h.by' i _ _ hu he).one
    rw [pZ_at he]
    exact ⟨((a, c), f), by rw [hu, e1], e2, fun hn => by rw [← e1]; exact e3 hn⟩
  obtain ⟨q, hq⟩ := Go.Deep.choose_lt each
  rcases h.row.2 with ⟨rfl, h0⟩ | ⟨g, cap, cur, rfl, hn, hg, _⟩
  · exact ⟨none, 0, by rw [h0], .inl (List.eq_nil_of_length_eq_zero h0)⟩
  · refine ⟨some ⟨g, 0, none⟩, cap, rfl, .inr ⟨g, fun i => (q i).1.1, fun i => (q i).1.2, fun i => (q i).2, rfl, ?_⟩⟩
    have hr := h.row
    refine ⟨.inl rfl, fun i hi => ?_, fun i hi => hr.frozenAt _, fun i hi => (hq i hi).2.1, fun i hi hz => ⟨.inr ⟨_, List.mem_of_getElem? (hq i hi).1, (hq i hi).2.2 hz⟩, fun e => ?_⟩, fun i j hi hj hij z1 z2 e => ?_⟩
    · rw [hr.cellAt i (by omega)]; exact (hq i hi).1
    · have hz' := (hq i hi).2.2 hz
      rw [e] at hz'
      have he : ps[i]? = some ps[i] := List.getElem?_eq_getElem hi
      exact apart41 h.row (h.by' i _ _ (hq i hi).1 he) rfl hz'
    · have e1 := (hq i hi).2.2 z1
      have e2 := (hq j hj).2.2 z2
      exact hS i j _ _ _ hij (hq i hi).1 (hq j hj).1 e1 (by rw [e]; exact e2)

/-- An answer's edits and pages. -/
structure Ans (n₀ : Nat) (W : World) (v1 : Value) (es : List (Int × List Int)) (V1 : List Value) (v2 : Value) (ps : List (List Int)) (V2 : List Value) : Prop where
  e : EdB n₀ W v1 es V1
  p : PgB n₀ W v2 ps V2
  s1 : SepV V1
  s2 : SepV V2
  d : ∀ g, blkP v1 V1 g → ¬ blkP v2 V2 g
theorem Ans.below {n₀ : Nat} {W W' : World} {v1 v2 : Value} {es : List (Int × List Int)} {ps : List (List Int)} {V1 V2 : List Value} (h : Ans n₀ W v1 es V1 v2 ps V2) (hb : Below W.heap.size W W') : Ans n₀ W' v1 es V1 v2 ps V2 := ⟨h.e.below hb, h.p.below hb, h.s1, h.s2, h.d⟩
theorem Ans.kept {n₀ : Nat} {W W' : World} {v1 v2 : Value} {es : List (Int × List Int)} {ps : List (List Int)} {V1 V2 : List Value} (h : Ans n₀ W v1 es V1 v2 ps V2) {row : Option Nat} (hg : W.grownBy W' row) (h1 : ∀ g, blkP v1 V1 g → row ≠ some g) (h2 : ∀ g, blkP v2 V2 g → row ≠ some g) : Ans n₀ W' v1 es V1 v2 ps V2 := ⟨h.e.kept hg h1, h.p.kept hg h2, h.s1, h.s2, h.d⟩
theorem Ans.base {n₀ : Nat} {W : World} {v1 v2 : Value} {es : List (Int × List Int)} {ps : List (List Int)} {V1 V2 : List Value} (h : Ans n₀ W v1 es V1 v2 ps V2) {m : Nat} (hm : m ≤ n₀) : Ans m W v1 es V1 v2 ps V2 := ⟨h.e.base hm, h.p.base hm, h.s1, h.s2, h.d⟩

end Go.Proofs.Yteebbaleejbodaa
