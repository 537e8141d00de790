/-
  Edits in memory of one's own that are appended to; an answer's edits and pages.
-/
import Derived.Test.YtnfolgoloaeanaaGreatUMsp

namespace Go.Proofs.YtnfolgoloaeanaaGreat
open Go.RowKit
set_option linter.unusedVariables false

/-- The cells of edits. -/
def edC (es : List (Int × List Int)) (V : List Value) : List Value := (es.zip V).flatMap fun x => [.int .i64 x.1.1, x.2]
theorem edC_snoc {es : List (Int × List Int)} {V : List Value} (h : V.length = es.length) (e : Int × List Int) (u : Value) : edC (es ++ [e]) (V ++ [u]) = edC es V ++ [.int .i64 e.1, u] := by
  unfold edC
  rw [List.zip_append h.symm, List.flatMap_append]
  rfl
theorem edC_at : ∀ (es : List (Int × List Int)) (V : List Value), V.length = es.length → ∀ i e u, es[i]? = some e → V[i]? = some u → (edC es V)[i * 2]? = some (.int .i64 e.1) ∧ (edC es V)[i * 2 + 1]? = some u
  | [], _, _, i, e, u, he, _ => by simp at he
  | x :: es, [], h, _, _, _, _, _ => by simp at h
  | x :: es, y :: V, h, i, e, u, he, hu => by
    have ec : edC (x :: es) (y :: V) = [.int .i64 x.1, y] ++ edC es V := rfl
    rw [ec]
    cases i with
    | zero =>
      simp at he hu
      subst he hu
      exact ⟨rfl, rfl⟩
    | succ i =>
      rw [List.getElem?_cons_succ] at he hu
      have := edC_at es V (by simpa using h) i e u he hu
      rw [List.getElem?_append_right (by simp; omega), List.getElem?_append_right (by simp; omega)]
      simp only [List.length_cons, List.length_nil]
      rw [show (i + 1) * 2 - (0 + 1 + 1) = i * 2 by omega, show (i + 1) * 2 + 1 - (0 + 1 + 1) = i * 2 + 1 by omega]
      exact this

/-- v holds the edits es, whose bytes V hold; all of it in blocks from n₀ on. -/
structure EdB (n₀ : Nat) (W : World) (v : Value) (es : List (Int × List Int)) (V : List Value) : Prop where
  row : W.ownsRow n₀ 133 2 v es.length (edC es V)
  len : V.length = es.length
  by' : ∀ (i : Nat) (u : Value) (e : Int × List Int), V[i]? = some u → es[i]? = some e → Gb n₀ W u e.2

theorem apartE {W : World} {b1 b2 n1 n2 s2 : Nat} {t2 : TypeId} {v1 v2 : Value} {x1 x2 : List Value} (h1 : W.ownsRow b1 133 2 v1 n1 x1) (h2 : W.ownsRow b2 t2 s2 v2 n2 x2) (ht : (133 : TypeId) ≠ t2) {g : Nat} (e1 : v1.ownBlock = some g) (e2 : v2.ownBlock = some g) : False := by
  rcases h1.2 with ⟨rfl, _⟩ | ⟨g1, cap, cur, rfl, _, hg, _⟩
  · cases e1
  · rcases h2.2 with ⟨rfl, _⟩ | ⟨g2, cap', cur', rfl, _, hg', _⟩
    · cases e2
    · simp only [Value.ownBlock, Option.some.injEq] at e1 e2
      rw [e1] at hg
      rw [e2, hg] at hg'
      exact ht (by injection hg' with hg'; injection hg')

theorem apartG {W : World} {b1 b2 n1 : Nat} {v1 v2 : Value} {x1 : List Value} {zs : List Int} (h1 : W.ownsRow b1 133 2 v1 n1 x1) (h2 : Gb b2 W v2 zs) {g : Nat} (e1 : v1.ownBlock = some g) (e2 : v2.ownBlock = some g) : False := by
  obtain ⟨t, ht, h2⟩ := h2
  refine apartE h1 h2 ?_ e1 e2
  rcases ht with rfl | rfl <;> decide
section
variable {n₀ : Nat} {W W' : World} {v v' u : Value} {es : List (Int × List Int)} {V : List Value} {zs : List Int}

theorem EdB.nil (n₀ : Nat) (W : World) : EdB n₀ W (.slice none 0 0) [] [] := ⟨World.ownsRow_nil _ _ _ _, rfl, by simp⟩
theorem EdB.lt (h : EdB n₀ W v es V) {g : Nat} (hb : blkP v V g) : n₀ ≤ g ∧ g < W.heap.size := by
  rcases hb with hb | ⟨u, hu, hb⟩
  · exact h.row.lt g hb
  · obtain ⟨i, hi⟩ := List.getElem?_of_mem hu
    have hl := (List.getElem?_eq_some_iff.1 hi).1
    obtain ⟨e, he⟩ : ∃ e, es[i]? = some e := ⟨_, List.getElem?_eq_getElem (by rw [← h.len]; exact hl)⟩
    exact Gb.lt (h.by' i u e hi he) g hb
theorem EdB.kept (h : EdB n₀ W v es V) {row : Option Nat} (hg : W.grownBy W' row) (hn : ∀ g, blkP v V g → row ≠ some g) : EdB n₀ W' v es V := by
  refine ⟨h.row.kept hg ?_, h.len, fun i u e hu he => Gb.kept (h.by' i u e hu he) hg ?_⟩
  · cases hv : v.ownBlock with
    | none => exact .inl rfl
    | some g => exact .inr fun e => hn g (.inl hv) e.symm
  · cases hv : u.ownBlock with
    | none => exact .inl rfl
    | some g => exact .inr fun e => hn g (.inr ⟨u, List.mem_of_getElem? hu, hv⟩) e.symm
theorem EdB.below (h : EdB n₀ W v es V) (hb : Below W.heap.size W W') : EdB n₀ W' v es V :=
  h.kept (row := none) ⟨hb.os, hb.tape, hb.output, hb.size, fun k hk _ => hb.block k hk⟩ (fun g _ e => by cases e)
theorem EdB.base (h : EdB n₀ W v es V) {m : Nat} (hm : m ≤ n₀) : EdB m W v es V := ⟨ownsRow_base h.row hm, h.len, fun i u e hu he => Gb.base (h.by' i u e hu he) hm⟩
theorem EdB.append (h : EdB n₀ W v es V) {p : Int} (hu : Gb n₀ W u zs) (hrow : W'.ownsRow n₀ 133 2 v' (es.length + 1) (edC es V ++ [.int .i64 p, u])) (hg : W.grownBy W' v.ownBlock) : EdB n₀ W' v' (es ++ [(p, zs)]) (V ++ [u]) := by
  have keep : ∀ {x : Value} {ys : List Int}, Gb n₀ W x ys → Gb n₀ W' x ys := fun {x ys} hx => Gb.kept hx hg (by
    cases hv : x.ownBlock with
    | none => exact .inl rfl
    | some g => exact .inr fun e => (apartG h.row hx e.symm hv))
  refine ⟨by rw [edC_snoc h.len, List.length_append]; exact hrow, by simp [h.len], fun i x ys hx hy => ?_⟩
  by_cases e : i < V.length
  · rw [List.getElem?_append_left e] at hx
    rw [List.getElem?_append_left (by rw [← h.len]; exact e)] at hy
    exact keep (h.by' i x ys hx hy)
  · rw [List.getElem?_append_right (by omega)] at hx
    rw [List.getElem?_append_right (by rw [← h.len]; omega), ← h.len] at hy
    have e0 : i - V.length = 0 := by
      have := (List.getElem?_eq_some_iff.1 hx).1
      simp at this; omega
    rw [e0] at hx hy
    simp at hx hy
    subst hx hy
    exact keep hu
end

/-- Bytes of one's own lie in one block. -/
theorem Gb.one {base : Nat} {w : World} {u : Value} {zs : List Int} (h : Gb base w u zs) : ∃ a c f, u = .slice a zs.length c ∧ BytesIn f (f + 1) w a zs ∧ (zs ≠ [] → u.ownBlock = some f) := by
  obtain ⟨t, ht, h⟩ := h
  rcases h.2 with ⟨rfl, h0⟩ | ⟨g, cap, cur, rfl, _⟩
  · have e : zs = [] := List.eq_nil_of_length_eq_zero h0
    subst e
    exact ⟨none, 0, 0, rfl, .inl rfl, fun h => absurd rfl h⟩
  · refine ⟨some ⟨g, 0, none⟩, cap, g, rfl, ?_, fun _ => rfl⟩
    refine .inr ⟨g, 0, rfl, Nat.le_refl _, Nat.lt_succ_self _, fun j hj => ?_, fun j hj => ?_⟩
    · rw [Nat.zero_add, World.ownsRow.cellAt h j (by omega)]
      simp [List.getElem?_eq_getElem hj, List.getD]
    · exact World.ownsRow.frozenAt h _

/-- Edits, told by functions. -/
def eP (es : List (Int × List Int)) (i : Nat) : Int := (es.getD i (0, [])).1
def eZ (es : List (Int × List Int)) (i : Nat) : List Int := (es.getD i (0, [])).2
theorem eP_at {es : List (Int × List Int)} {i : Nat} {e : Int × List Int} (h : es[i]? = some e) : eP es i = e.1 ∧ eZ es i = e.2 := by
  unfold eP eZ
  rw [List.getD_eq_getElem?_getD, h]
  exact ⟨rfl, rfl⟩
theorem EdB.own {n₀ : Nat} {W : World} {v : Value} {es : List (Int × List Int)} {V : List Value} (h : EdB n₀ W v es V) (hS : SepV V) : ∃ a c, v = .slice a es.length c ∧ (es = [] ∨ ∃ b A C F, a = some ⟨b, 0, none⟩ ∧ OwnE (blkP v V) W b es.length (eP es) A C (eZ es) F) := by
  have each : ∀ i, i < es.length → ∃ q : (Option Addr × Nat) × Nat, V[i]? = some (.slice q.1.1 (eZ es i).length q.1.2) ∧ BytesIn q.2 (q.2 + 1) W q.1.1 (eZ es i) ∧ (eZ es i ≠ [] → (Value.slice q.1.1 (eZ es i).length q.1.2).ownBlock = some q.2) := fun i hi => by
    have he : es[i]? = some es[i] := List.getElem?_eq_getElem hi
    have hu : V[i]? = some (V[i]'(by rw [h.len]; exact hi)) := List.getElem?_eq_getElem _
    obtain ⟨a, c, f, e1, e2, e3⟩ := (h.by' i _ _ hu he).one
    rw [(eP_at he).2]
    exact ⟨((a, c), f), by rw [hu, e1], e2, fun hn => by rw [← e1]; exact e3 hn⟩
  obtain ⟨q, hq⟩ := Go.Deep.choose_lt each
  rcases h.row.2 with ⟨rfl, h0⟩ | ⟨g, cap, cur, rfl, hn, hg, _⟩
  · exact ⟨none, 0, by rw [h0], .inl (List.eq_nil_of_length_eq_zero h0)⟩
  · refine ⟨some ⟨g, 0, none⟩, cap, rfl, .inr ⟨g, fun i => (q i).1.1, fun i => (q i).1.2, fun i => (q i).2, rfl, ?_⟩⟩
    have hr := h.row
    have cell : ∀ i, i < es.length → (edC es V)[i * 2]? = some (.int .i64 (eP es i)) ∧ (edC es V)[i * 2 + 1]? = some (.slice (q i).1.1 (eZ es i).length (q i).1.2) := fun i hi => by
      have he : es[i]? = some es[i] := List.getElem?_eq_getElem hi
      have := edC_at es V h.len i _ _ he (hq i hi).1
      rw [(eP_at he).1]
      exact this
    refine ⟨.inl rfl, fun i hi => ?_, fun i hi => ?_, fun i hi => hr.frozenAt _, fun i hi => hr.frozenAt _, fun i hi => (hq i hi).2.1, fun i hi hz => ⟨.inr ⟨_, List.mem_of_getElem? (hq i hi).1, (hq i hi).2.2 hz⟩, fun e => ?_⟩, fun i j hi hj hij z1 z2 e => ?_⟩
    · rw [hr.cellAt (i * 2) (by omega)]; exact (cell i hi).1
    · rw [hr.cellAt (i * 2 + 1) (by omega)]; exact (cell i hi).2
    · have hz' := (hq i hi).2.2 hz
      rw [e] at hz'
      have he : es[i]? = some es[i] := List.getElem?_eq_getElem hi
      exact apartG h.row (h.by' i _ _ (hq i hi).1 he) rfl hz'
    · have e1 := (hq i hi).2.2 z1
      have e2 := (hq j hj).2.2 z2
      exact hS i j _ _ _ hij (hq i hi).1 (hq j hj).1 e1 (by rw [e]; exact e2)
/-- Pages, told by a function. -/
def pZ (ps : List (List Int)) (i : Nat) : List Int := ps.getD i []
theorem pZ_at {ps : List (List Int)} {i : Nat} {zs : List Int} (h : ps[i]? = some zs) : pZ ps i = zs := by
  unfold pZ
  rw [List.getD_eq_getElem?_getD, h]
  rfl
theorem PgB.own {n₀ : Nat} {W : World} {v : Value} {ps : List (List Int)} {V : List Value} (h : PgB n₀ W v ps V) (hS : SepV V) : ∃ a c, v = .slice a ps.length c ∧ (ps = [] ∨ ∃ b A C F, a = some ⟨b, 0, none⟩ ∧ OwnQ (blkP v V) W b ps.length A C (pZ ps) F) := by
  have each : ∀ i, i < ps.length → ∃ q : (Option Addr × Nat) × Nat, V[i]? = some (.slice q.1.1 (pZ ps i).length q.1.2) ∧ BytesIn q.2 (q.2 + 1) W q.1.1 (pZ ps i) ∧ (pZ ps i ≠ [] → (Value.slice q.1.1 (pZ ps i).length q.1.2).ownBlock = some q.2) := fun i hi => by
    have he : ps[i]? = some ps[i] := List.getElem?_eq_getElem hi
    have hu : V[i]? = some (V[i]'(by rw [h.len]; exact hi)) := List.getElem?_eq_getElem _
    obtain ⟨a, c, f, e1, e2, e3⟩ := (h.by' i _ _ hu he).one
    rw [pZ_at he]
    exact ⟨((a, c), f), by rw [hu, e1], e2, fun hn => by rw [← e1]; exact e3 hn⟩
  obtain ⟨q, hq⟩ := Go.Deep.choose_lt each
  rcases h.row.2 with ⟨rfl, h0⟩ | ⟨g, cap, cur, rfl, hn, hg, _⟩
  · exact ⟨none, 0, by rw [h0], .inl (List.eq_nil_of_length_eq_zero h0)⟩
  · refine ⟨some ⟨g, 0, none⟩, cap, rfl, .inr ⟨g, fun i => (q i).1.1, fun i => (q i).1.2, fun i => (q i).2, rfl, ?_⟩⟩
    have hr := h.row
    refine ⟨.inl rfl, fun i hi => ?_, fun i hi => hr.frozenAt _, fun i hi => (hq i hi).2.1, fun i hi hz => ⟨.inr ⟨_, List.mem_of_getElem? (hq i hi).1, (hq i hi).2.2 hz⟩, fun e => ?_⟩, fun i j hi hj hij z1 z2 e => ?_⟩
    · rw [hr.cellAt i (by omega)]; exact (hq i hi).1
    · have hz' := (hq i hi).2.2 hz
      rw [e] at hz'
      have he : ps[i]? = some ps[i] := List.getElem?_eq_getElem hi
      exact apart41 h.row (h.by' i _ _ (hq i hi).1 he) rfl hz'
    · have e1 := (hq i hi).2.2 z1
      have e2 := (hq j hj).2.2 z2
      exact hS i j _ _ _ hij (hq i hi).1 (hq j hj).1 e1 (by rw [e]; exact e2)

/-- An answer's edits and pages. -/
structure Ans (n₀ : Nat) (W : World) (v1 : Value) (es : List (Int × List Int)) (V1 : List Value) (v2 : Value) (ps : List (List Int)) (V2 : List Value) : Prop where
  e : EdB n₀ W v1 es V1
  p : PgB n₀ W v2 ps V2
  s1 : SepV V1
  s2 : SepV V2
  d : ∀ g, blkP v1 V1 g → ¬ blkP v2 V2 g
theorem Ans.below {n₀ : Nat} {W W' : World} {v1 v2 : Value} {es : List (Int × List Int)} {ps : List (List Int)} {V1 V2 : List Value} (h : Ans n₀ W v1 es V1 v2 ps V2) (hb : Below W.heap.size W W') : Ans n₀ W' v1 es V1 v2 ps V2 := ⟨h.e.below hb, h.p.below hb, h.s1, h.s2, h.d⟩
theorem Ans.kept {n₀ : Nat} {W W' : World} {v1 v2 : Value} {es : List (Int × List Int)} {ps : List (List Int)} {V1 V2 : List Value} (h : Ans n₀ W v1 es V1 v2 ps V2) {row : Option Nat} (hg : W.grownBy W' row) (h1 : ∀ g, blkP v1 V1 g → row ≠ some g) (h2 : ∀ g, blkP v2 V2 g → row ≠ some g) : Ans n₀ W' v1 es V1 v2 ps V2 := ⟨h.e.kept hg h1, h.p.kept hg h2, h.s1, h.s2, h.d⟩
theorem Ans.base {n₀ : Nat} {W : World} {v1 v2 : Value} {es : List (Int × List Int)} {ps : List (List Int)} {V1 V2 : List Value} (h : Ans n₀ W v1 es V1 v2 ps V2) {m : Nat} (hm : m ≤ n₀) : Ans m W v1 es V1 v2 ps V2 := ⟨h.e.base hm, h.p.base hm, h.s1, h.s2, h.d⟩


def HasE (S : Nat → Prop) (w : World) (a : Option Addr) (es : List (Int × List Int)) : Prop := es = [] ∨ ∃ b A C F, a = some ⟨b, 0, none⟩ ∧ OwnE S w b es.length (eP es) A C (eZ es) F
def HasQ (S : Nat → Prop) (w : World) (a : Option Addr) (ps : List (List Int)) : Prop := ps = [] ∨ ∃ b A C F, a = some ⟨b, 0, none⟩ ∧ OwnQ S w b ps.length A C (pZ ps) F
theorem HasE.below {S : Nat → Prop} {w w' : World} {a : Option Addr} {es : List (Int × List Int)} (h : HasE S w a es) (hb : Below w.heap.size w w') : HasE S w' a es := by
  rcases h with h | ⟨b, A, C, F, e, h⟩
  · exact .inl h
  · exact .inr ⟨b, A, C, F, e, h.below hb⟩
theorem HasQ.below {S : Nat → Prop} {w w' : World} {a : Option Addr} {ps : List (List Int)} (h : HasQ S w a ps) (hb : Below w.heap.size w w') : HasQ S w' a ps := by
  rcases h with h | ⟨b, A, C, F, e, h⟩
  · exact .inl h
  · exact .inr ⟨b, A, C, F, e, h.below hb⟩
theorem HasQ.turned {S S' : Nat → Prop} {w w' : World} {a : Option Addr} {ps : List (List Int)} (h : HasQ S w a ps) (ht : TurnS S' w w') (hn : ∀ k, S k → ¬ S' k) : HasQ S w' a ps := by
  rcases h with h | ⟨b, A, C, F, e, h⟩
  · exact .inl h
  · exact .inr ⟨b, A, C, F, e, h.turned ht hn⟩
theorem HasE.turned {S S' : Nat → Prop} {w w' : World} {a : Option Addr} {es : List (Int × List Int)} (h : HasE S w a es) (ht : TurnS S' w w') (hn : ∀ k, S k → ¬ S' k) : HasE S w' a es := by
  rcases h with h | ⟨b, A, C, F, e, h⟩
  · exact .inl h
  · exact .inr ⟨b, A, C, F, e, h.turned ht hn⟩
/-- How many values edits, and pages, have. -/
def bigE (es : List (Int × List Int)) : Nat := es.length + took (eZ es) es.length
def bigQ (ps : List (List Int)) : Nat := ps.length + took (pZ ps) ps.length

set_option maxHeartbeats 1000000 in
theorem eqEditS_has (S S' : Nat → Prop) (a b : Option Addr) (n c d : Nat) (es : List (Int × List Int)) (w : World) (hn : es.length = n) (hm : bigE es ≤ 13000000) (hx : HasE S w a es) (hy : HasE S' w b es) :
    Calls Tryz.prog 92 #[.slice a n c, .slice b n d] w fun e w' => e = .returned (.bool true) ∧ Below w.heap.size w w' := by
  by_cases h0 : es = []
  · subst h0
    have hn0 : n = 0 := by simpa using hn.symm
    subst hn0
    clear hx hy hn
    go_enter Tryz.func92, Tryz.ntmps92
    go_wp2_with fail
    go_rounds 1
    go_ret
    exact ⟨rfl, Below.refl _ _⟩
  · rcases hx with h | ⟨x, A, C, F, rfl, hx⟩
    · exact absurd h h0
    · rcases hy with h | ⟨y, B, D, G, rfl, hy⟩
      · exact absurd h h0
      · subst hn
        exact eqEditS_own x y es.length c d (eP es) A B C D (eZ es) F G S S' w hm hx hy
set_option maxHeartbeats 1000000 in
theorem eqByteSS_has (S S' : Nat → Prop) (a b : Option Addr) (n c d : Nat) (ps : List (List Int)) (w : World) (hn : ps.length = n) (hm : bigQ ps ≤ 13000000) (hx : HasQ S w a ps) (hy : HasQ S' w b ps) :
    Calls Tryz.prog 40 #[.slice a n c, .slice b n d] w fun e w' => e = .returned (.bool true) ∧ Below w.heap.size w w' := by
  by_cases h0 : ps = []
  · subst h0
    have hn0 : n = 0 := by simpa using hn.symm
    subst hn0
    clear hx hy hn
    go_enter Tryz.func40, Tryz.ntmps40
    go_wp2_with fail
    go_rounds 1
    go_ret
    exact ⟨rfl, Below.refl _ _⟩
  · rcases hx with h | ⟨x, A, C, F, rfl, hx⟩
    · exact absurd h h0
    · rcases hy with h | ⟨y, B, D, G, rfl, hy⟩
      · exact absurd h h0
      · subst hn
        unfold bigQ at hm
        refine eqByteSS_q x y ps.length c d A B C D (pZ ps) F G S S' w ?_ (fun i hi => ?_) hx hy
        · omega
        · have := took_one (pZ ps) i ps.length hi
          omega
set_option maxHeartbeats 1000000 in
theorem eqEditsResult_same (q : Int) (S1 S2 S3 S4 : Nat → Prop) (a b x y : Option Addr) (n m c d c' d' : Nat) (es : List (Int × List Int)) (ps : List (List Int)) (w : World) (hn : es.length = n) (hp : ps.length = m) (hm : bigE es ≤ 13000000) (hm' : bigQ ps ≤ 13000000) (h1 : HasE S1 w a es) (h2 : HasQ S2 w b ps) (h3 : HasE S3 w x es) (h4 : HasQ S4 w y ps) :
    Calls Tryz.prog 39 #[.agg #[.int .i64 q, .slice a n c, .slice b m d], .agg #[.int .i64 q, .slice x n c', .slice y m d']] w fun e w' => e = .returned (.bool true) ∧ Below w.heap.size w w' := by
  have gX : Below w.heap.size w ((w.alloc (.cells #[.int .i64 q, .slice a n c, .slice b m d] 31)).alloc (.cells #[.int .i64 q, .slice x n c', .slice y m d'] 31)) := by go_grown
  obtain ⟨X, hX⟩ : ∃ X, (w.alloc (.cells #[.int .i64 q, .slice a n c, .slice b m d] 31)).alloc (.cells #[.int .i64 q, .slice x n c', .slice y m d'] 31) = X := ⟨_, rfl⟩
  have p0 : X.cell? ⟨w.heap.size, 0, none⟩ = some (.int .i64 q) := by rw [← hX]; simp [go_sem]
  have p1 : X.cell? ⟨w.heap.size, 1, none⟩ = some (.slice a n c) := by rw [← hX]; simp [go_sem]
  have p2 : X.cell? ⟨w.heap.size, 2, none⟩ = some (.slice b m d) := by rw [← hX]; simp [go_sem]
  have q0 : X.cell? ⟨w.heap.size + 1, 0, none⟩ = some (.int .i64 q) := by rw [← hX]; simp [go_sem]
  have q1 : X.cell? ⟨w.heap.size + 1, 1, none⟩ = some (.slice x n c') := by rw [← hX]; simp [go_sem]
  have q2 : X.cell? ⟨w.heap.size + 1, 2, none⟩ = some (.slice y m d') := by rw [← hX]; simp [go_sem]
  rw [hX] at gX
  have h1 := h1.below gX
  have h2 := h2.below gX
  have h3 := h3.below gX
  have h4 := h4.below gX
  have hcon := eqEditS_has S1 S3 a x n c c' es X hn hm h1 h3
  have HC2 : Hid (∀ V, Below X.heap.size X V → Calls Tryz.prog 40 #[.slice b m d, .slice y m d'] V fun e w' => e = .returned (.bool true) ∧ Below V.heap.size V w') := fun V hV => eqByteSS_has S2 S4 b y m d d' ps V hp hm' (h2.below hV) (h4.below hV)
  have hb0 : w.heap.size < X.heap.size := World.block_lt_of_cell? _ _ p0
  have hb1 : w.heap.size + 1 < X.heap.size := World.block_lt_of_cell? _ _ q0
  clear h1 h2 h3 h4 hm hm' hn hp
  go_enter Tryz.func39, Tryz.ntmps39
  go_wp2_with (go_at_call 92; refine hcon.mono ?_)
  rintro e w1 ⟨rfl, g1⟩
  have p2 := (g1.cell hb0).trans p2
  have q2 := (g1.cell hb1).trans q2
  have hcon2 := HC2.out _ g1
  have g := gX.trans (g1.mono gX.size)
  clear p0 p1 q0 q1 hcon g1 gX hX HC2
  go_wp2_with (go_at_call 40; refine hcon2.mono ?_)
  rintro e w2 ⟨rfl, g2⟩
  have g := g.trans (g2.mono g.size)
  clear g2 hcon2 p2 q2
  go_wp2_with fail
  go_ret
  exact ⟨rfl, g⟩

/-- Marked edits and pages. -/
def MarkE (S : Nat → Prop) (w : World) (a : Option Addr) (es : List (Int × List Int)) (k : Int) : Prop := es = [] ∨ ∃ b A C F, a = some ⟨b, 0, none⟩ ∧ OwnE S w b es.length (mk (eZ es) k) A C (mZ (eZ es) k) F
def MarkQ (S : Nat → Prop) (w : World) (a : Option Addr) (ps : List (List Int)) (k : Int) : Prop := ps = [] ∨ ∃ b A C F, a = some ⟨b, 0, none⟩ ∧ OwnQ S w b ps.length A C (mZP (pZ ps) k) F
theorem MarkE.below {S : Nat → Prop} {w w' : World} {a : Option Addr} {es : List (Int × List Int)} {k : Int} (h : MarkE S w a es k) (hb : Below w.heap.size w w') : MarkE S w' a es k := by
  rcases h with h | ⟨b, A, C, F, e, h⟩
  · exact .inl h
  · exact .inr ⟨b, A, C, F, e, h.below hb⟩
theorem MarkQ.below {S : Nat → Prop} {w w' : World} {a : Option Addr} {ps : List (List Int)} {k : Int} (h : MarkQ S w a ps k) (hb : Below w.heap.size w w') : MarkQ S w' a ps k := by
  rcases h with h | ⟨b, A, C, F, e, h⟩
  · exact .inl h
  · exact .inr ⟨b, A, C, F, e, h.below hb⟩
theorem MarkE.turned {S S' : Nat → Prop} {w w' : World} {a : Option Addr} {es : List (Int × List Int)} {k : Int} (h : MarkE S w a es k) (ht : TurnS S' w w') (hn : ∀ k, S k → ¬ S' k) : MarkE S w' a es k := by
  rcases h with h | ⟨b, A, C, F, e, h⟩
  · exact .inl h
  · exact .inr ⟨b, A, C, F, e, h.turned ht hn⟩
/-- The number behind the marks of edits. -/
def endE (es : List (Int × List Int)) (k : Int) : Int := mk (eZ es) k es.length
def endQ (ps : List (List Int)) (k : Int) : Int := mkP (pZ ps) k ps.length

set_option maxHeartbeats 1000000 in
theorem markEditS_has (S : Nat → Prop) (a : Option Addr) (n c : Nat) (es : List (Int × List Int)) (k : Int) (w : World) (hn : es.length = n) (hm : bigE es ≤ 13000000) (hk0 : 0 ≤ k) (hk1 : k ≤ 10000000) (h : HasE S w a es) :
    Calls Tryz.prog 95 #[.slice a n c, .int .i64 k] w fun e w' => e = .returned (.int .i64 (endE es k)) ∧ TurnS S w w' ∧ MarkE S w' a es k := by
  by_cases h0 : es = []
  · subst h0
    have hn0 : n = 0 := by simpa using hn.symm
    subst hn0
    have HE : Hid (endE [] k = k) := by show _ = _; simp [endE, mk, took]
    clear h hn
    go_enter Tryz.func95, Tryz.ntmps95
    go_wp2_with fail
    go_rounds 1
    go_ret
    exact ⟨by rw [HE.out]; rfl, TurnS.refl _ _, .inl rfl⟩
  · rcases h with h | ⟨b, A, C, F, rfl, h⟩
    · exact absurd h h0
    · subst hn
      refine (markEditS_q b es.length c S (eP es) A C (eZ es) F k w hm hk0 hk1 h).mono ?_
      rintro e w' ⟨h1, h2, h3⟩
      exact ⟨h1, h2, .inr ⟨b, A, C, F, rfl, h3⟩⟩
set_option maxHeartbeats 1000000 in
theorem markByteSS_has (S : Nat → Prop) (a : Option Addr) (n c : Nat) (ps : List (List Int)) (k : Int) (w : World) (hn : ps.length = n) (hm : bigQ ps ≤ 13000000) (hk0 : 0 ≤ k) (hk1 : k ≤ 10000000) (h : HasQ S w a ps) :
    Calls Tryz.prog 41 #[.slice a n c, .int .i64 k] w fun e w' => e = .returned (.int .i64 (endQ ps k)) ∧ TurnS S w w' ∧ MarkQ S w' a ps k := by
  by_cases h0 : ps = []
  · subst h0
    have hn0 : n = 0 := by simpa using hn.symm
    subst hn0
    have HE : Hid (endQ [] k = k) := by show _ = _; simp [endQ, mkP, took]
    clear h hn
    go_enter Tryz.func41, Tryz.ntmps41
    go_wp2_with fail
    go_rounds 1
    go_ret
    exact ⟨by rw [HE.out]; rfl, TurnS.refl _ _, .inl rfl⟩
  · rcases h with h | ⟨b, A, C, F, rfl, h⟩
    · exact absurd h h0
    · subst hn
      refine (markByteSS_q b ps.length c S A C (pZ ps) F k w hm hk0 hk1 h).mono ?_
      rintro e w' ⟨h1, h2, h3⟩
      exact ⟨h1, h2, .inr ⟨b, A, C, F, rfl, h3⟩⟩
set_option maxHeartbeats 1000000 in
theorem heldEditS_has (S : Nat → Prop) (a : Option Addr) (n c : Nat) (es : List (Int × List Int)) (k : Int) (w : World) (hn : es.length = n) (hm : bigE es ≤ 13000000) (hk0 : 0 ≤ k) (hk1 : k ≤ 10000000) (h : MarkE S w a es k) :
    Calls Tryz.prog 96 #[.slice a n c, .int .i64 k] w fun e w' => e = .returned (.int .i64 (endE es k)) ∧ w' = w := by
  by_cases h0 : es = []
  · subst h0
    have hn0 : n = 0 := by simpa using hn.symm
    subst hn0
    have HE : Hid (endE [] k = k) := by show _ = _; simp [endE, mk, took]
    clear h hn
    go_enter Tryz.func96, Tryz.ntmps96
    go_wp2_with fail
    go_rounds 1
    go_ret
    exact ⟨by rw [HE.out]; rfl, rfl⟩
  · rcases h with h | ⟨b, A, C, F, rfl, h⟩
    · exact absurd h h0
    · subst hn
      exact heldEditS_q b es.length c S A C (eZ es) F k w hm hk0 hk1 h
set_option maxHeartbeats 1000000 in
theorem heldByteSS_has (S : Nat → Prop) (a : Option Addr) (n c : Nat) (ps : List (List Int)) (k : Int) (w : World) (hn : ps.length = n) (hm : bigQ ps ≤ 13000000) (hk0 : 0 ≤ k) (hk1 : k ≤ 10000000) (h : MarkQ S w a ps k) :
    Calls Tryz.prog 97 #[.slice a n c, .int .i64 k] w fun e w' => e = .returned (.int .i64 (endQ ps k)) ∧ w' = w := by
  by_cases h0 : ps = []
  · subst h0
    have hn0 : n = 0 := by simpa using hn.symm
    subst hn0
    have HE : Hid (endQ [] k = k) := by show _ = _; simp [endQ, mkP, took]
    clear h hn
    go_enter Tryz.func97, Tryz.ntmps97
    go_wp2_with fail
    go_rounds 1
    go_ret
    exact ⟨by rw [HE.out]; rfl, rfl⟩
  · rcases h with h | ⟨b, A, C, F, rfl, h⟩
    · exact absurd h h0
    · subst hn
      exact heldByteSS_q b ps.length c S A C (pZ ps) F k w hm hk0 hk1 h

theorem endE_le (es : List (Int × List Int)) {k : Int} (hm : bigE es ≤ 2000000) (h0 : 0 ≤ k) (h1 : k ≤ 5000000) : 0 ≤ endE es k ∧ endE es k ≤ 10000000 := by
  unfold bigE at hm
  unfold endE mk
  omega
theorem endQ_pos (ps : List (List Int)) {k : Int} (h0 : 0 ≤ k) : 0 ≤ endQ ps k := by
  unfold endQ mkP
  omega

theorem TurnS.mono {S S' : Nat → Prop} {w w' : World} (h : TurnS S w w') (hs : ∀ k, S k → S' k) : TurnS S' w w' := ⟨h.os, h.tape, h.output, h.size, fun k hk hn => h.block k hk (fun e => hn (hs k e))⟩

set_option maxHeartbeats 1000000 in
theorem markEditsResult_any (q : Int) (S1 S2 : Nat → Prop) (a b : Option Addr) (n m c d : Nat) (es : List (Int × List Int)) (ps : List (List Int)) (w : World) (hn : es.length = n) (hp : ps.length = m) (hm : bigE es ≤ 2000000) (hm' : bigQ ps ≤ 13000000) (h1 : HasE S1 w a es) (h2 : HasQ S2 w b ps) (hd : ∀ k, S1 k → ¬ S2 k) (hl1 : ∀ k, S1 k → k < w.heap.size) (hl2 : ∀ k, S2 k → k < w.heap.size) :
    Calls Tryz.prog 42 #[.agg #[.int .i64 q, .slice a n c, .slice b m d], .int .i64 1] w fun e w' => e = .returned (.int .i64 (endQ ps (endE es 1))) ∧ TurnS (fun k => S1 k ∨ S2 k) w w' ∧ MarkE S1 w' a es 1 ∧ MarkQ S2 w' b ps (endE es 1) := by
  obtain ⟨X, hX⟩ : ∃ X, w.alloc (.cells #[.int .i64 q, .slice a n c, .slice b m d] 31) = X := ⟨_, rfl⟩
  have gX : Below w.heap.size w X := by rw [← hX]; go_grown
  have p1 : X.cell? ⟨w.heap.size, 1, none⟩ = some (.slice a n c) := by rw [← hX]; simp [go_sem]
  have p2 : X.cell? ⟨w.heap.size, 2, none⟩ = some (.slice b m d) := by rw [← hX]; simp [go_sem]
  have h1 := h1.below gX
  have HH2 : Hid (HasQ S2 X b ps) := h2.below gX
  have tX : TurnS (fun k => S1 k ∨ S2 k) w X := TurnS.ofBelow gX
  have hcon := markEditS_has S1 a n c es 1 X hn (by omega) (by omega) (by omega) h1
  obtain ⟨hk0, hk1⟩ := endE_le es (k := 1) hm (by omega) (by omega)
  have HC : Hid (∀ V, HasQ S2 V b ps → Calls Tryz.prog 41 #[.slice b m d, .int .i64 (endE es 1)] V fun e w' => e = .returned (.int .i64 (endQ ps (endE es 1))) ∧ TurnS S2 V w' ∧ MarkQ S2 w' b ps (endE es 1)) := fun V hV => markByteSS_has S2 b m d ps (endE es 1) V hp hm' hk0 hk1 hV
  have HD : Hid (∀ k, S1 k → ¬ S2 k) := hd
  have HL1 : Hid (¬ S1 w.heap.size) := fun h => Nat.lt_irrefl _ (hl1 _ h)
  generalize endQ ps (endE es 1) = r2 at HC
  generalize endE es 1 = r1 at hcon HC hk0 hk1
  clear h1 h2 hm hm' hn hp hd hl1 hl2 gX
  go_enter Tryz.func42, Tryz.ntmps42
  go_wp2_with (go_at_call 95; refine hcon.mono ?_)
  rintro e w1 ⟨rfl, t1, m1⟩
  have p2 := t1.cell p2 HL1.out
  have h2 := HH2.out.turned t1 (fun k h2 h1 => HD.out k h1 h2)
  have tX := tX.trans (t1.mono (fun k h => .inl h))
  have hcon2 := HC.out w1 h2
  have HM1 : Hid (MarkE S1 w1 a es 1) := m1
  clear p1 hcon t1 m1 h2 HC HH2 hX
  go_wp2_with (go_at_call 41; refine hcon2.mono ?_)
  rintro e w2 ⟨rfl, t2, m2⟩
  have m1 := HM1.out.turned t2 HD.out
  have tX := tX.trans (t2.mono (fun k h => .inr h))
  have HF : Hid (TurnS (fun k => S1 k ∨ S2 k) w w2 ∧ MarkE S1 w2 a es 1 ∧ MarkQ S2 w2 b ps r1) := ⟨tX, m1, m2⟩
  clear t2 m1 m2 hcon2 p2 tX
  go_wp2_with fail
  go_ret
  exact ⟨rfl, HF.out⟩

set_option maxHeartbeats 1000000 in
theorem heldEditsResult_any (q : Int) (S1 S2 : Nat → Prop) (a b : Option Addr) (n m c d : Nat) (es : List (Int × List Int)) (ps : List (List Int)) (w : World) (hn : es.length = n) (hp : ps.length = m) (hm : bigE es ≤ 2000000) (hm' : bigQ ps ≤ 13000000) (h1 : MarkE S1 w a es 1) (h2 : MarkQ S2 w b ps (endE es 1)) :
    Calls Tryz.prog 43 #[.agg #[.int .i64 q, .slice a n c, .slice b m d], .int .i64 1] w fun e w' => e = .returned (.int .i64 (endQ ps (endE es 1))) ∧ Below w.heap.size w w' := by
  obtain ⟨X, hX⟩ : ∃ X, w.alloc (.cells #[.int .i64 q, .slice a n c, .slice b m d] 31) = X := ⟨_, rfl⟩
  have gX : Below w.heap.size w X := by rw [← hX]; go_grown
  have p1 : X.cell? ⟨w.heap.size, 1, none⟩ = some (.slice a n c) := by rw [← hX]; simp [go_sem]
  have p2 : X.cell? ⟨w.heap.size, 2, none⟩ = some (.slice b m d) := by rw [← hX]; simp [go_sem]
  have hcon := heldEditS_has S1 a n c es 1 X hn (by omega) (by omega) (by omega) (h1.below gX)
  obtain ⟨hk0, hk1⟩ := endE_le es (k := 1) hm (by omega) (by omega)
  have hcon2 := heldByteSS_has S2 b m d ps (endE es 1) X hp hm' hk0 hk1 (h2.below gX)
  have hk2 := endQ_pos ps hk0
  generalize endQ ps (endE es 1) = r2 at hcon2 hk2
  generalize endE es 1 = r1 at hcon hcon2 hk0
  have n1 : ¬ (r1 < 0) := by omega
  have n2 : ¬ (r2 < 0) := by omega
  clear h1 h2 hm hm' hn hp hk1
  go_enter Tryz.func43, Tryz.ntmps43
  go_upto_region 2 with (go_at_call 96; refine hcon.mono ?_; rintro e w1 ⟨rfl, hw1⟩; subst w1)
  go_wp2_with (go_at_call 97; refine hcon2.mono ?_; rintro e w1 ⟨rfl, hw1⟩; subst w1)
  go_ret
  exact ⟨rfl, gX⟩

end Go.Proofs.YtnfolgoloaeanaaGreat

