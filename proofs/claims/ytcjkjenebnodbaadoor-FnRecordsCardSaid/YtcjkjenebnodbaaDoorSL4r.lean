/-
  The model's l4Read.
-/
import Derived.Test.YtcjkjenebnodbaaDoorSRdr

namespace Go.Proofs.YtcjkjenebnodbaaDoor
open Go.RowKit
set_option linter.unusedVariables false

theorem ownsRow_setLow {W : World} {base n : Nat} {e : TypeId} {size : Nat} {u : Value} {xs : List Value} (h : W.ownsRow base e size u n xs) {p : Addr} (hp : p.block < base) (x : Value) : (W.setCell p x).ownsRow base e size u n xs := by
  refine ⟨h.1, ?_⟩
  rcases h.2 with h0 | ⟨g, cap, cur, e, h1, hgb, hh⟩
  · exact .inl h0
  · exact .inr ⟨g, cap, cur, e, h1, by rw [Below.heap_setCell _ _ _ _ (by omega)]; exact hgb, hh⟩
theorem Dlt.setLow {n₀ : Nat} {W : World} {v : Value} {k : Nat} {P : Nat → Int} {V : Nat → Value} {Z : Nat → List Int} {B : Nat → Nat} (h : Dlt n₀ W v k P V Z B) {p : Addr} (hp : p.block < n₀) (x : Value) : Dlt n₀ (W.setCell p x) v k P V Z B :=
  ⟨ownsRow_setLow h.row hp x, fun i hi => ownsRow_setLow (h.by' i hi) (Nat.lt_of_lt_of_le hp (h.lo i hi)) x, h.lo, h.sep, fun i hi => by rw [World.size_setCell]; exact h.hi i hi⟩

theorem Dlt.form {n₀ : Nat} {W : World} {v : Value} {k : Nat} {P : Nat → Int} {V : Nat → Value} {Z : Nat → List Int} {B : Nat → Nat} (h : Dlt n₀ W v k P V Z B) : ∃ a c, v = .slice a k c := by
  rcases h.row.2 with ⟨e, h0⟩ | ⟨g, cap, cur, e, _⟩
  · exact ⟨none, 0, by rw [e, h0]⟩
  · exact ⟨_, cap, e⟩
theorem ownsRow_mono {W : World} {base base' n : Nat} {e : TypeId} {size : Nat} {u : Value} {xs : List Value} (h : W.ownsRow base e size u n xs) (hb : base' ≤ base) : W.ownsRow base' e size u n xs :=
  ⟨h.1, h.2.imp id (fun ⟨g, cap, cur, e, h1, hh⟩ => ⟨g, cap, cur, e, Nat.le_trans hb h1, hh⟩)⟩
theorem Dlt.mono {n₀ n₁ : Nat} {W : World} {v : Value} {k : Nat} {P : Nat → Int} {V : Nat → Value} {Z : Nat → List Int} {B : Nat → Nat} (h : Dlt n₀ W v k P V Z B) (hn : n₁ ≤ n₀) : Dlt n₁ W v k P V Z B :=
  ⟨ownsRow_mono h.row hn, h.by', fun i hi => Nat.le_trans hn (h.lo i hi), h.sep, h.hi⟩

/-- What l4Read hands back. -/
def RrPost (w : World) (zs : List Int) (e : Ending) (w' : World) : Prop := ∃ a c V B, e = .returned (.agg #[.int .i64 (zs.getD 1 0), .int .i64 (zs.getD 2 0), .int .i64 (zs.getD 3 0), .slice a (cnt zs) c]) ∧ Below w.heap.size w w' ∧ Dlt w.heap.size w' (.slice a (cnt zs) c) (cnt zs) (rP zs) V (rZ zs) B

/-- The cells of the answer and of the record that is read. -/
structure R4 (w : World) (x1 x2 x3 : Int) (v : Value) (V : World) : Prop where
  a0 : V.cell? ⟨w.heap.size, 0, none⟩ = some (.int .i64 0)
  a1 : V.cell? ⟨w.heap.size, 1, none⟩ = some (.int .i64 0)
  a2 : V.cell? ⟨w.heap.size, 2, none⟩ = some (.int .i64 0)
  a3 : V.cell? ⟨w.heap.size, 3, none⟩ = some (.slice none 0 0)
  c0 : V.cell? ⟨w.heap.size + 1, 0, none⟩ = some (.int .i64 x1)
  c1 : V.cell? ⟨w.heap.size + 1, 1, none⟩ = some (.int .i64 x2)
  c2 : V.cell? ⟨w.heap.size + 1, 2, none⟩ = some (.int .i64 x3)
  c3 : V.cell? ⟨w.heap.size + 1, 3, none⟩ = some v
  f0 : V.frozen? ⟨w.heap.size, 0, none⟩ = false
  f1 : V.frozen? ⟨w.heap.size, 1, none⟩ = false
  f2 : V.frozen? ⟨w.heap.size, 2, none⟩ = false
  f3 : V.frozen? ⟨w.heap.size, 3, none⟩ = false
  g3 : V.frozen? ⟨w.heap.size + 1, 3, none⟩ = false
  g : Below w.heap.size w V
  s : w.heap.size + 2 ≤ V.heap.size
section
variable {w : World} {x1 x2 x3 : Int} {v u : Value} {V W : World}
theorem R4.low (h : R4 w x1 x2 x3 v V) (hb : Below (w.heap.size + 2) V W) : R4 w x1 x2 x3 v W := by
  have hs := h.s
  exact ⟨(hb.cell (by simp only; omega)).trans h.a0, (hb.cell (by simp only; omega)).trans h.a1, (hb.cell (by simp only; omega)).trans h.a2, (hb.cell (by simp only; omega)).trans h.a3, (hb.cell (by simp only; omega)).trans h.c0, (hb.cell (by simp only; omega)).trans h.c1, (hb.cell (by simp only; omega)).trans h.c2, (hb.cell (by simp only; omega)).trans h.c3,
    (hb.frozen (by simp only; omega)).trans h.f0, (hb.frozen (by simp only; omega)).trans h.f1, (hb.frozen (by simp only; omega)).trans h.f2, (hb.frozen (by simp only; omega)).trans h.f3, (hb.frozen (by simp only; omega)).trans h.g3, h.g.trans (hb.mono (by omega)), Nat.le_trans hs hb.size⟩
theorem R4.up (h : R4 w x1 x2 x3 v V) (hb : Below V.heap.size V W) : R4 w x1 x2 x3 v W := h.low (hb.mono h.s)
theorem R4.put (h : R4 w x1 x2 x3 v V) : R4 w x1 x2 x3 u (V.setCell ⟨w.heap.size + 1, 3, none⟩ u) := by
  have o : ∀ (p : Addr) (x : Value), p ≠ ⟨w.heap.size + 1, 3, none⟩ → V.cell? p = some x → (V.setCell ⟨w.heap.size + 1, 3, none⟩ u).cell? p = some x := fun p x hp hx => by
    rw [World.cell?_setCell_other _ _ _ _ (fun e => hp e.symm)]; exact hx
  exact ⟨o _ _ (by simp) h.a0, o _ _ (by simp) h.a1, o _ _ (by simp) h.a2, o _ _ (by simp) h.a3, o _ _ (by simp) h.c0, o _ _ (by simp) h.c1, o _ _ (by simp) h.c2, World.cell?_setCell_same _ _ _ h.c3,
    by rw [World.frozen?_setCell]; exact h.f0, by rw [World.frozen?_setCell]; exact h.f1, by rw [World.frozen?_setCell]; exact h.f2, by rw [World.frozen?_setCell]; exact h.f3, by rw [World.frozen?_setCell]; exact h.g3, h.g.setCell (by simp) _, by rw [World.size_setCell]; exact h.s⟩
end

set_option maxHeartbeats 4000000 in
theorem l4Read_any (zs : List Int) (b off cap : Nat) (w : World) (h7 : 5 ≤ zs.length) (hm : zs.length ≤ 1048576) (hcap : zs.length ≤ cap) (hcm : cap ≤ 9223372036854775807) (hf : From w b off zs 0) (hz : ∀ z ∈ zs, 0 ≤ z ∧ z ≤ 255) :
    Calls Tryd.prog 28 #[.slice (some ⟨b, off, none⟩) zs.length cap] w fun e w' => RrPost w zs e w' := by
  obtain ⟨i0, hi0, hz0, hz1, hz2⟩ := info5
  obtain ⟨i5, hi5, hz50, hz51, hz52⟩ := info78
  have HB : Hid (∀ i, i < zs.length → 0 ≤ zs.getD i 0 ∧ zs.getD i 0 ≤ 255) := fun i hi => hz _ (by simp [List.getD, List.getElem?_eq_getElem hi])
  have HF : Hid (∀ X, Below w.heap.size w X → From X b off zs 0) := fun X gX i hi => (gX.cell (World.block_lt_of_cell? w _ (hf i hi))).trans (hf i hi)
  have HF0 : Hid (From w b off zs 0) := hf
  obtain ⟨x1, hx1⟩ : ∃ x : Nat, zs.getD 1 0 = (x : Int) := ⟨(zs.getD 1 0).toNat, by have := HB.out 1 (by omega); omega⟩
  obtain ⟨x2, hx2⟩ : ∃ x : Nat, zs.getD 2 0 = (x : Int) := ⟨(zs.getD 2 0).toNat, by have := HB.out 2 (by omega); omega⟩
  obtain ⟨x3, hx3⟩ : ∃ x : Nat, zs.getD 3 0 = (x : Int) := ⟨(zs.getD 3 0).toNat, by have := HB.out 3 (by omega); omega⟩
  obtain ⟨cn, hcn⟩ : ∃ x : Nat, zs.getD 4 0 = (x : Int) := ⟨(zs.getD 4 0).toNat, by have := HB.out 4 (by omega); omega⟩
  have hb1 : x1 ≤ 255 := by have := HB.out 1 (by omega); omega
  have hb2 : x2 ≤ 255 := by have := HB.out 2 (by omega); omega
  have hb3 : x3 ≤ 255 := by have := HB.out 3 (by omega); omega
  have hb4 : cn ≤ 255 := by have := HB.out 4 (by omega); omega
  have hw1 : IntKind.i64.wrap (x1 : Int) = (x1 : Int) := by rw [IntKind.wrap_i64]; omega
  have hw2 : IntKind.i64.wrap (x2 : Int) = (x2 : Int) := by rw [IntKind.wrap_i64]; omega
  have hw3 : IntKind.i64.wrap (x3 : Int) = (x3 : Int) := by rw [IntKind.wrap_i64]; omega
  have HCn : Hid (cnt zs = rdC zs (cn - 0) 0) := by show _ = _; unfold cnt; rw [hcn]; simp
  have HX : Hid (zs.getD 1 0 = (x1 : Int) ∧ zs.getD 2 0 = (x2 : Int) ∧ zs.getD 3 0 = (x3 : Int)) := ⟨hx1, hx2, hx3⟩
  have HS4 : Hid (∀ X, Below w.heap.size w X → X.cell? ⟨b, off + 1, none⟩ = some (.int .u8 x1) ∧ X.cell? ⟨b, off + 2, none⟩ = some (.int .u8 x2) ∧ X.cell? ⟨b, off + 3, none⟩ = some (.int .u8 x3) ∧ X.cell? ⟨b, off + 4, none⟩ = some (.int .u8 cn)) := fun X gX => by
    have h1 := HF.out X gX 1 (by omega)
    have h2 := HF.out X gX 2 (by omega)
    have h3 := HF.out X gX 3 (by omega)
    have h4 := HF.out X gX 4 (by omega)
    rw [Nat.zero_add] at h1 h2 h3 h4
    rw [hx1] at h1
    rw [hx2] at h2
    rw [hx3] at h3
    rw [hcn] at h4
    exact ⟨h1, h2, h3, h4⟩
  obtain ⟨n, hn⟩ : ∃ n, n = zs.length := ⟨_, rfl⟩
  have HNn : Hid (zs.length = n) := hn.symm
  rw [← hn] at h7 hm hcap ⊢
  have l1 : (1 : Int) < (n : Int) := by omega
  have l2 : (2 : Int) < (n : Int) := by omega
  have l3 : (3 : Int) < (n : Int) := by omega
  have l4 : (4 : Int) < (n : Int) := by omega
  clear hx1 hx2 hx3 hcn hf hz hn
  go_enter Tryd.func28, Tryd.ntmps28
  go_upto_region 1 with (fail)
  generalize hY : World.alloc w _ = Y
  have gY : Below w.heap.size w Y := by rw [← hY]; go_grown
  have hYs : Y.heap.size = w.heap.size + 1 := by rw [← hY]; simp
  have q0 : Y.cell? ⟨w.heap.size, 0, none⟩ = some (.int .i64 0) := by rw [← hY]; simp [go_sem]
  have q1 : Y.cell? ⟨w.heap.size, 1, none⟩ = some (.int .i64 0) := by rw [← hY]; simp [go_sem]
  have q2 : Y.cell? ⟨w.heap.size, 2, none⟩ = some (.int .i64 0) := by rw [← hY]; simp [go_sem]
  have q3 : Y.cell? ⟨w.heap.size, 3, none⟩ = some (.slice none 0 0) := by rw [← hY]; simp [go_sem]
  have v0 : Y.frozen? ⟨w.heap.size, 0, none⟩ = false := by rw [← hY]; simp [go_sem]
  have v1 : Y.frozen? ⟨w.heap.size, 1, none⟩ = false := by rw [← hY]; simp [go_sem]
  have v2 : Y.frozen? ⟨w.heap.size, 2, none⟩ = false := by rw [← hY]; simp [go_sem]
  have v3 : Y.frozen? ⟨w.heap.size, 3, none⟩ = false := by rw [← hY]; simp [go_sem]
  clear hY
  have HSe : Hid (∀ X, Below w.heap.size w X → X.cell? ⟨b, off + 1, none⟩ = some (.int .u8 x1) ∧ X.cell? ⟨b, off + 2, none⟩ = some (.int .u8 x2) ∧ X.cell? ⟨b, off + 3, none⟩ = some (.int .u8 x3) ∧ Below w.heap.size w X) := fun X gX => ⟨(HS4.out X gX).1, (HS4.out X gX).2.1, (HS4.out X gX).2.2.1, gX⟩
  refine wp_region_held_drew (S := fun X => X.cell? ⟨b, off + 1, none⟩ = some (.int .u8 x1) ∧ X.cell? ⟨b, off + 2, none⟩ = some (.int .u8 x2) ∧ X.cell? ⟨b, off + 3, none⟩ = some (.int .u8 x3) ∧ Below w.heap.size w X) (by kernel_rfl) (HSe.out _ gY.drew) (fun hHeld => ?_)
  have gd : Below Y.heap.size Y Y.drew := (Below.refl _ _).drew
  have q0 := cellUp gd q0
  have q1 := cellUp gd q1
  have q2 := cellUp gd q2
  have q3 := cellUp gd q3
  have v0 := (gd.frozen (p := ⟨w.heap.size, 0, none⟩) (by simp only; omega)).trans v0
  have v1 := (gd.frozen (p := ⟨w.heap.size, 1, none⟩) (by simp only; omega)).trans v1
  have v2 := (gd.frozen (p := ⟨w.heap.size, 2, none⟩) (by simp only; omega)).trans v2
  have v3 := (gd.frozen (p := ⟨w.heap.size, 3, none⟩) (by simp only; omega)).trans v3
  have hYs : Y.drew.heap.size = w.heap.size + 1 := hYs
  generalize Y.drew = D at hHeld q0 q1 q2 q3 v0 v1 v2 v3 hYs ⊢
  clear gd gY
  refine wpAnyH_take (i := 0) (v := ?v1) rfl (by kernel_rfl) (by kernel_rfl) (by kernel_rfl) (fun _ _ _ h => h) (Or.inl ⟨by kernel_rfl, ?h1⟩) hHeld ?_
  case h1 => intro u hSw; (try dsimp only at hSw); go_simp; try with_reducible rfl
  try simp only [List.getElem_toArray]
  try simp only [List.getElem_cons_succ]
  try simp only [List.getElem_cons_zero]
  try simp only [Act.put]
  try simp only [List.setIfInBounds_toArray]
  try simp only [List.set]
  refine wpAnyH_take (i := 1) (v := ?v2) rfl (by kernel_rfl) (by kernel_rfl) (by kernel_rfl) (fun _ _ _ h => h) (Or.inl ⟨by kernel_rfl, ?h2⟩) hHeld ?_
  case h2 => intro u hSw; (try dsimp only at hSw); go_simp; try with_reducible rfl
  try simp only [List.getElem_toArray]
  try simp only [List.getElem_cons_succ]
  try simp only [List.getElem_cons_zero]
  try simp only [Act.put]
  try simp only [List.setIfInBounds_toArray]
  try simp only [List.set]
  refine wpAnyH_take (i := 2) (v := ?v3) rfl (by kernel_rfl) (by kernel_rfl) (by kernel_rfl) (fun _ _ _ h => h) (Or.inl ⟨by kernel_rfl, ?h3⟩) hHeld ?_
  case h3 => intro u hSw; obtain ⟨e1, e2, e3, _⟩ := hSw; go_simp; try with_reducible rfl
  try simp only [List.getElem_toArray]
  try simp only [List.getElem_cons_succ]
  try simp only [List.getElem_cons_zero]
  try simp only [Act.put]
  try simp only [List.setIfInBounds_toArray]
  try simp only [List.set]
  refine wpAnyH_take (i := 3) (v := ?v4) rfl (by kernel_rfl) (by kernel_rfl) (by kernel_rfl) (fun _ _ _ h => h) (Or.inl ⟨by kernel_rfl, ?h4⟩) hHeld ?_
  case h4 => intro u hSw; (try dsimp only at hSw); go_simp; try with_reducible rfl
  try simp only [List.getElem_toArray]
  try simp only [List.getElem_cons_succ]
  try simp only [List.getElem_cons_zero]
  try simp only [Act.put]
  try simp only [List.setIfInBounds_toArray]
  try simp only [List.set]
  refine wpAnyH_take (i := 4) (v := ?v5) rfl (by kernel_rfl) (by kernel_rfl) (by kernel_rfl) (fun _ _ _ h => h) (Or.inl ⟨by kernel_rfl, ?h5⟩) hHeld ?_
  case h5 => intro u hSw; (try dsimp only at hSw); go_simp; try with_reducible rfl
  try simp only [List.getElem_toArray]
  try simp only [List.getElem_cons_succ]
  try simp only [List.getElem_cons_zero]
  try simp only [Act.put]
  try simp only [List.setIfInBounds_toArray]
  try simp only [List.set]
  refine wpAnyH_take (i := 5) (v := ?v6) rfl (by kernel_rfl) (by kernel_rfl) (by kernel_rfl) (fun _ _ _ h => h) (Or.inl ⟨by kernel_rfl, ?h6⟩) hHeld ?_
  case h6 => intro u hSw; (try dsimp only at hSw); go_simp; try with_reducible rfl
  try simp only [List.getElem_toArray]
  try simp only [List.getElem_cons_succ]
  try simp only [List.getElem_cons_zero]
  try simp only [Act.put]
  try simp only [List.setIfInBounds_toArray]
  try simp only [List.set]
  refine wpAnyH_take (i := 6) (v := ?v7) rfl (by kernel_rfl) (by kernel_rfl) (by kernel_rfl) (fun _ _ _ h => h) (Or.inl ⟨by kernel_rfl, ?h7⟩) hHeld ?_
  case h7 => intro u hSw; obtain ⟨e1, e2, e3, _⟩ := hSw; go_simp; try with_reducible rfl
  try simp only [List.getElem_toArray]
  try simp only [List.getElem_cons_succ]
  try simp only [List.getElem_cons_zero]
  try simp only [Act.put]
  try simp only [List.setIfInBounds_toArray]
  try simp only [List.set]
  refine wpAnyH_take (i := 7) (v := ?v8) rfl (by kernel_rfl) (by kernel_rfl) (by kernel_rfl) (fun _ _ _ h => h) (Or.inl ⟨by kernel_rfl, ?h8⟩) hHeld ?_
  case h8 => intro u hSw; (try dsimp only at hSw); go_simp; try with_reducible rfl
  try simp only [List.getElem_toArray]
  try simp only [List.getElem_cons_succ]
  try simp only [List.getElem_cons_zero]
  try simp only [Act.put]
  try simp only [List.setIfInBounds_toArray]
  try simp only [List.set]
  refine wpAnyH_take (i := 8) (v := ?v9) rfl (by kernel_rfl) (by kernel_rfl) (by kernel_rfl) (fun _ _ _ h => h) (Or.inl ⟨by kernel_rfl, ?h9⟩) hHeld ?_
  case h9 => intro u hSw; (try dsimp only at hSw); go_simp; try with_reducible rfl
  try simp only [List.getElem_toArray]
  try simp only [List.getElem_cons_succ]
  try simp only [List.getElem_cons_zero]
  try simp only [Act.put]
  try simp only [List.setIfInBounds_toArray]
  try simp only [List.set]
  refine wpAnyH_take (i := 9) (v := ?v10) rfl (by kernel_rfl) (by kernel_rfl) (by kernel_rfl) (fun _ _ _ h => h) (Or.inl ⟨by kernel_rfl, ?h10⟩) hHeld ?_
  case h10 => intro u hSw; (try dsimp only at hSw); go_simp; try with_reducible rfl
  try simp only [List.getElem_toArray]
  try simp only [List.getElem_cons_succ]
  try simp only [List.getElem_cons_zero]
  try simp only [Act.put]
  try simp only [List.setIfInBounds_toArray]
  try simp only [List.set]
  refine wpAnyH_take (i := 10) (v := ?v11) rfl (by kernel_rfl) (by kernel_rfl) (by kernel_rfl) (fun _ _ _ h => h) (Or.inl ⟨by kernel_rfl, ?h11⟩) hHeld ?_
  case h11 => intro u hSw; obtain ⟨e1, e2, e3, _⟩ := hSw; go_simp; try with_reducible rfl
  try simp only [List.getElem_toArray]
  try simp only [List.getElem_cons_succ]
  try simp only [List.getElem_cons_zero]
  try simp only [Act.put]
  try simp only [List.setIfInBounds_toArray]
  try simp only [List.set]
  refine wpAnyH_take (i := 11) (v := ?v12) rfl (by kernel_rfl) (by kernel_rfl) (by kernel_rfl) (fun _ _ _ h => h) (Or.inl ⟨by kernel_rfl, ?h12⟩) hHeld ?_
  case h12 => intro u hSw; (try dsimp only at hSw); go_simp; try with_reducible rfl
  try simp only [List.getElem_toArray]
  try simp only [List.getElem_cons_succ]
  try simp only [List.getElem_cons_zero]
  try simp only [Act.put]
  try simp only [List.setIfInBounds_toArray]
  try simp only [List.set]
  refine wpAnyH_take (i := 12) (v := ?v13) rfl (by kernel_rfl) (by kernel_rfl) (by kernel_rfl) (fun _ _ _ h => h) (Or.inl ⟨by kernel_rfl, ?h13⟩) hHeld ?_
  case h13 => intro u hSw; (try dsimp only at hSw); go_simp; try with_reducible rfl
  try simp only [List.getElem_toArray]
  try simp only [List.getElem_cons_succ]
  try simp only [List.getElem_cons_zero]
  try simp only [Act.put]
  try simp only [List.setIfInBounds_toArray]
  try simp only [List.set]
  have gD := hHeld.2.2.2
  have gb : Below D.heap.size D (D.alloc (.cells #[.int .i64 0, .int .i64 0, .int .i64 0, .slice none 0 0] 27)) := by go_grown
  refine wpAnyH_ready (rs := [13]) (by kernel_rfl) (by simp) ?_
  refine AllReadyH.cons rfl (fun K hK => ?_) AllReadyH.nil
  go_simp
  refine hK.out _ _ (HSe.out _ (gD.trans (gb.mono gD.size))) (fun hHeld => ?_)
  clear hK K
  try simp only [Act.put]
  try simp only [List.setIfInBounds_toArray]
  try simp only [List.set]
  refine wpAnyH_ready (rs := [14]) (by kernel_rfl) (by simp) ?_
  refine AllReadyH.cons rfl (fun K hK => ?_) AllReadyH.nil
  go_simp
  have hR : R4 w x1 x2 x3 (.slice none 0 0) (D.alloc (.cells #[.int .i64 x1, .int .i64 x2, .int .i64 x3, .slice none 0 0] 27)) := by
    have g2 : Below D.heap.size D (D.alloc (.cells #[.int .i64 x1, .int .i64 x2, .int .i64 x3, .slice none 0 0] 27)) := by go_grown
    refine ⟨cellUp g2 q0, cellUp g2 q1, cellUp g2 q2, cellUp g2 q3, ?_, ?_, ?_, ?_, (g2.frozen (by simp only; omega)).trans v0, (g2.frozen (by simp only; omega)).trans v1, (g2.frozen (by simp only; omega)).trans v2, (g2.frozen (by simp only; omega)).trans v3, ?_, gD.trans (g2.mono gD.size), by simp [hYs]⟩
    · rw [← hYs]; simp [go_sem]
    · rw [← hYs]; simp [go_sem]
    · rw [← hYs]; simp [go_sem]
    · rw [← hYs]; simp [go_sem]
    · rw [← hYs]; simp [go_sem]
  refine hK.out _ _ (HSe.out _ hR.g) (fun hHeld => ?_)
  clear hK K hHeld gb gD q0 q1 q2 q3 v0 v1 v2 v3
  try simp only [Act.put]
  try simp only [List.setIfInBounds_toArray]
  try simp only [List.set]
  refine wpAnyH_done (by kernel_rfl) ?_ _
  generalize D.alloc (.cells #[.int .i64 x1, .int .i64 x2, .int .i64 x3, .slice none 0 0] 27) = E at hR ⊢
  clear hYs
  go_wp2_with fail
  go_loopw [5, 4] (fun kk at_ wr => ∃ (j : Nat) (a : Option Addr) (c : Nat) (V : Nat → Value) (B : Nat → Nat), j ≤ cn ∧ kk = .int .i64 j ∧ at_ = .int .i64 (pos zs j) ∧ pos zs j ≤ n ∧ Dlt (w.heap.size + 2) wr (.slice a j c) j (rP zs) V (rZ zs) B ∧ R4 w x1 x2 x3 (.slice a j c) wr ∧ Hid (cnt zs = rdC zs (cn - j) j)) (fun kk _ _ => cn - (intOf kk).toNat)
  case atStart => exact ⟨0, none, 0, fun _ => undef, fun _ => 0, Nat.zero_le _, rfl, rfl, h7, Dlt.nil _ _ _ _ _ _, hR, HCn⟩
  case round =>
    obtain ⟨j, a, c, V, B, hj, rfl, rfl, hpl, hD, hR, hC⟩ := hrel
    obtain ⟨_, _, _, e4⟩ := HS4.out wr hR.g
    by_cases hlt : j < cn
    · have hjn : (j : Int) < (cn : Int) := by omega
      have hcs : cn - j = cn - (j + 1) + 1 := by omega
      have hp1 : pos zs (j + 1) = pos zs j + 2 + lenAt zs (pos zs j) := rfl
      have HN : Hid (¬ fit zs j → cnt zs = j) := fun h => by rw [hC.out, hcs]; simp only [rdC]; rw [if_neg h]
      have HY : Hid (fit zs j → cnt zs = rdC zs (cn - (j + 1)) (j + 1)) := fun h => by rw [hC.out, hcs]; simp only [rdC]; rw [if_pos h]
      have HFi : Hid (fit zs j ↔ pos zs (j + 1) ≤ n) := by show _ ↔ _; unfold fit; rw [HNn.out]
      obtain ⟨p, hp⟩ : ∃ p, p = pos zs j := ⟨_, rfl⟩
      have HPp : Hid (pos zs j = p) := hp.symm
      rw [← hp] at hpl hp1 ⊢
      clear hC hcs hp
      have hpm : p ≤ 1048576 := by omega
      by_cases h2 : n < p + 2
      · have HE : Hid (cnt zs = j) := HN.out (by rw [HFi.out, hp1]; omega)
        have hl2 : ¬ ((p : Int) + 2 ≤ (n : Int)) := by omega
        have hl2d : decide ((p : Int) + 2 ≤ (n : Int)) = false := by simpa using hl2
        clear HN HY hp1
        obtain ⟨a0, a1, a2, a3, c0, c1, c2, c3, f0, f1, f2, f3, g3, g, hs⟩ := hR
        go_wp2_with fail
        refine bodyPost_ret (v := .agg #[.int .i64 x1, .int .i64 x2, .int .i64 x3, .slice a j c]) (by simp [results, Tryd.results28, go_sem, *]) rfl ?_
        refine ⟨a, c, V, B, by rw [HX.out.1, HX.out.2.1, HX.out.2.2, HE.out], by go_grown, ?_⟩
        rw [HE.out]
        exact ((((hD.setLow (p := ⟨w.heap.size, 0, none⟩) (by simp) _).setLow (p := ⟨w.heap.size, 1, none⟩) (by simp) _).setLow (p := ⟨w.heap.size, 2, none⟩) (by simp) _).setLow (p := ⟨w.heap.size, 3, none⟩) (by simp) _).mono (by omega)
      · have hl2 : (p : Int) + 2 ≤ (n : Int) := by omega
        have hl2d : decide ((p : Int) + 2 ≤ (n : Int)) = true := by simpa using hl2
        have e1 : wr.cell? ⟨b, off + (p + 1), none⟩ = some (.int .u8 (zs.getD (p + 1) 0)) := by
          have := HF.out wr hR.g (p + 1) (by rw [HNn.out]; omega)
          rw [Nat.zero_add] at this
          exact this
        obtain ⟨b0, b1⟩ := HB.out (p + 1) (by rw [HNn.out]; omega)
        obtain ⟨l, hl⟩ : ∃ l : Nat, l = lenAt zs p := ⟨_, rfl⟩
        have hlx : zs.getD (p + 1) 0 = (l : Int) := by rw [hl]; unfold lenAt; omega
        rw [hlx] at e1 b1
        rw [← hl] at hp1
        have hl255 : l ≤ 255 := by omega
        have hpn1 : (p : Int) + 1 < (n : Int) := by omega
        clear b0 b1 hlx
        by_cases h3 : n < p + 2 + l
        · have HE : Hid (cnt zs = j) := HN.out (by rw [HFi.out, hp1]; omega)
          have hl3 : (n : Int) < (p : Int) + 2 + (l : Int) := by omega
          have hl3d : decide ((n : Int) < (p : Int) + 2 + (l : Int)) = true := by simpa using hl3
          clear HN HY hp1 hl
          obtain ⟨a0, a1, a2, a3, c0, c1, c2, c3, f0, f1, f2, f3, g3, g, hs⟩ := hR
          go_wp2_with fail
          refine bodyPost_ret (v := .agg #[.int .i64 x1, .int .i64 x2, .int .i64 x3, .slice a j c]) (by simp [results, Tryd.results28, go_sem, *]) rfl ?_
          refine ⟨a, c, V, B, by rw [HX.out.1, HX.out.2.1, HX.out.2.2, HE.out], by go_grown, ?_⟩
          rw [HE.out]
          exact ((((hD.setLow (p := ⟨w.heap.size, 0, none⟩) (by simp) _).setLow (p := ⟨w.heap.size, 1, none⟩) (by simp) _).setLow (p := ⟨w.heap.size, 2, none⟩) (by simp) _).setLow (p := ⟨w.heap.size, 3, none⟩) (by simp) _).mono (by omega)
        · have hfit : fit zs j := by rw [HFi.out, hp1]; omega
          have HE : Hid (cnt zs = rdC zs (cn - (j + 1)) (j + 1)) := HY.out hfit
          have hl3 : ¬ ((n : Int) < (p : Int) + 2 + (l : Int)) := by omega
          have hl3d : decide ((n : Int) < (p : Int) + 2 + (l : Int)) = false := by simpa using hl3
          have HLl : Hid (l = lenAt zs p) := hl
          have HP1 : Hid (pos zs (j + 1) = p + 2 + l) := hp1
          have HZe : Hid (rZ zs j = (zs.drop (p + 2)).take l) := by show _ = _; unfold rZ; rw [HPp.out, hl]
          have HZl : Hid ((rZ zs j).length = l) := by show _ = _; rw [rZ_len hfit, HPp.out, hl]
          obtain ⟨b2, b3⟩ := HB.out p (by rw [HNn.out]; omega)
          obtain ⟨p0, hp0⟩ : ∃ p0 : Nat, zs.getD p 0 = (p0 : Int) := ⟨(zs.getD p 0).toNat, by omega⟩
          have HPe : Hid (rP zs j = (p0 : Int)) := by show _ = _; unfold rP; rw [HPp.out]; exact hp0
          have hp255 : p0 ≤ 255 := by omega
          have hwp : IntKind.i64.wrap (p0 : Int) = (p0 : Int) := by rw [IntKind.wrap_i64]; omega
          have hS : Hid (∀ X, Below w.heap.size w X → X.cell? ⟨b, off + p, none⟩ = some (.int .u8 p0) ∧ Below w.heap.size w X) := fun X gX => ⟨by
            have := HF.out X gX p (by rw [HNn.out]; omega)
            rw [Nat.zero_add, hp0] at this
            exact this, gX⟩
          obtain ⟨so, hso, hre⟩ : ∃ so, (if cap = p + 2 then (some ⟨b, off, none⟩ : Option Addr) else some ⟨b, off + (p + 2), none⟩) = some ⟨b, so, none⟩ ∧ ∀ X, Below w.heap.size w X → Reads X (some ⟨b, so, none⟩) (rZ zs j) := by
            by_cases hd : cap = p + 2
            · refine ⟨off, by rw [if_pos hd], fun X _ => .inl (List.eq_nil_of_length_eq_zero (by have := HZl.out; omega))⟩
            · refine ⟨off + (p + 2), by rw [if_neg hd], fun X gX => ?_⟩
              have h1 := ((HF.out X gX).step (p + 2)).reads (l := l) (by rw [HNn.out]; omega)
              rw [Nat.zero_add] at h1
              rw [HZe.out]
              exact h1
          have HRe : Hid (∀ X, Below w.heap.size w X → Reads X (some ⟨b, so, none⟩) (rZ zs j)) := hre
          have HSo : Hid ((if cap = p + 2 then (some ⟨b, off, none⟩ : Option Addr) else some ⟨b, off + (p + 2), none⟩) = some ⟨b, so, none⟩) := hso
          clear hl hp1 HN HY hfit b2 b3 hp0 hso hre
          go_wp2_with fail
          refine wp_region_held_drew (S := fun X => X.cell? ⟨b, off + p, none⟩ = some (.int .u8 p0) ∧ Below w.heap.size w X) (by kernel_rfl) (hS.out _ hR.g.drew) (fun hHeld => ?_)
          have hD := hD.below (show Below wr.heap.size wr wr.drew from (Below.refl _ _).drew)
          have hR := hR.up (show Below wr.heap.size wr wr.drew from (Below.refl _ _).drew)
          generalize wr.drew = D at hHeld hD hR ⊢
          clear e1 e4
          have hpn : (p : Int) < (n : Int) := by omega
          have hs1 : (p : Int) + 2 ≤ (p : Int) + 2 + (l : Int) := by omega
          have hs2 : (p : Int) + 2 + (l : Int) ≤ (cap : Int) := by omega
          have hs3 : (0 : Int) ≤ (p : Int) + 2 := by omega
          have hwa : IntKind.i64.wrap ((p : Int) + 2) = (p : Int) + 2 := by rw [IntKind.wrap_i64]; omega
          have hwb : IntKind.i64.wrap ((p : Int) + 2 + (l : Int)) = (p : Int) + 2 + (l : Int) := by rw [IntKind.wrap_i64]; omega
          have hta : ((p : Int) + 2).toNat = p + 2 := by omega
          have htb : ((p : Int) + 2 + (l : Int)).toNat = p + 2 + l := by omega
          have HT : Hid (p + 2 + l - (p + 2) = l) := by show _ = _; omega
          have hl64 : l ≤ 1048576 := by omega
          refine wpAnyH_take (i := 0) (v := ?v14) rfl (by kernel_rfl) (by kernel_rfl) (by kernel_rfl) (fun _ _ _ h => h) (Or.inl ⟨by kernel_rfl, ?h14⟩) hHeld ?_
          case h14 => intro u hSw; (try dsimp only at hSw); go_simp; try with_reducible rfl
          try simp only [List.getElem_toArray]
          try simp only [List.getElem_cons_succ]
          try simp only [List.getElem_cons_zero]
          try simp only [Act.put]
          try simp only [List.setIfInBounds_toArray]
          try simp only [List.set]
          refine wpAnyH_take (i := 2) (v := ?v15) rfl (by kernel_rfl) (by kernel_rfl) (by kernel_rfl) (fun _ _ _ h => h) (Or.inl ⟨by kernel_rfl, ?h15⟩) hHeld ?_
          case h15 => intro u hSw; (try dsimp only at hSw); go_simp; try with_reducible rfl
          try simp only [List.getElem_toArray]
          try simp only [List.getElem_cons_succ]
          try simp only [List.getElem_cons_zero]
          try simp only [Act.put]
          try simp only [List.setIfInBounds_toArray]
          try simp only [List.set]
          refine wpAnyH_take (i := 3) (v := ?v16) rfl (by kernel_rfl) (by kernel_rfl) (by kernel_rfl) (fun _ _ _ h => h) (Or.inl ⟨by kernel_rfl, ?h16⟩) hHeld ?_
          case h16 => intro u hSw; (try dsimp only at hSw); go_simp; try with_reducible rfl
          try simp only [List.getElem_toArray]
          try simp only [List.getElem_cons_succ]
          try simp only [List.getElem_cons_zero]
          try simp only [Act.put]
          try simp only [List.setIfInBounds_toArray]
          try simp only [List.set]
          refine wpAnyH_take (i := 4) (v := ?v17) rfl (by kernel_rfl) (by kernel_rfl) (by kernel_rfl) (fun _ _ _ h => h) (Or.inl ⟨by kernel_rfl, ?h17⟩) hHeld ?_
          case h17 => intro u hSw; (try dsimp only at hSw); go_simp; try with_reducible rfl
          try simp only [List.getElem_toArray]
          try simp only [List.getElem_cons_succ]
          try simp only [List.getElem_cons_zero]
          try simp only [Act.put]
          try simp only [List.setIfInBounds_toArray]
          try simp only [List.set]
          refine wpAnyH_take (i := 5) (v := ?v18) rfl (by kernel_rfl) (by kernel_rfl) (by kernel_rfl) (fun _ _ _ h => h) (Or.inl ⟨by kernel_rfl, ?h18⟩) hHeld ?_
          case h18 => intro u hSw; obtain ⟨e0, _⟩ := hSw; go_simp; try with_reducible rfl
          try simp only [List.getElem_toArray]
          try simp only [List.getElem_cons_succ]
          try simp only [List.getElem_cons_zero]
          try simp only [Act.put]
          try simp only [List.setIfInBounds_toArray]
          try simp only [List.set]
          refine wpAnyH_take (i := 6) (v := ?v19) rfl (by kernel_rfl) (by kernel_rfl) (by kernel_rfl) (fun _ _ _ h => h) (Or.inl ⟨by kernel_rfl, ?h19⟩) hHeld ?_
          case h19 => intro u hSw; (try dsimp only at hSw); go_simp; try with_reducible rfl
          try simp only [List.getElem_toArray]
          try simp only [List.getElem_cons_succ]
          try simp only [List.getElem_cons_zero]
          try simp only [Act.put]
          try simp only [List.setIfInBounds_toArray]
          try simp only [List.set]
          refine wpAnyH_take (i := 7) (v := ?v20) rfl (by kernel_rfl) (by kernel_rfl) (by kernel_rfl) (fun _ _ _ h => h) (Or.inl ⟨by kernel_rfl, ?h20⟩) hHeld ?_
          case h20 => intro u hSw; (try dsimp only at hSw); go_simp; try with_reducible rfl
          try simp only [List.getElem_toArray]
          try simp only [List.getElem_cons_succ]
          try simp only [List.getElem_cons_zero]
          try simp only [Act.put]
          try simp only [List.setIfInBounds_toArray]
          try simp only [List.set]
          refine wpAnyH_take (i := 8) (v := ?v21) rfl (by kernel_rfl) (by kernel_rfl) (by kernel_rfl) (fun _ _ _ h => h) (Or.inl ⟨by kernel_rfl, ?h21⟩) hHeld ?_
          case h21 => intro u hSw; (try dsimp only at hSw); go_simp; try with_reducible rfl
          try simp only [List.getElem_toArray]
          try simp only [List.getElem_cons_succ]
          try simp only [List.getElem_cons_zero]
          try simp only [Act.put]
          try simp only [List.setIfInBounds_toArray]
          try simp only [List.set]
          refine wpAnyH_take (i := 9) (v := ?v22) rfl (by kernel_rfl) (by kernel_rfl) (by kernel_rfl) (fun _ _ _ h => h) (Or.inl ⟨by kernel_rfl, ?h22⟩) hHeld ?_
          case h22 => intro u hSw; (try dsimp only at hSw); go_simp; try with_reducible rfl
          try simp only [List.getElem_toArray]
          try simp only [List.getElem_cons_succ]
          try simp only [List.getElem_cons_zero]
          try simp only [Act.put]
          try simp only [List.setIfInBounds_toArray]
          try simp only [List.set]
          refine wpAnyH_take (i := 10) (v := ?v23) rfl (by kernel_rfl) (by kernel_rfl) (by kernel_rfl) (fun _ _ _ h => h) (Or.inl ⟨by kernel_rfl, ?h23⟩) hHeld ?_
          case h23 => intro u hSw; (try dsimp only at hSw); go_simp; try with_reducible rfl
          try simp only [List.getElem_toArray]
          try simp only [List.getElem_cons_succ]
          try simp only [List.getElem_cons_zero]
          try simp only [Act.put]
          try simp only [List.setIfInBounds_toArray]
          try simp only [List.set]
          refine wpAnyH_take (i := 11) (v := ?v24) rfl (by kernel_rfl) (by kernel_rfl) (by kernel_rfl) (fun _ _ _ h => h) (Or.inl ⟨by kernel_rfl, ?h24⟩) hHeld ?_
          case h24 => intro u hSw; (try dsimp only at hSw); go_simp; try with_reducible rfl
          try simp only [List.getElem_toArray]
          try simp only [List.getElem_cons_succ]
          try simp only [List.getElem_cons_zero]
          try simp only [Act.put]
          try simp only [List.setIfInBounds_toArray]
          try simp only [List.set]
          refine wpAnyH_take (i := 12) (v := ?v25) rfl (by kernel_rfl) (by kernel_rfl) (by kernel_rfl) (fun _ _ _ h => h) (Or.inl ⟨by kernel_rfl, ?h25⟩) hHeld ?_
          case h25 => intro u hSw; (try dsimp only at hSw); go_simp; try with_reducible rfl
          try simp only [List.getElem_toArray]
          try simp only [List.getElem_cons_succ]
          try simp only [List.getElem_cons_zero]
          try simp only [Act.put]
          try simp only [List.setIfInBounds_toArray]
          try simp only [List.set]
          refine wpAnyH_take (i := 13) (v := ?v26) rfl (by kernel_rfl) (by kernel_rfl) (by kernel_rfl) (fun _ _ _ h => h) (Or.inl ⟨by kernel_rfl, ?h26⟩) hHeld ?_
          case h26 => intro u hSw; (try dsimp only at hSw); go_simp; try with_reducible rfl
          try simp only [List.getElem_toArray]
          try simp only [List.getElem_cons_succ]
          try simp only [List.getElem_cons_zero]
          try simp only [Act.put]
          try simp only [List.setIfInBounds_toArray]
          try simp only [List.set]
          refine wpAnyH_take (i := 14) (v := ?v27) rfl (by kernel_rfl) (by kernel_rfl) (by kernel_rfl) (fun _ _ _ h => h) (Or.inl ⟨by kernel_rfl, ?h27⟩) hHeld ?_
          case h27 => intro u hSw; (try dsimp only at hSw); go_simp; try with_reducible rfl
          try simp only [List.getElem_toArray]
          try simp only [List.getElem_cons_succ]
          try simp only [List.getElem_cons_zero]
          try simp only [Act.put]
          try simp only [List.setIfInBounds_toArray]
          try simp only [List.set]
          rw [HSo.out]
          try rw [HT.out]
          have c3 := hR.c3
          refine wpAnyH_ready (rs := [1, 15]) (by kernel_rfl) (by simp) ?_
          refine AllReadyH.cons rfl (fun K hK => ?_) (AllReadyH.cons rfl (fun K hK => ?_) AllReadyH.nil)
          · rw [if_pos (by kernel_rfl)]
            go_simp
            refine hK.out _ _ (hS.out _ hR.g) (fun hHeld => ?_)
            clear hK K
            try simp only [Act.put]
            try simp only [List.setIfInBounds_toArray]
            try simp only [List.set]
            clear c3
            refine wpAnyH_ready (rs := [15]) (by kernel_rfl) (by simp) ?_
            refine AllReadyH.cons rfl (fun K hK => ?_) AllReadyH.nil
            go_simp
            go_wp2_with (go_at_call 50; refine (l2Copy_any b so l (cap - (p + 2)) (rZ zs j) _ HZl.out hl64 (HRe.out _ hR.g)).mono ?_; rintro e w7 ⟨gu, cu, rfl, g7, hu⟩)
            have hR7 := hR.up g7
            have hD7 := hD.below g7
            have hlo : Hid (∀ i, i < j → ∀ g, (V i).ownBlock = some g → g < D.heap.size) := fun i hi g hg => (World.ownsRow.lt (hD.by' i hi) g hg).2
            have hDs := hR.s
            have h77 := g7.size
            refine hK.out _ _ (hS.out _ hR7.g) (fun hHeld => ?_)
            clear hK K
            try simp only [Act.put]
            try simp only [List.setIfInBounds_toArray]
            try simp only [List.set]
            refine wpAnyH_take (i := 16) (v := ?v28) rfl (by kernel_rfl) (by kernel_rfl) (by kernel_rfl) (fun _ _ _ h => h) (Or.inl ⟨by kernel_rfl, ?h28⟩) hHeld ?_
            case h28 => intro u hSw; (try dsimp only at hSw); go_simp; try with_reducible rfl
            try simp only [List.getElem_toArray]
            try simp only [List.getElem_cons_succ]
            try simp only [List.getElem_cons_zero]
            try simp only [Act.put]
            try simp only [List.setIfInBounds_toArray]
            try simp only [List.set]
            have gb : Below w7.heap.size w7 (w7.alloc (.cells #[.int .i64 p0, .slice (some ⟨gu, 0, none⟩) l cu] 82)) := by go_grown
            have hR8 := hR7.up gb
            have hD8 := hD7.below gb
            have hu8 := hu.grown gb
            refine wpAnyH_ready (rs := [17]) (by kernel_rfl) (by simp) ?_
            refine AllReadyH.cons rfl (fun K hK => ?_) AllReadyH.nil
            go_simp
            refine hK.out _ _ (hS.out _ hR8.g) (fun hHeld => ?_)
            clear hK K
            try simp only [Act.put]
            try simp only [List.setIfInBounds_toArray]
            try simp only [List.set]
            refine wpAnyH_ready (rs := [18]) (by kernel_rfl) (by simp) ?_
            refine AllReadyH.cons rfl (fun K hK => ?_) AllReadyH.nil
            rw [if_pos (by kernel_rfl)]
            refine wp_append_own _ _ _ 25 rfl (w.heap.size + 2) 82 i5 (.agg #[.int .i64 0, .slice none 0 0]) 2 32 Tryd.underlying25 hi5 hz50 hz51 hz52 rfl (by decide) _ _ _ rfl hD8.row ⟨w7.heap.size, 0, none⟩ 1 1 [.int .i64 (p0 : Int), .slice (some ⟨gu, 0, none⟩) l cu] rfl rfl (by
              intro i u hu
              match i, hu with
              | 0, hu => simp at hu; subst hu; simp [go_sem, Addr.add]
              | 1, hu => simp at hu; subst hu; simp [go_sem, Addr.add]) (by
              intro u hu
              simp at hu
              rcases hu with rfl | rfl <;> rfl) (by unfold maxLen; omega) (by omega) (by simp; omega) ?_
            intro v' w9 hown' hgrow _
            have hD9 := hD8.add (v' := v') (u := .slice (some ⟨gu, 0, none⟩) l cu) (b := D.heap.size) (by rw [HZl.out]; have h := hu8; unfold Gb at h; rw [HZl.out] at h; exact h) hlo.out hDs (by simp; omega) (by rw [HPe.out]; exact hown') hgrow
            obtain ⟨a9, d9, hv9⟩ := hD9.form
            subst hv9
            have g9 : Below (w.heap.size + 2) (w7.alloc (.cells #[.int .i64 p0, .slice (some ⟨gu, 0, none⟩) l cu] 82)) w9 := Below.grown (Below.refl _ _) hgrow hR8.s (fun q e => (World.ownsRow.lt hD8.row q e).1)
            have hR9 := hR8.low g9
            refine hK.out _ _ (hS.out _ hR9.g) (fun hHeld => ?_)
            clear hK K hown' hgrow hD8 hu8 hD7 hR7 hR8 gb g9 hu
            try simp only [Act.put]
            try simp only [List.setIfInBounds_toArray]
            try simp only [List.set]
            refine wpAnyH_take (i := 19) (v := ?v29) rfl (by kernel_rfl) (by kernel_rfl) (by kernel_rfl) (fun _ _ _ h => h) (Or.inl ⟨by kernel_rfl, ?h29⟩) hHeld ?_
            case h29 => intro u hSw; (try dsimp only at hSw); go_simp; try with_reducible rfl
            try simp only [List.getElem_toArray]
            try simp only [List.getElem_cons_succ]
            try simp only [List.getElem_cons_zero]
            try simp only [Act.put]
            try simp only [List.setIfInBounds_toArray]
            try simp only [List.set]
            have c9 := hR9.c3
            have g9 := hR9.g3
            have hRA := hR9.put (u := .slice a9 (j + 1) d9)
            have hDA := hD9.setLow (p := ⟨w.heap.size + 1, 3, none⟩) (by simp) (.slice a9 (j + 1) d9)
            refine wpAnyH_ready (rs := [20]) (by kernel_rfl) (by simp) ?_
            refine AllReadyH.cons rfl (fun K hK => ?_) AllReadyH.nil
            go_simp
            refine hK.out _ _ (hS.out _ hRA.g) (fun hHeld => ?_)
            clear hK K c9 g9 hHeld hR9 hD9
            try simp only [Act.put]
            try simp only [List.setIfInBounds_toArray]
            try simp only [List.set]
            refine wpAnyH_done (by kernel_rfl) ?_ _
            go_wp2_with fail
            go_roundw
            case rel => exact ⟨j + 1, a9, d9, _, _, by omega, by go_num, by rw [HP1.out]; rfl, by have := HP1.out; omega, hDA, hRA, HE⟩
            case measure => simp [intOf]; omega
          · go_simp
            go_wp2_with (go_at_call 50; refine (l2Copy_any b so l (cap - (p + 2)) (rZ zs j) _ HZl.out hl64 (HRe.out _ hR.g)).mono ?_; rintro e w7 ⟨gu, cu, rfl, g7, hu⟩)
            have hR7 := hR.up g7
            have hD7 := hD.below g7
            have hlo : Hid (∀ i, i < j → ∀ g, (V i).ownBlock = some g → g < D.heap.size) := fun i hi g hg => (World.ownsRow.lt (hD.by' i hi) g hg).2
            have hDs := hR.s
            have h77 := g7.size
            refine hK.out _ _ (hS.out _ hR7.g) (fun hHeld => ?_)
            clear hK K
            try simp only [Act.put]
            try simp only [List.setIfInBounds_toArray]
            try simp only [List.set]
            refine wpAnyH_take (i := 16) (v := ?v30) rfl (by kernel_rfl) (by kernel_rfl) (by kernel_rfl) (fun _ _ _ h => h) (Or.inl ⟨by kernel_rfl, ?h30⟩) hHeld ?_
            case h30 => intro u hSw; (try dsimp only at hSw); go_simp; try with_reducible rfl
            try simp only [List.getElem_toArray]
            try simp only [List.getElem_cons_succ]
            try simp only [List.getElem_cons_zero]
            try simp only [Act.put]
            try simp only [List.setIfInBounds_toArray]
            try simp only [List.set]
            have gb : Below w7.heap.size w7 (w7.alloc (.cells #[.int .i64 p0, .slice (some ⟨gu, 0, none⟩) l cu] 82)) := by go_grown
            have hR8 := hR7.up gb
            have hD8 := hD7.below gb
            have hu8 := hu.grown gb
            clear c3
            have c3 := hR7.c3
            have d3 := hR8.c3
            refine wpAnyH_ready (rs := [1, 17]) (by kernel_rfl) (by simp) ?_
            refine AllReadyH.cons rfl (fun K hK => ?_) (AllReadyH.cons rfl (fun K hK => ?_) AllReadyH.nil)
            · rw [if_pos (by kernel_rfl)]
              go_simp
              refine hK.out _ _ (hS.out _ hR7.g) (fun hHeld => ?_)
              clear hK K
              try simp only [Act.put]
              try simp only [List.setIfInBounds_toArray]
              try simp only [List.set]
              clear c3 d3
              refine wpAnyH_ready (rs := [17]) (by kernel_rfl) (by simp) ?_
              refine AllReadyH.cons rfl (fun K hK => ?_) AllReadyH.nil
              go_simp
              refine hK.out _ _ (hS.out _ hR8.g) (fun hHeld => ?_)
              clear hK K
              try simp only [Act.put]
              try simp only [List.setIfInBounds_toArray]
              try simp only [List.set]
              refine wpAnyH_ready (rs := [18]) (by kernel_rfl) (by simp) ?_
              refine AllReadyH.cons rfl (fun K hK => ?_) AllReadyH.nil
              rw [if_pos (by kernel_rfl)]
              refine wp_append_own _ _ _ 25 rfl (w.heap.size + 2) 82 i5 (.agg #[.int .i64 0, .slice none 0 0]) 2 32 Tryd.underlying25 hi5 hz50 hz51 hz52 rfl (by decide) _ _ _ rfl hD8.row ⟨w7.heap.size, 0, none⟩ 1 1 [.int .i64 (p0 : Int), .slice (some ⟨gu, 0, none⟩) l cu] rfl rfl (by
                intro i u hu
                match i, hu with
                | 0, hu => simp at hu; subst hu; simp [go_sem, Addr.add]
                | 1, hu => simp at hu; subst hu; simp [go_sem, Addr.add]) (by
                intro u hu
                simp at hu
                rcases hu with rfl | rfl <;> rfl) (by unfold maxLen; omega) (by omega) (by simp; omega) ?_
              intro v' w9 hown' hgrow _
              have hD9 := hD8.add (v' := v') (u := .slice (some ⟨gu, 0, none⟩) l cu) (b := D.heap.size) (by rw [HZl.out]; have h := hu8; unfold Gb at h; rw [HZl.out] at h; exact h) hlo.out hDs (by simp; omega) (by rw [HPe.out]; exact hown') hgrow
              obtain ⟨a9, d9, hv9⟩ := hD9.form
              subst hv9
              have g9 : Below (w.heap.size + 2) (w7.alloc (.cells #[.int .i64 p0, .slice (some ⟨gu, 0, none⟩) l cu] 82)) w9 := Below.grown (Below.refl _ _) hgrow hR8.s (fun q e => (World.ownsRow.lt hD8.row q e).1)
              have hR9 := hR8.low g9
              refine hK.out _ _ (hS.out _ hR9.g) (fun hHeld => ?_)
              clear hK K hown' hgrow hD8 hu8 hD7 hR7 hR8 gb g9 hu
              try simp only [Act.put]
              try simp only [List.setIfInBounds_toArray]
              try simp only [List.set]
              refine wpAnyH_take (i := 19) (v := ?v31) rfl (by kernel_rfl) (by kernel_rfl) (by kernel_rfl) (fun _ _ _ h => h) (Or.inl ⟨by kernel_rfl, ?h31⟩) hHeld ?_
              case h31 => intro u hSw; (try dsimp only at hSw); go_simp; try with_reducible rfl
              try simp only [List.getElem_toArray]
              try simp only [List.getElem_cons_succ]
              try simp only [List.getElem_cons_zero]
              try simp only [Act.put]
              try simp only [List.setIfInBounds_toArray]
              try simp only [List.set]
              have c9 := hR9.c3
              have g9 := hR9.g3
              have hRA := hR9.put (u := .slice a9 (j + 1) d9)
              have hDA := hD9.setLow (p := ⟨w.heap.size + 1, 3, none⟩) (by simp) (.slice a9 (j + 1) d9)
              refine wpAnyH_ready (rs := [20]) (by kernel_rfl) (by simp) ?_
              refine AllReadyH.cons rfl (fun K hK => ?_) AllReadyH.nil
              go_simp
              refine hK.out _ _ (hS.out _ hRA.g) (fun hHeld => ?_)
              clear hK K c9 g9 hHeld hR9 hD9
              try simp only [Act.put]
              try simp only [List.setIfInBounds_toArray]
              try simp only [List.set]
              refine wpAnyH_done (by kernel_rfl) ?_ _
              go_wp2_with fail
              go_roundw
              case rel => exact ⟨j + 1, a9, d9, _, _, by omega, by go_num, by rw [HP1.out]; rfl, by have := HP1.out; omega, hDA, hRA, HE⟩
              case measure => simp [intOf]; omega
            · go_simp
              refine hK.out _ _ (hS.out _ hR8.g) (fun hHeld => ?_)
              clear hK K
              try simp only [Act.put]
              try simp only [List.setIfInBounds_toArray]
              try simp only [List.set]
              refine wpAnyH_ready (rs := [1]) (by kernel_rfl) (by simp) ?_
              refine AllReadyH.cons rfl (fun K hK => ?_) AllReadyH.nil
              rw [if_pos (by kernel_rfl)]
              go_simp
              refine hK.out _ _ (hS.out _ hR8.g) (fun hHeld => ?_)
              clear hK K
              try simp only [Act.put]
              try simp only [List.setIfInBounds_toArray]
              try simp only [List.set]
              clear c3 d3
              refine wpAnyH_ready (rs := [18]) (by kernel_rfl) (by simp) ?_
              refine AllReadyH.cons rfl (fun K hK => ?_) AllReadyH.nil
              rw [if_pos (by kernel_rfl)]
              refine wp_append_own _ _ _ 25 rfl (w.heap.size + 2) 82 i5 (.agg #[.int .i64 0, .slice none 0 0]) 2 32 Tryd.underlying25 hi5 hz50 hz51 hz52 rfl (by decide) _ _ _ rfl hD8.row ⟨w7.heap.size, 0, none⟩ 1 1 [.int .i64 (p0 : Int), .slice (some ⟨gu, 0, none⟩) l cu] rfl rfl (by
                intro i u hu
                match i, hu with
                | 0, hu => simp at hu; subst hu; simp [go_sem, Addr.add]
                | 1, hu => simp at hu; subst hu; simp [go_sem, Addr.add]) (by
                intro u hu
                simp at hu
                rcases hu with rfl | rfl <;> rfl) (by unfold maxLen; omega) (by omega) (by simp; omega) ?_
              intro v' w9 hown' hgrow _
              have hD9 := hD8.add (v' := v') (u := .slice (some ⟨gu, 0, none⟩) l cu) (b := D.heap.size) (by rw [HZl.out]; have h := hu8; unfold Gb at h; rw [HZl.out] at h; exact h) hlo.out hDs (by simp; omega) (by rw [HPe.out]; exact hown') hgrow
              obtain ⟨a9, d9, hv9⟩ := hD9.form
              subst hv9
              have g9 : Below (w.heap.size + 2) (w7.alloc (.cells #[.int .i64 p0, .slice (some ⟨gu, 0, none⟩) l cu] 82)) w9 := Below.grown (Below.refl _ _) hgrow hR8.s (fun q e => (World.ownsRow.lt hD8.row q e).1)
              have hR9 := hR8.low g9
              refine hK.out _ _ (hS.out _ hR9.g) (fun hHeld => ?_)
              clear hK K hown' hgrow hD8 hu8 hD7 hR7 hR8 gb g9 hu
              try simp only [Act.put]
              try simp only [List.setIfInBounds_toArray]
              try simp only [List.set]
              refine wpAnyH_take (i := 19) (v := ?v32) rfl (by kernel_rfl) (by kernel_rfl) (by kernel_rfl) (fun _ _ _ h => h) (Or.inl ⟨by kernel_rfl, ?h32⟩) hHeld ?_
              case h32 => intro u hSw; (try dsimp only at hSw); go_simp; try with_reducible rfl
              try simp only [List.getElem_toArray]
              try simp only [List.getElem_cons_succ]
              try simp only [List.getElem_cons_zero]
              try simp only [Act.put]
              try simp only [List.setIfInBounds_toArray]
              try simp only [List.set]
              have c9 := hR9.c3
              have g9 := hR9.g3
              have hRA := hR9.put (u := .slice a9 (j + 1) d9)
              have hDA := hD9.setLow (p := ⟨w.heap.size + 1, 3, none⟩) (by simp) (.slice a9 (j + 1) d9)
              refine wpAnyH_ready (rs := [20]) (by kernel_rfl) (by simp) ?_
              refine AllReadyH.cons rfl (fun K hK => ?_) AllReadyH.nil
              go_simp
              refine hK.out _ _ (hS.out _ hRA.g) (fun hHeld => ?_)
              clear hK K c9 g9 hHeld hR9 hD9
              try simp only [Act.put]
              try simp only [List.setIfInBounds_toArray]
              try simp only [List.set]
              refine wpAnyH_done (by kernel_rfl) ?_ _
              go_wp2_with fail
              go_roundw
              case rel => exact ⟨j + 1, a9, d9, _, _, by omega, by go_num, by rw [HP1.out]; rfl, by have := HP1.out; omega, hDA, hRA, HE⟩
              case measure => simp [intOf]; omega
    · have e : j = cn := by omega
      subst e
      have HE : Hid (cnt zs = j) := by show _ = _; rw [hC.out, Nat.sub_self]; rfl
      clear hC
      generalize pos zs j = p
      obtain ⟨a0, a1, a2, a3, c0, c1, c2, c3, f0, f1, f2, f3, g3, g, hs⟩ := hR
      go_wp2_with fail
      refine bodyPost_ret (v := .agg #[.int .i64 x1, .int .i64 x2, .int .i64 x3, .slice a j c]) (by simp [results, Tryd.results28, go_sem, *]) rfl ?_
      refine ⟨a, c, V, B, by rw [HX.out.1, HX.out.2.1, HX.out.2.2, HE.out], by go_grown, ?_⟩
      rw [HE.out]
      exact ((((hD.setLow (p := ⟨w.heap.size, 0, none⟩) (by simp) _).setLow (p := ⟨w.heap.size, 1, none⟩) (by simp) _).setLow (p := ⟨w.heap.size, 2, none⟩) (by simp) _).setLow (p := ⟨w.heap.size, 3, none⟩) (by simp) _).mono (by omega)
end Go.Proofs.YtcjkjenebnodbaaDoor
