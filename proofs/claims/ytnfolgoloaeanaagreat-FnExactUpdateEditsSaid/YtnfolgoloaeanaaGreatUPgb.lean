/-
  Pages in memory of one's own that are appended to and turned.
-/
import Derived.Test.YtnfolgoloaeanaaGreatUApn
import Derived.Test.YtnfolgoloaeanaaGreatUEds
import Derived.Test.YtnfolgoloaeanaaGreatUEdc
import Derived.Maps.OwnSet
import Derived.DeepKeys4
import Derived.WideKeyEntry

namespace Go.Proofs.YtnfolgoloaeanaaGreat
open Go.RowKit
set_option linter.unusedVariables false

/-- The blocks of a slice and of the slices in it. -/
def blkP (v : Value) (V : List Value) (g : Nat) : Prop := v.ownBlock = some g ∨ ∃ u ∈ V, u.ownBlock = some g
/-- v holds the slices V, and they the bytes ps; all of it in blocks from n₀ on. -/
structure PgB (n₀ : Nat) (W : World) (v : Value) (ps : List (List Int)) (V : List Value) : Prop where
  row : W.ownsRow n₀ 22 1 v ps.length V
  len : V.length = ps.length
  by' : ∀ (i : Nat) (u : Value) (zs : List Int), V[i]? = some u → ps[i]? = some zs → Gb n₀ W u zs
/-- No two of them share a block. -/
def SepV (V : List Value) : Prop := ∀ (i j : Nat) (u u' : Value) (g : Nat), i ≠ j → V[i]? = some u → V[j]? = some u' → u.ownBlock = some g → u'.ownBlock ≠ some g

theorem apart41 {W : World} {b1 b2 n1 : Nat} {v1 v2 : Value} {x1 : List Value} (h1 : W.ownsRow b1 22 1 v1 n1 x1) {zs : List Int} (h2 : Gb b2 W v2 zs) {g : Nat} (e1 : v1.ownBlock = some g) (e2 : v2.ownBlock = some g) : False := by
  obtain ⟨t, ht, h2⟩ := h2
  rcases h1.2 with ⟨rfl, _⟩ | ⟨g1, cap, cur, rfl, _, hg, _⟩
  · cases e1
  · rcases h2.2 with ⟨rfl, _⟩ | ⟨g2, cap', cur', rfl, _, hg', _⟩
    · cases e2
    · simp only [Value.ownBlock, Option.some.injEq] at e1 e2
      rw [e1] at hg
      rw [e2, hg] at hg'
      have h : (22 : TypeId) = t := by injection hg' with hg'; injection hg'
      rcases ht with e | e <;> (rw [e] at h; exact absurd h (by decide))

section
variable {n₀ : Nat} {W W' : World} {v v' u : Value} {ps : List (List Int)} {V : List Value} {zs : List Int}

theorem PgB.nil (n₀ : Nat) (W : World) : PgB n₀ W (.slice none 0 0) [] [] := ⟨World.ownsRow_nil _ _ _ _, rfl, by simp⟩
theorem PgB.lt (h : PgB n₀ W v ps V) {g : Nat} (hb : blkP v V g) : n₀ ≤ g ∧ g < W.heap.size := by
  rcases hb with hb | ⟨u, hu, hb⟩
  · exact h.row.lt g hb
  · obtain ⟨i, hi⟩ := List.getElem?_of_mem hu
    have hl := (List.getElem?_eq_some_iff.1 hi).1
    obtain ⟨zs, hz⟩ : ∃ zs, ps[i]? = some zs := ⟨_, List.getElem?_eq_getElem (by rw [← h.len]; exact hl)⟩
    exact Gb.lt (h.by' i u zs hi hz) g hb
theorem PgB.kept (h : PgB n₀ W v ps V) {row : Option Nat} (hg : W.grownBy W' row) (hn : ∀ g, blkP v V g → row ≠ some g) : PgB n₀ W' v ps V := by
  refine ⟨h.row.kept hg ?_, h.len, fun i u zs hu hz => Gb.kept (h.by' i u zs hu hz) hg ?_⟩
  · cases hv : v.ownBlock with
    | none => exact .inl rfl
    | some g => exact .inr fun e => hn g (.inl hv) e.symm
  · cases hv : u.ownBlock with
    | none => exact .inl rfl
    | some g => exact .inr fun e => hn g (.inr ⟨u, List.mem_of_getElem? hu, hv⟩) e.symm
theorem PgB.below (h : PgB n₀ W v ps V) (hb : Below W.heap.size W W') : PgB n₀ W' v ps V :=
  h.kept (row := none) ⟨hb.os, hb.tape, hb.output, hb.size, fun k hk _ => hb.block k hk⟩ (fun g _ e => by cases e)
theorem PgB.base (h : PgB n₀ W v ps V) {m : Nat} (hm : m ≤ n₀) : PgB m W v ps V := ⟨ownsRow_base h.row hm, h.len, fun i u zs hu hz => Gb.base (h.by' i u zs hu hz) hm⟩

/-- One page more: what the append handed back. -/
theorem PgB.append (h : PgB n₀ W v ps V) (hu : Gb n₀ W u zs) (hrow : W'.ownsRow n₀ 22 1 v' (ps.length + 1) (V ++ [u])) (hg : W.grownBy W' v.ownBlock) : PgB n₀ W' v' (ps ++ [zs]) (V ++ [u]) := by
  have keep : ∀ {x : Value} {ys : List Int}, Gb n₀ W x ys → Gb n₀ W' x ys := fun {x ys} hx => Gb.kept hx hg (by
    cases hv : x.ownBlock with
    | none => exact .inl rfl
    | some g => exact .inr fun e => apart41 h.row hx e.symm hv)
  refine ⟨by simpa using hrow, by simp [h.len], fun i x ys hx hy => ?_⟩
  by_cases e : i < V.length
  · rw [List.getElem?_append_left e] at hx
    rw [List.getElem?_append_left (by rw [← h.len]; exact e)] at hy
    exact keep (h.by' i x ys hx hy)
  · rw [List.getElem?_append_right (by omega)] at hx
    rw [List.getElem?_append_right (by rw [← h.len]; omega), ← h.len] at hy
    have e0 : i - V.length = 0 := by
      have := (List.getElem?_eq_some_iff.1 hx).1
      simp at this; omega
    rw [e0] at hx hy
    simp at hx hy
    subst hx hy
    exact keep hu
/-- A page is another one. -/
theorem PgB.set (h : PgB n₀ W v ps V) (hu : Gb n₀ W u zs) {g n cap i : Nat} (hv : v = .slice (some ⟨g, 0, none⟩) n cap) (hi : i < ps.length) : PgB n₀ (W.setCell ⟨g, i, none⟩ u) v (ps.set i zs) (V.set i u) := by
  have hgv : v.ownBlock = some g := by rw [hv]; rfl
  have keep : ∀ {x : Value} {ys : List Int}, Gb n₀ W x ys → Gb n₀ (W.setCell ⟨g, i, none⟩ u) x ys := fun {x ys} hx => by
    refine Gb.other hx (a := ⟨g, i, none⟩) (fun e => ?_) u
    exact apart41 h.row hx hgv e
  have hn : n = ps.length := by
    have := h.row
    rw [hv] at this
    rcases this.2 with ⟨e, _⟩ | ⟨_, _, _, e, _⟩
    · cases e
    · injection e
  refine ⟨?_, by simp [h.len], fun j x ys hx hy => ?_⟩
  · have hr := h.row
    rw [hv, hn] at hr ⊢
    rw [List.length_set]
    exact (hr.stored i u).1
  · by_cases e : j = i
    · subst e
      rw [List.getElem?_set_self (by rw [h.len]; exact hi)] at hx
      rw [List.getElem?_set_self hi] at hy
      cases hx; cases hy
      exact keep hu
    · rw [List.getElem?_set_ne (by omega)] at hx hy
      exact keep (h.by' j x ys hx hy)
theorem blk_append {g : Nat} (hb : blkP v' (V ++ [u]) g) (hv : v'.ownBlock = v.ownBlock ∨ v'.ownBlock = some n₀) : blkP v V g ∨ g = n₀ ∨ u.ownBlock = some g := by
  rcases hb with hb | ⟨x, hx, hb⟩
  · rcases hv with e | e
    · exact .inl (.inl (by rw [← e]; exact hb))
    · rw [e] at hb; cases hb; exact .inr (.inl rfl)
  · rcases List.mem_append.1 hx with hx | hx
    · exact .inl (.inr ⟨x, hx, hb⟩)
    · simp at hx; subst hx; exact .inr (.inr hb)
theorem sep_append (h : SepV V) (hn : ∀ x ∈ V, ∀ g, u.ownBlock = some g → x.ownBlock ≠ some g) : SepV (V ++ [u]) := by
  have one : ∀ i x, (V ++ [u])[i]? = some x → (i < V.length ∧ V[i]? = some x) ∨ (i = V.length ∧ x = u) := fun i x hx => by
    by_cases e : i < V.length
    · rw [List.getElem?_append_left e] at hx; exact .inl ⟨e, hx⟩
    · rw [List.getElem?_append_right (by omega)] at hx
      have := (List.getElem?_eq_some_iff.1 hx).1
      have e0 : i - V.length = 0 := by simp at this; omega
      rw [e0] at hx
      simp at hx
      exact .inr ⟨by omega, hx.symm⟩
  intro i j x y g hij hx hy hg
  rcases one i x hx with ⟨a, hx1⟩ | ⟨a, e1⟩
  · rcases one j y hy with ⟨b, hy1⟩ | ⟨b, e2⟩
    · exact h i j x y g hij hx1 hy1 hg
    · exact fun e => hn x (List.mem_of_getElem? hx1) g (by rw [← e2]; exact e) hg
  · rcases one j y hy with ⟨b, hy1⟩ | ⟨b, e2⟩
    · exact hn y (List.mem_of_getElem? hy1) g (by rw [← e1]; exact hg)
    · omega
theorem sep_set (h : SepV V) {i : Nat} (hn : ∀ x ∈ V, ∀ g, u.ownBlock = some g → x.ownBlock ≠ some g) : SepV (V.set i u) := by
  have one : ∀ j x, (V.set i u)[j]? = some x → (j ≠ i ∧ V[j]? = some x) ∨ (j = i ∧ x = u) := fun j x hx => by
    by_cases e : j = i
    · subst e
      have hl := (List.getElem?_eq_some_iff.1 hx).1
      rw [List.getElem?_set_self (by simpa using hl)] at hx
      cases hx; exact .inr ⟨rfl, rfl⟩
    · rw [List.getElem?_set_ne (by omega)] at hx
      exact .inl ⟨e, hx⟩
  intro a b x y g hab hx hy hg
  rcases one a x hx with ⟨_, hx1⟩ | ⟨a1, e1⟩
  · rcases one b y hy with ⟨_, hy1⟩ | ⟨_, e2⟩
    · exact h a b x y g hab hx1 hy1 hg
    · exact fun e => hn x (List.mem_of_getElem? hx1) g (by rw [← e2]; exact e) hg
  · rcases one b y hy with ⟨_, hy1⟩ | ⟨b1, e2⟩
    · exact hn y (List.mem_of_getElem? hy1) g (by rw [← e1]; exact hg)
    · omega
end

open Go.RowKit Go.Maps

/-- What a pair reads as, as a key. -/
def kl (x y : Int) : Lit := .string (keyBytes [.int .i64 x, .int .i64 y])
def kv (x y : Int) : Value := .agg #[.int .i64 x, .int .i64 y]
/-- Both fit their kind. -/
def Kw (x y : Int) : Prop := (Lit.int .i64 x).wf = true ∧ (Lit.int .i64 y).wf = true

/-- What is asked of a key's type: two int64. -/
structure KeyT (K : TypeId) : Prop where
  law : Keyed Tryz.prog K
  rd : ∀ x y, Kw x y → keyOf Tryz.prog K (kv x y) = some (kl x y)
  wide : (match Tryz.prog.underlying K with | some (.array _ _) | some (.struct _) => true | _ => false) = true

theorem laidOutM : laidOutB Tryz.prog = true := by kernel_rfl

theorem keyLaw73 : WideMaps.KeyLaw Tryz.prog 105 := deep_law_laid laidOutM (m := 5) (by decide) (of_decide_eq_true (by kernel_rfl)) (by kernel_rfl) (by kernel_rfl)
theorem keyLaw150 : WideMaps.KeyLaw Tryz.prog 84 := deep_law_laid laidOutM (m := 5) (by decide) (of_decide_eq_true (by kernel_rfl)) (by kernel_rfl) (by kernel_rfl)

theorem lits2 (d : Nat) (x : Int) (hx : (Lit.int .i64 x).wf = true) : Tryz.prog.keyLits (d + 1) 2 [.int .i64 x] = some [.int .i64 x] := by
  unfold Program.keyLits
  rw [Tryz.underlying2]
  simp [hx]

theorem kOf73 (x y : Int) (h : Kw x y) : keyOf Tryz.prog 105 (kv x y) = some (kl x y) := by
  obtain ⟨hx, hy⟩ := h
  have hs : Tryz.prog.types.size + 1 = (Tryz.prog.types.size - 1) + 1 + 1 := by
    have : 1 ≤ Tryz.prog.types.size := of_decide_eq_true (by kernel_rfl)
    omega
  have c1 : Tryz.prog.cellsOf 105 = 2 := by kernel_rfl
  have c2 : Tryz.prog.cellsOf 2 = 1 := by kernel_rfl
  have k0 : Tryz.prog.keyType 105 = true := by kernel_rfl
  have k1 : (kv x y).formed Tryz.prog 105 = true := by simp [kv, Value.formed, Tryz.underlying105, c1]
  unfold keyOf
  rw [Tryz.underlying105]
  simp only [k0, k1, Bool.and_self, if_true]
  rw [hs]
  unfold Program.keyLits
  rw [Tryz.underlying105]
  simp [kv, Value.cells, c1, c2, lits2 _ x hx, lits2 _ y hy, kl]

theorem kOf150 (x y : Int) (h : Kw x y) : keyOf Tryz.prog 84 (kv x y) = some (kl x y) := by
  obtain ⟨hx, hy⟩ := h
  have hs : Tryz.prog.types.size + 1 = (Tryz.prog.types.size - 1) + 1 + 1 := by
    have : 1 ≤ Tryz.prog.types.size := of_decide_eq_true (by kernel_rfl)
    omega
  have c1 : Tryz.prog.cellsOf 84 = 2 := by kernel_rfl
  have c2 : Tryz.prog.cellsOf 2 = 1 := by kernel_rfl
  have k0 : Tryz.prog.keyType 84 = true := by kernel_rfl
  have k1 : (kv x y).formed Tryz.prog 84 = true := by simp [kv, Value.formed, Tryz.underlying84, c1]
  unfold keyOf
  rw [Tryz.underlying84]
  simp only [k0, k1, Bool.and_self, if_true]
  rw [hs]
  unfold Program.keyLits
  rw [Tryz.underlying84]
  simp [kv, Value.cells, c1, c2, lits2 _ x hx, lits2 _ y hy, kl]

theorem keyT73 : KeyT 105 := ⟨Keyed.of_law keyLaw73, kOf73, by kernel_rfl⟩
theorem keyT150 : KeyT 84 := ⟨Keyed.of_law keyLaw150, kOf150, by kernel_rfl⟩

theorem kl_inj {x y x' y' : Int} (h : Kw x y) (h' : Kw x' y') (e : kl x y = kl x' y') : x = x' ∧ y = y' := by
  have := (Keyed.of_law keyLaw73).inj (kOf73 x y h) (by rw [e]; exact kOf73 x' y' h')
  simp [kv] at this
  exact this
theorem kl_ne {x y x' y' : Int} (h : Kw x y) (h' : Kw x' y') (e : (x, y) ≠ (x', y')) : kl x y ≠ kl x' y' := fun e' => e (by obtain ⟨rfl, rfl⟩ := kl_inj h h' e'; rfl)
theorem kl_key (x y : Int) : WideAt.IsKeyLit (kl x y) := trivial

/-- An element reads as itself. -/
def hR (v : Value) : Option (DataW Value × List MemPlace) := some (.held v, [])

/-- Block b is a map of sz entries: at the pair x, y the element f x y. -/
def MapF (K : TypeId) (w : World) (b : Nat) (f : Int → Int → Option Value) (sz : Nat) : Prop :=
  ∃ D : DataW Value, w.ownsMap Tryz.prog K hR b sz D ∧ size D = sz ∧ ∀ x y, Kw x y → ∀ z, D.atKey (kl x y) z = match f x y with | some v => .held v | none => z

/-- f with x, y turned. -/
def upd (f : Int → Int → Option Value) (x y : Int) (v : Option Value) : Int → Int → Option Value := fun a b => if a = x ∧ b = y then v else f a b

/-- How many entries there are behind a store. -/
def nSz (o : Option Value) (sz : Nat) : Nat := if o.isSome = true then sz else sz + 1
theorem nSz_le (o : Option Value) (sz : Nat) : nSz o sz ≤ sz + 1 := by unfold nSz; split <;> omega

section
variable {K : TypeId} {w w' : World} {b sz : Nat} {f : Int → Int → Option Value}

theorem owns_tight {n : Nat} {D : DataW Value} (h : w.ownsMap Tryz.prog K hR b n D) : w.ownsMap Tryz.prog K hR b (size D) D := by
  obtain ⟨es, clock, hb, F, hs, rfl⟩ := h
  refine ⟨es, clock, hb, F, ?_, rfl⟩
  simp [size, length_sorted]

theorem MapF.lt (h : MapF K w b f sz) : b < w.heap.size := by obtain ⟨D, ho, _⟩ := h; exact ho.lt

theorem MapF.has (h : MapF K w b f sz) : ∃ D : DataW Value, w.ownsMap Tryz.prog K hR b sz D ∧ size D = sz ∧ (∀ x y, Kw x y → ∀ z, D.atKey (kl x y) z = match f x y with | some v => .held v | none => z) ∧ ∀ x y, Kw x y → Maps.has D (kl x y) = (f x y).isSome := by
  obtain ⟨D, ho, hs, ha⟩ := h
  refine ⟨D, ho, hs, ha, fun x y hk => ?_⟩
  cases hf : f x y with
  | none => exact Maps.has_false_of_atKey (fun z => by rw [ha x y hk, hf])
  | some v => exact Maps.has_true_of_atKey (y := .held v) (fun z => by rw [ha x y hk, hf])

theorem MapF.kept (h : MapF K w b f sz) {row : Option Nat} (hg : w.grownBy w' row) (hne : some b ≠ row) : MapF K w' b f sz := by
  obtain ⟨D, ho, r⟩ := h
  exact ⟨D, ho.kept hg hne, r⟩

theorem MapF.below (h : MapF K w b f sz) (hb : Below w.heap.size w w') : MapF K w' b f sz :=
  h.kept (row := none) ⟨hb.os, hb.tape, hb.output, hb.size, fun i hi _ => hb.block i hi⟩ (by simp)

theorem MapF.made (K : TypeId) (w : World) : MapF K (w.alloc (.map #[] 0)) w.heap.size (fun _ _ => none) 0 :=
  ⟨.map [], World.ownsMap_made w _ _ _, rfl, fun x y _ z => rfl⟩

theorem MapF.len (h : MapF K w b f sz) {t e : TypeId} (ht : Tryz.prog.underlying t = some (.map K e)) (ty : TypeId) : (Builtin.len_ #[t] ty #[.map (some b)]).run Tryz.prog w = .ok (.int .i64 sz) w := by
  obtain ⟨D, ho, hs, _⟩ := h
  rw [ho.len ht ty, hs]

theorem MapF.look (h : MapF K w b f sz) (T : KeyT K) {t e : TypeId} (ht : Tryz.prog.underlying t = some (.map K e)) {z : Value} (hz : (zeroValue e).run Tryz.prog w = .ok z w) {x y : Int} (hk : Kw x y) : (Instr.lookup t (.map (some b)) (kv x y) false).run Tryz.prog w = .ok ((f x y).getD z) w := by
  obtain ⟨D, ho, _, ha⟩ := h
  obtain ⟨v, ps, hr, hv⟩ := ho.lookup T.law ht hz (zd := .held z) rfl (T.rd x y hk)
  rw [hr]
  rw [ha x y hk] at hv
  cases hf : f x y with
  | none => rw [hf] at hv; simp [hR] at hv; simp [hv]
  | some u => rw [hf] at hv; simp [hR] at hv; simp [hv]

theorem MapF.look_ok (h : MapF K w b f sz) (T : KeyT K) {t e : TypeId} (ht : Tryz.prog.underlying t = some (.map K e)) {z : Value} (hz : (zeroValue e).run Tryz.prog w = .ok z w) {x y : Int} (hk : Kw x y) : (Instr.lookup t (.map (some b)) (kv x y) true).run Tryz.prog w = .ok (.tuple #[(f x y).getD z, .bool (f x y).isSome]) w := by
  obtain ⟨D, ho, _, ha, hh⟩ := h.has
  obtain ⟨v, ps, hr, hv⟩ := ho.look_ok T.law ht hz (zd := .held z) rfl (T.rd x y hk)
  rw [hr, hh x y hk]
  rw [ha x y hk] at hv
  cases hf : f x y with
  | none => rw [hf] at hv; simp [hR] at hv; simp [hv]
  | some u => rw [hf] at hv; simp [hR] at hv; simp [hv]

theorem MapF.store (h : MapF K w b f sz) (T : KeyT K) {t e : TypeId} (ht : Tryz.prog.underlying t = some (.map K e)) {x y : Int} (hk : Kw x y) (v : Value) (hs : sz < 1000000) :
    ∃ w', (Instr.mapUpdate t (.map (some b)) (kv x y) v).run Tryz.prog w = .ok () w' ∧ MapF K w' b (upd f x y (some v)) (nSz (f x y) sz) ∧ w.mapTurned w' b := by
  obtain ⟨D, ho, hsz, ha, hh⟩ := h.has
  obtain ⟨w', hr, ho', ht'⟩ := ho.store T.law ht (val := v) (by unfold maxLen; omega) (T.rd x y hk) (rfl : hR v = some (.held v, []))
  have e1 : size (D.put (kl x y) (.held v)) = nSz (f x y) sz := by
    rw [Maps.size_put (ho.tidy T.law), hh x y hk, hsz]; rfl
  refine ⟨w', hr, ⟨_, by rw [← e1]; exact owns_tight ho', e1, fun a c hac z => ?_⟩, ht'⟩
  unfold upd
  by_cases e : a = x ∧ c = y
  · rw [if_pos e, e.1, e.2]
    exact Maps.atKey_put_same ho.isMap (kl_key _ _) _ _
  · rw [if_neg e, Maps.atKey_put_other (kl_ne hac hk (fun e' => e (by simpa using e')))]
    exact ha a c hac z

theorem MapF.drop (h : MapF K w b f sz) (T : KeyT K) {t e : TypeId} (ht : Tryz.prog.underlying t = some (.map K e)) {x y : Int} (hk : Kw x y) (ty : TypeId) :
    ∃ w', (Builtin.delete_ #[t, K] ty #[.map (some b), kv x y]).run Tryz.prog w = .ok (.tuple #[]) w' ∧ MapF K w' b (upd f x y none) (if (f x y).isSome then sz - 1 else sz) ∧ w.mapTurned w' b := by
  obtain ⟨D, ho, hsz, ha, hh⟩ := h.has
  obtain ⟨w', hr, ho', ht'⟩ := ho.drop T.law ht (T.rd x y hk) ty
  have e1 : size (D.del (kl x y)) = if (f x y).isSome then sz - 1 else sz := by
    have := Maps.size_del (k := kl x y) (ho.tidy T.law)
    rw [hh x y hk, hsz] at this
    cases hf : (f x y).isSome <;> rw [hf] at this <;> simp at this ⊢ <;> omega
  refine ⟨w', hr, ⟨_, by rw [← e1]; exact owns_tight ho', e1, fun a c hac z => ?_⟩, ht'⟩
  unfold upd
  by_cases e : a = x ∧ c = y
  · rw [if_pos e, e.1, e.2]
    exact Maps.atKey_del_same _
  · rw [if_neg e, Maps.atKey_del_other (kl_ne hac hk (fun e' => e (by simpa using e')))]
    exact ha a c hac z

end

open Go.RowKit Go.Maps

theorem wpList_store_mf {K : TypeId} (w : World) {ops : Array Oper} {rest : List Oper} {o : Oper} {a : Act} {Q : Exit → Act → World → Prop} {b sz : Nat} {f : Int → Int → Option Value}
    (hg : o.guard = none) (m x v : Operand) (t : TypeId) (hop : o.op = Op.mapUpdate t m x v) (T : KeyT K) (e : TypeId) (ht : Tryz.prog.underlying t = some (.map K e))
    (hm : a.eval m = .map (some b)) (h : MapF K w b f sz) (x' y' : Int) (hx : a.eval x = kv x' y') (val : Value) (hv : a.eval v = val) (hk : Kw x' y') (hs : sz < 1000000)
    (hK : ∀ w', MapF K w' b (upd f x' y' (some val)) (nSz (f x' y') sz) → w.mapTurned w' b → wpList Tryz.prog ops Q rest (a.put o.dst undef) w') : wpList Tryz.prog ops Q (o :: rest) a w := by
  refine wpList_plain hg fun K' hK' => ?_
  obtain ⟨w', hrun, r1, r2⟩ := h.store T ht hk val hs
  unfold Oper.wp
  simp [execOp, hop, hm, hx, hv, hrun, Result.andThen]
  exact hK' _ _ (hK w' r1 r2)

/-- Ten cells of a cell and its place. -/
structure SpC (w : World) (b o : Nat) (x : Spt) : Prop where
  c0 : w.cell? ⟨b, o, none⟩ = some (.int .i64 x.p)
  c1 : w.cell? ⟨b, o + 1, none⟩ = some (.int .i64 x.s)
  c2 : w.cell? ⟨b, o + 2, none⟩ = some (.int .i64 x.c.q)
  c3 : w.cell? ⟨b, o + 3, none⟩ = some (.int .i64 x.c.f)
  c4 : w.cell? ⟨b, o + 4, none⟩ = some (.int .i64 x.c.p)
  c5 : w.cell? ⟨b, o + 5, none⟩ = some (.int .i64 x.c.l)
  c6 : w.cell? ⟨b, o + 6, none⟩ = some (.int .i64 x.c.t)
  c7 : w.cell? ⟨b, o + 7, none⟩ = some (.int .i64 x.c.k)
  c8 : w.cell? ⟨b, o + 8, none⟩ = some (.int .i64 x.c.v)
  c9 : w.cell? ⟨b, o + 9, none⟩ = some (.string x.c.s)

theorem SpC.of {w : World} {b o : Nat} {x : Spt} (h : ∀ j u, (spE x)[j]? = some u → w.cell? ⟨b, o + j, none⟩ = some u) : SpC w b o x :=
  ⟨h 0 _ rfl, h 1 _ rfl, h 2 _ rfl, h 3 _ rfl, h 4 _ rfl, h 5 _ rfl, h 6 _ rfl, h 7 _ rfl, h 8 _ rfl, h 9 _ rfl⟩
theorem SpC.below {w w' : World} {b o : Nat} {x : Spt} (h : SpC w b o x) {B : Nat} (hb : Below B w w') (hB : b < B) : SpC w' b o x :=
  have up : ∀ (p : Nat) (v : Value), w.cell? ⟨b, p, none⟩ = some v → w'.cell? ⟨b, p, none⟩ = some v := fun p v h => (hb.cell (p := ⟨b, p, none⟩) hB).trans h
  ⟨up _ _ h.c0, up _ _ h.c1, up _ _ h.c2, up _ _ h.c3, up _ _ h.c4, up _ _ h.c5, up _ _ h.c6, up _ _ h.c7, up _ _ h.c8, up _ _ h.c9⟩
theorem SpC.lt {w : World} {b o : Nat} {x : Spt} (h : SpC w b o x) : b < w.heap.size := World.block_lt_of_cell? w _ h.c0
theorem Rs.spot {w : World} {a : Option Addr} {xs : List Spt} (h : Rs spE 10 w a xs) {i : Nat} {x : Spt} (hx : xs[i]? = some x) : ∃ b off, a = some ⟨b, off, none⟩ ∧ SpC w b (off + i * 10) x := by
  rcases h with h | ⟨b, off, ha, hc⟩
  · rw [h] at hx; simp at hx
  · exact ⟨b, off, ha, SpC.of (hc i x hx)⟩

def small (z : Int) : Prop := 0 ≤ z ∧ z ≤ 100000
theorem small_wf {z : Int} (h : small z) : (Lit.int .i64 z).wf = true := by
  obtain ⟨h1, h2⟩ := h
  simp [Lit.wf, IntKind.min, IntKind.max, IntKind.bits, IntKind.signed]
  omega
theorem kw_small {x y : Int} (h : small x) (h' : small y) : Kw x y := ⟨small_wf h, small_wf h'⟩
/-- What is known of a cell of right pages. -/
structure SpOk (x : Spt) : Prop where
  p : small x.p
  s : small x.s
  cp : small x.c.p
  cl : small x.c.l
  ct : small x.c.t
  ck : small x.c.k
  q : x.c.q = 0
  f : x.c.f = 0 ∨ x.c.f = 1 ∨ x.c.f = 2
  sz : x.c.s.size ≤ 64

def rowV (x : Spt) : Value := .agg #[.int .i64 x.c.t, .int .i64 x.c.k, .int .i64 x.c.v, .string x.c.s]
/-- Moved rows by their places. -/
def mvS (f : Int → Int → Option Value) (x : Spt) : Int → Int → Option Value := if x.c.f = 2 then upd f x.p x.s (some (rowV x)) else f
def mvF (xs : List Spt) : Int → Int → Option Value := xs.foldl mvS (fun _ _ => none)

theorem mvF_snoc (xs : List Spt) (x : Spt) : mvF (xs ++ [x]) = mvS (mvF xs) x := by simp [mvF, List.foldl_append]

theorem turned_below {w w' : World} {b B : Nat} (h : w.mapTurned w' b) (hB : B ≤ b) (hs : b < w.heap.size) : Below B w w' := by
  have g := h.grown
  exact ⟨g.os, g.tape, g.output, g.size, fun k hk => g.block k (by omega) (fun e => by injection e with e; omega)⟩

set_option maxHeartbeats 2000000 in
theorem movedRows_any (a : Option Addr) (xs : List Spt) (n c : Nat) (w : World) (hn : xs.length = n) (hm : n ≤ 1000) (hk : ∀ x ∈ xs, SpOk x) (hr : Rs spE 10 w a xs) :
    Calls Tryz.prog 116 #[.slice a n c] w fun e w' => e = .returned (.map (some w.heap.size)) ∧ Below w.heap.size w w' ∧ ∃ sz, sz ≤ n ∧ MapF 84 w' w.heap.size (mvF xs) sz := by
  have hmm := @run_makeMap Tryz.prog
  have HN : Hid (xs.length = n) := hn
  have HK : Hid (∀ x ∈ xs, SpOk x) := hk
  have HR : Hid (Rs spE 10 w a xs) := hr
  clear hn hk hr
  go_enter Tryz.func116, Tryz.ntmps116
  go_wp2_with fail
  go_loopw [9] (fun i wr => ∃ j : Nat, j ≤ n ∧ i = .int .i64 j ∧ Below w.heap.size w wr ∧ ∃ sz, sz ≤ j ∧ MapF 84 wr w.heap.size (mvF (xs.take j)) sz) (fun i _ => n - (intOf i).toNat)
  case atStart => exact ⟨0, Nat.zero_le _, rfl, by go_grown, 0, Nat.zero_le _, MapF.made _ w⟩
  case round =>
    obtain ⟨j, hj, rfl, g, sz, hsz, hM⟩ := hrel
    by_cases hlt : j < n
    · obtain ⟨x, hx⟩ := at_lt' (rs := xs) (i := j) (by rw [HN.out]; exact hlt)
      obtain ⟨b, off, rfl, X⟩ := HR.out.spot hx
      have X := X.below g X.lt
      have hok := HK.out x (List.mem_of_getElem? hx)
      have hjn : (j : Int) < (n : Int) := by omega
      have HT : Hid (mvF (xs.take (j + 1)) = mvS (mvF (xs.take j)) x) := by show _ = _; rw [take_snoc hx, mvF_snoc]
      clear hx
      obtain ⟨xp, xs', xq, xf, xcp, xcl, xct, xck, xcv, xcs⟩ := x
      obtain ⟨x0, x1, x2, x3, x4, x5, x6, x7, x8, x9⟩ := X
      obtain ⟨o1, o2, o3, o4, o5, o6, o7, o8, o9⟩ := hok
      dsimp only at x0 x1 x2 x3 x4 x5 x6 x7 x8 x9 o1 o2 o3 o4 o5 o6 o7 o8 o9
      subst o7
      have hgs := g.size
      have hKw : Hid (Kw xp xs') := kw_small o1 o2
      generalize mvF (xs.take j) = f at hM HT
      go_upto_region 5 with (fail)
      generalize hY : World.alloc _ _ = Y
      have gY : Below wr.heap.size wr Y := by rw [← hY]; go_grown
      have C : SpC Y wr.heap.size 0 ⟨xp, xs', ⟨0, xf, xcp, xcl, xct, xck, xcv, xcs⟩⟩ := by rw [← hY]; exact ⟨by simp [go_sem], by simp [go_sem], by simp [go_sem], by simp [go_sem], by simp [go_sem], by simp [go_sem], by simp [go_sem], by simp [go_sem], by simp [go_sem], by simp [go_sem]⟩
      have hM := hM.below gY
      have g := g.trans (gY.mono g.size)
      clear hY gY x0 x1 x2 x3 x4 x5 x6 x7 x8 x9
      obtain ⟨y0, y1, y2, y3, y4, y5, y6, y7, y8, y9⟩ := C
      dsimp only at y0 y1 y2 y3 y4 y5 y6 y7 y8 y9
      by_cases hf2 : xf = 2
      · subst hf2
        have HT2 : Hid (mvF (xs.take (j + 1)) = upd f xp xs' (some (.agg #[.int .i64 xct, .int .i64 xck, .int .i64 xcv, .string xcs]))) := by show _ = _; rw [HT.out]; rfl
        go_wp2_with (at_mapUpdate; refine wpList_store_mf _ rfl _ _ _ 164 rfl keyT150 26 Tryz.underlying164 rfl hM xp xs' rfl _ rfl hKw.out (by omega) ?_)
        intro w' hM' ht'
        have g2 : Below w.heap.size w w' := g.trans (turned_below ht' (Nat.le_refl _) hM.lt)
        rw [← HT2.out] at hM'
        clear ht' hM y0 y1 y2 y3 y4 y5 y6 y7 y8 y9
        go_wp2_with fail
        go_roundw
        case rel => exact ⟨j + 1, by omega, by go_num, g2, _, by have := nSz_le (f xp xs') sz; omega, hM'⟩
        case measure => simp [intOf]; omega
      · have HT2 : Hid (mvF (xs.take (j + 1)) = f) := by show _ = _; rw [HT.out]; unfold mvS; rw [if_neg hf2]
        have d2 : (xf == 2) = false := by simpa using hf2
        rw [← HT2.out] at hM
        go_wp2_with fail
        go_roundw
        case rel => exact ⟨j + 1, by omega, by go_num, g, sz, by omega, hM⟩
        case measure => simp [intOf]; omega
    · have e : j = n := by omega
      subst e
      rw [List.take_of_length_le (by rw [HN.out]; exact Nat.le_refl _)] at hM
      go_wp2_with fail
      go_ret
      exact ⟨rfl, g, sz, hsz, hM⟩

open Go.RowKit Go.Maps

set_option maxHeartbeats 400000 in
theorem told_any (p s q f cp cl t k v : Int) (st : ByteArray) (w : World) :
    Calls Tryz.prog 131 #[.agg #[.int .i64 p, .int .i64 s, .int .i64 q, .int .i64 f, .int .i64 cp, .int .i64 cl, .int .i64 t, .int .i64 k, .int .i64 v, .string st]] w fun e w' => e = .returned (.agg #[.int .i64 cp, .int .i64 cl]) ∧ Below w.heap.size w w' := by
  go_enter Tryz.func131, Tryz.ntmps131
  go_wp2
  go_returns
  exact ⟨rfl, by go_grown⟩

set_option maxHeartbeats 400000 in
theorem keyOf_any (t k v : Int) (st : ByteArray) (w : World) :
    Calls Tryz.prog 119 #[.agg #[.int .i64 t, .int .i64 k, .int .i64 v, .string st]] w fun e w' => e = .returned (.agg #[.int .i64 t, .int .i64 k]) ∧ Below w.heap.size w w' := by
  go_enter Tryz.func119, Tryz.ntmps119
  go_wp2
  go_returns
  exact ⟨rfl, by go_grown⟩

open Go.WideElems Go.ChangeMaps in
theorem entry_all {P : Program} {w : World} {t k e : TypeId} {R : Value → Option (DataW Value × List MemPlace)} {b : Nat} {es : Array MapEntry} {clock : Nat} (K : WideMaps.KeyLaw P k) (ht : P.underlying t = some (.map k e)) {z : Value} (hz : ∀ u : World, (zeroValue e).run P u = .ok z u) (hb : w.heap[b]? = some (.map es clock)) (F : Fit P k R es clock)
    {key : Value} {kl : Lit} (hkey : keyOf P k key = some kl) :
    ∃ (v0 : Value) (st : Nat) (es1 : Array MapEntry) (clock1 : Nat), (Instr.mapEntry t (.map (some b)) key).run P w = .ok (.tuple #[v0, goInt st]) (setBlock w b (.map es1 clock1)) ∧
      (Instr.lookup t (.map (some b)) key false).run P w = .ok v0 w ∧ (Instr.mapUpdate t (.map (some b)) key v0).run P w = .ok () (setBlock w b (.map es1 clock1)) ∧
      ∀ (w2 : World) (val : Value), w2.heap[b]? = some (.map es1 clock1) → ∃ es' clock', (Instr.entryStore t (.map (some b)) (goInt st) val).run P w2 = .ok () (setBlock w2 b (.map es' clock')) ∧
        (Instr.mapUpdate t (.map (some b)) key val).run P w = .ok () (setBlock w b (.map es' clock')) := by
  obtain ⟨v0, st, es1, clock1, h1, h2, h3⟩ := entry_then_store K ht hz hb F hkey
  refine ⟨v0, st, es1, clock1, h1, ?_, ?_, h3⟩
  · rcases K.find w hkey es.toList F.keys with ⟨g1, g2⟩ | ⟨j, e0, g1, g2, g3⟩
    · simp [Instr.mapEntry, run_underlying ht, MapKept.run_getObj_map hb, K.check w false hkey, g1, hz, MapKept.run_setObj_map _ hb, Result.andThen, setBlock] at h1
      obtain ⟨⟨rfl, _⟩, _⟩ := h1
      simp [Instr.lookup, run_underlying ht, MapKept.run_getObj_map hb, K.check w _ hkey, g1, hz, Result.andThen]
    · have hj : es[j]? = some e0 := by simpa using g2
      simp [Instr.mapEntry, run_underlying ht, MapKept.run_getObj_map hb, K.check w false hkey, g1, hj, g3, K.stays w hkey, MapKept.run_setObj_map _ hb, Result.andThen, setBlock] at h1
      obtain ⟨⟨rfl, _⟩, _⟩ := h1
      simp [Instr.lookup, run_underlying ht, MapKept.run_getObj_map hb, K.check w _ hkey, g1, Result.andThen]
  · rcases K.find w hkey es.toList F.keys with ⟨g1, g2⟩ | ⟨j, e0, g1, g2, g3⟩
    · simp [Instr.mapEntry, run_underlying ht, MapKept.run_getObj_map hb, K.check w false hkey, g1, hz, MapKept.run_setObj_map _ hb, Result.andThen, setBlock] at h1
      obtain ⟨⟨rfl, _⟩, h1⟩ := h1
      simp [Instr.mapUpdate, run_underlying ht, MapKept.run_getObj_map hb, K.check w false hkey, g1, MapKept.run_setObj_map _ hb, Result.andThen, setBlock]
      exact h1
    · have hj : es[j]? = some e0 := by simpa using g2
      have hsame : es.modify j (fun e => { e with key := key }) = es := by
        apply Array.ext'
        rw [Array.toList_modify, modify_eq_set _ _ _ _ g2]
        have : ({ e0 with key := key } : MapEntry) = e0 := by rw [← g3]
        rw [this]
        exact set_self _ _ _ g2
      have hsame2 : es.modify j (fun e => { e with key := key, val := e0.val }) = es := by
        apply Array.ext'
        rw [Array.toList_modify, modify_eq_set _ _ _ _ g2]
        have : ({ e0 with key := key, val := e0.val } : MapEntry) = e0 := by rw [← g3]
        rw [this]
        exact set_self _ _ _ g2
      simp [Instr.mapEntry, run_underlying ht, MapKept.run_getObj_map hb, K.check w false hkey, g1, hj, g3, K.stays w hkey, hsame, MapKept.run_setObj_map _ hb, Result.andThen, setBlock] at h1
      obtain ⟨⟨rfl, _⟩, h1⟩ := h1
      simp [Instr.mapUpdate, run_underlying ht, MapKept.run_getObj_map hb, K.check w false hkey, g1, hj, g3, K.stays w hkey, hsame2, MapKept.run_setObj_map _ hb, Result.andThen, setBlock]
      exact h1

theorem MapF.entry2 {K : TypeId} {w : World} {b sz : Nat} {f : Int → Int → Option Value} (h : MapF K w b f sz) (T : KeyT K) (L : WideMaps.KeyLaw Tryz.prog K) {t e : TypeId} (ht : Tryz.prog.underlying t = some (.map K e)) {z : Value} (hz : ∀ u : World, (zeroValue e).run Tryz.prog u = .ok z u) {x y : Int} (hk : Kw x y) (hs : sz < 1000000) :
    ∃ v0 st w1, (Instr.mapEntry t (.map (some b)) (kv x y)).run Tryz.prog w = .ok (.tuple #[v0, goInt st]) w1 ∧ w.mapTurned w1 b ∧ (Instr.lookup t (.map (some b)) (kv x y) false).run Tryz.prog w1 = .ok ((f x y).getD z) w1 ∧
      ∀ v, ∃ w2, (Instr.entryStore t (.map (some b)) (goInt st) v).run Tryz.prog w1 = .ok () w2 ∧ MapF K w2 b (upd f x y (some v)) (nSz (f x y) sz) ∧ w1.mapTurned w2 b := by
  have h' := h
  obtain ⟨D, ⟨es, clock, hb, F, hes, rfl⟩, _⟩ := h'
  obtain ⟨v0, st, es1, clock1, h1, h2, h2', h3⟩ := entry_all L ht hz hb F (T.rd x y hk)
  have hv0 : v0 = (f x y).getD z := by
    have := h.look T ht (hz w) hk
    rw [h2] at this
    simpa using this
  have hb1 : (ChangeMaps.setBlock w b (.map es1 clock1)).heap[b]? = some (.map es1 clock1) := ChangeMaps.heap_setBlock_same hb _
  refine ⟨v0, st, _, h1, ⟨es, clock, es1, clock1, hb, rfl⟩, ?_, fun v => ?_⟩
  · obtain ⟨w', h6, h7, h8⟩ := h.store T ht hk v0 hs
    rw [h2'] at h6
    simp at h6
    rw [h6, h7.look T ht (hz w') hk]
    simp [upd, hv0]
  obtain ⟨es', clock', h4, h5⟩ := h3 (ChangeMaps.setBlock w b (.map es1 clock1)) v hb1
  obtain ⟨w', h6, h7, h8⟩ := h.store T ht hk v hs
  rw [h5] at h6
  simp at h6
  refine ⟨_, h4, ?_, ⟨es1, clock1, es', clock', hb1, rfl⟩⟩
  have : ChangeMaps.setBlock (ChangeMaps.setBlock w b (.map es1 clock1)) b (.map es' clock') = w' := by
    rw [← h6]; simp [ChangeMaps.setBlock]
  rw [this]; exact h7

end Go.Proofs.YtnfolgoloaeanaaGreat

