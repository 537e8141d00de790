/-
  Pages in memory of one's own that are appended to and turned.
-/
import Derived.Test.YteebbaleejbodaaARArm
import Derived.Test.YteebbaleejbodaaAREds
import Derived.Test.YteebbaleejbodaaARApn
import Derived.Maps.OwnSet
import Derived.DeepKeys4
import Derived.WideKeyEntry

namespace Go.Proofs.Yteebbaleejbodaa
open Go.RowKit
set_option linter.unusedVariables false

/-- The blocks of a slice and of the slices in it. -/
def blkP (v : Value) (V : List Value) (g : Nat) : Prop := v.ownBlock = some g ∨ ∃ u ∈ V, u.ownBlock = some g
/-- v holds the slices V, and they the bytes ps; all of it in blocks from n₀ on. -/
structure PgB (n₀ : Nat) (W : World) (v : Value) (ps : List (List Int)) (V : List Value) : Prop where
  row : W.ownsRow n₀ 106 1 v ps.length V
  len : V.length = ps.length
  by' : ∀ (i : Nat) (u : Value) (zs : List Int), V[i]? = some u → ps[i]? = some zs → Gb n₀ W u zs
/-- No two of them share a block. -/
def SepV (V : List Value) : Prop := ∀ (i j : Nat) (u u' : Value) (g : Nat), i ≠ j → V[i]? = some u → V[j]? = some u' → u.ownBlock = some g → u'.ownBlock ≠ some g

theorem apart41 {W : World} {b1 b2 n1 : Nat} {v1 v2 : Value} {x1 : List Value} (h1 : W.ownsRow b1 106 1 v1 n1 x1) {zs : List Int} (h2 : Gb b2 W v2 zs) {g : Nat} (e1 : v1.ownBlock = some g) (e2 : v2.ownBlock = some g) : False := by
  obtain ⟨t, ht, h2⟩ := h2
  rcases h1.2 with ⟨rfl, _⟩ | ⟨g1, cap, cur, rfl, _, hg, _⟩
  · cases e1
  · rcases h2.2 with ⟨rfl, _⟩ | ⟨g2, cap', cur', rfl, _, hg', _⟩
    · cases e2
    · simp only [Value.ownBlock, Option.some.injEq] at e1 e2
      rw [e1] at hg
      rw [e2, hg] at hg'
      have h : (106 : TypeId) = t := by injection hg' with hg'; injection hg'
      rcases ht with e | e <;> (rw [e] at h; exact absurd h (by decide))

section
variable {n₀ : Nat} {W W' : World} {v v' u : Value} {ps : List (List Int)} {V : List Value} {zs : List Int}

theorem PgB.nil (n₀ : Nat) (W : World) : PgB n₀ W (.slice none 0 0) [] [] := ⟨World.ownsRow_nil _ _ _ _, rfl, by simp⟩
theorem PgB.lt (h : PgB n₀ W v ps V) {g : Nat} (hb : blkP v V g) : n₀ ≤ g ∧ g < W.heap.size := by
  rcases hb with hb | ⟨u, hu, hb⟩
  · exact h.row.lt g hb
  · obtain ⟨i, hi⟩ := List.getElem?_of_mem hu
    have hl := (List.getElem?_eq_some_iff.1 hi).1
    obtain ⟨zs, hz⟩ : ∃ zs, ps[i]? = some zs := ⟨_, List.getElem?_eq_getElem (by rw [← h.len]; exact hl)⟩
    exact Gb.lt (h.by' i u zs hi hz) g hb
theorem PgB.kept (h : PgB n₀ W v ps V) {row : Option Nat} (hg : W.grownBy W' row) (hn : ∀ g, blkP v V g → row ≠ some g) : PgB n₀ W' v ps V := by
  refine ⟨h.row.kept hg ?_, h.len, fun i u zs hu hz => Gb.kept (h.by' i u zs hu hz) hg ?_⟩
  · cases hv : v.ownBlock with
    | none => exact .inl rfl
    | some g => exact .inr fun e => hn g (.inl hv) e.symm
  · cases hv : u.ownBlock with
    | none => exact .inl rfl
    | some g => exact .inr fun e => hn g (.inr ⟨u, List.mem_of_getElem? hu, hv⟩) e.symm
theorem PgB.below (h : PgB n₀ W v ps V) (hb : Below W.heap.size W W') : PgB n₀ W' v ps V :=
  h.kept (row := none) ⟨hb.os, hb.tape, hb.output, hb.size, fun k hk _ => hb.block k hk⟩ (fun g _ e => by cases e)
theorem PgB.base (h : PgB n₀ W v ps V) {m : Nat} (hm : m ≤ n₀) : PgB m W v ps V := ⟨ownsRow_base h.row hm, h.len, fun i u zs hu hz => Gb.base (h.by' i u zs hu hz) hm⟩

/-- One page more: what the append handed back. -/
theorem PgB.append (h : PgB n₀ W v ps V) (hu : Gb n₀ W u zs) (hrow : W'.ownsRow n₀ 106 1 v' (ps.length + 1) (V ++ [u])) (hg : W.grownBy W' v.ownBlock) : PgB n₀ W' v' (ps ++ [zs]) (V ++ [u]) := by
  have keep : ∀ {x : Value} {ys : List Int}, Gb n₀ W x ys → Gb n₀ W' x ys := fun {x ys} hx => Gb.kept hx hg (by
    cases hv : x.ownBlock with
    | none => exact .inl rfl
    | some g => exact .inr fun e => apart41 h.row hx e.symm hv)
  refine ⟨by simpa using hrow, by simp [h.len], fun i x ys hx hy => ?_⟩
  by_cases e : i < V.length
  · rw [List.getElem?_append_left e] at hx
    rw [List.getElem?_append_left (by rw [← h.len]; exact e)] at hy
    exact keep (h.by' i x ys hx hy)
  · rw [List.getElem?_append_right (by omega)] at hx
    rw [List.getElem?_append_right (by rw [← h.len]; omega), ← h.len] at hy
    have e0 : i - V.length = 0 := by
      have := (List.getElem?_eq_some_iff.1 hx).1
      simp at this; omega
    rw [e0] at hx hy
    simp at hx hy
    subst hx hy
    exact keep hu
/-- A page is another one. -/
theorem PgB.set (h : PgB n₀ W v ps V) (hu : Gb n₀ W u zs) {g n cap i : Nat} (hv : v = .slice (some ⟨g, 0, none⟩) n cap) (hi : i < ps.length) : PgB n₀ (W.setCell ⟨g, i, none⟩ u) v (ps.set i zs) (V.set i u) := by
  have hgv : v.ownBlock = some g := by rw [hv]; rfl
  have keep : ∀ {x : Value} {ys : List Int}, Gb n₀ W x ys → Gb n₀ (W.setCell ⟨g, i, none⟩ u) x ys := fun {x ys} hx => by
    refine Gb.other hx (a := ⟨g, i, none⟩) (fun e => ?_) u
    exact apart41 h.row hx hgv e
  have hn : n = ps.length := by
    have := h.row
    rw [hv] at this
    rcases this.2 with ⟨e, _⟩ | ⟨_, _, _, e, _⟩
    · cases e
    · injection e
  refine ⟨?_, by simp [h.len], fun j x ys hx hy => ?_⟩
  · have hr := h.row
    rw [hv, hn] at hr ⊢
    rw [List.length_set]
    exact (hr.stored i u).1
  · by_cases e : j = i
    · subst e
      rw [List.getElem?_set_self (by rw [h.len]; exact hi)] at hx
      rw [List.getElem?_set_self hi] at hy
      cases hx; cases hy
      exact keep hu
    · rw [List.getElem?_set_ne (by omega)] at hx hy
      exact keep (h.by' j x ys hx hy)
theorem blk_append {g : Nat} (hb : blkP v' (V ++ [u]) g) (hv : v'.ownBlock = v.ownBlock ∨ v'.ownBlock = some n₀) : blkP v V g ∨ g = n₀ ∨ u.ownBlock = some g := by
  rcases hb with hb | ⟨x, hx, hb⟩
  · rcases hv with e | e
    · exact .inl (.inl (by rw [← e]; exact hb))
    · rw [e] at hb; cases hb; exact .inr (.inl rfl)
  · rcases List.mem_append.1 hx with hx | hx
    · exact .inl (.inr ⟨x, hx, hb⟩)
    · simp at hx; subst hx; exact .inr (.inr hb)
theorem sep_append (h : SepV V) (hn : ∀ x ∈ V, ∀ g, u.ownBlock = some g → x.ownBlock ≠ some g) : SepV (V ++ [u]) := by
  have one : ∀ i x, (V ++ [u])[i]? = some x → (i < V.length ∧ V[i]? = some x) ∨ (i = V.length ∧ x = u) := fun i x hx => by
    by_cases e : i < V.length
    · rw [List.getElem?_append_left e] at hx; exact .inl ⟨e, hx⟩
    · rw [List.getElem?_append_right (by omega)] at hx
      have := (List.getElem?_eq_some_iff.1 hx).1
      have e0 : i - V.length = 0 := by simp at this; omega
      rw [e0] at hx
      simp at hx
      exact .inr ⟨by omega, hx.symm⟩
  intro i j x y g hij hx hy hg
  rcases one i x hx with ⟨a, hx1⟩ | ⟨a, e1⟩
  · rcases one j y hy with ⟨b, hy1⟩ | ⟨b, e2⟩
    · exact h i j x y g hij hx1 hy1 hg
    · exact fun e => hn x (List.mem_of_getElem? hx1) g (by rw [← e2]; exact e) hg
  · rcases one j y hy with ⟨b, hy1⟩ | ⟨b, e2⟩
    · exact hn y (List.mem_of_getElem? hy1) g (by rw [← e1]; exact hg)
    · omega
theorem sep_set (h : SepV V) {i : Nat} (hn : ∀ x ∈ V, ∀ g, u.ownBlock = some g → x.ownBlock ≠ some g) : SepV (V.set i u) := by
  have one : ∀ j x, (V.set i u)[j]? = some x → (j ≠ i ∧ V[j]? = some x) ∨ (j = i ∧ x = u) := fun j x hx => by
    by_cases e : j = i
    · subst e
      have hl := (List.getElem?_eq_some_iff.1 hx).1
      rw [List.getElem?_set_self (by simpa using hl)] at hx
      cases hx; exact .inr ⟨rfl, rfl⟩
    · rw [List.getElem?_set_ne (by omega)] at hx
      exact .inl ⟨e, hx⟩
  intro a b x y g hab hx hy hg
  rcases one a x hx with ⟨_, hx1⟩ | ⟨a1, e1⟩
  · rcases one b y hy with ⟨_, hy1⟩ | ⟨_, e2⟩
    · exact h a b x y g hab hx1 hy1 hg
    · exact fun e => hn x (List.mem_of_getElem? hx1) g (by rw [← e2]; exact e) hg
  · rcases one b y hy with ⟨_, hy1⟩ | ⟨b1, e2⟩
    · exact hn y (List.mem_of_getElem? hy1) g (by rw [← e1]; exact hg)
    · omega
end

end Go.Proofs.Yteebbaleejbodaa

/-
  Maps whose keys are pairs of integers, told as functions.
-/
namespace Go.Proofs.Yteebbaleejbodaa
open Go.RowKit Go.Maps
set_option linter.unusedVariables false

/-- What a pair reads as, as a key. -/
def kl (x y : Int) : Lit := .string (keyBytes [.int .i64 x, .int .i64 y])
def kv (x y : Int) : Value := .agg #[.int .i64 x, .int .i64 y]
/-- Both fit their kind. -/
def Kw (x y : Int) : Prop := (Lit.int .i64 x).wf = true ∧ (Lit.int .i64 y).wf = true

/-- What is asked of a key's type: two int64. -/
structure KeyT (K : TypeId) : Prop where
  law : Keyed Try.prog K
  rd : ∀ x y, Kw x y → keyOf Try.prog K (kv x y) = some (kl x y)
  wide : (match Try.prog.underlying K with | some (.array _ _) | some (.struct _) => true | _ => false) = true

theorem laidOutM : laidOutB Try.prog = true := by kernel_rfl

theorem keyLaw73 : WideMaps.KeyLaw Try.prog 147 := deep_law_laid laidOutM (m := 5) (by decide) (of_decide_eq_true (by kernel_rfl)) (by kernel_rfl) (by kernel_rfl)
theorem keyLaw150 : WideMaps.KeyLaw Try.prog 250 := deep_law_laid laidOutM (m := 5) (by decide) (of_decide_eq_true (by kernel_rfl)) (by kernel_rfl) (by kernel_rfl)

theorem lits2 (d : Nat) (x : Int) (hx : (Lit.int .i64 x).wf = true) : Try.prog.keyLits (d + 1) 2 [.int .i64 x] = some [.int .i64 x] := by
  unfold Program.keyLits
  rw [Try.underlying2]
  simp [hx]

theorem kOf73 (x y : Int) (h : Kw x y) : keyOf Try.prog 147 (kv x y) = some (kl x y) := by
  obtain ⟨hx, hy⟩ := h
  have hs : Try.prog.types.size + 1 = (Try.prog.types.size - 1) + 1 + 1 := by
    have : 1 ≤ Try.prog.types.size := of_decide_eq_true (by kernel_rfl)
    omega
  have c1 : Try.prog.cellsOf 147 = 2 := by kernel_rfl
  have c2 : Try.prog.cellsOf 2 = 1 := by kernel_rfl
  have k0 : Try.prog.keyType 147 = true := by kernel_rfl
  have k1 : (kv x y).formed Try.prog 147 = true := by simp [kv, Value.formed, Try.underlying147, c1]
  unfold keyOf
  rw [Try.underlying147]
  simp only [k0, k1, Bool.and_self, if_true]
  rw [hs]
  unfold Program.keyLits
  rw [Try.underlying147]
  simp [kv, Value.cells, c1, c2, lits2 _ x hx, lits2 _ y hy, kl]

theorem kOf150 (x y : Int) (h : Kw x y) : keyOf Try.prog 250 (kv x y) = some (kl x y) := by
  obtain ⟨hx, hy⟩ := h
  have hs : Try.prog.types.size + 1 = (Try.prog.types.size - 1) + 1 + 1 := by
    have : 1 ≤ Try.prog.types.size := of_decide_eq_true (by kernel_rfl)
    omega
  have c1 : Try.prog.cellsOf 250 = 2 := by kernel_rfl
  have c2 : Try.prog.cellsOf 2 = 1 := by kernel_rfl
  have k0 : Try.prog.keyType 250 = true := by kernel_rfl
  have k1 : (kv x y).formed Try.prog 250 = true := by simp [kv, Value.formed, Try.underlying250, c1]
  unfold keyOf
  rw [Try.underlying250]
  simp only [k0, k1, Bool.and_self, if_true]
  rw [hs]
  unfold Program.keyLits
  rw [Try.underlying250]
  simp [kv, Value.cells, c1, c2, lits2 _ x hx, lits2 _ y hy, kl]

theorem keyT73 : KeyT 147 := ⟨Keyed.of_law keyLaw73, kOf73, by kernel_rfl⟩
theorem keyT150 : KeyT 250 := ⟨Keyed.of_law keyLaw150, kOf150, by kernel_rfl⟩

theorem kl_inj {x y x' y' : Int} (h : Kw x y) (h' : Kw x' y') (e : kl x y = kl x' y') : x = x' ∧ y = y' := by
  have := (Keyed.of_law keyLaw73).inj (kOf73 x y h) (by rw [e]; exact kOf73 x' y' h')
  simp [kv] at this
  exact this
theorem kl_ne {x y x' y' : Int} (h : Kw x y) (h' : Kw x' y') (e : (x, y) ≠ (x', y')) : kl x y ≠ kl x' y' := fun e' => e (by obtain ⟨rfl, rfl⟩ := kl_inj h h' e'; rfl)
theorem kl_key (x y : Int) : WideAt.IsKeyLit (kl x y) := trivial

/-- An element reads as itself. -/
def hR (v : Value) : Option (DataW Value × List MemPlace) := some (.held v, [])

/-- Block b is a map of sz entries: at the pair x, y the element f x y. -/
def MapF (K : TypeId) (w : World) (b : Nat) (f : Int → Int → Option Value) (sz : Nat) : Prop :=
  ∃ D : DataW Value, w.ownsMap Try.prog K hR b sz D ∧ size D = sz ∧ ∀ x y, Kw x y → ∀ z, D.atKey (kl x y) z = match f x y with | some v => .held v | none => z

/-- f with x, y turned. -/
def upd (f : Int → Int → Option Value) (x y : Int) (v : Option Value) : Int → Int → Option Value := fun a b => if a = x ∧ b = y then v else f a b

/-- How many entries there are behind a store. -/
def nSz (o : Option Value) (sz : Nat) : Nat := if o.isSome = true then sz else sz + 1
theorem nSz_le (o : Option Value) (sz : Nat) : nSz o sz ≤ sz + 1 := by unfold nSz; split <;> omega

section
variable {K : TypeId} {w w' : World} {b sz : Nat} {f : Int → Int → Option Value}

theorem owns_tight {n : Nat} {D : DataW Value} (h : w.ownsMap Try.prog K hR b n D) : w.ownsMap Try.prog K hR b (size D) D := by
  obtain ⟨es, clock, hb, F, hs, rfl⟩ := h
  refine ⟨es, clock, hb, F, ?_, rfl⟩
  simp [size, length_sorted]

theorem MapF.lt (h : MapF K w b f sz) : b < w.heap.size := by obtain ⟨D, ho, _⟩ := h; exact ho.lt

theorem MapF.has (h : MapF K w b f sz) : ∃ D : DataW Value, w.ownsMap Try.prog K hR b sz D ∧ size D = sz ∧ (∀ x y, Kw x y → ∀ z, D.atKey (kl x y) z = match f x y with | some v => .held v | none => z) ∧ ∀ x y, Kw x y → Maps.has D (kl x y) = (f x y).isSome := by
  obtain ⟨D, ho, hs, ha⟩ := h
  refine ⟨D, ho, hs, ha, fun x y hk => ?_⟩
  cases hf : f x y with
  | none => exact Maps.has_false_of_atKey (fun z => by rw [ha x y hk, hf])
  | some v => exact Maps.has_true_of_atKey (y := .held v) (fun z => by rw [ha x y hk, hf])

theorem MapF.kept (h : MapF K w b f sz) {row : Option Nat} (hg : w.grownBy w' row) (hne : some b ≠ row) : MapF K w' b f sz := by
  obtain ⟨D, ho, r⟩ := h
  exact ⟨D, ho.kept hg hne, r⟩

theorem MapF.below (h : MapF K w b f sz) (hb : Below w.heap.size w w') : MapF K w' b f sz :=
  h.kept (row := none) ⟨hb.os, hb.tape, hb.output, hb.size, fun i hi _ => hb.block i hi⟩ (by simp)

theorem MapF.made (K : TypeId) (w : World) : MapF K (w.alloc (.map #[] 0)) w.heap.size (fun _ _ => none) 0 :=
  ⟨.map [], World.ownsMap_made w _ _ _, rfl, fun x y _ z => rfl⟩

theorem MapF.len (h : MapF K w b f sz) {t e : TypeId} (ht : Try.prog.underlying t = some (.map K e)) (ty : TypeId) : (Builtin.len_ #[t] ty #[.map (some b)]).run Try.prog w = .ok (.int .i64 sz) w := by
  obtain ⟨D, ho, hs, _⟩ := h
  rw [ho.len ht ty, hs]

theorem MapF.look (h : MapF K w b f sz) (T : KeyT K) {t e : TypeId} (ht : Try.prog.underlying t = some (.map K e)) {z : Value} (hz : (zeroValue e).run Try.prog w = .ok z w) {x y : Int} (hk : Kw x y) : (Instr.lookup t (.map (some b)) (kv x y) false).run Try.prog w = .ok ((f x y).getD z) w := by
  obtain ⟨D, ho, _, ha⟩ := h
  obtain ⟨v, ps, hr, hv⟩ := ho.lookup T.law ht hz (zd := .held z) rfl (T.rd x y hk)
  rw [hr]
  rw [ha x y hk] at hv
  cases hf : f x y with
  | none => rw [hf] at hv; simp [hR] at hv; simp [hv]
  | some u => rw [hf] at hv; simp [hR] at hv; simp [hv]

theorem MapF.look_ok (h : MapF K w b f sz) (T : KeyT K) {t e : TypeId} (ht : Try.prog.underlying t = some (.map K e)) {z : Value} (hz : (zeroValue e).run Try.prog w = .ok z w) {x y : Int} (hk : Kw x y) : (Instr.lookup t (.map (some b)) (kv x y) true).run Try.prog w = .ok (.tuple #[(f x y).getD z, .bool (f x y).isSome]) w := by
  obtain ⟨D, ho, _, ha, hh⟩ := h.has
  obtain ⟨v, ps, hr, hv⟩ := ho.look_ok T.law ht hz (zd := .held z) rfl (T.rd x y hk)
  rw [hr, hh x y hk]
  rw [ha x y hk] at hv
  cases hf : f x y with
  | none => rw [hf] at hv; simp [hR] at hv; simp [hv]
  | some u => rw [hf] at hv; simp [hR] at hv; simp [hv]

theorem MapF.store (h : MapF K w b f sz) (T : KeyT K) {t e : TypeId} (ht : Try.prog.underlying t = some (.map K e)) {x y : Int} (hk : Kw x y) (v : Value) (hs : sz < 1000000) :
    ∃ w', (Instr.mapUpdate t (.map (some b)) (kv x y) v).run Try.prog w = .ok () w' ∧ MapF K w' b (upd f x y (some v)) (nSz (f x y) sz) ∧ w.mapTurned w' b := by
  obtain ⟨D, ho, hsz, ha, hh⟩ := h.has
  obtain ⟨w', hr, ho', ht'⟩ := ho.store T.law ht (val := v) (by unfold maxLen; omega) (T.rd x y hk) (rfl : hR v = some (.held v, []))
  have e1 : size (D.put (kl x y) (.held v)) = nSz (f x y) sz := by
    rw [Maps.size_put (ho.tidy T.law), hh x y hk, hsz]; rfl
  refine ⟨w', hr, ⟨_, by rw [← e1]; exact owns_tight ho', e1, fun a c hac z => ?_⟩, ht'⟩
  unfold upd
  by_cases e : a = x ∧ c = y
  · rw [if_pos e, e.1, e.2]
    exact Maps.atKey_put_same ho.isMap (kl_key _ _) _ _
  · rw [if_neg e, Maps.atKey_put_other (kl_ne hac hk (fun e' => e (by simpa using e')))]
    exact ha a c hac z

theorem MapF.drop (h : MapF K w b f sz) (T : KeyT K) {t e : TypeId} (ht : Try.prog.underlying t = some (.map K e)) {x y : Int} (hk : Kw x y) (ty : TypeId) :
    ∃ w', (Builtin.delete_ #[t, K] ty #[.map (some b), kv x y]).run Try.prog w = .ok (.tuple #[]) w' ∧ MapF K w' b (upd f x y none) (if (f x y).isSome then sz - 1 else sz) ∧ w.mapTurned w' b := by
  obtain ⟨D, ho, hsz, ha, hh⟩ := h.has
  obtain ⟨w', hr, ho', ht'⟩ := ho.drop T.law ht (T.rd x y hk) ty
  have e1 : size (D.del (kl x y)) = if (f x y).isSome then sz - 1 else sz := by
    have := Maps.size_del (k := kl x y) (ho.tidy T.law)
    rw [hh x y hk, hsz] at this
    cases hf : (f x y).isSome <;> rw [hf] at this <;> simp at this ⊢ <;> omega
  refine ⟨w', hr, ⟨_, by rw [← e1]; exact owns_tight ho', e1, fun a c hac z => ?_⟩, ht'⟩
  unfold upd
  by_cases e : a = x ∧ c = y
  · rw [if_pos e, e.1, e.2]
    exact Maps.atKey_del_same _
  · rw [if_neg e, Maps.atKey_del_other (kl_ne hac hk (fun e' => e (by simpa using e')))]
    exact ha a c hac z

/-- 'm[k]++' goes by two operations: the entry, and the store into it. -/
theorem MapF.entry (h : MapF K w b f sz) (T : KeyT K) (L : WideMaps.KeyLaw Try.prog K) {t e : TypeId} (ht : Try.prog.underlying t = some (.map K e)) {z : Value} (hz : ∀ u : World, (zeroValue e).run Try.prog u = .ok z u) {x y : Int} (hk : Kw x y) (hs : sz < 1000000) :
    ∃ v0 st w1, (Instr.mapEntry t (.map (some b)) (kv x y)).run Try.prog w = .ok (.tuple #[v0, goInt st]) w1 ∧ w.mapTurned w1 b ∧
      ∀ v, ∃ w2, (Instr.entryStore t (.map (some b)) (goInt st) v).run Try.prog w1 = .ok () w2 ∧ MapF K w2 b (upd f x y (some v)) (nSz (f x y) sz) ∧ w.mapTurned w2 b := by
  have h' := h
  obtain ⟨D, ⟨es, clock, hb, F, hes, rfl⟩, _⟩ := h'
  obtain ⟨v0, st, es1, clock1, h1, _, h3⟩ := WideElems.entry_then_store L ht hz hb F (T.rd x y hk)
  refine ⟨v0, st, _, h1, ⟨es, clock, es1, clock1, hb, rfl⟩, fun v => ?_⟩
  obtain ⟨es', clock', h4, h5⟩ := h3 (ChangeMaps.setBlock w b (.map es1 clock1)) v (ChangeMaps.heap_setBlock_same hb _)
  obtain ⟨w', h6, h7, h8⟩ := h.store T ht hk v hs
  rw [h5] at h6
  simp at h6
  refine ⟨_, h4, ?_, ⟨es, clock, es', clock', hb, ?_⟩⟩
  · have : ChangeMaps.setBlock (ChangeMaps.setBlock w b (.map es1 clock1)) b (.map es' clock') = w' := by
      rw [← h6]; simp [ChangeMaps.setBlock]
    rw [this]; exact h7
  · simp [ChangeMaps.setBlock]
end

theorem turned_grown {w w' : World} {b : Nat} (h : w.mapTurned w' b) : w.grownBy w' (some b) := h.grown

end Go.Proofs.Yteebbaleejbodaa
