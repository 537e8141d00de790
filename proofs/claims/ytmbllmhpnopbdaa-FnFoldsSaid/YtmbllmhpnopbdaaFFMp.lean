/-
  Maps whose keys are pairs of integers, told as functions.
-/
import Derived.Test.YtmbllmhpnopbdaaFFApn
import Derived.Maps.OwnSet
import Derived.DeepKeys4
import Derived.WideKeyEntry

namespace Go.Proofs.Ytmbllmhpnopbdaa
open Go.RowKit Go.Maps
set_option linter.unusedVariables false

/-- What a pair reads as, as a key. -/
def kl (x y : Int) : Lit := .string (keyBytes [.int .i64 x, .int .i64 y])
def kv (x y : Int) : Value := .agg #[.int .i64 x, .int .i64 y]
/-- Both fit their kind. -/
def Kw (x y : Int) : Prop := (Lit.int .i64 x).wf = true ∧ (Lit.int .i64 y).wf = true

/-- What is asked of a key's type: two int64. -/
structure KeyT (K : TypeId) : Prop where
  law : Keyed Try.prog K
  rd : ∀ x y, Kw x y → keyOf Try.prog K (kv x y) = some (kl x y)
  wide : (match Try.prog.underlying K with | some (.array _ _) | some (.struct _) => true | _ => false) = true

theorem laidOutM : laidOutB Try.prog = true := by kernel_rfl

theorem keyLaw73 : WideMaps.KeyLaw Try.prog (65) := deep_law_laid laidOutM (m := 5) (by decide) (of_decide_eq_true (by kernel_rfl)) (by kernel_rfl) (by kernel_rfl)
theorem lits2 (d : Nat) (x : Int) (hx : (Lit.int .i64 x).wf = true) : Try.prog.keyLits (d + 1) 2 [.int .i64 x] = some [.int .i64 x] := by
  unfold Program.keyLits
  rw [Try.underlying2]
  simp [hx]

theorem kOf73 (x y : Int) (h : Kw x y) : keyOf Try.prog (65) (kv x y) = some (kl x y) := by
  obtain ⟨hx, hy⟩ := h
  have hs : Try.prog.types.size + 1 = (Try.prog.types.size - 1) + 1 + 1 := by
    have : 1 ≤ Try.prog.types.size := of_decide_eq_true (by kernel_rfl)
    omega
  have c1 : Try.prog.cellsOf 65 = 2 := by kernel_rfl
  have c2 : Try.prog.cellsOf 2 = 1 := by kernel_rfl
  have k0 : Try.prog.keyType 65 = true := by kernel_rfl
  have k1 : (kv x y).formed Try.prog (65) = true := by simp [kv, Value.formed, Try.underlying65, c1]
  unfold keyOf
  rw [Try.underlying65]
  simp only [k0, k1, Bool.and_self, if_true]
  rw [hs]
  unfold Program.keyLits
  rw [Try.underlying65]
  simp [kv, Value.cells, c1, c2, lits2 _ x hx, lits2 _ y hy, kl]

theorem keyT73 : KeyT 65 := ⟨Keyed.of_law keyLaw73, kOf73, by kernel_rfl⟩
theorem kl_inj {x y x' y' : Int} (h : Kw x y) (h' : Kw x' y') (e : kl x y = kl x' y') : x = x' ∧ y = y' := by
  have := (Keyed.of_law keyLaw73).inj (kOf73 x y h) (by rw [e]; exact kOf73 x' y' h')
  simp [kv] at this
  exact this
theorem kl_ne {x y x' y' : Int} (h : Kw x y) (h' : Kw x' y') (e : (x, y) ≠ (x', y')) : kl x y ≠ kl x' y' := fun e' => e (by obtain ⟨rfl, rfl⟩ := kl_inj h h' e'; rfl)
theorem kl_key (x y : Int) : WideAt.IsKeyLit (kl x y) := trivial

/-- An element reads as itself. -/
def hR (v : Value) : Option (DataW Value × List MemPlace) := some (.held v, [])

/-- Block b is a map of sz entries: at the pair x, y the element f x y. -/
def MapF (K : TypeId) (w : World) (b : Nat) (f : Int → Int → Option Value) (sz : Nat) : Prop :=
  ∃ D : DataW Value, w.ownsMap Try.prog K hR b sz D ∧ size D = sz ∧ ∀ x y, Kw x y → ∀ z, D.atKey (kl x y) z = match f x y with | some v => .held v | none => z

/-- f with x, y turned. -/
def upd (f : Int → Int → Option Value) (x y : Int) (v : Option Value) : Int → Int → Option Value := fun a b => if a = x ∧ b = y then v else f a b

/-- How many entries there are behind a store. -/
def nSz (o : Option Value) (sz : Nat) : Nat := if o.isSome = true then sz else sz + 1
theorem nSz_le (o : Option Value) (sz : Nat) : nSz o sz ≤ sz + 1 := by unfold nSz; split <;> omega

section
variable {K : TypeId} {w w' : World} {b sz : Nat} {f : Int → Int → Option Value}

theorem owns_tight {n : Nat} {D : DataW Value} (h : w.ownsMap Try.prog K hR b n D) : w.ownsMap Try.prog K hR b (size D) D := by
  obtain ⟨es, clock, hb, F, hs, rfl⟩ := h
  refine ⟨es, clock, hb, F, ?_, rfl⟩
  simp [size, length_sorted]

theorem MapF.lt (h : MapF K w b f sz) : b < w.heap.size := by obtain ⟨D, ho, _⟩ := h; exact ho.lt

theorem MapF.has (h : MapF K w b f sz) : ∃ D : DataW Value, w.ownsMap Try.prog K hR b sz D ∧ size D = sz ∧ (∀ x y, Kw x y → ∀ z, D.atKey (kl x y) z = match f x y with | some v => .held v | none => z) ∧ ∀ x y, Kw x y → Maps.has D (kl x y) = (f x y).isSome := by
  obtain ⟨D, ho, hs, ha⟩ := h
  refine ⟨D, ho, hs, ha, fun x y hk => ?_⟩
  cases hf : f x y with
  | none => exact Maps.has_false_of_atKey (fun z => by rw [ha x y hk, hf])
  | some v => exact Maps.has_true_of_atKey (y := .held v) (fun z => by rw [ha x y hk, hf])

theorem MapF.kept (h : MapF K w b f sz) {row : Option Nat} (hg : w.grownBy w' row) (hne : some b ≠ row) : MapF K w' b f sz := by
  obtain ⟨D, ho, r⟩ := h
  exact ⟨D, ho.kept hg hne, r⟩

theorem MapF.below (h : MapF K w b f sz) (hb : Below w.heap.size w w') : MapF K w' b f sz :=
  h.kept (row := none) ⟨hb.os, hb.tape, hb.output, hb.size, fun i hi _ => hb.block i hi⟩ (by simp)

theorem MapF.made (K : TypeId) (w : World) : MapF K (w.alloc (.map #[] 0)) w.heap.size (fun _ _ => none) 0 :=
  ⟨.map [], World.ownsMap_made w _ _ _, rfl, fun x y _ z => rfl⟩

theorem MapF.len (h : MapF K w b f sz) {t e : TypeId} (ht : Try.prog.underlying t = some (.map K e)) (ty : TypeId) : (Builtin.len_ #[t] ty #[.map (some b)]).run Try.prog w = .ok (.int .i64 sz) w := by
  obtain ⟨D, ho, hs, _⟩ := h
  rw [ho.len ht ty, hs]

theorem MapF.look (h : MapF K w b f sz) (T : KeyT K) {t e : TypeId} (ht : Try.prog.underlying t = some (.map K e)) {z : Value} (hz : (zeroValue e).run Try.prog w = .ok z w) {x y : Int} (hk : Kw x y) : (Instr.lookup t (.map (some b)) (kv x y) false).run Try.prog w = .ok ((f x y).getD z) w := by
  obtain ⟨D, ho, _, ha⟩ := h
  obtain ⟨v, ps, hr, hv⟩ := ho.lookup T.law ht hz (zd := .held z) rfl (T.rd x y hk)
  rw [hr]
  rw [ha x y hk] at hv
  cases hf : f x y with
  | none => rw [hf] at hv; simp [hR] at hv; simp [hv]
  | some u => rw [hf] at hv; simp [hR] at hv; simp [hv]

theorem MapF.look_ok (h : MapF K w b f sz) (T : KeyT K) {t e : TypeId} (ht : Try.prog.underlying t = some (.map K e)) {z : Value} (hz : (zeroValue e).run Try.prog w = .ok z w) {x y : Int} (hk : Kw x y) : (Instr.lookup t (.map (some b)) (kv x y) true).run Try.prog w = .ok (.tuple #[(f x y).getD z, .bool (f x y).isSome]) w := by
  obtain ⟨D, ho, _, ha, hh⟩ := h.has
  obtain ⟨v, ps, hr, hv⟩ := ho.look_ok T.law ht hz (zd := .held z) rfl (T.rd x y hk)
  rw [hr, hh x y hk]
  rw [ha x y hk] at hv
  cases hf : f x y with
  | none => rw [hf] at hv; simp [hR] at hv; simp [hv]
  | some u => rw [hf] at hv; simp [hR] at hv; simp [hv]

theorem MapF.store (h : MapF K w b f sz) (T : KeyT K) {t e : TypeId} (ht : Try.prog.underlying t = some (.map K e)) {x y : Int} (hk : Kw x y) (v : Value) (hs : sz < 1000000) :
    ∃ w', (Instr.mapUpdate t (.map (some b)) (kv x y) v).run Try.prog w = .ok () w' ∧ MapF K w' b (upd f x y (some v)) (nSz (f x y) sz) ∧ w.mapTurned w' b := by
  obtain ⟨D, ho, hsz, ha, hh⟩ := h.has
  obtain ⟨w', hr, ho', ht'⟩ := ho.store T.law ht (val := v) (by unfold maxLen; omega) (T.rd x y hk) (rfl : hR v = some (.held v, []))
  have e1 : size (D.put (kl x y) (.held v)) = nSz (f x y) sz := by
    rw [Maps.size_put (ho.tidy T.law), hh x y hk, hsz]; rfl
  refine ⟨w', hr, ⟨_, by rw [← e1]; exact owns_tight ho', e1, fun a c hac z => ?_⟩, ht'⟩
  unfold upd
  by_cases e : a = x ∧ c = y
  · rw [if_pos e, e.1, e.2]
    exact Maps.atKey_put_same ho.isMap (kl_key _ _) _ _
  · rw [if_neg e, Maps.atKey_put_other (kl_ne hac hk (fun e' => e (by simpa using e')))]
    exact ha a c hac z

theorem MapF.drop (h : MapF K w b f sz) (T : KeyT K) {t e : TypeId} (ht : Try.prog.underlying t = some (.map K e)) {x y : Int} (hk : Kw x y) (ty : TypeId) :
    ∃ w', (Builtin.delete_ #[t, K] ty #[.map (some b), kv x y]).run Try.prog w = .ok (.tuple #[]) w' ∧ MapF K w' b (upd f x y none) (if (f x y).isSome then sz - 1 else sz) ∧ w.mapTurned w' b := by
  obtain ⟨D, ho, hsz, ha, hh⟩ := h.has
  obtain ⟨w', hr, ho', ht'⟩ := ho.drop T.law ht (T.rd x y hk) ty
  have e1 : size (D.del (kl x y)) = if (f x y).isSome then sz - 1 else sz := by
    have := Maps.size_del (k := kl x y) (ho.tidy T.law)
    rw [hh x y hk, hsz] at this
    cases hf : (f x y).isSome <;> rw [hf] at this <;> simp at this ⊢ <;> omega
  refine ⟨w', hr, ⟨_, by rw [← e1]; exact owns_tight ho', e1, fun a c hac z => ?_⟩, ht'⟩
  unfold upd
  by_cases e : a = x ∧ c = y
  · rw [if_pos e, e.1, e.2]
    exact Maps.atKey_del_same _
  · rw [if_neg e, Maps.atKey_del_other (kl_ne hac hk (fun e' => e (by simpa using e')))]
    exact ha a c hac z

/-- 'm[k]++' goes by two operations: the entry, and the store into it. -/
theorem MapF.entry (h : MapF K w b f sz) (T : KeyT K) (L : WideMaps.KeyLaw Try.prog K) {t e : TypeId} (ht : Try.prog.underlying t = some (.map K e)) {z : Value} (hz : ∀ u : World, (zeroValue e).run Try.prog u = .ok z u) {x y : Int} (hk : Kw x y) (hs : sz < 1000000) :
    ∃ v0 st w1, (Instr.mapEntry t (.map (some b)) (kv x y)).run Try.prog w = .ok (.tuple #[v0, goInt st]) w1 ∧ w.mapTurned w1 b ∧
      ∀ v, ∃ w2, (Instr.entryStore t (.map (some b)) (goInt st) v).run Try.prog w1 = .ok () w2 ∧ MapF K w2 b (upd f x y (some v)) (nSz (f x y) sz) ∧ w.mapTurned w2 b := by
  have h' := h
  obtain ⟨D, ⟨es, clock, hb, F, hes, rfl⟩, _⟩ := h'
  obtain ⟨v0, st, es1, clock1, h1, _, h3⟩ := WideElems.entry_then_store L ht hz hb F (T.rd x y hk)
  refine ⟨v0, st, _, h1, ⟨es, clock, es1, clock1, hb, rfl⟩, fun v => ?_⟩
  obtain ⟨es', clock', h4, h5⟩ := h3 (ChangeMaps.setBlock w b (.map es1 clock1)) v (ChangeMaps.heap_setBlock_same hb _)
  obtain ⟨w', h6, h7, h8⟩ := h.store T ht hk v hs
  rw [h5] at h6
  simp at h6
  refine ⟨_, h4, ?_, ⟨es, clock, es', clock', hb, ?_⟩⟩
  · have : ChangeMaps.setBlock (ChangeMaps.setBlock w b (.map es1 clock1)) b (.map es' clock') = w' := by
      rw [← h6]; simp [ChangeMaps.setBlock]
    rw [this]; exact h7
  · simp [ChangeMaps.setBlock]
end

theorem turned_grown {w w' : World} {b : Nat} (h : w.mapTurned w' b) : w.grownBy w' (some b) := h.grown

end Go.Proofs.Ytmbllmhpnopbdaa
