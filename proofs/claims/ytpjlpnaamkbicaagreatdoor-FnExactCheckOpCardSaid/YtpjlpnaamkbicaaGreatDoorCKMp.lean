/-
  Maps whose keys are pairs of integers, told as functions.
-/
import Derived.Test.YtpjlpnaamkbicaaGreatDoorCKRdw
import Derived.Maps.OwnSet
import Derived.DeepKeys4
import Derived.WideKeyEntry

namespace Go.Proofs.YtpjlpnaamkbicaaGreatDoor
open Go.RowKit Go.Maps
set_option linter.unusedVariables false

/-- What a pair reads as, as a key. -/
def kl (x y : Int) : Lit := .string (keyBytes [.int .i64 x, .int .i64 y])
def kv (x y : Int) : Value := .agg #[.int .i64 x, .int .i64 y]
/-- Both fit their kind. -/
def Kw (x y : Int) : Prop := (Lit.int .i64 x).wf = true ∧ (Lit.int .i64 y).wf = true

/-- What is asked of a key's type: two int64. -/
structure KeyT (K : TypeId) : Prop where
  law : Keyed Tryz.prog K
  rd : ∀ x y, Kw x y → keyOf Tryz.prog K (kv x y) = some (kl x y)
  wide : (match Tryz.prog.underlying K with | some (.array _ _) | some (.struct _) => true | _ => false) = true

theorem laidOutM : laidOutB Tryz.prog = true := by kernel_rfl

theorem keyLaw73 : WideMaps.KeyLaw Tryz.prog 97 := deep_law_laid laidOutM (m := 5) (by decide) (of_decide_eq_true (by kernel_rfl)) (by kernel_rfl) (by kernel_rfl)
theorem lits2 (d : Nat) (x : Int) (hx : (Lit.int .i64 x).wf = true) : Tryz.prog.keyLits (d + 1) 2 [.int .i64 x] = some [.int .i64 x] := by
  unfold Program.keyLits
  rw [Tryz.underlying2]
  simp [hx]

theorem kOf73 (x y : Int) (h : Kw x y) : keyOf Tryz.prog 97 (kv x y) = some (kl x y) := by
  obtain ⟨hx, hy⟩ := h
  have hs : Tryz.prog.types.size + 1 = (Tryz.prog.types.size - 1) + 1 + 1 := by
    have : 1 ≤ Tryz.prog.types.size := of_decide_eq_true (by kernel_rfl)
    omega
  have c1 : Tryz.prog.cellsOf 97 = 2 := by kernel_rfl
  have c2 : Tryz.prog.cellsOf 2 = 1 := by kernel_rfl
  have k0 : Tryz.prog.keyType 97 = true := by kernel_rfl
  have k1 : (kv x y).formed Tryz.prog 97 = true := by simp [kv, Value.formed, Tryz.underlying97, c1]
  unfold keyOf
  rw [Tryz.underlying97]
  simp only [k0, k1, Bool.and_self, if_true]
  rw [hs]
  unfold Program.keyLits
  rw [Tryz.underlying97]
  simp [kv, Value.cells, c1, c2, lits2 _ x hx, lits2 _ y hy, kl]

theorem keyT73 : KeyT 97 := ⟨Keyed.of_law keyLaw73, kOf73, by kernel_rfl⟩
theorem kl_inj {x y x' y' : Int} (h : Kw x y) (h' : Kw x' y') (e : kl x y = kl x' y') : x = x' ∧ y = y' := by
  have := (Keyed.of_law keyLaw73).inj (kOf73 x y h) (by rw [e]; exact kOf73 x' y' h')
  simp [kv] at this
  exact this
theorem kl_ne {x y x' y' : Int} (h : Kw x y) (h' : Kw x' y') (e : (x, y) ≠ (x', y')) : kl x y ≠ kl x' y' := fun e' => e (by obtain ⟨rfl, rfl⟩ := kl_inj h h' e'; rfl)
theorem kl_key (x y : Int) : WideAt.IsKeyLit (kl x y) := trivial

/-- An element reads as itself. -/
def hR (v : Value) : Option (DataW Value × List MemPlace) := some (.held v, [])

/-- Block b is a map of sz entries: at the pair x, y the element f x y. -/
def MapF (K : TypeId) (w : World) (b : Nat) (f : Int → Int → Option Value) (sz : Nat) : Prop :=
  ∃ D : DataW Value, w.ownsMap Tryz.prog K hR b sz D ∧ size D = sz ∧ ∀ x y, Kw x y → ∀ z, D.atKey (kl x y) z = match f x y with | some v => .held v | none => z

/-- f with x, y turned. -/
def upd (f : Int → Int → Option Value) (x y : Int) (v : Option Value) : Int → Int → Option Value := fun a b => if a = x ∧ b = y then v else f a b

/-- How many entries there are behind a store. -/
def nSz (o : Option Value) (sz : Nat) : Nat := if o.isSome = true then sz else sz + 1
theorem nSz_le (o : Option Value) (sz : Nat) : nSz o sz ≤ sz + 1 := by unfold nSz; split <;> omega

section
variable {K : TypeId} {w w' : World} {b sz : Nat} {f : Int → Int → Option Value}

theorem owns_tight {n : Nat} {D : DataW Value} (h : w.ownsMap Tryz.prog K hR b n D) : w.ownsMap Tryz.prog K hR b (size D) D := by
  obtain ⟨es, clock, hb, F, hs, rfl⟩ := h
  refine ⟨es, clock, hb, F, ?_, rfl⟩
  simp [size, length_sorted]

theorem MapF.lt (h : MapF K w b f sz) : b < w.heap.size := by obtain ⟨D, ho, _⟩ := h; exact ho.lt

theorem MapF.has (h : MapF K w b f sz) : ∃ D : DataW Value, w.ownsMap Tryz.prog K hR b sz D ∧ size D = sz ∧ (∀ x y, Kw x y → ∀ z, D.atKey (kl x y) z = match f x y with | some v => .held v | none => z) ∧ ∀ x y, Kw x y → Maps.has D (kl x y) = (f x y).isSome := by
  obtain ⟨D, ho, hs, ha⟩ := h
  refine ⟨D, ho, hs, ha, fun x y hk => ?_⟩
  cases hf : f x y with
  | none => exact Maps.has_false_of_atKey (fun z => by rw [ha x y hk, hf])
  | some v => exact Maps.has_true_of_atKey (y := .held v) (fun z => by rw [ha x y hk, hf])

theorem MapF.kept (h : MapF K w b f sz) {row : Option Nat} (hg : w.grownBy w' row) (hne : some b ≠ row) : MapF K w' b f sz := by
  obtain ⟨D, ho, r⟩ := h
  exact ⟨D, ho.kept hg hne, r⟩

theorem MapF.below (h : MapF K w b f sz) (hb : Below w.heap.size w w') : MapF K w' b f sz :=
  h.kept (row := none) ⟨hb.os, hb.tape, hb.output, hb.size, fun i hi _ => hb.block i hi⟩ (by simp)

theorem MapF.made (K : TypeId) (w : World) : MapF K (w.alloc (.map #[] 0)) w.heap.size (fun _ _ => none) 0 :=
  ⟨.map [], World.ownsMap_made w _ _ _, rfl, fun x y _ z => rfl⟩

theorem MapF.len (h : MapF K w b f sz) {t e : TypeId} (ht : Tryz.prog.underlying t = some (.map K e)) (ty : TypeId) : (Builtin.len_ #[t] ty #[.map (some b)]).run Tryz.prog w = .ok (.int .i64 sz) w := by
  obtain ⟨D, ho, hs, _⟩ := h
  rw [ho.len ht ty, hs]

theorem MapF.look (h : MapF K w b f sz) (T : KeyT K) {t e : TypeId} (ht : Tryz.prog.underlying t = some (.map K e)) {z : Value} (hz : (zeroValue e).run Tryz.prog w = .ok z w) {x y : Int} (hk : Kw x y) : (Instr.lookup t (.map (some b)) (kv x y) false).run Tryz.prog w = .ok ((f x y).getD z) w := by
  obtain ⟨D, ho, _, ha⟩ := h
  obtain ⟨v, ps, hr, hv⟩ := ho.lookup T.law ht hz (zd := .held z) rfl (T.rd x y hk)
  rw [hr]
  rw [ha x y hk] at hv
  cases hf : f x y with
  | none => rw [hf] at hv; simp [hR] at hv; simp [hv]
  | some u => rw [hf] at hv; simp [hR] at hv; simp [hv]

theorem MapF.look_ok (h : MapF K w b f sz) (T : KeyT K) {t e : TypeId} (ht : Tryz.prog.underlying t = some (.map K e)) {z : Value} (hz : (zeroValue e).run Tryz.prog w = .ok z w) {x y : Int} (hk : Kw x y) : (Instr.lookup t (.map (some b)) (kv x y) true).run Tryz.prog w = .ok (.tuple #[(f x y).getD z, .bool (f x y).isSome]) w := by
  obtain ⟨D, ho, _, ha, hh⟩ := h.has
  obtain ⟨v, ps, hr, hv⟩ := ho.look_ok T.law ht hz (zd := .held z) rfl (T.rd x y hk)
  rw [hr, hh x y hk]
  rw [ha x y hk] at hv
  cases hf : f x y with
  | none => rw [hf] at hv; simp [hR] at hv; simp [hv]
  | some u => rw [hf] at hv; simp [hR] at hv; simp [hv]

theorem MapF.store (h : MapF K w b f sz) (T : KeyT K) {t e : TypeId} (ht : Tryz.prog.underlying t = some (.map K e)) {x y : Int} (hk : Kw x y) (v : Value) (hs : sz < 1000000) :
    ∃ w', (Instr.mapUpdate t (.map (some b)) (kv x y) v).run Tryz.prog w = .ok () w' ∧ MapF K w' b (upd f x y (some v)) (nSz (f x y) sz) ∧ w.mapTurned w' b := by
  obtain ⟨D, ho, hsz, ha, hh⟩ := h.has
  obtain ⟨w', hr, ho', ht'⟩ := ho.store T.law ht (val := v) (by unfold maxLen; omega) (T.rd x y hk) (rfl : hR v = some (.held v, []))
  have e1 : size (D.put (kl x y) (.held v)) = nSz (f x y) sz := by
    rw [Maps.size_put (ho.tidy T.law), hh x y hk, hsz]; rfl
  refine ⟨w', hr, ⟨_, by rw [← e1]; exact owns_tight ho', e1, fun a c hac z => ?_⟩, ht'⟩
  unfold upd
  by_cases e : a = x ∧ c = y
  · rw [if_pos e, e.1, e.2]
    exact Maps.atKey_put_same ho.isMap (kl_key _ _) _ _
  · rw [if_neg e, Maps.atKey_put_other (kl_ne hac hk (fun e' => e (by simpa using e')))]
    exact ha a c hac z

theorem MapF.drop (h : MapF K w b f sz) (T : KeyT K) {t e : TypeId} (ht : Tryz.prog.underlying t = some (.map K e)) {x y : Int} (hk : Kw x y) (ty : TypeId) :
    ∃ w', (Builtin.delete_ #[t, K] ty #[.map (some b), kv x y]).run Tryz.prog w = .ok (.tuple #[]) w' ∧ MapF K w' b (upd f x y none) (if (f x y).isSome then sz - 1 else sz) ∧ w.mapTurned w' b := by
  obtain ⟨D, ho, hsz, ha, hh⟩ := h.has
  obtain ⟨w', hr, ho', ht'⟩ := ho.drop T.law ht (T.rd x y hk) ty
  have e1 : size (D.del (kl x y)) = if (f x y).isSome then sz - 1 else sz := by
    have := Maps.size_del (k := kl x y) (ho.tidy T.law)
    rw [hh x y hk, hsz] at this
    cases hf : (f x y).isSome <;> rw [hf] at this <;> simp at this ⊢ <;> omega
  refine ⟨w', hr, ⟨_, by rw [← e1]; exact owns_tight ho', e1, fun a c hac z => ?_⟩, ht'⟩
  unfold upd
  by_cases e : a = x ∧ c = y
  · rw [if_pos e, e.1, e.2]
    exact Maps.atKey_del_same _
  · rw [if_neg e, Maps.atKey_del_other (kl_ne hac hk (fun e' => e (by simpa using e')))]
    exact ha a c hac z

/-- 'm[k]++' goes by two operations: the entry, and the store into it. -/
theorem MapF.entry (h : MapF K w b f sz) (T : KeyT K) (L : WideMaps.KeyLaw Tryz.prog K) {t e : TypeId} (ht : Tryz.prog.underlying t = some (.map K e)) {z : Value} (hz : ∀ u : World, (zeroValue e).run Tryz.prog u = .ok z u) {x y : Int} (hk : Kw x y) (hs : sz < 1000000) :
    ∃ v0 st w1, (Instr.mapEntry t (.map (some b)) (kv x y)).run Tryz.prog w = .ok (.tuple #[v0, goInt st]) w1 ∧ w.mapTurned w1 b ∧
      ∀ v, ∃ w2, (Instr.entryStore t (.map (some b)) (goInt st) v).run Tryz.prog w1 = .ok () w2 ∧ MapF K w2 b (upd f x y (some v)) (nSz (f x y) sz) ∧ w.mapTurned w2 b := by
  have h' := h
  obtain ⟨D, ⟨es, clock, hb, F, hes, rfl⟩, _⟩ := h'
  obtain ⟨v0, st, es1, clock1, h1, _, h3⟩ := WideElems.entry_then_store L ht hz hb F (T.rd x y hk)
  refine ⟨v0, st, _, h1, ⟨es, clock, es1, clock1, hb, rfl⟩, fun v => ?_⟩
  obtain ⟨es', clock', h4, h5⟩ := h3 (ChangeMaps.setBlock w b (.map es1 clock1)) v (ChangeMaps.heap_setBlock_same hb _)
  obtain ⟨w', h6, h7, h8⟩ := h.store T ht hk v hs
  rw [h5] at h6
  simp at h6
  refine ⟨_, h4, ?_, ⟨es, clock, es', clock', hb, ?_⟩⟩
  · have : ChangeMaps.setBlock (ChangeMaps.setBlock w b (.map es1 clock1)) b (.map es' clock') = w' := by
      rw [← h6]; simp [ChangeMaps.setBlock]
    rw [this]; exact h7
  · simp [ChangeMaps.setBlock]
end

theorem turned_grown {w w' : World} {b : Nat} (h : w.mapTurned w' b) : w.grownBy w' (some b) := h.grown

end Go.Proofs.YtpjlpnaamkbicaaGreatDoor

/-
  Maps out of lists of pairs.
-/
namespace Go.Proofs.YtpjlpnaamkbicaaGreatDoor
open Go.RowKit Go.Maps
set_option linter.unusedVariables false

/-- What the last of each key tells. -/
def kvF (l : List ((Int × Int) × Value)) : Int → Int → Option Value := l.foldl (fun f e => upd f e.1.1 e.1.2 (some e.2)) (fun _ _ => none)
theorem kvF_snoc (l : List ((Int × Int) × Value)) (x y : Int) (v : Value) : kvF (l ++ [((x, y), v)]) = upd (kvF l) x y (some v) := by simp [kvF, List.foldl_append]

theorem kvF_gen : ∀ (l : List ((Int × Int) × Value)) (f : Int → Int → Option Value) (x y : Int), (l.foldl (fun f e => upd f e.1.1 e.1.2 (some e.2)) f x y).isSome = true ↔ (f x y).isSome = true ∨ (x, y) ∈ l.map (·.1)
  | [], f, x, y => by simp
  | e :: l, f, x, y => by
    rw [List.foldl_cons, kvF_gen l]
    unfold upd
    by_cases h : x = e.1.1 ∧ y = e.1.2
    · rw [if_pos h]
      have he : e.1 = (x, y) := by rw [h.1, h.2]
      simp [he]
    · rw [if_neg h]
      have he : (x, y) ≠ e.1 := fun he => h ⟨by rw [← he], by rw [← he]⟩
      simp only [List.map_cons, List.mem_cons, he, false_or]
theorem kvF_some (l : List ((Int × Int) × Value)) (x y : Int) : (kvF l x y).isSome = true ↔ (x, y) ∈ l.map (·.1) := by
  unfold kvF
  rw [kvF_gen]
  simp

theorem kvF_at_gen : ∀ (l : List ((Int × Int) × Value)) (f : Int → Int → Option Value) (x y : Int) (v : Value), l.foldl (fun f e => upd f e.1.1 e.1.2 (some e.2)) f x y = some v → f x y = some v ∨ ((x, y), v) ∈ l
  | [], f, x, y, v, h => .inl h
  | e :: l, f, x, y, v, h => by
    rw [List.foldl_cons] at h
    rcases kvF_at_gen l _ x y v h with h | h
    · unfold upd at h
      split at h
      · rename_i h1
        simp at h
        refine .inr ?_
        have : e = ((x, y), v) := by rw [h1.1, h1.2, ← h]
        simp [this]
      · exact .inl h
    · exact .inr (by simp [h])
theorem kvF_at {l : List ((Int × Int) × Value)} {x y : Int} {v : Value} (h : kvF l x y = some v) : ((x, y), v) ∈ l := by
  rcases kvF_at_gen l _ x y v h with h | h
  · cases h
  · exact h

theorem nodup_at {l : List ((Int × Int) × Value)} (hd : (l.map (·.1)).Nodup) {q : Int × Int} {v v' : Value} (h : (q, v) ∈ l) (h' : (q, v') ∈ l) : v = v' := by
  induction l with
  | nil => simp at h
  | cons e l ih =>
    rw [List.map_cons, List.nodup_cons] at hd
    rcases List.mem_cons.1 h with h1 | h1 <;> rcases List.mem_cons.1 h' with h2 | h2
    · rw [← h1] at h2; simp at h2; exact h2.symm
    · exact absurd (List.mem_map.2 ⟨_, h2, by rw [← h1]⟩) hd.1
    · exact absurd (List.mem_map.2 ⟨_, h1, by rw [← h2]⟩) hd.1
    · exact ih hd.2 h1 h2
theorem kvF_mem {l : List ((Int × Int) × Value)} (hd : (l.map (·.1)).Nodup) {x y : Int} {v : Value} (h : ((x, y), v) ∈ l) : kvF l x y = some v := by
  have h1 := (kvF_some l x y).2 (List.mem_map.2 ⟨_, h, rfl⟩)
  obtain ⟨v', hv'⟩ := Option.isSome_iff_exists.1 h1
  rw [hv', nodup_at hd (kvF_at hv') h]

/-- Block b is the map of l; as many entries as keys. -/
def MapK (K : TypeId) (w : World) (b : Nat) (l : List ((Int × Int) × Value)) (sz : Nat) : Prop := MapF K w b (kvF l) sz ∧ sz ≤ l.length ∧ (sz = l.length ↔ (l.map (·.1)).Nodup)

theorem nodup_snoc {l : List (Int × Int)} {q : Int × Int} : (l ++ [q]).Nodup ↔ l.Nodup ∧ q ∉ l := by
  rw [List.nodup_append]
  constructor
  · rintro ⟨h1, _, h3⟩
    exact ⟨h1, fun h => h3 q h q (by simp) rfl⟩
  · rintro ⟨h1, h2⟩
    exact ⟨h1, by simp, fun a ha b hb e => h2 (by simp at hb; rw [← hb, ← e]; exact ha)⟩

section
variable {K : TypeId} {w w' : World} {b sz : Nat} {l : List ((Int × Int) × Value)}
theorem MapK.made (K : TypeId) (w : World) : MapK K (w.alloc (.map #[] 0)) w.heap.size [] 0 := ⟨MapF.made K w, Nat.le_refl _, by simp⟩
theorem MapK.below (h : MapK K w b l sz) (hb : Below w.heap.size w w') : MapK K w' b l sz := ⟨h.1.below hb, h.2⟩
theorem MapK.add (h : MapK K w b l sz) {x y : Int} {v : Value} (h' : MapF K w' b (upd (kvF l) x y (some v)) (nSz (kvF l x y) sz)) : MapK K w' b (l ++ [((x, y), v)]) (nSz (kvF l x y) sz) := by
  refine ⟨by rw [kvF_snoc]; exact h', ?_, ?_⟩
  · have := nSz_le (kvF l x y) sz
    have := h.2.1
    rw [List.length_append]; simp; omega
  · rw [List.map_append, List.map_cons, List.map_nil, nodup_snoc, ← h.2.2, ← kvF_some, List.length_append]
    have := h.2.1
    unfold nSz
    cases (kvF l x y).isSome <;> simp <;> omega
end

end Go.Proofs.YtpjlpnaamkbicaaGreatDoor

/-
  Small helpers: numbers that are keys, cells beside a map.
-/
namespace Go.Proofs.YtpjlpnaamkbicaaGreatDoor
open Go.RowKit Go.Maps
set_option linter.unusedVariables false

def small (z : Int) : Prop := 0 ≤ z ∧ z ≤ 100000
theorem small_wf {z : Int} (h : small z) : (Lit.int .i64 z).wf = true := by
  obtain ⟨h1, h2⟩ := h
  simp [Lit.wf, IntKind.min, IntKind.max, IntKind.bits, IntKind.signed]
  omega
theorem kw_small {x y : Int} (h : small x) (h' : small y) : Kw x y := ⟨small_wf h, small_wf h'⟩
theorem cell_turn {w w' : World} {tb : Nat} (ht : w.mapTurned w' tb) {p : Addr} {v : Value} (h : w.cell? p = some v) : w'.cell? p = some v := by
  have g := ht.grown
  obtain ⟨es, clock, es', clock', hb, rfl⟩ := ht
  have hne : p.block ≠ tb := by
    intro e
    unfold World.cell? at h
    rw [e, hb] at h
    simp at h
  rw [World.cell?_of_block (w := w) (g.block p.block (World.block_lt_of_cell? w _ h) (fun e => hne (by injection e)))]; exact h
theorem Rs.turn {α : Type} {enc : α → List Value} {k : Nat} {w w' : World} {a : Option Addr} {xs : List α} (h : Rs enc k w a xs) {tb : Nat} (ht : w.mapTurned w' tb) : Rs enc k w' a xs := by
  rcases h with h | ⟨b, off, ha, hc⟩
  · exact .inl h
  · exact .inr ⟨b, off, ha, fun i x hx j u hu => cell_turn ht (hc i x hx j u hu)⟩
theorem turned_below {w w' : World} {b B : Nat} (h : w.mapTurned w' b) (hB : B ≤ b) (hs : b < w.heap.size) : Below B w w' := by
  have g := h.grown
  exact ⟨g.os, g.tape, g.output, g.size, fun k hk => g.block k (by omega) (fun e => by injection e with e; omega)⟩

end Go.Proofs.YtpjlpnaamkbicaaGreatDoor
