/-
  An answer of rows: compared, marked, looked at again; a plain one marked.
-/
import Derived.Test.YtmboclfgldgefaaGreatCMTpl
import Derived.Test.YtmboclfgldgefaaGreatCMMkr
import Derived.Test.YtmboclfgldgefaaGreatCMRdw
import Derived.Maps.OwnSet
import Derived.DeepKeys4
import Derived.WideKeyEntry

namespace Go.Proofs.YtmboclfgldgefaaGreat
open Go.RowKit Go.Maps
set_option linter.unusedVariables false
set_option maxRecDepth 20000

/-- Two cells of an answer of rows. -/
structure E2 (w : World) (b : Nat) (p : Int) (x : Value) : Prop where
  c0 : w.cell? ⟨b, 0, none⟩ = some (.int .i64 p)
  c1 : w.cell? ⟨b, 1, none⟩ = some x
theorem E2.lt {w : World} {b : Nat} {p : Int} {x : Value} (h : E2 w b p x) : b < w.heap.size := World.block_lt_of_cell? w _ h.c0
theorem E2.below {w w' : World} {b B : Nat} {p : Int} {x : Value} (h : E2 w b p x) (hb : Below B w w') (hl : b < B) : E2 w' b p x :=
  ⟨(hb.cell (p := ⟨b, 0, none⟩) hl).trans h.c0, (hb.cell (p := ⟨b, 1, none⟩) hl).trans h.c1⟩

set_option maxHeartbeats 4000000 in
theorem eqRowsResult_same (q : Int) (a a' : Option Addr) (rs : List Rw) (n c d : Nat) (w : World) (hn : rs.length = n) (hm : n ≤ 9223372036854775807) (hx : Rs rwE 4 w a rs) (hx' : Rs rwE 4 w a' rs) :
    Calls Tryz.prog 12 #[.agg #[.int .i64 q, .slice a n c], .agg #[.int .i64 q, .slice a' n d]] w fun e w' => e = .returned (.bool true) ∧ Below w.heap.size w w' := by
  have HE2 : Hid (∀ V, Below w.heap.size w V → Calls Tryz.prog 27 #[.slice a n c, .slice a' n d] V fun e w' => e = .returned (.bool true) ∧ Below V.heap.size V w') := fun V hV => eqRowS_same a a' rs n c d V hn hm (hx.below hV (Nat.le_refl _)) (hx'.below hV (Nat.le_refl _))
  clear hn hx hx'
  go_enter Tryz.func12, Tryz.ntmps12
  go_upto_region 1 with (fail)
  generalize hY : World.alloc _ _ = Y
  have g : Below w.heap.size w Y := by rw [← hY]; go_grown
  have A : E2 Y w.heap.size q (.slice a n c) := by rw [← hY]; exact ⟨by simp [go_sem], by simp [go_sem]⟩
  have B : E2 Y (w.heap.size + 1) q (.slice a' n d) := by rw [← hY]; exact ⟨by simp [go_sem], by simp [go_sem]⟩
  clear hY
  obtain ⟨ab, hab⟩ : ∃ ab, w.heap.size = ab := ⟨_, rfl⟩
  obtain ⟨bb, hbb⟩ : ∃ bb, ab + 1 = bb := ⟨_, rfl⟩
  rw [hab] at A B
  rw [hbb] at B
  simp only [hab]
  try simp only [hbb]
  have HAB : Hid (w.heap.size = ab) := hab
  clear hab hbb
  obtain ⟨a0, a1⟩ := A
  obtain ⟨b0, b1⟩ := B
  have hcon := HE2.out Y g
  go_wp2_with fail
  refine hcon.mono ?_
  rintro e w2 ⟨rfl, g2⟩
  have g := g.trans (g2.mono g.size)
  clear hcon g2 a0 a1 b0 b1
  go_wp2_with fail
  go_ret
  exact ⟨rfl, g⟩

set_option maxHeartbeats 4000000 in
theorem markRowsResult_any (q : Int) (a : Option Addr) (lo hi : Nat) (rs : List Rw) (n c k : Nat) (w : World) (hn : rs.length = n) (hm : n ≤ 1048576) (hk0 : 1 ≤ k) (hk1 : k ≤ 50000000) (ha : SlIn rwE 4 lo hi w a rs) :
    Calls Tryz.prog 14 #[.agg #[.int .i64 q, .slice a n c], .int .i64 k] w fun e w' => e = .returned (.int .i64 ((k + 4 * n : Nat) : Int)) ∧ Turned lo hi w w' ∧ SlIn rwE 4 lo hi w' a ((List.range n).map (mkR k)) := by
  have H1 : Hid (∀ V, Below w.heap.size w V → Calls Tryz.prog 30 #[.slice a n c, .int .i64 k] V fun e w' => e = .returned (.int .i64 ((k + 4 * n : Nat) : Int)) ∧ Turned lo hi V w' ∧ SlIn rwE 4 lo hi w' a ((List.range n).map (mkR k))) := fun V hV => markRowS_wide a lo hi rs n c k V hn hm hk0 hk1 (ha.turned (Turned.ofBelow (lo := 0) (hi := 0) hV) (.inr (Nat.zero_le _)))
  clear hn ha hk1
  generalize hK : k + 4 * n = K at H1 ⊢
  clear hK
  go_enter Tryz.func14, Tryz.ntmps14
  go_upto_region 1 with (fail)
  generalize hY : World.alloc _ _ = Y
  have g : Below w.heap.size w Y := by rw [← hY]; go_grown
  have A : E2 Y w.heap.size q (.slice a n c) := by rw [← hY]; exact ⟨by simp [go_sem], by simp [go_sem]⟩
  clear hY
  obtain ⟨ab, hab⟩ : ∃ ab, w.heap.size = ab := ⟨_, rfl⟩
  rw [hab] at A
  simp only [hab]
  have HAB : Hid (w.heap.size = ab) := hab
  clear hab
  obtain ⟨a0, a1⟩ := A
  have hcon := H1.out Y g
  go_wp2_with fail
  refine hcon.mono ?_
  rintro e w2 ⟨rfl, g2, o2⟩
  have g := (Turned.ofBelow g).trans g2
  have HO : Hid (SlIn rwE 4 lo hi w2 a ((List.range n).map (mkR k))) := o2
  clear hcon g2 a0 a1 o2
  go_wp2_with fail
  go_ret
  exact ⟨rfl, g, HO.out⟩

set_option maxHeartbeats 4000000 in
theorem heldRowsResult_any (q : Int) (a : Option Addr) (n c k : Nat) (w : World) (hn : n ≤ 1000) (hk0 : 1 ≤ k) (hk1 : k ≤ 1000) (ha : Rs rwE 4 w a ((List.range n).map (mkR k))) :
    Calls Tryz.prog 15 #[.agg #[.int .i64 q, .slice a n c], .int .i64 k] w fun e w' => e = .returned (.int .i64 ((k + 4 * n : Nat) : Int)) ∧ Below w.heap.size w w' := by
  have H1 : Hid (∀ V, Below w.heap.size w V → Calls Tryz.prog 32 #[.slice a n c, .int .i64 k] V fun e w' => e = .returned (.int .i64 ((k + 4 * n : Nat) : Int)) ∧ Below V.heap.size V w') := fun V hV => heldRowS_any a n c k V hn hk0 (by omega) (ha.below hV (Nat.le_refl _))
  clear ha hk1
  generalize hK : k + 4 * n = K at H1 ⊢
  clear hK
  have hK0 : ¬ ((K : Nat) : Int) < 0 := by omega
  go_enter Tryz.func15, Tryz.ntmps15
  go_upto_region 1 with (fail)
  generalize hY : World.alloc _ _ = Y
  have g : Below w.heap.size w Y := by rw [← hY]; go_grown
  have A : E2 Y w.heap.size q (.slice a n c) := by rw [← hY]; exact ⟨by simp [go_sem], by simp [go_sem]⟩
  clear hY
  obtain ⟨ab, hab⟩ : ∃ ab, w.heap.size = ab := ⟨_, rfl⟩
  rw [hab] at A
  simp only [hab]
  have HAB : Hid (w.heap.size = ab) := hab
  clear hab
  obtain ⟨a0, a1⟩ := A
  have hcon := H1.out Y g
  go_wp2_with fail
  refine hcon.mono ?_
  rintro e w2 ⟨rfl, g2⟩
  have g := g.trans (g2.mono g.size)
  clear hcon g2 a0 a1
  go_wp2_with fail
  go_ret
  exact ⟨rfl, g⟩

set_option maxHeartbeats 4000000 in
theorem markPlain_any (xr xa B m T : Nat) (rs : List Rw) (rn : Nat) (xs : List TxV) (n : Nat) (nx : Int) (k : Nat) (w : World) (hrn : rs.length = rn) (hrm : rn ≤ 1048576) (hn : xs.length = n) (hm : n ≤ 1048576) (hs : ∀ x ∈ xs, TxOk 1048576 x) (hk0 : 1 ≤ k) (hk1 : k + 4 * rn + cS xs ≤ 40000000) (hBm : B ≤ m) (hmT : m ≤ T) (hmw : m ≤ w.heap.size) (hr : SlIn rwE 4 B m w (some ⟨xr, 0, none⟩) rs) (hx : OwZ m T w (some ⟨xa, 0, none⟩) xs) :
    Calls Tryz.prog 13 #[.agg #[.slice (some ⟨xr, 0, none⟩) rn rn, .slice (some ⟨xa, 0, none⟩) n n, .int .i64 nx], .int .i64 k] w fun e w' => e = .returned (.int .i64 ((k + 4 * rn + cS xs : Nat) : Int)) ∧ Turned B T w w' := by
  have H1 : Hid (∀ V, Below w.heap.size w V → Calls Tryz.prog 30 #[.slice (some ⟨xr, 0, none⟩) rn rn, .int .i64 k] V fun e w' => e = .returned (.int .i64 ((k + 4 * rn : Nat) : Int)) ∧ Turned B m V w') := fun V hV => (markRowS_wide _ B m rs rn rn k V hrn hrm hk0 (by omega) (hr.turned (Turned.ofBelow (lo := 0) (hi := 0) hV) (.inr (Nat.zero_le _)))).mono fun e w' h => ⟨h.1, h.2.1⟩
  have H2 : Hid (∀ V V', Below w.heap.size w V → Turned B m V V' → Calls Tryz.prog 31 #[.slice (some ⟨xa, 0, none⟩) n n, .int .i64 ((k + 4 * rn : Nat) : Int)] V' fun e w' => e = .returned (.int .i64 ((k + 4 * rn + cS xs : Nat) : Int)) ∧ Turned m T V' w') := fun V V' hV ht => (markTxS_to _ m T xs n n (k + 4 * rn) V' hn hm hs (by omega) (by omega) (Nat.le_trans hmw (Nat.le_trans hV.size ht.size)) ((OwZ.below hx hV).low ht (Nat.le_refl _))).mono fun e w' h => ⟨h.1, h.2.1⟩
  clear hrn hr hn hs hx hk1
  generalize hK1 : k + 4 * rn = K1 at H1 H2 ⊢
  generalize hK2 : K1 + cS xs = K2 at H2 ⊢
  clear hK1 hK2
  go_enter Tryz.func13, Tryz.ntmps13
  go_upto_region 1 with (fail)
  generalize hY : World.alloc _ _ = Y
  have g : Below w.heap.size w Y := by rw [← hY]; go_grown
  have A : P3 Y w.heap.size (.slice (some ⟨xr, 0, none⟩) rn rn) (.slice (some ⟨xa, 0, none⟩) n n) (.int .i64 nx) := by rw [← hY]; exact ⟨by simp [go_sem], by simp [go_sem], by simp [go_sem]⟩
  clear hY
  obtain ⟨ab, hab⟩ : ∃ ab, w.heap.size = ab := ⟨_, rfl⟩
  rw [hab] at A
  simp only [hab]
  have HAB : Hid (w.heap.size = ab) := hab
  have hmab : m ≤ ab := by omega
  clear hab
  have lA := A.lt
  obtain ⟨q0, q1, q2⟩ := A
  have hcon := H1.out Y g
  go_wp2_with fail
  refine hcon.mono ?_
  rintro e w1 ⟨rfl, t1⟩
  have hcon := H2.out Y w1 g t1
  have q0 := t1.cell q0 (.inr hmab)
  have q1 := t1.cell q1 (.inr hmab)
  have q2 := t1.cell q2 (.inr hmab)
  clear H1 H2
  go_wp2_with fail
  refine hcon.mono ?_
  rintro e w2 ⟨rfl, t2⟩
  have g := ((Turned.ofBelow (lo := B) (hi := T) g).trans (t1.wide (Nat.le_refl _) hmT)).trans (t2.wide hBm (Nat.le_refl _))
  clear hcon q0 q1 q2 t1 t2
  go_wp2_with fail
  go_ret
  exact ⟨rfl, g⟩

end Go.Proofs.YtmboclfgldgefaaGreat

/-
  Maps whose keys are pairs of integers, told as functions.
-/
namespace Go.Proofs.YtmboclfgldgefaaGreat
open Go.RowKit Go.Maps
set_option linter.unusedVariables false

/-- What a pair reads as, as a key. -/
def kl (x y : Int) : Lit := .string (keyBytes [.int .i64 x, .int .i64 y])
def kv (x y : Int) : Value := .agg #[.int .i64 x, .int .i64 y]
/-- Both fit their kind. -/
def Kw (x y : Int) : Prop := (Lit.int .i64 x).wf = true ∧ (Lit.int .i64 y).wf = true

/-- What is asked of a key's type: two int64. -/
structure KeyT (K : TypeId) : Prop where
  law : Keyed Tryz.prog K
  rd : ∀ x y, Kw x y → keyOf Tryz.prog K (kv x y) = some (kl x y)
  wide : (match Tryz.prog.underlying K with | some (.array _ _) | some (.struct _) => true | _ => false) = true

theorem laidOutM : laidOutB Tryz.prog = true := by kernel_rfl

theorem keyLaw73 : WideMaps.KeyLaw Tryz.prog 75 := deep_law_laid laidOutM (m := 5) (by decide) (of_decide_eq_true (by kernel_rfl)) (by kernel_rfl) (by kernel_rfl)
theorem lits2 (d : Nat) (x : Int) (hx : (Lit.int .i64 x).wf = true) : Tryz.prog.keyLits (d + 1) 2 [.int .i64 x] = some [.int .i64 x] := by
  unfold Program.keyLits
  rw [Tryz.underlying2]
  simp [hx]

theorem kOf73 (x y : Int) (h : Kw x y) : keyOf Tryz.prog 75 (kv x y) = some (kl x y) := by
  obtain ⟨hx, hy⟩ := h
  have hs : Tryz.prog.types.size + 1 = (Tryz.prog.types.size - 1) + 1 + 1 := by
    have : 1 ≤ Tryz.prog.types.size := of_decide_eq_true (by kernel_rfl)
    omega
  have c1 : Tryz.prog.cellsOf 75 = 2 := by kernel_rfl
  have c2 : Tryz.prog.cellsOf 2 = 1 := by kernel_rfl
  have k0 : Tryz.prog.keyType 75 = true := by kernel_rfl
  have k1 : (kv x y).formed Tryz.prog 75 = true := by simp [kv, Value.formed, Tryz.underlying75, c1]
  unfold keyOf
  rw [Tryz.underlying75]
  simp only [k0, k1, Bool.and_self, if_true]
  rw [hs]
  unfold Program.keyLits
  rw [Tryz.underlying75]
  simp [kv, Value.cells, c1, c2, lits2 _ x hx, lits2 _ y hy, kl]

theorem keyT73 : KeyT 75 := ⟨Keyed.of_law keyLaw73, kOf73, by kernel_rfl⟩
theorem kl_inj {x y x' y' : Int} (h : Kw x y) (h' : Kw x' y') (e : kl x y = kl x' y') : x = x' ∧ y = y' := by
  have := (Keyed.of_law keyLaw73).inj (kOf73 x y h) (by rw [e]; exact kOf73 x' y' h')
  simp [kv] at this
  exact this
theorem kl_ne {x y x' y' : Int} (h : Kw x y) (h' : Kw x' y') (e : (x, y) ≠ (x', y')) : kl x y ≠ kl x' y' := fun e' => e (by obtain ⟨rfl, rfl⟩ := kl_inj h h' e'; rfl)
theorem kl_key (x y : Int) : WideAt.IsKeyLit (kl x y) := trivial

/-- An element reads as itself. -/
def hR (v : Value) : Option (DataW Value × List MemPlace) := some (.held v, [])

/-- Block b is a map of sz entries: at the pair x, y the element f x y. -/
def MapF (K : TypeId) (w : World) (b : Nat) (f : Int → Int → Option Value) (sz : Nat) : Prop :=
  ∃ D : DataW Value, w.ownsMap Tryz.prog K hR b sz D ∧ size D = sz ∧ ∀ x y, Kw x y → ∀ z, D.atKey (kl x y) z = match f x y with | some v => .held v | none => z

/-- f with x, y turned. -/
def upd (f : Int → Int → Option Value) (x y : Int) (v : Option Value) : Int → Int → Option Value := fun a b => if a = x ∧ b = y then v else f a b

/-- How many entries there are behind a store. -/
def nSz (o : Option Value) (sz : Nat) : Nat := if o.isSome = true then sz else sz + 1
theorem nSz_le (o : Option Value) (sz : Nat) : nSz o sz ≤ sz + 1 := by unfold nSz; split <;> omega

section
variable {K : TypeId} {w w' : World} {b sz : Nat} {f : Int → Int → Option Value}

theorem owns_tight {n : Nat} {D : DataW Value} (h : w.ownsMap Tryz.prog K hR b n D) : w.ownsMap Tryz.prog K hR b (size D) D := by
  obtain ⟨es, clock, hb, F, hs, rfl⟩ := h
  refine ⟨es, clock, hb, F, ?_, rfl⟩
  simp [size, length_sorted]

theorem MapF.lt (h : MapF K w b f sz) : b < w.heap.size := by obtain ⟨D, ho, _⟩ := h; exact ho.lt

theorem MapF.has (h : MapF K w b f sz) : ∃ D : DataW Value, w.ownsMap Tryz.prog K hR b sz D ∧ size D = sz ∧ (∀ x y, Kw x y → ∀ z, D.atKey (kl x y) z = match f x y with | some v => .held v | none => z) ∧ ∀ x y, Kw x y → Maps.has D (kl x y) = (f x y).isSome := by
  obtain ⟨D, ho, hs, ha⟩ := h
  refine ⟨D, ho, hs, ha, fun x y hk => ?_⟩
  cases hf : f x y with
  | none => exact Maps.has_false_of_atKey (fun z => by rw [ha x y hk, hf])
  | some v => exact Maps.has_true_of_atKey (y := .held v) (fun z => by rw [ha x y hk, hf])

theorem MapF.kept (h : MapF K w b f sz) {row : Option Nat} (hg : w.grownBy w' row) (hne : some b ≠ row) : MapF K w' b f sz := by
  obtain ⟨D, ho, r⟩ := h
  exact ⟨D, ho.kept hg hne, r⟩

theorem MapF.below (h : MapF K w b f sz) (hb : Below w.heap.size w w') : MapF K w' b f sz :=
  h.kept (row := none) ⟨hb.os, hb.tape, hb.output, hb.size, fun i hi _ => hb.block i hi⟩ (by simp)

theorem MapF.made (K : TypeId) (w : World) : MapF K (w.alloc (.map #[] 0)) w.heap.size (fun _ _ => none) 0 :=
  ⟨.map [], World.ownsMap_made w _ _ _, rfl, fun x y _ z => rfl⟩

theorem MapF.len (h : MapF K w b f sz) {t e : TypeId} (ht : Tryz.prog.underlying t = some (.map K e)) (ty : TypeId) : (Builtin.len_ #[t] ty #[.map (some b)]).run Tryz.prog w = .ok (.int .i64 sz) w := by
  obtain ⟨D, ho, hs, _⟩ := h
  rw [ho.len ht ty, hs]

theorem MapF.look (h : MapF K w b f sz) (T : KeyT K) {t e : TypeId} (ht : Tryz.prog.underlying t = some (.map K e)) {z : Value} (hz : (zeroValue e).run Tryz.prog w = .ok z w) {x y : Int} (hk : Kw x y) : (Instr.lookup t (.map (some b)) (kv x y) false).run Tryz.prog w = .ok ((f x y).getD z) w := by
  obtain ⟨D, ho, _, ha⟩ := h
  obtain ⟨v, ps, hr, hv⟩ := ho.lookup T.law ht hz (zd := .held z) rfl (T.rd x y hk)
  rw [hr]
  rw [ha x y hk] at hv
  cases hf : f x y with
  | none => rw [hf] at hv; simp [hR] at hv; simp [hv]
  | some u => rw [hf] at hv; simp [hR] at hv; simp [hv]

theorem MapF.look_ok (h : MapF K w b f sz) (T : KeyT K) {t e : TypeId} (ht : Tryz.prog.underlying t = some (.map K e)) {z : Value} (hz : (zeroValue e).run Tryz.prog w = .ok z w) {x y : Int} (hk : Kw x y) : (Instr.lookup t (.map (some b)) (kv x y) true).run Tryz.prog w = .ok (.tuple #[(f x y).getD z, .bool (f x y).isSome]) w := by
  obtain ⟨D, ho, _, ha, hh⟩ := h.has
  obtain ⟨v, ps, hr, hv⟩ := ho.look_ok T.law ht hz (zd := .held z) rfl (T.rd x y hk)
  rw [hr, hh x y hk]
  rw [ha x y hk] at hv
  cases hf : f x y with
  | none => rw [hf] at hv; simp [hR] at hv; simp [hv]
  | some u => rw [hf] at hv; simp [hR] at hv; simp [hv]

theorem MapF.store (h : MapF K w b f sz) (T : KeyT K) {t e : TypeId} (ht : Tryz.prog.underlying t = some (.map K e)) {x y : Int} (hk : Kw x y) (v : Value) (hs : sz < 1000000) :
    ∃ w', (Instr.mapUpdate t (.map (some b)) (kv x y) v).run Tryz.prog w = .ok () w' ∧ MapF K w' b (upd f x y (some v)) (nSz (f x y) sz) ∧ w.mapTurned w' b := by
  obtain ⟨D, ho, hsz, ha, hh⟩ := h.has
  obtain ⟨w', hr, ho', ht'⟩ := ho.store T.law ht (val := v) (by unfold maxLen; omega) (T.rd x y hk) (rfl : hR v = some (.held v, []))
  have e1 : size (D.put (kl x y) (.held v)) = nSz (f x y) sz := by
    rw [Maps.size_put (ho.tidy T.law), hh x y hk, hsz]; rfl
  refine ⟨w', hr, ⟨_, by rw [← e1]; exact owns_tight ho', e1, fun a c hac z => ?_⟩, ht'⟩
  unfold upd
  by_cases e : a = x ∧ c = y
  · rw [if_pos e, e.1, e.2]
    exact Maps.atKey_put_same ho.isMap (kl_key _ _) _ _
  · rw [if_neg e, Maps.atKey_put_other (kl_ne hac hk (fun e' => e (by simpa using e')))]
    exact ha a c hac z

theorem MapF.drop (h : MapF K w b f sz) (T : KeyT K) {t e : TypeId} (ht : Tryz.prog.underlying t = some (.map K e)) {x y : Int} (hk : Kw x y) (ty : TypeId) :
    ∃ w', (Builtin.delete_ #[t, K] ty #[.map (some b), kv x y]).run Tryz.prog w = .ok (.tuple #[]) w' ∧ MapF K w' b (upd f x y none) (if (f x y).isSome then sz - 1 else sz) ∧ w.mapTurned w' b := by
  obtain ⟨D, ho, hsz, ha, hh⟩ := h.has
  obtain ⟨w', hr, ho', ht'⟩ := ho.drop T.law ht (T.rd x y hk) ty
  have e1 : size (D.del (kl x y)) = if (f x y).isSome then sz - 1 else sz := by
    have := Maps.size_del (k := kl x y) (ho.tidy T.law)
    rw [hh x y hk, hsz] at this
    cases hf : (f x y).isSome <;> rw [hf] at this <;> simp at this ⊢ <;> omega
  refine ⟨w', hr, ⟨_, by rw [← e1]; exact owns_tight ho', e1, fun a c hac z => ?_⟩, ht'⟩
  unfold upd
  by_cases e : a = x ∧ c = y
  · rw [if_pos e, e.1, e.2]
    exact Maps.atKey_del_same _
  · rw [if_neg e, Maps.atKey_del_other (kl_ne hac hk (fun e' => e (by simpa using e')))]
    exact ha a c hac z

/-- 'm[k]++' goes by two operations: the entry, and the store into it. -/
theorem MapF.entry (h : MapF K w b f sz) (T : KeyT K) (L : WideMaps.KeyLaw Tryz.prog K) {t e : TypeId} (ht : Tryz.prog.underlying t = some (.map K e)) {z : Value} (hz : ∀ u : World, (zeroValue e).run Tryz.prog u = .ok z u) {x y : Int} (hk : Kw x y) (hs : sz < 1000000) :
    ∃ v0 st w1, (Instr.mapEntry t (.map (some b)) (kv x y)).run Tryz.prog w = .ok (.tuple #[v0, goInt st]) w1 ∧ w.mapTurned w1 b ∧
      ∀ v, ∃ w2, (Instr.entryStore t (.map (some b)) (goInt st) v).run Tryz.prog w1 = .ok () w2 ∧ MapF K w2 b (upd f x y (some v)) (nSz (f x y) sz) ∧ w.mapTurned w2 b := by
  have h' := h
  obtain ⟨D, ⟨es, clock, hb, F, hes, rfl⟩, _⟩ := h'
  obtain ⟨v0, st, es1, clock1, h1, _, h3⟩ := WideElems.entry_then_store L ht hz hb F (T.rd x y hk)
  refine ⟨v0, st, _, h1, ⟨es, clock, es1, clock1, hb, rfl⟩, fun v => ?_⟩
  obtain ⟨es', clock', h4, h5⟩ := h3 (ChangeMaps.setBlock w b (.map es1 clock1)) v (ChangeMaps.heap_setBlock_same hb _)
  obtain ⟨w', h6, h7, h8⟩ := h.store T ht hk v hs
  rw [h5] at h6
  simp at h6
  refine ⟨_, h4, ?_, ⟨es, clock, es', clock', hb, ?_⟩⟩
  · have : ChangeMaps.setBlock (ChangeMaps.setBlock w b (.map es1 clock1)) b (.map es' clock') = w' := by
      rw [← h6]; simp [ChangeMaps.setBlock]
    rw [this]; exact h7
  · simp [ChangeMaps.setBlock]
end

theorem turned_grown {w w' : World} {b : Nat} (h : w.mapTurned w' b) : w.grownBy w' (some b) := h.grown

end Go.Proofs.YtmboclfgldgefaaGreat
