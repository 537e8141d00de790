/-
  cmp.Or of codes; answers of ChangesOf compared, marked, looked through; isNoChange.
-/
import Derived.Test.YtmboclfgldgefaaGreatPFMkc
import Derived.Test.YtmboclfgldgefaaGreatPFRdw
import Derived.Maps.OwnSet
import Derived.DeepKeys4
import Derived.WideKeyEntry

namespace Go.Proofs.YtmboclfgldgefaaGreat
open Go.RowKit
set_option linter.unusedVariables false

def orI (x y : Int) : Int := if x = 0 then y else x
set_option maxHeartbeats 400000 in
theorem or64_any (b : Nat) (x y : Int) (w : World) (h0 : w.cell? ⟨b, 0, none⟩ = some (.int .i64 x)) (h1 : w.cell? ⟨b, 1, none⟩ = some (.int .i64 y)) :
    Calls Tryz.prog 21 #[.slice (some ⟨b, 0, none⟩) 2 2] w fun e w' => e = .returned (.int .i64 (orI x y)) ∧ w' = w := by
  by_cases hx : x = 0
  · subst hx
    by_cases hy : y = 0
    · subst hy
      have e : orI 0 0 = 0 := rfl
      rw [e]
      clear e
      go_enter Tryz.func21, Tryz.ntmps21
      go_wp2_with fail
      refine wp_loop_rounds 3 ?_
      rw [rounds_succ]
      go_wp2_with fail
      rw [rounds_succ]
      go_wp2_with fail
      rw [rounds_succ]
      go_wp2_with fail
      go_ret
      exact ⟨rfl, rfl⟩
    · have e : orI 0 y = y := rfl
      rw [e]
      clear e
      go_enter Tryz.func21, Tryz.ntmps21
      go_wp2_with fail
      refine wp_loop_rounds 3 ?_
      rw [rounds_succ]
      go_wp2_with fail
      rw [rounds_succ]
      go_wp2_with fail
      go_ret
      exact ⟨rfl, rfl⟩
  · have e : orI x y = x := by unfold orI; simp [hx]
    rw [e]
    clear e
    go_enter Tryz.func21, Tryz.ntmps21
    go_wp2_with fail
    refine wp_loop_rounds 3 ?_
    rw [rounds_succ]
    go_wp2_with fail
    go_ret
    exact ⟨rfl, rfl⟩

/-- Whether a change is none. -/
def noC (x : Chg) : Prop := x.was = true ∧ x.is = true ∧ x.b = x.a

end Go.Proofs.YtmboclfgldgefaaGreat

/-
  isNothing.
-/
namespace Go.Proofs.YtmboclfgldgefaaGreat
open Go.RowKit
set_option linter.unusedVariables false

def rwEq (a b : Rw) : Bool := (a.t == b.t) && (a.k == b.k) && (a.v == b.v) && decide (a.s = b.s)
def noB (x : Chg) : Bool := x.was && x.is && rwEq x.b x.a

/-- A change that is nothing. -/
def nthB (x : Chg) : Bool := (x.was == x.is) && (!x.was || rwEq x.b x.a)
theorem nthB_no {x : Chg} (h : x.was = true ∨ x.is = true) : nthB x = noB x := by
  obtain ⟨w, b, i, a⟩ := x
  unfold nthB noB
  cases w <;> cases i <;> simp at h ⊢

set_option maxRecDepth 20000 in
set_option maxHeartbeats 1000000 in
theorem isNothing_any (x0 : Bool) (xt xk xv : Int) (xs : ByteArray) (x5 : Bool) (yt yk yv : Int) (ys : ByteArray) (w : World) :
    Calls Tryz.prog 107 #[.agg #[.bool x0, .int .i64 xt, .int .i64 xk, .int .i64 xv, .string xs, .bool x5, .int .i64 yt, .int .i64 yk, .int .i64 yv, .string ys]] w fun e w' => e = .returned (.bool (nthB ⟨x0, ⟨xt, xk, xv, xs⟩, x5, ⟨yt, yk, yv, ys⟩⟩)) ∧ Below w.heap.size w w' := by
  cases x0 <;> cases x5
  · have e : nthB ⟨false, ⟨xt, xk, xv, xs⟩, false, ⟨yt, yk, yv, ys⟩⟩ = true := rfl
    rw [e]
    go_enter Tryz.func107, Tryz.ntmps107
    go_wp2_with fail
    go_ret
    exact ⟨rfl, by go_grown⟩
  · have e : nthB ⟨false, ⟨xt, xk, xv, xs⟩, true, ⟨yt, yk, yv, ys⟩⟩ = false := rfl
    rw [e]
    go_enter Tryz.func107, Tryz.ntmps107
    go_wp2_with fail
    go_ret
    exact ⟨rfl, by go_grown⟩
  · have e : nthB ⟨true, ⟨xt, xk, xv, xs⟩, false, ⟨yt, yk, yv, ys⟩⟩ = false := rfl
    rw [e]
    go_enter Tryz.func107, Tryz.ntmps107
    go_wp2_with fail
    go_ret
    exact ⟨rfl, by go_grown⟩
  · have e : nthB ⟨true, ⟨xt, xk, xv, xs⟩, true, ⟨yt, yk, yv, ys⟩⟩ = rwEq ⟨xt, xk, xv, xs⟩ ⟨yt, yk, yv, ys⟩ := rfl
    rw [e]
    by_cases ht : xt = yt
    · subst ht
      by_cases hk : xk = yk
      · subst hk
        by_cases hv : xv = yv
        · subst hv
          by_cases hs : xs = ys
          · subst hs
            have e2 : rwEq ⟨xt, xk, xv, xs⟩ ⟨xt, xk, xv, xs⟩ = true := by simp [rwEq]
            rw [e2]
            clear e e2
            go_enter Tryz.func107, Tryz.ntmps107
            go_wp2_with fail
            go_ret
            exact ⟨rfl, by go_grown⟩
          · have e2 : rwEq ⟨xt, xk, xv, xs⟩ ⟨xt, xk, xv, ys⟩ = false := by simp [rwEq, hs]
            have d : ¬ xs.toList = ys.toList := fun h => hs (by rw [ByteArray.toList_eq, ByteArray.toList_eq] at h; exact ByteArray.ext (Array.toList_inj.1 h))
            rw [e2]
            clear e e2
            go_enter Tryz.func107, Tryz.ntmps107
            go_wp2_with fail
            go_ret
            exact ⟨rfl, by go_grown⟩
        · have e2 : rwEq ⟨xt, xk, xv, xs⟩ ⟨xt, xk, yv, ys⟩ = false := by simp [rwEq, hv]
          have d : (xv == yv) = false := by simpa using hv
          rw [e2]
          clear e e2
          go_enter Tryz.func107, Tryz.ntmps107
          go_wp2_with fail
          go_ret
          exact ⟨rfl, by go_grown⟩
      · have e2 : rwEq ⟨xt, xk, xv, xs⟩ ⟨xt, yk, yv, ys⟩ = false := by simp [rwEq, hk]
        have d : (xk == yk) = false := by simpa using hk
        rw [e2]
        clear e e2
        go_enter Tryz.func107, Tryz.ntmps107
        go_wp2_with fail
        go_ret
        exact ⟨rfl, by go_grown⟩
    · have e2 : rwEq ⟨xt, xk, xv, xs⟩ ⟨yt, yk, yv, ys⟩ = false := by simp [rwEq, ht]
      have d : (xt == yt) = false := by simpa using ht
      rw [e2]
      clear e e2
      go_enter Tryz.func107, Tryz.ntmps107
      go_wp2_with fail
      go_ret
      exact ⟨rfl, by go_grown⟩

end Go.Proofs.YtmboclfgldgefaaGreat

/-
  Changes alone: their codes and keys (plain facts).
-/
namespace Go.Proofs.YtmboclfgldgefaaGreat
open Go.RowKit
set_option linter.unusedVariables false

def chQ (c : Chg) : Int := if (!c.was && !c.is || c.was && c.is && (!(decide (c.b.t = c.a.t) && decide (c.b.k = c.a.k)))) = true then 1 else if c.was = true ∧ rwF c.b ≠ 0 then rwF c.b else if c.is = true then rwF c.a else 0
def kT (c : Chg) : Int := if c.is = true then c.a.t else c.b.t
def kK (c : Chg) : Int := if c.is = true then c.a.k else c.b.k
theorem chQ_zero {c : Chg} (h : chQ c = 0) : (c.was = true ∨ c.is = true) ∧ (c.was = true → c.is = true → c.b.t = c.a.t ∧ c.b.k = c.a.k) ∧ (c.was = true → rwF c.b = 0) ∧ (c.is = true → rwF c.a = 0) := by
  unfold chQ at h
  split at h
  · exact absurd h (by decide)
  · rename_i h1
    split at h
    · rename_i h2; exact absurd h h2.2
    · rename_i h2
      have h3 : ¬ ((!c.was && !c.is || c.was && c.is && (!(decide (c.b.t = c.a.t) && decide (c.b.k = c.a.k)))) = true) := h1
      refine ⟨?_, ?_, ?_, ?_⟩
      · cases hw : c.was <;> cases hi : c.is <;> simp [hw, hi] at h3 ⊢
      · intro hw hi
        simp [hw, hi] at h3
        exact h3
      · intro hw
        by_cases e : rwF c.b = 0
        · exact e
        · exact absurd ⟨hw, e⟩ h2
      · intro hi
        rw [if_pos hi] at h
        exact h
theorem rwF_zero {r : Rw} (h : rwF r = 0) : (0 ≤ r.t ∧ r.t ≤ 3) ∧ (1 ≤ r.k ∧ r.k ≤ 99) := by
  unfold rwF faultI at h
  split at h
  · rename_i hb
    simp only [rngB, inW, Bool.and_eq_true, decide_eq_true_eq] at hb
    omega
  · exact absurd h (by decide)
def alQ (c : Chg) : Int := if chQ c = 0 then (if nthB c = true then 1 else 0) else chQ c
theorem alQ_zero {c : Chg} (h : alQ c = 0) : chQ c = 0 ∧ nthB c = false := by
  unfold alQ at h
  split at h
  · next h0 =>
    refine ⟨h0, ?_⟩
    split at h
    · cases h
    · next h1 => simpa using h1
  · next h0 => exact absurd h h0
theorem alQ_key {c : Chg} (h : alQ c = 0) : (0 ≤ kT c ∧ kT c ≤ 3) ∧ (1 ≤ kK c ∧ kK c ≤ 99) := by
  obtain ⟨h1, h2, h3, h4⟩ := chQ_zero (alQ_zero h).1
  unfold kT kK
  by_cases hi : c.is = true
  · rw [if_pos hi, if_pos hi]; exact rwF_zero (h4 hi)
  · rw [if_neg hi, if_neg hi]
    exact rwF_zero (h3 (h1.resolve_right hi))
set_option maxHeartbeats 400000 in
theorem keyOf_any (t k v : Int) (st : ByteArray) (w : World) :
    Calls Tryz.prog 50 #[.agg #[.int .i64 t, .int .i64 k, .int .i64 v, .string st]] w fun e w' => e = .returned (.agg #[.int .i64 t, .int .i64 k]) ∧ Below w.heap.size w w' := by
  go_enter Tryz.func50, Tryz.ntmps50
  go_wp2
  go_returns
  exact ⟨rfl, by go_grown⟩


end Go.Proofs.YtmboclfgldgefaaGreat

/-
  Maps whose keys are pairs of integers, told as functions.
-/
namespace Go.Proofs.YtmboclfgldgefaaGreat
open Go.RowKit Go.Maps
set_option linter.unusedVariables false

/-- What a pair reads as, as a key. -/
def kl (x y : Int) : Lit := .string (keyBytes [.int .i64 x, .int .i64 y])
def kv (x y : Int) : Value := .agg #[.int .i64 x, .int .i64 y]
/-- Both fit their kind. -/
def Kw (x y : Int) : Prop := (Lit.int .i64 x).wf = true ∧ (Lit.int .i64 y).wf = true

/-- What is asked of a key's type: two int64. -/
structure KeyT (K : TypeId) : Prop where
  law : Keyed Tryz.prog K
  rd : ∀ x y, Kw x y → keyOf Tryz.prog K (kv x y) = some (kl x y)
  wide : (match Tryz.prog.underlying K with | some (.array _ _) | some (.struct _) => true | _ => false) = true

theorem laidOutM : laidOutB Tryz.prog = true := by kernel_rfl

theorem keyLaw73 : WideMaps.KeyLaw Tryz.prog 75 := deep_law_laid laidOutM (m := 5) (by decide) (of_decide_eq_true (by kernel_rfl)) (by kernel_rfl) (by kernel_rfl)
theorem lits2 (d : Nat) (x : Int) (hx : (Lit.int .i64 x).wf = true) : Tryz.prog.keyLits (d + 1) 2 [.int .i64 x] = some [.int .i64 x] := by
  unfold Program.keyLits
  rw [Tryz.underlying2]
  simp [hx]

theorem kOf73 (x y : Int) (h : Kw x y) : keyOf Tryz.prog 75 (kv x y) = some (kl x y) := by
  obtain ⟨hx, hy⟩ := h
  have hs : Tryz.prog.types.size + 1 = (Tryz.prog.types.size - 1) + 1 + 1 := by
    have : 1 ≤ Tryz.prog.types.size := of_decide_eq_true (by kernel_rfl)
    omega
  have c1 : Tryz.prog.cellsOf 75 = 2 := by kernel_rfl
  have c2 : Tryz.prog.cellsOf 2 = 1 := by kernel_rfl
  have k0 : Tryz.prog.keyType 75 = true := by kernel_rfl
  have k1 : (kv x y).formed Tryz.prog 75 = true := by simp [kv, Value.formed, Tryz.underlying75, c1]
  unfold keyOf
  rw [Tryz.underlying75]
  simp only [k0, k1, Bool.and_self, if_true]
  rw [hs]
  unfold Program.keyLits
  rw [Tryz.underlying75]
  simp [kv, Value.cells, c1, c2, lits2 _ x hx, lits2 _ y hy, kl]

theorem keyT73 : KeyT 75 := ⟨Keyed.of_law keyLaw73, kOf73, by kernel_rfl⟩
theorem kl_inj {x y x' y' : Int} (h : Kw x y) (h' : Kw x' y') (e : kl x y = kl x' y') : x = x' ∧ y = y' := by
  have := (Keyed.of_law keyLaw73).inj (kOf73 x y h) (by rw [e]; exact kOf73 x' y' h')
  simp [kv] at this
  exact this
theorem kl_ne {x y x' y' : Int} (h : Kw x y) (h' : Kw x' y') (e : (x, y) ≠ (x', y')) : kl x y ≠ kl x' y' := fun e' => e (by obtain ⟨rfl, rfl⟩ := kl_inj h h' e'; rfl)
theorem kl_key (x y : Int) : WideAt.IsKeyLit (kl x y) := trivial

/-- An element reads as itself. -/
def hR (v : Value) : Option (DataW Value × List MemPlace) := some (.held v, [])

/-- Block b is a map of sz entries: at the pair x, y the element f x y. -/
def MapF (K : TypeId) (w : World) (b : Nat) (f : Int → Int → Option Value) (sz : Nat) : Prop :=
  ∃ D : DataW Value, w.ownsMap Tryz.prog K hR b sz D ∧ size D = sz ∧ ∀ x y, Kw x y → ∀ z, D.atKey (kl x y) z = match f x y with | some v => .held v | none => z

/-- f with x, y turned. -/
def upd (f : Int → Int → Option Value) (x y : Int) (v : Option Value) : Int → Int → Option Value := fun a b => if a = x ∧ b = y then v else f a b

/-- How many entries there are behind a store. -/
def nSz (o : Option Value) (sz : Nat) : Nat := if o.isSome = true then sz else sz + 1
theorem nSz_le (o : Option Value) (sz : Nat) : nSz o sz ≤ sz + 1 := by unfold nSz; split <;> omega

section
variable {K : TypeId} {w w' : World} {b sz : Nat} {f : Int → Int → Option Value}

theorem owns_tight {n : Nat} {D : DataW Value} (h : w.ownsMap Tryz.prog K hR b n D) : w.ownsMap Tryz.prog K hR b (size D) D := by
  obtain ⟨es, clock, hb, F, hs, rfl⟩ := h
  refine ⟨es, clock, hb, F, ?_, rfl⟩
  simp [size, length_sorted]

theorem MapF.lt (h : MapF K w b f sz) : b < w.heap.size := by obtain ⟨D, ho, _⟩ := h; exact ho.lt

theorem MapF.has (h : MapF K w b f sz) : ∃ D : DataW Value, w.ownsMap Tryz.prog K hR b sz D ∧ size D = sz ∧ (∀ x y, Kw x y → ∀ z, D.atKey (kl x y) z = match f x y with | some v => .held v | none => z) ∧ ∀ x y, Kw x y → Maps.has D (kl x y) = (f x y).isSome := by
  obtain ⟨D, ho, hs, ha⟩ := h
  refine ⟨D, ho, hs, ha, fun x y hk => ?_⟩
  cases hf : f x y with
  | none => exact Maps.has_false_of_atKey (fun z => by rw [ha x y hk, hf])
  | some v => exact Maps.has_true_of_atKey (y := .held v) (fun z => by rw [ha x y hk, hf])

theorem MapF.kept (h : MapF K w b f sz) {row : Option Nat} (hg : w.grownBy w' row) (hne : some b ≠ row) : MapF K w' b f sz := by
  obtain ⟨D, ho, r⟩ := h
  exact ⟨D, ho.kept hg hne, r⟩

theorem MapF.below (h : MapF K w b f sz) (hb : Below w.heap.size w w') : MapF K w' b f sz :=
  h.kept (row := none) ⟨hb.os, hb.tape, hb.output, hb.size, fun i hi _ => hb.block i hi⟩ (by simp)

theorem MapF.made (K : TypeId) (w : World) : MapF K (w.alloc (.map #[] 0)) w.heap.size (fun _ _ => none) 0 :=
  ⟨.map [], World.ownsMap_made w _ _ _, rfl, fun x y _ z => rfl⟩

theorem MapF.len (h : MapF K w b f sz) {t e : TypeId} (ht : Tryz.prog.underlying t = some (.map K e)) (ty : TypeId) : (Builtin.len_ #[t] ty #[.map (some b)]).run Tryz.prog w = .ok (.int .i64 sz) w := by
  obtain ⟨D, ho, hs, _⟩ := h
  rw [ho.len ht ty, hs]

theorem MapF.look (h : MapF K w b f sz) (T : KeyT K) {t e : TypeId} (ht : Tryz.prog.underlying t = some (.map K e)) {z : Value} (hz : (zeroValue e).run Tryz.prog w = .ok z w) {x y : Int} (hk : Kw x y) : (Instr.lookup t (.map (some b)) (kv x y) false).run Tryz.prog w = .ok ((f x y).getD z) w := by
  obtain ⟨D, ho, _, ha⟩ := h
  obtain ⟨v, ps, hr, hv⟩ := ho.lookup T.law ht hz (zd := .held z) rfl (T.rd x y hk)
  rw [hr]
  rw [ha x y hk] at hv
  cases hf : f x y with
  | none => rw [hf] at hv; simp [hR] at hv; simp [hv]
  | some u => rw [hf] at hv; simp [hR] at hv; simp [hv]

theorem MapF.look_ok (h : MapF K w b f sz) (T : KeyT K) {t e : TypeId} (ht : Tryz.prog.underlying t = some (.map K e)) {z : Value} (hz : (zeroValue e).run Tryz.prog w = .ok z w) {x y : Int} (hk : Kw x y) : (Instr.lookup t (.map (some b)) (kv x y) true).run Tryz.prog w = .ok (.tuple #[(f x y).getD z, .bool (f x y).isSome]) w := by
  obtain ⟨D, ho, _, ha, hh⟩ := h.has
  obtain ⟨v, ps, hr, hv⟩ := ho.look_ok T.law ht hz (zd := .held z) rfl (T.rd x y hk)
  rw [hr, hh x y hk]
  rw [ha x y hk] at hv
  cases hf : f x y with
  | none => rw [hf] at hv; simp [hR] at hv; simp [hv]
  | some u => rw [hf] at hv; simp [hR] at hv; simp [hv]

theorem MapF.store (h : MapF K w b f sz) (T : KeyT K) {t e : TypeId} (ht : Tryz.prog.underlying t = some (.map K e)) {x y : Int} (hk : Kw x y) (v : Value) (hs : sz < 1000000) :
    ∃ w', (Instr.mapUpdate t (.map (some b)) (kv x y) v).run Tryz.prog w = .ok () w' ∧ MapF K w' b (upd f x y (some v)) (nSz (f x y) sz) ∧ w.mapTurned w' b := by
  obtain ⟨D, ho, hsz, ha, hh⟩ := h.has
  obtain ⟨w', hr, ho', ht'⟩ := ho.store T.law ht (val := v) (by unfold maxLen; omega) (T.rd x y hk) (rfl : hR v = some (.held v, []))
  have e1 : size (D.put (kl x y) (.held v)) = nSz (f x y) sz := by
    rw [Maps.size_put (ho.tidy T.law), hh x y hk, hsz]; rfl
  refine ⟨w', hr, ⟨_, by rw [← e1]; exact owns_tight ho', e1, fun a c hac z => ?_⟩, ht'⟩
  unfold upd
  by_cases e : a = x ∧ c = y
  · rw [if_pos e, e.1, e.2]
    exact Maps.atKey_put_same ho.isMap (kl_key _ _) _ _
  · rw [if_neg e, Maps.atKey_put_other (kl_ne hac hk (fun e' => e (by simpa using e')))]
    exact ha a c hac z

theorem MapF.drop (h : MapF K w b f sz) (T : KeyT K) {t e : TypeId} (ht : Tryz.prog.underlying t = some (.map K e)) {x y : Int} (hk : Kw x y) (ty : TypeId) :
    ∃ w', (Builtin.delete_ #[t, K] ty #[.map (some b), kv x y]).run Tryz.prog w = .ok (.tuple #[]) w' ∧ MapF K w' b (upd f x y none) (if (f x y).isSome then sz - 1 else sz) ∧ w.mapTurned w' b := by
  obtain ⟨D, ho, hsz, ha, hh⟩ := h.has
  obtain ⟨w', hr, ho', ht'⟩ := ho.drop T.law ht (T.rd x y hk) ty
  have e1 : size (D.del (kl x y)) = if (f x y).isSome then sz - 1 else sz := by
    have := Maps.size_del (k := kl x y) (ho.tidy T.law)
    rw [hh x y hk, hsz] at this
    cases hf : (f x y).isSome <;> rw [hf] at this <;> simp at this ⊢ <;> omega
  refine ⟨w', hr, ⟨_, by rw [← e1]; exact owns_tight ho', e1, fun a c hac z => ?_⟩, ht'⟩
  unfold upd
  by_cases e : a = x ∧ c = y
  · rw [if_pos e, e.1, e.2]
    exact Maps.atKey_del_same _
  · rw [if_neg e, Maps.atKey_del_other (kl_ne hac hk (fun e' => e (by simpa using e')))]
    exact ha a c hac z

/-- 'm[k]++' goes by two operations: the entry, and the store into it. -/
theorem MapF.entry (h : MapF K w b f sz) (T : KeyT K) (L : WideMaps.KeyLaw Tryz.prog K) {t e : TypeId} (ht : Tryz.prog.underlying t = some (.map K e)) {z : Value} (hz : ∀ u : World, (zeroValue e).run Tryz.prog u = .ok z u) {x y : Int} (hk : Kw x y) (hs : sz < 1000000) :
    ∃ v0 st w1, (Instr.mapEntry t (.map (some b)) (kv x y)).run Tryz.prog w = .ok (.tuple #[v0, goInt st]) w1 ∧ w.mapTurned w1 b ∧
      ∀ v, ∃ w2, (Instr.entryStore t (.map (some b)) (goInt st) v).run Tryz.prog w1 = .ok () w2 ∧ MapF K w2 b (upd f x y (some v)) (nSz (f x y) sz) ∧ w.mapTurned w2 b := by
  have h' := h
  obtain ⟨D, ⟨es, clock, hb, F, hes, rfl⟩, _⟩ := h'
  obtain ⟨v0, st, es1, clock1, h1, _, h3⟩ := WideElems.entry_then_store L ht hz hb F (T.rd x y hk)
  refine ⟨v0, st, _, h1, ⟨es, clock, es1, clock1, hb, rfl⟩, fun v => ?_⟩
  obtain ⟨es', clock', h4, h5⟩ := h3 (ChangeMaps.setBlock w b (.map es1 clock1)) v (ChangeMaps.heap_setBlock_same hb _)
  obtain ⟨w', h6, h7, h8⟩ := h.store T ht hk v hs
  rw [h5] at h6
  simp at h6
  refine ⟨_, h4, ?_, ⟨es, clock, es', clock', hb, ?_⟩⟩
  · have : ChangeMaps.setBlock (ChangeMaps.setBlock w b (.map es1 clock1)) b (.map es' clock') = w' := by
      rw [← h6]; simp [ChangeMaps.setBlock]
    rw [this]; exact h7
  · simp [ChangeMaps.setBlock]
end

theorem turned_grown {w w' : World} {b : Nat} (h : w.mapTurned w' b) : w.grownBy w' (some b) := h.grown

end Go.Proofs.YtmboclfgldgefaaGreat
