/-
  Both FindRow.
-/
import Derived.Test.YtonngopnhpmjaaaEMfa
import Derived.RangeFuncNested
import Derived.RangeFuncBound
import Derived.RangeFuncCalls
import Derived.RangeFuncLeaves
import Derived.Shelf.Abstract
import Derived.Shelf.RegionOpen
import Derived.WalkKit
import Derived.OwnWalkIn
import Derived.TacticsInMore
import Derived.LoopNIn
import Derived.LoopIn
import Derived.RangeFuncBox
import Derived.OrdersHeld
import Derived.OrdersIn

namespace Go.Proofs.Ytonngopnhpmjaaa
open Go.RowKit Go.Maps
set_option linter.unusedVariables false

def fnd (ps : List (List Int)) (t k : Int) : Option Plc := (seenL ps).find? (fun y => decide (y.r.t = t) && decide (y.r.k = k))
def rp (q : Int) : Plc := ⟨q, 0, 0, ⟨0, 0, 0, ⟨#[]⟩⟩⟩
/-- What FindRow answers. -/
def findR (ps : List (List Int)) (t k : Int) : Plc := if viewQ ps = 0 then (if (inR t 0 3 && inR k 1 99) = true then (fnd ps t k).getD (rp 4) else rp 3) else rp (viewQ ps)

theorem fnd_kv {ps : List (List Int)} (hd : ((seenKV ps).map (·.1)).Nodup) (t k : Int) : kvF (seenKV ps) t k = (fnd ps t k).map plV := by
  cases hf : fnd ps t k with
  | some y =>
    unfold fnd at hf
    have h1 := List.mem_of_find?_eq_some hf
    have h2 := List.find?_some hf
    simp at h2
    have : ((t, k), plV y) ∈ seenKV ps := List.mem_map.2 ⟨y, h1, by unfold plK; rw [h2.1, h2.2]⟩
    rw [kvF_mem hd this]
    rfl
  | none =>
    cases hv : kvF (seenKV ps) t k with
    | none => rfl
    | some v =>
      have h1 := kvF_at hv
      obtain ⟨y, hy, e⟩ := List.mem_map.1 h1
      unfold plK at e
      simp only [Prod.mk.injEq] at e
      unfold fnd at hf
      have := List.find?_eq_none.1 hf y hy
      simp [e.1.1, e.1.2] at this

theorem viewQ_nodup {ps : List (List Int)} (h : viewQ ps = 0) : allQ ps = 0 ∧ stubQ ps = 0 ∧ ((seenKV ps).map (·.1)).Nodup := by
  unfold viewQ at h
  split at h
  · rename_i h1
    split at h
    · rename_i h2
      split at h
      · rename_i h3; exact ⟨h1, h2, h3⟩
      · simp at h
    · rename_i h2; exact absurd h h2
  · rename_i h1; exact absurd h h1

theorem inR_small {t k : Int} (h : (inR t 0 3 && inR k 1 99) = true) : small t ∧ small k := by
  unfold inR at h
  simp at h
  exact ⟨⟨by omega, by omega⟩, ⟨by omega, by omega⟩⟩

/-- Block b holds a zero answer that may be written. -/
structure PlO (w : World) (b : Nat) : Prop where
  c0 : w.cell? ⟨b, 0, none⟩ = some (.int .i64 0)
  c1 : w.cell? ⟨b, 1, none⟩ = some (.int .i64 0)
  c2 : w.cell? ⟨b, 2, none⟩ = some (.int .i64 0)
  c3 : w.cell? ⟨b, 3, none⟩ = some (.int .i64 0)
  c4 : w.cell? ⟨b, 4, none⟩ = some (.int .i64 0)
  c5 : w.cell? ⟨b, 5, none⟩ = some (.int .i64 0)
  c6 : w.cell? ⟨b, 6, none⟩ = some (.string ⟨#[]⟩)
  f0 : w.frozen? ⟨b, 0, none⟩ = false
  f1 : w.frozen? ⟨b, 1, none⟩ = false
  f2 : w.frozen? ⟨b, 2, none⟩ = false
  f3 : w.frozen? ⟨b, 3, none⟩ = false
  f4 : w.frozen? ⟨b, 4, none⟩ = false
  f5 : w.frozen? ⟨b, 5, none⟩ = false
  f6 : w.frozen? ⟨b, 6, none⟩ = false
theorem PlO.below {w w' : World} {b : Nat} (h : PlO w b) (hb : Below w.heap.size w w') : PlO w' b :=
  have hl := World.block_lt_of_cell? w _ h.c0
  have up : ∀ (p : Nat) (v : Value), w.cell? ⟨b, p, none⟩ = some v → w'.cell? ⟨b, p, none⟩ = some v := fun p v h => (hb.cell (p := ⟨b, p, none⟩) hl).trans h
  have fz : ∀ (p : Nat), w.frozen? ⟨b, p, none⟩ = false → w'.frozen? ⟨b, p, none⟩ = false := fun p h => (hb.frozen (p := ⟨b, p, none⟩) hl).trans h
  ⟨up _ _ h.c0, up _ _ h.c1, up _ _ h.c2, up _ _ h.c3, up _ _ h.c4, up _ _ h.c5, up _ _ h.c6, fz _ h.f0, fz _ h.f1, fz _ h.f2, fz _ h.f3, fz _ h.f4, fz _ h.f5, fz _ h.f6⟩
theorem PlO.new (w : World) : PlO (w.alloc (.cells #[.int .i64 0, .int .i64 0, .int .i64 0, .int .i64 0, .int .i64 0, .int .i64 0, .string ⟨#[]⟩] 215)) w.heap.size :=
  ⟨by simp [go_sem], by simp [go_sem], by simp [go_sem], by simp [go_sem], by simp [go_sem], by simp [go_sem], by simp [go_sem], by simp [go_sem], by simp [go_sem], by simp [go_sem], by simp [go_sem], by simp [go_sem], by simp [go_sem], by simp [go_sem]⟩

end Go.Proofs.Ytonngopnhpmjaaa

/-
  The model's FindRow.
-/
namespace Go.Proofs.Ytonngopnhpmjaaa
open Go.RowKit Go.Maps
set_option linter.unusedVariables false

structure SpO (w : World) (b : Nat) : Prop where
  c0 : w.cell? ⟨b, 0, none⟩ = some (.int .i64 0)
  c1 : w.cell? ⟨b, 1, none⟩ = some (.int .i64 0)
  c2 : w.cell? ⟨b, 2, none⟩ = some (.int .i64 0)
  c3 : w.cell? ⟨b, 3, none⟩ = some (.int .i64 0)
  c4 : w.cell? ⟨b, 4, none⟩ = some (.int .i64 0)
  c5 : w.cell? ⟨b, 5, none⟩ = some (.int .i64 0)
  c6 : w.cell? ⟨b, 6, none⟩ = some (.int .i64 0)
  c7 : w.cell? ⟨b, 7, none⟩ = some (.int .i64 0)
  c8 : w.cell? ⟨b, 8, none⟩ = some (.int .i64 0)
  c9 : w.cell? ⟨b, 9, none⟩ = some (.string ⟨#[]⟩)
  f0 : w.frozen? ⟨b, 0, none⟩ = false
  f1 : w.frozen? ⟨b, 1, none⟩ = false
  f2 : w.frozen? ⟨b, 2, none⟩ = false
  f3 : w.frozen? ⟨b, 3, none⟩ = false
  f4 : w.frozen? ⟨b, 4, none⟩ = false
  f5 : w.frozen? ⟨b, 5, none⟩ = false
  f6 : w.frozen? ⟨b, 6, none⟩ = false
  f7 : w.frozen? ⟨b, 7, none⟩ = false
  f8 : w.frozen? ⟨b, 8, none⟩ = false
  f9 : w.frozen? ⟨b, 9, none⟩ = false
theorem SpO.below {w w' : World} {b : Nat} (h : SpO w b) (hb : Below w.heap.size w w') : SpO w' b :=
  have hl := World.block_lt_of_cell? w _ h.c0
  have up : ∀ (p : Nat) (v : Value), w.cell? ⟨b, p, none⟩ = some v → w'.cell? ⟨b, p, none⟩ = some v := fun p v h => (hb.cell (p := ⟨b, p, none⟩) hl).trans h
  have fz : ∀ (p : Nat), w.frozen? ⟨b, p, none⟩ = false → w'.frozen? ⟨b, p, none⟩ = false := fun p h => (hb.frozen (p := ⟨b, p, none⟩) hl).trans h
  ⟨up _ _ h.c0, up _ _ h.c1, up _ _ h.c2, up _ _ h.c3, up _ _ h.c4, up _ _ h.c5, up _ _ h.c6, up _ _ h.c7, up _ _ h.c8, up _ _ h.c9, fz _ h.f0, fz _ h.f1, fz _ h.f2, fz _ h.f3, fz _ h.f4, fz _ h.f5, fz _ h.f6, fz _ h.f7, fz _ h.f8, fz _ h.f9⟩
theorem SpO.new (w : World) : SpO (w.alloc (.cells #[.int .i64 0, .int .i64 0, .int .i64 0, .int .i64 0, .int .i64 0, .int .i64 0, .int .i64 0, .int .i64 0, .int .i64 0, .string ⟨#[]⟩] 171)) w.heap.size :=
  ⟨by simp [go_sem], by simp [go_sem], by simp [go_sem], by simp [go_sem], by simp [go_sem], by simp [go_sem], by simp [go_sem], by simp [go_sem], by simp [go_sem], by simp [go_sem], by simp [go_sem], by simp [go_sem], by simp [go_sem], by simp [go_sem], by simp [go_sem], by simp [go_sem], by simp [go_sem], by simp [go_sem], by simp [go_sem], by simp [go_sem]⟩

def mtS (t k : Int) (x : Spt) : Bool := decide (x.c.t = t) && decide (x.c.k = k)
def fndS (zs : List Spt) (t k : Int) : Option Spt := zs.find? (mtS t k)
def zSp : Spt := ⟨0, 0, zC⟩
theorem fnd_fndS {ps : List (List Int)} (hp : PgOk ps) (t k : Int) : fnd ps t k = (fndS (snF (mvF (allL ps)) (allL ps)) t k).map toPl := by
  unfold fnd fndS seenL
  rw [← snF_pl (allL_ok hp).1, List.find?_map]
  rfl
theorem find_step {zs : List Spt} {j : Nat} {x : Spt} (hx : zs[j]? = some x) {f : Spt → Bool} : (zs.drop j).find? f = if f x = true then some x else (zs.drop (j + 1)).find? f := by
  rw [drop_cons hx, List.find?_cons]
  cases f x <;> rfl

end Go.Proofs.Ytonngopnhpmjaaa

/-
  In a round of a range over a function: a region's walk outside of rounds serves in one.
-/
namespace Go.Proofs.Ytonngopnhpmjaaa
open Go.RowKit Go.Shelf
set_option linter.unusedVariables false

theorem rowsIn_wide {n : Nat} {P : Program} {row : String} {args : Array Value} {w : World} {R : Value → World → Prop} (h : Rows P row args w R) : RowsIn Fence.wide n P row args w R :=
  fun c cs _ => let ⟨v, w', r, s⟩ := h c cs; ⟨v, w', r, stepsIn_wide.2 s⟩

/-- Is it no defer statement? -/
def noDefer (o : Oper) : Bool := match o.op with | .defer _ => false | _ => true
theorem noDefer_ne {o : Oper} (h : noDefer o = true) (c : Call) : o.op ≠ .defer c := by
  intro e
  unfold noDefer at h
  rw [e] at h
  cases h

section
variable {P : Program} {Q : Exit → Act → World → Prop} {l n : Nat}

theorem wpIn_of_wp {o : Oper} {a : Act} {w : World} {K K' : Act → World → Prop} (hd : noDefer o = true) (hK : ∀ a w, K a w → K' a w) (h : o.wp P a w K Q) : o.wpIn (Fence.wide.inRound l) n P a w K' Q := by
  refine ⟨fun _ _ => trivial, ?_⟩
  rw [Oper.semAt_eq _ _ _ (noDefer_ne hd)]
  unfold Oper.wp at h
  generalize (execOp a.eval o).run P w = r at h ⊢
  cases r with
  | ok x w' =>
    cases x with
    | enter f args =>
      refine ⟨fun e => (by cases e), ?_⟩
      exact CallsIn.inRound l (callsIn_wide.2 (Calls.mono h (fun e w'' he => by cases e <;> first | exact hK _ _ he | exact he)))
    | row row args =>
      refine ⟨fun e => (by cases e), ?_⟩
      exact rowsIn_wide (Rows.mono h (fun _ _ he => hK _ _ he))
    | value v => exact hK _ _ h
    | skip => exact hK _ _ h
    | defer d => exact hK _ _ h
    | _ => exact h.elim
  | halt x w' => cases x <;> first | exact h | exact h.elim

theorem opIn_of_op {ops : Array Oper} {i : Nat} {a : Act} {w : World} {K K' : Act → World → Prop} (hQ : ¬ LetsOut Q) (hd : ops.all noDefer = true) (hK : ∀ a w, K a w → K' a w) (h : wpOp P ops Q i K a w) : wpOpIn (Fence.wide.inRound l) n P ops Q i K' a w := by
  unfold wpOp at h
  unfold wpOpIn
  cases ho : ops[i]? with
  | none => rw [ho] at h; exact hK _ _ h
  | some o =>
    rw [ho] at h
    have hdo : noDefer o = true := by
      obtain ⟨hi, he⟩ := Array.getElem?_eq_some_iff.1 ho
      rw [← he]
      exact Array.all_eq_true.1 hd i hi
    simp only at h ⊢
    split
    · rename_i hw
      rw [if_pos hw] at h
      rcases h with h | ⟨_, h⟩
      · exact wpIn_of_wp hdo hK h
      · exact absurd h hQ
    · rename_i hw
      rw [if_neg hw] at h
      exact ⟨fun _ _ => trivial, hK _ _ h⟩

theorem anyIn_of_any {md : Region.Mode} {ops : Array Oper} (hQ : ¬ LetsOut Q) (hd : ops.all noDefer = true) : ∀ (fuel : Nat) (listed : Array Bool) (a : Act) (w : World), wpAny P md ops Q fuel listed a w → wpAnyIn (Fence.wide.inRound l) n P md ops Q fuel listed a w
  | 0, _, _, _, h => h
  | fuel + 1, _, _, _, h => ⟨h.1, fun i hi => opIn_of_op hQ hd (fun a' w' h' => anyIn_of_any hQ hd fuel _ a' w' h') (h.2 i hi)⟩

theorem listIn_of_list {ops : Array Oper} (hQ : ¬ LetsOut Q) : ∀ (rest : List Oper) (hd : rest.all noDefer = true) (a : Act) (w : World), wpList P ops Q rest a w → wpListIn (Fence.wide.inRound l) n P ops Q rest a w
  | [], _, _, _, h => h
  | o :: rest, hd, a, w, h => by
    simp only [List.all_cons, Bool.and_eq_true] at hd
    unfold wpListIn
    unfold wpList at h
    split
    · rename_i hw
      rw [if_pos hw] at h
      rcases h with h | ⟨_, h⟩
      · exact wpIn_of_wp hd.1 (fun a' w' h' => listIn_of_list hQ rest hd.2 a' w' h') h
      · exact absurd h hQ
    · rename_i hw
      rw [if_neg hw] at h
      exact ⟨fun _ _ => trivial, listIn_of_list hQ rest hd.2 _ _ h⟩

/-- A region in the order of the text. -/
theorem roundRegion {id : Nat} {ops : List Oper} {a : Act} {w : World} (hQ : ¬ LetsOut Q) (hd : ops.all noDefer = true) (h : wpList P ops.toArray Q ops a w) : (Code.region id ops.toArray false).wpIn (Fence.wide.inRound l) n P Q a w :=
  wpIn_region_lit (listIn_of_list hQ ops hd a w h)

/-- A region that draws its order. -/
theorem roundDrawn {id : Nat} {ops : Array Oper} {a : Act} {w : World} {S : World → Prop} (hQ : ¬ LetsOut Q) (hd : ops.all noDefer = true) (hm : P.follows .mixedOrders = true) (hS : S w.drew)
    (h : S w.drew → wpAnyH P .any ops Q S ops.size (Array.replicate ops.size false) a w.drew) : (Code.region id ops true).wpIn (Fence.wide.inRound l) n P Q a w :=
  wpIn_region_any hm (anyIn_of_any hQ hd _ _ _ _ (wpAny_of_held _ _ _ _ (h hS)))

theorem letsOut_then {K : Act → World → Prop} (h : ¬ LetsOut Q) : ¬ LetsOut (Exit.then K Q) := fun ⟨a, w, e⟩ => h ⟨a, w, e⟩
theorem letsOut_block {id : Nat} (h : ¬ LetsOut Q) : ¬ LetsOut (Exit.inBlock id Q) := fun ⟨a, w, e⟩ => h ⟨a, w, e⟩
end

end Go.Proofs.Ytonngopnhpmjaaa
