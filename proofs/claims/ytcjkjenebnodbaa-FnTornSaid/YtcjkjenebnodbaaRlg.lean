/-
  The program's ReadLog: what cannot be read ends the records.
-/
import Derived.Test.YtcjkjenebnodbaaL5r
import Derived.Test.YtcjkjenebnodbaaLft
namespace Go.Proofs.Ytcjkjenebnodbaa
open Go.RowKit
set_option linter.unusedVariables false

def rlQ (zs : List Int) : Int := if 16000 < zs.length then 2 else 0
def rlU (zs : List Int) : Nat := if 16000 < zs.length then 0 else logU zs
def rlN (zs : List Int) : Nat := if 16000 < zs.length then 0 else lgN zs
/-- What ReadLog answers. -/
def RlPost (w : World) (zs : List Int) (e : Ending) (w' : World) : Prop := ∃ a c D, e = .returned (.agg #[.int .i64 (rlQ zs), .int .i64 (rlU zs), .slice a (rlN zs) c]) ∧ Below w.heap.size w w' ∧ OwnRS w.heap.size w'.heap.size w' a (rlN zs) (lgR zs) D ∧ rlN zs ≤ c ∧ c ≤ 9223372036854775807

/-- The answer's cells, the records' and the number's. -/
structure RlS (w : World) (k : Int) (v : Value) (V : World) : Prop where
  a0 : V.cell? ⟨w.heap.size, 0, none⟩ = some (.int .i64 0)
  a1 : V.cell? ⟨w.heap.size, 1, none⟩ = some (.int .i64 0)
  a2 : V.cell? ⟨w.heap.size, 2, none⟩ = some (.slice none 0 0)
  f0 : V.frozen? ⟨w.heap.size, 0, none⟩ = false
  f1 : V.frozen? ⟨w.heap.size, 1, none⟩ = false
  f2 : V.frozen? ⟨w.heap.size, 2, none⟩ = false
  v0 : V.cell? ⟨w.heap.size + 1, 0, none⟩ = some v
  vf : V.frozen? ⟨w.heap.size + 1, 0, none⟩ = false
  u0 : V.cell? ⟨w.heap.size + 2, 0, none⟩ = some (.int .i64 k)
  uf : V.frozen? ⟨w.heap.size + 2, 0, none⟩ = false
  g : Below w.heap.size w V
section
variable {w V W : World} {k k' : Int} {v v' : Value}
theorem RlS.s (h : RlS w k v V) : w.heap.size + 3 ≤ V.heap.size := World.block_lt_of_cell? V _ h.u0
theorem RlS.low (h : RlS w k v V) (hb : Below (w.heap.size + 3) V W) : RlS w k v W :=
  ⟨(hb.cell (by simp only; omega)).trans h.a0, (hb.cell (by simp only; omega)).trans h.a1, (hb.cell (by simp only; omega)).trans h.a2, (hb.frozen (by simp only; omega)).trans h.f0, (hb.frozen (by simp only; omega)).trans h.f1, (hb.frozen (by simp only; omega)).trans h.f2, (hb.cell (by simp only; omega)).trans h.v0, (hb.frozen (by simp only; omega)).trans h.vf, (hb.cell (by simp only; omega)).trans h.u0, (hb.frozen (by simp only; omega)).trans h.uf, h.g.trans (hb.mono (by omega))⟩
theorem RlS.up (h : RlS w k v V) (hb : Below V.heap.size V W) : RlS w k v W := h.low (hb.mono h.s)
theorem RlS.putV (h : RlS w k v V) (v' : Value) : RlS w k v' (V.setCell ⟨w.heap.size + 1, 0, none⟩ v') := by
  have o : ∀ (p : Addr) (x : Value), p ≠ ⟨w.heap.size + 1, 0, none⟩ → V.cell? p = some x → (V.setCell ⟨w.heap.size + 1, 0, none⟩ v').cell? p = some x := fun p x hp hx => by
    rw [World.cell?_setCell_other _ _ _ _ (fun e => hp e.symm)]; exact hx
  exact ⟨o _ _ (by simp) h.a0, o _ _ (by simp) h.a1, o _ _ (by simp) h.a2, by rw [World.frozen?_setCell]; exact h.f0, by rw [World.frozen?_setCell]; exact h.f1, by rw [World.frozen?_setCell]; exact h.f2, World.cell?_setCell_same _ _ _ h.v0, by rw [World.frozen?_setCell]; exact h.vf, o _ _ (by simp) h.u0, by rw [World.frozen?_setCell]; exact h.uf, h.g.setCell (by simp) _⟩
theorem RlS.putK (h : RlS w k v V) (k' : Int) : RlS w k' v (V.setCell ⟨w.heap.size + 2, 0, none⟩ (.int .i64 k')) := by
  have o : ∀ (p : Addr) (x : Value), p ≠ ⟨w.heap.size + 2, 0, none⟩ → V.cell? p = some x → (V.setCell ⟨w.heap.size + 2, 0, none⟩ (.int .i64 k')).cell? p = some x := fun p x hp hx => by
    rw [World.cell?_setCell_other _ _ _ _ (fun e => hp e.symm)]; exact hx
  exact ⟨o _ _ (by simp) h.a0, o _ _ (by simp) h.a1, o _ _ (by simp) h.a2, by rw [World.frozen?_setCell]; exact h.f0, by rw [World.frozen?_setCell]; exact h.f1, by rw [World.frozen?_setCell]; exact h.f2, o _ _ (by simp) h.v0, by rw [World.frozen?_setCell]; exact h.vf, World.cell?_setCell_same _ _ _ h.u0, by rw [World.frozen?_setCell]; exact h.uf, h.g.setCell (by simp) _⟩
end

theorem Rlt.setLow {n₀ : Nat} {W : World} {v : Value} {k : Nat} {R : Nat → Rc} {D : Nat → Ad} (h : Rlt n₀ W v k R D) {p : Addr} (hp : p.block < n₀) (x : Value) : Rlt n₀ (W.setCell p x) v k R D :=
  ⟨ownsRow_setLow h.row hp x, fun i hi => (h.rn i hi).turned (x := p.block) (y := p.block + 1) ((Turned.refl _ _ W).setCell (Nat.le_refl _) (Nat.lt_succ_self _) x) (.inr (Nat.le_trans hp (h.fr i hi).1)), fun i hi => by rw [World.size_setCell]; exact h.fr i hi, h.ne⟩
theorem Rlt.mono {n₀ n₁ : Nat} {W : World} {v : Value} {k : Nat} {R : Nat → Rc} {D : Nat → Ad} (h : Rlt n₀ W v k R D) (hn : n₁ ≤ n₀) : Rlt n₁ W v k R D :=
  ⟨ownsRow_mono h.row hn, h.rn, fun i hi => by obtain ⟨h1, h2⟩ := h.fr i hi; exact ⟨Nat.le_trans hn h1, h2⟩, h.ne⟩
theorem Rlt.cap {n₀ : Nat} {W : World} {a : Option Addr} {c k : Nat} {R : Nat → Rc} {D : Nat → Ad} (h : Rlt n₀ W (.slice a k c) k R D) : k ≤ c ∧ c ≤ 9223372036854775807 := by
  have hml : maxLen = 9223372036854775807 := by decide
  rcases h.row.2 with ⟨e, h0⟩ | ⟨g, cap, cur, e, _, _, h1, h2, _⟩
  · simp only [Value.slice.injEq] at e; omega
  · simp only [Value.slice.injEq, true_and] at e; omega
theorem Rlt.ownAt {n₀ : Nat} {W : World} {a : Option Addr} {c k : Nat} {R : Nat → Rc} {D : Nat → Ad} (h : Rlt n₀ W (.slice a k c) k R D) : OwnRS n₀ W.heap.size W a k R D := by
  obtain ⟨a', c', e, hr⟩ := h.own
  simp only [Value.slice.injEq, true_and] at e
  obtain ⟨rfl, rfl⟩ := e
  exact hr

/-- The number that stands in block b. -/
def numAt (w : World) (b : Nat) : Nat := match w.cell? ⟨b, 0, none⟩ with
  | some (.int _ k) => k.toNat
  | _ => 0
theorem numAt_of {w : World} {b : Nat} {k : Nat} (h : w.cell? ⟨b, 0, none⟩ = some (.int .i64 (k : Int))) : numAt w b = k := by unfold numAt; rw [h]; simp

set_option maxHeartbeats 400000 in
theorem catchR_panicking (b0 b1 b2 : Nat) (k : Int) (a : Option Addr) (n c : Nat) (u : TypeId) (pv : Value) (older : List PanicEntry) (w : World) (hk : w.cell? ⟨b2, 0, none⟩ = some (.int .i64 k)) (hv : w.cell? ⟨b1, 0, none⟩ = some (.slice a n c))
    (h0 : w.cell? ⟨b0, 0, none⟩ = some (.int .i64 0)) (h1 : w.cell? ⟨b0, 1, none⟩ = some (.int .i64 0)) (h2 : w.cell? ⟨b0, 2, none⟩ = some (.slice none 0 0)) (f0 : w.frozen? ⟨b0, 0, none⟩ = false) (f1 : w.frozen? ⟨b0, 1, none⟩ = false) (f2 : w.frozen? ⟨b0, 2, none⟩ = false) :
    CallsD Try.prog 73 #[.pointer (some ⟨b2, 0, none⟩), .pointer (some ⟨b1, 0, none⟩), .pointer (some ⟨b0, 0, none⟩)] (.panicking ({ v := .iface u pv, recovered := false } :: older)) w fun e u' w' =>
      e = .returned (.tuple #[]) ∧ u' = .panicking ({ v := .iface u pv, recovered := true } :: older) ∧ w' = ((w.setCell ⟨b0, 0, none⟩ (.int .i64 0)).setCell ⟨b0, 1, none⟩ (.int .i64 k)).setCell ⟨b0, 2, none⟩ (.slice a n c) := by
  refine callsD_of_wpS Try.func73 rfl fun c₀ cs hu => ?_
  apply wpS_seq
  apply wpS_region
  simp [wpOpsS, go_sem, recoverD, hu, Try.ntmps73, Exit.thenS]
  refine wpS_cond (t := true) (by simp [Act.eval, Array.replicate]) ?_
  simp only [if_true]
  apply wpS_region
  simp [wpOpsS, go_sem, hk, hv, h0, h1, h2, f0, f1, f2, bodyPostS, results, Try.results73]

theorem catchR_idle (p q r : Addr) (w : World) :
    CallsD Try.prog 73 #[.pointer (some p), .pointer (some q), .pointer (some r)] .returning w fun e u' w' => e = .returned (.tuple #[]) ∧ u' = .returning ∧ w' = w := by
  refine callsD_of_wpS Try.func73 rfl fun c₀ cs hu => ?_
  apply wpS_seq
  apply wpS_region
  simp [wpOpsS, go_sem, recoverD, hu, Try.ntmps73, Exit.thenS]
  refine wpS_cond (t := false) (by simp [Act.eval, Array.replicate]) ?_
  simp only [Bool.false_eq_true, if_false]
  refine wpS_of_wp (wp_skip ?_)
  cases c₀
  simp_all [bodyPostS, results, Try.results73]

end Go.Proofs.Ytcjkjenebnodbaa
