/-
  cmp.Or of codes; answers of ChangesOf compared, marked, looked through; isNoChange.
-/
import Derived.Test.YtmbllmhpnopbdaaFFChg

namespace Go.Proofs.Ytmbllmhpnopbdaa
open Go.RowKit
set_option linter.unusedVariables false

def orI (x y : Int) : Int := if x = 0 then y else x
set_option maxHeartbeats 400000 in
theorem or64_any (b : Nat) (x y : Int) (w : World) (h0 : w.cell? ⟨b, 0, none⟩ = some (.int .i64 x)) (h1 : w.cell? ⟨b, 1, none⟩ = some (.int .i64 y)) :
    Calls Try.prog 18 #[.slice (some ⟨b, 0, none⟩) 2 2] w fun e w' => e = .returned (.int .i64 (orI x y)) ∧ w' = w := by
  by_cases hx : x = 0
  · subst hx
    by_cases hy : y = 0
    · subst hy
      have e : orI 0 0 = 0 := rfl
      rw [e]
      clear e
      go_enter Try.func18, Try.ntmps18
      go_wp2_with fail
      refine wp_loop_rounds 3 ?_
      rw [rounds_succ]
      go_wp2_with fail
      rw [rounds_succ]
      go_wp2_with fail
      rw [rounds_succ]
      go_wp2_with fail
      go_ret
      exact ⟨rfl, rfl⟩
    · have e : orI 0 y = y := rfl
      rw [e]
      clear e
      go_enter Try.func18, Try.ntmps18
      go_wp2_with fail
      refine wp_loop_rounds 3 ?_
      rw [rounds_succ]
      go_wp2_with fail
      rw [rounds_succ]
      go_wp2_with fail
      go_ret
      exact ⟨rfl, rfl⟩
  · have e : orI x y = x := by unfold orI; simp [hx]
    rw [e]
    clear e
    go_enter Try.func18, Try.ntmps18
    go_wp2_with fail
    refine wp_loop_rounds 3 ?_
    rw [rounds_succ]
    go_wp2_with fail
    go_ret
    exact ⟨rfl, rfl⟩

/-- Whether a change is none. -/
def noC (x : Chg) : Prop := x.was = true ∧ x.is = true ∧ x.b = x.a

end Go.Proofs.Ytmbllmhpnopbdaa

/-
  isNothing.
-/
namespace Go.Proofs.Ytmbllmhpnopbdaa
open Go.RowKit
set_option linter.unusedVariables false

def rwEq (a b : Rw) : Bool := (a.t == b.t) && (a.k == b.k) && (a.v == b.v) && decide (a.s = b.s)
def noB (x : Chg) : Bool := x.was && x.is && rwEq x.b x.a

/-- A change that is nothing. -/
def nthB (x : Chg) : Bool := (x.was == x.is) && (!x.was || rwEq x.b x.a)
theorem nthB_no {x : Chg} (h : x.was = true ∨ x.is = true) : nthB x = noB x := by
  obtain ⟨w, b, i, a⟩ := x
  unfold nthB noB
  cases w <;> cases i <;> simp at h ⊢

set_option maxRecDepth 20000 in
set_option maxHeartbeats 1000000 in
theorem isNothing_any (x0 : Bool) (xt xk xv : Int) (xs : ByteArray) (x5 : Bool) (yt yk yv : Int) (ys : ByteArray) (w : World) :
    Calls Try.prog 39 #[.agg #[.bool x0, .int .i64 xt, .int .i64 xk, .int .i64 xv, .string xs, .bool x5, .int .i64 yt, .int .i64 yk, .int .i64 yv, .string ys]] w fun e w' => e = .returned (.bool (nthB ⟨x0, ⟨xt, xk, xv, xs⟩, x5, ⟨yt, yk, yv, ys⟩⟩)) ∧ Below w.heap.size w w' := by
  cases x0 <;> cases x5
  · have e : nthB ⟨false, ⟨xt, xk, xv, xs⟩, false, ⟨yt, yk, yv, ys⟩⟩ = true := rfl
    rw [e]
    go_enter Try.func39, Try.ntmps39
    go_wp2_with fail
    go_ret
    exact ⟨rfl, by go_grown⟩
  · have e : nthB ⟨false, ⟨xt, xk, xv, xs⟩, true, ⟨yt, yk, yv, ys⟩⟩ = false := rfl
    rw [e]
    go_enter Try.func39, Try.ntmps39
    go_wp2_with fail
    go_ret
    exact ⟨rfl, by go_grown⟩
  · have e : nthB ⟨true, ⟨xt, xk, xv, xs⟩, false, ⟨yt, yk, yv, ys⟩⟩ = false := rfl
    rw [e]
    go_enter Try.func39, Try.ntmps39
    go_wp2_with fail
    go_ret
    exact ⟨rfl, by go_grown⟩
  · have e : nthB ⟨true, ⟨xt, xk, xv, xs⟩, true, ⟨yt, yk, yv, ys⟩⟩ = rwEq ⟨xt, xk, xv, xs⟩ ⟨yt, yk, yv, ys⟩ := rfl
    rw [e]
    by_cases ht : xt = yt
    · subst ht
      by_cases hk : xk = yk
      · subst hk
        by_cases hv : xv = yv
        · subst hv
          by_cases hs : xs = ys
          · subst hs
            have e2 : rwEq ⟨xt, xk, xv, xs⟩ ⟨xt, xk, xv, xs⟩ = true := by simp [rwEq]
            rw [e2]
            clear e e2
            go_enter Try.func39, Try.ntmps39
            go_wp2_with fail
            go_ret
            exact ⟨rfl, by go_grown⟩
          · have e2 : rwEq ⟨xt, xk, xv, xs⟩ ⟨xt, xk, xv, ys⟩ = false := by simp [rwEq, hs]
            have d : ¬ xs.toList = ys.toList := fun h => hs (by rw [ByteArray.toList_eq, ByteArray.toList_eq] at h; exact ByteArray.ext (Array.toList_inj.1 h))
            rw [e2]
            clear e e2
            go_enter Try.func39, Try.ntmps39
            go_wp2_with fail
            go_ret
            exact ⟨rfl, by go_grown⟩
        · have e2 : rwEq ⟨xt, xk, xv, xs⟩ ⟨xt, xk, yv, ys⟩ = false := by simp [rwEq, hv]
          have d : (xv == yv) = false := by simpa using hv
          rw [e2]
          clear e e2
          go_enter Try.func39, Try.ntmps39
          go_wp2_with fail
          go_ret
          exact ⟨rfl, by go_grown⟩
      · have e2 : rwEq ⟨xt, xk, xv, xs⟩ ⟨xt, yk, yv, ys⟩ = false := by simp [rwEq, hk]
        have d : (xk == yk) = false := by simpa using hk
        rw [e2]
        clear e e2
        go_enter Try.func39, Try.ntmps39
        go_wp2_with fail
        go_ret
        exact ⟨rfl, by go_grown⟩
    · have e2 : rwEq ⟨xt, xk, xv, xs⟩ ⟨yt, yk, yv, ys⟩ = false := by simp [rwEq, ht]
      have d : (xt == yt) = false := by simpa using ht
      rw [e2]
      clear e e2
      go_enter Try.func39, Try.ntmps39
      go_wp2_with fail
      go_ret
      exact ⟨rfl, by go_grown⟩

end Go.Proofs.Ytmbllmhpnopbdaa

/-
  Changes alone: their codes and keys (plain facts).
-/
namespace Go.Proofs.Ytmbllmhpnopbdaa
open Go.RowKit
set_option linter.unusedVariables false

def chQ (c : Chg) : Int := if (!c.was && !c.is || c.was && c.is && (!(decide (c.b.t = c.a.t) && decide (c.b.k = c.a.k)))) = true then 1 else if c.was = true ∧ rwF c.b ≠ 0 then rwF c.b else if c.is = true then rwF c.a else 0
def kT (c : Chg) : Int := if c.is = true then c.a.t else c.b.t
def kK (c : Chg) : Int := if c.is = true then c.a.k else c.b.k
theorem chQ_zero {c : Chg} (h : chQ c = 0) : (c.was = true ∨ c.is = true) ∧ (c.was = true → c.is = true → c.b.t = c.a.t ∧ c.b.k = c.a.k) ∧ (c.was = true → rwF c.b = 0) ∧ (c.is = true → rwF c.a = 0) := by
  unfold chQ at h
  split at h
  · exact absurd h (by decide)
  · rename_i h1
    split at h
    · rename_i h2; exact absurd h h2.2
    · rename_i h2
      have h3 : ¬ ((!c.was && !c.is || c.was && c.is && (!(decide (c.b.t = c.a.t) && decide (c.b.k = c.a.k)))) = true) := h1
      refine ⟨?_, ?_, ?_, ?_⟩
      · cases hw : c.was <;> cases hi : c.is <;> simp [hw, hi] at h3 ⊢
      · intro hw hi
        simp [hw, hi] at h3
        exact h3
      · intro hw
        by_cases e : rwF c.b = 0
        · exact e
        · exact absurd ⟨hw, e⟩ h2
      · intro hi
        rw [if_pos hi] at h
        exact h
theorem rwF_zero {r : Rw} (h : rwF r = 0) : (0 ≤ r.t ∧ r.t ≤ 3) ∧ (1 ≤ r.k ∧ r.k ≤ 99) := by
  unfold rwF faultI at h
  split at h
  · rename_i hb
    simp only [rngB, inW, Bool.and_eq_true, decide_eq_true_eq] at hb
    omega
  · exact absurd h (by decide)
def alQ (c : Chg) : Int := if chQ c = 0 then (if nthB c = true then 1 else 0) else chQ c
theorem alQ_zero {c : Chg} (h : alQ c = 0) : chQ c = 0 ∧ nthB c = false := by
  unfold alQ at h
  split at h
  · next h0 =>
    refine ⟨h0, ?_⟩
    split at h
    · cases h
    · next h1 => simpa using h1
  · next h0 => exact absurd h h0
theorem alQ_key {c : Chg} (h : alQ c = 0) : (0 ≤ kT c ∧ kT c ≤ 3) ∧ (1 ≤ kK c ∧ kK c ≤ 99) := by
  obtain ⟨h1, h2, h3, h4⟩ := chQ_zero (alQ_zero h).1
  unfold kT kK
  by_cases hi : c.is = true
  · rw [if_pos hi, if_pos hi]; exact rwF_zero (h4 hi)
  · rw [if_neg hi, if_neg hi]
    exact rwF_zero (h3 (h1.resolve_right hi))
set_option maxHeartbeats 400000 in
theorem keyOf_any (t k v : Int) (st : ByteArray) (w : World) :
    Calls Try.prog 45 #[.agg #[.int .i64 t, .int .i64 k, .int .i64 v, .string st]] w fun e w' => e = .returned (.agg #[.int .i64 t, .int .i64 k]) ∧ Below w.heap.size w w' := by
  go_enter Try.func45, Try.ntmps45
  go_wp2
  go_returns
  exact ⟨rfl, by go_grown⟩


end Go.Proofs.Ytmbllmhpnopbdaa
