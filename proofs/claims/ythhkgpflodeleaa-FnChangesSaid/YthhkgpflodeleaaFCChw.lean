/-
  cmp.Or of codes; answers of ChangesOf compared, marked, looked through; isNoChange.
-/
import Derived.Test.YthhkgpflodeleaaFCChg

namespace Go.Proofs.Ythhkgpflodeleaa
open Go.RowKit
set_option linter.unusedVariables false

def orI (x y : Int) : Int := if x = 0 then y else x
set_option maxHeartbeats 400000 in
theorem or64_any (b : Nat) (x y : Int) (w : World) (h0 : w.cell? ⟨b, 0, none⟩ = some (.int .i64 x)) (h1 : w.cell? ⟨b, 1, none⟩ = some (.int .i64 y)) :
    Calls Try.prog 17 #[.slice (some ⟨b, 0, none⟩) 2 2] w fun e w' => e = .returned (.int .i64 (orI x y)) ∧ w' = w := by
  by_cases hx : x = 0
  · subst hx
    by_cases hy : y = 0
    · subst hy
      have e : orI 0 0 = 0 := rfl
      rw [e]
      clear e
      go_enter Try.func17, Try.ntmps17
      go_wp2_with fail
      refine wp_loop_rounds 3 ?_
      rw [rounds_succ]
      go_wp2_with fail
      rw [rounds_succ]
      go_wp2_with fail
      rw [rounds_succ]
      go_wp2_with fail
      go_ret
      exact ⟨rfl, rfl⟩
    · have e : orI 0 y = y := rfl
      rw [e]
      clear e
      go_enter Try.func17, Try.ntmps17
      go_wp2_with fail
      refine wp_loop_rounds 3 ?_
      rw [rounds_succ]
      go_wp2_with fail
      rw [rounds_succ]
      go_wp2_with fail
      go_ret
      exact ⟨rfl, rfl⟩
  · have e : orI x y = x := by unfold orI; simp [hx]
    rw [e]
    clear e
    go_enter Try.func17, Try.ntmps17
    go_wp2_with fail
    refine wp_loop_rounds 3 ?_
    rw [rounds_succ]
    go_wp2_with fail
    go_ret
    exact ⟨rfl, rfl⟩

/-- Whether a change is none. -/
def noC (x : Chg) : Prop := x.was = true ∧ x.is = true ∧ x.b = x.a

end Go.Proofs.Ythhkgpflodeleaa

/-
  isNothing.
-/
namespace Go.Proofs.Ythhkgpflodeleaa
open Go.RowKit
set_option linter.unusedVariables false

def rwEq (a b : Rw) : Bool := (a.t == b.t) && (a.k == b.k) && (a.v == b.v) && decide (a.s = b.s)
def noB (x : Chg) : Bool := x.was && x.is && rwEq x.b x.a

/-- A change that is nothing. -/
def nthB (x : Chg) : Bool := (x.was == x.is) && (!x.was || rwEq x.b x.a)
theorem nthB_no {x : Chg} (h : x.was = true ∨ x.is = true) : nthB x = noB x := by
  obtain ⟨w, b, i, a⟩ := x
  unfold nthB noB
  cases w <;> cases i <;> simp at h ⊢

set_option maxRecDepth 20000 in
set_option maxHeartbeats 1000000 in
theorem isNothing_any (x0 : Bool) (xt xk xv : Int) (xs : ByteArray) (x5 : Bool) (yt yk yv : Int) (ys : ByteArray) (w : World) :
    Calls Try.prog 38 #[.agg #[.bool x0, .int .i64 xt, .int .i64 xk, .int .i64 xv, .string xs, .bool x5, .int .i64 yt, .int .i64 yk, .int .i64 yv, .string ys]] w fun e w' => e = .returned (.bool (nthB ⟨x0, ⟨xt, xk, xv, xs⟩, x5, ⟨yt, yk, yv, ys⟩⟩)) ∧ Below w.heap.size w w' := by
  cases x0 <;> cases x5
  · have e : nthB ⟨false, ⟨xt, xk, xv, xs⟩, false, ⟨yt, yk, yv, ys⟩⟩ = true := rfl
    rw [e]
    go_enter Try.func38, Try.ntmps38
    go_wp2_with fail
    go_ret
    exact ⟨rfl, by go_grown⟩
  · have e : nthB ⟨false, ⟨xt, xk, xv, xs⟩, true, ⟨yt, yk, yv, ys⟩⟩ = false := rfl
    rw [e]
    go_enter Try.func38, Try.ntmps38
    go_wp2_with fail
    go_ret
    exact ⟨rfl, by go_grown⟩
  · have e : nthB ⟨true, ⟨xt, xk, xv, xs⟩, false, ⟨yt, yk, yv, ys⟩⟩ = false := rfl
    rw [e]
    go_enter Try.func38, Try.ntmps38
    go_wp2_with fail
    go_ret
    exact ⟨rfl, by go_grown⟩
  · have e : nthB ⟨true, ⟨xt, xk, xv, xs⟩, true, ⟨yt, yk, yv, ys⟩⟩ = rwEq ⟨xt, xk, xv, xs⟩ ⟨yt, yk, yv, ys⟩ := rfl
    rw [e]
    by_cases ht : xt = yt
    · subst ht
      by_cases hk : xk = yk
      · subst hk
        by_cases hv : xv = yv
        · subst hv
          by_cases hs : xs = ys
          · subst hs
            have e2 : rwEq ⟨xt, xk, xv, xs⟩ ⟨xt, xk, xv, xs⟩ = true := by simp [rwEq]
            rw [e2]
            clear e e2
            go_enter Try.func38, Try.ntmps38
            go_wp2_with fail
            go_ret
            exact ⟨rfl, by go_grown⟩
          · have e2 : rwEq ⟨xt, xk, xv, xs⟩ ⟨xt, xk, xv, ys⟩ = false := by simp [rwEq, hs]
            have d : ¬ xs.toList = ys.toList := fun h => hs (by rw [ByteArray.toList_eq, ByteArray.toList_eq] at h; exact ByteArray.ext (Array.toList_inj.1 h))
            rw [e2]
            clear e e2
            go_enter Try.func38, Try.ntmps38
            go_wp2_with fail
            go_ret
            exact ⟨rfl, by go_grown⟩
        · have e2 : rwEq ⟨xt, xk, xv, xs⟩ ⟨xt, xk, yv, ys⟩ = false := by simp [rwEq, hv]
          have d : (xv == yv) = false := by simpa using hv
          rw [e2]
          clear e e2
          go_enter Try.func38, Try.ntmps38
          go_wp2_with fail
          go_ret
          exact ⟨rfl, by go_grown⟩
      · have e2 : rwEq ⟨xt, xk, xv, xs⟩ ⟨xt, yk, yv, ys⟩ = false := by simp [rwEq, hk]
        have d : (xk == yk) = false := by simpa using hk
        rw [e2]
        clear e e2
        go_enter Try.func38, Try.ntmps38
        go_wp2_with fail
        go_ret
        exact ⟨rfl, by go_grown⟩
    · have e2 : rwEq ⟨xt, xk, xv, xs⟩ ⟨yt, yk, yv, ys⟩ = false := by simp [rwEq, ht]
      have d : (xt == yt) = false := by simpa using ht
      rw [e2]
      clear e e2
      go_enter Try.func38, Try.ntmps38
      go_wp2_with fail
      go_ret
      exact ⟨rfl, by go_grown⟩

end Go.Proofs.Ythhkgpflodeleaa
