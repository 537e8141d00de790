/-
  The law FnExactApplyRecord at every argument: the call answers true, and each argument reads behind it as it read before. No condition.
-/
import Derived.Test.YteebbaleejbodaaARLawAR
import Derived.ProofKit
import Derived.OpenShut
import Derived.Lib.SmallJoins

namespace Go.Proofs.Yteebbaleejbodaa
open Go.ChangeShapes Go.WideShapes Go.ChangeAt Go.RowKit Go.Joins
set_option linter.unusedVariables false

theorem ownFnExactApplyRecord : ownKnob Try.prog.godebug = none := by kernel_rfl
theorem laidOutFnExactApplyRecord : laidOutB Try.prog = true := by kernel_rfl

set_option maxRecDepth 100000 in
theorem liftedFnExactApplyRecord (os : Os) (started : os.Started) (H : Type) (enc : TypeId × Value → H) :
    ReturnsInHanded {} Try.checked os 6 .any (Rows.fnExactApplyRecordSpec.pre6 enc Try.prog Try.f6 Rows.fnExactApplyRecordRow.domain false) (Rows.fnExactApplyRecordSpec.post enc Try.prog Try.f6 false true false false) := by
  refine returnsInHanded_of_change (C := Try.checked) ownFnExactApplyRecord started (by kernel_rfl) Try.func6
    (ChangeSpec.witness6 (enc := enc) (C := Try.checked) false ⟨#[], #[.slice none 0 0, .agg #[.int .i64 0, .int .i64 0, .int .i64 0, .slice none 0 0]], []⟩ 8 (by kernel_rfl) (by kernel_rfl) (by kernel_rfl) (by kernel_rfl)) ?_
  intro W base args ds gs before hval0 hW hcnd _
  have hval : ∀ (j : Nat) t v, Try.f6.params[j]? = some t → args[j]? = some v → Value.okWide Try.prog W .any base t v := hval0
  have hW' := hW
  obtain ⟨p, q, hA0, hV, rfl, hfz, hnd⟩ := hW
  have hA : DataW.TrodAll enc Try.prog W 0 (fun _ => true) true Try.f6.params.toList args.toList ds p := hA0
  rw [Try.params6] at hA hval
  obtain ⟨v0, vs0, d0, ds0, p0, q0, hargs, rfl, rfl, h0, r0⟩ := trodAll_cons hA
  obtain ⟨v1, vs1, d1, ds1, p1, q1, rfl, rfl, rfl, h1, r1⟩ := trodAll_cons r0
  obtain ⟨rfl, rfl, rfl⟩ := trodAll_nil r1
  obtain rfl : args = #[v0, v1] := by cases args; simp_all
  obtain ⟨rfl, rfl⟩ := trodVars_none hV
  obtain ⟨a0, len0, cap0, rfl⟩ := okWide_slice Try.underlying35 (hval 0 35 v0 rfl rfl)
  have k0 := h0
  have lt0 : ∀ x ∈ p0, x.block < W.heap.size := by obtain ⟨m, hm⟩ := k0; exact DataW.trod_lt m _ _ _ hm
  obtain ⟨R0, w0⟩ : ∃ R, IsPages W a0 len0 R := by
    obtain ⟨fuel, hf⟩ := h0
    exact open_pages hf
  have k1 := h1
  have lt1 : ∀ x ∈ p1, x.block < W.heap.size := by obtain ⟨m, hm⟩ := k1; exact DataW.trod_lt m _ _ _ hm
  obtain ⟨t1, l1, x1, a1, len1, cap1, P1, A1, C1, Z1, rfl, w1⟩ : ∃ t l x a len cap P A C Z, v1 = Value.agg #[.int .i64 t, .int .i64 l, .int .i64 x, .slice a len cap] ∧ IsRuns W a len P A C Z := by
    obtain ⟨c0, c1, c2, c3, y0, y1, y2, y3, m, hv, _, _, g0, g1, g2, g3⟩ := open_agg4 Try.underlying58 (by kernel_rfl) (by kernel_rfl) (hval 1 58 v1 rfl rfl) h1
    obtain ⟨t, e0, _, _⟩ := DataW.trod_int Try.underlying2 g0
    obtain ⟨l, e1, _, _⟩ := DataW.trod_int Try.underlying2 g1
    obtain ⟨x, e2, _, _⟩ := DataW.trod_int Try.underlying2 g2
    obtain ⟨a, len, cap, P, A, C, Z, e3, hr⟩ := open_runs_any g3
    simp only [List.cons.injEq, and_true] at e0 e1 e2 e3
    subst e0 e1 e2 e3
    exact ⟨t, l, x, a, len, cap, P, A, C, Z, hv, hr⟩
  clear hA0 hval0
  refine (lawApplyRecord_any a0 len0 cap0 R0 t1 l1 x1 a1 len1 cap1 P1 A1 C1 Z1 W w0 w1).mono fun e W' ⟨he, bel⟩ => ?_
  subst he
  exact ⟨_, rfl, _, _, _, [], _, [], hW', trodAll_mk1 (shut_bool Try.underlying4 _), (trodAll_cons_mk (Below.trod laidOutFnExactApplyRecord (by kernel_rfl) (of_decide_eq_true (by kernel_rfl)) k0 bel lt0) (trodAll_cons_mk (Below.trod laidOutFnExactApplyRecord (by kernel_rfl) (of_decide_eq_true (by kernel_rfl)) k1 bel lt1) trodAll_mk0)), rfl, bel.frame _, fun h => by cases h⟩

theorem overFnExactApplyRecord : Rows.fnExactApplyRecordRow.holds Try.pinned (OpenSpec.ofChange Rows.fnExactApplyRecordSpec) :=
  OpenClaim.holds_of_wide 6 Try.f6 rfl rfl rfl rfl rfl rfl rfl ⟨rfl, rfl, rfl, rfl, rfl⟩ rfl rfl rfl rfl rfl (by kernel_rfl) Try.func6 (by kernel_rfl)
    (of_decide_eq_true (by kernel_rfl)) (by unfold Func.isWrapper; rw [if_neg (of_decide_eq_false (by kernel_rfl))]; exact ⟨rfl, rfl⟩)
    (fun os started H enc _ => liftedFnExactApplyRecord os started H enc)

theorem fnExactApplyRecord_holds : Rows.FnExactApplyRecordSaid := overFnExactApplyRecord
#print axioms fnExactApplyRecord_holds
end Go.Proofs.Yteebbaleejbodaa
