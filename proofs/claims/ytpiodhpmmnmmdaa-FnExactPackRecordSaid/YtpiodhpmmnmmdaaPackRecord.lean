/-
  The law FnExactPackRecord at every argument: the call answers true, and each argument reads behind it as it read before. No condition.
-/
import Derived.Test.YtpiodhpmmnmmdaaLawH
import Derived.ProofKit
import Derived.OpenShut
import Derived.Lib.SmallJoins
namespace Go.Proofs.Ytpiodhpmmnmmdaa
open Go.ChangeShapes Go.WideShapes Go.ChangeAt Go.RowKit Go.Joins
set_option linter.unusedVariables false

theorem ownFnExactPackRecord : ownKnob Try.prog.godebug = none := by kernel_rfl
theorem laidOutFnExactPackRecord : laidOutB Try.prog = true := by kernel_rfl

set_option maxRecDepth 100000 in
theorem liftedFnExactPackRecord (os : Os) (started : os.Started) (H : Type) (enc : TypeId × Value → H) :
    ReturnsInHanded {} Try.checked os 4 .any (Rows.fnExactPackRecordSpec.pre6 enc Try.prog Try.f4 Rows.fnExactPackRecordRow.domain false) (Rows.fnExactPackRecordSpec.post enc Try.prog Try.f4 false true false false) := by
  refine returnsInHanded_of_change (C := Try.checked) ownFnExactPackRecord started (by kernel_rfl) Try.func4
    (ChangeSpec.witness6 (enc := enc) (C := Try.checked) false ⟨#[], #[.agg #[.int .i64 0, .int .i64 0, .int .i64 0, .slice none 0 0]], []⟩ 8 (by kernel_rfl) (by kernel_rfl) (by kernel_rfl) (by kernel_rfl)) ?_
  intro W base args ds gs before hval0 hW hcnd _
  have hval : ∀ (j : Nat) t v, Try.f4.params[j]? = some t → args[j]? = some v → Value.okWide Try.prog W .any base t v := hval0
  have hW' := hW
  obtain ⟨p, q, hA0, hV, rfl, hfz, hnd⟩ := hW
  have hA : DataW.TrodAll enc Try.prog W 0 (fun _ => true) true Try.f4.params.toList args.toList ds p := hA0
  rw [Try.params4] at hA hval
  obtain ⟨v0, vs0, d0, ds0, p0, q0, hargs, rfl, rfl, h0, r0⟩ := trodAll_cons hA
  obtain ⟨rfl, rfl, rfl⟩ := trodAll_nil r0
  obtain rfl : args = #[v0] := by cases args; simp_all
  obtain ⟨rfl, rfl⟩ := trodVars_none hV
  have k0 := h0
  have lt0 : ∀ x ∈ p0, x.block < W.heap.size := by obtain ⟨m, hm⟩ := k0; exact DataW.trod_lt m _ _ _ hm
  obtain ⟨t0, l0, x0, a0, len0, cap0, P0, A0, C0, Z0, rfl, w0⟩ : ∃ t l x a len cap P A C Z, v0 = Value.agg #[.int .i64 t, .int .i64 l, .int .i64 x, .slice a len cap] ∧ IsRuns W a len P A C Z := by
    obtain ⟨c0, c1, c2, c3, y0, y1, y2, y3, m, hv, _, _, g0, g1, g2, g3⟩ := open_agg4 Try.underlying24 (by kernel_rfl) (by kernel_rfl) (hval 0 24 v0 rfl rfl) h0
    obtain ⟨t, e0, _, _⟩ := DataW.trod_int Try.underlying2 g0
    obtain ⟨l, e1, _, _⟩ := DataW.trod_int Try.underlying2 g1
    obtain ⟨x, e2, _, _⟩ := DataW.trod_int Try.underlying2 g2
    obtain ⟨a, len, cap, P, A, C, Z, e3, hr⟩ := open_runs_any g3
    simp only [List.cons.injEq, and_true] at e0 e1 e2 e3
    subst e0 e1 e2 e3
    exact ⟨t, l, x, a, len, cap, P, A, C, Z, hv, hr⟩
  clear hA0 hval0
  refine (lawPackRecord_any t0 l0 x0 a0 len0 cap0 P0 A0 C0 Z0 W w0).mono fun e W' ⟨he, bel⟩ => ?_
  subst he
  exact ⟨_, rfl, _, _, _, [], _, [], hW', trodAll_mk1 (shut_bool Try.underlying4 _), (trodAll_cons_mk (Below.trod laidOutFnExactPackRecord (by kernel_rfl) (of_decide_eq_true (by kernel_rfl)) k0 bel lt0) trodAll_mk0), rfl, bel.frame _, fun h => by cases h⟩

theorem overFnExactPackRecord : Rows.fnExactPackRecordRow.holds Try.pinned (OpenSpec.ofChange Rows.fnExactPackRecordSpec) :=
  OpenClaim.holds_of_wide 4 Try.f4 rfl rfl rfl rfl rfl rfl rfl ⟨rfl, rfl, rfl, rfl, rfl⟩ rfl rfl rfl rfl rfl (by kernel_rfl) Try.func4 (by kernel_rfl)
    (of_decide_eq_true (by kernel_rfl)) (by unfold Func.isWrapper; rw [if_neg (of_decide_eq_false (by kernel_rfl))]; exact ⟨rfl, rfl⟩)
    (fun os started H enc _ => liftedFnExactPackRecord os started H enc)

theorem fnExactPackRecord_holds : Rows.FnExactPackRecordSaid := overFnExactPackRecord
#print axioms fnExactPackRecord_holds
end Go.Proofs.Ytpiodhpmmnmmdaa
