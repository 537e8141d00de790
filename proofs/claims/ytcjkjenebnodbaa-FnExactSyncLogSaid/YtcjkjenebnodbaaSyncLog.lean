/-
  The law FnExactSyncLog at every argument: the call answers true, and each argument reads behind it as it read before. No condition.
-/
import Derived.Test.YtcjkjenebnodbaaLawSY
import Derived.ProofKit
import Derived.OpenShut
import Derived.Lib.SmallJoins
namespace Go.Proofs.Ytcjkjenebnodbaa
open Go.ChangeShapes Go.WideShapes Go.ChangeAt Go.RowKit Go.Joins
set_option linter.unusedVariables false

theorem ownFnExactSyncLog : ownKnob Try.prog.godebug = none := by kernel_rfl
theorem laidOutFnExactSyncLog : laidOutB Try.prog = true := by kernel_rfl

set_option maxRecDepth 100000 in
theorem liftedFnExactSyncLog (os : Os) (started : os.Started) (H : Type) (enc : TypeId × Value → H) :
    ReturnsInHanded {} Try.checked os 11 .any (Rows.fnExactSyncLogSpec.pre6 enc Try.prog Try.f11 Rows.fnExactSyncLogRow.domain false) (Rows.fnExactSyncLogSpec.post enc Try.prog Try.f11 false true false false) := by
  refine returnsInHanded_of_change (C := Try.checked) ownFnExactSyncLog started (by kernel_rfl) Try.func11
    (ChangeSpec.witness6 (enc := enc) (C := Try.checked) false ⟨#[], #[.agg #[.slice none 0 0, .slice none 0 0]], []⟩ 8 (by kernel_rfl) (by kernel_rfl) (by kernel_rfl) (by kernel_rfl)) ?_
  intro W base args ds gs before hval0 hW hcnd _
  have hval : ∀ (j : Nat) t v, Try.f11.params[j]? = some t → args[j]? = some v → Value.okWide Try.prog W .any base t v := hval0
  have hW' := hW
  obtain ⟨p, q, hA0, hV, rfl, hfz, hnd⟩ := hW
  have hA : DataW.TrodAll enc Try.prog W 0 (fun _ => true) true Try.f11.params.toList args.toList ds p := hA0
  rw [Try.params11] at hA hval
  obtain ⟨v0, vs0, d0, ds0, p0, q0, hargs, rfl, rfl, h0, r0⟩ := trodAll_cons hA
  obtain ⟨rfl, rfl, rfl⟩ := trodAll_nil r0
  obtain rfl : args = #[v0] := by cases args; simp_all
  obtain ⟨rfl, rfl⟩ := trodVars_none hV
  have k0 := h0
  have lt0 : ∀ x ∈ p0, x.block < W.heap.size := by obtain ⟨m, hm⟩ := k0; exact DataW.trod_lt m _ _ _ hm
  obtain ⟨a0, len0, cap0, z0, b0, lem0, dap0, y0, rfl, w0, u0⟩ : ∃ a len cap zs b lem dap ys, v0 = Value.agg #[.slice a len cap, .slice b lem dap] ∧ IsRow .u8 W a len cap zs ∧ IsRow .u8 W b lem dap ys := by
    obtain ⟨c0, c1, y0, y1, m, hv, _, _, g0, g1⟩ := open_agg2 Try.underlying72 (by kernel_rfl) (by kernel_rfl) (hval 0 72 v0 rfl rfl) h0
    obtain ⟨a, len, cap, zs, e0, r0⟩ := open_bytes_any g0
    obtain ⟨b, lem, dap, ys, e1, r1⟩ := open_bytes_any g1
    simp only [List.cons.injEq, and_true] at e0 e1
    subst e0 e1
    exact ⟨a, len, cap, zs, b, lem, dap, ys, hv, r0, r1⟩
  clear hA0 hval0
  refine (lawFnExactSyncLog_any a0 len0 cap0 z0 b0 lem0 dap0 y0 W w0 u0).mono fun e W' ⟨he, bel⟩ => ?_
  subst he
  exact ⟨_, rfl, _, _, _, [], _, [], hW', trodAll_mk1 (shut_bool Try.underlying4 _), (trodAll_cons_mk (Below.trod laidOutFnExactSyncLog (by kernel_rfl) (of_decide_eq_true (by kernel_rfl)) k0 bel lt0) trodAll_mk0), rfl, bel.frame _, fun h => by cases h⟩

theorem overFnExactSyncLog : Rows.fnExactSyncLogRow.holds Try.pinned (OpenSpec.ofChange Rows.fnExactSyncLogSpec) :=
  OpenClaim.holds_of_wide 11 Try.f11 rfl rfl rfl rfl rfl rfl rfl ⟨rfl, rfl, rfl, rfl, rfl⟩ rfl rfl rfl rfl rfl (by kernel_rfl) Try.func11 (by kernel_rfl)
    (of_decide_eq_true (by kernel_rfl)) (by unfold Func.isWrapper; rw [if_neg (of_decide_eq_false (by kernel_rfl))]; exact ⟨rfl, rfl⟩)
    (fun os started H enc _ => liftedFnExactSyncLog os started H enc)

theorem fnExactSyncLog_holds : Rows.FnExactSyncLogSaid := overFnExactSyncLog
#print axioms fnExactSyncLog_holds
end Go.Proofs.Ytcjkjenebnodbaa
