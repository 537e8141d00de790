/-
  The law FnExactMinerFault at every argument: the call answers true, and each argument reads behind it as it read before. No condition.
-/
import Derived.Test.YtonngopnhpmjaaaELawMF
import Derived.ProofKit
import Derived.OpenShut
import Derived.Lib.SmallJoins

namespace Go.Proofs.Ytonngopnhpmjaaa
open Go.ChangeShapes Go.WideShapes Go.ChangeAt Go.RowKit Go.Joins
set_option linter.unusedVariables false

theorem ownFnExactMinerFault : ownKnob Try.prog.godebug = none := by kernel_rfl
theorem laidOutFnExactMinerFault : laidOutB Try.prog = true := by kernel_rfl

set_option maxRecDepth 100000 in
theorem liftedFnExactMinerFault (os : Os) (started : os.Started) (H : Type) (enc : TypeId × Value → H) :
    ReturnsInHanded {} Try.checked os 4 .any (Rows.fnExactMinerFaultSpec.pre6 enc Try.prog Try.f4 Rows.fnExactMinerFaultRow.domain false) (Rows.fnExactMinerFaultSpec.post enc Try.prog Try.f4 false true false false) := by
  refine returnsInHanded_of_change (C := Try.checked) ownFnExactMinerFault started (by kernel_rfl) Try.func4
    (ChangeSpec.witness6 (enc := enc) (C := Try.checked) false ⟨#[], #[.agg #[.slice none 0 0, .slice none 0 0]], []⟩ 8 (by kernel_rfl) (by kernel_rfl) (by kernel_rfl) (by kernel_rfl)) ?_
  intro W base args ds gs before hval0 hW hcnd _
  have hval : ∀ (j : Nat) t v, Try.f4.params[j]? = some t → args[j]? = some v → Value.okWide Try.prog W .any base t v := hval0
  have hW' := hW
  obtain ⟨p, q, hA0, hV, rfl, hfz, hnd⟩ := hW
  have hA : DataW.TrodAll enc Try.prog W 0 (fun _ => true) true Try.f4.params.toList args.toList ds p := hA0
  rw [Try.params4] at hA hval
  obtain ⟨v0, vs0, d0, ds0, p0, q0, hargs, rfl, rfl, h0, r0⟩ := trodAll_cons hA
  obtain ⟨rfl, rfl, rfl⟩ := trodAll_nil r0
  obtain rfl : args = #[v0] := by cases args; simp_all
  obtain ⟨rfl, rfl⟩ := trodVars_none hV
  have k0 := h0
  have lt0 : ∀ x ∈ p0, x.block < W.heap.size := by obtain ⟨m, hm⟩ := k0; exact DataW.trod_lt m _ _ _ hm
  obtain ⟨a0, len0, cap0, z0, b0, lem0, dap0, y0, rfl, w0⟩ : ∃ a len cap ps b lem dap bs, v0 = Value.agg #[.slice a len cap, .slice b lem dap] ∧ IsMiner W a len ps b lem bs := by
    obtain ⟨c0, c1, y0, y1, m, hv, _, _, g0, g1⟩ := open_agg2 Try.underlying38 (by kernel_rfl) (by kernel_rfl) (hval 0 38 v0 rfl rfl) h0
    obtain ⟨a, len, cap, e0⟩ := open_slice_form Try.underlying35 g0
    obtain ⟨b, lem, dap, e1⟩ := open_slice_form Try.underlying36 g1
    subst e0 e1
    obtain ⟨ps, hp⟩ := open_pages g0
    obtain ⟨bs, h1, h2, h3, h4⟩ := open_bufs g1
    exact ⟨a, len, cap, ps, b, lem, dap, bs, hv, hp, h1, h2, h3, h4⟩
  clear hA0 hval0
  refine (lawMinerFault_any a0 len0 cap0 z0 b0 lem0 dap0 y0 W w0).mono fun e W' ⟨he, bel⟩ => ?_
  subst he
  exact ⟨_, rfl, _, _, _, [], _, [], hW', trodAll_mk1 (shut_bool Try.underlying4 _), (trodAll_cons_mk (Below.trod laidOutFnExactMinerFault (by kernel_rfl) (of_decide_eq_true (by kernel_rfl)) k0 bel lt0) trodAll_mk0), rfl, bel.frame _, fun h => by cases h⟩

theorem overFnExactMinerFault : Rows.fnExactMinerFaultRow.holds Try.pinned (OpenSpec.ofChange Rows.fnExactMinerFaultSpec) :=
  OpenClaim.holds_of_wide 4 Try.f4 rfl rfl rfl rfl rfl rfl rfl ⟨rfl, rfl, rfl, rfl, rfl⟩ rfl rfl rfl rfl rfl (by kernel_rfl) Try.func4 (by kernel_rfl)
    (of_decide_eq_true (by kernel_rfl)) (by unfold Func.isWrapper; rw [if_neg (of_decide_eq_false (by kernel_rfl))]; exact ⟨rfl, rfl⟩)
    (fun os started H enc _ => liftedFnExactMinerFault os started H enc)

theorem fnExactMinerFault_holds : Rows.FnExactMinerFaultSaid := overFnExactMinerFault
#print axioms fnExactMinerFault_holds
end Go.Proofs.Ytonngopnhpmjaaa
