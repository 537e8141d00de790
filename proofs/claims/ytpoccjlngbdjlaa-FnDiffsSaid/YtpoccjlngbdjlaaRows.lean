/-
  No cell of these rows narrows 'for every input' (looked for: loops, veiled, ifaces, maps, wideKeys, modest, calm, conditions, laid).
  DERIVED. THE GIVEN ROWS OF THIS SEAT. 5 by the template 'for every input the law returns true; each argument reads behind the call as it read before'; 0 by the template 'total and deterministic' (their statements: YtpoccjlngbdjlaaTotals.lean).
  GIVEN WITH THE SEED: the statements are not yours to turn. If you find one false, say at which input.
  Laid BY PROGRAM, IN A SANDBOX (cutbox-rows.mjs): the forced cells as the released guide's own fill.sh prints them over the translation 8320d393a287af57… (all of the seat's roots in one cut). By AI agents, Wed Nov 11 2026. No macro, syntax, notation, axiom, sorry.
-/
import Derived.Test.YtpoccjlngbdjlaaChecked
import GoSem.Claim
import GoSem.ClaimJoined
import GoSem.ClaimMapViews
import Derived.JoinedTies
import Derived.KernelRfl
namespace Go.Proofs.Ytpoccjlngbdjlaa
/- THE CELL 'sum', in the pinned program and in every row, IS THE sha256 OF THE DUMP (.gsa) THAT YtpoccjlngbdjlaaProg.lean LOADS. Nothing in Lean hashes anything: it is a label: what it is worth is what the hold of that sum in a sandbox is worth. -/
noncomputable def Try.pinned : Pinned := { name := "ytpoccjlngbdjlaa", sum := "8320d393a287af57a97317566070d7451e749be9a43f9615a64fe0a0081c0711", checked := Try.checked }
namespace Rows
def none {H : Type} : Left H := { results := [], args := [] }

/-- 'laws.FnDiffs': WHATEVER THE INPUT: true; the input reads as it did. -/
def fnDiffsSpec : ChangeSpec := { name := "fnDiffs", fn := fun _ => fun
  | [d] => { results := [.lit (.bool true)], args := [d] }
  | _ => none }
def fnDiffsRow : OpenClaim := { program := "ytpoccjlngbdjlaa", sum := "8320d393a287af57a97317566070d7451e749be9a43f9615a64fe0a0081c0711", func := "loop.example/g00408/laws.FnDiffs", spec := "fnDiffs", unfollowed := true, recurses := true, apart := false }
def FnDiffsSaid : Prop := fnDiffsRow.holds Try.pinned (OpenSpec.ofChange fnDiffsSpec)

/-- ITS FALSE NEIGHBOUR: 'it returns false'. Refute it at one input. -/
def fnDiffsWrong : ChangeSpec := { name := "fnDiffs", fn := fun _ => fun
  | [d] => { results := [.lit (.bool false)], args := [d] }
  | _ => none }
def FnDiffsWrongFalsely : Prop := fnDiffsRow.holds Try.pinned (OpenSpec.ofChange fnDiffsWrong)

/-- 'laws.FnExactDiffBytes': WHATEVER THE INPUT: true; the input reads as it did. -/
def fnExactDiffBytesSpec : ChangeSpec := { name := "fnExactDiffBytes", fn := fun _ => fun
  | [d1, d2] => { results := [.lit (.bool true)], args := [d1, d2] }
  | _ => none }
def fnExactDiffBytesRow : OpenClaim := { program := "ytpoccjlngbdjlaa", sum := "8320d393a287af57a97317566070d7451e749be9a43f9615a64fe0a0081c0711", func := "loop.example/g00408/laws.FnExactDiffBytes", spec := "fnExactDiffBytes", unfollowed := true, recurses := true, apart := false }
def FnExactDiffBytesSaid : Prop := fnExactDiffBytesRow.holds Try.pinned (OpenSpec.ofChange fnExactDiffBytesSpec)

/-- ITS FALSE NEIGHBOUR: 'it returns false'. Refute it at one input. -/
def fnExactDiffBytesWrong : ChangeSpec := { name := "fnExactDiffBytes", fn := fun _ => fun
  | [d1, d2] => { results := [.lit (.bool false)], args := [d1, d2] }
  | _ => none }
def FnExactDiffBytesWrongFalsely : Prop := fnExactDiffBytesRow.holds Try.pinned (OpenSpec.ofChange fnExactDiffBytesWrong)

/-- 'laws.FnExactRunsFault': WHATEVER THE INPUT: true; the input reads as it did. -/
def fnExactRunsFaultSpec : ChangeSpec := { name := "fnExactRunsFault", fn := fun _ => fun
  | [d] => { results := [.lit (.bool true)], args := [d] }
  | _ => none }
def fnExactRunsFaultRow : OpenClaim := { program := "ytpoccjlngbdjlaa", sum := "8320d393a287af57a97317566070d7451e749be9a43f9615a64fe0a0081c0711", func := "loop.example/g00408/laws.FnExactRunsFault", spec := "fnExactRunsFault", apart := false }
def FnExactRunsFaultSaid : Prop := fnExactRunsFaultRow.holds Try.pinned (OpenSpec.ofChange fnExactRunsFaultSpec)

/-- ITS FALSE NEIGHBOUR: 'it returns false'. Refute it at one input. -/
def fnExactRunsFaultWrong : ChangeSpec := { name := "fnExactRunsFault", fn := fun _ => fun
  | [d] => { results := [.lit (.bool false)], args := [d] }
  | _ => none }
def FnExactRunsFaultWrongFalsely : Prop := fnExactRunsFaultRow.holds Try.pinned (OpenSpec.ofChange fnExactRunsFaultWrong)

/-- 'laws.FnExactApplyRuns': WHATEVER THE INPUT: true; the input reads as it did. -/
def fnExactApplyRunsSpec : ChangeSpec := { name := "fnExactApplyRuns", fn := fun _ => fun
  | [d1, d2] => { results := [.lit (.bool true)], args := [d1, d2] }
  | _ => none }
def fnExactApplyRunsRow : OpenClaim := { program := "ytpoccjlngbdjlaa", sum := "8320d393a287af57a97317566070d7451e749be9a43f9615a64fe0a0081c0711", func := "loop.example/g00408/laws.FnExactApplyRuns", spec := "fnExactApplyRuns", apart := false }
def FnExactApplyRunsSaid : Prop := fnExactApplyRunsRow.holds Try.pinned (OpenSpec.ofChange fnExactApplyRunsSpec)

/-- ITS FALSE NEIGHBOUR: 'it returns false'. Refute it at one input. -/
def fnExactApplyRunsWrong : ChangeSpec := { name := "fnExactApplyRuns", fn := fun _ => fun
  | [d1, d2] => { results := [.lit (.bool false)], args := [d1, d2] }
  | _ => none }
def FnExactApplyRunsWrongFalsely : Prop := fnExactApplyRunsRow.holds Try.pinned (OpenSpec.ofChange fnExactApplyRunsWrong)

/-- 'laws.FnExactInverseRuns': WHATEVER THE INPUT: true; the input reads as it did. -/
def fnExactInverseRunsSpec : ChangeSpec := { name := "fnExactInverseRuns", fn := fun _ => fun
  | [d1, d2] => { results := [.lit (.bool true)], args := [d1, d2] }
  | _ => none }
def fnExactInverseRunsRow : OpenClaim := { program := "ytpoccjlngbdjlaa", sum := "8320d393a287af57a97317566070d7451e749be9a43f9615a64fe0a0081c0711", func := "loop.example/g00408/laws.FnExactInverseRuns", spec := "fnExactInverseRuns", unfollowed := true, recurses := true, apart := false }
def FnExactInverseRunsSaid : Prop := fnExactInverseRunsRow.holds Try.pinned (OpenSpec.ofChange fnExactInverseRunsSpec)

/-- ITS FALSE NEIGHBOUR: 'it returns false'. Refute it at one input. -/
def fnExactInverseRunsWrong : ChangeSpec := { name := "fnExactInverseRuns", fn := fun _ => fun
  | [d1, d2] => { results := [.lit (.bool false)], args := [d1, d2] }
  | _ => none }
def FnExactInverseRunsWrongFalsely : Prop := fnExactInverseRunsRow.holds Try.pinned (OpenSpec.ofChange fnExactInverseRunsWrong)

/- THE SECOND FORM. 'bulk': how many values and letters a reading holds, each counted each time it is reached (what is shared counts as often as it is met; a slice's spare places count too). A statement '..UptoSaid' is the law's where the arguments, and the package variables that the reading takes, are together of bulk at most 1048576: NARROWER than '..Said'. Prove '..Said' where nothing that the law and all that it calls make is longer than what came in: it says more and counts as full. Else prove '..UptoSaid'. A law counts once. -/
mutual
def uptoBulk {H : Type} : DataW H → Nat
  | .lit (.string bytes) => bytes.length + 1
  | .lit _ => 1
  | .nil => 1
  | .ptr d => uptoBulk d + 1
  | .slice elems spare => uptoBulkAll elems + uptoBulkAll spare + 1
  | .agg parts => uptoBulkAll parts + 1
  | .iface _ d => uptoBulk d + 1
  | .map entries => uptoBulkEntries entries + 1
  | .held _ => 1
def uptoBulkAll {H : Type} : List (DataW H) → Nat
  | [] => 0
  | d :: r => uptoBulk d + uptoBulkAll r
def uptoBulkEntries {H : Type} : List (Lit × DataW H) → Nat
  | [] => 0
  | x :: r => uptoBulkEntry x + uptoBulkEntries r
def uptoBulkEntry {H : Type} : Lit × DataW H → Nat
  | (.string bytes, d) => bytes.length + uptoBulk d + 1
  | (_, d) => uptoBulk d + 1
 end
def uptoSmall : (H : Type) → List (DataW H) → Bool := fun _ ds => decide (uptoBulkAll ds ≤ 1048576)
def OpenSpec.upto (s : _root_.Go.ChangeSpec) : _root_.Go.OpenSpec := { _root_.Go.OpenSpec.ofChange s with cond := some uptoSmall }

/-- 'laws.FnDiffs', WHERE WHAT IT READS IS OF BULK AT MOST 1048576: true; the input reads as it did. -/
def fnDiffsUptoRow : OpenClaim := { program := "ytpoccjlngbdjlaa", sum := "8320d393a287af57a97317566070d7451e749be9a43f9615a64fe0a0081c0711", func := "loop.example/g00408/laws.FnDiffs", spec := "fnDiffs", unfollowed := true, recurses := true, apart := false, narrowed := true }
def FnDiffsUptoSaid : Prop := fnDiffsUptoRow.holds Try.pinned (OpenSpec.upto fnDiffsSpec)

/-- 'laws.FnExactDiffBytes', WHERE WHAT IT READS IS OF BULK AT MOST 1048576: true; the input reads as it did. -/
def fnExactDiffBytesUptoRow : OpenClaim := { program := "ytpoccjlngbdjlaa", sum := "8320d393a287af57a97317566070d7451e749be9a43f9615a64fe0a0081c0711", func := "loop.example/g00408/laws.FnExactDiffBytes", spec := "fnExactDiffBytes", unfollowed := true, recurses := true, apart := false, narrowed := true }
def FnExactDiffBytesUptoSaid : Prop := fnExactDiffBytesUptoRow.holds Try.pinned (OpenSpec.upto fnExactDiffBytesSpec)

/-- 'laws.FnExactRunsFault', WHERE WHAT IT READS IS OF BULK AT MOST 1048576: true; the input reads as it did. -/
def fnExactRunsFaultUptoRow : OpenClaim := { program := "ytpoccjlngbdjlaa", sum := "8320d393a287af57a97317566070d7451e749be9a43f9615a64fe0a0081c0711", func := "loop.example/g00408/laws.FnExactRunsFault", spec := "fnExactRunsFault", apart := false, narrowed := true }
def FnExactRunsFaultUptoSaid : Prop := fnExactRunsFaultUptoRow.holds Try.pinned (OpenSpec.upto fnExactRunsFaultSpec)

/-- 'laws.FnExactApplyRuns', WHERE WHAT IT READS IS OF BULK AT MOST 1048576: true; the input reads as it did. -/
def fnExactApplyRunsUptoRow : OpenClaim := { program := "ytpoccjlngbdjlaa", sum := "8320d393a287af57a97317566070d7451e749be9a43f9615a64fe0a0081c0711", func := "loop.example/g00408/laws.FnExactApplyRuns", spec := "fnExactApplyRuns", apart := false, narrowed := true }
def FnExactApplyRunsUptoSaid : Prop := fnExactApplyRunsUptoRow.holds Try.pinned (OpenSpec.upto fnExactApplyRunsSpec)

/-- 'laws.FnExactInverseRuns', WHERE WHAT IT READS IS OF BULK AT MOST 1048576: true; the input reads as it did. -/
def fnExactInverseRunsUptoRow : OpenClaim := { program := "ytpoccjlngbdjlaa", sum := "8320d393a287af57a97317566070d7451e749be9a43f9615a64fe0a0081c0711", func := "loop.example/g00408/laws.FnExactInverseRuns", spec := "fnExactInverseRuns", unfollowed := true, recurses := true, apart := false, narrowed := true }
def FnExactInverseRunsUptoSaid : Prop := fnExactInverseRunsUptoRow.holds Try.pinned (OpenSpec.upto fnExactInverseRunsSpec)

end Rows
end Go.Proofs.Ytpoccjlngbdjlaa
