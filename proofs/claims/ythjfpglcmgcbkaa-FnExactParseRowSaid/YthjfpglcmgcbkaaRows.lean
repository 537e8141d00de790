/-
  No cell of these rows narrows 'for every input' (looked for: loops, veiled, ifaces, maps, wideKeys, modest, calm, conditions, laid).
  DERIVED. THE GIVEN ROWS OF THIS SEAT. 7 by the template 'for every input the law returns true; each argument reads behind the call as it read before'; 0 by the template 'total and deterministic' (their statements: YthjfpglcmgcbkaaTotals.lean).
  GIVEN WITH THE SEED: the statements are not yours to turn. If you find one false, say at which input.
  Laid BY PROGRAM, IN A SANDBOX (cutbox-rows.mjs): the forced cells as the released guide's own fill.sh prints them over the translation 04de12bf65b84891… (all of the seat's roots in one cut). By AI agents, Wed Nov 11 2026. No macro, syntax, notation, axiom, sorry.
-/
import Derived.Test.YthjfpglcmgcbkaaChecked
import GoSem.Claim
import GoSem.ClaimJoined
import GoSem.ClaimMapViews
import Derived.JoinedTies
import Derived.KernelRfl
namespace Go.Proofs.Ythjfpglcmgcbkaa
/- THE CELL 'sum', in the pinned program and in every row, IS THE sha256 OF THE DUMP (.gsa) THAT YthjfpglcmgcbkaaProg.lean LOADS. Nothing in Lean hashes anything: it is a label: what it is worth is what the hold of that sum in a sandbox is worth. -/
noncomputable def Try.pinned : Pinned := { name := "ythjfpglcmgcbkaa", sum := "04de12bf65b848913f312922206644519c5718fff436100257c4cf47b07c5f6b", checked := Try.checked }
namespace Rows
def none {H : Type} : Left H := { results := [], args := [] }

/-- 'laws.FnCells': WHATEVER THE INPUT: true; the input reads as it did. -/
def fnCellsSpec : ChangeSpec := { name := "fnCells", fn := fun _ => fun
  | [d] => { results := [.lit (.bool true)], args := [d] }
  | _ => none }
def fnCellsRow : OpenClaim := { program := "ythjfpglcmgcbkaa", sum := "04de12bf65b848913f312922206644519c5718fff436100257c4cf47b07c5f6b", func := "loop.example/g00408/laws.FnCells", spec := "fnCells", apart := false }
def FnCellsSaid : Prop := fnCellsRow.holds Try.pinned (OpenSpec.ofChange fnCellsSpec)

/-- ITS FALSE NEIGHBOUR: 'it returns false'. Refute it at one input. -/
def fnCellsWrong : ChangeSpec := { name := "fnCells", fn := fun _ => fun
  | [d] => { results := [.lit (.bool false)], args := [d] }
  | _ => none }
def FnCellsWrongFalsely : Prop := fnCellsRow.holds Try.pinned (OpenSpec.ofChange fnCellsWrong)

/-- 'laws.FnExactRowFault': WHATEVER THE INPUT: true; the input reads as it did. -/
def fnExactRowFaultSpec : ChangeSpec := { name := "fnExactRowFault", fn := fun _ => fun
  | [d] => { results := [.lit (.bool true)], args := [d] }
  | _ => none }
def fnExactRowFaultRow : OpenClaim := { program := "ythjfpglcmgcbkaa", sum := "04de12bf65b848913f312922206644519c5718fff436100257c4cf47b07c5f6b", func := "loop.example/g00408/laws.FnExactRowFault", spec := "fnExactRowFault", apart := false }
def FnExactRowFaultSaid : Prop := fnExactRowFaultRow.holds Try.pinned (OpenSpec.ofChange fnExactRowFaultSpec)

/-- ITS FALSE NEIGHBOUR: 'it returns false'. Refute it at one input. -/
def fnExactRowFaultWrong : ChangeSpec := { name := "fnExactRowFault", fn := fun _ => fun
  | [d] => { results := [.lit (.bool false)], args := [d] }
  | _ => none }
def FnExactRowFaultWrongFalsely : Prop := fnExactRowFaultRow.holds Try.pinned (OpenSpec.ofChange fnExactRowFaultWrong)

/-- 'laws.FnExactIsBefore': WHATEVER THE INPUT: true; the input reads as it did. -/
def fnExactIsBeforeSpec : ChangeSpec := { name := "fnExactIsBefore", fn := fun _ => fun
  | [d1, d2] => { results := [.lit (.bool true)], args := [d1, d2] }
  | _ => none }
def fnExactIsBeforeRow : OpenClaim := { program := "ythjfpglcmgcbkaa", sum := "04de12bf65b848913f312922206644519c5718fff436100257c4cf47b07c5f6b", func := "loop.example/g00408/laws.FnExactIsBefore", spec := "fnExactIsBefore", apart := false }
def FnExactIsBeforeSaid : Prop := fnExactIsBeforeRow.holds Try.pinned (OpenSpec.ofChange fnExactIsBeforeSpec)

/-- ITS FALSE NEIGHBOUR: 'it returns false'. Refute it at one input. -/
def fnExactIsBeforeWrong : ChangeSpec := { name := "fnExactIsBefore", fn := fun _ => fun
  | [d1, d2] => { results := [.lit (.bool false)], args := [d1, d2] }
  | _ => none }
def FnExactIsBeforeWrongFalsely : Prop := fnExactIsBeforeRow.holds Try.pinned (OpenSpec.ofChange fnExactIsBeforeWrong)

/-- 'laws.FnExactPackRow': WHATEVER THE INPUT: true; the input reads as it did. -/
def fnExactPackRowSpec : ChangeSpec := { name := "fnExactPackRow", fn := fun _ => fun
  | [d1, d2] => { results := [.lit (.bool true)], args := [d1, d2] }
  | _ => none }
def fnExactPackRowRow : OpenClaim := { program := "ythjfpglcmgcbkaa", sum := "04de12bf65b848913f312922206644519c5718fff436100257c4cf47b07c5f6b", func := "loop.example/g00408/laws.FnExactPackRow", spec := "fnExactPackRow", apart := false }
def FnExactPackRowSaid : Prop := fnExactPackRowRow.holds Try.pinned (OpenSpec.ofChange fnExactPackRowSpec)

/-- ITS FALSE NEIGHBOUR: 'it returns false'. Refute it at one input. -/
def fnExactPackRowWrong : ChangeSpec := { name := "fnExactPackRow", fn := fun _ => fun
  | [d1, d2] => { results := [.lit (.bool false)], args := [d1, d2] }
  | _ => none }
def FnExactPackRowWrongFalsely : Prop := fnExactPackRowRow.holds Try.pinned (OpenSpec.ofChange fnExactPackRowWrong)

/-- 'laws.FnExactPackStub': WHATEVER THE INPUT: true; the input reads as it did. -/
def fnExactPackStubSpec : ChangeSpec := { name := "fnExactPackStub", fn := fun _ => fun
  | [d1, d2] => { results := [.lit (.bool true)], args := [d1, d2] }
  | _ => none }
def fnExactPackStubRow : OpenClaim := { program := "ythjfpglcmgcbkaa", sum := "04de12bf65b848913f312922206644519c5718fff436100257c4cf47b07c5f6b", func := "loop.example/g00408/laws.FnExactPackStub", spec := "fnExactPackStub", apart := false }
def FnExactPackStubSaid : Prop := fnExactPackStubRow.holds Try.pinned (OpenSpec.ofChange fnExactPackStubSpec)

/-- ITS FALSE NEIGHBOUR: 'it returns false'. Refute it at one input. -/
def fnExactPackStubWrong : ChangeSpec := { name := "fnExactPackStub", fn := fun _ => fun
  | [d1, d2] => { results := [.lit (.bool false)], args := [d1, d2] }
  | _ => none }
def FnExactPackStubWrongFalsely : Prop := fnExactPackStubRow.holds Try.pinned (OpenSpec.ofChange fnExactPackStubWrong)

/-- 'laws.FnExactUnpackCell': WHATEVER THE INPUT: true; the input reads as it did. -/
def fnExactUnpackCellSpec : ChangeSpec := { name := "fnExactUnpackCell", fn := fun _ => fun
  | [d] => { results := [.lit (.bool true)], args := [d] }
  | _ => none }
def fnExactUnpackCellRow : OpenClaim := { program := "ythjfpglcmgcbkaa", sum := "04de12bf65b848913f312922206644519c5718fff436100257c4cf47b07c5f6b", func := "loop.example/g00408/laws.FnExactUnpackCell", spec := "fnExactUnpackCell", apart := false }
def FnExactUnpackCellSaid : Prop := fnExactUnpackCellRow.holds Try.pinned (OpenSpec.ofChange fnExactUnpackCellSpec)

/-- ITS FALSE NEIGHBOUR: 'it returns false'. Refute it at one input. -/
def fnExactUnpackCellWrong : ChangeSpec := { name := "fnExactUnpackCell", fn := fun _ => fun
  | [d] => { results := [.lit (.bool false)], args := [d] }
  | _ => none }
def FnExactUnpackCellWrongFalsely : Prop := fnExactUnpackCellRow.holds Try.pinned (OpenSpec.ofChange fnExactUnpackCellWrong)

/-- 'laws.FnExactParseRow': WHATEVER THE INPUT: true; the input reads as it did. -/
def fnExactParseRowSpec : ChangeSpec := { name := "fnExactParseRow", fn := fun _ => fun
  | [d] => { results := [.lit (.bool true)], args := [d] }
  | _ => none }
def fnExactParseRowRow : OpenClaim := { program := "ythjfpglcmgcbkaa", sum := "04de12bf65b848913f312922206644519c5718fff436100257c4cf47b07c5f6b", func := "loop.example/g00408/laws.FnExactParseRow", spec := "fnExactParseRow", apart := false }
def FnExactParseRowSaid : Prop := fnExactParseRowRow.holds Try.pinned (OpenSpec.ofChange fnExactParseRowSpec)

/-- ITS FALSE NEIGHBOUR: 'it returns false'. Refute it at one input. -/
def fnExactParseRowWrong : ChangeSpec := { name := "fnExactParseRow", fn := fun _ => fun
  | [d] => { results := [.lit (.bool false)], args := [d] }
  | _ => none }
def FnExactParseRowWrongFalsely : Prop := fnExactParseRowRow.holds Try.pinned (OpenSpec.ofChange fnExactParseRowWrong)

/- THE SECOND FORM. 'bulk': how many values and letters a reading holds, each counted each time it is reached (what is shared counts as often as it is met; a slice's spare places count too). A statement '..UptoSaid' is the law's where the arguments, and the package variables that the reading takes, are together of bulk at most 1048576: NARROWER than '..Said'. Prove '..Said' where nothing that the law and all that it calls make is longer than what came in: it says more and counts as full. Else prove '..UptoSaid'. A law counts once. -/
mutual
def uptoBulk {H : Type} : DataW H → Nat
  | .lit (.string bytes) => bytes.length + 1
  | .lit _ => 1
  | .nil => 1
  | .ptr d => uptoBulk d + 1
  | .slice elems spare => uptoBulkAll elems + uptoBulkAll spare + 1
  | .agg parts => uptoBulkAll parts + 1
  | .iface _ d => uptoBulk d + 1
  | .map entries => uptoBulkEntries entries + 1
  | .held _ => 1
def uptoBulkAll {H : Type} : List (DataW H) → Nat
  | [] => 0
  | d :: r => uptoBulk d + uptoBulkAll r
def uptoBulkEntries {H : Type} : List (Lit × DataW H) → Nat
  | [] => 0
  | x :: r => uptoBulkEntry x + uptoBulkEntries r
def uptoBulkEntry {H : Type} : Lit × DataW H → Nat
  | (.string bytes, d) => bytes.length + uptoBulk d + 1
  | (_, d) => uptoBulk d + 1
 end
def uptoSmall : (H : Type) → List (DataW H) → Bool := fun _ ds => decide (uptoBulkAll ds ≤ 1048576)
def OpenSpec.upto (s : _root_.Go.ChangeSpec) : _root_.Go.OpenSpec := { _root_.Go.OpenSpec.ofChange s with cond := some uptoSmall }

/-- 'laws.FnCells', WHERE WHAT IT READS IS OF BULK AT MOST 1048576: true; the input reads as it did. -/
def fnCellsUptoRow : OpenClaim := { program := "ythjfpglcmgcbkaa", sum := "04de12bf65b848913f312922206644519c5718fff436100257c4cf47b07c5f6b", func := "loop.example/g00408/laws.FnCells", spec := "fnCells", apart := false, narrowed := true }
def FnCellsUptoSaid : Prop := fnCellsUptoRow.holds Try.pinned (OpenSpec.upto fnCellsSpec)

/-- 'laws.FnExactRowFault', WHERE WHAT IT READS IS OF BULK AT MOST 1048576: true; the input reads as it did. -/
def fnExactRowFaultUptoRow : OpenClaim := { program := "ythjfpglcmgcbkaa", sum := "04de12bf65b848913f312922206644519c5718fff436100257c4cf47b07c5f6b", func := "loop.example/g00408/laws.FnExactRowFault", spec := "fnExactRowFault", apart := false, narrowed := true }
def FnExactRowFaultUptoSaid : Prop := fnExactRowFaultUptoRow.holds Try.pinned (OpenSpec.upto fnExactRowFaultSpec)

/-- 'laws.FnExactIsBefore', WHERE WHAT IT READS IS OF BULK AT MOST 1048576: true; the input reads as it did. -/
def fnExactIsBeforeUptoRow : OpenClaim := { program := "ythjfpglcmgcbkaa", sum := "04de12bf65b848913f312922206644519c5718fff436100257c4cf47b07c5f6b", func := "loop.example/g00408/laws.FnExactIsBefore", spec := "fnExactIsBefore", apart := false, narrowed := true }
def FnExactIsBeforeUptoSaid : Prop := fnExactIsBeforeUptoRow.holds Try.pinned (OpenSpec.upto fnExactIsBeforeSpec)

/-- 'laws.FnExactPackRow', WHERE WHAT IT READS IS OF BULK AT MOST 1048576: true; the input reads as it did. -/
def fnExactPackRowUptoRow : OpenClaim := { program := "ythjfpglcmgcbkaa", sum := "04de12bf65b848913f312922206644519c5718fff436100257c4cf47b07c5f6b", func := "loop.example/g00408/laws.FnExactPackRow", spec := "fnExactPackRow", apart := false, narrowed := true }
def FnExactPackRowUptoSaid : Prop := fnExactPackRowUptoRow.holds Try.pinned (OpenSpec.upto fnExactPackRowSpec)

/-- 'laws.FnExactPackStub', WHERE WHAT IT READS IS OF BULK AT MOST 1048576: true; the input reads as it did. -/
def fnExactPackStubUptoRow : OpenClaim := { program := "ythjfpglcmgcbkaa", sum := "04de12bf65b848913f312922206644519c5718fff436100257c4cf47b07c5f6b", func := "loop.example/g00408/laws.FnExactPackStub", spec := "fnExactPackStub", apart := false, narrowed := true }
def FnExactPackStubUptoSaid : Prop := fnExactPackStubUptoRow.holds Try.pinned (OpenSpec.upto fnExactPackStubSpec)

/-- 'laws.FnExactUnpackCell', WHERE WHAT IT READS IS OF BULK AT MOST 1048576: true; the input reads as it did. -/
def fnExactUnpackCellUptoRow : OpenClaim := { program := "ythjfpglcmgcbkaa", sum := "04de12bf65b848913f312922206644519c5718fff436100257c4cf47b07c5f6b", func := "loop.example/g00408/laws.FnExactUnpackCell", spec := "fnExactUnpackCell", apart := false, narrowed := true }
def FnExactUnpackCellUptoSaid : Prop := fnExactUnpackCellUptoRow.holds Try.pinned (OpenSpec.upto fnExactUnpackCellSpec)

/-- 'laws.FnExactParseRow', WHERE WHAT IT READS IS OF BULK AT MOST 1048576: true; the input reads as it did. -/
def fnExactParseRowUptoRow : OpenClaim := { program := "ythjfpglcmgcbkaa", sum := "04de12bf65b848913f312922206644519c5718fff436100257c4cf47b07c5f6b", func := "loop.example/g00408/laws.FnExactParseRow", spec := "fnExactParseRow", apart := false, narrowed := true }
def FnExactParseRowUptoSaid : Prop := fnExactParseRowUptoRow.holds Try.pinned (OpenSpec.upto fnExactParseRowSpec)

end Rows
end Go.Proofs.Ythjfpglcmgcbkaa
