/-
  No cell of these rows narrows 'for every input' (looked for: loops, veiled, ifaces, maps, wideKeys, modest, calm, conditions, laid).
  DERIVED. THE GIVEN ROWS OF THIS SEAT. 5 by the template 'for every input the law returns true; each argument reads behind the call as it read before'; 0 by the template 'total and deterministic' (their statements: YteebbaleejbodaaTotals.lean).
  GIVEN WITH THE SEED: the statements are not yours to turn. If you find one false, say at which input.
  Laid BY PROGRAM, IN A SANDBOX (cutbox-rows.mjs): the forced cells as the released guide's own fill.sh prints them over the translation ddcf086933199904… (all of the seat's roots in one cut). By AI agents, Wed Nov 11 2026. No macro, syntax, notation, axiom, sorry.
-/
import Derived.Test.YteebbaleejbodaaChecked
import GoSem.Claim
import GoSem.ClaimJoined
import GoSem.ClaimMapViews
import Derived.JoinedTies
import Derived.KernelRfl
namespace Go.Proofs.Yteebbaleejbodaa
/- THE CELL 'sum', in the pinned program and in every row, IS THE sha256 OF THE DUMP (.gsa) THAT YteebbaleejbodaaProg.lean LOADS. Nothing in Lean hashes anything: it is a label: what it is worth is what the hold of that sum in a sandbox is worth. -/
noncomputable def Try.pinned : Pinned := { name := "yteebbaleejbodaa", sum := "ddcf086933199904dc2da75a87c0389d1c8e8c45e9bd3ef2119546087e5a9272", checked := Try.checked }
namespace Rows
def none {H : Type} : Left H := { results := [], args := [] }

/-- 'laws.FnExactChangesOf': WHATEVER THE INPUT: true; the input reads as it did. -/
def fnExactChangesOfSpec : ChangeSpec := { name := "fnExactChangesOf", fn := fun _ => fun
  | [d1, d2] => { results := [.lit (.bool true)], args := [d1, d2] }
  | _ => none }
def fnExactChangesOfRow : OpenClaim := { program := "yteebbaleejbodaa", sum := "ddcf086933199904dc2da75a87c0389d1c8e8c45e9bd3ef2119546087e5a9272", func := "loop.example/g00408/laws.FnExactChangesOf", spec := "fnExactChangesOf", unfollowed := true, recurses := true, plainKeys := false, apart := false }
def FnExactChangesOfSaid : Prop := fnExactChangesOfRow.holds Try.pinned (OpenSpec.ofChange fnExactChangesOfSpec)

/-- ITS FALSE NEIGHBOUR: 'it returns false'. Refute it at one input. -/
def fnExactChangesOfWrong : ChangeSpec := { name := "fnExactChangesOf", fn := fun _ => fun
  | [d1, d2] => { results := [.lit (.bool false)], args := [d1, d2] }
  | _ => none }
def FnExactChangesOfWrongFalsely : Prop := fnExactChangesOfRow.holds Try.pinned (OpenSpec.ofChange fnExactChangesOfWrong)

/-- 'laws.FnExactMinerFault': WHATEVER THE INPUT: true; the input reads as it did. -/
def fnExactMinerFaultSpec : ChangeSpec := { name := "fnExactMinerFault", fn := fun _ => fun
  | [d] => { results := [.lit (.bool true)], args := [d] }
  | _ => none }
def fnExactMinerFaultRow : OpenClaim := { program := "yteebbaleejbodaa", sum := "ddcf086933199904dc2da75a87c0389d1c8e8c45e9bd3ef2119546087e5a9272", func := "loop.example/g00408/laws.FnExactMinerFault", spec := "fnExactMinerFault", unfollowed := true, recurses := true, plainKeys := false, apart := false }
def FnExactMinerFaultSaid : Prop := fnExactMinerFaultRow.holds Try.pinned (OpenSpec.ofChange fnExactMinerFaultSpec)

/-- ITS FALSE NEIGHBOUR: 'it returns false'. Refute it at one input. -/
def fnExactMinerFaultWrong : ChangeSpec := { name := "fnExactMinerFault", fn := fun _ => fun
  | [d] => { results := [.lit (.bool false)], args := [d] }
  | _ => none }
def FnExactMinerFaultWrongFalsely : Prop := fnExactMinerFaultRow.holds Try.pinned (OpenSpec.ofChange fnExactMinerFaultWrong)

/-- 'laws.FnExactNewMiner': WHATEVER THE INPUT: true; the input reads as it did. -/
def fnExactNewMinerSpec : ChangeSpec := { name := "fnExactNewMiner", fn := fun _ => fun
  | [d] => { results := [.lit (.bool true)], args := [d] }
  | _ => none }
def fnExactNewMinerRow : OpenClaim := { program := "yteebbaleejbodaa", sum := "ddcf086933199904dc2da75a87c0389d1c8e8c45e9bd3ef2119546087e5a9272", func := "loop.example/g00408/laws.FnExactNewMiner", spec := "fnExactNewMiner", plainKeys := false, apart := false }
def FnExactNewMinerSaid : Prop := fnExactNewMinerRow.holds Try.pinned (OpenSpec.ofChange fnExactNewMinerSpec)

/-- ITS FALSE NEIGHBOUR: 'it returns false'. Refute it at one input. -/
def fnExactNewMinerWrong : ChangeSpec := { name := "fnExactNewMiner", fn := fun _ => fun
  | [d] => { results := [.lit (.bool false)], args := [d] }
  | _ => none }
def FnExactNewMinerWrongFalsely : Prop := fnExactNewMinerRow.holds Try.pinned (OpenSpec.ofChange fnExactNewMinerWrong)

/-- 'laws.FnExactApplyRecord': WHATEVER THE INPUT: true; the input reads as it did. -/
def fnExactApplyRecordSpec : ChangeSpec := { name := "fnExactApplyRecord", fn := fun _ => fun
  | [d1, d2] => { results := [.lit (.bool true)], args := [d1, d2] }
  | _ => none }
def fnExactApplyRecordRow : OpenClaim := { program := "yteebbaleejbodaa", sum := "ddcf086933199904dc2da75a87c0389d1c8e8c45e9bd3ef2119546087e5a9272", func := "loop.example/g00408/laws.FnExactApplyRecord", spec := "fnExactApplyRecord", plainKeys := false, apart := false }
def FnExactApplyRecordSaid : Prop := fnExactApplyRecordRow.holds Try.pinned (OpenSpec.ofChange fnExactApplyRecordSpec)

/-- ITS FALSE NEIGHBOUR: 'it returns false'. Refute it at one input. -/
def fnExactApplyRecordWrong : ChangeSpec := { name := "fnExactApplyRecord", fn := fun _ => fun
  | [d1, d2] => { results := [.lit (.bool false)], args := [d1, d2] }
  | _ => none }
def FnExactApplyRecordWrongFalsely : Prop := fnExactApplyRecordRow.holds Try.pinned (OpenSpec.ofChange fnExactApplyRecordWrong)

/-- 'laws.FnExactFoldChange': WHATEVER THE INPUT: true; the input reads as it did. -/
def fnExactFoldChangeSpec : ChangeSpec := { name := "fnExactFoldChange", fn := fun _ => fun
  | [d1, d2] => { results := [.lit (.bool true)], args := [d1, d2] }
  | _ => none }
def fnExactFoldChangeRow : OpenClaim := { program := "yteebbaleejbodaa", sum := "ddcf086933199904dc2da75a87c0389d1c8e8c45e9bd3ef2119546087e5a9272", func := "loop.example/g00408/laws.FnExactFoldChange", spec := "fnExactFoldChange", unfollowed := true, recurses := true, plainKeys := false, apart := false }
def FnExactFoldChangeSaid : Prop := fnExactFoldChangeRow.holds Try.pinned (OpenSpec.ofChange fnExactFoldChangeSpec)

/-- ITS FALSE NEIGHBOUR: 'it returns false'. Refute it at one input. -/
def fnExactFoldChangeWrong : ChangeSpec := { name := "fnExactFoldChange", fn := fun _ => fun
  | [d1, d2] => { results := [.lit (.bool false)], args := [d1, d2] }
  | _ => none }
def FnExactFoldChangeWrongFalsely : Prop := fnExactFoldChangeRow.holds Try.pinned (OpenSpec.ofChange fnExactFoldChangeWrong)

/- THE SECOND FORM. 'bulk': how many values and letters a reading holds, each counted each time it is reached (what is shared counts as often as it is met; a slice's spare places count too). A statement '..UptoSaid' is the law's where the arguments, and the package variables that the reading takes, are together of bulk at most 1048576: NARROWER than '..Said'. Prove '..Said' where nothing that the law and all that it calls make is longer than what came in: it says more and counts as full. Else prove '..UptoSaid'. A law counts once. -/
mutual
def uptoBulk {H : Type} : DataW H → Nat
  | .lit (.string bytes) => bytes.length + 1
  | .lit _ => 1
  | .nil => 1
  | .ptr d => uptoBulk d + 1
  | .slice elems spare => uptoBulkAll elems + uptoBulkAll spare + 1
  | .agg parts => uptoBulkAll parts + 1
  | .iface _ d => uptoBulk d + 1
  | .map entries => uptoBulkEntries entries + 1
  | .held _ => 1
def uptoBulkAll {H : Type} : List (DataW H) → Nat
  | [] => 0
  | d :: r => uptoBulk d + uptoBulkAll r
def uptoBulkEntries {H : Type} : List (Lit × DataW H) → Nat
  | [] => 0
  | x :: r => uptoBulkEntry x + uptoBulkEntries r
def uptoBulkEntry {H : Type} : Lit × DataW H → Nat
  | (.string bytes, d) => bytes.length + uptoBulk d + 1
  | (_, d) => uptoBulk d + 1
 end
def uptoSmall : (H : Type) → List (DataW H) → Bool := fun _ ds => decide (uptoBulkAll ds ≤ 1048576)
def OpenSpec.upto (s : _root_.Go.ChangeSpec) : _root_.Go.OpenSpec := { _root_.Go.OpenSpec.ofChange s with cond := some uptoSmall }

/-- 'laws.FnExactChangesOf', WHERE WHAT IT READS IS OF BULK AT MOST 1048576: true; the input reads as it did. -/
def fnExactChangesOfUptoRow : OpenClaim := { program := "yteebbaleejbodaa", sum := "ddcf086933199904dc2da75a87c0389d1c8e8c45e9bd3ef2119546087e5a9272", func := "loop.example/g00408/laws.FnExactChangesOf", spec := "fnExactChangesOf", unfollowed := true, recurses := true, plainKeys := false, apart := false, narrowed := true }
def FnExactChangesOfUptoSaid : Prop := fnExactChangesOfUptoRow.holds Try.pinned (OpenSpec.upto fnExactChangesOfSpec)

/-- 'laws.FnExactMinerFault', WHERE WHAT IT READS IS OF BULK AT MOST 1048576: true; the input reads as it did. -/
def fnExactMinerFaultUptoRow : OpenClaim := { program := "yteebbaleejbodaa", sum := "ddcf086933199904dc2da75a87c0389d1c8e8c45e9bd3ef2119546087e5a9272", func := "loop.example/g00408/laws.FnExactMinerFault", spec := "fnExactMinerFault", unfollowed := true, recurses := true, plainKeys := false, apart := false, narrowed := true }
def FnExactMinerFaultUptoSaid : Prop := fnExactMinerFaultUptoRow.holds Try.pinned (OpenSpec.upto fnExactMinerFaultSpec)

/-- 'laws.FnExactNewMiner', WHERE WHAT IT READS IS OF BULK AT MOST 1048576: true; the input reads as it did. -/
def fnExactNewMinerUptoRow : OpenClaim := { program := "yteebbaleejbodaa", sum := "ddcf086933199904dc2da75a87c0389d1c8e8c45e9bd3ef2119546087e5a9272", func := "loop.example/g00408/laws.FnExactNewMiner", spec := "fnExactNewMiner", plainKeys := false, apart := false, narrowed := true }
def FnExactNewMinerUptoSaid : Prop := fnExactNewMinerUptoRow.holds Try.pinned (OpenSpec.upto fnExactNewMinerSpec)

/-- 'laws.FnExactApplyRecord', WHERE WHAT IT READS IS OF BULK AT MOST 1048576: true; the input reads as it did. -/
def fnExactApplyRecordUptoRow : OpenClaim := { program := "yteebbaleejbodaa", sum := "ddcf086933199904dc2da75a87c0389d1c8e8c45e9bd3ef2119546087e5a9272", func := "loop.example/g00408/laws.FnExactApplyRecord", spec := "fnExactApplyRecord", plainKeys := false, apart := false, narrowed := true }
def FnExactApplyRecordUptoSaid : Prop := fnExactApplyRecordUptoRow.holds Try.pinned (OpenSpec.upto fnExactApplyRecordSpec)

/-- 'laws.FnExactFoldChange', WHERE WHAT IT READS IS OF BULK AT MOST 1048576: true; the input reads as it did. -/
def fnExactFoldChangeUptoRow : OpenClaim := { program := "yteebbaleejbodaa", sum := "ddcf086933199904dc2da75a87c0389d1c8e8c45e9bd3ef2119546087e5a9272", func := "loop.example/g00408/laws.FnExactFoldChange", spec := "fnExactFoldChange", unfollowed := true, recurses := true, plainKeys := false, apart := false, narrowed := true }
def FnExactFoldChangeUptoSaid : Prop := fnExactFoldChangeUptoRow.holds Try.pinned (OpenSpec.upto fnExactFoldChangeSpec)

end Rows
end Go.Proofs.Yteebbaleejbodaa
