/-
  No cell of these rows narrows 'for every input' (looked for: loops, veiled, ifaces, maps, wideKeys, modest, calm, conditions, laid).
  DERIVED. THE GIVEN ROWS OF THIS SEAT. 4 by the template 'for every input the law returns true; each argument reads behind the call as it read before'; 0 by the template 'total and deterministic' (their statements: YtmboclfgldgefaaTotals.lean).
  GIVEN WITH THE SEED: the statements are not yours to turn. If you find one false, say at which input.
  Laid BY PROGRAM, IN A SANDBOX (cutbox-rows.mjs): the forced cells as the released guide's own fill.sh prints them over the translation 62a0f40b490ac732… (all of the seat's roots in one cut). By AI agents, Wed Nov 11 2026. No macro, syntax, notation, axiom, sorry.
-/
import Derived.Test.YtmboclfgldgefaaChecked
import GoSem.Claim
import GoSem.ClaimJoined
import GoSem.ClaimMapViews
import Derived.JoinedTies
import Derived.KernelRfl
namespace Go.Proofs.Ytmboclfgldgefaa
/- THE CELL 'sum', in the pinned program and in every row, IS THE sha256 OF THE DUMP (.gsa) THAT YtmboclfgldgefaaProg.lean LOADS. Nothing in Lean hashes anything: it is a label: what it is worth is what the hold of that sum in a sandbox is worth. -/
noncomputable def Try.pinned : Pinned := { name := "ytmboclfgldgefaa", sum := "62a0f40b490ac7327f808c0b596991ddddac62380fce0b4850039042fff1038f", checked := Try.checked }
namespace Rows
def none {H : Type} : Left H := { results := [], args := [] }

/-- 'laws.FnChanges': WHATEVER THE INPUT: true; the input reads as it did. -/
def fnChangesSpec : ChangeSpec := { name := "fnChanges", fn := fun _ => fun
  | [d] => { results := [.lit (.bool true)], args := [d] }
  | _ => none }
def fnChangesRow : OpenClaim := { program := "ytmboclfgldgefaa", sum := "62a0f40b490ac7327f808c0b596991ddddac62380fce0b4850039042fff1038f", func := "loop.example/g00408/laws.FnChanges", spec := "fnChanges", unfollowed := true, recurses := true, plainKeys := false, apart := false }
def FnChangesSaid : Prop := fnChangesRow.holds Try.pinned (OpenSpec.ofChange fnChangesSpec)

/-- ITS FALSE NEIGHBOUR: 'it returns false'. Refute it at one input. -/
def fnChangesWrong : ChangeSpec := { name := "fnChanges", fn := fun _ => fun
  | [d] => { results := [.lit (.bool false)], args := [d] }
  | _ => none }
def FnChangesWrongFalsely : Prop := fnChangesRow.holds Try.pinned (OpenSpec.ofChange fnChangesWrong)

/-- 'laws.FnExactRoomOf': WHATEVER THE INPUT: true; the input reads as it did. -/
def fnExactRoomOfSpec : ChangeSpec := { name := "fnExactRoomOf", fn := fun _ => fun
  | [d1, d2] => { results := [.lit (.bool true)], args := [d1, d2] }
  | _ => none }
def fnExactRoomOfRow : OpenClaim := { program := "ytmboclfgldgefaa", sum := "62a0f40b490ac7327f808c0b596991ddddac62380fce0b4850039042fff1038f", func := "loop.example/g00408/laws.FnExactRoomOf", spec := "fnExactRoomOf", plainKeys := false, apart := false }
def FnExactRoomOfSaid : Prop := fnExactRoomOfRow.holds Try.pinned (OpenSpec.ofChange fnExactRoomOfSpec)

/-- ITS FALSE NEIGHBOUR: 'it returns false'. Refute it at one input. -/
def fnExactRoomOfWrong : ChangeSpec := { name := "fnExactRoomOf", fn := fun _ => fun
  | [d1, d2] => { results := [.lit (.bool false)], args := [d1, d2] }
  | _ => none }
def FnExactRoomOfWrongFalsely : Prop := fnExactRoomOfRow.holds Try.pinned (OpenSpec.ofChange fnExactRoomOfWrong)

/-- 'laws.FnExactNoteChange': WHATEVER THE INPUT: true; the input reads as it did. -/
def fnExactNoteChangeSpec : ChangeSpec := { name := "fnExactNoteChange", fn := fun _ => fun
  | [d1, d2, d3] => { results := [.lit (.bool true)], args := [d1, d2, d3] }
  | _ => none }
def fnExactNoteChangeRow : OpenClaim := { program := "ytmboclfgldgefaa", sum := "62a0f40b490ac7327f808c0b596991ddddac62380fce0b4850039042fff1038f", func := "loop.example/g00408/laws.FnExactNoteChange", spec := "fnExactNoteChange", unfollowed := true, recurses := true, plainKeys := false, apart := false }
def FnExactNoteChangeSaid : Prop := fnExactNoteChangeRow.holds Try.pinned (OpenSpec.ofChange fnExactNoteChangeSpec)

/-- ITS FALSE NEIGHBOUR: 'it returns false'. Refute it at one input. -/
def fnExactNoteChangeWrong : ChangeSpec := { name := "fnExactNoteChange", fn := fun _ => fun
  | [d1, d2, d3] => { results := [.lit (.bool false)], args := [d1, d2, d3] }
  | _ => none }
def FnExactNoteChangeWrongFalsely : Prop := fnExactNoteChangeRow.holds Try.pinned (OpenSpec.ofChange fnExactNoteChangeWrong)

/-- 'laws.FnExactNewPlain': WHATEVER THE INPUT: true; the input reads as it did. -/
def fnExactNewPlainSpec : ChangeSpec := { name := "fnExactNewPlain", fn := fun _ => fun
  | [d] => { results := [.lit (.bool true)], args := [d] }
  | _ => none }
def fnExactNewPlainRow : OpenClaim := { program := "ytmboclfgldgefaa", sum := "62a0f40b490ac7327f808c0b596991ddddac62380fce0b4850039042fff1038f", func := "loop.example/g00408/laws.FnExactNewPlain", spec := "fnExactNewPlain", unfollowed := true, recurses := true, plainKeys := false, apart := false }
def FnExactNewPlainSaid : Prop := fnExactNewPlainRow.holds Try.pinned (OpenSpec.ofChange fnExactNewPlainSpec)

/-- ITS FALSE NEIGHBOUR: 'it returns false'. Refute it at one input. -/
def fnExactNewPlainWrong : ChangeSpec := { name := "fnExactNewPlain", fn := fun _ => fun
  | [d] => { results := [.lit (.bool false)], args := [d] }
  | _ => none }
def FnExactNewPlainWrongFalsely : Prop := fnExactNewPlainRow.holds Try.pinned (OpenSpec.ofChange fnExactNewPlainWrong)

/- THE SECOND FORM. 'bulk': how many values and letters a reading holds, each counted each time it is reached (what is shared counts as often as it is met; a slice's spare places count too). A statement '..UptoSaid' is the law's where the arguments, and the package variables that the reading takes, are together of bulk at most 1048576: NARROWER than '..Said'. Prove '..Said' where nothing that the law and all that it calls make is longer than what came in: it says more and counts as full. Else prove '..UptoSaid'. A law counts once. -/
mutual
def uptoBulk {H : Type} : DataW H → Nat
  | .lit (.string bytes) => bytes.length + 1
  | .lit _ => 1
  | .nil => 1
  | .ptr d => uptoBulk d + 1
  | .slice elems spare => uptoBulkAll elems + uptoBulkAll spare + 1
  | .agg parts => uptoBulkAll parts + 1
  | .iface _ d => uptoBulk d + 1
  | .map entries => uptoBulkEntries entries + 1
  | .held _ => 1
def uptoBulkAll {H : Type} : List (DataW H) → Nat
  | [] => 0
  | d :: r => uptoBulk d + uptoBulkAll r
def uptoBulkEntries {H : Type} : List (Lit × DataW H) → Nat
  | [] => 0
  | x :: r => uptoBulkEntry x + uptoBulkEntries r
def uptoBulkEntry {H : Type} : Lit × DataW H → Nat
  | (.string bytes, d) => bytes.length + uptoBulk d + 1
  | (_, d) => uptoBulk d + 1
 end
def uptoSmall : (H : Type) → List (DataW H) → Bool := fun _ ds => decide (uptoBulkAll ds ≤ 1048576)
def OpenSpec.upto (s : _root_.Go.ChangeSpec) : _root_.Go.OpenSpec := { _root_.Go.OpenSpec.ofChange s with cond := some uptoSmall }

/-- 'laws.FnChanges', WHERE WHAT IT READS IS OF BULK AT MOST 1048576: true; the input reads as it did. -/
def fnChangesUptoRow : OpenClaim := { program := "ytmboclfgldgefaa", sum := "62a0f40b490ac7327f808c0b596991ddddac62380fce0b4850039042fff1038f", func := "loop.example/g00408/laws.FnChanges", spec := "fnChanges", unfollowed := true, recurses := true, plainKeys := false, apart := false, narrowed := true }
def FnChangesUptoSaid : Prop := fnChangesUptoRow.holds Try.pinned (OpenSpec.upto fnChangesSpec)

/-- 'laws.FnExactRoomOf', WHERE WHAT IT READS IS OF BULK AT MOST 1048576: true; the input reads as it did. -/
def fnExactRoomOfUptoRow : OpenClaim := { program := "ytmboclfgldgefaa", sum := "62a0f40b490ac7327f808c0b596991ddddac62380fce0b4850039042fff1038f", func := "loop.example/g00408/laws.FnExactRoomOf", spec := "fnExactRoomOf", plainKeys := false, apart := false, narrowed := true }
def FnExactRoomOfUptoSaid : Prop := fnExactRoomOfUptoRow.holds Try.pinned (OpenSpec.upto fnExactRoomOfSpec)

/-- 'laws.FnExactNoteChange', WHERE WHAT IT READS IS OF BULK AT MOST 1048576: true; the input reads as it did. -/
def fnExactNoteChangeUptoRow : OpenClaim := { program := "ytmboclfgldgefaa", sum := "62a0f40b490ac7327f808c0b596991ddddac62380fce0b4850039042fff1038f", func := "loop.example/g00408/laws.FnExactNoteChange", spec := "fnExactNoteChange", unfollowed := true, recurses := true, plainKeys := false, apart := false, narrowed := true }
def FnExactNoteChangeUptoSaid : Prop := fnExactNoteChangeUptoRow.holds Try.pinned (OpenSpec.upto fnExactNoteChangeSpec)

/-- 'laws.FnExactNewPlain', WHERE WHAT IT READS IS OF BULK AT MOST 1048576: true; the input reads as it did. -/
def fnExactNewPlainUptoRow : OpenClaim := { program := "ytmboclfgldgefaa", sum := "62a0f40b490ac7327f808c0b596991ddddac62380fce0b4850039042fff1038f", func := "loop.example/g00408/laws.FnExactNewPlain", spec := "fnExactNewPlain", unfollowed := true, recurses := true, plainKeys := false, apart := false, narrowed := true }
def FnExactNewPlainUptoSaid : Prop := fnExactNewPlainUptoRow.holds Try.pinned (OpenSpec.upto fnExactNewPlainSpec)

end Rows
end Go.Proofs.Ytmboclfgldgefaa
