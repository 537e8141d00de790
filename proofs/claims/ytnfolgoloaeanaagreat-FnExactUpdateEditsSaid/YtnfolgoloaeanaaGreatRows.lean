/-
  No cell of these rows narrows 'for every input' (looked for: loops, veiled, ifaces, maps, wideKeys, modest, calm, conditions, laid).
  DERIVED. THE GIVEN ROWS OF THIS SEAT. 7 by the template 'for every input the law returns true; each argument reads behind the call as it read before'; 0 by the template 'total and deterministic' (their statements: YtnfolgoloaeanaaGreatTotals.lean).
  GIVEN WITH THE SEED: the statements are not yours to turn. If you find one false, say at which input.
  Laid BY PROGRAM, IN A SANDBOX (cutbox-rows.mjs): the forced cells as the released guide's own fill.sh prints them over the translation 31206291441c13b2… (all of the seat's roots in one cut). By AI agents, Wed Nov 11 2026. No macro, syntax, notation, axiom, sorry.
-/
import Derived.Test.YtnfolgoloaeanaaGreatChecked
import GoSem.Claim
import GoSem.ClaimJoined
import GoSem.ClaimMapViews
import Derived.JoinedTies
import Derived.KernelRfl
namespace Go.Proofs.YtnfolgoloaeanaaGreat
/- THE CELL 'sum', in the pinned program and in every row, IS THE sha256 OF THE DUMP (.gsa) THAT YtnfolgoloaeanaaGreatProg.lean LOADS. Nothing in Lean hashes anything: it is a label: what it is worth is what the hold of that sum in a sandbox is worth. -/
noncomputable def Tryz.pinned : Pinned := { name := "ytnfolgoloaeanaagreat", sum := "31206291441c13b2c4ac2b1f686496929b20843253ac216e16bbcc3c4e72200e", checked := Tryz.checked }
namespace Rows
def none {H : Type} : Left H := { results := [], args := [] }

/-- 'laws.FnInserts': WHATEVER THE INPUT: true; the input reads as it did. -/
def fnInsertsSpec : ChangeSpec := { name := "fnInserts", fn := fun _ => fun
  | [d] => { results := [.lit (.bool true)], args := [d] }
  | _ => none }
def fnInsertsRow : OpenClaim := { program := "ytnfolgoloaeanaagreat", sum := "31206291441c13b2c4ac2b1f686496929b20843253ac216e16bbcc3c4e72200e", func := "loop.example/g00408/laws.FnInserts", spec := "fnInserts", unfollowed := true, recurses := true, plainKeys := false, apart := false }
def FnInsertsSaid : Prop := fnInsertsRow.holds Tryz.pinned (OpenSpec.ofChange fnInsertsSpec)

/-- ITS FALSE NEIGHBOUR: 'it returns false'. Refute it at one input. -/
def fnInsertsWrong : ChangeSpec := { name := "fnInserts", fn := fun _ => fun
  | [d] => { results := [.lit (.bool false)], args := [d] }
  | _ => none }
def FnInsertsWrongFalsely : Prop := fnInsertsRow.holds Tryz.pinned (OpenSpec.ofChange fnInsertsWrong)

/-- 'laws.FnUpdates': WHATEVER THE INPUT: true; the input reads as it did. -/
def fnUpdatesSpec : ChangeSpec := { name := "fnUpdates", fn := fun _ => fun
  | [d] => { results := [.lit (.bool true)], args := [d] }
  | _ => none }
def fnUpdatesRow : OpenClaim := { program := "ytnfolgoloaeanaagreat", sum := "31206291441c13b2c4ac2b1f686496929b20843253ac216e16bbcc3c4e72200e", func := "loop.example/g00408/laws.FnUpdates", spec := "fnUpdates", unfollowed := true, recurses := true, plainKeys := false, apart := false }
def FnUpdatesSaid : Prop := fnUpdatesRow.holds Tryz.pinned (OpenSpec.ofChange fnUpdatesSpec)

/-- ITS FALSE NEIGHBOUR: 'it returns false'. Refute it at one input. -/
def fnUpdatesWrong : ChangeSpec := { name := "fnUpdates", fn := fun _ => fun
  | [d] => { results := [.lit (.bool false)], args := [d] }
  | _ => none }
def FnUpdatesWrongFalsely : Prop := fnUpdatesRow.holds Tryz.pinned (OpenSpec.ofChange fnUpdatesWrong)

/-- 'laws.FnDeletes': WHATEVER THE INPUT: true; the input reads as it did. -/
def fnDeletesSpec : ChangeSpec := { name := "fnDeletes", fn := fun _ => fun
  | [d] => { results := [.lit (.bool true)], args := [d] }
  | _ => none }
def fnDeletesRow : OpenClaim := { program := "ytnfolgoloaeanaagreat", sum := "31206291441c13b2c4ac2b1f686496929b20843253ac216e16bbcc3c4e72200e", func := "loop.example/g00408/laws.FnDeletes", spec := "fnDeletes", unfollowed := true, recurses := true, plainKeys := false, apart := false }
def FnDeletesSaid : Prop := fnDeletesRow.holds Tryz.pinned (OpenSpec.ofChange fnDeletesSpec)

/-- ITS FALSE NEIGHBOUR: 'it returns false'. Refute it at one input. -/
def fnDeletesWrong : ChangeSpec := { name := "fnDeletes", fn := fun _ => fun
  | [d] => { results := [.lit (.bool false)], args := [d] }
  | _ => none }
def FnDeletesWrongFalsely : Prop := fnDeletesRow.holds Tryz.pinned (OpenSpec.ofChange fnDeletesWrong)

/-- 'laws.FnEdits': WHATEVER THE INPUT: true; the input reads as it did. -/
def fnEditsSpec : ChangeSpec := { name := "fnEdits", fn := fun _ => fun
  | [d] => { results := [.lit (.bool true)], args := [d] }
  | _ => none }
def fnEditsRow : OpenClaim := { program := "ytnfolgoloaeanaagreat", sum := "31206291441c13b2c4ac2b1f686496929b20843253ac216e16bbcc3c4e72200e", func := "loop.example/g00408/laws.FnEdits", spec := "fnEdits", unfollowed := true, recurses := true, plainKeys := false, apart := false }
def FnEditsSaid : Prop := fnEditsRow.holds Tryz.pinned (OpenSpec.ofChange fnEditsSpec)

/-- ITS FALSE NEIGHBOUR: 'it returns false'. Refute it at one input. -/
def fnEditsWrong : ChangeSpec := { name := "fnEdits", fn := fun _ => fun
  | [d] => { results := [.lit (.bool false)], args := [d] }
  | _ => none }
def FnEditsWrongFalsely : Prop := fnEditsRow.holds Tryz.pinned (OpenSpec.ofChange fnEditsWrong)

/-- 'laws.FnExactInsertEdits': WHATEVER THE INPUT: true; the input reads as it did. -/
def fnExactInsertEditsSpec : ChangeSpec := { name := "fnExactInsertEdits", fn := fun _ => fun
  | [d1, d2] => { results := [.lit (.bool true)], args := [d1, d2] }
  | _ => none }
def fnExactInsertEditsRow : OpenClaim := { program := "ytnfolgoloaeanaagreat", sum := "31206291441c13b2c4ac2b1f686496929b20843253ac216e16bbcc3c4e72200e", func := "loop.example/g00408/laws.FnExactInsertEdits", spec := "fnExactInsertEdits", unfollowed := true, recurses := true, plainKeys := false, apart := false }
def FnExactInsertEditsSaid : Prop := fnExactInsertEditsRow.holds Tryz.pinned (OpenSpec.ofChange fnExactInsertEditsSpec)

/-- ITS FALSE NEIGHBOUR: 'it returns false'. Refute it at one input. -/
def fnExactInsertEditsWrong : ChangeSpec := { name := "fnExactInsertEdits", fn := fun _ => fun
  | [d1, d2] => { results := [.lit (.bool false)], args := [d1, d2] }
  | _ => none }
def FnExactInsertEditsWrongFalsely : Prop := fnExactInsertEditsRow.holds Tryz.pinned (OpenSpec.ofChange fnExactInsertEditsWrong)

/-- 'laws.FnExactUpdateEdits': WHATEVER THE INPUT: true; the input reads as it did. -/
def fnExactUpdateEditsSpec : ChangeSpec := { name := "fnExactUpdateEdits", fn := fun _ => fun
  | [d1, d2] => { results := [.lit (.bool true)], args := [d1, d2] }
  | _ => none }
def fnExactUpdateEditsRow : OpenClaim := { program := "ytnfolgoloaeanaagreat", sum := "31206291441c13b2c4ac2b1f686496929b20843253ac216e16bbcc3c4e72200e", func := "loop.example/g00408/laws.FnExactUpdateEdits", spec := "fnExactUpdateEdits", unfollowed := true, recurses := true, plainKeys := false, apart := false }
def FnExactUpdateEditsSaid : Prop := fnExactUpdateEditsRow.holds Tryz.pinned (OpenSpec.ofChange fnExactUpdateEditsSpec)

/-- ITS FALSE NEIGHBOUR: 'it returns false'. Refute it at one input. -/
def fnExactUpdateEditsWrong : ChangeSpec := { name := "fnExactUpdateEdits", fn := fun _ => fun
  | [d1, d2] => { results := [.lit (.bool false)], args := [d1, d2] }
  | _ => none }
def FnExactUpdateEditsWrongFalsely : Prop := fnExactUpdateEditsRow.holds Tryz.pinned (OpenSpec.ofChange fnExactUpdateEditsWrong)

/-- 'laws.FnExactEditsFor': WHATEVER THE INPUT: true; the input reads as it did. -/
def fnExactEditsForSpec : ChangeSpec := { name := "fnExactEditsFor", fn := fun _ => fun
  | [d1, d2] => { results := [.lit (.bool true)], args := [d1, d2] }
  | _ => none }
def fnExactEditsForRow : OpenClaim := { program := "ytnfolgoloaeanaagreat", sum := "31206291441c13b2c4ac2b1f686496929b20843253ac216e16bbcc3c4e72200e", func := "loop.example/g00408/laws.FnExactEditsFor", spec := "fnExactEditsFor", unfollowed := true, recurses := true, plainKeys := false, apart := false }
def FnExactEditsForSaid : Prop := fnExactEditsForRow.holds Tryz.pinned (OpenSpec.ofChange fnExactEditsForSpec)

/-- ITS FALSE NEIGHBOUR: 'it returns false'. Refute it at one input. -/
def fnExactEditsForWrong : ChangeSpec := { name := "fnExactEditsFor", fn := fun _ => fun
  | [d1, d2] => { results := [.lit (.bool false)], args := [d1, d2] }
  | _ => none }
def FnExactEditsForWrongFalsely : Prop := fnExactEditsForRow.holds Tryz.pinned (OpenSpec.ofChange fnExactEditsForWrong)

/- THE SECOND FORM. 'bulk': how many values and letters a reading holds, each counted each time it is reached (what is shared counts as often as it is met; a slice's spare places count too). A statement '..UptoSaid' is the law's where the arguments, and the package variables that the reading takes, are together of bulk at most 1048576: NARROWER than '..Said'. Prove '..Said' where nothing that the law and all that it calls make is longer than what came in: it says more and counts as full. Else prove '..UptoSaid'. A law counts once. -/
mutual
def uptoBulk {H : Type} : DataW H → Nat
  | .lit (.string bytes) => bytes.length + 1
  | .lit _ => 1
  | .nil => 1
  | .ptr d => uptoBulk d + 1
  | .slice elems spare => uptoBulkAll elems + uptoBulkAll spare + 1
  | .agg parts => uptoBulkAll parts + 1
  | .iface _ d => uptoBulk d + 1
  | .map entries => uptoBulkEntries entries + 1
  | .held _ => 1
def uptoBulkAll {H : Type} : List (DataW H) → Nat
  | [] => 0
  | d :: r => uptoBulk d + uptoBulkAll r
def uptoBulkEntries {H : Type} : List (Lit × DataW H) → Nat
  | [] => 0
  | x :: r => uptoBulkEntry x + uptoBulkEntries r
def uptoBulkEntry {H : Type} : Lit × DataW H → Nat
  | (.string bytes, d) => bytes.length + uptoBulk d + 1
  | (_, d) => uptoBulk d + 1
 end
def uptoSmall : (H : Type) → List (DataW H) → Bool := fun _ ds => decide (uptoBulkAll ds ≤ 1048576)
def OpenSpec.upto (s : _root_.Go.ChangeSpec) : _root_.Go.OpenSpec := { _root_.Go.OpenSpec.ofChange s with cond := some uptoSmall }

/-- 'laws.FnInserts', WHERE WHAT IT READS IS OF BULK AT MOST 1048576: true; the input reads as it did. -/
def fnInsertsUptoRow : OpenClaim := { program := "ytnfolgoloaeanaagreat", sum := "31206291441c13b2c4ac2b1f686496929b20843253ac216e16bbcc3c4e72200e", func := "loop.example/g00408/laws.FnInserts", spec := "fnInserts", unfollowed := true, recurses := true, plainKeys := false, apart := false, narrowed := true }
def FnInsertsUptoSaid : Prop := fnInsertsUptoRow.holds Tryz.pinned (OpenSpec.upto fnInsertsSpec)

/-- 'laws.FnUpdates', WHERE WHAT IT READS IS OF BULK AT MOST 1048576: true; the input reads as it did. -/
def fnUpdatesUptoRow : OpenClaim := { program := "ytnfolgoloaeanaagreat", sum := "31206291441c13b2c4ac2b1f686496929b20843253ac216e16bbcc3c4e72200e", func := "loop.example/g00408/laws.FnUpdates", spec := "fnUpdates", unfollowed := true, recurses := true, plainKeys := false, apart := false, narrowed := true }
def FnUpdatesUptoSaid : Prop := fnUpdatesUptoRow.holds Tryz.pinned (OpenSpec.upto fnUpdatesSpec)

/-- 'laws.FnDeletes', WHERE WHAT IT READS IS OF BULK AT MOST 1048576: true; the input reads as it did. -/
def fnDeletesUptoRow : OpenClaim := { program := "ytnfolgoloaeanaagreat", sum := "31206291441c13b2c4ac2b1f686496929b20843253ac216e16bbcc3c4e72200e", func := "loop.example/g00408/laws.FnDeletes", spec := "fnDeletes", unfollowed := true, recurses := true, plainKeys := false, apart := false, narrowed := true }
def FnDeletesUptoSaid : Prop := fnDeletesUptoRow.holds Tryz.pinned (OpenSpec.upto fnDeletesSpec)

/-- 'laws.FnEdits', WHERE WHAT IT READS IS OF BULK AT MOST 1048576: true; the input reads as it did. -/
def fnEditsUptoRow : OpenClaim := { program := "ytnfolgoloaeanaagreat", sum := "31206291441c13b2c4ac2b1f686496929b20843253ac216e16bbcc3c4e72200e", func := "loop.example/g00408/laws.FnEdits", spec := "fnEdits", unfollowed := true, recurses := true, plainKeys := false, apart := false, narrowed := true }
def FnEditsUptoSaid : Prop := fnEditsUptoRow.holds Tryz.pinned (OpenSpec.upto fnEditsSpec)

/-- 'laws.FnExactInsertEdits', WHERE WHAT IT READS IS OF BULK AT MOST 1048576: true; the input reads as it did. -/
def fnExactInsertEditsUptoRow : OpenClaim := { program := "ytnfolgoloaeanaagreat", sum := "31206291441c13b2c4ac2b1f686496929b20843253ac216e16bbcc3c4e72200e", func := "loop.example/g00408/laws.FnExactInsertEdits", spec := "fnExactInsertEdits", unfollowed := true, recurses := true, plainKeys := false, apart := false, narrowed := true }
def FnExactInsertEditsUptoSaid : Prop := fnExactInsertEditsUptoRow.holds Tryz.pinned (OpenSpec.upto fnExactInsertEditsSpec)

/-- 'laws.FnExactUpdateEdits', WHERE WHAT IT READS IS OF BULK AT MOST 1048576: true; the input reads as it did. -/
def fnExactUpdateEditsUptoRow : OpenClaim := { program := "ytnfolgoloaeanaagreat", sum := "31206291441c13b2c4ac2b1f686496929b20843253ac216e16bbcc3c4e72200e", func := "loop.example/g00408/laws.FnExactUpdateEdits", spec := "fnExactUpdateEdits", unfollowed := true, recurses := true, plainKeys := false, apart := false, narrowed := true }
def FnExactUpdateEditsUptoSaid : Prop := fnExactUpdateEditsUptoRow.holds Tryz.pinned (OpenSpec.upto fnExactUpdateEditsSpec)

/-- 'laws.FnExactEditsFor', WHERE WHAT IT READS IS OF BULK AT MOST 1048576: true; the input reads as it did. -/
def fnExactEditsForUptoRow : OpenClaim := { program := "ytnfolgoloaeanaagreat", sum := "31206291441c13b2c4ac2b1f686496929b20843253ac216e16bbcc3c4e72200e", func := "loop.example/g00408/laws.FnExactEditsFor", spec := "fnExactEditsFor", unfollowed := true, recurses := true, plainKeys := false, apart := false, narrowed := true }
def FnExactEditsForUptoSaid : Prop := fnExactEditsForUptoRow.holds Tryz.pinned (OpenSpec.upto fnExactEditsForSpec)

end Rows
end Go.Proofs.YtnfolgoloaeanaaGreat
