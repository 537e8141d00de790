/-
  No cell of these rows narrows 'for every input' (looked for: loops, veiled, ifaces, maps, wideKeys, modest, calm, conditions, laid).
  DERIVED. THE GIVEN ROWS OF THIS SEAT. 6 by the template 'for every input the law returns true; each argument reads behind the call as it read before'; 0 by the template 'total and deterministic' (their statements: YtcadkclppejdgaaTotals.lean).
  GIVEN WITH THE SEED: the statements are not yours to turn. If you find one false, say at which input.
  Laid BY PROGRAM, IN A SANDBOX (cutbox-rows.mjs): the forced cells as the released guide's own fill.sh prints them over the translation 5137b7ca8a7e65b8… (all of the seat's roots in one cut). By AI agents, Wed Nov 11 2026. No macro, syntax, notation, axiom, sorry.
-/
import Derived.Test.YtcadkclppejdgaaChecked
import GoSem.Claim
import GoSem.ClaimJoined
import GoSem.ClaimMapViews
import Derived.JoinedTies
import Derived.KernelRfl
namespace Go.Proofs.Ytcadkclppejdgaa
/- THE CELL 'sum', in the pinned program and in every row, IS THE sha256 OF THE DUMP (.gsa) THAT YtcadkclppejdgaaProg.lean LOADS. Nothing in Lean hashes anything: it is a label: what it is worth is what the hold of that sum in a sandbox is worth. -/
noncomputable def Try.pinned : Pinned := { name := "ytcadkclppejdgaa", sum := "5137b7ca8a7e65b8a465461d910289c02ba218b40534e2140d52cf33ab96df57", checked := Try.checked }
namespace Rows
def none {H : Type} : Left H := { results := [], args := [] }

/-- 'laws.FnExactPagesFault': WHATEVER THE INPUT: true; the input reads as it did. -/
def fnExactPagesFaultSpec : ChangeSpec := { name := "fnExactPagesFault", fn := fun _ => fun
  | [d] => { results := [.lit (.bool true)], args := [d] }
  | _ => none }
def fnExactPagesFaultRow : OpenClaim := { program := "ytcadkclppejdgaa", sum := "5137b7ca8a7e65b8a465461d910289c02ba218b40534e2140d52cf33ab96df57", func := "loop.example/g00408/laws.FnExactPagesFault", spec := "fnExactPagesFault", plainKeys := false, apart := false }
def FnExactPagesFaultSaid : Prop := fnExactPagesFaultRow.holds Try.pinned (OpenSpec.ofChange fnExactPagesFaultSpec)

/-- ITS FALSE NEIGHBOUR: 'it returns false'. Refute it at one input. -/
def fnExactPagesFaultWrong : ChangeSpec := { name := "fnExactPagesFault", fn := fun _ => fun
  | [d] => { results := [.lit (.bool false)], args := [d] }
  | _ => none }
def FnExactPagesFaultWrongFalsely : Prop := fnExactPagesFaultRow.holds Try.pinned (OpenSpec.ofChange fnExactPagesFaultWrong)

/-- 'laws.FnExactRowsIn': WHATEVER THE INPUT: true; the input reads as it did. -/
def fnExactRowsInSpec : ChangeSpec := { name := "fnExactRowsIn", fn := fun _ => fun
  | [d] => { results := [.lit (.bool true)], args := [d] }
  | _ => none }
def fnExactRowsInRow : OpenClaim := { program := "ytcadkclppejdgaa", sum := "5137b7ca8a7e65b8a465461d910289c02ba218b40534e2140d52cf33ab96df57", func := "loop.example/g00408/laws.FnExactRowsIn", spec := "fnExactRowsIn", unfollowed := true, recurses := true, plainKeys := false, apart := false }
def FnExactRowsInSaid : Prop := fnExactRowsInRow.holds Try.pinned (OpenSpec.ofChange fnExactRowsInSpec)

/-- ITS FALSE NEIGHBOUR: 'it returns false'. Refute it at one input. -/
def fnExactRowsInWrong : ChangeSpec := { name := "fnExactRowsIn", fn := fun _ => fun
  | [d] => { results := [.lit (.bool false)], args := [d] }
  | _ => none }
def FnExactRowsInWrongFalsely : Prop := fnExactRowsInRow.holds Try.pinned (OpenSpec.ofChange fnExactRowsInWrong)

/-- 'laws.FnExactFindRow': WHATEVER THE INPUT: true; the input reads as it did. -/
def fnExactFindRowSpec : ChangeSpec := { name := "fnExactFindRow", fn := fun _ => fun
  | [d1, d2, d3] => { results := [.lit (.bool true)], args := [d1, d2, d3] }
  | _ => none }
def fnExactFindRowRow : OpenClaim := { program := "ytcadkclppejdgaa", sum := "5137b7ca8a7e65b8a465461d910289c02ba218b40534e2140d52cf33ab96df57", func := "loop.example/g00408/laws.FnExactFindRow", spec := "fnExactFindRow", plainKeys := false, apart := false }
def FnExactFindRowSaid : Prop := fnExactFindRowRow.holds Try.pinned (OpenSpec.ofChange fnExactFindRowSpec)

/-- ITS FALSE NEIGHBOUR: 'it returns false'. Refute it at one input. -/
def fnExactFindRowWrong : ChangeSpec := { name := "fnExactFindRow", fn := fun _ => fun
  | [d1, d2, d3] => { results := [.lit (.bool false)], args := [d1, d2, d3] }
  | _ => none }
def FnExactFindRowWrongFalsely : Prop := fnExactFindRowRow.holds Try.pinned (OpenSpec.ofChange fnExactFindRowWrong)

/-- 'laws.FnExactChangesOf': WHATEVER THE INPUT: true; the input reads as it did. -/
def fnExactChangesOfSpec : ChangeSpec := { name := "fnExactChangesOf", fn := fun _ => fun
  | [d1, d2] => { results := [.lit (.bool true)], args := [d1, d2] }
  | _ => none }
def fnExactChangesOfRow : OpenClaim := { program := "ytcadkclppejdgaa", sum := "5137b7ca8a7e65b8a465461d910289c02ba218b40534e2140d52cf33ab96df57", func := "loop.example/g00408/laws.FnExactChangesOf", spec := "fnExactChangesOf", unfollowed := true, recurses := true, plainKeys := false, apart := false }
def FnExactChangesOfSaid : Prop := fnExactChangesOfRow.holds Try.pinned (OpenSpec.ofChange fnExactChangesOfSpec)

/-- ITS FALSE NEIGHBOUR: 'it returns false'. Refute it at one input. -/
def fnExactChangesOfWrong : ChangeSpec := { name := "fnExactChangesOf", fn := fun _ => fun
  | [d1, d2] => { results := [.lit (.bool false)], args := [d1, d2] }
  | _ => none }
def FnExactChangesOfWrongFalsely : Prop := fnExactChangesOfRow.holds Try.pinned (OpenSpec.ofChange fnExactChangesOfWrong)

/-- 'laws.FnExactRowsFault': WHATEVER THE INPUT: true; the input reads as it did. -/
def fnExactRowsFaultSpec : ChangeSpec := { name := "fnExactRowsFault", fn := fun _ => fun
  | [d] => { results := [.lit (.bool true)], args := [d] }
  | _ => none }
def fnExactRowsFaultRow : OpenClaim := { program := "ytcadkclppejdgaa", sum := "5137b7ca8a7e65b8a465461d910289c02ba218b40534e2140d52cf33ab96df57", func := "loop.example/g00408/laws.FnExactRowsFault", spec := "fnExactRowsFault", plainKeys := false, apart := false }
def FnExactRowsFaultSaid : Prop := fnExactRowsFaultRow.holds Try.pinned (OpenSpec.ofChange fnExactRowsFaultSpec)

/-- ITS FALSE NEIGHBOUR: 'it returns false'. Refute it at one input. -/
def fnExactRowsFaultWrong : ChangeSpec := { name := "fnExactRowsFault", fn := fun _ => fun
  | [d] => { results := [.lit (.bool false)], args := [d] }
  | _ => none }
def FnExactRowsFaultWrongFalsely : Prop := fnExactRowsFaultRow.holds Try.pinned (OpenSpec.ofChange fnExactRowsFaultWrong)

/-- 'laws.FnExactApplyChanges': WHATEVER THE INPUT: true; the input reads as it did. -/
def fnExactApplyChangesSpec : ChangeSpec := { name := "fnExactApplyChanges", fn := fun _ => fun
  | [d1, d2] => { results := [.lit (.bool true)], args := [d1, d2] }
  | _ => none }
def fnExactApplyChangesRow : OpenClaim := { program := "ytcadkclppejdgaa", sum := "5137b7ca8a7e65b8a465461d910289c02ba218b40534e2140d52cf33ab96df57", func := "loop.example/g00408/laws.FnExactApplyChanges", spec := "fnExactApplyChanges", unfollowed := true, recurses := true, plainKeys := false, apart := false }
def FnExactApplyChangesSaid : Prop := fnExactApplyChangesRow.holds Try.pinned (OpenSpec.ofChange fnExactApplyChangesSpec)

/-- ITS FALSE NEIGHBOUR: 'it returns false'. Refute it at one input. -/
def fnExactApplyChangesWrong : ChangeSpec := { name := "fnExactApplyChanges", fn := fun _ => fun
  | [d1, d2] => { results := [.lit (.bool false)], args := [d1, d2] }
  | _ => none }
def FnExactApplyChangesWrongFalsely : Prop := fnExactApplyChangesRow.holds Try.pinned (OpenSpec.ofChange fnExactApplyChangesWrong)

/- THE SECOND FORM. 'bulk': how many values and letters a reading holds, each counted each time it is reached (what is shared counts as often as it is met; a slice's spare places count too). A statement '..UptoSaid' is the law's where the arguments, and the package variables that the reading takes, are together of bulk at most 1048576: NARROWER than '..Said'. Prove '..Said' where nothing that the law and all that it calls make is longer than what came in: it says more and counts as full. Else prove '..UptoSaid'. A law counts once. -/
mutual
def uptoBulk {H : Type} : DataW H → Nat
  | .lit (.string bytes) => bytes.length + 1
  | .lit _ => 1
  | .nil => 1
  | .ptr d => uptoBulk d + 1
  | .slice elems spare => uptoBulkAll elems + uptoBulkAll spare + 1
  | .agg parts => uptoBulkAll parts + 1
  | .iface _ d => uptoBulk d + 1
  | .map entries => uptoBulkEntries entries + 1
  | .held _ => 1
def uptoBulkAll {H : Type} : List (DataW H) → Nat
  | [] => 0
  | d :: r => uptoBulk d + uptoBulkAll r
def uptoBulkEntries {H : Type} : List (Lit × DataW H) → Nat
  | [] => 0
  | x :: r => uptoBulkEntry x + uptoBulkEntries r
def uptoBulkEntry {H : Type} : Lit × DataW H → Nat
  | (.string bytes, d) => bytes.length + uptoBulk d + 1
  | (_, d) => uptoBulk d + 1
 end
def uptoSmall : (H : Type) → List (DataW H) → Bool := fun _ ds => decide (uptoBulkAll ds ≤ 1048576)
def OpenSpec.upto (s : _root_.Go.ChangeSpec) : _root_.Go.OpenSpec := { _root_.Go.OpenSpec.ofChange s with cond := some uptoSmall }

/-- 'laws.FnExactPagesFault', WHERE WHAT IT READS IS OF BULK AT MOST 1048576: true; the input reads as it did. -/
def fnExactPagesFaultUptoRow : OpenClaim := { program := "ytcadkclppejdgaa", sum := "5137b7ca8a7e65b8a465461d910289c02ba218b40534e2140d52cf33ab96df57", func := "loop.example/g00408/laws.FnExactPagesFault", spec := "fnExactPagesFault", plainKeys := false, apart := false, narrowed := true }
def FnExactPagesFaultUptoSaid : Prop := fnExactPagesFaultUptoRow.holds Try.pinned (OpenSpec.upto fnExactPagesFaultSpec)

/-- 'laws.FnExactRowsIn', WHERE WHAT IT READS IS OF BULK AT MOST 1048576: true; the input reads as it did. -/
def fnExactRowsInUptoRow : OpenClaim := { program := "ytcadkclppejdgaa", sum := "5137b7ca8a7e65b8a465461d910289c02ba218b40534e2140d52cf33ab96df57", func := "loop.example/g00408/laws.FnExactRowsIn", spec := "fnExactRowsIn", unfollowed := true, recurses := true, plainKeys := false, apart := false, narrowed := true }
def FnExactRowsInUptoSaid : Prop := fnExactRowsInUptoRow.holds Try.pinned (OpenSpec.upto fnExactRowsInSpec)

/-- 'laws.FnExactFindRow', WHERE WHAT IT READS IS OF BULK AT MOST 1048576: true; the input reads as it did. -/
def fnExactFindRowUptoRow : OpenClaim := { program := "ytcadkclppejdgaa", sum := "5137b7ca8a7e65b8a465461d910289c02ba218b40534e2140d52cf33ab96df57", func := "loop.example/g00408/laws.FnExactFindRow", spec := "fnExactFindRow", plainKeys := false, apart := false, narrowed := true }
def FnExactFindRowUptoSaid : Prop := fnExactFindRowUptoRow.holds Try.pinned (OpenSpec.upto fnExactFindRowSpec)

/-- 'laws.FnExactChangesOf', WHERE WHAT IT READS IS OF BULK AT MOST 1048576: true; the input reads as it did. -/
def fnExactChangesOfUptoRow : OpenClaim := { program := "ytcadkclppejdgaa", sum := "5137b7ca8a7e65b8a465461d910289c02ba218b40534e2140d52cf33ab96df57", func := "loop.example/g00408/laws.FnExactChangesOf", spec := "fnExactChangesOf", unfollowed := true, recurses := true, plainKeys := false, apart := false, narrowed := true }
def FnExactChangesOfUptoSaid : Prop := fnExactChangesOfUptoRow.holds Try.pinned (OpenSpec.upto fnExactChangesOfSpec)

/-- 'laws.FnExactRowsFault', WHERE WHAT IT READS IS OF BULK AT MOST 1048576: true; the input reads as it did. -/
def fnExactRowsFaultUptoRow : OpenClaim := { program := "ytcadkclppejdgaa", sum := "5137b7ca8a7e65b8a465461d910289c02ba218b40534e2140d52cf33ab96df57", func := "loop.example/g00408/laws.FnExactRowsFault", spec := "fnExactRowsFault", plainKeys := false, apart := false, narrowed := true }
def FnExactRowsFaultUptoSaid : Prop := fnExactRowsFaultUptoRow.holds Try.pinned (OpenSpec.upto fnExactRowsFaultSpec)

/-- 'laws.FnExactApplyChanges', WHERE WHAT IT READS IS OF BULK AT MOST 1048576: true; the input reads as it did. -/
def fnExactApplyChangesUptoRow : OpenClaim := { program := "ytcadkclppejdgaa", sum := "5137b7ca8a7e65b8a465461d910289c02ba218b40534e2140d52cf33ab96df57", func := "loop.example/g00408/laws.FnExactApplyChanges", spec := "fnExactApplyChanges", unfollowed := true, recurses := true, plainKeys := false, apart := false, narrowed := true }
def FnExactApplyChangesUptoSaid : Prop := fnExactApplyChangesUptoRow.holds Try.pinned (OpenSpec.upto fnExactApplyChangesSpec)

end Rows
end Go.Proofs.Ytcadkclppejdgaa
