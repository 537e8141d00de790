/-
  DERIVED. GIVEN WITH THE SEED: THE CARDS: each row of YtmnnkgcknkhgdaaDoorRows.lean that lists a variable, with what it lists TIED to the program's text (the seventh form; the later family's looks); each row that meets fmt, with fmt's text TOLD by the authors' own Lean function (tested against real Go, not proved from fmt's source: count such statements apart). THE CARD IS WHAT COUNTS. Prove the row's statement (the work); the ties are given (YtmnnkgcknkhgdaaDoorTie.lean); close each card by the builder's one call (the guide's Derived/Test/ToyasCard.lean, 'card_holds'). Laid BY PROGRAM, IN A SANDBOX (cutbox-door.mjs). By AI agents, Wed Nov 11 2026. No macro, syntax, notation, axiom, sorry.
-/
import Derived.Test.YtmnnkgcknkhgdaaDoorRows
import GoSem.ClaimSeven
namespace Go.Proofs.YtmnnkgcknkhgdaaDoor
namespace Rows

/-- THE TIED CARD OF 'laws.FnExactLongestIn'. -/
def fnExactLongestInCard : Claim7 := { stood := { row := fnExactLongestInRow, standIns := [], harness := (true, "84ec96ce537b9801d65ec6cb9c4ab1e7e3b06937d0ec92553229eb39e1c08690"), looks := true }, kinds := [], alts := [], laidByText := true, laidKinds := [.handle], laidTests := true, laidLooks := .later }
def FnExactLongestInCardSaid : Prop := Claim7.holds Tryd.pinned (.plain (OpenSpec.ofChange fnExactLongestInSpec)) fnExactLongestInCard

/-- THE TIED CARD OF 'laws.FnExactMayBe'. -/
def fnExactMayBeCard : Claim7 := { stood := { row := fnExactMayBeRow, standIns := [], harness := (true, "84ec96ce537b9801d65ec6cb9c4ab1e7e3b06937d0ec92553229eb39e1c08690"), looks := true }, kinds := [], alts := [], laidByText := true, laidKinds := [.handle], laidTests := true, laidLooks := .later }
def FnExactMayBeCardSaid : Prop := Claim7.holds Tryd.pinned (.plain (OpenSpec.ofChange fnExactMayBeSpec)) fnExactMayBeCard

/-- THE TIED CARD OF 'laws.FnExactKeyText'. -/
def fnExactKeyTextCard : Claim7 := { stood := { row := fnExactKeyTextRow, standIns := [], harness := (true, "84ec96ce537b9801d65ec6cb9c4ab1e7e3b06937d0ec92553229eb39e1c08690"), looks := true }, kinds := [], alts := [], laidByText := true, laidKinds := [.data, .data, .data], laidTests := true, laidLooks := .later }
def FnExactKeyTextCardSaid : Prop := Claim7.holds Tryd.pinned (.plain (OpenSpec.ofChange fnExactKeyTextSpec)) fnExactKeyTextCard

/-- THE SECOND FORM's CARD OF 'laws.FnExactLongestIn'. -/
def fnExactLongestInUptoCard : Claim7 := { stood := { row := fnExactLongestInUptoRow, standIns := [], harness := (true, "84ec96ce537b9801d65ec6cb9c4ab1e7e3b06937d0ec92553229eb39e1c08690"), looks := true }, kinds := [], alts := [], laidByText := true, laidKinds := [.handle], laidTests := true, laidLooks := .later }
def FnExactLongestInUptoCardSaid : Prop := Claim7.holds Tryd.pinned (.plain (OpenSpec.upto fnExactLongestInSpec)) fnExactLongestInUptoCard

/-- THE SECOND FORM's CARD OF 'laws.FnExactMayBe'. -/
def fnExactMayBeUptoCard : Claim7 := { stood := { row := fnExactMayBeUptoRow, standIns := [], harness := (true, "84ec96ce537b9801d65ec6cb9c4ab1e7e3b06937d0ec92553229eb39e1c08690"), looks := true }, kinds := [], alts := [], laidByText := true, laidKinds := [.handle], laidTests := true, laidLooks := .later }
def FnExactMayBeUptoCardSaid : Prop := Claim7.holds Tryd.pinned (.plain (OpenSpec.upto fnExactMayBeSpec)) fnExactMayBeUptoCard

/-- THE SECOND FORM's CARD OF 'laws.FnExactKeyText'. -/
def fnExactKeyTextUptoCard : Claim7 := { stood := { row := fnExactKeyTextUptoRow, standIns := [], harness := (true, "84ec96ce537b9801d65ec6cb9c4ab1e7e3b06937d0ec92553229eb39e1c08690"), looks := true }, kinds := [], alts := [], laidByText := true, laidKinds := [.data, .data, .data], laidTests := true, laidLooks := .later }
def FnExactKeyTextUptoCardSaid : Prop := Claim7.holds Tryd.pinned (.plain (OpenSpec.upto fnExactKeyTextSpec)) fnExactKeyTextUptoCard
end Rows
end Go.Proofs.YtmnnkgcknkhgdaaDoor
