/-
  DERIVED. GIVEN WITH THE SEED: THE CARDS: each row of YtpjlpnaamkbicaaGreatDoorRows.lean that lists a variable, with what it lists TIED to the program's text (the seventh form; the later family's looks); each row that meets fmt, with fmt's text TOLD by the authors' own Lean function (tested against real Go, not proved from fmt's source: count such statements apart). THE CARD IS WHAT COUNTS. Prove the row's statement (the work); the ties are given (YtpjlpnaamkbicaaGreatDoorTie.lean); close each card by the builder's one call (the guide's Derived/Test/ToyasCard.lean, 'card_holds'). Laid BY PROGRAM, IN A SANDBOX (cutbox-door.mjs). By AI agents, Wed Nov 11 2026. No macro, syntax, notation, axiom, sorry.
-/
import Derived.Test.YtpjlpnaamkbicaaGreatDoorRows
import GoSem.ClaimSeven
namespace Go.Proofs.YtpjlpnaamkbicaaGreatDoor
namespace Rows

/-- THE TIED CARD OF 'laws.FnExactCheckOp'. -/
def fnExactCheckOpCard : Claim7 := { stood := { row := fnExactCheckOpRow, standIns := [], harness := (true, "82c9dcc8d3735e5547612483ed283cdc461e857039188746545569ee57f4a0a2"), looks := true }, kinds := [], alts := [], laidByText := true, laidKinds := [.handle], laidTests := true, laidLooks := .later }
def FnExactCheckOpCardSaid : Prop := Claim7.holds Tryz.pinned (.plain (OpenSpec.ofChange fnExactCheckOpSpec)) fnExactCheckOpCard

/-- THE SECOND FORM's CARD OF 'laws.FnExactCheckOp'. -/
def fnExactCheckOpUptoCard : Claim7 := { stood := { row := fnExactCheckOpUptoRow, standIns := [], harness := (true, "82c9dcc8d3735e5547612483ed283cdc461e857039188746545569ee57f4a0a2"), looks := true }, kinds := [], alts := [], laidByText := true, laidKinds := [.handle], laidTests := true, laidLooks := .later }
def FnExactCheckOpUptoCardSaid : Prop := Claim7.holds Tryz.pinned (.plain (OpenSpec.upto fnExactCheckOpSpec)) fnExactCheckOpUptoCard
end Rows
end Go.Proofs.YtpjlpnaamkbicaaGreatDoor
