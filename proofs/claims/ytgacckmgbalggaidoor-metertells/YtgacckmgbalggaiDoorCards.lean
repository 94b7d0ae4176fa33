/-
  DERIVED. GIVEN WITH THE SEED: THE CARDS: each row of YtgacckmgbalggaiDoorRows.lean that lists a variable, with what it lists TIED to the program's text (the seventh form; the later family's looks); each row that meets fmt, with fmt's text TOLD by the authors' own Lean function (tested against real Go, not proved from fmt's source: count such statements apart). THE CARD IS WHAT COUNTS. Prove the row's statement (the work); the ties are given (YtgacckmgbalggaiDoorTie.lean); close each card by the builder's one call (the guide's Derived/Test/ToyasCard.lean, 'card_holds'). Laid BY PROGRAM, IN A SANDBOX (cutbox-door.mjs). By AI agents, Wed Nov 11 2026. No macro, syntax, notation, axiom, sorry.
-/
import Derived.Test.YtgacckmgbalggaiDoorRows
import GoSem.ClaimSeven
namespace Go.Proofs.YtgacckmgbalggaiDoor
namespace Rows

/-- THE TIED CARD OF 'fairlaw2.MeterTells'. -/
def meterTellsCard : Claim7 := { stood := { row := meterTellsRow, standIns := [], harness := (true, "f753fedf7c5eebfe39e1e9dbb94d03db68d5b8741d63b307068cc1621eda209c"), looks := true }, kinds := [], alts := [], laidByText := true, laidKinds := [.handle], laidTests := true, laidLooks := .later }
def MeterTellsCardSaid : Prop := Claim7.holds Tryd.pinned (.plain (OpenSpec.ofChange meterTellsSpec)) meterTellsCard

/-- THE SECOND FORM's CARD OF 'fairlaw2.MeterTells'. -/
def meterTellsUptoCard : Claim7 := { stood := { row := meterTellsUptoRow, standIns := [], harness := (true, "f753fedf7c5eebfe39e1e9dbb94d03db68d5b8741d63b307068cc1621eda209c"), looks := true }, kinds := [], alts := [], laidByText := true, laidKinds := [.handle], laidTests := true, laidLooks := .later }
def MeterTellsUptoCardSaid : Prop := Claim7.holds Tryd.pinned (.plain (OpenSpec.upto meterTellsSpec)) meterTellsUptoCard
end Rows
end Go.Proofs.YtgacckmgbalggaiDoor
