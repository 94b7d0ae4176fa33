/-
  DERIVED. GIVEN WITH THE SEED: THE CARDS: each row of YtajihmkbnepbjajDoorRows.lean that lists a variable, with what it lists TIED to the program's text (the seventh form; the later family's looks); each row that meets fmt, with fmt's text TOLD by the authors' own Lean function (tested against real Go, not proved from fmt's source: count such statements apart). THE CARD IS WHAT COUNTS. Prove the row's statement (the work); the ties are given (YtajihmkbnepbjajDoorTie.lean); close each card by the builder's one call (the guide's Derived/Test/ToyasCard.lean, 'card_holds'). Laid BY PROGRAM, IN A SANDBOX (cutbox-door.mjs). By AI agents, Wed Nov 11 2026. No macro, syntax, notation, axiom, sorry.
-/
import Derived.Test.YtajihmkbnepbjajDoorRows
import GoSem.ClaimSeven
namespace Go.Proofs.YtajihmkbnepbjajDoor
namespace Rows

/-- THE TIED CARD OF 'fairlaw2.RoadPlays'. -/
def roadPlaysCard : Claim7 := { stood := { row := roadPlaysRow, standIns := [], harness := (true, "f5e8e4d8cb0302b3ca7d77683503e20dabc5248602c3c9bce9e2ae625db3fe00"), looks := true }, kinds := [], alts := [], laidByText := true, laidKinds := [.handle], laidTests := true, laidLooks := .later }
def RoadPlaysCardSaid : Prop := Claim7.holds Tryd.pinned (.plain (OpenSpec.ofChange roadPlaysSpec)) roadPlaysCard

/-- THE TIED CARD OF 'fairlaw2.GrowTells'. -/
def growTellsCard : Claim7 := { stood := { row := growTellsRow, standIns := [], harness := (true, "f5e8e4d8cb0302b3ca7d77683503e20dabc5248602c3c9bce9e2ae625db3fe00"), looks := true }, kinds := [], alts := [], laidByText := true, laidKinds := [.handle], laidTests := true, laidLooks := .later }
def GrowTellsCardSaid : Prop := Claim7.holds Tryd.pinned (.plain (OpenSpec.ofChange growTellsSpec)) growTellsCard

/-- THE SECOND FORM's CARD OF 'fairlaw2.RoadPlays'. -/
def roadPlaysUptoCard : Claim7 := { stood := { row := roadPlaysUptoRow, standIns := [], harness := (true, "f5e8e4d8cb0302b3ca7d77683503e20dabc5248602c3c9bce9e2ae625db3fe00"), looks := true }, kinds := [], alts := [], laidByText := true, laidKinds := [.handle], laidTests := true, laidLooks := .later }
def RoadPlaysUptoCardSaid : Prop := Claim7.holds Tryd.pinned (.plain (OpenSpec.upto roadPlaysSpec)) roadPlaysUptoCard

/-- THE SECOND FORM's CARD OF 'fairlaw2.GrowTells'. -/
def growTellsUptoCard : Claim7 := { stood := { row := growTellsUptoRow, standIns := [], harness := (true, "f5e8e4d8cb0302b3ca7d77683503e20dabc5248602c3c9bce9e2ae625db3fe00"), looks := true }, kinds := [], alts := [], laidByText := true, laidKinds := [.handle], laidTests := true, laidLooks := .later }
def GrowTellsUptoCardSaid : Prop := Claim7.holds Tryd.pinned (.plain (OpenSpec.upto growTellsSpec)) growTellsUptoCard
end Rows
end Go.Proofs.YtajihmkbnepbjajDoor
