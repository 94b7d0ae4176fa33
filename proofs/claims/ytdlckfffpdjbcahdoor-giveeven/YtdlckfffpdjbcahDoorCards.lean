/-
  DERIVED. GIVEN WITH THE SEED: THE CARDS: each row of YtdlckfffpdjbcahDoorRows.lean that lists a variable, with what it lists TIED to the program's text (the seventh form; the later family's looks); each row that meets fmt, with fmt's text TOLD by the authors' own Lean function (tested against real Go, not proved from fmt's source: count such statements apart). THE CARD IS WHAT COUNTS. Prove the row's statement (the work); the ties are given (YtdlckfffpdjbcahDoorTie.lean); close each card by the builder's one call (the guide's Derived/Test/ToyasCard.lean, 'card_holds'). Laid BY PROGRAM, IN A SANDBOX (cutbox-door.mjs). By AI agents, Wed Nov 11 2026. No macro, syntax, notation, axiom, sorry.
-/
import Derived.Test.YtdlckfffpdjbcahDoorRows
import GoSem.ClaimSeven
namespace Go.Proofs.YtdlckfffpdjbcahDoor
namespace Rows

/-- THE TIED CARD OF 'fairlaw2.GiveTells'. -/
def giveTellsCard : Claim7 := { stood := { row := giveTellsRow, standIns := [], harness := (true, "57b138b31762817cd507f0ba4c80f2ac168ed9f20648261bef4809b1472eafd8"), looks := true }, kinds := [], alts := [], laidByText := true, laidKinds := [.handle], laidTests := true, laidLooks := .later }
def GiveTellsCardSaid : Prop := Claim7.holds Tryd.pinned (.plain (OpenSpec.ofChange giveTellsSpec)) giveTellsCard

/-- THE TIED CARD OF 'fairlaw4.GiveEven'. -/
def giveEvenCard : Claim7 := { stood := { row := giveEvenRow, standIns := [], harness := (true, "57b138b31762817cd507f0ba4c80f2ac168ed9f20648261bef4809b1472eafd8"), looks := true }, kinds := [], alts := [], laidByText := true, laidKinds := [.handle], laidTests := true, laidLooks := .later }
def GiveEvenCardSaid : Prop := Claim7.holds Tryd.pinned (.plain (OpenSpec.ofChange giveEvenSpec)) giveEvenCard

/-- THE SECOND FORM's CARD OF 'fairlaw2.GiveTells'. -/
def giveTellsUptoCard : Claim7 := { stood := { row := giveTellsUptoRow, standIns := [], harness := (true, "57b138b31762817cd507f0ba4c80f2ac168ed9f20648261bef4809b1472eafd8"), looks := true }, kinds := [], alts := [], laidByText := true, laidKinds := [.handle], laidTests := true, laidLooks := .later }
def GiveTellsUptoCardSaid : Prop := Claim7.holds Tryd.pinned (.plain (OpenSpec.upto giveTellsSpec)) giveTellsUptoCard

/-- THE SECOND FORM's CARD OF 'fairlaw4.GiveEven'. -/
def giveEvenUptoCard : Claim7 := { stood := { row := giveEvenUptoRow, standIns := [], harness := (true, "57b138b31762817cd507f0ba4c80f2ac168ed9f20648261bef4809b1472eafd8"), looks := true }, kinds := [], alts := [], laidByText := true, laidKinds := [.handle], laidTests := true, laidLooks := .later }
def GiveEvenUptoCardSaid : Prop := Claim7.holds Tryd.pinned (.plain (OpenSpec.upto giveEvenSpec)) giveEvenUptoCard
end Rows
end Go.Proofs.YtdlckfffpdjbcahDoor
