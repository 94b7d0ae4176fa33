/-
  DERIVED. GIVEN WITH THE SEED: THE CARDS: each row of YtgbhknagmndbfahDoorRows.lean that lists a variable, with what it lists TIED to the program's text (the seventh form; the later family's looks); each row that meets fmt, with fmt's text TOLD by the authors' own Lean function (tested against real Go, not proved from fmt's source: count such statements apart). THE CARD IS WHAT COUNTS. Prove the row's statement (the work); the ties are given (YtgbhknagmndbfahDoorTie.lean); close each card by the builder's one call (the guide's Derived/Test/ToyasCard.lean, 'card_holds'). Laid BY PROGRAM, IN A SANDBOX (cutbox-door.mjs). By AI agents, Wed Nov 11 2026. No macro, syntax, notation, axiom, sorry.
-/
import Derived.Test.YtgbhknagmndbfahDoorRows
import GoSem.ClaimSeven
namespace Go.Proofs.YtgbhknagmndbfahDoor
namespace Rows

/-- THE TIED CARD OF 'fairlaw2.GiveTells'. -/
def giveTellsCard : Claim7 := { stood := { row := giveTellsRow, standIns := [], harness := (true, "bde689fe9bd5e3a0fb468b88b79e6059f9448cd891d0ebefc577ab75b6403b98"), looks := true }, kinds := [], alts := [], laidByText := true, laidKinds := [.handle], laidTests := true, laidLooks := .later }
def GiveTellsCardSaid : Prop := Claim7.holds Tryd.pinned (.plain (OpenSpec.ofChange giveTellsSpec)) giveTellsCard

/-- THE TIED CARD OF 'fairlaw4.GiveEven'. -/
def giveEvenCard : Claim7 := { stood := { row := giveEvenRow, standIns := [], harness := (true, "bde689fe9bd5e3a0fb468b88b79e6059f9448cd891d0ebefc577ab75b6403b98"), looks := true }, kinds := [], alts := [], laidByText := true, laidKinds := [.handle], laidTests := true, laidLooks := .later }
def GiveEvenCardSaid : Prop := Claim7.holds Tryd.pinned (.plain (OpenSpec.ofChange giveEvenSpec)) giveEvenCard

/-- THE TIED CARD OF 'fairlaw2.ShuffleTells'. -/
def shuffleTellsCard : Claim7 := { stood := { row := shuffleTellsRow, standIns := [], harness := (true, "bde689fe9bd5e3a0fb468b88b79e6059f9448cd891d0ebefc577ab75b6403b98"), looks := true }, kinds := [], alts := [], laidByText := true, laidKinds := [.handle], laidTests := true, laidLooks := .later }
def ShuffleTellsCardSaid : Prop := Claim7.holds Tryd.pinned (.plain (OpenSpec.ofChange shuffleTellsSpec)) shuffleTellsCard

/-- THE TIED CARD OF 'fairlaw2.ShuffleKeeps'. -/
def shuffleKeepsCard : Claim7 := { stood := { row := shuffleKeepsRow, standIns := [], harness := (true, "bde689fe9bd5e3a0fb468b88b79e6059f9448cd891d0ebefc577ab75b6403b98"), looks := true }, kinds := [], alts := [], laidByText := true, laidKinds := [.handle], laidTests := true, laidLooks := .later }
def ShuffleKeepsCardSaid : Prop := Claim7.holds Tryd.pinned (.plain (OpenSpec.ofChange shuffleKeepsSpec)) shuffleKeepsCard

/-- THE SECOND FORM's CARD OF 'fairlaw2.GiveTells'. -/
def giveTellsUptoCard : Claim7 := { stood := { row := giveTellsUptoRow, standIns := [], harness := (true, "bde689fe9bd5e3a0fb468b88b79e6059f9448cd891d0ebefc577ab75b6403b98"), looks := true }, kinds := [], alts := [], laidByText := true, laidKinds := [.handle], laidTests := true, laidLooks := .later }
def GiveTellsUptoCardSaid : Prop := Claim7.holds Tryd.pinned (.plain (OpenSpec.upto giveTellsSpec)) giveTellsUptoCard

/-- THE SECOND FORM's CARD OF 'fairlaw4.GiveEven'. -/
def giveEvenUptoCard : Claim7 := { stood := { row := giveEvenUptoRow, standIns := [], harness := (true, "bde689fe9bd5e3a0fb468b88b79e6059f9448cd891d0ebefc577ab75b6403b98"), looks := true }, kinds := [], alts := [], laidByText := true, laidKinds := [.handle], laidTests := true, laidLooks := .later }
def GiveEvenUptoCardSaid : Prop := Claim7.holds Tryd.pinned (.plain (OpenSpec.upto giveEvenSpec)) giveEvenUptoCard

/-- THE SECOND FORM's CARD OF 'fairlaw2.ShuffleTells'. -/
def shuffleTellsUptoCard : Claim7 := { stood := { row := shuffleTellsUptoRow, standIns := [], harness := (true, "bde689fe9bd5e3a0fb468b88b79e6059f9448cd891d0ebefc577ab75b6403b98"), looks := true }, kinds := [], alts := [], laidByText := true, laidKinds := [.handle], laidTests := true, laidLooks := .later }
def ShuffleTellsUptoCardSaid : Prop := Claim7.holds Tryd.pinned (.plain (OpenSpec.upto shuffleTellsSpec)) shuffleTellsUptoCard

/-- THE SECOND FORM's CARD OF 'fairlaw2.ShuffleKeeps'. -/
def shuffleKeepsUptoCard : Claim7 := { stood := { row := shuffleKeepsUptoRow, standIns := [], harness := (true, "bde689fe9bd5e3a0fb468b88b79e6059f9448cd891d0ebefc577ab75b6403b98"), looks := true }, kinds := [], alts := [], laidByText := true, laidKinds := [.handle], laidTests := true, laidLooks := .later }
def ShuffleKeepsUptoCardSaid : Prop := Claim7.holds Tryd.pinned (.plain (OpenSpec.upto shuffleKeepsSpec)) shuffleKeepsUptoCard
end Rows
end Go.Proofs.YtgbhknagmndbfahDoor
