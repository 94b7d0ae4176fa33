/-
  DERIVED. GIVEN WITH THE SEED: THE CARDS: each row of YtkkmmmmipjnljaaDoorRows.lean that lists a variable, with what it lists TIED to the program's text (the seventh form; the later family's looks); each row that meets fmt, with fmt's text TOLD by the authors' own Lean function (tested against real Go, not proved from fmt's source: count such statements apart). THE CARD IS WHAT COUNTS. Prove the row's statement (the work); the ties are given (YtkkmmmmipjnljaaDoorTie.lean); close each card by the builder's one call (the guide's Derived/Test/ToyasCard.lean, 'card_holds'). Laid BY PROGRAM, IN A SANDBOX (cutbox-door.mjs). By AI agents, Wed Nov 11 2026. No macro, syntax, notation, axiom, sorry.
-/
import Derived.Test.YtkkmmmmipjnljaaDoorRows
import GoSem.ClaimSeven
namespace Go.Proofs.YtkkmmmmipjnljaaDoor
namespace Rows

/-- THE TIED CARD OF 'fairlaw1.FracTells'. -/
def fracTellsCard : Claim7 := { stood := { row := fracTellsRow, standIns := [], harness := (true, "f3c7ecfad110ad51a45f9b9e5029609721162a656fe5496765bd84a2718f969e"), looks := true }, kinds := [], alts := [], laidByText := true, laidKinds := [.handle], laidTests := true, laidLooks := .later }
def FracTellsCardSaid : Prop := Claim7.holds Tryd.pinned (.plain (OpenSpec.ofChange fracTellsSpec)) fracTellsCard

/-- THE SECOND FORM's CARD OF 'fairlaw1.FracTells'. -/
def fracTellsUptoCard : Claim7 := { stood := { row := fracTellsUptoRow, standIns := [], harness := (true, "f3c7ecfad110ad51a45f9b9e5029609721162a656fe5496765bd84a2718f969e"), looks := true }, kinds := [], alts := [], laidByText := true, laidKinds := [.handle], laidTests := true, laidLooks := .later }
def FracTellsUptoCardSaid : Prop := Claim7.holds Tryd.pinned (.plain (OpenSpec.upto fracTellsSpec)) fracTellsUptoCard
end Rows
end Go.Proofs.YtkkmmmmipjnljaaDoor
