/-
  DERIVED. GIVEN WITH THE SEED: THE CARDS: each row of YtdegbfgnbobgoacDoorRows.lean that lists a variable, with what it lists TIED to the program's text (the seventh form; the later family's looks); each row that meets fmt, with fmt's text TOLD by the authors' own Lean function (tested against real Go, not proved from fmt's source: count such statements apart). THE CARD IS WHAT COUNTS. Prove the row's statement (the work); the ties are given (YtdegbfgnbobgoacDoorTie.lean); close each card by the builder's one call (the guide's Derived/Test/ToyasCard.lean, 'card_holds'). Laid BY PROGRAM, IN A SANDBOX (cutbox-door.mjs). By AI agents, Wed Nov 11 2026. No macro, syntax, notation, axiom, sorry.
-/
import Derived.Test.YtdegbfgnbobgoacDoorRows
import GoSem.ClaimSeven
namespace Go.Proofs.YtdegbfgnbobgoacDoor
namespace Rows

/-- THE TIED CARD OF 'fairlaw1.NeckTells'. -/
def neckTellsCard : Claim7 := { stood := { row := neckTellsRow, standIns := [], harness := (true, "cc2c0aae8bf2dd85ea78b78f8e8e80ca5ad2fc780bf08885d39b8a27856ec70a"), looks := true }, kinds := [], alts := [], laidByText := true, laidKinds := [.handle], laidTests := true, laidLooks := .later }
def NeckTellsCardSaid : Prop := Claim7.holds Tryd.pinned (.plain (OpenSpec.ofChange neckTellsSpec)) neckTellsCard

/-- THE SECOND FORM's CARD OF 'fairlaw1.NeckTells'. -/
def neckTellsUptoCard : Claim7 := { stood := { row := neckTellsUptoRow, standIns := [], harness := (true, "cc2c0aae8bf2dd85ea78b78f8e8e80ca5ad2fc780bf08885d39b8a27856ec70a"), looks := true }, kinds := [], alts := [], laidByText := true, laidKinds := [.handle], laidTests := true, laidLooks := .later }
def NeckTellsUptoCardSaid : Prop := Claim7.holds Tryd.pinned (.plain (OpenSpec.upto neckTellsSpec)) neckTellsUptoCard
end Rows
end Go.Proofs.YtdegbfgnbobgoacDoor
