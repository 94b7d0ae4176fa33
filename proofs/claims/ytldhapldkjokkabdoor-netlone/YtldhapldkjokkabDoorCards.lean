/-
  DERIVED. GIVEN WITH THE SEED: THE CARDS: each row of YtldhapldkjokkabDoorRows.lean that lists a variable, with what it lists TIED to the program's text (the seventh form; the later family's looks); each row that meets fmt, with fmt's text TOLD by the authors' own Lean function (tested against real Go, not proved from fmt's source: count such statements apart). THE CARD IS WHAT COUNTS. Prove the row's statement (the work); the ties are given (YtldhapldkjokkabDoorTie.lean); close each card by the builder's one call (the guide's Derived/Test/ToyasCard.lean, 'card_holds'). Laid BY PROGRAM, IN A SANDBOX (cutbox-door.mjs). By AI agents, Wed Nov 11 2026. No macro, syntax, notation, axiom, sorry.
-/
import Derived.Test.YtldhapldkjokkabDoorRows
import GoSem.ClaimSeven
namespace Go.Proofs.YtldhapldkjokkabDoor
namespace Rows

/-- THE TIED CARD OF 'fairlaw4.NetLone'. -/
def netLoneCard : Claim7 := { stood := { row := netLoneRow, standIns := [], harness := (true, "3d11a964b179e148915376a20ba537bb3c5f5dde7c31fd88cc386d78b97594eb"), looks := true }, kinds := [], alts := [], laidByText := true, laidKinds := [.handle], laidTests := true, laidLooks := .later }
def NetLoneCardSaid : Prop := Claim7.holds Tryd.pinned (.plain (OpenSpec.ofChange netLoneSpec)) netLoneCard

/-- THE SECOND FORM's CARD OF 'fairlaw4.NetLone'. -/
def netLoneUptoCard : Claim7 := { stood := { row := netLoneUptoRow, standIns := [], harness := (true, "3d11a964b179e148915376a20ba537bb3c5f5dde7c31fd88cc386d78b97594eb"), looks := true }, kinds := [], alts := [], laidByText := true, laidKinds := [.handle], laidTests := true, laidLooks := .later }
def NetLoneUptoCardSaid : Prop := Claim7.holds Tryd.pinned (.plain (OpenSpec.upto netLoneSpec)) netLoneUptoCard
end Rows
end Go.Proofs.YtldhapldkjokkabDoor
