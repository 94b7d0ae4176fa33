/-
  DERIVED. GIVEN WITH THE SEED: THE CARDS: each row of YtbgmdolbeecpiafDoorRows.lean that lists a variable, with what it lists TIED to the program's text (the seventh form; the later family's looks); each row that meets fmt, with fmt's text TOLD by the authors' own Lean function (tested against real Go, not proved from fmt's source: count such statements apart). THE CARD IS WHAT COUNTS. Prove the row's statement (the work); the ties are given (YtbgmdolbeecpiafDoorTie.lean); close each card by the builder's one call (the guide's Derived/Test/ToyasCard.lean, 'card_holds'). Laid BY PROGRAM, IN A SANDBOX (cutbox-door.mjs). By AI agents, Wed Nov 11 2026. No macro, syntax, notation, axiom, sorry.
-/
import Derived.Test.YtbgmdolbeecpiafDoorRows
import GoSem.ClaimSeven
namespace Go.Proofs.YtbgmdolbeecpiafDoor
namespace Rows

/-- THE TIED CARD OF 'fairlaw4.BucketFull'. -/
def bucketFullCard : Claim7 := { stood := { row := bucketFullRow, standIns := [], harness := (true, "b539b1cace6df5555618cbaedf1e1c5359e4373b7a7a3009b77e4f2763a148ff"), looks := true }, kinds := [], alts := [], laidByText := true, laidKinds := [.handle], laidTests := true, laidLooks := .later }
def BucketFullCardSaid : Prop := Claim7.holds Tryd.pinned (.plain (OpenSpec.ofChange bucketFullSpec)) bucketFullCard

/-- THE SECOND FORM's CARD OF 'fairlaw4.BucketFull'. -/
def bucketFullUptoCard : Claim7 := { stood := { row := bucketFullUptoRow, standIns := [], harness := (true, "b539b1cace6df5555618cbaedf1e1c5359e4373b7a7a3009b77e4f2763a148ff"), looks := true }, kinds := [], alts := [], laidByText := true, laidKinds := [.handle], laidTests := true, laidLooks := .later }
def BucketFullUptoCardSaid : Prop := Claim7.holds Tryd.pinned (.plain (OpenSpec.upto bucketFullSpec)) bucketFullUptoCard
end Rows
end Go.Proofs.YtbgmdolbeecpiafDoor
