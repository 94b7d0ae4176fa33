/-
  DERIVED. GIVEN WITH THE SEED: THE CARDS: each row of YtbbljjhddikfpaeDoorRows.lean that lists a variable, with what it lists TIED to the program's text (the seventh form; the later family's looks); each row that meets fmt, with fmt's text TOLD by the authors' own Lean function (tested against real Go, not proved from fmt's source: count such statements apart). THE CARD IS WHAT COUNTS. Prove the row's statement (the work); the ties are given (YtbbljjhddikfpaeDoorTie.lean); close each card by the builder's one call (the guide's Derived/Test/ToyasCard.lean, 'card_holds'). Laid BY PROGRAM, IN A SANDBOX (cutbox-door.mjs). By AI agents, Wed Nov 11 2026. No macro, syntax, notation, axiom, sorry.
-/
import Derived.Test.YtbbljjhddikfpaeDoorRows
import GoSem.ClaimSeven
namespace Go.Proofs.YtbbljjhddikfpaeDoor
namespace Rows

/-- THE TIED CARD OF 'fairlaw4.EvenTimes'. -/
def evenTimesCard : Claim7 := { stood := { row := evenTimesRow, standIns := [], harness := (true, "1302dbf0341e7698d0ff29fee6d7aee70baf1c60f05b67ca3481d249dfe153f9"), looks := true }, kinds := [], alts := [], laidByText := true, laidKinds := [.handle], laidTests := true, laidLooks := .later }
def EvenTimesCardSaid : Prop := Claim7.holds Tryd.pinned (.plain (OpenSpec.ofChange evenTimesSpec)) evenTimesCard

/-- THE SECOND FORM's CARD OF 'fairlaw4.EvenTimes'. -/
def evenTimesUptoCard : Claim7 := { stood := { row := evenTimesUptoRow, standIns := [], harness := (true, "1302dbf0341e7698d0ff29fee6d7aee70baf1c60f05b67ca3481d249dfe153f9"), looks := true }, kinds := [], alts := [], laidByText := true, laidKinds := [.handle], laidTests := true, laidLooks := .later }
def EvenTimesUptoCardSaid : Prop := Claim7.holds Tryd.pinned (.plain (OpenSpec.upto evenTimesSpec)) evenTimesUptoCard
end Rows
end Go.Proofs.YtbbljjhddikfpaeDoor
