/-
  DERIVED. GIVEN WITH THE SEED: THE CARDS: each row of YtbgmdolbeecpiaeDoorRows.lean that lists a variable, with what it lists TIED to the program's text (the seventh form; the later family's looks); each row that meets fmt, with fmt's text TOLD by the authors' own Lean function (tested against real Go, not proved from fmt's source: count such statements apart). THE CARD IS WHAT COUNTS. Prove the row's statement (the work); the ties are given (YtbgmdolbeecpiaeDoorTie.lean); close each card by the builder's one call (the guide's Derived/Test/ToyasCard.lean, 'card_holds'). Laid BY PROGRAM, IN A SANDBOX (cutbox-door.mjs). By AI agents, Wed Nov 11 2026. No macro, syntax, notation, axiom, sorry.
-/
import Derived.Test.YtbgmdolbeecpiaeDoorRows
import GoSem.ClaimSeven
namespace Go.Proofs.YtbgmdolbeecpiaeDoor
namespace Rows

/-- THE TIED CARD OF 'fairlaw4.EvenTimes'. -/
def evenTimesCard : Claim7 := { stood := { row := evenTimesRow, standIns := [], harness := (true, "46fa3136c0a2b990a473c515697595e1c161b361d64f189333c7399c31a80fdb"), looks := true }, kinds := [], alts := [], laidByText := true, laidKinds := [.handle], laidTests := true, laidLooks := .later }
def EvenTimesCardSaid : Prop := Claim7.holds Tryd.pinned (.plain (OpenSpec.ofChange evenTimesSpec)) evenTimesCard

/-- THE TIED CARD OF 'fairlaw1.AimdTells'. -/
def aimdTellsCard : Claim7 := { stood := { row := aimdTellsRow, standIns := [], harness := (true, "46fa3136c0a2b990a473c515697595e1c161b361d64f189333c7399c31a80fdb"), looks := true }, kinds := [], alts := [], laidByText := true, laidKinds := [.handle], laidTests := true, laidLooks := .later }
def AimdTellsCardSaid : Prop := Claim7.holds Tryd.pinned (.plain (OpenSpec.ofChange aimdTellsSpec)) aimdTellsCard

/-- THE TIED CARD OF 'fairlaw2.BucketTells'. -/
def bucketTellsCard : Claim7 := { stood := { row := bucketTellsRow, standIns := [], harness := (true, "46fa3136c0a2b990a473c515697595e1c161b361d64f189333c7399c31a80fdb"), looks := true }, kinds := [], alts := [], laidByText := true, laidKinds := [.handle], laidTests := true, laidLooks := .later }
def BucketTellsCardSaid : Prop := Claim7.holds Tryd.pinned (.plain (OpenSpec.ofChange bucketTellsSpec)) bucketTellsCard

/-- THE SECOND FORM's CARD OF 'fairlaw4.EvenTimes'. -/
def evenTimesUptoCard : Claim7 := { stood := { row := evenTimesUptoRow, standIns := [], harness := (true, "46fa3136c0a2b990a473c515697595e1c161b361d64f189333c7399c31a80fdb"), looks := true }, kinds := [], alts := [], laidByText := true, laidKinds := [.handle], laidTests := true, laidLooks := .later }
def EvenTimesUptoCardSaid : Prop := Claim7.holds Tryd.pinned (.plain (OpenSpec.upto evenTimesSpec)) evenTimesUptoCard

/-- THE SECOND FORM's CARD OF 'fairlaw1.AimdTells'. -/
def aimdTellsUptoCard : Claim7 := { stood := { row := aimdTellsUptoRow, standIns := [], harness := (true, "46fa3136c0a2b990a473c515697595e1c161b361d64f189333c7399c31a80fdb"), looks := true }, kinds := [], alts := [], laidByText := true, laidKinds := [.handle], laidTests := true, laidLooks := .later }
def AimdTellsUptoCardSaid : Prop := Claim7.holds Tryd.pinned (.plain (OpenSpec.upto aimdTellsSpec)) aimdTellsUptoCard

/-- THE SECOND FORM's CARD OF 'fairlaw2.BucketTells'. -/
def bucketTellsUptoCard : Claim7 := { stood := { row := bucketTellsUptoRow, standIns := [], harness := (true, "46fa3136c0a2b990a473c515697595e1c161b361d64f189333c7399c31a80fdb"), looks := true }, kinds := [], alts := [], laidByText := true, laidKinds := [.handle], laidTests := true, laidLooks := .later }
def BucketTellsUptoCardSaid : Prop := Claim7.holds Tryd.pinned (.plain (OpenSpec.upto bucketTellsSpec)) bucketTellsUptoCard
end Rows
end Go.Proofs.YtbgmdolbeecpiaeDoor
