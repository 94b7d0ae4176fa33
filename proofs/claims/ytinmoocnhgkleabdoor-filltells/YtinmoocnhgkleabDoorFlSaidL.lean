/- What is asked of package fill's Rounds, as the document says it. -/
import Derived.Test.YtinmoocnhgkleabDoorNetSaid
import Derived.Test.YtinmoocnhgkleabDoorPlains
namespace Go.Proofs.YtinmoocnhgkleabDoor
namespace Fl
open Go.RowKit Fr Ns Ld

def RoundsSaid : Prop := ∀ (Q : Nat → Prop) (caps : List Int) (paths : List (List Int)) (v : Value) (w : World), NetAt Q w v caps paths →
  Calls Tryd.prog 24 #[v] w fun e w' => ∃ y, e = .returned (.tuple #[y, errV (netE caps paths)]) ∧
    ListsAt (fun b => w.heap.size ≤ b) w' y (okL (netE caps paths) (fill caps paths).2) ∧ Below w.heap.size w w'
end Fl
end Go.Proofs.YtinmoocnhgkleabDoor
