/- The law LoadTells returns true for every net and rates: package load's calls answer as the document says. -/
import Derived.Test.YtmoeaaocpnoibabDoorLoadTellsB
import Derived.Test.YtmoeaaocpnoibabDoorLoadD
import Derived.Test.YtmoeaaocpnoibabDoorLoadE
namespace Go.Proofs.YtmoeaaocpnoibabDoor
namespace Ld
open Go.RowKit Fr Ns
theorem loadTells_walk (caps : List Int) (paths : List (List Int)) (r : List (Int × Int)) (v x : Value) (w : World)
    (hg : w.cell? ⟨0, 0, none⟩ = some handleV)
    (hv : NetAt (fun b => b < w.heap.size) w v caps paths) (hx : FracsAt (fun b => b < w.heap.size) w x r) :
    Calls Tryd.prog 4 #[v, x] w fun e w' => e = .returned (.bool true) ∧ Below w.heap.size w w' := by
  by_cases he : loadE caps paths r = 0
  · exact loadTells_right of_said fits_said left_said caps paths r v x w hg hv hx he
  · exact loadTells_fault of_said fits_said left_said caps paths r v x w hg hv hx he
end Ld
end Go.Proofs.YtmoeaaocpnoibabDoor
