/- What is asked of package fill's Rates, as the document says it. -/
import Derived.Test.YtdegbfgnbobgoacLdDef
import Derived.Test.YtdegbfgnbobgoacNetSaid
import Derived.Test.YtdegbfgnbobgoacPlains
namespace Go.Proofs.Ytdegbfgnbobgoac
namespace Fl
open Go.RowKit Fr Ns Ld

def RatesSaid : Prop := ∀ (Q : Nat → Prop) (caps : List Int) (paths : List (List Int)) (v : Value) (w : World), NetAt Q w v caps paths →
  Calls Try.prog 8 #[v] w fun e w' => ∃ y, e = .returned (.tuple #[y, errV (netE caps paths)]) ∧
    FracsAt (fun b => w.heap.size ≤ b) w' y (okL (netE caps paths) (fill caps paths).1) ∧ Below w.heap.size w w'
end Fl
end Go.Proofs.Ytdegbfgnbobgoac
