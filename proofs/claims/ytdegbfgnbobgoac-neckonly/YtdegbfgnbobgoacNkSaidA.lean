/- What is asked of package neck's Fair, as the document says it. -/
import Derived.Test.YtdegbfgnbobgoacLdDef
import Derived.Test.YtdegbfgnbobgoacNetSaid
import Derived.Test.YtdegbfgnbobgoacNkDef
namespace Go.Proofs.Ytdegbfgnbobgoac
namespace Fl
open Go.RowKit Fr Ns Ld

def NFairSaid : Prop := ∀ (Q : Nat → Prop) (caps : List Int) (paths : List (List Int)) (r : List (Int × Int)) (v x : Value) (w : World), NetAt Q w v caps paths → FracsAt Q w x r →
  Calls Try.prog 13 #[v, x] w fun e w' => e = .returned (.tuple #[.bool (decide (loadE caps paths r = 0) && fairB caps paths r), errV (loadE caps paths r)]) ∧ Below w.heap.size w w'
end Fl
end Go.Proofs.Ytdegbfgnbobgoac
