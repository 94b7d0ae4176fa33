/- What is asked of package load's Fits, as the document says it. -/
import Derived.Test.YtdegbfgnbobgoacLdDef
import Derived.Test.YtdegbfgnbobgoacNetSaid
namespace Go.Proofs.Ytdegbfgnbobgoac
namespace Ld
open Go.RowKit Fr Ns

def FitsSaid : Prop := ∀ (Q : Nat → Prop) (caps : List Int) (paths : List (List Int)) (r : List (Int × Int)) (v x : Value) (w : World), NetAt Q w v caps paths → FracsAt Q w x r →
  Calls Try.prog 9 #[v, x] w fun e w' => e = .returned (.tuple #[.bool (decide (loadE caps paths r = 0) && fitsB caps paths r), errV (loadE caps paths r)]) ∧ Below w.heap.size w w'
end Ld
end Go.Proofs.Ytdegbfgnbobgoac
